/-
  One Disk, or two, in a walk that began in the world W: what each call leaves.
-/
import Derived.Test.YtekleamkpfeifaaDoorDiskLaws
import Derived.Lib.SlBytesConst
namespace Go.Proofs.YtekleamkpfeifaaDoor
namespace Dk
open Go.RowKit

/-- A slice of bytes of the world W. -/
structure Was (W : World) (A : Option Addr) (n c : Nat) (ys : List Int) : Prop where
  row : NRow .u8 W A ys
  len : ys.length = n
  nil : A = none → c = 0
  room : n ≤ c ∧ c ≤ 9223372036854775807
  bytes : ByteList ys
/-- The Disk at p, in a walk that began in W: all that was there in W is as it was. -/
structure At (D : World → Nat → List Nat → DSt → Nat → Prop) (W w : World) (p : Nat) (fp : List Nat) (s : DSt) (m : Nat) : Prop where
  on : D w p fp s m
  old : Moved W w []
  new : ∀ k ∈ fp, W.heap.size ≤ k
theorem Was.now {W w : World} {A : Option Addr} {n c : Nat} {ys : List Int} (h : Was W A n c ys) (hM : Moved W w []) : NRow .u8 w A ys := nrowx_moved h.row hM (fun _ _ h => by cases h)
theorem Was.lent {W w : World} {A : Option Addr} {n c : Nat} {ys : List Int} (h : Was W A n c ys) (hM : Moved W w []) {fp : List Nat} (hn : ∀ k ∈ fp, W.heap.size ≤ k) : Lent w fp A n c ys :=
  ⟨h.now hM, h.len, h.nil, h.room, h.bytes, fun k hk hf => by have := h.row.ltX k hk; have := hn k hf; omega⟩
def Now (D : World → Nat → List Nat → DSt → Nat → Prop) (W : World) (p : Nat) (s : DSt) (m : Nat) (r0 : Value) (r : Ending) (w' : World) : Prop :=
  r = .returned r0 ∧ ∃ fp', At D W w' p fp' s m
theorem moved_on {W w w1 : World} {S T : List Nat} (h : Moved W w []) (hS : Step w w1 S T) (hn : ∀ k ∈ S, W.heap.size ≤ k) : Moved W w1 [] := h.trans hS.1 (fun k hk => .inr (hn k hk))
theorem new_on {W w w1 : World} {S T : List Nat} (h : Moved W w []) (hS : Step w w1 S T) (hn : ∀ k ∈ S, W.heap.size ≤ k) : ∀ k ∈ T, W.heap.size ≤ k := fun k hk => by
  rcases hS.2 k hk with h' | h'
  · exact hn k h'
  · exact Nat.le_trans h.size h'
section
variable {D : World → Nat → List Nat → DSt → Nat → Prop} {W w : World} {p : Nat} {fp : List Nat} {s s' : DSt} {m : Nat}
theorem At.step (h : At D W w p fp s m) {w1 : World} {f1 : List Nat} {s1 : DSt} {m1 : Nat} (h1 : D w1 p f1 s1 m1) (hS : Step w w1 fp f1) : At D W w1 p f1 s1 m1 :=
  ⟨h1, moved_on h.old hS h.new, new_on h.old hS h.new⟩
theorem At.does (h : At D W w p fp s m) {s1 : DSt} {m1 : Nat} {r0 : Value} {r : Ending} {w1 : World} (hd : Does D p fp s1 m1 r0 w r w1) : Now D W p s1 m1 r0 r w1 := by
  obtain ⟨rfl, f1, h1, hS⟩ := hd
  exact ⟨rfl, f1, h.step h1 hS⟩
variable (L : DLaws D)
include L
theorem At.new_ (W : World) : Calls Tryd.prog 11 #[] W fun r w' => ∃ p fp, r = .returned (.pointer (some ⟨p, 0, none⟩)) ∧ At D W w' p fp ⟨[], 0, false, none⟩ 0 :=
  (L.new W).mono fun r w' ⟨p, fp, hr, hD, hS⟩ => ⟨p, fp, hr, hD, hS.1, fun k hk => (hS.2 k hk).elim (fun h => by cases h) id⟩
theorem At.append_ {A : Option Addr} {n c : Nat} {ys : List Int} {e : Int} (h : At D W w p fp s m) (hY : Lent w fp A n c ys) (he : s.off = e) (hs : s.add ys = s') (hm : m + n ≤ 35184372088832) :
    Calls Tryd.prog 23 #[.pointer (some ⟨p, 0, none⟩), .slice A n c] w (Now D W p s' (m + n) (.int .i64 e)) := by
  subst he hs
  exact (L.append p fp s m A n c ys w h.on hY hm).mono fun _ _ hd => h.does hd
theorem At.append {A : Option Addr} {n c : Nat} {ys : List Int} {e : Int} (h : At D W w p fp s m) (hY : Was W A n c ys) (he : s.off = e) (hs : s.add ys = s') (hm : m + n ≤ 35184372088832) :
    Calls Tryd.prog 23 #[.pointer (some ⟨p, 0, none⟩), .slice A n c] w (Now D W p s' (m + n) (.int .i64 e)) :=
  h.append_ L (hY.lent h.old h.new) he hs hm
theorem At.swap {A : Option Addr} {n c : Nat} {ys : List Int} {e : Int} (h : At D W w p fp s m) (hY : Was W A n c ys) (hs : s.swap ys = (e, s')) (hm : m + n ≤ 35184372088832) :
    Calls Tryd.prog 47 #[.pointer (some ⟨p, 0, none⟩), .slice A n c] w (Now D W p s' (m + n) (.int .i64 e)) :=
  (L.swap p fp s m A n c ys w h.on (hY.lent h.old h.new) hm).mono fun _ _ hd => h.does (by rw [hs] at hd; exact hd)
theorem At.sync {e : Int} (h : At D W w p fp s m) (hs : s.sync = (e, s')) (hm : m ≤ 35184372088832) :
    Calls Tryd.prog 44 #[.pointer (some ⟨p, 0, none⟩)] w (Now D W p s' m (.int .i64 e)) :=
  (L.sync p fp s m w h.on hm).mono fun _ _ hd => h.does (by rw [hs] at hd; exact hd)
theorem At.cut {n e : Int} (h : At D W w p fp s m) (hs : s.cut n = (e, s')) (hm : m ≤ 35184372088832) (h0 : -9223372036854775808 ≤ n) (h1 : n ≤ 9223372036854775807) :
    Calls Tryd.prog 38 #[.pointer (some ⟨p, 0, none⟩), .int .i64 n] w (Now D W p s' m (.int .i64 e)) :=
  (L.cut p fp s m n w h.on hm h0 h1).mono fun _ _ hd => h.does (by rw [hs] at hd; exact hd)
theorem At.synced {k : Nat} (h : At D W w p fp s m) (hs : s.safe = k) (hm : m ≤ 35184372088832) :
    Calls Tryd.prog 39 #[.pointer (some ⟨p, 0, none⟩)] w (Now D W p s m (.int .i64 k)) := by
  subst hs
  exact (L.synced p fp s m w h.on hm).mono fun _ _ hd => h.does hd
theorem At.off {b : Bool} (h : At D W w p fp s m) (hs : s.dead = b) :
    Calls Tryd.prog 28 #[.pointer (some ⟨p, 0, none⟩)] w (Now D W p s m (.bool b)) := by
  subst hs
  exact (L.off p fp s m w h.on).mono fun _ _ hd => h.does hd
theorem At.trip {k : Int} (h : At D W w p fp s m) (hs : s.arm k = s') (h0 : -9223372036854775808 ≤ k) (h1 : k ≤ 9223372036854775807) :
    Calls Tryd.prog 19 #[.pointer (some ⟨p, 0, none⟩), .int .i64 k] w (Now D W p s' m (.tuple #[])) := by
  subst hs
  exact (L.trip p fp s m k w h.on h0 h1).mono fun _ _ hd => h.does hd
theorem At.crash {k : Int} (h : At D W w p fp s m) (hs : s.crash k = s') (hm : m ≤ 35184372088832) (h0 : -9223372036854775808 ≤ k) (h1 : k ≤ 9223372036854775807) :
    Calls Tryd.prog 21 #[.pointer (some ⟨p, 0, none⟩), .int .i64 k] w (Now D W p s' m (.tuple #[])) := by
  subst hs
  exact (L.crash p fp s m k w h.on hm h0 h1).mono fun _ _ hd => h.does hd
theorem At.start (h : At D W w p fp s m) (hs : s.start = s') (hm : m ≤ 35184372088832) :
    Calls Tryd.prog 34 #[.pointer (some ⟨p, 0, none⟩)] w (Now D W p s' m (.tuple #[])) := by
  subst hs
  exact (L.start p fp s m w h.on hm).mono fun _ _ hd => h.does hd
/-- What Read leaves: new bytes, and the Disk. -/
def ReadNow (D : World → Nat → List Nat → DSt → Nat → Prop) (W : World) (p : Nat) (s : DSt) (m : Nat) (out : List Int) (e : Int) (r : Ending) (w' : World) : Prop :=
  ∃ A c fp', r = .returned (.tuple #[.slice A out.length c, .int .i64 e]) ∧ TRow w' (.slice A out.length c) out.length out ∧ (A = none → c = 0) ∧ (out.length ≤ c ∧ c ≤ 9223372036854775807) ∧ (∀ k ∈ rowOf (.slice A out.length c), W.heap.size ≤ k ∧ k ∉ fp') ∧ At D W w' p fp' s m
theorem At.read {e : Int} {out : List Int} (h : At D W w p fp s m) (he : s.off = e) (ho : s.read = out) (hm : m ≤ 35184372088832) :
    Calls Tryd.prog 29 #[.pointer (some ⟨p, 0, none⟩)] w (ReadNow D W p s m out e) := by
  subst he ho
  refine (L.read p fp s m w h.on hm).mono ?_
  rintro r w' ⟨v, fp', rfl, hT, hn, hD, hS⟩
  obtain ⟨A, c, rfl, h1, h2⟩ := t_shape hT
  exact ⟨A, c, fp', rfl, hT, h1, h2, fun k hk => ⟨Nat.le_trans h.old.size (hn k hk).1, (hn k hk).2⟩, h.step hD hS⟩
end

/-- Rows are made, and written on: the Disk stays. -/
theorem At.beside {D : World → Nat → List Nat → DSt → Nat → Prop} (L : DLaws D) {W w w1 w2 : World} {p : Nat} {fp T U : List Nat} {s : DSt} {m : Nat} (h : At D W w p fp s m) (hS : Step w w1 [] T) (hS2 : Step w1 w2 T U) : At D W w2 p fp s m := by
  have hT : ∀ k ∈ T, w.heap.size ≤ k := fun k hk => (hS.2 k hk).elim (fun h => by cases h) id
  refine ⟨L.stays h.on (fun k hk => ?_), moved_on (moved_on h.old hS (fun _ h => by cases h)) hS2 (fun k hk => Nat.le_trans h.old.size (hT k hk)), h.new⟩
  have hl := L.lt h.on k hk
  rw [hS2.1.block k (Nat.lt_of_lt_of_le hl hS.1.size) (fun hm => by have := hT k hm; omega), hS.1.block k hl (by simp)]
theorem trow_beside {w w1 w2 : World} {v : Value} {n : Nat} {xs : List Int} {T U : List Nat} (h : TRow w v n xs) (hS : Step w w1 [] T) (hS2 : Step w1 w2 T U) : TRow w2 v n xs := by
  have hT : ∀ k ∈ T, w.heap.size ≤ k := fun k hk => (hS.2 k hk).elim (fun h => by cases h) id
  refine t_stays h fun k hk => ?_
  have hl := t_lt h k hk
  rw [hS2.1.block k (Nat.lt_of_lt_of_le hl hS.1.size) (fun hm => by have := hT k hm; omega), hS.1.block k hl (by simp)]
theorem At.drew {D : World → Nat → List Nat → DSt → Nat → Prop} (L : DLaws D) {W w : World} {p : Nat} {fp : List Nat} {s : DSt} {m : Nat} (h : At D W w p fp s m) : At D W w.drew p fp s m := ⟨L.stays h.on (fun _ _ => rfl), h.old.drew, h.new⟩
/-- A lent row of one byte, made from a text's constant. -/
theorem mark_lent {D : World → Nat → List Nat → DSt → Nat → Prop} (L : DLaws D) {w : World} {p m : Nat} {fp : List Nat} {s : DSt} {x : Int} (h : D w p fp s m) (e : TypeId) (hx : 0 ≤ x ∧ x ≤ 255) :
    Lent (w.alloc (.cells #[.int .u8 x] e (1, 2))) fp (some ⟨w.heap.size, 0, none⟩) 1 1 [x] := by
  refine ⟨fun i y hy => ?_, rfl, fun h => (by cases h), by omega, fun y hy => by simp at hy; omega, fun k hk hf => ?_⟩
  · rcases i with _ | i
    · simp at hy
      subst hy
      exact ⟨w.heap.size, 0, rfl, by rw [cell_of_row _ _ _ _ _ _ (heap_alloc_new w _)]; rfl⟩
    · simp at hy
  · have := L.lt h k hf
    have : k = w.heap.size := by simpa [rowX, eq_comm] using hk
    omega
theorem At.again {D : World → Nat → List Nat → DSt → Nat → Prop} (L : DLaws D) {W w : World} {p : Nat} {fp : List Nat} {s : DSt} {m : Nat} (h : At D W w p fp s m) (o : Obj) : At D W (w.alloc o) p fp s m :=
  ⟨L.stays h.on (fun k hk => Below.heap_alloc w o k (L.lt h.on k hk)), h.old.alloc o, h.new⟩
end Dk
end Go.Proofs.YtekleamkpfeifaaDoor
