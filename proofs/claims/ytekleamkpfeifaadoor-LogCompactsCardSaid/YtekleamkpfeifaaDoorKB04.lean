/-
  10 texts in one: TextPlain, TextRow, DiskLaws, DiskAt, DiskTwo, FrameLd, LogLaws, PackEnc, PackSt, PackStr.
-/
import Derived.Test.YtekleamkpfeifaaDoorKB00
import Derived.Laws.IdiomStrings
import Derived.Test.YtekleamkpfeifaaDoorKB03
import Derived.Test.YtekleamkpfeifaaDoorKB01
import Derived.Lib.SlBytesConst
import Derived.Test.YtekleamkpfeifaaDoorRows
import Derived.LaidHandle
import Derived.MakeChecks
import Derived.Lib.LaidTab
import Derived.Test.YtekleamkpfeifaaDoorKB02

/-
  A row of bytes of the call's own, whatever mark it bears behind its bytes (what '[]byte(s)' makes).
-/
namespace Go.Proofs.YtekleamkpfeifaaDoor
open Go.RowKit
/-- v is n bytes xs, in a block of the call's own (or nil); none of the bytes is frozen. -/
def TRow (w : World) (v : Value) (n : Nat) (xs : List Int) : Prop :=
  xs.length = n ∧ ((v = .slice none 0 0 ∧ n = 0) ∨
    ∃ g cap cur fz, v = .slice (some ⟨g, 0, none⟩) n cap ∧ w.heap[g]? = some (.cells cur 5 fz) ∧ (∀ j, j < n → (decide (fz.1 ≤ j) && decide (j < fz.2)) = false) ∧ n ≤ cap ∧ cap ≤ maxLen ∧ cur.size = cap ∧ cur.toList.take n = xs.map (Value.int .u8))
theorem TRow.of_own {w : World} {v : Value} {n : Nat} {xs : List Int} (h : w.ownsRow 0 5 1 v n (xs.map (Value.int .u8))) : TRow w v n xs := by
  refine ⟨own_len h, ?_⟩
  rcases h.2 with h2 | ⟨g, cap, cur, hv, _, hh, hc, hm, hs, ht⟩
  · exact .inl h2
  · exact .inr ⟨g, cap, cur, (0, 0), hv, hh, fun j _ => by simp, hc, hm, by simpa using hs, by simpa using ht⟩
theorem t_shape {w : World} {v : Value} {n : Nat} {xs : List Int} (h : TRow w v n xs) : ∃ A c, v = .slice A n c ∧ (A = none → c = 0) ∧ n ≤ c ∧ c ≤ 9223372036854775807 := by
  rcases h.2 with ⟨rfl, rfl⟩ | ⟨g, cap, cur, fz, rfl, _, _, hc, hm, _⟩
  · exact ⟨none, 0, rfl, fun _ => rfl, by omega, by omega⟩
  · exact ⟨_, _, rfl, (fun hA => by cases hA), hc, by unfold maxLen at hm; omega⟩
theorem t_stays {w w' : World} {v : Value} {n : Nat} {xs : List Int} (h : TRow w v n xs) (hk : ∀ k ∈ rowOf v, w'.heap[k]? = w.heap[k]?) : TRow w' v n xs := by
  refine ⟨h.1, ?_⟩
  rcases h.2 with h2 | ⟨g, cap, cur, fz, hv, hh, r⟩
  · exact .inl h2
  · exact .inr ⟨g, cap, cur, fz, hv, by rw [hk g (by subst hv; simp [mem_rowOf, Value.ownBlock])]; exact hh, r⟩
theorem t_lt {w : World} {v : Value} {n : Nat} {xs : List Int} (h : TRow w v n xs) : ∀ k ∈ rowOf v, k < w.heap.size := by
  intro k hk
  rcases h.2 with ⟨rfl, _⟩ | ⟨g, cap, cur, fz, rfl, hh, _⟩
  · simp [rowOf, Value.ownBlock] at hk
  · have : g = k := by simpa [mem_rowOf, Value.ownBlock] using hk
    subst this
    exact (Array.getElem?_eq_some_iff.1 hh).1
theorem TRow.nrow {w : World} {A : Option Addr} {n c : Nat} {xs : List Int} (h : TRow w (.slice A n c) n xs) : NRow .u8 w A xs := by
  intro i x hx
  rcases h.2 with ⟨hv, hn⟩ | ⟨g, cap, cur, fz, hv, hh, _, _, _, _, ht⟩
  · have := h.1
    subst hn
    have : xs = [] := List.length_eq_zero_iff.1 this
    subst this
    simp at hx
  · have hA : A = some ⟨g, 0, none⟩ := by injection hv
    refine ⟨g, 0, hA, ?_⟩
    have hi : (xs.map (Value.int .u8))[i]? = some (.int .u8 x) := by rw [List.getElem?_map, hx]; rfl
    rw [← ht, List.getElem?_take] at hi
    split at hi
    · rw [Nat.zero_add, cell_of_row w g i cur _ fz hh]; simpa using hi
    · cases hi
/-- What '[]byte(s)' makes is such a row. -/
theorem TRow.of_string (w : World) (s : ByteArray) (hs : s.size ≤ maxLen) : TRow (w.drew.alloc (.cells (bytesRow s (grownCap w s.size 0 5)) 5 ((bytesRow s (grownCap w s.size 0 5)).size, (bytesRow s (grownCap w s.size 0 5)).size + 1)))
    (.slice (some ⟨w.heap.size, 0, none⟩) s.size (grownCap w s.size 0 5)) s.size (s.data.toList.map fun b => (b.toNat : Int)) := by
  have hge := grownCap_ge w s.size 0 5
  have hle := grownCap_le_maxLen w s.size 0 5 hs
  have hsz : (bytesRow s (grownCap w s.size 0 5)).size = grownCap w s.size 0 5 := by
    have h0 : s.data.size = s.size := rfl
    simp [bytesRow]; omega
  refine ⟨by simp, .inr ⟨w.heap.size, _, _, _, rfl, heap_alloc_new w.drew _, ?_, hge, hle, hsz, ?_⟩⟩
  · intro j hj
    rw [hsz]
    simp only [Bool.and_eq_false_iff, decide_eq_false_iff_not]
    omega
  · have h0 : s.data.size = s.size := rfl
    simp [bytesRow, h0]

theorem t_cell {w : World} {g n c k : Nat} {ys : List Int} {y : Int} (h : TRow w (.slice (some ⟨g, 0, none⟩) n c) n ys) (hy : ys[k]? = some y) : w.cell? ⟨g, k, none⟩ = some (.int .u8 y) := by
  obtain ⟨b, off, e, hc⟩ := h.nrow k y hy
  injection e with e
  injection e with e1 e2
  subst e1 e2
  simpa using hc
theorem t_free {w : World} {g n c k : Nat} {ys : List Int} (h : TRow w (.slice (some ⟨g, 0, none⟩) n c) n ys) (hk : k < n) : w.frozen? ⟨g, k, none⟩ = false := by
  rcases h.2 with ⟨hv, _⟩ | ⟨g', cap, cur, fz, hv, hh, hz, _⟩
  · cases hv
  · injection hv with hA
    injection hA with hA
    injection hA with hA
    subst hA
    simp only [World.frozen?, hh]
    exact hz k hk
theorem t_set {w : World} {g n c k : Nat} {ys : List Int} (h : TRow w (.slice (some ⟨g, 0, none⟩) n c) n ys) (x : Int) : TRow (w.setCell ⟨g, k, none⟩ (.int .u8 x)) (.slice (some ⟨g, 0, none⟩) n c) n (ys.set k x) := by
  refine ⟨by simpa using h.1, ?_⟩
  rcases h.2 with ⟨hv, _⟩ | ⟨g', cap, cur, fz, hv, hh, hz, hc, hm, hs, ht⟩
  · cases hv
  · injection hv with hA h2 h3
    injection hA with hA
    injection hA with hA
    subst hA h3
    refine .inr ⟨g, c, cur.setIfInBounds k (.int .u8 x), fz, rfl, by simp [World.setCell, Array.getElem?_modify, hh], hz, hc, hm, by simpa using hs, ?_⟩
    rw [Array.toList_setIfInBounds, List.map_set, ← ht, List.take_set]
end Go.Proofs.YtekleamkpfeifaaDoor

/-
  A row of bytes of the call's own, whatever mark it bears behind its bytes (what '[]byte(s)' makes); CONTRACT of hansekeep.SpoilBytes over such a row.
-/
namespace Go.Proofs.YtekleamkpfeifaaDoor
open Go.RowKit

set_option maxRecDepth 100000 in
set_option maxHeartbeats 1000000 in
theorem tspoil_any (v : Value) (n : Nat) (xs : List Int) (w : World) (hown : TRow w v n xs) (hlen : n ≤ 70368744177664) :
    Calls Tryd.prog 27 #[v] w fun r w' => r = .returned (.tuple #[]) ∧ Moved w w' (rowOf v) := by
  rcases hown.2 with ⟨rfl, h0⟩ | ⟨g, cap, cur, fz, rfl, _⟩
  · clear hown
    go_enter Tryd.func27, Tryd.ntmps27
    go_wp2
    refine wp_loop_rounds 1 ?_
    rw [rounds_succ]
    go_wp2
    go_end0
    exact ⟨rfl, Moved.refl _ _⟩
  · have HO := Lib.hid hown
    have HL := Lib.hid hown.1
    clear hown
    go_enter Tryd.func27, Tryd.ntmps27
    go_wp2
    go_loopw [2] (fun i wr => ∃ (k : Nat) (ys : List Int), i = .int .i64 k ∧ k ≤ n ∧ Hid (ys.length = n) ∧ TRow wr (.slice (some ⟨g, 0, none⟩) n cap) n ys ∧ Moved w wr [g]) (fun i _ => n - (intOf i).toNat)
    case atStart => exact ⟨0, xs, rfl, by omega, HL.out, HO.out, Moved.refl _ _⟩
    case round =>
      obtain ⟨k, ys, rfl, hk, hl, hown, hM⟩ := hrel
      have HM := Lib.hid hM
      have HO2 := Lib.hid hown
      clear hM
      by_cases hlt : k < n
      · obtain ⟨y, hy⟩ : ∃ y, ys[k]? = some y := ⟨ys[k]'(by rw [hl.out]; exact hlt), List.getElem?_eq_getElem _⟩
        have hc := t_cell hown hy
        have hf := t_free hown hlt
        clear hown hy
        go_wp2
        go_roundw
        case rel => exact ⟨k + 1, _, by go_num, by omega, (List.length_set ..).trans hl.out, t_set HO2.out _, HM.out.setCell (p := ⟨g, k, none⟩) (.inl (by simp)) _⟩
        case measure => simp [intOf]; omega
      · clear hown
        go_wp2
        go_end0
        exact ⟨rfl, HM.out.mono (fun k hk => by simp at hk; subst hk; simp [mem_rowOf, Value.ownBlock])⟩
end Go.Proofs.YtekleamkpfeifaaDoor

/-
  What the statements' walks ask of the program's Disk.
  D w p fp s m: at block p stands a Disk in the state s that keeps at most m bytes; fp are its blocks.
-/
namespace Go.Proofs.YtekleamkpfeifaaDoor
namespace Dk
open Go.RowKit
/-- The Disk at p answers r0 and is then in the state s. -/
def Does (D : World → Nat → List Nat → DSt → Nat → Prop) (p : Nat) (fp : List Nat) (s : DSt) (m : Nat) (r0 : Value) (w : World) (r : Ending) (w' : World) : Prop :=
  r = .returned r0 ∧ ∃ fp', D w' p fp' s m ∧ Step w w' fp fp'
/-- Bytes that are lent: what they read as, and that they are none of the Disk's. -/
structure Lent (w : World) (fp : List Nat) (A : Option Addr) (n c : Nat) (ys : List Int) : Prop where
  row : NRow .u8 w A ys
  len : ys.length = n
  nil : A = none → c = 0
  room : n ≤ c ∧ c ≤ 9223372036854775807
  bytes : ByteList ys
  far : ∀ k ∈ rowX A ys, k ∉ fp
structure DLaws (D : World → Nat → List Nat → DSt → Nat → Prop) : Prop where
  stays : ∀ {w w' : World} {p : Nat} {fp : List Nat} {s : DSt} {m : Nat}, D w p fp s m → (∀ k ∈ fp, w'.heap[k]? = w.heap[k]?) → D w' p fp s m
  lt : ∀ {w : World} {p : Nat} {fp : List Nat} {s : DSt} {m : Nat}, D w p fp s m → ∀ k ∈ fp, k < w.heap.size
  fits : ∀ {w : World} {p : Nat} {fp : List Nat} {s : DSt} {m : Nat}, D w p fp s m → s.bs.length ≤ m
  bytes : ∀ {w : World} {p : Nat} {fp : List Nat} {s : DSt} {m : Nat}, D w p fp s m → ByteList s.bs
  ok : ∀ {w : World} {p : Nat} {fp : List Nat} {s : DSt} {m : Nat}, D w p fp s m → s.Ok
  new : ∀ (w : World), Calls Tryd.prog 11 #[] w fun r w' => ∃ p fp, r = .returned (.pointer (some ⟨p, 0, none⟩)) ∧ D w' p fp ⟨[], 0, false, none⟩ 0 ∧ Step w w' [] fp
  append : ∀ (p : Nat) (fp : List Nat) (s : DSt) (m : Nat) (A : Option Addr) (n c : Nat) (ys : List Int) (w : World), D w p fp s m → Lent w fp A n c ys → m + n ≤ 35184372088832 →
    Calls Tryd.prog 23 #[.pointer (some ⟨p, 0, none⟩), .slice A n c] w (Does D p fp (s.add ys) (m + n) (.int .i64 s.off) w)
  sync : ∀ (p : Nat) (fp : List Nat) (s : DSt) (m : Nat) (w : World), D w p fp s m → m ≤ 35184372088832 → Calls Tryd.prog 44 #[.pointer (some ⟨p, 0, none⟩)] w (Does D p fp s.sync.2 m (.int .i64 s.sync.1) w)
  cut : ∀ (p : Nat) (fp : List Nat) (s : DSt) (m : Nat) (n : Int) (w : World), D w p fp s m → m ≤ 35184372088832 → -9223372036854775808 ≤ n → n ≤ 9223372036854775807 →
    Calls Tryd.prog 38 #[.pointer (some ⟨p, 0, none⟩), .int .i64 n] w (Does D p fp (s.cut n).2 m (.int .i64 (s.cut n).1) w)
  swap : ∀ (p : Nat) (fp : List Nat) (s : DSt) (m : Nat) (A : Option Addr) (n c : Nat) (ys : List Int) (w : World), D w p fp s m → Lent w fp A n c ys → m + n ≤ 35184372088832 →
    Calls Tryd.prog 47 #[.pointer (some ⟨p, 0, none⟩), .slice A n c] w (Does D p fp (s.swap ys).2 (m + n) (.int .i64 (s.swap ys).1) w)
  read : ∀ (p : Nat) (fp : List Nat) (s : DSt) (m : Nat) (w : World), D w p fp s m → m ≤ 35184372088832 →
    Calls Tryd.prog 29 #[.pointer (some ⟨p, 0, none⟩)] w fun r w' => ∃ v fp', r = .returned (.tuple #[v, .int .i64 s.off]) ∧ TRow w' v s.read.length s.read ∧ (∀ k ∈ rowOf v, w.heap.size ≤ k ∧ k ∉ fp') ∧ D w' p fp' s m ∧ Step w w' fp fp'
  synced : ∀ (p : Nat) (fp : List Nat) (s : DSt) (m : Nat) (w : World), D w p fp s m → m ≤ 35184372088832 → Calls Tryd.prog 39 #[.pointer (some ⟨p, 0, none⟩)] w (Does D p fp s m (.int .i64 s.safe) w)
  off : ∀ (p : Nat) (fp : List Nat) (s : DSt) (m : Nat) (w : World), D w p fp s m → Calls Tryd.prog 28 #[.pointer (some ⟨p, 0, none⟩)] w (Does D p fp s m (.bool s.dead) w)
  trip : ∀ (p : Nat) (fp : List Nat) (s : DSt) (m : Nat) (k : Int) (w : World), D w p fp s m → -9223372036854775808 ≤ k → k ≤ 9223372036854775807 → Calls Tryd.prog 19 #[.pointer (some ⟨p, 0, none⟩), .int .i64 k] w (Does D p fp (s.arm k) m (.tuple #[]) w)
  crash : ∀ (p : Nat) (fp : List Nat) (s : DSt) (m : Nat) (k : Int) (w : World), D w p fp s m → m ≤ 35184372088832 → -9223372036854775808 ≤ k → k ≤ 9223372036854775807 → Calls Tryd.prog 21 #[.pointer (some ⟨p, 0, none⟩), .int .i64 k] w (Does D p fp (s.crash k) m (.tuple #[]) w)
  start : ∀ (p : Nat) (fp : List Nat) (s : DSt) (m : Nat) (w : World), D w p fp s m → m ≤ 35184372088832 → Calls Tryd.prog 34 #[.pointer (some ⟨p, 0, none⟩)] w (Does D p fp s.start m (.tuple #[]) w)
end Dk
end Go.Proofs.YtekleamkpfeifaaDoor

/-
  One Disk, or two, in a walk that began in the world W: what each call leaves.
-/
namespace Go.Proofs.YtekleamkpfeifaaDoor
namespace Dk
open Go.RowKit

/-- A slice of bytes of the world W. -/
structure Was (W : World) (A : Option Addr) (n c : Nat) (ys : List Int) : Prop where
  row : NRow .u8 W A ys
  len : ys.length = n
  nil : A = none → c = 0
  room : n ≤ c ∧ c ≤ 9223372036854775807
  bytes : ByteList ys
/-- The Disk at p, in a walk that began in W: all that was there in W is as it was. -/
structure At (D : World → Nat → List Nat → DSt → Nat → Prop) (W w : World) (p : Nat) (fp : List Nat) (s : DSt) (m : Nat) : Prop where
  on : D w p fp s m
  old : Moved W w []
  new : ∀ k ∈ fp, W.heap.size ≤ k
theorem Was.now {W w : World} {A : Option Addr} {n c : Nat} {ys : List Int} (h : Was W A n c ys) (hM : Moved W w []) : NRow .u8 w A ys := nrowx_moved h.row hM (fun _ _ h => by cases h)
theorem Was.lent {W w : World} {A : Option Addr} {n c : Nat} {ys : List Int} (h : Was W A n c ys) (hM : Moved W w []) {fp : List Nat} (hn : ∀ k ∈ fp, W.heap.size ≤ k) : Lent w fp A n c ys :=
  ⟨h.now hM, h.len, h.nil, h.room, h.bytes, fun k hk hf => by have := h.row.ltX k hk; have := hn k hf; omega⟩
def Now (D : World → Nat → List Nat → DSt → Nat → Prop) (W : World) (p : Nat) (s : DSt) (m : Nat) (r0 : Value) (r : Ending) (w' : World) : Prop :=
  r = .returned r0 ∧ ∃ fp', At D W w' p fp' s m
theorem moved_on {W w w1 : World} {S T : List Nat} (h : Moved W w []) (hS : Step w w1 S T) (hn : ∀ k ∈ S, W.heap.size ≤ k) : Moved W w1 [] := h.trans hS.1 (fun k hk => .inr (hn k hk))
theorem new_on {W w w1 : World} {S T : List Nat} (h : Moved W w []) (hS : Step w w1 S T) (hn : ∀ k ∈ S, W.heap.size ≤ k) : ∀ k ∈ T, W.heap.size ≤ k := fun k hk => by
  rcases hS.2 k hk with h' | h'
  · exact hn k h'
  · exact Nat.le_trans h.size h'
section
variable {D : World → Nat → List Nat → DSt → Nat → Prop} {W w : World} {p : Nat} {fp : List Nat} {s s' : DSt} {m : Nat}
theorem At.step (h : At D W w p fp s m) {w1 : World} {f1 : List Nat} {s1 : DSt} {m1 : Nat} (h1 : D w1 p f1 s1 m1) (hS : Step w w1 fp f1) : At D W w1 p f1 s1 m1 :=
  ⟨h1, moved_on h.old hS h.new, new_on h.old hS h.new⟩
theorem At.does (h : At D W w p fp s m) {s1 : DSt} {m1 : Nat} {r0 : Value} {r : Ending} {w1 : World} (hd : Does D p fp s1 m1 r0 w r w1) : Now D W p s1 m1 r0 r w1 := by
  obtain ⟨rfl, f1, h1, hS⟩ := hd
  exact ⟨rfl, f1, h.step h1 hS⟩
variable (L : DLaws D)
include L
theorem At.new_ (W : World) : Calls Tryd.prog 11 #[] W fun r w' => ∃ p fp, r = .returned (.pointer (some ⟨p, 0, none⟩)) ∧ At D W w' p fp ⟨[], 0, false, none⟩ 0 :=
  (L.new W).mono fun r w' ⟨p, fp, hr, hD, hS⟩ => ⟨p, fp, hr, hD, hS.1, fun k hk => (hS.2 k hk).elim (fun h => by cases h) id⟩
theorem At.append_ {A : Option Addr} {n c : Nat} {ys : List Int} {e : Int} (h : At D W w p fp s m) (hY : Lent w fp A n c ys) (he : s.off = e) (hs : s.add ys = s') (hm : m + n ≤ 35184372088832) :
    Calls Tryd.prog 23 #[.pointer (some ⟨p, 0, none⟩), .slice A n c] w (Now D W p s' (m + n) (.int .i64 e)) := by
  subst he hs
  exact (L.append p fp s m A n c ys w h.on hY hm).mono fun _ _ hd => h.does hd
theorem At.append {A : Option Addr} {n c : Nat} {ys : List Int} {e : Int} (h : At D W w p fp s m) (hY : Was W A n c ys) (he : s.off = e) (hs : s.add ys = s') (hm : m + n ≤ 35184372088832) :
    Calls Tryd.prog 23 #[.pointer (some ⟨p, 0, none⟩), .slice A n c] w (Now D W p s' (m + n) (.int .i64 e)) :=
  h.append_ L (hY.lent h.old h.new) he hs hm
theorem At.swap {A : Option Addr} {n c : Nat} {ys : List Int} {e : Int} (h : At D W w p fp s m) (hY : Was W A n c ys) (hs : s.swap ys = (e, s')) (hm : m + n ≤ 35184372088832) :
    Calls Tryd.prog 47 #[.pointer (some ⟨p, 0, none⟩), .slice A n c] w (Now D W p s' (m + n) (.int .i64 e)) :=
  (L.swap p fp s m A n c ys w h.on (hY.lent h.old h.new) hm).mono fun _ _ hd => h.does (by rw [hs] at hd; exact hd)
theorem At.sync {e : Int} (h : At D W w p fp s m) (hs : s.sync = (e, s')) (hm : m ≤ 35184372088832) :
    Calls Tryd.prog 44 #[.pointer (some ⟨p, 0, none⟩)] w (Now D W p s' m (.int .i64 e)) :=
  (L.sync p fp s m w h.on hm).mono fun _ _ hd => h.does (by rw [hs] at hd; exact hd)
theorem At.cut {n e : Int} (h : At D W w p fp s m) (hs : s.cut n = (e, s')) (hm : m ≤ 35184372088832) (h0 : -9223372036854775808 ≤ n) (h1 : n ≤ 9223372036854775807) :
    Calls Tryd.prog 38 #[.pointer (some ⟨p, 0, none⟩), .int .i64 n] w (Now D W p s' m (.int .i64 e)) :=
  (L.cut p fp s m n w h.on hm h0 h1).mono fun _ _ hd => h.does (by rw [hs] at hd; exact hd)
theorem At.synced {k : Nat} (h : At D W w p fp s m) (hs : s.safe = k) (hm : m ≤ 35184372088832) :
    Calls Tryd.prog 39 #[.pointer (some ⟨p, 0, none⟩)] w (Now D W p s m (.int .i64 k)) := by
  subst hs
  exact (L.synced p fp s m w h.on hm).mono fun _ _ hd => h.does hd
theorem At.off {b : Bool} (h : At D W w p fp s m) (hs : s.dead = b) :
    Calls Tryd.prog 28 #[.pointer (some ⟨p, 0, none⟩)] w (Now D W p s m (.bool b)) := by
  subst hs
  exact (L.off p fp s m w h.on).mono fun _ _ hd => h.does hd
theorem At.trip {k : Int} (h : At D W w p fp s m) (hs : s.arm k = s') (h0 : -9223372036854775808 ≤ k) (h1 : k ≤ 9223372036854775807) :
    Calls Tryd.prog 19 #[.pointer (some ⟨p, 0, none⟩), .int .i64 k] w (Now D W p s' m (.tuple #[])) := by
  subst hs
  exact (L.trip p fp s m k w h.on h0 h1).mono fun _ _ hd => h.does hd
theorem At.crash {k : Int} (h : At D W w p fp s m) (hs : s.crash k = s') (hm : m ≤ 35184372088832) (h0 : -9223372036854775808 ≤ k) (h1 : k ≤ 9223372036854775807) :
    Calls Tryd.prog 21 #[.pointer (some ⟨p, 0, none⟩), .int .i64 k] w (Now D W p s' m (.tuple #[])) := by
  subst hs
  exact (L.crash p fp s m k w h.on hm h0 h1).mono fun _ _ hd => h.does hd
theorem At.start (h : At D W w p fp s m) (hs : s.start = s') (hm : m ≤ 35184372088832) :
    Calls Tryd.prog 34 #[.pointer (some ⟨p, 0, none⟩)] w (Now D W p s' m (.tuple #[])) := by
  subst hs
  exact (L.start p fp s m w h.on hm).mono fun _ _ hd => h.does hd
/-- What Read leaves: new bytes, and the Disk. -/
def ReadNow (D : World → Nat → List Nat → DSt → Nat → Prop) (W : World) (p : Nat) (s : DSt) (m : Nat) (out : List Int) (e : Int) (r : Ending) (w' : World) : Prop :=
  ∃ A c fp', r = .returned (.tuple #[.slice A out.length c, .int .i64 e]) ∧ TRow w' (.slice A out.length c) out.length out ∧ (A = none → c = 0) ∧ (out.length ≤ c ∧ c ≤ 9223372036854775807) ∧ (∀ k ∈ rowOf (.slice A out.length c), W.heap.size ≤ k ∧ k ∉ fp') ∧ At D W w' p fp' s m
theorem At.read {e : Int} {out : List Int} (h : At D W w p fp s m) (he : s.off = e) (ho : s.read = out) (hm : m ≤ 35184372088832) :
    Calls Tryd.prog 29 #[.pointer (some ⟨p, 0, none⟩)] w (ReadNow D W p s m out e) := by
  subst he ho
  refine (L.read p fp s m w h.on hm).mono ?_
  rintro r w' ⟨v, fp', rfl, hT, hn, hD, hS⟩
  obtain ⟨A, c, rfl, h1, h2⟩ := t_shape hT
  exact ⟨A, c, fp', rfl, hT, h1, h2, fun k hk => ⟨Nat.le_trans h.old.size (hn k hk).1, (hn k hk).2⟩, h.step hD hS⟩
end

/-- Rows are made, and written on: the Disk stays. -/
theorem At.beside {D : World → Nat → List Nat → DSt → Nat → Prop} (L : DLaws D) {W w w1 w2 : World} {p : Nat} {fp T U : List Nat} {s : DSt} {m : Nat} (h : At D W w p fp s m) (hS : Step w w1 [] T) (hS2 : Step w1 w2 T U) : At D W w2 p fp s m := by
  have hT : ∀ k ∈ T, w.heap.size ≤ k := fun k hk => (hS.2 k hk).elim (fun h => by cases h) id
  refine ⟨L.stays h.on (fun k hk => ?_), moved_on (moved_on h.old hS (fun _ h => by cases h)) hS2 (fun k hk => Nat.le_trans h.old.size (hT k hk)), h.new⟩
  have hl := L.lt h.on k hk
  rw [hS2.1.block k (Nat.lt_of_lt_of_le hl hS.1.size) (fun hm => by have := hT k hm; omega), hS.1.block k hl (by simp)]
theorem trow_beside {w w1 w2 : World} {v : Value} {n : Nat} {xs : List Int} {T U : List Nat} (h : TRow w v n xs) (hS : Step w w1 [] T) (hS2 : Step w1 w2 T U) : TRow w2 v n xs := by
  have hT : ∀ k ∈ T, w.heap.size ≤ k := fun k hk => (hS.2 k hk).elim (fun h => by cases h) id
  refine t_stays h fun k hk => ?_
  have hl := t_lt h k hk
  rw [hS2.1.block k (Nat.lt_of_lt_of_le hl hS.1.size) (fun hm => by have := hT k hm; omega), hS.1.block k hl (by simp)]
theorem At.drew {D : World → Nat → List Nat → DSt → Nat → Prop} (L : DLaws D) {W w : World} {p : Nat} {fp : List Nat} {s : DSt} {m : Nat} (h : At D W w p fp s m) : At D W w.drew p fp s m := ⟨L.stays h.on (fun _ _ => rfl), h.old.drew, h.new⟩
/-- A lent row of one byte, made from a text's constant. -/
theorem mark_lent {D : World → Nat → List Nat → DSt → Nat → Prop} (L : DLaws D) {w : World} {p m : Nat} {fp : List Nat} {s : DSt} {x : Int} (h : D w p fp s m) (e : TypeId) (hx : 0 ≤ x ∧ x ≤ 255) :
    Lent (w.alloc (.cells #[.int .u8 x] e (1, 2))) fp (some ⟨w.heap.size, 0, none⟩) 1 1 [x] := by
  refine ⟨fun i y hy => ?_, rfl, fun h => (by cases h), by omega, fun y hy => by simp at hy; omega, fun k hk hf => ?_⟩
  · rcases i with _ | i
    · simp at hy
      subst hy
      exact ⟨w.heap.size, 0, rfl, by rw [cell_of_row _ _ _ _ _ _ (heap_alloc_new w _)]; rfl⟩
    · simp at hy
  · have := L.lt h k hf
    have : k = w.heap.size := by simpa [rowX, eq_comm] using hk
    omega
theorem At.again {D : World → Nat → List Nat → DSt → Nat → Prop} (L : DLaws D) {W w : World} {p : Nat} {fp : List Nat} {s : DSt} {m : Nat} (h : At D W w p fp s m) (o : Obj) : At D W (w.alloc o) p fp s m :=
  ⟨L.stays h.on (fun k hk => Below.heap_alloc w o k (L.lt h.on k hk)), h.old.alloc o, h.new⟩
end Dk
end Go.Proofs.YtekleamkpfeifaaDoor

/-
  Two objects side by side in a walk that began in the world W: a Disk, and another thing that is told by the same words (a Disk, or the page's).
-/
namespace Go.Proofs.YtekleamkpfeifaaDoor
namespace Dk
open Go.RowKit
/-- What stays where its blocks stay. -/
structure Stays (E : World → Nat → List Nat → DSt → Nat → Prop) : Prop where
  stays : ∀ {w w' : World} {p : Nat} {fp : List Nat} {s : DSt} {m : Nat}, E w p fp s m → (∀ k ∈ fp, w'.heap[k]? = w.heap[k]?) → E w' p fp s m
  lt : ∀ {w : World} {p : Nat} {fp : List Nat} {s : DSt} {m : Nat}, E w p fp s m → ∀ k ∈ fp, k < w.heap.size
theorem DLaws.still {D : World → Nat → List Nat → DSt → Nat → Prop} (L : DLaws D) : Stays D := ⟨L.stays, L.lt⟩
structure At2 (D E : World → Nat → List Nat → DSt → Nat → Prop) (W w : World) (p : Nat) (fp : List Nat) (s : DSt) (m : Nat) (q : Nat) (fq : List Nat) (t : DSt) (km : Nat) : Prop where
  a : At D W w p fp s m
  b : At E W w q fq t km
  apart : ∀ k ∈ fp, k ∉ fq
def Now2 (D E : World → Nat → List Nat → DSt → Nat → Prop) (W : World) (p : Nat) (s : DSt) (m : Nat) (q : Nat) (fq : List Nat) (t : DSt) (km : Nat) (r0 : Value) (r : Ending) (w' : World) : Prop :=
  r = .returned r0 ∧ ∃ fp', At2 D E W w' p fp' s m q fq t km
theorem At2.flip {D E : World → Nat → List Nat → DSt → Nat → Prop} {W w : World} {p : Nat} {fp : List Nat} {s : DSt} {m : Nat} {q : Nat} {fq : List Nat} {t : DSt} {km : Nat} (h : At2 D E W w p fp s m q fq t km) : At2 E D W w q fq t km p fp s m :=
  ⟨h.b, h.a, fun k hk hf => h.apart k hf hk⟩
theorem At.keeps {E : World → Nat → List Nat → DSt → Nat → Prop} (O : Stays E) {W w w1 : World} {q : Nat} {fq S T : List Nat} {t : DSt} {km : Nat} (h : At E W w q fq t km) (hS : Step w w1 S T) (hn : ∀ k ∈ S, W.heap.size ≤ k) (hd : ∀ k ∈ S, k ∉ fq) : At E W w1 q fq t km :=
  ⟨O.stays h.on (fun k hk => hS.1.block k (O.lt h.on k hk) (fun hm => hd k hm hk)), moved_on h.old hS hn, h.new⟩
section
variable {D E : World → Nat → List Nat → DSt → Nat → Prop} {W w : World} {p : Nat} {fp : List Nat} {s s' : DSt} {m : Nat} {q : Nat} {fq : List Nat} {t : DSt} {km : Nat}
theorem At2.step (O : Stays E) (h : At2 D E W w p fp s m q fq t km) {w1 : World} {f1 : List Nat} {s1 : DSt} {m1 : Nat} (h1 : D w1 p f1 s1 m1) (hS : Step w w1 fp f1) : At2 D E W w1 p f1 s1 m1 q fq t km :=
  ⟨h.a.step h1 hS, h.b.keeps O hS h.a.new h.apart, fun k hk hf => by
    rcases hS.2 k hk with h' | h'
    · exact h.apart k h' hf
    · have := O.lt h.b.on k hf; omega⟩
theorem At2.does (O : Stays E) (h : At2 D E W w p fp s m q fq t km) {s1 : DSt} {m1 : Nat} {r0 : Value} {r : Ending} {w1 : World} (hd : Does D p fp s1 m1 r0 w r w1) : Now2 D E W p s1 m1 q fq t km r0 r w1 := by
  obtain ⟨rfl, f1, h1, hS⟩ := hd
  exact ⟨rfl, f1, h.step O h1 hS⟩
variable (L : DLaws D) (O : Stays E)
include L O in
/-- A second Disk. -/
theorem At.second (h : At E W w q fq t km) : Calls Tryd.prog 11 #[] w fun r w' => ∃ p fp, r = .returned (.pointer (some ⟨p, 0, none⟩)) ∧ At2 D E W w' p fp ⟨[], 0, false, none⟩ 0 q fq t km :=
  (L.new w).mono fun r w' ⟨p, fp, hr, hD, hS⟩ => by
    have hn : ∀ k ∈ fp, w.heap.size ≤ k := fun k hk => (hS.2 k hk).elim (fun h => by cases h) id
    exact ⟨p, fp, hr, ⟨hD, moved_on h.old hS (fun _ h => by cases h), fun k hk => Nat.le_trans h.old.size (hn k hk)⟩, h.keeps O hS (fun _ h => by cases h) (fun _ h => by cases h), fun k hk hf => by have := hn k hk; have := O.lt h.on k hf; omega⟩
include L O
theorem At2.append_ {A : Option Addr} {n c : Nat} {ys : List Int} {e : Int} (h : At2 D E W w p fp s m q fq t km) (hY : Lent w fp A n c ys) (he : s.off = e) (hs : s.add ys = s') (hm : m + n ≤ 35184372088832) :
    Calls Tryd.prog 23 #[.pointer (some ⟨p, 0, none⟩), .slice A n c] w (Now2 D E W p s' (m + n) q fq t km (.int .i64 e)) := by
  subst he hs
  exact (L.append p fp s m A n c ys w h.a.on hY hm).mono fun _ _ hd => h.does O hd
theorem At2.append {A : Option Addr} {n c : Nat} {ys : List Int} {e : Int} (h : At2 D E W w p fp s m q fq t km) (hY : Was W A n c ys) (he : s.off = e) (hs : s.add ys = s') (hm : m + n ≤ 35184372088832) :
    Calls Tryd.prog 23 #[.pointer (some ⟨p, 0, none⟩), .slice A n c] w (Now2 D E W p s' (m + n) q fq t km (.int .i64 e)) :=
  h.append_ L O (hY.lent h.a.old h.a.new) he hs hm
theorem At2.swap {A : Option Addr} {n c : Nat} {ys : List Int} {e : Int} (h : At2 D E W w p fp s m q fq t km) (hY : Was W A n c ys) (hs : s.swap ys = (e, s')) (hm : m + n ≤ 35184372088832) :
    Calls Tryd.prog 47 #[.pointer (some ⟨p, 0, none⟩), .slice A n c] w (Now2 D E W p s' (m + n) q fq t km (.int .i64 e)) :=
  (L.swap p fp s m A n c ys w h.a.on (hY.lent h.a.old h.a.new) hm).mono fun _ _ hd => h.does O (by rw [hs] at hd; exact hd)
theorem At2.sync {e : Int} (h : At2 D E W w p fp s m q fq t km) (hs : s.sync = (e, s')) (hm : m ≤ 35184372088832) :
    Calls Tryd.prog 44 #[.pointer (some ⟨p, 0, none⟩)] w (Now2 D E W p s' m q fq t km (.int .i64 e)) :=
  (L.sync p fp s m w h.a.on hm).mono fun _ _ hd => h.does O (by rw [hs] at hd; exact hd)
theorem At2.cut {n e : Int} (h : At2 D E W w p fp s m q fq t km) (hs : s.cut n = (e, s')) (hm : m ≤ 35184372088832) (h0 : -9223372036854775808 ≤ n) (h1 : n ≤ 9223372036854775807) :
    Calls Tryd.prog 38 #[.pointer (some ⟨p, 0, none⟩), .int .i64 n] w (Now2 D E W p s' m q fq t km (.int .i64 e)) :=
  (L.cut p fp s m n w h.a.on hm h0 h1).mono fun _ _ hd => h.does O (by rw [hs] at hd; exact hd)
theorem At2.synced {k : Nat} (h : At2 D E W w p fp s m q fq t km) (hs : s.safe = k) (hm : m ≤ 35184372088832) :
    Calls Tryd.prog 39 #[.pointer (some ⟨p, 0, none⟩)] w (Now2 D E W p s m q fq t km (.int .i64 k)) := by
  subst hs
  exact (L.synced p fp s m w h.a.on hm).mono fun _ _ hd => h.does O hd
theorem At2.off {b : Bool} (h : At2 D E W w p fp s m q fq t km) (hs : s.dead = b) :
    Calls Tryd.prog 28 #[.pointer (some ⟨p, 0, none⟩)] w (Now2 D E W p s m q fq t km (.bool b)) := by
  subst hs
  exact (L.off p fp s m w h.a.on).mono fun _ _ hd => h.does O hd
theorem At2.trip {k : Int} (h : At2 D E W w p fp s m q fq t km) (hs : s.arm k = s') (h0 : -9223372036854775808 ≤ k) (h1 : k ≤ 9223372036854775807) :
    Calls Tryd.prog 19 #[.pointer (some ⟨p, 0, none⟩), .int .i64 k] w (Now2 D E W p s' m q fq t km (.tuple #[])) := by
  subst hs
  exact (L.trip p fp s m k w h.a.on h0 h1).mono fun _ _ hd => h.does O hd
theorem At2.crash {k : Int} (h : At2 D E W w p fp s m q fq t km) (hs : s.crash k = s') (hm : m ≤ 35184372088832) (h0 : -9223372036854775808 ≤ k) (h1 : k ≤ 9223372036854775807) :
    Calls Tryd.prog 21 #[.pointer (some ⟨p, 0, none⟩), .int .i64 k] w (Now2 D E W p s' m q fq t km (.tuple #[])) := by
  subst hs
  exact (L.crash p fp s m k w h.a.on hm h0 h1).mono fun _ _ hd => h.does O hd
theorem At2.start (h : At2 D E W w p fp s m q fq t km) (hs : s.start = s') (hm : m ≤ 35184372088832) :
    Calls Tryd.prog 34 #[.pointer (some ⟨p, 0, none⟩)] w (Now2 D E W p s' m q fq t km (.tuple #[])) := by
  subst hs
  exact (L.start p fp s m w h.a.on hm).mono fun _ _ hd => h.does O hd
/-- What Read leaves: new bytes, and both. -/
def ReadNow2 (D E : World → Nat → List Nat → DSt → Nat → Prop) (W w : World) (p : Nat) (fp : List Nat) (s : DSt) (m : Nat) (q : Nat) (fq : List Nat) (t : DSt) (km : Nat) (out : List Int) (e : Int) (r : Ending) (w' : World) : Prop :=
  ∃ A c fp', r = .returned (.tuple #[.slice A out.length c, .int .i64 e]) ∧ TRow w' (.slice A out.length c) out.length out ∧ (A = none → c = 0) ∧ (out.length ≤ c ∧ c ≤ 9223372036854775807) ∧ (∀ k ∈ rowOf (.slice A out.length c), W.heap.size ≤ k ∧ k ∉ fp' ∧ k ∉ fq) ∧ At2 D E W w' p fp' s m q fq t km ∧ Moved w w' fp
theorem At2.read {e : Int} {out : List Int} (h : At2 D E W w p fp s m q fq t km) (he : s.off = e) (ho : s.read = out) (hm : m ≤ 35184372088832) :
    Calls Tryd.prog 29 #[.pointer (some ⟨p, 0, none⟩)] w (ReadNow2 D E W w p fp s m q fq t km out e) := by
  subst he ho
  refine (L.read p fp s m w h.a.on hm).mono ?_
  rintro r w' ⟨v, fp', rfl, hT, hn, hD, hS⟩
  obtain ⟨A, c, rfl, h1, h2⟩ := t_shape hT
  exact ⟨A, c, fp', rfl, hT, h1, h2, fun k hk => ⟨Nat.le_trans h.a.old.size (hn k hk).1, (hn k hk).2, fun hf => by have := O.lt h.b.on k hf; have := (hn k hk).1; omega⟩, h.step O hD hS, hS.1⟩
end
end Dk
end Go.Proofs.YtekleamkpfeifaaDoor

/-
  The table of package frame: what it holds when a call begins; that a call which moves no such block keeps it. Four bits of the register at a time.
-/
namespace Go.Proofs.YtekleamkpfeifaaDoor
namespace Fr
open Go.RowKit
def shiftTab : List Int := [0, 274646895, 549293790, 820201905, 1098587580, 1361435347, 1640403810, 1905808397, 2197175160, 2460548119, 2722870694, 2987750089, 3280807620, 3553878443, 3811616794, 4084100981]
/-- The table lies where it lay. -/
def Ld (w : World) : Prop := ∀ (i : Nat) (x : Int), shiftTab[i]? = some x → w.cell? ⟨0, i, none⟩ = some (.int .u32 x)
theorem Ld.moves {w w' : World} {S : List Nat} (h : Ld w) (hM : Moved w w' S) (hS : 0 ∉ S) : Ld w' := by
  intro i x hx
  have hc := h i x hx
  rw [World.cell?_of_block (w := w) (hM.block _ (World.block_lt_of_cell? w _ hc) hS)]
  exact hc
theorem Ld.moved {w w' : World} (h : Ld w) (hM : Moved w w' []) : Ld w' := h.moves hM (fun h => by cases h)
theorem Ld.alloc {w : World} (h : Ld w) (o : Obj) : Ld (w.alloc o) := h.moved ((Moved.refl w []).alloc o)
theorem Ld.drewN {w : World} (h : Ld w) (n : Nat) : Ld (w.drewN n) := h.moved ((Moved.refl w []).drewN n)
/-- What the statement's condition tells. -/
theorem ld_of {W : World} (h : laidMetH Tryd.prog [("hanse/frame.shifted", Rows.laid_hanse_frame_shifted)] W) : Ld W := by
  rw [MakeChecks.laidMetH_plain _ _ _ (by kernel_rfl)] at h
  have ht : Lib.TabIs Tryd.prog W "hanse/frame.shifted" .u32 shiftTab := Lib.tabIs_of_head (t := 90) (e := 79) (n := 16) (rest := []) (g := 0) (by kernel_rfl) (by kernel_rfl) Tryd.underlying90 Tryd.underlying79 (by kernel_rfl) (by kernel_rfl) h
  intro i x hx
  obtain ⟨hi, hx⟩ := List.getElem?_eq_some_iff.1 hx
  have hc := ht.cell (g := 0) (by kernel_rfl) i hi
  rw [hc, List.getD_eq_getElem?_getD, List.getElem?_eq_getElem hi, hx]
  rfl
theorem tab_at : ∀ i, i < 16 → shiftTab[i]? = some (((ticks 4 i : Nat) : Int)) := by decide
theorem bits_part (r : Nat) : (r / 16 * 2 ^ 4) ^^^ (r % 16) = r := by
  apply Nat.eq_of_testBit_eq
  intro i
  rw [Nat.testBit_xor, Nat.testBit_mul_two_pow, show r % 16 = r % 2 ^ 4 from rfl, Nat.testBit_mod_two_pow, show r / 16 = r / 2 ^ 4 from rfl, Nat.testBit_div_two_pow]
  by_cases h : 4 ≤ i
  · rw [show i - 4 + 4 = i by omega]; simp [h, show ¬ i < 4 by omega]
  · simp [h, show i < 4 by omega]
theorem ticks_four (r : Nat) : ticks 4 r = (r / 16) ^^^ ticks 4 (r % 16) := by
  conv => lhs; rw [← bits_part r, ticks_xor, ticks_shift]
end Fr
end Go.Proofs.YtekleamkpfeifaaDoor

/-
  What the statements' walks ask of the program's Log.
  G w l p fl sn rs m: at block l stands a Log that keeps the Disk at block p and tells the snapshot sn and the records rs, of at most m bytes with their frames; fl are its blocks.
-/
namespace Go.Proofs.YtekleamkpfeifaaDoor
namespace Lg
open Go.RowKit Dk Fr
/-- New rows of bytes, apart from each other, whatever marks they bear; fr are their blocks. -/
def TRows (w : World) (v : Value) (ps : List (List Int)) (fr : List Nat) : Prop :=
  ∃ (A : Option Addr) (c : Nat) (vs : List Value), v = .slice A ps.length c ∧ VRow w A vs ∧ vs.length = ps.length ∧ (A = none → c = 0) ∧ (ps.length ≤ c ∧ c ≤ 9223372036854775807) ∧
    (∀ (i : Nat) (u : Value) (p : List Int), vs[i]? = some u → ps[i]? = some p → TRow w u p.length p) ∧ (∀ b ∈ rowOf v, b ∈ fr) ∧ (∀ b ∈ partsOf vs, b ∈ fr) ∧ (∀ b ∈ fr, b < w.heap.size) ∧
    (∀ b ∈ rowOf v, b ∉ partsOf vs) ∧ (∀ (i j : Nat) (u x : Value), i ≠ j → vs[i]? = some u → vs[j]? = some x → ∀ k ∈ rowOf u, k ∉ rowOf x)
theorem TRow.bites {w : World} {u : Value} {p : List Int} (h : TRow w u p.length p) : Bites w u p := by
  obtain ⟨A, c, rfl, h1, h2⟩ := t_shape h
  exact ⟨A, c, rfl, h.nrow, h1, h2⟩
theorem bites_row {u : Value} {p : List Int} {b : Nat} (h : b ∈ bitesOf u p) : b ∈ rowOf u := by
  cases u with
  | slice A n c => exact rowX_rowOf h
  | _ => cases h
/-- What such rows read as. -/
theorem TRows.reads {w : World} {v : Value} {ps : List (List Int)} {fr : List Nat} (h : TRows w v ps fr) : ∃ A c vs, v = .slice A ps.length c ∧ BRows w A vs ps ∧ (A = none → c = 0) ∧ (ps.length ≤ c ∧ c ≤ 9223372036854775807) ∧ ∀ b ∈ rowsOf A vs ps, b ∈ fr := by
  obtain ⟨A, c, vs, rfl, hv, hl, hn, hc, he, h1, h2, -⟩ := h
  refine ⟨A, c, vs, rfl, ⟨hv, hl, fun i u p hu hp => TRow.bites (he i u p hu hp)⟩, hn, hc, fun b hb => ?_⟩
  unfold rowsOf at hb
  rcases List.mem_append.1 hb with hb | hb
  · rcases A with _ | a
    · cases hb
    · rcases vs with _ | ⟨u, t⟩
      · cases hb
      · simp at hb
        exact h1 b (by simp [mem_rowOf, Value.ownBlock, hb])
  · obtain ⟨x, hx, hb⟩ := List.mem_flatten.1 hb
    obtain ⟨i, hi, rfl⟩ := List.mem_iff_getElem.1 hx
    rw [List.length_zipWith] at hi
    rw [List.getElem_zipWith] at hb
    exact h2 b (mem_partsOf.2 ⟨i, vs[i], List.getElem?_eq_getElem (by omega), bites_row hb⟩)
structure LLaws (D : World → Nat → List Nat → DSt → Nat → Prop) (G : World → Nat → Nat → List Nat → List Int → List (List Int) → Nat → Prop) : Prop where
  disk : DLaws D
  stays : ∀ {w w' : World} {l p : Nat} {fl : List Nat} {sn : List Int} {rs : List (List Int)} {m : Nat}, G w l p fl sn rs m → (∀ k ∈ fl, w'.heap[k]? = w.heap[k]?) → G w' l p fl sn rs m
  lt : ∀ {w : World} {l p : Nat} {fl : List Nat} {sn : List Int} {rs : List (List Int)} {m : Nat}, G w l p fl sn rs m → ∀ k ∈ fl, k < w.heap.size
  open_ : ∀ (p : Nat) (fd : List Nat) (s : DSt) (m : Nat) (w : World), D w p fd s m → m ≤ 1073741824 → Ld w →
    Calls Tryd.prog 33 #[.pointer (some ⟨p, 0, none⟩)] w fun r w' => ∃ fd', D w' p fd' (openSt s).2 m ∧
      (((openSt s).1 = 0 ∧ ∃ l fl, r = .returned (.tuple #[.pointer (some ⟨l, 0, none⟩), .int .i64 0]) ∧ G w' l p fl (logOf s.bs).1 (logOf s.bs).2.1 m ∧ Step w w' fd (fd' ++ fl) ∧ (∀ k ∈ fl, k ∉ fd' ∧ w.heap.size ≤ k)) ∨
       ((openSt s).1 ≠ 0 ∧ r = .returned (.tuple #[.pointer none, .int .i64 (openSt s).1]) ∧ Step w w' fd fd'))
  append : ∀ (l p : Nat) (fd fl : List Nat) (s : DSt) (sn : List Int) (rs : List (List Int)) (m : Nat) (A : Option Addr) (n c : Nat) (ys : List Int) (w : World), D w p fd s m → G w l p fl sn rs m → (∀ k ∈ fl, k ∉ fd) → Lent w (fd ++ fl) A n c ys → s.dead = false → m + n + 9 ≤ 1073741824 → Ld w →
    Calls Tryd.prog 25 #[.pointer (some ⟨l, 0, none⟩), .slice A n c] w fun r w' => ∃ fd' fl', Step w w' (fd ++ fl) (fd' ++ fl') ∧ (∀ k ∈ fl', k ∉ fd') ∧
      if 131071 < n then r = .returned (.int .i64 5) ∧ D w' p fd' s (m + n + 9) ∧ G w' l p fl' sn rs (m + n + 9)
      else r = .returned (.int .i64 0) ∧ D w' p fd' (s.add (recFrame ys)) (m + n + 9) ∧ G w' l p fl' sn (rs ++ [ys]) (m + n + 9)
  sync : ∀ (l p : Nat) (fd fl : List Nat) (s : DSt) (sn : List Int) (rs : List (List Int)) (m : Nat) (w : World), D w p fd s m → G w l p fl sn rs m → (∀ k ∈ fl, k ∉ fd) → s.dead = false → m ≤ 1073741824 →
    Calls Tryd.prog 15 #[.pointer (some ⟨l, 0, none⟩)] w fun r w' => ∃ fd' fl', Step w w' (fd ++ fl) (fd' ++ fl') ∧ (∀ k ∈ fl', k ∉ fd') ∧
      r = .returned (.int .i64 s.sync.1) ∧ D w' p fd' s.sync.2 m ∧ (s.sync.1 = 0 → G w' l p fl' sn rs m)
  compact : ∀ (l p : Nat) (fd fl : List Nat) (s : DSt) (sn : List Int) (rs : List (List Int)) (m : Nat) (A : Option Addr) (n c : Nat) (ys : List Int) (w : World), D w p fd s m → G w l p fl sn rs m → (∀ k ∈ fl, k ∉ fd) → Lent w (fd ++ fl) A n c ys → s.dead = false → m + n + 9 ≤ 1073741824 → Ld w →
    Calls Tryd.prog 17 #[.pointer (some ⟨l, 0, none⟩), .slice A n c] w fun r w' => ∃ fd' fl', Step w w' (fd ++ fl) (fd' ++ fl') ∧ (∀ k ∈ fl', k ∉ fd') ∧
      if 131071 < n then r = .returned (.int .i64 5) ∧ D w' p fd' s (m + n + 9) ∧ G w' l p fl' sn rs (m + n + 9)
      else r = .returned (.int .i64 (s.swap (snapFrame ys)).1) ∧ D w' p fd' (s.swap (snapFrame ys)).2 (m + n + 9) ∧ ((s.swap (snapFrame ys)).1 = 0 → G w' l p fl' ys [] (m + n + 9))
  snap : ∀ (l p : Nat) (fl : List Nat) (sn : List Int) (rs : List (List Int)) (m : Nat) (w : World), G w l p fl sn rs m → m ≤ 1073741824 →
    Calls Tryd.prog 37 #[.pointer (some ⟨l, 0, none⟩)] w fun r w' => ∃ v fl', r = .returned v ∧ TRow w' v sn.length sn ∧ (∀ k ∈ rowOf v, w.heap.size ≤ k ∧ k ∉ fl') ∧ G w' l p fl' sn rs m ∧ Step w w' fl fl'
  recs : ∀ (l p : Nat) (fl : List Nat) (sn : List Int) (rs : List (List Int)) (m : Nat) (w : World), G w l p fl sn rs m → m ≤ 1073741824 →
    Calls Tryd.prog 35 #[.pointer (some ⟨l, 0, none⟩)] w fun r w' => ∃ v fl' fr, r = .returned v ∧ TRows w' v rs fr ∧ (∀ k ∈ fr, w.heap.size ≤ k ∧ k ∉ fl') ∧ G w' l p fl' sn rs m ∧ Step w w' fl fl'
/-- A Disk and the Log that keeps it, in a walk that began in W. -/
structure LAt (D : World → Nat → List Nat → DSt → Nat → Prop) (G : World → Nat → Nat → List Nat → List Int → List (List Int) → Nat → Prop) (W w : World) (p l : Nat) (fd fl : List Nat) (s : DSt) (sn : List Int) (rs : List (List Int)) (m : Nat) : Prop where
  disk : D w p fd s m
  log : G w l p fl sn rs m
  apart : ∀ k ∈ fl, k ∉ fd
  old : Moved W w []
  newd : ∀ k ∈ fd, W.heap.size ≤ k
  newl : ∀ k ∈ fl, W.heap.size ≤ k
section
variable {D : World → Nat → List Nat → DSt → Nat → Prop} {G : World → Nat → Nat → List Nat → List Int → List (List Int) → Nat → Prop} {W w : World} {p l : Nat} {fd fl : List Nat} {s s' : DSt} {sn : List Int} {rs : List (List Int)} {m : Nat}
/-- The Disk alone. -/
theorem LAt.at_ (h : LAt D G W w p l fd fl s sn rs m) : At D W w p fd s m := ⟨h.disk, h.old, h.newd⟩
theorem LAt.all (h : LAt D G W w p l fd fl s sn rs m) : ∀ k ∈ fd ++ fl, W.heap.size ≤ k := fun k hk => (List.mem_append.1 hk).elim (h.newd k) (h.newl k)
theorem LAt.step (h : LAt D G W w p l fd fl s sn rs m) {w1 : World} {fd1 fl1 : List Nat} {s1 : DSt} {sn1 : List Int} {rs1 : List (List Int)} {m1 : Nat} (h1 : D w1 p fd1 s1 m1) (h2 : G w1 l p fl1 sn1 rs1 m1) (h3 : ∀ k ∈ fl1, k ∉ fd1) (hS : Step w w1 (fd ++ fl) (fd1 ++ fl1)) : LAt D G W w1 p l fd1 fl1 s1 sn1 rs1 m1 :=
  ⟨h1, h2, h3, moved_on h.old hS h.all, fun k hk => new_on h.old hS h.all k (List.mem_append.2 (.inl hk)), fun k hk => new_on h.old hS h.all k (List.mem_append.2 (.inr hk))⟩
theorem LAt.dstep (h : LAt D G W w p l fd fl s sn rs m) {w1 : World} {fd1 fl1 : List Nat} {s1 : DSt} {m1 : Nat} (h1 : D w1 p fd1 s1 m1) (hS : Step w w1 (fd ++ fl) (fd1 ++ fl1)) : At D W w1 p fd1 s1 m1 :=
  ⟨h1, moved_on h.old hS h.all, fun k hk => new_on h.old hS h.all k (List.mem_append.2 (.inl hk))⟩
theorem LAt.lent (h : LAt D G W w p l fd fl s sn rs m) {A : Option Addr} {n c : Nat} {ys : List Int} (hY : Was W A n c ys) : Lent w (fd ++ fl) A n c ys := hY.lent h.old h.all
variable (L : LLaws D G)
include L
/-- The Disk is used: the Log stays. -/
theorem LAt.side (h : LAt D G W w p l fd fl s sn rs m) {w1 : World} {fd1 : List Nat} {s1 : DSt} (h1 : D w1 p fd1 s1 m) (hS : Step w w1 fd fd1) : LAt D G W w1 p l fd1 fl s1 sn rs m :=
  ⟨h1, L.stays h.log (fun k hk => hS.1.block k (L.lt h.log k hk) (h.apart k hk)), fun k hk hf => by
    rcases hS.2 k hf with h' | h'
    · exact h.apart k hk h'
    · have := L.lt h.log k hk; omega, moved_on h.old hS h.newd, new_on h.old hS h.newd, h.newl⟩
/-- Something else moves. -/
theorem LAt.keeps (h : LAt D G W w p l fd fl s sn rs m) {w1 : World} {S T : List Nat} (hS : Step w w1 S T) (hn : ∀ k ∈ S, W.heap.size ≤ k) (hd : ∀ k ∈ S, k ∉ fd ∧ k ∉ fl) : LAt D G W w1 p l fd fl s sn rs m :=
  ⟨L.disk.stays h.disk (fun k hk => hS.1.block k (L.disk.lt h.disk k hk) (fun hm => (hd k hm).1 hk)), L.stays h.log (fun k hk => hS.1.block k (L.lt h.log k hk) (fun hm => (hd k hm).2 hk)), h.apart, moved_on h.old hS hn, h.newd, h.newl⟩
theorem LAt.again (h : LAt D G W w p l fd fl s sn rs m) (o : Obj) : LAt D G W (w.alloc o) p l fd fl s sn rs m := h.keeps L (S := []) (T := []) ⟨(Moved.refl w []).alloc o, fun _ h => (by cases h)⟩ (fun _ h => by cases h) (fun _ h => by cases h)
theorem LAt.drewN (h : LAt D G W w p l fd fl s sn rs m) (n : Nat) : LAt D G W (w.drewN n) p l fd fl s sn rs m := h.keeps L (S := []) (T := []) ⟨(Moved.refl w []).drewN n, fun _ h => (by cases h)⟩ (fun _ h => by cases h) (fun _ h => by cases h)
theorem LAt.append_ {A : Option Addr} {n c : Nat} {ys : List Int} (h : LAt D G W w p l fd fl s sn rs m) (hld : Ld W) (hY : Lent w (fd ++ fl) A n c ys) (hd : s.dead = false) (hn : n ≤ 131071) (hs : s.add (recFrame ys) = s') (hm : m + n + 9 ≤ 1073741824) :
    Calls Tryd.prog 25 #[.pointer (some ⟨l, 0, none⟩), .slice A n c] w fun r w' => r = .returned (.int .i64 0) ∧ ∃ fd' fl', LAt D G W w' p l fd' fl' s' sn (rs ++ [ys]) (m + n + 9) ∧ Step w w' (fd ++ fl) (fd' ++ fl') := by
  subst hs
  refine (L.append l p fd fl s sn rs m A n c ys w h.disk h.log h.apart hY hd hm (hld.moved h.old)).mono ?_
  rintro r w' ⟨fd', fl', hS, ha, hif⟩
  rw [if_neg (by omega)] at hif
  exact ⟨hif.1, fd', fl', h.step hif.2.1 hif.2.2 ha hS, hS⟩
theorem LAt.append {A : Option Addr} {n c : Nat} {ys : List Int} (h : LAt D G W w p l fd fl s sn rs m) (hld : Ld W) (hY : Was W A n c ys) (hd : s.dead = false) (hn : n ≤ 131071) (hs : s.add (recFrame ys) = s') (hm : m + n + 9 ≤ 1073741824) :
    Calls Tryd.prog 25 #[.pointer (some ⟨l, 0, none⟩), .slice A n c] w fun r w' => r = .returned (.int .i64 0) ∧ ∃ fd' fl', LAt D G W w' p l fd' fl' s' sn (rs ++ [ys]) (m + n + 9) ∧ Step w w' (fd ++ fl) (fd' ++ fl') :=
  h.append_ L hld (h.lent hY) hd hn hs hm
theorem LAt.long {A : Option Addr} {n c : Nat} {ys : List Int} (h : LAt D G W w p l fd fl s sn rs m) (hld : Ld W) (hY : Lent w (fd ++ fl) A n c ys) (hd : s.dead = false) (hn : 131071 < n) (hm : m + n + 9 ≤ 1073741824) :
    Calls Tryd.prog 25 #[.pointer (some ⟨l, 0, none⟩), .slice A n c] w fun r w' => r = .returned (.int .i64 5) ∧ ∃ fd' fl', LAt D G W w' p l fd' fl' s sn rs (m + n + 9) ∧ Step w w' (fd ++ fl) (fd' ++ fl') := by
  refine (L.append l p fd fl s sn rs m A n c ys w h.disk h.log h.apart hY hd hm (hld.moved h.old)).mono ?_
  rintro r w' ⟨fd', fl', hS, ha, hif⟩
  rw [if_pos hn] at hif
  exact ⟨hif.1, fd', fl', h.step hif.2.1 hif.2.2 ha hS, hS⟩
theorem LAt.sync (h : LAt D G W w p l fd fl s sn rs m) (hd : s.dead = false) (hs : s.sync = (0, s')) (hm : m ≤ 1073741824) :
    Calls Tryd.prog 15 #[.pointer (some ⟨l, 0, none⟩)] w fun r w' => r = .returned (.int .i64 0) ∧ ∃ fd' fl', LAt D G W w' p l fd' fl' s' sn rs m ∧ Step w w' (fd ++ fl) (fd' ++ fl') := by
  refine (L.sync l p fd fl s sn rs m w h.disk h.log h.apart hd hm).mono ?_
  rintro r w' ⟨fd', fl', hS, ha, h1, h2, h3⟩
  rw [hs] at h1 h2 h3
  exact ⟨h1, fd', fl', h.step h2 (h3 rfl) ha hS, hS⟩
theorem LAt.sync_no {e : Int} (h : LAt D G W w p l fd fl s sn rs m) (hd : s.dead = false) (hs : s.sync = (e, s')) (hm : m ≤ 1073741824) :
    Calls Tryd.prog 15 #[.pointer (some ⟨l, 0, none⟩)] w fun r w' => r = .returned (.int .i64 e) ∧ ∃ fd', At D W w' p fd' s' m := by
  refine (L.sync l p fd fl s sn rs m w h.disk h.log h.apart hd hm).mono ?_
  rintro r w' ⟨fd', fl', hS, ha, h1, h2, -⟩
  rw [hs] at h1 h2
  exact ⟨h1, fd', h.dstep h2 hS⟩
theorem LAt.compact_ {A : Option Addr} {n c : Nat} {ys : List Int} (h : LAt D G W w p l fd fl s sn rs m) (hld : Ld W) (hY : Lent w (fd ++ fl) A n c ys) (hd : s.dead = false) (hn : n ≤ 131071) (hs : s.swap (snapFrame ys) = (0, s')) (hm : m + n + 9 ≤ 1073741824) :
    Calls Tryd.prog 17 #[.pointer (some ⟨l, 0, none⟩), .slice A n c] w fun r w' => r = .returned (.int .i64 0) ∧ ∃ fd' fl', LAt D G W w' p l fd' fl' s' ys [] (m + n + 9) ∧ Step w w' (fd ++ fl) (fd' ++ fl') := by
  refine (L.compact l p fd fl s sn rs m A n c ys w h.disk h.log h.apart hY hd hm (hld.moved h.old)).mono ?_
  rintro r w' ⟨fd', fl', hS, ha, hif⟩
  rw [if_neg (by omega), hs] at hif
  exact ⟨hif.1, fd', fl', h.step hif.2.1 (hif.2.2 rfl) ha hS, hS⟩
theorem LAt.compact_no {A : Option Addr} {n c : Nat} {ys : List Int} {e : Int} (h : LAt D G W w p l fd fl s sn rs m) (hld : Ld W) (hY : Lent w (fd ++ fl) A n c ys) (hd : s.dead = false) (hn : n ≤ 131071) (hs : s.swap (snapFrame ys) = (e, s')) (hm : m + n + 9 ≤ 1073741824) :
    Calls Tryd.prog 17 #[.pointer (some ⟨l, 0, none⟩), .slice A n c] w fun r w' => r = .returned (.int .i64 e) ∧ ∃ fd', At D W w' p fd' s' (m + n + 9) := by
  refine (L.compact l p fd fl s sn rs m A n c ys w h.disk h.log h.apart hY hd hm (hld.moved h.old)).mono ?_
  rintro r w' ⟨fd', fl', hS, ha, hif⟩
  rw [if_neg (by omega), hs] at hif
  exact ⟨hif.1, fd', h.dstep hif.2.1 hS⟩
theorem LAt.compact_long {A : Option Addr} {n c : Nat} {ys : List Int} (h : LAt D G W w p l fd fl s sn rs m) (hld : Ld W) (hY : Lent w (fd ++ fl) A n c ys) (hd : s.dead = false) (hn : 131071 < n) (hm : m + n + 9 ≤ 1073741824) :
    Calls Tryd.prog 17 #[.pointer (some ⟨l, 0, none⟩), .slice A n c] w fun r w' => r = .returned (.int .i64 5) ∧ ∃ fd' fl', LAt D G W w' p l fd' fl' s sn rs (m + n + 9) ∧ Step w w' (fd ++ fl) (fd' ++ fl') := by
  refine (L.compact l p fd fl s sn rs m A n c ys w h.disk h.log h.apart hY hd hm (hld.moved h.old)).mono ?_
  rintro r w' ⟨fd', fl', hS, ha, hif⟩
  rw [if_pos hn] at hif
  exact ⟨hif.1, fd', fl', h.step hif.2.1 hif.2.2 ha hS, hS⟩
/-- The Log alone moves: the Disk stays. -/
theorem LAt.lstep (h : LAt D G W w p l fd fl s sn rs m) {w1 : World} {fl1 : List Nat} (h1 : G w1 l p fl1 sn rs m) (hS : Step w w1 fl fl1) : LAt D G W w1 p l fd fl1 s sn rs m :=
  ⟨L.disk.stays h.disk (fun k hk => hS.1.block k (L.disk.lt h.disk k hk) (fun hm => h.apart k hm hk)), h1, fun k hk hf => by
    rcases hS.2 k hk with h' | h'
    · exact h.apart k h' hf
    · have := L.disk.lt h.disk k hf; omega, moved_on h.old hS h.newl, h.newd, new_on h.old hS h.newl⟩
theorem LAt.recs (h : LAt D G W w p l fd fl s sn rs m) (hm : m ≤ 1073741824) :
    Calls Tryd.prog 35 #[.pointer (some ⟨l, 0, none⟩)] w fun r w' => ∃ A c vs fl' fr, r = .returned (.slice A rs.length c) ∧ TRows w' (.slice A rs.length c) rs fr ∧ BRows w' A vs rs ∧ (A = none → c = 0) ∧ (rs.length ≤ c ∧ c ≤ 9223372036854775807) ∧ (∀ b ∈ rowsOf A vs rs, b ∈ fr) ∧ (∀ k ∈ fr, w.heap.size ≤ k ∧ k ∉ fl' ∧ k ∉ fd) ∧ LAt D G W w' p l fd fl' s sn rs m ∧ Step w w' fl fl' := by
  refine (L.recs l p fl sn rs m w h.log hm).mono ?_
  rintro r w' ⟨v, fl', fr, rfl, hT, hf, hG, hS⟩
  obtain ⟨A, c, vs, rfl, hB, hn, hc, hr⟩ := hT.reads
  exact ⟨A, c, vs, fl', fr, rfl, hT, hB, hn, hc, hr, fun k hk => ⟨(hf k hk).1, (hf k hk).2, fun hd => by have := L.disk.lt h.disk k hd; have := (hf k hk).1; omega⟩, h.lstep L hG hS, hS⟩
theorem LAt.snap (h : LAt D G W w p l fd fl s sn rs m) (hm : m ≤ 1073741824) :
    Calls Tryd.prog 37 #[.pointer (some ⟨l, 0, none⟩)] w fun r w' => ∃ A c fl', r = .returned (.slice A sn.length c) ∧ TRow w' (.slice A sn.length c) sn.length sn ∧ (A = none → c = 0) ∧ (sn.length ≤ c ∧ c ≤ 9223372036854775807) ∧ (∀ k ∈ rowOf (.slice A sn.length c), w.heap.size ≤ k ∧ k ∉ fl' ∧ k ∉ fd) ∧ LAt D G W w' p l fd fl' s sn rs m ∧ Step w w' fl fl' := by
  refine (L.snap l p fl sn rs m w h.log hm).mono ?_
  rintro r w' ⟨v, fl', rfl, hT, hf, hG, hS⟩
  obtain ⟨A, c, rfl, hn, hc⟩ := t_shape hT
  exact ⟨A, c, fl', rfl, hT, hn, hc, fun k hk => ⟨(hf k hk).1, (hf k hk).2, fun hd => by have := L.disk.lt h.disk k hd; have := (hf k hk).1; omega⟩, h.lstep L hG hS, hS⟩
/-- Open, where it goes well. -/
theorem LAt.open_ {k : Nat} (h : At D W w p fd s m) (hld : Ld W) (ho : openSt s = (0, s')) (hl : logOf s.bs = (sn, rs, k)) (hm : m ≤ 1073741824) :
    Calls Tryd.prog 33 #[.pointer (some ⟨p, 0, none⟩)] w fun r w' => ∃ l fd' fl', r = .returned (.tuple #[.pointer (some ⟨l, 0, none⟩), .int .i64 0]) ∧ LAt D G W w' p l fd' fl' s' sn rs m ∧ Step w w' fd (fd' ++ fl') := by
  refine (L.open_ p fd s m w h.on hm (hld.moved h.old)).mono ?_
  rintro r w' ⟨fd', hD, (⟨-, l, fl, rfl, hG, hS, hf⟩ | ⟨hne, -⟩)⟩
  · rw [ho] at hD
    rw [hl] at hG
    exact ⟨l, fd', fl, rfl, ⟨hD, hG, fun k hk => (hf k hk).1, moved_on h.old hS h.new, fun k hk => new_on h.old hS h.new k (List.mem_append.2 (.inl hk)), fun k hk => new_on h.old hS h.new k (List.mem_append.2 (.inr hk))⟩, hS⟩
  · rw [ho] at hne; exact absurd rfl hne
theorem LAt.open_no (h : At D W w p fd s m) (hld : Ld W) {e : Int} (ho : openSt s = (e, s')) (he : e ≠ 0) (hm : m ≤ 1073741824) :
    Calls Tryd.prog 33 #[.pointer (some ⟨p, 0, none⟩)] w fun r w' => ∃ fd', r = .returned (.tuple #[.pointer none, .int .i64 e]) ∧ At D W w' p fd' s' m ∧ Step w w' fd fd' := by
  refine (L.open_ p fd s m w h.on hm (hld.moved h.old)).mono ?_
  rintro r w' ⟨fd', hD, (⟨h0, -⟩ | ⟨-, rfl, hS⟩)⟩
  · rw [ho] at h0; exact absurd h0 he
  · rw [ho] at hD ⊢
    exact ⟨fd', rfl, h.step hD hS, hS⟩
end
end Lg
end Go.Proofs.YtekleamkpfeifaaDoor

/-
  PLAIN: numbers in groups of seven bits.
-/
namespace Go.Proofs.YtekleamkpfeifaaDoor
namespace Pk

/-- The bytes of a number, the lowest seven bits first. -/
def enc (v : Nat) : List Int := if v < 128 then [(v : Int)] else (v % 128 + 128 : Nat) :: enc (v / 128)
termination_by v
decreasing_by omega
theorem enc_low {v : Nat} (h : v < 128) : enc v = [(v : Int)] := by rw [enc, if_pos h]
theorem enc_high {v : Nat} (h : 128 ≤ v) : enc v = ((v % 128 + 128 : Nat) : Int) :: enc (v / 128) := by rw [enc, if_neg (by omega)]
theorem enc_len_pos (v : Nat) : 1 ≤ (enc v).length := by
  rw [enc]; split <;> simp
theorem enc_len (n : Nat) : ∀ v : Nat, v < 128 ^ (n + 1) → (enc v).length ≤ n + 1 := by
  induction n with
  | zero => intro v h; rw [enc_low (by simpa using h)]; simp
  | succ n ih =>
    intro v h
    by_cases hv : v < 128
    · rw [enc_low hv]; simp
    · rw [enc_high (by omega)]
      have := ih (v / 128) (by rw [Nat.div_lt_iff_lt_mul (by omega), ← Nat.pow_succ]; exact h)
      simp; omega
theorem enc_ten {v : Nat} (h : v < 18446744073709551616) : (enc v).length ≤ 10 := enc_len 9 v (Nat.lt_of_lt_of_le h (by decide))
theorem enc_byte : ∀ (v : Nat), ∀ x ∈ enc v, 0 ≤ x ∧ x ≤ 255 := by
  intro v
  induction v using Nat.strongRecOn with
  | _ v ih =>
    intro x hx
    by_cases hv : v < 128
    · rw [enc_low hv] at hx; simp at hx; omega
    · rw [enc_high (by omega)] at hx
      rcases List.mem_cons.1 hx with rfl | hx
      · omega
      · exact ih (v / 128) (by omega) x hx
end Pk
end Go.Proofs.YtekleamkpfeifaaDoor

/-
  PLAIN: what a reader of bytes has before it, and what each reading makes of it.
-/
namespace Go.Proofs.YtekleamkpfeifaaDoor
namespace Pk

/-- The number at the beginning of bytes, from its i-th group of seven bits on; and what stands behind it. -/
def rdG (i : Nat) : List Int → Option (Nat × List Int)
  | [] => none
  | x :: r =>
    if 9 < i ∨ (i = 9 ∧ 1 < x) then none
    else if x < 128 then (if x = 0 ∧ 0 < i then none else some (x.toNat, r))
    else (rdG (i + 1) r).map fun p => (x.toNat % 128 + 128 * p.1, p.2)

/-- A reader: bytes that are not read yet, or the error. -/
inductive St where
  | ok (bs : List Int)
  | bad (e : Int)

def St.uint : St → Nat × St
  | .bad e => (0, .bad e)
  | .ok bs => match rdG 0 bs with
    | none => (0, .bad 4)
    | some (v, r) => (v, .ok r)
/-- The whole number that is written as v. -/
def unzig (v : Nat) : Int := if v % 2 = 0 then ((v / 2 : Nat) : Int) else -((v / 2 : Nat) : Int) - 1
def St.int (s : St) : Int × St := (unzig s.uint.1, s.uint.2)
def St.mark (s : St) : Bool × St := if 1 < s.uint.1 then (false, .bad 4) else (decide (s.uint.1 = 1), s.uint.2)
def St.text (s : St) : List Int × St :=
  match s.uint with
  | (_, .bad e) => ([], .bad e)
  | (n, .ok bs) => if 131072 < n then ([], .bad 5) else if bs.length < n then ([], .bad 4) else (bs.take n, .ok (bs.drop n))
def St.amount (s : St) : (Nat × Nat) × St :=
  match s.uint.2.uint with
  | (_, .bad e) => ((0, 0), .bad e)
  | (k, .ok bs) => if 1048576 < s.uint.1 ∨ 1048576 < k then ((0, 0), .bad 2) else ((s.uint.1, k), .ok bs)
def St.done : St → Int
  | .bad e => e
  | .ok [] => 0
  | .ok (_ :: _) => 4
/-- An error is never 0. -/
def St.fine : St → Prop
  | .bad e => e ≠ 0
  | .ok _ => True

/-- acc and what the groups from the i-th on make, times 128^i. -/
def lift (acc i : Nat) (o : Option (Nat × List Int)) : Option (Nat × List Int) := o.map fun p => (acc + 128 ^ i * p.1, p.2)
theorem lift_start (o : Option (Nat × List Int)) : lift 0 0 o = o := by
  unfold lift; cases o <;> simp
theorem lift_none (acc i : Nat) : lift acc i none = none := rfl

theorem rdG_nil (i : Nat) : rdG i [] = none := rfl
theorem rdG_big {i : Nat} {x : Int} (r : List Int) (h : i = 9) (hx : 1 < x) : rdG i (x :: r) = none := by rw [rdG, if_pos (.inr ⟨h, hx⟩)]
theorem rdG_zero {i : Nat} (r : List Int) (h : 0 < i) (h9 : i ≤ 9) : rdG i (0 :: r) = none := by rw [rdG, if_neg (by omega), if_pos (by omega), if_pos ⟨rfl, h⟩]
theorem rdG_last {i : Nat} {x : Int} (r : List Int) (h9 : i ≤ 9) (hn : ¬ (i = 9 ∧ 1 < x)) (hx : x < 128) (hz : ¬ (x = 0 ∧ 0 < i)) : rdG i (x :: r) = some (x.toNat, r) := by
  rw [rdG, if_neg (by omega), if_pos hx, if_neg hz]
theorem rdG_more {i : Nat} {x : Int} (r : List Int) (h8 : i ≤ 8) (hx : 128 ≤ x) : rdG i (x :: r) = (rdG (i + 1) r).map fun p => (x.toNat % 128 + 128 * p.1, p.2) := by
  rw [rdG, if_neg (by omega), if_neg (by omega)]
theorem lift_more {acc i : Nat} {x : Int} (r : List Int) (h8 : i ≤ 8) (hx : 128 ≤ x) : lift acc i (rdG i (x :: r)) = lift (acc + x.toNat % 128 * 128 ^ i) (i + 1) (rdG (i + 1) r) := by
  rw [rdG_more r h8 hx]
  unfold lift
  cases rdG (i + 1) r with
  | none => rfl
  | some p =>
    simp only [Option.map_some, Option.some.injEq, Prod.mk.injEq, and_true]
    rw [Nat.pow_succ, Nat.mul_add, Nat.mul_comm (128 ^ i) (x.toNat % 128), Nat.add_assoc, Nat.mul_assoc]
theorem lift_last {acc i : Nat} {x : Int} (r : List Int) (h9 : i ≤ 9) (hn : ¬ (i = 9 ∧ 1 < x)) (hx : x < 128) (hz : ¬ (x = 0 ∧ 0 < i)) : lift acc i (rdG i (x :: r)) = some (acc + x.toNat * 128 ^ i, r) := by
  rw [rdG_last r h9 hn hx hz]
  simp [lift, Nat.mul_comm]

theorem rdG_bound : ∀ (bs : List Int) (i : Nat), i ≤ 9 → (∀ x ∈ bs, 0 ≤ x ∧ x ≤ 255) → ∀ v r, rdG i bs = some (v, r) → 128 ^ i * v < 18446744073709551616 := by
  intro bs
  induction bs with
  | nil => intro i _ _ v r h; cases h
  | cons x bs ih =>
    intro i hi hb v r h
    have hx := hb x (by simp)
    rw [rdG] at h
    split at h
    · cases h
    · rename_i hn
      split at h
      · split at h
        · cases h
        · cases h
          by_cases h9 : i = 9
          · subst h9
            have : x.toNat ≤ 1 := by omega
            have := Nat.mul_le_mul_left (128 ^ 9) this
            omega
          · have h1 : 128 ^ i ≤ 128 ^ 8 := Nat.pow_le_pow_right (by omega) (by omega)
            have h2 : 128 ^ i * x.toNat ≤ 128 ^ 8 * 127 := Nat.mul_le_mul h1 (by omega)
            omega
      · rename_i hx2
        have h8 : i ≤ 8 := by omega
        rcases hr : rdG (i + 1) bs with _ | ⟨v', r'⟩
        · rw [hr] at h; cases h
        · rw [hr] at h
          cases h
          have h1 := ih (i + 1) (by omega) (fun y hy => hb y (by simp [hy])) v' r' hr
          rw [Nat.pow_succ] at h1
          have h3 : 128 ^ i * (x.toNat % 128 + 128 * v') = 128 ^ i * (x.toNat % 128) + 128 ^ i * 128 * v' := by rw [Nat.mul_add, Nat.mul_assoc]
          rw [h3]
          have h4 : 128 ^ i * (x.toNat % 128) < 128 ^ i * 128 := Nat.mul_lt_mul_of_pos_left (by omega) (Nat.pow_pos (by omega))
          -- a multiple of 128^(i+1) below 2^64 leaves room for one less than 128^(i+1)
          have h5 : 128 ^ i * 128 ∣ 18446744073709551616 ∨ i = 9 := by
            left
            have : (128 : Nat) ^ i * 128 = 2 ^ (7 * (i + 1)) := by rw [← Nat.pow_succ, show (128 : Nat) = 2 ^ 7 by rfl, ← Nat.pow_mul]
            rw [this, show (18446744073709551616 : Nat) = 2 ^ 64 by rfl]
            exact Nat.pow_dvd_pow 2 (by omega)
          rcases h5 with ⟨c, hc⟩ | h5
          · rw [hc] at h1 ⊢
            have h6 : v' < c := Nat.lt_of_mul_lt_mul_left h1
            have h7 : 128 ^ i * 128 * (v' + 1) ≤ 128 ^ i * 128 * c := Nat.mul_le_mul_left _ (by omega)
            rw [Nat.mul_add, Nat.mul_one] at h7
            omega
          · omega
theorem uint_bound {s : St} (h : ∀ bs, s = .ok bs → ∀ x ∈ bs, 0 ≤ x ∧ x ≤ 255) : s.uint.1 < 18446744073709551616 := by
  unfold St.uint
  cases s with
  | bad e => simp
  | ok bs =>
    simp only
    rcases hr : rdG 0 bs with _ | ⟨v, r⟩
    · simp
    · have := rdG_bound bs 0 (by omega) (h bs rfl) v r hr
      simpa using this
end Pk
end Go.Proofs.YtekleamkpfeifaaDoor

/-
  PLAIN: a text's bytes as numbers.
-/
namespace Go.Proofs.YtekleamkpfeifaaDoor
namespace Pk
open Go.RowKit
/-- The bytes of a text, as numbers. -/
def nums (s : ByteArray) : List Int := s.data.toList.map fun b => (b.toNat : Int)
theorem nums_len (s : ByteArray) : (nums s).length = s.size := by simp [nums]
theorem nums_bytes (s : ByteArray) : ByteList (nums s) := by
  intro x hx
  simp only [nums, List.mem_map] at hx
  obtain ⟨b, _, rfl⟩ := hx
  have := b.toNat_lt
  omega
theorem nums_at {s : ByteArray} {j : Nat} (h : j < s.size) : (nums s)[j]? = some ((s[j]).toNat : Int) := by
  have h2 : j < s.data.toList.length := by simpa using h
  rw [nums, List.getElem?_map, List.getElem?_eq_getElem h2]
  rfl
theorem nums_from (s : ByteArray) (i : Nat) : nums (s.extract i s.size) = (nums s).drop i := by
  have h0 : s.data.size = s.size := rfl
  simp only [nums, ByteArray.data_extract, Array.toList_extract, List.extract_eq_take_drop, ← h0]
  rw [List.take_of_length_le (by simp), List.map_drop]
theorem nums_to (s : ByteArray) (i : Nat) : nums (s.extract 0 i) = (nums s).take i := by
  simp only [nums, ByteArray.data_extract, Array.toList_extract, List.extract_eq_take_drop]
  simp [List.map_take]
theorem nums_str {xs : List Int} (h : ByteList xs) : nums (strOfNums xs) = xs := by
  simp only [nums, strOfNums]
  induction xs with
  | nil => rfl
  | cons x xs ih =>
    have hx := h x (by simp)
    have := ih (fun y hy => h y (by simp [hy]))
    simp only [List.map_cons, List.map_map, Function.comp_def] at this ⊢
    rw [this]
    congr 1
    simp
    omega
theorem nums_nil {s : ByteArray} (h : nums s = []) : s = ByteArray.empty := by
  have : s.size = 0 := by rw [← nums_len, h]; rfl
  exact ByteArray.ext (Array.eq_empty_of_size_eq_zero this)
end Pk
end Go.Proofs.YtekleamkpfeifaaDoor
