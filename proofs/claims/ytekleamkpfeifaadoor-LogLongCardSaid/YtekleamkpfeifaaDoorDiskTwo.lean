/-
  Two objects side by side in a walk that began in the world W: a Disk, and another thing that is told by the same words (a Disk, or the page's).
-/
import Derived.Test.YtekleamkpfeifaaDoorDiskAt
namespace Go.Proofs.YtekleamkpfeifaaDoor
namespace Dk
open Go.RowKit
/-- What stays where its blocks stay. -/
structure Stays (E : World → Nat → List Nat → DSt → Nat → Prop) : Prop where
  stays : ∀ {w w' : World} {p : Nat} {fp : List Nat} {s : DSt} {m : Nat}, E w p fp s m → (∀ k ∈ fp, w'.heap[k]? = w.heap[k]?) → E w' p fp s m
  lt : ∀ {w : World} {p : Nat} {fp : List Nat} {s : DSt} {m : Nat}, E w p fp s m → ∀ k ∈ fp, k < w.heap.size
theorem DLaws.still {D : World → Nat → List Nat → DSt → Nat → Prop} (L : DLaws D) : Stays D := ⟨L.stays, L.lt⟩
structure At2 (D E : World → Nat → List Nat → DSt → Nat → Prop) (W w : World) (p : Nat) (fp : List Nat) (s : DSt) (m : Nat) (q : Nat) (fq : List Nat) (t : DSt) (km : Nat) : Prop where
  a : At D W w p fp s m
  b : At E W w q fq t km
  apart : ∀ k ∈ fp, k ∉ fq
def Now2 (D E : World → Nat → List Nat → DSt → Nat → Prop) (W : World) (p : Nat) (s : DSt) (m : Nat) (q : Nat) (fq : List Nat) (t : DSt) (km : Nat) (r0 : Value) (r : Ending) (w' : World) : Prop :=
  r = .returned r0 ∧ ∃ fp', At2 D E W w' p fp' s m q fq t km
theorem At2.flip {D E : World → Nat → List Nat → DSt → Nat → Prop} {W w : World} {p : Nat} {fp : List Nat} {s : DSt} {m : Nat} {q : Nat} {fq : List Nat} {t : DSt} {km : Nat} (h : At2 D E W w p fp s m q fq t km) : At2 E D W w q fq t km p fp s m :=
  ⟨h.b, h.a, fun k hk hf => h.apart k hf hk⟩
theorem At.keeps {E : World → Nat → List Nat → DSt → Nat → Prop} (O : Stays E) {W w w1 : World} {q : Nat} {fq S T : List Nat} {t : DSt} {km : Nat} (h : At E W w q fq t km) (hS : Step w w1 S T) (hn : ∀ k ∈ S, W.heap.size ≤ k) (hd : ∀ k ∈ S, k ∉ fq) : At E W w1 q fq t km :=
  ⟨O.stays h.on (fun k hk => hS.1.block k (O.lt h.on k hk) (fun hm => hd k hm hk)), moved_on h.old hS hn, h.new⟩
section
variable {D E : World → Nat → List Nat → DSt → Nat → Prop} {W w : World} {p : Nat} {fp : List Nat} {s s' : DSt} {m : Nat} {q : Nat} {fq : List Nat} {t : DSt} {km : Nat}
theorem At2.step (O : Stays E) (h : At2 D E W w p fp s m q fq t km) {w1 : World} {f1 : List Nat} {s1 : DSt} {m1 : Nat} (h1 : D w1 p f1 s1 m1) (hS : Step w w1 fp f1) : At2 D E W w1 p f1 s1 m1 q fq t km :=
  ⟨h.a.step h1 hS, h.b.keeps O hS h.a.new h.apart, fun k hk hf => by
    rcases hS.2 k hk with h' | h'
    · exact h.apart k h' hf
    · have := O.lt h.b.on k hf; omega⟩
theorem At2.does (O : Stays E) (h : At2 D E W w p fp s m q fq t km) {s1 : DSt} {m1 : Nat} {r0 : Value} {r : Ending} {w1 : World} (hd : Does D p fp s1 m1 r0 w r w1) : Now2 D E W p s1 m1 q fq t km r0 r w1 := by
  obtain ⟨rfl, f1, h1, hS⟩ := hd
  exact ⟨rfl, f1, h.step O h1 hS⟩
variable (L : DLaws D) (O : Stays E)
include L O in
/-- A second Disk. -/
theorem At.second (h : At E W w q fq t km) : Calls Tryd.prog 11 #[] w fun r w' => ∃ p fp, r = .returned (.pointer (some ⟨p, 0, none⟩)) ∧ At2 D E W w' p fp ⟨[], 0, false, none⟩ 0 q fq t km :=
  (L.new w).mono fun r w' ⟨p, fp, hr, hD, hS⟩ => by
    have hn : ∀ k ∈ fp, w.heap.size ≤ k := fun k hk => (hS.2 k hk).elim (fun h => by cases h) id
    exact ⟨p, fp, hr, ⟨hD, moved_on h.old hS (fun _ h => by cases h), fun k hk => Nat.le_trans h.old.size (hn k hk)⟩, h.keeps O hS (fun _ h => by cases h) (fun _ h => by cases h), fun k hk hf => by have := hn k hk; have := O.lt h.on k hf; omega⟩
include L O
theorem At2.append_ {A : Option Addr} {n c : Nat} {ys : List Int} {e : Int} (h : At2 D E W w p fp s m q fq t km) (hY : Lent w fp A n c ys) (he : s.off = e) (hs : s.add ys = s') (hm : m + n ≤ 35184372088832) :
    Calls Tryd.prog 23 #[.pointer (some ⟨p, 0, none⟩), .slice A n c] w (Now2 D E W p s' (m + n) q fq t km (.int .i64 e)) := by
  subst he hs
  exact (L.append p fp s m A n c ys w h.a.on hY hm).mono fun _ _ hd => h.does O hd
theorem At2.append {A : Option Addr} {n c : Nat} {ys : List Int} {e : Int} (h : At2 D E W w p fp s m q fq t km) (hY : Was W A n c ys) (he : s.off = e) (hs : s.add ys = s') (hm : m + n ≤ 35184372088832) :
    Calls Tryd.prog 23 #[.pointer (some ⟨p, 0, none⟩), .slice A n c] w (Now2 D E W p s' (m + n) q fq t km (.int .i64 e)) :=
  h.append_ L O (hY.lent h.a.old h.a.new) he hs hm
theorem At2.swap {A : Option Addr} {n c : Nat} {ys : List Int} {e : Int} (h : At2 D E W w p fp s m q fq t km) (hY : Was W A n c ys) (hs : s.swap ys = (e, s')) (hm : m + n ≤ 35184372088832) :
    Calls Tryd.prog 47 #[.pointer (some ⟨p, 0, none⟩), .slice A n c] w (Now2 D E W p s' (m + n) q fq t km (.int .i64 e)) :=
  (L.swap p fp s m A n c ys w h.a.on (hY.lent h.a.old h.a.new) hm).mono fun _ _ hd => h.does O (by rw [hs] at hd; exact hd)
theorem At2.sync {e : Int} (h : At2 D E W w p fp s m q fq t km) (hs : s.sync = (e, s')) (hm : m ≤ 35184372088832) :
    Calls Tryd.prog 44 #[.pointer (some ⟨p, 0, none⟩)] w (Now2 D E W p s' m q fq t km (.int .i64 e)) :=
  (L.sync p fp s m w h.a.on hm).mono fun _ _ hd => h.does O (by rw [hs] at hd; exact hd)
theorem At2.cut {n e : Int} (h : At2 D E W w p fp s m q fq t km) (hs : s.cut n = (e, s')) (hm : m ≤ 35184372088832) (h0 : -9223372036854775808 ≤ n) (h1 : n ≤ 9223372036854775807) :
    Calls Tryd.prog 38 #[.pointer (some ⟨p, 0, none⟩), .int .i64 n] w (Now2 D E W p s' m q fq t km (.int .i64 e)) :=
  (L.cut p fp s m n w h.a.on hm h0 h1).mono fun _ _ hd => h.does O (by rw [hs] at hd; exact hd)
theorem At2.synced {k : Nat} (h : At2 D E W w p fp s m q fq t km) (hs : s.safe = k) (hm : m ≤ 35184372088832) :
    Calls Tryd.prog 39 #[.pointer (some ⟨p, 0, none⟩)] w (Now2 D E W p s m q fq t km (.int .i64 k)) := by
  subst hs
  exact (L.synced p fp s m w h.a.on hm).mono fun _ _ hd => h.does O hd
theorem At2.off {b : Bool} (h : At2 D E W w p fp s m q fq t km) (hs : s.dead = b) :
    Calls Tryd.prog 28 #[.pointer (some ⟨p, 0, none⟩)] w (Now2 D E W p s m q fq t km (.bool b)) := by
  subst hs
  exact (L.off p fp s m w h.a.on).mono fun _ _ hd => h.does O hd
theorem At2.trip {k : Int} (h : At2 D E W w p fp s m q fq t km) (hs : s.arm k = s') (h0 : -9223372036854775808 ≤ k) (h1 : k ≤ 9223372036854775807) :
    Calls Tryd.prog 19 #[.pointer (some ⟨p, 0, none⟩), .int .i64 k] w (Now2 D E W p s' m q fq t km (.tuple #[])) := by
  subst hs
  exact (L.trip p fp s m k w h.a.on h0 h1).mono fun _ _ hd => h.does O hd
theorem At2.crash {k : Int} (h : At2 D E W w p fp s m q fq t km) (hs : s.crash k = s') (hm : m ≤ 35184372088832) (h0 : -9223372036854775808 ≤ k) (h1 : k ≤ 9223372036854775807) :
    Calls Tryd.prog 21 #[.pointer (some ⟨p, 0, none⟩), .int .i64 k] w (Now2 D E W p s' m q fq t km (.tuple #[])) := by
  subst hs
  exact (L.crash p fp s m k w h.a.on hm h0 h1).mono fun _ _ hd => h.does O hd
theorem At2.start (h : At2 D E W w p fp s m q fq t km) (hs : s.start = s') (hm : m ≤ 35184372088832) :
    Calls Tryd.prog 34 #[.pointer (some ⟨p, 0, none⟩)] w (Now2 D E W p s' m q fq t km (.tuple #[])) := by
  subst hs
  exact (L.start p fp s m w h.a.on hm).mono fun _ _ hd => h.does O hd
/-- What Read leaves: new bytes, and both. -/
def ReadNow2 (D E : World → Nat → List Nat → DSt → Nat → Prop) (W w : World) (p : Nat) (fp : List Nat) (s : DSt) (m : Nat) (q : Nat) (fq : List Nat) (t : DSt) (km : Nat) (out : List Int) (e : Int) (r : Ending) (w' : World) : Prop :=
  ∃ A c fp', r = .returned (.tuple #[.slice A out.length c, .int .i64 e]) ∧ TRow w' (.slice A out.length c) out.length out ∧ (A = none → c = 0) ∧ (out.length ≤ c ∧ c ≤ 9223372036854775807) ∧ (∀ k ∈ rowOf (.slice A out.length c), W.heap.size ≤ k ∧ k ∉ fp' ∧ k ∉ fq) ∧ At2 D E W w' p fp' s m q fq t km ∧ Moved w w' fp
theorem At2.read {e : Int} {out : List Int} (h : At2 D E W w p fp s m q fq t km) (he : s.off = e) (ho : s.read = out) (hm : m ≤ 35184372088832) :
    Calls Tryd.prog 29 #[.pointer (some ⟨p, 0, none⟩)] w (ReadNow2 D E W w p fp s m q fq t km out e) := by
  subst he ho
  refine (L.read p fp s m w h.a.on hm).mono ?_
  rintro r w' ⟨v, fp', rfl, hT, hn, hD, hS⟩
  obtain ⟨A, c, rfl, h1, h2⟩ := t_shape hT
  exact ⟨A, c, fp', rfl, hT, h1, h2, fun k hk => ⟨Nat.le_trans h.a.old.size (hn k hk).1, (hn k hk).2, fun hf => by have := O.lt h.b.on k hf; have := (hn k hk).1; omega⟩, h.step O hD hS, hS.1⟩
end
end Dk
end Go.Proofs.YtekleamkpfeifaaDoor
