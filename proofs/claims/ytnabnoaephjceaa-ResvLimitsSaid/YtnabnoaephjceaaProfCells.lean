/-
  Steps of what is free, in memory; small amounts; where a tick stands among them.
-/
import Derived.Test.YtnabnoaephjceaaAmtRight
import Derived.Test.YtnabnoaephjceaaMemStep
import Derived.BigRegion
import Derived.Deep.QuietTactic
import Derived.BigQuiet
import Derived.IntWalk
namespace Go.Proofs.Ytnabnoaephjceaa
namespace Pf
open Go.RowKit Am
/-- A step: from the tick t on n nodes are free. -/
structure Sp where
  t : Nat
  n : Nat
deriving DecidableEq
/-- Steps that are read from a slice on. -/
def SRow (w : World) (A : Option Addr) (L : List Sp) : Prop :=
  ∀ i s, L[i]? = some s → ∃ b off, A = some ⟨b, off, none⟩ ∧ w.cell? ⟨b, off + i * 2, none⟩ = some (.int .i64 s.t) ∧ w.cell? ⟨b, off + i * 2 + 1, none⟩ = some (amt s.n 0)
theorem SRow.keep {w w' : World} {A : Option Addr} {L : List Sp} (h : SRow w A L) (hk : ∀ p : Addr, p.block < w.heap.size → w'.cell? p = w.cell? p) : SRow w' A L := by
  intro i s hs
  obtain ⟨b, off, e, h1, h2⟩ := h i s hs
  exact ⟨b, off, e, (hk _ (World.block_lt_of_cell? w _ h1)).trans h1, (hk _ (World.block_lt_of_cell? w _ h2)).trans h2⟩
theorem cell_still {w w' : World} (h : Moved w w' []) (p : Addr) (hp : p.block < w.heap.size) : w'.cell? p = w.cell? p := World.cell?_of_block (h.block p.block hp (by simp))
theorem Moved.then0 {w w1 w2 : World} {S : List Nat} (h : Moved w w1 S) (g : Moved w1 w2 []) : Moved w w2 S := h.trans g (fun _ h => by cases h)
theorem cell_past {w w' : World} {p : Nat} (h : Moved w w' [p]) {q : Addr} {v : Value} (hq : q.block ≠ p) (hc : w.cell? q = some v) : w'.cell? q = some v :=
  (World.cell?_of_block (h.block q.block (World.block_lt_of_cell? w _ hc) (by simpa using hq))).trans hc
theorem SRow.still {w w' : World} {A : Option Addr} {L : List Sp} (h : SRow w A L) (hm : Moved w w' []) : SRow w' A L := h.keep fun p hp => cell_still hm p hp
theorem SRow.at_ {w : World} {A : Option Addr} {L : List Sp} (h : SRow w A L) {i : Nat} {s : Sp} (hs : L[i]? = some s) : ∃ b off, A = some ⟨b, off, none⟩ ∧ w.cell? ⟨b, off + i * 2, none⟩ = some (.int .i64 s.t) ∧ w.cell? ⟨b, off + i * 2 + 1, none⟩ = some (amt s.n 0) := h i s hs
/-- The first c steps, and they alone, begin at t or ahead of it. -/
def Upto (L : List Sp) (t c : Nat) : Prop := c ≤ L.length ∧ ∀ i s, L[i]? = some s → (s.t ≤ t ↔ i < c)
end Pf
end Go.Proofs.Ytnabnoaephjceaa
