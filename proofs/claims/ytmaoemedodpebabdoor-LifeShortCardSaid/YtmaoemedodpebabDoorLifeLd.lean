/-
  The table of package life: the rows of events that lead to each state, as they lie when a call begins; a call that moves no such block keeps them.
-/
import Derived.Test.YtmaoemedodpebabDoorLifePlain
import Derived.Test.YtmaoemedodpebabDoorMem
import Derived.Test.YtmaoemedodpebabDoorWords
import Derived.Test.YtmaoemedodpebabDoorRows
import Derived.LaidHandle
import Derived.MakeChecks
import Derived.Lib.LaidTab
namespace Go.Proofs.YtmaoemedodpebabDoor
namespace Lf
open Go.RowKit
def leadT : List (List Int) := [[], [1], [1, 2], [1, 2, 3], [1, 5], [1, 5, 7], [1, 2, 8], [1, 9]]
/-- The table lies where it lay. -/
def Ld (w : World) : Prop := ∀ (s : Nat) (l : List Int), leadT[s]? = some l → ∃ A c, w.cell? ⟨0, s, none⟩ = some (.slice (some A) l.length c) ∧ l.length ≤ c ∧ c ≤ maxLen ∧ IRow w (some A) l
theorem irow_moved {w w' : World} {A : Option Addr} {xs : List Int} (h : IRow w A xs) (hM : Moved w w' []) : IRow w' A xs :=
  h.keep fun _ hp => World.cell?_of_block (w := w) (hM.block _ hp (fun h => by cases h))
theorem Ld.moved {w w' : World} (h : Ld w) (hM : Moved w w' []) : Ld w' := by
  intro s l hl
  obtain ⟨A, c, h1, h2, h3, h4⟩ := h s l hl
  exact ⟨A, c, by rw [World.cell?_of_block (w := w) (hM.block _ (World.block_lt_of_cell? w _ h1) (fun h => by cases h)), h1], h2, h3, irow_moved h4 hM⟩
/-- A slice of ints that reads as given. -/
theorem ints_told {H : Type} {enc : TypeId × Value → H} {P : Program} {w : World} {base : Nat} {sp : Nat → Bool} {held : Bool} {fuel : Nat} {t e : TypeId} {cs : List Value} {xs : List Int} {p : List MemPlace}
    (ht : P.underlying t = some (.slice e)) (he : P.underlying e = some (.int .i64)) (hc : P.cellsOf e = 1)
    (h : DataW.trod enc P w base sp held fuel t cs = some (.slice (xs.map fun x => .lit (.int .i64 x)) [], p)) :
    ∃ A c, cs = [.slice (some A) xs.length c] ∧ xs.length ≤ c ∧ c ≤ maxLen ∧ IRow w (some A) xs := by
  rcases DataW.trod_slice ht h with ⟨_, hx⟩ | ⟨a, len, cap, el, rs, m, rfl, hcs, hx, hlec, hlc, hcm, hel, helem, hsp, _⟩
  · cases hx
  have e0 := congrArg Prod.fst hx
  simp only [DataW.slice.injEq] at e0
  obtain ⟨eE, eR⟩ := e0
  have hlen : len = xs.length := by
    have := congrArg List.length eE
    simp at this
    omega
  have hcell : ∀ i, i < xs.length → w.cell? (a.add i) = some (.int .i64 (xs.getD i 0)) := by
    intro i hi
    have h1 := helem i (by omega)
    rw [hc] at h1
    obtain ⟨b, hb⟩ : ∃ b, el[i]? = some b := ⟨el[i]'(by omega), List.getElem?_eq_getElem (by omega)⟩
    rw [hb] at h1
    obtain ⟨ce, hce, hte⟩ := Option.bind_eq_some_iff.1 h1
    obtain ⟨z, hz, hbz, _⟩ := DataW.trod_int he hte
    have hb1 : b.1 = .lit (.int .i64 (xs.getD i 0)) := by
      have := congrArg (·[i]?) eE
      simp [hb, hi] at this
      rw [List.getD_eq_getElem?_getD, List.getElem?_eq_getElem hi]
      exact this.symm
    rw [hbz] at hb1
    simp only [DataW.lit.injEq, Lit.int.injEq, true_and] at hb1
    obtain ⟨_, _, hcc⟩ := World.cells?_some hce
    have := hcc 0 (by omega)
    rw [hz] at this
    simp only [Nat.mul_one] at this
    have e1 : (a.add i).add 0 = a.add i := by simp [Addr.add]
    rw [e1] at this
    rw [this, ← hb1]
    rfl
  subst hlen
  have hI := IRow.of_cells (w := w) (x := a) (len := xs.length) (zs := xs) (Nat.le_refl _) hcell
  rw [List.take_length] at hI
  exact ⟨a, cap, hcs, by omega, by omega, hI⟩
set_option maxRecDepth 100000 in
/-- What the statement's condition tells. -/
theorem ld_of {W : World} (h : laidMetH Tryd.prog [("hanse/life.leads", Rows.laid_hanse_life_leads)] W) : Ld W := by
  rw [MakeChecks.laidMetH_plain _ _ _ (by kernel_rfl)] at h
  obtain ⟨ps, ⟨g', t', cs, fuel, p, q, hg', ht', hvar, hd, _, _⟩, _⟩ := h
  have hg : Tryd.prog.globalNamed "hanse/life.leads" = some 0 := by kernel_rfl
  have hty : (Tryd.prog.globals[0]?).map (·.type) = some 30 := by kernel_rfl
  obtain rfl := Option.some.inj (hg.symm.trans hg')
  obtain rfl := Option.some.inj (hty.symm.trans ht')
  intro s l hl
  have hs : s < 8 := (List.getElem?_eq_some_iff.1 hl).1
  cases fuel with
  | zero => simp [DataW.trod] at hd
  | succ fuel =>
    have hce : Tryd.prog.cellsOf 22 = 1 := by kernel_rfl
    have hct : Tryd.prog.cellsOf 30 = 8 := by kernel_rfl
    simp only [DataW.trod, Tryd.underlying30, hce, hct, Nat.mul_one] at hd
    split at hd
    · rename_i hcl
      obtain ⟨xs, hm, hx⟩ := Option.map_eq_some_iff.1 hd
      have hxs : xs.map (·.1) = leadT.map fun l => (DataW.slice (l.map fun x => .lit (.int .i64 x)) [] : DataW Unit) := by
        have := congrArg Prod.fst hx
        simpa [Rows.laid_hanse_life_leads, leadT] using this
      obtain ⟨b, hb, hf⟩ := Lib.mapM_at hm s s (by simp [hs])
      have hb1 : b.1 = .slice (l.map fun x => .lit (.int .i64 x)) [] := by
        have := congrArg (·[s]?) hxs
        simpa [hb, hl] using this
      obtain ⟨b1, b2⟩ := b
      dsimp only at hb1
      subst hb1
      obtain ⟨A, c, h1, h2, h3, h4⟩ := ints_told Tryd.underlying22 Tryd.underlying3 (by kernel_rfl) hf
      refine ⟨A, c, ?_, h2, h3, h4⟩
      have h5 := congrArg (·[0]?) h1
      rw [World.var?_cell hg hvar s, ← Array.getElem?_toList]
      simpa [List.getElem?_take, List.getElem?_drop] using h5
    · cases hd
end Lf
end Go.Proofs.YtmaoemedodpebabDoor
