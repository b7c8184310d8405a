/-
  The table of package frame: what it holds when a call begins; that a call which moves no such block keeps it. Four bits of the register at a time.
-/
import Derived.Test.YtekleamkpfeifaaDoorFrameRefSeal
import Derived.Test.YtekleamkpfeifaaDoorRows
import Derived.LaidHandle
import Derived.MakeChecks
import Derived.Lib.LaidTab
namespace Go.Proofs.YtekleamkpfeifaaDoor
namespace Fr
open Go.RowKit
def shiftTab : List Int := [0, 274646895, 549293790, 820201905, 1098587580, 1361435347, 1640403810, 1905808397, 2197175160, 2460548119, 2722870694, 2987750089, 3280807620, 3553878443, 3811616794, 4084100981]
/-- The table lies where it lay. -/
def Ld (w : World) : Prop := ∀ (i : Nat) (x : Int), shiftTab[i]? = some x → w.cell? ⟨0, i, none⟩ = some (.int .u32 x)
theorem Ld.moves {w w' : World} {S : List Nat} (h : Ld w) (hM : Moved w w' S) (hS : 0 ∉ S) : Ld w' := by
  intro i x hx
  have hc := h i x hx
  rw [World.cell?_of_block (w := w) (hM.block _ (World.block_lt_of_cell? w _ hc) hS)]
  exact hc
theorem Ld.moved {w w' : World} (h : Ld w) (hM : Moved w w' []) : Ld w' := h.moves hM (fun h => by cases h)
theorem Ld.alloc {w : World} (h : Ld w) (o : Obj) : Ld (w.alloc o) := h.moved ((Moved.refl w []).alloc o)
theorem Ld.drewN {w : World} (h : Ld w) (n : Nat) : Ld (w.drewN n) := h.moved ((Moved.refl w []).drewN n)
/-- What the statement's condition tells. -/
theorem ld_of {W : World} (h : laidMetH Tryd.prog [("hanse/frame.shifted", Rows.laid_hanse_frame_shifted)] W) : Ld W := by
  rw [MakeChecks.laidMetH_plain _ _ _ (by kernel_rfl)] at h
  have ht : Lib.TabIs Tryd.prog W "hanse/frame.shifted" .u32 shiftTab := Lib.tabIs_of_head (t := 90) (e := 79) (n := 16) (rest := []) (g := 0) (by kernel_rfl) (by kernel_rfl) Tryd.underlying90 Tryd.underlying79 (by kernel_rfl) (by kernel_rfl) h
  intro i x hx
  obtain ⟨hi, hx⟩ := List.getElem?_eq_some_iff.1 hx
  have hc := ht.cell (g := 0) (by kernel_rfl) i hi
  rw [hc, List.getD_eq_getElem?_getD, List.getElem?_eq_getElem hi, hx]
  rfl
theorem tab_at : ∀ i, i < 16 → shiftTab[i]? = some (((ticks 4 i : Nat) : Int)) := by decide
theorem bits_part (r : Nat) : (r / 16 * 2 ^ 4) ^^^ (r % 16) = r := by
  apply Nat.eq_of_testBit_eq
  intro i
  rw [Nat.testBit_xor, Nat.testBit_mul_two_pow, show r % 16 = r % 2 ^ 4 from rfl, Nat.testBit_mod_two_pow, show r / 16 = r / 2 ^ 4 from rfl, Nat.testBit_div_two_pow]
  by_cases h : 4 ≤ i
  · rw [show i - 4 + 4 = i by omega]; simp [h, show ¬ i < 4 by omega]
  · simp [h, show i < 4 by omega]
theorem ticks_four (r : Nat) : ticks 4 r = (r / 16) ^^^ ticks 4 (r % 16) := by
  conv => lhs; rw [← bits_part r, ticks_xor, ticks_shift]
end Fr
end Go.Proofs.YtekleamkpfeifaaDoor
