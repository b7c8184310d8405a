/-
  CONTRACT of hanseref02.Make.
-/
import Derived.Test.YtgifinilgieonaaProg
import Derived.Test.YtgifinilgieonaaChecked
import Derived.Test.YtgifinilgieonaaMem
import Derived.Laws.FloatArith
import Derived.Laws.ComplexArith
namespace Go.Proofs.Ytgifinilgieonaa
namespace Am
open Go.RowKit
/-- The amount of n nodes and l licences, in memory. -/
def amt (n l : Int) : Value := .complex .f64 (floatOfInt .f64 n) (floatOfInt .f64 l)
/-- May there be so many? -/
def cnt (n : Int) : Bool := decide (0 ≤ n ∧ n ≤ 1048576)
theorem cnt_yes {n : Int} (h : cnt n = true) : 0 ≤ n ∧ n ≤ 1048576 := by unfold cnt at h; simpa using h
theorem cnt_no {n : Int} (h : ¬ cnt n = true) : n < 0 ∨ 1048576 < n := by unfold cnt at h; simp at h; omega
set_option maxRecDepth 100000 in
theorem refmake_ok (n l : Int) (w : World) (hn : 0 ≤ n ∧ n ≤ 1048576) (hl : 0 ≤ l ∧ l ≤ 1048576) :
    Calls Try.prog 44 #[.int .i64 n, .int .i64 l] w fun e w' => e = .returned (.tuple #[amt n l, .int .i64 0]) ∧ w = w' := by
  obtain ⟨h1, h2⟩ := hn
  obtain ⟨h3, h4⟩ := hl
  go_enter Try.func44, Try.ntmps44
  go_wp2
  go_ret2
  exact ⟨rfl, rfl⟩
set_option maxRecDepth 100000 in
theorem refmake_no (n l : Int) (w : World) (h : (n < 0 ∨ 1048576 < n) ∨ (l < 0 ∨ 1048576 < l)) :
    Calls Try.prog 44 #[.int .i64 n, .int .i64 l] w fun e w' => e = .returned (.tuple #[.complex .f64 0 0, .int .i64 2]) ∧ w = w' := by
  rcases h with (h | h) | (h | h)
  all_goals
    go_enter Try.func44, Try.ntmps44
    go_wp2
    all_goals
      go_ret2
      exact ⟨rfl, rfl⟩
end Am
end Go.Proofs.Ytgifinilgieonaa
