/-
  An amount in memory.
-/
import Derived.Test.YtnabnoaephjceaaProg
import Derived.Test.YtnabnoaephjceaaChecked
import Derived.Test.YtnabnoaephjceaaMem
import Derived.Laws.FloatArith
import Derived.Laws.ComplexArith
namespace Go.Proofs.Ytnabnoaephjceaa
namespace Am
open Go.RowKit
/-- The amount of n nodes and l licences, in memory. -/
def amt (n l : Int) : Value := .complex .f64 (floatOfInt .f64 n) (floatOfInt .f64 l)
/-- May there be so many? -/
def cnt (n : Int) : Bool := decide (0 ≤ n ∧ n ≤ 1048576)
theorem cnt_yes {n : Int} (h : cnt n = true) : 0 ≤ n ∧ n ≤ 1048576 := by unfold cnt at h; simpa using h
theorem cnt_no {n : Int} (h : ¬ cnt n = true) : n < 0 ∨ 1048576 < n := by unfold cnt at h; simp at h; omega
end Am
end Go.Proofs.Ytnabnoaephjceaa
