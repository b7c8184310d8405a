/-
  An amount in memory.
-/
import Derived.Test.YtpghaffjfinpeabProg
import Derived.Test.YtpghaffjfinpeabChecked
import Derived.Test.YtpghaffjfinpeabMem
import Derived.Laws.FloatArith
import Derived.Laws.ComplexArith
namespace Go.Proofs.Ytpghaffjfinpeab
namespace Am
open Go.RowKit
/-- The amount of n nodes and l licences, in memory. -/
def amt (n l : Int) : Value := .complex .f64 (floatOfInt .f64 n) (floatOfInt .f64 l)
end Am
end Go.Proofs.Ytpghaffjfinpeab
