/-
  PLAIN: the number that stands for a whole number.
-/
import Derived.Test.YtpghaffjfinpeabPackEnc
namespace Go.Proofs.Ytpghaffjfinpeab
namespace Pk
/-- What a whole number is written as. -/
def zig (n : Int) : Nat := if 0 ≤ n then 2 * n.toNat else 2 * (-n - 1).toNat + 1
end Pk
end Go.Proofs.Ytpghaffjfinpeab
