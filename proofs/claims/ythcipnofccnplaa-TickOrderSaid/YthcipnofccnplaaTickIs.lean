/-
  CONTRACTS of package tick with what is answered given by an equation.
-/
import Derived.Test.YthcipnofccnplaaTickCalls
import Derived.Test.YthcipnofccnplaaTickMath
import Derived.Test.YthcipnofccnplaaTickWakes
namespace Go.Proofs.Ythcipnofccnplaa
namespace Tk
theorem add_is {t d n e : Int} (hn : addN t d = n) (he : addE t d = e) (w : World) : Calls Try.prog 11 #[.int .i64 t, .int .i64 d] w fun r w' => r = .returned (.tuple #[.int .i64 n, .int .i64 e]) ∧ w = w' := by
  subst hn; subst he; exact add_any t d w
theorem sub_is {t d n e : Int} (hn : subN t d = n) (he : addE t d = e) (w : World) : Calls Try.prog 13 #[.int .i64 t, .int .i64 d] w fun r w' => r = .returned (.tuple #[.int .i64 n, .int .i64 e]) ∧ w = w' := by
  subst hn; subst he; exact sub_any t d w
theorem share_is {t n d v e : Int} (hn : shN t n d = v) (he : shE t n d = e) (w : World) : Calls Try.prog 15 #[.int .i64 t, .int .i64 n, .int .i64 d] w fun r w' => r = .returned (.tuple #[.int .i64 v, .int .i64 e]) ∧ w = w' := by
  subst hn; subst he; exact share_any t n d w
theorem shareUp_is {t n d v e : Int} (hn : shuN t n d = v) (he : shE t n d = e) (w : World) : Calls Try.prog 17 #[.int .i64 t, .int .i64 n, .int .i64 d] w fun r w' => r = .returned (.tuple #[.int .i64 v, .int .i64 e]) ∧ w = w' := by
  subst hn; subst he; exact shareUp_any t n d w
end Tk
end Go.Proofs.Ythcipnofccnplaa
