/-
  CONTRACT of tick.atMostForever.
-/
import Derived.Test.YthcipnofccnplabRows
import Derived.Test.YthcipnofccnplabTickSpec
import Derived.WalkKit
import Derived.ProofKit
import Derived.WalkLawsBesides
import Derived.WalkSpells
import Derived.IntWalk
namespace Go.Proofs.Ythcipnofccnplab
namespace Tk
open Go.RowKit

set_option maxHeartbeats 400000 in
theorem most_any (t : Int) (w : World) : Calls Try.prog 12 #[.int .i64 t] w fun e w' => e = .returned (.int .i64 (cutN t)) ∧ w = w' := by
  by_cases h2 : t ≤ 1099511627776
  · have H := Lib.hid (show cutN t = t by unfold cutN; rw [if_pos h2])
    go_enter Try.func12, Try.ntmps12
    go_wp2
    go_ret
    exact ⟨by rw [H.out]; rfl, rfl⟩
  · have H := Lib.hid (show cutN t = 1099511627776 by unfold cutN; rw [if_neg h2])
    go_enter Try.func12, Try.ntmps12
    go_wp2
    go_ret
    exact ⟨by rw [H.out]; rfl, rfl⟩

end Tk
end Go.Proofs.Ythcipnofccnplab
