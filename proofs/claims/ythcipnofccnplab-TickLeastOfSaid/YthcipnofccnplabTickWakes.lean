/-
  CONTRACT of the statements' helper 'wakes': it answers true.
-/
import Derived.Test.YthcipnofccnplabTickAdd
namespace Go.Proofs.Ythcipnofccnplab
namespace Tk
open Go.RowKit
theorem add35 : addN 3 5 = 8 := by decide
theorem adde35 : addE 3 5 = 0 := by decide
set_option maxHeartbeats 400000 in
theorem wakes_any (w : World) : Calls Try.prog 6 #[] w fun e w' => e = .returned (.bool true) ∧ w = w' := by
  have h1 := add35
  have h2 := adde35
  go_enter Try.func6, Try.ntmps6
  go_wp2_with (go_at_call 10; refine (add_any _ _ _).mono ?_; rintro e w' ⟨rfl, rfl⟩)
  go_ret
  exact ⟨rfl, rfl⟩
end Tk
end Go.Proofs.Ythcipnofccnplab
