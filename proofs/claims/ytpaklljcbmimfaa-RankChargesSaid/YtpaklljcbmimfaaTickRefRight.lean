/-
  CONTRACT of the document's own Right: the same plain function.
-/
import Derived.Test.YtpaklljcbmimfaaRows
import Derived.Test.YtpaklljcbmimfaaTickSpec
import Derived.WalkKit
import Derived.ProofKit
import Derived.WalkLawsBesides
import Derived.WalkSpells
import Derived.IntWalk
namespace Go.Proofs.Ytpaklljcbmimfaa
namespace Tk
open Go.RowKit

set_option maxHeartbeats 400000 in
theorem refRight_any (t : Int) (w : World) : Calls Try.prog 13 #[.int .i64 t] w fun e w' => e = .returned (.bool (rB t)) ∧ w = w' := by
  by_cases h1 : 0 ≤ t
  · by_cases h2 : t ≤ 1099511627776
    · have H := Lib.hid (rB_yes h1 h2)
      go_enter Try.func13, Try.ntmps13
      go_wp2
      go_ret
      exact ⟨by rw [H.out]; rfl, rfl⟩
    · have H := Lib.hid (rB_high (t := t) (by omega))
      go_enter Try.func13, Try.ntmps13
      go_wp2
      go_ret
      exact ⟨by rw [H.out]; rfl, rfl⟩
  · have H := Lib.hid (rB_low (t := t) (by omega))
    go_enter Try.func13, Try.ntmps13
    go_wp2
    go_ret
    exact ⟨by rw [H.out]; rfl, rfl⟩

end Tk
end Go.Proofs.Ytpaklljcbmimfaa
