/-
  CONTRACT of tick.Add.
-/
import Derived.Test.YthcipnofccnplabTickRight
import Derived.Test.YthcipnofccnplabTickMost
namespace Go.Proofs.Ythcipnofccnplab
namespace Tk
open Go.RowKit

set_option maxHeartbeats 1000000 in
theorem add_any (t d : Int) (w : World) : Calls Try.prog 10 #[.int .i64 t, .int .i64 d] w fun e w' => e = .returned (.tuple #[.int .i64 (addN t d), .int .i64 (addE t d)]) ∧ w = w' := by
  cases hr : rB t
  · have HN := Lib.hid (show addN t d = 0 by exact addN_no1 hr)
    have HE := Lib.hid (show addE t d = 1 by exact addE_no1 hr)
    go_enter Try.func10, Try.ntmps10
    go_wp2_with (first | (go_at_call 9; refine (right_any _ _).mono ?_; rintro e w' ⟨rfl, rfl⟩) | (go_at_call 12; refine (most_any _ _).mono ?_; rintro e w' ⟨rfl, rfl⟩))
    go_ret2
    exact ⟨by rw [HN.out, HE.out]; rfl, rfl⟩
  · cases hs : rB d
    · have HN := Lib.hid (show addN t d = 0 by exact addN_no2 hs)
      have HE := Lib.hid (show addE t d = 1 by exact addE_no2 hs)
      go_enter Try.func10, Try.ntmps10
      go_wp2_with (first | (go_at_call 9; refine (right_any _ _).mono ?_; rintro e w' ⟨rfl, rfl⟩) | (go_at_call 12; refine (most_any _ _).mono ?_; rintro e w' ⟨rfl, rfl⟩))
      go_ret2
      exact ⟨by rw [HN.out, HE.out]; rfl, rfl⟩
    · have b1 := rB_lo hr
      have b2 := rB_hi hr
      have b3 := rB_lo hs
      have b4 := rB_hi hs
      have HN := Lib.hid (show addN t d = cutN (t + d) by rw [addN_yes hr hs]; rfl)
      have HE := Lib.hid (show addE t d = 0 by exact addE_yes hr hs)
      go_enter Try.func10, Try.ntmps10
      go_wp2_with (first | (go_at_call 9; refine (right_any _ _).mono ?_; rintro e w' ⟨rfl, rfl⟩) | (go_at_call 12; refine (most_any _ _).mono ?_; rintro e w' ⟨rfl, rfl⟩))
      go_ret2
      exact ⟨by rw [HN.out, HE.out]; rfl, rfl⟩

theorem add_is {t d v e : Int} (hn : addN t d = v) (he : addE t d = e) (w : World) : Calls Try.prog 10 #[.int .i64 t, .int .i64 d] w fun r w' => r = .returned (.tuple #[.int .i64 v, .int .i64 e]) ∧ w = w' := by
  subst hn; subst he; exact add_any t d w
end Tk
end Go.Proofs.Ythcipnofccnplab
