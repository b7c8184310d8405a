/-
  CONTRACT of tick.Sub.
-/
import Derived.Test.YthcipnofccnplaaTickRight
namespace Go.Proofs.Ythcipnofccnplaa
namespace Tk
open Go.RowKit

set_option maxHeartbeats 1000000 in
theorem sub_any (t d : Int) (w : World) : Calls Try.prog 13 #[.int .i64 t, .int .i64 d] w fun e w' => e = .returned (.tuple #[.int .i64 (subN t d), .int .i64 (addE t d)]) ∧ w = w' := by
  cases hr : rB t
  · have HN := Lib.hid (show subN t d = 0 by exact subN_no1 hr)
    have HE := Lib.hid (show addE t d = 1 by exact addE_no1 hr)
    go_enter Try.func13, Try.ntmps13
    go_wp2_with (first | (go_at_call 9; refine (right_any _ _).mono ?_; rintro e w' ⟨rfl, rfl⟩))
    go_ret2
    exact ⟨by rw [HN.out, HE.out]; rfl, rfl⟩
  · cases hs : rB d
    · have HN := Lib.hid (show subN t d = 0 by exact subN_no2 hs)
      have HE := Lib.hid (show addE t d = 1 by exact addE_no2 hs)
      go_enter Try.func13, Try.ntmps13
      go_wp2_with (first | (go_at_call 9; refine (right_any _ _).mono ?_; rintro e w' ⟨rfl, rfl⟩))
      go_ret2
      exact ⟨by rw [HN.out, HE.out]; rfl, rfl⟩
    · have b1 := rB_lo hr
      have b2 := rB_hi hr
      have b3 := rB_lo hs
      have b4 := rB_hi hs
      by_cases hf : t = 1099511627776
      · subst hf
        have HN := Lib.hid (show subN 1099511627776 d = 1099511627776 by exact subN_ever hs)
        have HE := Lib.hid (show addE 1099511627776 d = 0 by exact addE_yes hr hs)
        go_enter Try.func13, Try.ntmps13
        go_wp2_with (first | (go_at_call 9; refine (right_any _ _).mono ?_; rintro e w' ⟨rfl, rfl⟩))
        go_ret2
        exact ⟨by rw [HN.out, HE.out]; rfl, rfl⟩
      · have hlt : t < 1099511627776 := by omega
        have hff : (t == 1099511627776) = false := beq_eq_false_iff_ne.2 hf
        clear hf
        by_cases hk : d ≤ t
        · have HN := Lib.hid (show subN t d = t - d by exact subN_ge hr hs hlt (by omega))
          have HE := Lib.hid (show addE t d = 0 by exact addE_yes hr hs)
          go_enter Try.func13, Try.ntmps13
          go_wp2_with (first | (go_at_call 9; refine (right_any _ _).mono ?_; rintro e w' ⟨rfl, rfl⟩))
          go_ret2
          exact ⟨by rw [HN.out, HE.out]; rfl, rfl⟩
        · have HN := Lib.hid (show subN t d = 0 by exact subN_le hr hs hlt (by omega))
          have HE := Lib.hid (show addE t d = 0 by exact addE_yes hr hs)
          go_enter Try.func13, Try.ntmps13
          go_wp2_with (first | (go_at_call 9; refine (right_any _ _).mono ?_; rintro e w' ⟨rfl, rfl⟩))
          go_ret2
          exact ⟨by rw [HN.out, HE.out]; rfl, rfl⟩

theorem sub_is {t d v e : Int} (hn : subN t d = v) (he : addE t d = e) (w : World) : Calls Try.prog 13 #[.int .i64 t, .int .i64 d] w fun r w' => r = .returned (.tuple #[.int .i64 v, .int .i64 e]) ∧ w = w' := by
  subst hn; subst he; exact sub_any t d w
end Tk
end Go.Proofs.Ythcipnofccnplaa
