/-
  CONTRACTS of the document's own answers for ticks: they are the same plain functions.
-/
import Derived.Test.YthcipnofccnplaaTickRefRight
namespace Go.Proofs.Ythcipnofccnplaa
namespace Tk
open Go.RowKit

set_option maxHeartbeats 400000 in
theorem refCut_any (t : Int) (w : World) : Calls Try.prog 27 #[.int .i64 t] w fun e w' => e = .returned (.int .i64 (cutN t)) ∧ w = w' := by
  by_cases h2 : t ≤ 1099511627776
  · have H := Lib.hid (show cutN t = t by unfold cutN; rw [if_pos h2])
    go_enter Try.func27, Try.ntmps27
    go_wp2
    go_ret
    exact ⟨by rw [H.out]; rfl, rfl⟩
  · have H := Lib.hid (show cutN t = 1099511627776 by unfold cutN; rw [if_neg h2])
    go_enter Try.func27, Try.ntmps27
    go_wp2
    go_ret
    exact ⟨by rw [H.out]; rfl, rfl⟩

set_option maxHeartbeats 1000000 in
theorem refMay_any (t n d : Int) (w : World) : Calls Try.prog 26 #[.int .i64 t, .int .i64 n, .int .i64 d] w fun e w' => e = .returned (.bool (mayB t n d)) ∧ w = w' := by
  cases hr : rB t
  · have H := Lib.hid (show mayB t n d = false from by simp [mayB, hr])
    go_enter Try.func26, Try.ntmps26
    go_wp2_with (first | (go_at_call 10; refine (refRight_any _ _).mono ?_; rintro e w' ⟨rfl, rfl⟩))
    go_ret
    exact ⟨by rw [H.out]; rfl, rfl⟩
  · by_cases h1 : n < 0
    · have H := Lib.hid (show mayB t n d = false from mayB_h1 h1)
      go_enter Try.func26, Try.ntmps26
      go_wp2_with (first | (go_at_call 10; refine (refRight_any _ _).mono ?_; rintro e w' ⟨rfl, rfl⟩))
      go_ret
      exact ⟨by rw [H.out]; rfl, rfl⟩
    · have h1' : 0 ≤ n := by omega
      clear h1
      by_cases h2 : 1048576 < n
      · have H := Lib.hid (show mayB t n d = false from mayB_h2 h2)
        go_enter Try.func26, Try.ntmps26
        go_wp2_with (first | (go_at_call 10; refine (refRight_any _ _).mono ?_; rintro e w' ⟨rfl, rfl⟩))
        go_ret
        exact ⟨by rw [H.out]; rfl, rfl⟩
      · have h2' : n ≤ 1048576 := by omega
        clear h2
        by_cases h3 : d < 1
        · have H := Lib.hid (show mayB t n d = false from mayB_h3 h3)
          go_enter Try.func26, Try.ntmps26
          go_wp2_with (first | (go_at_call 10; refine (refRight_any _ _).mono ?_; rintro e w' ⟨rfl, rfl⟩))
          go_ret
          exact ⟨by rw [H.out]; rfl, rfl⟩
        · have h3' : 1 ≤ d := by omega
          clear h3
          by_cases h4 : 1048576 < d
          · have hd : decide (d ≤ 1048576) = false := decide_eq_false (by omega)
            have H := Lib.hid (show mayB t n d = false from mayB_h4 h4)
            go_enter Try.func26, Try.ntmps26
            go_wp2_with (first | (go_at_call 10; refine (refRight_any _ _).mono ?_; rintro e w' ⟨rfl, rfl⟩))
            go_ret
            exact ⟨by rw [H.out]; rfl, rfl⟩
          · have h4' : d ≤ 1048576 := by omega
            clear h4
            have H := Lib.hid (show mayB t n d = true from mayB_mk hr h1' h2' h3' h4')
            go_enter Try.func26, Try.ntmps26
            go_wp2_with (first | (go_at_call 10; refine (refRight_any _ _).mono ?_; rintro e w' ⟨rfl, rfl⟩))
            go_ret
            exact ⟨by rw [H.out]; rfl, rfl⟩

set_option maxHeartbeats 1000000 in
theorem refAdd_any (t d : Int) (w : World) : Calls Try.prog 12 #[.int .i64 t, .int .i64 d] w fun e w' => e = .returned (.tuple #[.int .i64 (addN t d), .int .i64 (addE t d)]) ∧ w = w' := by
  cases hr : rB t
  · have HN := Lib.hid (show addN t d = 0 by exact addN_no1 hr)
    have HE := Lib.hid (show addE t d = 1 by exact addE_no1 hr)
    go_enter Try.func12, Try.ntmps12
    go_wp2_with (first | (go_at_call 10; refine (refRight_any _ _).mono ?_; rintro e w' ⟨rfl, rfl⟩))
    go_ret2
    exact ⟨by rw [HN.out, HE.out]; rfl, rfl⟩
  · cases hs : rB d
    · have HN := Lib.hid (show addN t d = 0 by exact addN_no2 hs)
      have HE := Lib.hid (show addE t d = 1 by exact addE_no2 hs)
      go_enter Try.func12, Try.ntmps12
      go_wp2_with (first | (go_at_call 10; refine (refRight_any _ _).mono ?_; rintro e w' ⟨rfl, rfl⟩))
      go_ret2
      exact ⟨by rw [HN.out, HE.out]; rfl, rfl⟩
    · have b1 := rB_lo hr
      have b2 := rB_hi hr
      have b3 := rB_lo hs
      have b4 := rB_hi hs
      by_cases hc : t + d ≤ 1099511627776
      · have HN := Lib.hid (show addN t d = t + d by rw [addN_yes hr hs, if_pos hc])
        have HE := Lib.hid (show addE t d = 0 by exact addE_yes hr hs)
        go_enter Try.func12, Try.ntmps12
        go_wp2_with (first | (go_at_call 10; refine (refRight_any _ _).mono ?_; rintro e w' ⟨rfl, rfl⟩))
        go_ret2
        exact ⟨by rw [HN.out, HE.out]; rfl, rfl⟩
      · have HN := Lib.hid (show addN t d = 1099511627776 by rw [addN_yes hr hs, if_neg hc])
        have HE := Lib.hid (show addE t d = 0 by exact addE_yes hr hs)
        go_enter Try.func12, Try.ntmps12
        go_wp2_with (first | (go_at_call 10; refine (refRight_any _ _).mono ?_; rintro e w' ⟨rfl, rfl⟩))
        go_ret2
        exact ⟨by rw [HN.out, HE.out]; rfl, rfl⟩

set_option maxHeartbeats 1000000 in
theorem refSub_any (t d : Int) (w : World) : Calls Try.prog 14 #[.int .i64 t, .int .i64 d] w fun e w' => e = .returned (.tuple #[.int .i64 (subN t d), .int .i64 (addE t d)]) ∧ w = w' := by
  cases hr : rB t
  · have HN := Lib.hid (show subN t d = 0 by exact subN_no1 hr)
    have HE := Lib.hid (show addE t d = 1 by exact addE_no1 hr)
    go_enter Try.func14, Try.ntmps14
    go_wp2_with (first | (go_at_call 10; refine (refRight_any _ _).mono ?_; rintro e w' ⟨rfl, rfl⟩))
    go_ret2
    exact ⟨by rw [HN.out, HE.out]; rfl, rfl⟩
  · cases hs : rB d
    · have HN := Lib.hid (show subN t d = 0 by exact subN_no2 hs)
      have HE := Lib.hid (show addE t d = 1 by exact addE_no2 hs)
      go_enter Try.func14, Try.ntmps14
      go_wp2_with (first | (go_at_call 10; refine (refRight_any _ _).mono ?_; rintro e w' ⟨rfl, rfl⟩))
      go_ret2
      exact ⟨by rw [HN.out, HE.out]; rfl, rfl⟩
    · have b1 := rB_lo hr
      have b2 := rB_hi hr
      have b3 := rB_lo hs
      have b4 := rB_hi hs
      by_cases hf : t = 1099511627776
      · subst hf
        have HN := Lib.hid (show subN 1099511627776 d = 1099511627776 by exact subN_ever hs)
        have HE := Lib.hid (show addE 1099511627776 d = 0 by exact addE_yes hr hs)
        go_enter Try.func14, Try.ntmps14
        go_wp2_with (first | (go_at_call 10; refine (refRight_any _ _).mono ?_; rintro e w' ⟨rfl, rfl⟩))
        go_ret2
        exact ⟨by rw [HN.out, HE.out]; rfl, rfl⟩
      · have hlt : t < 1099511627776 := by omega
        have hff : (t == 1099511627776) = false := beq_eq_false_iff_ne.2 hf
        clear hf
        by_cases hk : d < t
        · have HN := Lib.hid (show subN t d = t - d by exact subN_ge hr hs hlt (by omega))
          have HE := Lib.hid (show addE t d = 0 by exact addE_yes hr hs)
          go_enter Try.func14, Try.ntmps14
          go_wp2_with (first | (go_at_call 10; refine (refRight_any _ _).mono ?_; rintro e w' ⟨rfl, rfl⟩))
          go_ret2
          exact ⟨by rw [HN.out, HE.out]; rfl, rfl⟩
        · have HN := Lib.hid (show subN t d = 0 by exact subN_le hr hs hlt (by omega))
          have HE := Lib.hid (show addE t d = 0 by exact addE_yes hr hs)
          go_enter Try.func14, Try.ntmps14
          go_wp2_with (first | (go_at_call 10; refine (refRight_any _ _).mono ?_; rintro e w' ⟨rfl, rfl⟩))
          go_ret2
          exact ⟨by rw [HN.out, HE.out]; rfl, rfl⟩

set_option maxHeartbeats 1000000 in
theorem refShare_any (t n d : Int) (w : World) : Calls Try.prog 16 #[.int .i64 t, .int .i64 n, .int .i64 d] w fun e w' => e = .returned (.tuple #[.int .i64 (shN t n d), .int .i64 (shE t n d)]) ∧ w = w' := by
  cases hm : mayB t n d
  · have HN := Lib.hid (show shN t n d = 0 by exact shN_no hm)
    have HE := Lib.hid (show shE t n d = 1 by exact shE_no hm)
    go_enter Try.func16, Try.ntmps16
    go_wp2_with (first | (go_at_call 26; refine (refMay_any _ _ _ _).mono ?_; rintro e w' ⟨rfl, rfl⟩) | (go_at_call 27; refine (refCut_any _ _).mono ?_; rintro e w' ⟨rfl, rfl⟩))
    go_ret2
    exact ⟨by rw [HN.out, HE.out]; rfl, rfl⟩
  · by_cases hf : t = 1099511627776
    · subst hf
      have HN := Lib.hid (show shN 1099511627776 n d = 1099511627776 by exact shN_ever hm)
      have HE := Lib.hid (show shE 1099511627776 n d = 0 by exact shE_yes hm)
      go_enter Try.func16, Try.ntmps16
      go_wp2_with (first | (go_at_call 26; refine (refMay_any _ _ _ _).mono ?_; rintro e w' ⟨rfl, rfl⟩) | (go_at_call 27; refine (refCut_any _ _).mono ?_; rintro e w' ⟨rfl, rfl⟩))
      go_ret2
      exact ⟨by rw [HN.out, HE.out]; rfl, rfl⟩
    · have hff : (t == 1099511627776) = false := beq_eq_false_iff_ne.2 hf
      obtain ⟨hr, b3, b4, b5, b6⟩ := mayB_parts hm
      have b1 := rB_lo hr
      have b2 := rB_hi hr
      have b7 := prod_lo b1 b3
      have b8 := prod_hi b2 b3 b4
      have HN := Lib.hid (show shN t n d = cutN (t * n / d) from shN_yes hm (by omega))
      have HE := Lib.hid (shE_yes hm)
      clear hr hf
      go_enter Try.func16, Try.ntmps16
      go_wp2_with (first | (go_at_call 26; refine (refMay_any _ _ _ _).mono ?_; rintro e w' ⟨rfl, rfl⟩) | (go_at_call 27; refine (refCut_any _ _).mono ?_; rintro e w' ⟨rfl, rfl⟩))
      go_ret2
      exact ⟨by rw [HN.out, HE.out]; rfl, rfl⟩

set_option maxHeartbeats 1000000 in
theorem refShareUp_any (t n d : Int) (w : World) : Calls Try.prog 18 #[.int .i64 t, .int .i64 n, .int .i64 d] w fun e w' => e = .returned (.tuple #[.int .i64 (shuN t n d), .int .i64 (shE t n d)]) ∧ w = w' := by
  cases hm : mayB t n d
  · have HN := Lib.hid (show shuN t n d = 0 by exact shuN_no hm)
    have HE := Lib.hid (show shE t n d = 1 by exact shE_no hm)
    go_enter Try.func18, Try.ntmps18
    go_wp2_with (first | (go_at_call 26; refine (refMay_any _ _ _ _).mono ?_; rintro e w' ⟨rfl, rfl⟩) | (go_at_call 27; refine (refCut_any _ _).mono ?_; rintro e w' ⟨rfl, rfl⟩))
    go_ret2
    exact ⟨by rw [HN.out, HE.out]; rfl, rfl⟩
  · by_cases hf : t = 1099511627776
    · subst hf
      have HN := Lib.hid (show shuN 1099511627776 n d = 1099511627776 by exact shuN_ever hm)
      have HE := Lib.hid (show shE 1099511627776 n d = 0 by exact shE_yes hm)
      go_enter Try.func18, Try.ntmps18
      go_wp2_with (first | (go_at_call 26; refine (refMay_any _ _ _ _).mono ?_; rintro e w' ⟨rfl, rfl⟩) | (go_at_call 27; refine (refCut_any _ _).mono ?_; rintro e w' ⟨rfl, rfl⟩))
      go_ret2
      exact ⟨by rw [HN.out, HE.out]; rfl, rfl⟩
    · have hff : (t == 1099511627776) = false := beq_eq_false_iff_ne.2 hf
      obtain ⟨hr, b3, b4, b5, b6⟩ := mayB_parts hm
      have b1 := rB_lo hr
      have b2 := rB_hi hr
      have b7 := prod_lo b1 b3
      have b8 := prod_hi b2 b3 b4
      have HN := Lib.hid (show shuN t n d = cutN ((t * n + d - 1) / d) from shuN_yes hm (by omega))
      have HE := Lib.hid (shE_yes hm)
      clear hr hf
      go_enter Try.func18, Try.ntmps18
      go_wp2_with (first | (go_at_call 26; refine (refMay_any _ _ _ _).mono ?_; rintro e w' ⟨rfl, rfl⟩) | (go_at_call 27; refine (refCut_any _ _).mono ?_; rintro e w' ⟨rfl, rfl⟩))
      go_ret2
      exact ⟨by rw [HN.out, HE.out]; rfl, rfl⟩

end Tk
end Go.Proofs.Ythcipnofccnplaa
