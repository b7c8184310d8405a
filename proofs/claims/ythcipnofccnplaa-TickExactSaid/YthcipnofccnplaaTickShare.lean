/-
  CONTRACT of tick.Share.
-/
import Derived.Test.YthcipnofccnplaaTickMay
import Derived.Test.YthcipnofccnplaaTickMost
namespace Go.Proofs.Ythcipnofccnplaa
namespace Tk
open Go.RowKit

set_option maxHeartbeats 1000000 in
theorem share_any (t n d : Int) (w : World) : Calls Try.prog 15 #[.int .i64 t, .int .i64 n, .int .i64 d] w fun e w' => e = .returned (.tuple #[.int .i64 (shN t n d), .int .i64 (shE t n d)]) ∧ w = w' := by
  cases hm : mayB t n d
  · have HN := Lib.hid (show shN t n d = 0 by exact shN_no hm)
    have HE := Lib.hid (show shE t n d = 1 by exact shE_no hm)
    go_enter Try.func15, Try.ntmps15
    go_wp2_with (first | (go_at_call 25; refine (may_any _ _ _ _).mono ?_; rintro e w' ⟨rfl, rfl⟩) | (go_at_call 24; refine (most_any _ _).mono ?_; rintro e w' ⟨rfl, rfl⟩))
    go_ret2
    exact ⟨by rw [HN.out, HE.out]; rfl, rfl⟩
  · by_cases hf : t = 1099511627776
    · subst hf
      have HN := Lib.hid (show shN 1099511627776 n d = 1099511627776 by exact shN_ever hm)
      have HE := Lib.hid (show shE 1099511627776 n d = 0 by exact shE_yes hm)
      go_enter Try.func15, Try.ntmps15
      go_wp2_with (first | (go_at_call 25; refine (may_any _ _ _ _).mono ?_; rintro e w' ⟨rfl, rfl⟩) | (go_at_call 24; refine (most_any _ _).mono ?_; rintro e w' ⟨rfl, rfl⟩))
      go_ret2
      exact ⟨by rw [HN.out, HE.out]; rfl, rfl⟩
    · have hff : (t == 1099511627776) = false := beq_eq_false_iff_ne.2 hf
      obtain ⟨hr, b3, b4, b5, b6⟩ := mayB_parts hm
      have b1 := rB_lo hr
      have b2 := rB_hi hr
      have b7 := prod_lo b1 b3
      have b8 := prod_hi b2 b3 b4
      have HN := Lib.hid (show shN t n d = cutN (t * n / d) from shN_yes hm (by omega))
      have HE := Lib.hid (shE_yes hm)
      clear hr hf
      go_enter Try.func15, Try.ntmps15
      go_wp2_with (first | (go_at_call 25; refine (may_any _ _ _ _).mono ?_; rintro e w' ⟨rfl, rfl⟩) | (go_at_call 24; refine (most_any _ _).mono ?_; rintro e w' ⟨rfl, rfl⟩))
      go_ret2
      exact ⟨by rw [HN.out, HE.out]; rfl, rfl⟩

theorem share_is {t n d v e : Int} (hn : shN t n d = v) (he : shE t n d = e) (w : World) : Calls Try.prog 15 #[.int .i64 t, .int .i64 n, .int .i64 d] w fun r w' => r = .returned (.tuple #[.int .i64 v, .int .i64 e]) ∧ w = w' := by
  subst hn; subst he; exact share_any t n d w
end Tk
end Go.Proofs.Ythcipnofccnplaa
