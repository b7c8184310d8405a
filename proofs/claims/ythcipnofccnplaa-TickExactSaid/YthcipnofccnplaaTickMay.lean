/-
  CONTRACT of tick.rightShare.
-/
import Derived.Test.YthcipnofccnplaaTickRight
namespace Go.Proofs.Ythcipnofccnplaa
namespace Tk
open Go.RowKit

set_option maxHeartbeats 1000000 in
theorem may_any (t n d : Int) (w : World) : Calls Try.prog 25 #[.int .i64 t, .int .i64 n, .int .i64 d] w fun e w' => e = .returned (.bool (mayB t n d)) ∧ w = w' := by
  cases hr : rB t
  · have H := Lib.hid (show mayB t n d = false from by simp [mayB, hr])
    go_enter Try.func25, Try.ntmps25
    go_wp2_with (first | (go_at_call 9; refine (right_any _ _).mono ?_; rintro e w' ⟨rfl, rfl⟩))
    go_ret
    exact ⟨by rw [H.out]; rfl, rfl⟩
  · by_cases h1 : n < 0
    · have H := Lib.hid (show mayB t n d = false from mayB_h1 h1)
      go_enter Try.func25, Try.ntmps25
      go_wp2_with (first | (go_at_call 9; refine (right_any _ _).mono ?_; rintro e w' ⟨rfl, rfl⟩))
      go_ret
      exact ⟨by rw [H.out]; rfl, rfl⟩
    · have h1' : 0 ≤ n := by omega
      clear h1
      by_cases h2 : 1048576 < n
      · have H := Lib.hid (show mayB t n d = false from mayB_h2 h2)
        go_enter Try.func25, Try.ntmps25
        go_wp2_with (first | (go_at_call 9; refine (right_any _ _).mono ?_; rintro e w' ⟨rfl, rfl⟩))
        go_ret
        exact ⟨by rw [H.out]; rfl, rfl⟩
      · have h2' : n ≤ 1048576 := by omega
        clear h2
        by_cases h3 : d < 1
        · have H := Lib.hid (show mayB t n d = false from mayB_h3 h3)
          go_enter Try.func25, Try.ntmps25
          go_wp2_with (first | (go_at_call 9; refine (right_any _ _).mono ?_; rintro e w' ⟨rfl, rfl⟩))
          go_ret
          exact ⟨by rw [H.out]; rfl, rfl⟩
        · have h3' : 1 ≤ d := by omega
          clear h3
          by_cases h4 : 1048576 < d
          · have hd : decide (d ≤ 1048576) = false := decide_eq_false (by omega)
            have H := Lib.hid (show mayB t n d = false from mayB_h4 h4)
            go_enter Try.func25, Try.ntmps25
            go_wp2_with (first | (go_at_call 9; refine (right_any _ _).mono ?_; rintro e w' ⟨rfl, rfl⟩))
            go_ret
            exact ⟨by rw [H.out]; rfl, rfl⟩
          · have h4' : d ≤ 1048576 := by omega
            clear h4
            have H := Lib.hid (show mayB t n d = true from mayB_mk hr h1' h2' h3' h4')
            go_enter Try.func25, Try.ntmps25
            go_wp2_with (first | (go_at_call 9; refine (right_any _ _).mono ?_; rintro e w' ⟨rfl, rfl⟩))
            go_ret
            exact ⟨by rw [H.out]; rfl, rfl⟩

end Tk
end Go.Proofs.Ythcipnofccnplaa
