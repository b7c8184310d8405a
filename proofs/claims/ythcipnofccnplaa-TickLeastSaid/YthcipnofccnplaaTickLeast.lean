/-
  CONTRACT of tick.Least.
-/
import Derived.Test.YthcipnofccnplaaTickRight
import Derived.Test.YthcipnofccnplaaTickLst
import Derived.Test.YthcipnofccnplaaWords
namespace Go.Proofs.Ythcipnofccnplaa
namespace Tk
open Go.RowKit
set_option maxHeartbeats 400000 in
theorem least_any (A : Option Addr) (c : Nat) (xs : List Int) (w : World) (hA : IRow w A xs) (hlen : xs.length ≤ 9223372036854775807) :
    Calls Try.prog 21 #[.slice A xs.length c] w fun e w' => e = .returned (.tuple #[.int .i64 (lsV xs), .int .i64 (lsE xs)]) ∧ w = w' := by
  go_enter Try.func21, Try.ntmps21
  go_wp2
  go_loop [4, 9] (fun m i => ∃ (k : Nat) (v : Int), k ≤ xs.length ∧ i = .int .i64 k ∧ m = .int .i64 v ∧ Hid (lstN 1099511627776 xs = lstN v (xs.drop k))) (fun _ i => xs.length - (intOf i).toNat)
  case atStart => exact ⟨0, _, by omega, rfl, rfl, rfl⟩
  case round =>
    obtain ⟨k, v, hk, rfl, rfl, H⟩ := hrel
    by_cases hlt : k < xs.length
    · obtain ⟨x, hx⟩ : ∃ x, xs[k]? = some x := ⟨xs[k], List.getElem?_eq_getElem hlt⟩
      obtain ⟨b, off, rfl, hc⟩ := hA k x hx
      cases hr : rB x
      · have HR := Lib.hid (ls_none (lst_bad H.out hx hr))
        clear hx H
        go_wp2_with (go_at_call 9; refine (right_any _ _).mono ?_; rintro e w' ⟨rfl, rfl⟩)
        go_ret2
        exact ⟨by rw [HR.out.1, HR.out.2]; rfl, rfl⟩
      · by_cases hm : x < v
        · have HN := Lib.hid (lst_low H.out hx hr hm)
          clear hx H
          go_wp2_with (go_at_call 9; refine (right_any _ _).mono ?_; rintro e w' ⟨rfl, rfl⟩)
          go_round
          case rel => exact ⟨k + 1, _, by omega, by go_num, rfl, HN.out⟩
          case measure => simp [intOf]; omega
        · have HN := Lib.hid (lst_high H.out hx hr (by omega))
          clear hx H
          go_wp2_with (go_at_call 9; refine (right_any _ _).mono ?_; rintro e w' ⟨rfl, rfl⟩)
          go_round
          case rel => exact ⟨k + 1, _, by omega, by go_num, rfl, HN.out⟩
          case measure => simp [intOf]; omega
    · have HR := Lib.hid (ls_some (lst_end H.out (by omega)))
      clear H
      go_wp2
      go_ret2
      exact ⟨by rw [HR.out.1, HR.out.2]; rfl, rfl⟩
end Tk
end Go.Proofs.Ythcipnofccnplaa
