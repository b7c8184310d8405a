/-
  CONTRACT of tick.Least.
-/
import Derived.Test.YthcipnofccnplabTickRight
import Derived.Test.YthcipnofccnplabTickLst
import Derived.Test.YthcipnofccnplabWords
namespace Go.Proofs.Ythcipnofccnplab
namespace Tk
open Go.RowKit
set_option maxHeartbeats 400000 in
theorem least_any (A : Option Addr) (c : Nat) (xs : List Int) (w : World) (hA : IRow w A xs) (hlen : xs.length ≤ 9223372036854775807) :
    Calls Try.prog 5 #[.slice A xs.length c] w fun e w' => e = .returned (.tuple #[.int .i64 (lsV xs), .int .i64 (lsE xs)]) ∧ w = w' := by
  go_enter Try.func5, Try.ntmps5
  go_wp2
  go_loop [4, 9] (fun m i => ∃ (k : Nat) (v : Int), k ≤ xs.length ∧ i = .int .i64 k ∧ m = .int .i64 v ∧ Hid (lstN 1099511627776 xs = lstN v (xs.drop k))) (fun _ i => xs.length - (intOf i).toNat)
  case atStart => exact ⟨0, _, by omega, rfl, rfl, rfl⟩
  case round =>
    obtain ⟨k, v, hk, rfl, rfl, H⟩ := hrel
    by_cases hlt : k < xs.length
    · obtain ⟨x, hx⟩ : ∃ x, xs[k]? = some x := ⟨xs[k], List.getElem?_eq_getElem hlt⟩
      obtain ⟨b, off, rfl, hc⟩ := hA k x hx
      cases hr : rB x
      · have HR := Lib.hid (ls_none (lst_bad H.out hx hr))
        clear hx H
        go_wp2_with (go_at_call 9; refine (right_any _ _).mono ?_; rintro e w' ⟨rfl, rfl⟩)
        go_ret2
        exact ⟨by rw [HR.out.1, HR.out.2]; rfl, rfl⟩
      · by_cases hm : x < v
        · have HN := Lib.hid (lst_low H.out hx hr hm)
          clear hx H
          go_wp2_with (go_at_call 9; refine (right_any _ _).mono ?_; rintro e w' ⟨rfl, rfl⟩)
          go_round
          case rel => exact ⟨k + 1, _, by omega, by go_num, rfl, HN.out⟩
          case measure => simp [intOf]; omega
        · have HN := Lib.hid (lst_high H.out hx hr (by omega))
          clear hx H
          go_wp2_with (go_at_call 9; refine (right_any _ _).mono ?_; rintro e w' ⟨rfl, rfl⟩)
          go_round
          case rel => exact ⟨k + 1, _, by omega, by go_num, rfl, HN.out⟩
          case measure => simp [intOf]; omega
    · have HR := Lib.hid (ls_some (lst_end H.out (by omega)))
      clear H
      go_wp2
      go_ret2
      exact ⟨by rw [HR.out.1, HR.out.2]; rfl, rfl⟩
theorem least_is {A : Option Addr} {c n : Nat} {xs : List Int} {w : World} {v e : Int} (hA : IRow w A xs) (hn : xs.length = n) (hlen : n ≤ 9223372036854775807) (hv : lsV xs = v ∧ lsE xs = e) :
    Calls Try.prog 5 #[.slice A n c] w fun e' w' => e' = .returned (.tuple #[.int .i64 v, .int .i64 e]) ∧ w = w' := by
  obtain ⟨rfl, rfl⟩ := hv
  subst hn
  exact least_any A c xs w hA hlen
end Tk
end Go.Proofs.Ythcipnofccnplab
