/-
  THE PLAIN FUNCTION 'least of ticks', and its laws: no Go in sight.
-/
import Derived.Test.YthcipnofccnplaaTickSpec
namespace Go.Proofs.Ythcipnofccnplaa
namespace Tk
def lstN : Int → List Int → Option Int
  | acc, [] => some acc
  | acc, x :: r => if rB x then lstN (if x < acc then x else acc) r else none
def lsV (xs : List Int) : Int := (lstN 1099511627776 xs).getD 0
def lsE (xs : List Int) : Int := if (lstN 1099511627776 xs).isSome then 0 else 1

theorem lst_end {F : Int} {xs : List Int} {v : Int} {k : Nat} (h : lstN F xs = lstN v (xs.drop k)) (hk : xs.length ≤ k) : lstN F xs = some v := by
  rw [h, List.drop_of_length_le hk]; rfl
theorem lst_bad {F : Int} {xs : List Int} {v x : Int} {k : Nat} (h : lstN F xs = lstN v (xs.drop k)) (hx : xs[k]? = some x) (hr : rB x = false) : lstN F xs = none := by
  rw [h, List.drop_eq_getElem_cons (List.getElem?_eq_some_iff.1 hx).1]
  rw [(List.getElem?_eq_some_iff.1 hx).2]
  simp [lstN, hr]
theorem lst_low {F : Int} {xs : List Int} {v x : Int} {k : Nat} (h : lstN F xs = lstN v (xs.drop k)) (hx : xs[k]? = some x) (hr : rB x = true) (hc : x < v) : lstN F xs = lstN x (xs.drop (k + 1)) := by
  rw [h, List.drop_eq_getElem_cons (List.getElem?_eq_some_iff.1 hx).1]
  rw [(List.getElem?_eq_some_iff.1 hx).2]
  simp [lstN, hr, hc]
theorem lst_high {F : Int} {xs : List Int} {v x : Int} {k : Nat} (h : lstN F xs = lstN v (xs.drop k)) (hx : xs[k]? = some x) (hr : rB x = true) (hc : v ≤ x) : lstN F xs = lstN v (xs.drop (k + 1)) := by
  rw [h, List.drop_eq_getElem_cons (List.getElem?_eq_some_iff.1 hx).1]
  rw [(List.getElem?_eq_some_iff.1 hx).2]
  rw [lstN, if_pos hr, if_neg (by omega)]
theorem ls_none {xs : List Int} (h : lstN 1099511627776 xs = none) : lsV xs = 0 ∧ lsE xs = 1 := by simp [lsV, lsE, h]
theorem ls_some {xs : List Int} {v : Int} (h : lstN 1099511627776 xs = some v) : lsV xs = v ∧ lsE xs = 0 := by simp [lsV, lsE, h]
end Tk
end Go.Proofs.Ythcipnofccnplaa
