/-
  THE PLAIN FUNCTION 'least of ticks', and its laws: no Go in sight.
-/
import Derived.Test.YthcipnofccnplabTickSpec
namespace Go.Proofs.Ythcipnofccnplab
namespace Tk
def lstN : Int → List Int → Option Int
  | acc, [] => some acc
  | acc, x :: r => if rB x then lstN (if x < acc then x else acc) r else none
def lsV (xs : List Int) : Int := (lstN 1099511627776 xs).getD 0
def lsE (xs : List Int) : Int := if (lstN 1099511627776 xs).isSome then 0 else 1

theorem lst_end {F : Int} {xs : List Int} {v : Int} {k : Nat} (h : lstN F xs = lstN v (xs.drop k)) (hk : xs.length ≤ k) : lstN F xs = some v := by
  rw [h, List.drop_of_length_le hk]; rfl
theorem lst_bad {F : Int} {xs : List Int} {v x : Int} {k : Nat} (h : lstN F xs = lstN v (xs.drop k)) (hx : xs[k]? = some x) (hr : rB x = false) : lstN F xs = none := by
  rw [h, List.drop_eq_getElem_cons (List.getElem?_eq_some_iff.1 hx).1]
  rw [(List.getElem?_eq_some_iff.1 hx).2]
  simp [lstN, hr]
theorem lst_low {F : Int} {xs : List Int} {v x : Int} {k : Nat} (h : lstN F xs = lstN v (xs.drop k)) (hx : xs[k]? = some x) (hr : rB x = true) (hc : x < v) : lstN F xs = lstN x (xs.drop (k + 1)) := by
  rw [h, List.drop_eq_getElem_cons (List.getElem?_eq_some_iff.1 hx).1]
  rw [(List.getElem?_eq_some_iff.1 hx).2]
  simp [lstN, hr, hc]
theorem lst_high {F : Int} {xs : List Int} {v x : Int} {k : Nat} (h : lstN F xs = lstN v (xs.drop k)) (hx : xs[k]? = some x) (hr : rB x = true) (hc : v ≤ x) : lstN F xs = lstN v (xs.drop (k + 1)) := by
  rw [h, List.drop_eq_getElem_cons (List.getElem?_eq_some_iff.1 hx).1]
  rw [(List.getElem?_eq_some_iff.1 hx).2]
  rw [lstN, if_pos hr, if_neg (by omega)]
theorem ls_none {xs : List Int} (h : lstN 1099511627776 xs = none) : lsV xs = 0 ∧ lsE xs = 1 := by simp [lsV, lsE, h]
theorem ls_some {xs : List Int} {v : Int} (h : lstN 1099511627776 xs = some v) : lsV xs = v ∧ lsE xs = 0 := by simp [lsV, lsE, h]

theorem lst_append (acc : Int) (xs ys : List Int) : lstN acc (xs ++ ys) = (lstN acc xs).bind fun v => lstN v ys := by
  induction xs generalizing acc with
  | nil => rfl
  | cons x r ih =>
    simp only [List.cons_append, lstN]
    split
    · exact ih _
    · rfl
/-- What a least one is: no greater than the first and than each, and one of these. -/
theorem lst_is {acc : Int} {xs : List Int} {v : Int} (h : lstN acc xs = some v) : v ≤ acc ∧ (∀ x ∈ xs, v ≤ x) ∧ (v = acc ∨ v ∈ xs) ∧ (∀ x ∈ xs, rB x = true) := by
  induction xs generalizing acc with
  | nil => simp [lstN] at h; subst h; simp
  | cons x r ih =>
    simp only [lstN] at h
    split at h
    · rename_i hr
      obtain ⟨h1, h2, h3, h4⟩ := ih h
      refine ⟨?_, ?_, ?_, ?_⟩
      · split at h1 <;> omega
      · intro y hy
        rcases List.mem_cons.1 hy with rfl | hy
        · split at h1 <;> omega
        · exact h2 y hy
      · rcases h3 with h3 | h3
        · split at h3
          · right; rw [h3]; exact List.mem_cons_self
          · left; exact h3
        · right; exact List.mem_cons_of_mem _ h3
      · intro y hy
        rcases List.mem_cons.1 hy with rfl | hy
        · exact hr
        · exact h4 y hy
    · cases h
theorem lst_from {acc acc' : Int} {xs : List Int} {v : Int} (h : lstN acc xs = some v) (hle : acc' ≤ acc) : lstN acc' xs = some (if acc' < v then acc' else v) := by
  induction xs generalizing acc acc' with
  | nil =>
    simp [lstN] at h
    subst h
    simp only [lstN]
    split
    · rfl
    · rw [show acc' = acc by omega]
  | cons x r ih =>
    simp only [lstN] at h ⊢
    split at h
    · rename_i hr
      rw [if_pos hr]
      have hv := (lst_is h).1
      by_cases h1 : x < acc'
      · rw [if_pos h1]
        rw [if_pos (show x < acc by omega)] at h hv
        rw [ih h (by omega)]
        rw [if_neg (show ¬ acc' < v by omega)]
        congr 1
        split <;> omega
      · rw [if_neg h1]
        exact ih h (by split <;> omega)
    · cases h
theorem lst_none_from {acc acc' : Int} {xs : List Int} (h : lstN acc xs = none) : lstN acc' xs = none := by
  induction xs generalizing acc acc' with
  | nil => simp [lstN] at h
  | cons x r ih =>
    simp only [lstN] at h ⊢
    split at h
    · rename_i hr
      rw [if_pos hr]; exact ih h
    · rename_i hr
      rw [if_neg hr]
/-- The least of two lists one behind the other. -/
theorem lst_two (xs ys : List Int) : (lstN 1099511627776 xs = none ∧ lstN 1099511627776 (xs ++ ys) = none) ∨ (∃ x, lstN 1099511627776 xs = some x ∧ lstN 1099511627776 ys = none ∧ lstN 1099511627776 (xs ++ ys) = none) ∨
    ∃ x y z, lstN 1099511627776 xs = some x ∧ lstN 1099511627776 ys = some y ∧ lstN 1099511627776 (xs ++ ys) = some z ∧ ((x ≤ y ∧ z = x) ∨ (y < x ∧ z = y)) := by
  rw [lst_append]
  rcases hx : lstN 1099511627776 xs with _ | x
  · left; exact ⟨rfl, rfl⟩
  · right
    rcases hy : lstN 1099511627776 ys with _ | y
    · left; exact ⟨x, rfl, rfl, lst_none_from hy⟩
    · right
      have h := lst_from hy (lst_is hx).1
      refine ⟨x, y, _, rfl, rfl, h, ?_⟩
      split
      · left; exact ⟨by omega, rfl⟩
      · by_cases e : y < x
        · right; exact ⟨e, rfl⟩
        · left; exact ⟨by omega, by omega⟩
/-- Of no ticks it is never; of some it is one of them. -/
theorem lst_in {xs : List Int} {z : Int} (h : lstN 1099511627776 xs = some z) (hne : xs ≠ []) : z ∈ xs := by
  obtain ⟨h1, h2, h3, h4⟩ := lst_is h
  rcases h3 with h3 | h3
  · rcases xs with _ | ⟨x, r⟩
    · exact absurd rfl hne
    · have a := h2 x List.mem_cons_self
      have b := rB_hi (h4 x List.mem_cons_self)
      rw [show z = x by omega]
      exact List.mem_cons_self
  · exact h3
end Tk
end Go.Proofs.Ythcipnofccnplab
