/-
  hanselaw11's RankCharges, walked.
-/
import Derived.Test.YtpaklljcbmimfaaRankLaws
namespace Go.Proofs.Ytpaklljcbmimfaa
namespace Rk
open Go.RowKit
/-- Where in the uses of before the i-th use of after stands. -/
def tgt (l : List U) (n : Int) (i : Nat) : Nat := if i ≤ (lo l n).length then i else i - 1 + (own l n).length
/-- From k on, up to where the i-th one of after stood, there are the user's own. -/
def Skips (l : List U) (n : Int) (i k : Nat) : Prop := k ≤ tgt l n i ∧ ∀ j, k ≤ j → j < tgt l n i → ∃ y, l[j]? = some y ∧ y.u = n
theorem put_len (l : List U) (x : U) : (put l x).length = (lo l x.u).length + 1 + (hi l x.u).length := by simp [put]; omega
theorem put_lo {l : List U} {x : U} {i : Nat} (h : i < (lo l x.u).length) : (put l x)[i]? = (lo l x.u)[i]? := List.getElem?_append_left h
theorem put_own (l : List U) (x : U) : (put l x)[(lo l x.u).length]? = some x := by rw [put, List.getElem?_append_right (Nat.le_refl _), Nat.sub_self]; rfl
theorem put_hi {l : List U} {x : U} {i : Nat} (h : (lo l x.u).length < i) : (put l x)[i]? = (hi l x.u)[i - (lo l x.u).length - 1]? := by
  rw [put, List.getElem?_append_right (by omega), show i - (lo l x.u).length = (i - (lo l x.u).length - 1) + 1 by omega, List.getElem?_cons_succ]
  simp
/-- One of after that is not the user's stood in the uses of before. -/
theorem stood {l : List U} (hl : Right l) {x y : U} {i : Nat} (h : (put l x)[i]? = some y) (hi' : i ≠ (lo l x.u).length) : l[tgt l x.u i]? = some y ∧ y.u ≠ x.u := by
  obtain ⟨e1, _⟩ := parts x.u hl
  rcases Nat.lt_or_gt_of_ne hi' with hlt | hgt
  · rw [put_lo hlt] at h
    have ht : tgt l x.u i = i := if_pos (by omega)
    rw [ht]
    refine ⟨?_, ?_⟩
    · have h2 : (lo l x.u ++ own l x.u ++ hi l x.u)[i]? = some y := by rw [List.append_assoc, List.getElem?_append_left hlt]; exact h
      rw [← e1] at h2
      exact h2
    · have hm := List.mem_of_getElem? h
      simp [lo] at hm
      omega
  · rw [put_hi hgt] at h
    have ht : tgt l x.u i = i - 1 + (own l x.u).length := if_neg (by omega)
    rw [ht]
    refine ⟨?_, ?_⟩
    · have h2 : (lo l x.u ++ own l x.u ++ hi l x.u)[i - 1 + (own l x.u).length]? = some y := by
        rw [List.getElem?_append_right (by rw [List.length_append]; omega), List.length_append]
        rw [show i - 1 + (own l x.u).length - ((lo l x.u).length + (own l x.u).length) = i - (lo l x.u).length - 1 by omega]
        exact h
      rw [← e1] at h2
      exact h2
    · have hm := List.mem_of_getElem? h
      simp [hi] at hm
      omega
theorem skips_zero (l : List U) (n : Int) : Skips l n 0 0 := by
  have : tgt l n 0 = 0 := if_pos (by omega)
  exact ⟨by omega, fun j h1 h2 => by omega⟩
theorem skips_own {l : List U} (hl : Right l) {n : Int} {k : Nat} (h : Skips l n (lo l n).length k) : Skips l n ((lo l n).length + 1) k := by
  obtain ⟨e1, _⟩ := parts n hl
  have t1 : tgt l n (lo l n).length = (lo l n).length := if_pos (by omega)
  have t2 : tgt l n ((lo l n).length + 1) = (lo l n).length + (own l n).length := by unfold tgt; rw [if_neg (by omega)]; omega
  have hk := h.1
  rw [t1] at hk
  rw [Skips, t2]
  refine ⟨by omega, fun j h1 h2 => ?_⟩
  by_cases hj : j < (lo l n).length
  · exact h.2 j h1 (by rw [t1]; exact hj)
  · obtain ⟨y, hy⟩ : ∃ y, (own l n)[j - (lo l n).length]? = some y := ⟨(own l n)[j - (lo l n).length]'(by omega), List.getElem?_eq_getElem _⟩
    refine ⟨y, ?_, ?_⟩
    · have h2 : (lo l n ++ own l n ++ hi l n)[j]? = some y := by rw [List.append_assoc, List.getElem?_append_right (by omega), List.getElem?_append_left (by omega)]; exact hy
      rw [← e1] at h2
      exact h2
    · have hm := List.mem_of_getElem? hy
      simp [own] at hm
      exact hm.2
theorem tgt_succ {l : List U} {n : Int} {i : Nat} (h : i ≠ (lo l n).length) : tgt l n (i + 1) = tgt l n i + 1 := by
  unfold tgt
  by_cases h1 : i < (lo l n).length
  · rw [if_pos (by omega), if_pos (by omega)]
  · rw [if_neg (by omega), if_neg (by omega)]; omega
theorem skips_next {l : List U} {n : Int} {i : Nat} (h : i ≠ (lo l n).length) : Skips l n (i + 1) (tgt l n i + 1) := by
  rw [Skips, tgt_succ h]
  exact ⟨Nat.le_refl _, fun j h1 h2 => by omega⟩
end Rk
end Go.Proofs.Ytpaklljcbmimfaa
