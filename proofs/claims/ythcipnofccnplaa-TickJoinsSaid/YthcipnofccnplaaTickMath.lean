/-
  MORE LAWS of the plain functions of layer 1: who is earlier stays so; what encloses a share. No Go in sight.
-/
import Derived.Test.YthcipnofccnplaaTickSpec
namespace Go.Proofs.Ythcipnofccnplaa
namespace Tk

theorem cutN_mono {x y : Int} (h : x ≤ y) : cutN x ≤ cutN y := by
  unfold cutN; split <;> split <;> omega
theorem cutN_le (x : Int) : cutN x ≤ 1099511627776 := by unfold cutN; split <;> omega
theorem cutN_lo {x : Int} (h : 0 ≤ x) : 0 ≤ cutN x := by unfold cutN; split <;> omega
theorem cutN_of {x : Int} (h : x ≤ 1099511627776) : cutN x = x := by unfold cutN; rw [if_pos h]
theorem cutN_lt {x : Int} (h : cutN x < 1099511627776) : cutN x = x := by
  unfold cutN at *; split <;> omega

theorem addE_same {a b : Int} (d : Int) (ha : rB a = true) (hb : rB b = true) : addE a d = addE b d := by simp [addE, ha, hb]
theorem addN_le (t d : Int) : addN t d ≤ 1099511627776 := by
  unfold addN; split
  · split <;> omega
  · omega
theorem addN_lo (t d : Int) : 0 ≤ addN t d := by
  unfold addN; split
  · rename_i h
    simp at h
    have := rB_lo h.1
    have := rB_lo h.2
    split <;> omega
  · omega
theorem addN_right (t d : Int) : rB (addN t d) = true := rB_yes (addN_lo t d) (addN_le t d)
theorem addN_mono {a b : Int} (d : Int) (ha : rB a = true) (hb : rB b = true) (h : a ≤ b) : addN a d ≤ addN b d := by
  unfold addN
  rw [ha, hb]
  split
  · split <;> split <;> omega
  · omega
theorem subN_mono {a b : Int} (d : Int) (ha : rB a = true) (hb : rB b = true) (h : a ≤ b) : subN a d ≤ subN b d := by
  have a2 := rB_hi ha
  have b2 := rB_hi hb
  unfold subN
  rw [ha, hb]
  cases hd : rB d
  · simp
  · have := rB_lo hd
    simp only [Bool.and_self, if_true]
    repeat' split
    all_goals omega
theorem mayB_same {a b : Int} (n d : Int) (ha : rB a = true) (hb : rB b = true) : mayB a n d = mayB b n d := by simp [mayB, ha, hb]
theorem shE_same {a b : Int} (n d : Int) (ha : rB a = true) (hb : rB b = true) : shE a n d = shE b n d := by
  unfold shE; rw [mayB_same n d ha hb]
theorem shN_mono {a b : Int} (n d : Int) (ha : rB a = true) (hb : rB b = true) (h : a ≤ b) : shN a n d ≤ shN b n d := by
  have hs := mayB_same n d ha hb
  have b2 := rB_hi hb
  cases hm : mayB b n d
  · rw [shN_no (hs.trans hm), shN_no hm]; omega
  · obtain ⟨_, n0, n1, d0, d1⟩ := mayB_parts hm
    by_cases hbF : b = 1099511627776
    · subst hbF
      rw [shN_ever hm]
      by_cases haF : a = 1099511627776
      · subst haF; rw [shN_ever hm]; omega
      · rw [shN_yes (hs.trans hm) (by omega)]; exact cutN_le _
    · rw [shN_yes (hs.trans hm) (by omega), shN_yes hm (by omega)]
      exact cutN_mono (Int.ediv_le_ediv (by omega) (Int.mul_le_mul_of_nonneg_right h n0))
theorem addN_comm (a b : Int) : addN b a = addN a b := by
  unfold addN; rw [Bool.and_comm, Int.add_comm]
theorem addN_assoc {a b c : Int} (ha : rB a = true) (hb : rB b = true) (hc : rB c = true) : addN (addN a b) c = addN a (addN b c) := by
  have a1 := rB_lo ha
  have b1 := rB_lo hb
  have c1 := rB_lo hc
  rw [addN_yes (addN_right a b) hc, addN_yes ha (addN_right b c), addN_yes ha hb, addN_yes hb hc]
  repeat' split
  all_goals omega

/-- WHAT IS KNOWN OF A SHARE that may be asked for, of a tick that is not never. -/
theorem share_facts {t n d : Int} (hm : mayB t n d = true) (h : t < 1099511627776) :
    0 ≤ shN t n d ∧ shN t n d ≤ 1099511627776 ∧ 0 ≤ shuN t n d ∧ shuN t n d ≤ 1099511627776 ∧ shN t n d ≤ shuN t n d ∧ shuN t n d ≤ shN t n d + 1 ∧
    (shN t n d < 1099511627776 → shN t n d * d ≤ t * n) ∧ (shuN t n d < 1099511627776 → t * n ≤ shuN t n d * d) := by
  obtain ⟨hr, n0, n1, d0, d1⟩ := mayB_parts hm
  have t0 := rB_lo hr
  have p0 := prod_lo t0 n0
  rw [shN_yes hm h, shuN_yes hm h]
  generalize t * n = p at *
  have e1 : d * (p / d) + p % d = p := Int.mul_ediv_add_emod p d
  have m1 := Int.emod_nonneg p (show d ≠ 0 by omega)
  have m2 := Int.emod_lt_of_pos p (show 0 < d by omega)
  have e2 : d * ((p + d - 1) / d) + (p + d - 1) % d = p + d - 1 := Int.mul_ediv_add_emod (p + d - 1) d
  have m3 := Int.emod_nonneg (p + d - 1) (show d ≠ 0 by omega)
  have m4 := Int.emod_lt_of_pos (p + d - 1) (show 0 < d by omega)
  have q0 := quo_lo p0 d0
  have r0 : 0 ≤ (p + d - 1) / d := quo_lo (by omega) d0
  have l1 : p / d ≤ (p + d - 1) / d := Int.ediv_le_ediv (by omega) (by omega)
  have l2 : (p + d - 1) / d ≤ p / d + 1 := by
    have : (p + d - 1) / d ≤ (p + 1 * d) / d := Int.ediv_le_ediv (by omega) (by omega)
    rw [Int.add_mul_ediv_right _ _ (by omega)] at this
    exact this
  generalize p / d = q at *
  generalize (p + d - 1) / d = r at *
  rw [Int.mul_comm d q] at e1
  rw [Int.mul_comm d r] at e2
  refine ⟨cutN_lo q0, cutN_le _, cutN_lo r0, cutN_le _, cutN_mono l1, ?_, ?_, ?_⟩
  · unfold cutN; split <;> split <;> omega
  · intro hc; rw [cutN_lt hc]; omega
  · intro hc; rw [cutN_lt hc]; omega
theorem share_whole {t d : Int} (hm : mayB t d d = true) : shN t d d = t ∧ shuN t d d = t := by
  obtain ⟨hr, n0, n1, d0, d1⟩ := mayB_parts hm
  have t0 := rB_lo hr
  have t1 := rB_hi hr
  by_cases h : t = 1099511627776
  · subst h; exact ⟨shN_ever hm, shuN_ever hm⟩
  · rw [shN_yes hm (by omega), shuN_yes hm (by omega), Int.mul_ediv_cancel _ (by omega)]
    have e : (t * d + d - 1) / d = t := by
      rw [show t * d + d - 1 = (d - 1) + t * d by omega, Int.add_mul_ediv_right _ _ (by omega), Int.ediv_eq_zero_of_lt (by omega) (by omega)]
      omega
    rw [e]
    exact ⟨cutN_of t1, cutN_of t1⟩
end Tk
end Go.Proofs.Ythcipnofccnplaa
