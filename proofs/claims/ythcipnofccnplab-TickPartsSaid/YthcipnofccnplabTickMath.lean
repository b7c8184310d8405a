/-
  MORE LAWS of the plain functions of layer 1: who is earlier stays so; what encloses a share. No Go in sight.
-/
import Derived.Test.YthcipnofccnplabTickSpec
namespace Go.Proofs.Ythcipnofccnplab
namespace Tk

theorem cutN_mono {x y : Int} (h : x ≤ y) : cutN x ≤ cutN y := by
  unfold cutN; split <;> split <;> omega
theorem cutN_le (x : Int) : cutN x ≤ 1099511627776 := by unfold cutN; split <;> omega
theorem cutN_lo {x : Int} (h : 0 ≤ x) : 0 ≤ cutN x := by unfold cutN; split <;> omega
theorem cutN_of {x : Int} (h : x ≤ 1099511627776) : cutN x = x := by unfold cutN; rw [if_pos h]
theorem cutN_lt {x : Int} (h : cutN x < 1099511627776) : cutN x = x := by
  unfold cutN at *; split <;> omega

theorem addE_same {a b : Int} (d : Int) (ha : rB a = true) (hb : rB b = true) : addE a d = addE b d := by simp [addE, ha, hb]
theorem addN_le (t d : Int) : addN t d ≤ 1099511627776 := by
  unfold addN; split
  · split <;> omega
  · omega
theorem addN_lo (t d : Int) : 0 ≤ addN t d := by
  unfold addN; split
  · rename_i h
    simp at h
    have := rB_lo h.1
    have := rB_lo h.2
    split <;> omega
  · omega
theorem addN_right (t d : Int) : rB (addN t d) = true := rB_yes (addN_lo t d) (addN_le t d)
theorem addN_mono {a b : Int} (d : Int) (ha : rB a = true) (hb : rB b = true) (h : a ≤ b) : addN a d ≤ addN b d := by
  unfold addN
  rw [ha, hb]
  split
  · split <;> split <;> omega
  · omega
theorem subN_mono {a b : Int} (d : Int) (ha : rB a = true) (hb : rB b = true) (h : a ≤ b) : subN a d ≤ subN b d := by
  have a2 := rB_hi ha
  have b2 := rB_hi hb
  unfold subN
  rw [ha, hb]
  cases hd : rB d
  · simp
  · have := rB_lo hd
    simp only [Bool.and_self, if_true]
    repeat' split
    all_goals omega
theorem mayB_same {a b : Int} (n d : Int) (ha : rB a = true) (hb : rB b = true) : mayB a n d = mayB b n d := by simp [mayB, ha, hb]
theorem shE_same {a b : Int} (n d : Int) (ha : rB a = true) (hb : rB b = true) : shE a n d = shE b n d := by
  unfold shE; rw [mayB_same n d ha hb]
theorem shN_mono {a b : Int} (n d : Int) (ha : rB a = true) (hb : rB b = true) (h : a ≤ b) : shN a n d ≤ shN b n d := by
  have hs := mayB_same n d ha hb
  have b2 := rB_hi hb
  cases hm : mayB b n d
  · rw [shN_no (hs.trans hm), shN_no hm]; omega
  · obtain ⟨_, n0, n1, d0, d1⟩ := mayB_parts hm
    by_cases hbF : b = 1099511627776
    · subst hbF
      rw [shN_ever hm]
      by_cases haF : a = 1099511627776
      · subst haF; rw [shN_ever hm]; omega
      · rw [shN_yes (hs.trans hm) (by omega)]; exact cutN_le _
    · rw [shN_yes (hs.trans hm) (by omega), shN_yes hm (by omega)]
      exact cutN_mono (Int.ediv_le_ediv (by omega) (Int.mul_le_mul_of_nonneg_right h n0))
theorem addN_comm (a b : Int) : addN b a = addN a b := by
  unfold addN; rw [Bool.and_comm, Int.add_comm]
theorem addN_assoc {a b c : Int} (ha : rB a = true) (hb : rB b = true) (hc : rB c = true) : addN (addN a b) c = addN a (addN b c) := by
  have a1 := rB_lo ha
  have b1 := rB_lo hb
  have c1 := rB_lo hc
  rw [addN_yes (addN_right a b) hc, addN_yes ha (addN_right b c), addN_yes ha hb, addN_yes hb hc]
  repeat' split
  all_goals omega

/-- WHAT IS KNOWN OF A SHARE that may be asked for, of a tick that is not never. -/
theorem share_facts {t n d : Int} (hm : mayB t n d = true) (h : t < 1099511627776) :
    0 ≤ shN t n d ∧ shN t n d ≤ 1099511627776 ∧ 0 ≤ shuN t n d ∧ shuN t n d ≤ 1099511627776 ∧ shN t n d ≤ shuN t n d ∧ shuN t n d ≤ shN t n d + 1 ∧
    (shN t n d < 1099511627776 → shN t n d * d ≤ t * n) ∧ (shuN t n d < 1099511627776 → t * n ≤ shuN t n d * d) := by
  obtain ⟨hr, n0, n1, d0, d1⟩ := mayB_parts hm
  have t0 := rB_lo hr
  have p0 := prod_lo t0 n0
  rw [shN_yes hm h, shuN_yes hm h]
  generalize t * n = p at *
  have e1 : d * (p / d) + p % d = p := Int.mul_ediv_add_emod p d
  have m1 := Int.emod_nonneg p (show d ≠ 0 by omega)
  have m2 := Int.emod_lt_of_pos p (show 0 < d by omega)
  have e2 : d * ((p + d - 1) / d) + (p + d - 1) % d = p + d - 1 := Int.mul_ediv_add_emod (p + d - 1) d
  have m3 := Int.emod_nonneg (p + d - 1) (show d ≠ 0 by omega)
  have m4 := Int.emod_lt_of_pos (p + d - 1) (show 0 < d by omega)
  have q0 := quo_lo p0 d0
  have r0 : 0 ≤ (p + d - 1) / d := quo_lo (by omega) d0
  have l1 : p / d ≤ (p + d - 1) / d := Int.ediv_le_ediv (by omega) (by omega)
  have l2 : (p + d - 1) / d ≤ p / d + 1 := by
    have : (p + d - 1) / d ≤ (p + 1 * d) / d := Int.ediv_le_ediv (by omega) (by omega)
    rw [Int.add_mul_ediv_right _ _ (by omega)] at this
    exact this
  generalize p / d = q at *
  generalize (p + d - 1) / d = r at *
  rw [Int.mul_comm d q] at e1
  rw [Int.mul_comm d r] at e2
  refine ⟨cutN_lo q0, cutN_le _, cutN_lo r0, cutN_le _, cutN_mono l1, ?_, ?_, ?_⟩
  · unfold cutN; split <;> split <;> omega
  · intro hc; rw [cutN_lt hc]; omega
  · intro hc; rw [cutN_lt hc]; omega
theorem share_whole {t d : Int} (hm : mayB t d d = true) : shN t d d = t ∧ shuN t d d = t := by
  obtain ⟨hr, n0, n1, d0, d1⟩ := mayB_parts hm
  have t0 := rB_lo hr
  have t1 := rB_hi hr
  by_cases h : t = 1099511627776
  · subst h; exact ⟨shN_ever hm, shuN_ever hm⟩
  · rw [shN_yes hm (by omega), shuN_yes hm (by omega), Int.mul_ediv_cancel _ (by omega)]
    have e : (t * d + d - 1) / d = t := by
      rw [show t * d + d - 1 = (d - 1) + t * d by omega, Int.add_mul_ediv_right _ _ (by omega), Int.ediv_eq_zero_of_lt (by omega) (by omega)]
      omega
    rw [e]
    exact ⟨cutN_of t1, cutN_of t1⟩
/-- A tick that is shared in two parts. -/
theorem share_parts {t n d : Int} (t0 : 0 ≤ t) (h : t < 1099511627776) (d0 : 1 ≤ d) (d1 : d ≤ 1048576) (n0 : 0 ≤ n) (n1 : n ≤ d) :
    ∃ a b c e, shN t n d = a ∧ shN t (d - n) d = b ∧ shuN t n d = c ∧ shuN t (d - n) d = e ∧ shE t n d = 0 ∧ shE t (d - n) d = 0 ∧
      0 ≤ a ∧ a ≤ t ∧ 0 ≤ b ∧ b ≤ t ∧ 0 ≤ c ∧ c ≤ t ∧ 0 ≤ e ∧ e ≤ t ∧ a + b ≤ t ∧ t ≤ a + b + 1 ∧ t ≤ c + e ∧ a + e = t := by
  have hr : rB t = true := rB_yes t0 (by omega)
  have hm := mayB_mk hr n0 (by omega) d0 d1
  have hk := mayB_mk (n := d - n) hr (by omega) (by omega) d0 d1
  have e1 : t * (d - n) = t * d - t * n := Int.mul_sub t d n
  have p0 := prod_lo t0 n0
  have p1 := prod_lo t0 (show 0 ≤ d - n by omega)
  refine ⟨_, _, _, _, shN_yes hm h, shN_yes hk h, shuN_yes hm h, shuN_yes hk h, shE_yes hm, shE_yes hk, ?_⟩
  generalize t * (d - n) = P at *
  generalize t * n = p at *
  have cp := Int.mul_ediv_add_emod p d
  have cp1 := Int.emod_nonneg p (show d ≠ 0 by omega)
  have cp2 := Int.emod_lt_of_pos p (show 0 < d by omega)
  have cP := Int.mul_ediv_add_emod P d
  have cP1 := Int.emod_nonneg P (show d ≠ 0 by omega)
  have cP2 := Int.emod_lt_of_pos P (show 0 < d by omega)
  have cu := Int.mul_ediv_add_emod (p + d - 1) d
  have cu1 := Int.emod_nonneg (p + d - 1) (show d ≠ 0 by omega)
  have cu2 := Int.emod_lt_of_pos (p + d - 1) (show 0 < d by omega)
  have cU := Int.mul_ediv_add_emod (P + d - 1) d
  have cU1 := Int.emod_nonneg (P + d - 1) (show d ≠ 0 by omega)
  have cU2 := Int.emod_lt_of_pos (P + d - 1) (show 0 < d by omega)
  generalize p / d = a at *
  generalize P / d = b at *
  generalize (p + d - 1) / d = c at *
  generalize (P + d - 1) / d = e at *
  -- what is compared is compared by its products with d
  have le_of : ∀ x y : Int, d * x < d * y + d → x ≤ y := by
    intro x y hxy
    refine Int.not_lt.mp fun hlt => ?_
    have h1 : d * (y + 1) ≤ d * x := Int.mul_le_mul_of_nonneg_left (by omega) (by omega)
    rw [Int.mul_add, Int.mul_one] at h1
    omega
  have ab : d * (a + b) = d * a + d * b := Int.mul_add d a b
  have ab1 : d * (a + b + 1) = d * a + d * b + d := by rw [Int.mul_add, Int.mul_one, ab]
  have ce : d * (c + e) = d * c + d * e := Int.mul_add d c e
  have ae : d * (a + e) = d * a + d * e := Int.mul_add d a e
  have dt : d * t = t * d := Int.mul_comm d t
  have z : d * 0 = 0 := Int.mul_zero d
  have a0 : 0 ≤ a := le_of 0 a (by omega)
  have b0 : 0 ≤ b := le_of 0 b (by omega)
  have c0 : 0 ≤ c := le_of 0 c (by omega)
  have e0 : 0 ≤ e := le_of 0 e (by omega)
  have at1 : a ≤ t := le_of a t (by omega)
  have bt1 : b ≤ t := le_of b t (by omega)
  have ct1 : c ≤ t := le_of c t (by omega)
  have et1 : e ≤ t := le_of e t (by omega)
  have k1 : a + b ≤ t := le_of _ _ (by omega)
  have k2 : t ≤ a + b + 1 := le_of _ _ (by omega)
  have k3 : t ≤ c + e := le_of _ _ (by omega)
  have k4 : a + e ≤ t := le_of _ _ (by omega)
  have k5 : t ≤ a + e := le_of _ _ (by omega)
  rw [cutN_of (by omega), cutN_of (by omega), cutN_of (by omega), cutN_of (by omega)]
  exact ⟨a0, at1, b0, bt1, c0, ct1, e0, et1, k1, k2, k3, by omega⟩
end Tk
end Go.Proofs.Ythcipnofccnplab
