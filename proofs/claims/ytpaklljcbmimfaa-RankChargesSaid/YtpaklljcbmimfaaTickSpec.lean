/-
  THE PLAIN FUNCTIONS OF LAYER 1 (ticks) AND THEIR LAWS: no Go in sight.
-/
import Derived.Lib.Hide
namespace Go.Proofs.Ytpaklljcbmimfaa
namespace Tk

def rB (t : Int) : Bool := decide (0 ≤ t) && decide (t ≤ 1099511627776)
def addN (t d : Int) : Int := if rB t && rB d then (if t + d ≤ 1099511627776 then t + d else 1099511627776) else 0
def addE (t d : Int) : Int := if rB t && rB d then 0 else 1
def subN (t d : Int) : Int := if rB t && rB d then (if t = 1099511627776 then 1099511627776 else if d ≤ t then t - d else 0) else 0
def mayB (t n d : Int) : Bool := rB t && decide (0 ≤ n) && decide (n ≤ 1048576) && decide (1 ≤ d) && decide (d ≤ 1048576)
def cutN (t : Int) : Int := if t ≤ 1099511627776 then t else 1099511627776
def shN (t n d : Int) : Int := if mayB t n d then (if t = 1099511627776 then 1099511627776 else cutN (t * n / d)) else 0
def shuN (t n d : Int) : Int := if mayB t n d then (if t = 1099511627776 then 1099511627776 else cutN ((t * n + d - 1) / d)) else 0
def shE (t n d : Int) : Int := if mayB t n d then 0 else 1

theorem rB_yes {t : Int} (a : 0 ≤ t) (b : t ≤ 1099511627776) : rB t = true := by simp [rB, a, b]
theorem rB_low {t : Int} (a : t < 0) : rB t = false := by simp [rB]; omega
theorem rB_high {t : Int} (a : 1099511627776 < t) : rB t = false := by simp [rB]; omega
theorem rB_lo {t : Int} (h : rB t = true) : 0 ≤ t := by simp [rB] at h; exact h.1
theorem rB_hi {t : Int} (h : rB t = true) : t ≤ 1099511627776 := by simp [rB] at h; exact h.2

theorem addN_yes {t d : Int} (a : rB t = true) (b : rB d = true) : addN t d = if t + d ≤ 1099511627776 then t + d else 1099511627776 := by simp [addN, a, b]
theorem addE_yes {t d : Int} (a : rB t = true) (b : rB d = true) : addE t d = 0 := by simp [addE, a, b]
theorem addN_no1 {t d : Int} (a : rB t = false) : addN t d = 0 := by simp [addN, a]
theorem addN_no2 {t d : Int} (a : rB d = false) : addN t d = 0 := by simp [addN, a]
theorem addE_no1 {t d : Int} (a : rB t = false) : addE t d = 1 := by simp [addE, a]
theorem addE_no2 {t d : Int} (a : rB d = false) : addE t d = 1 := by simp [addE, a]
theorem subN_no1 {t d : Int} (a : rB t = false) : subN t d = 0 := by simp [subN, a]
theorem subN_no2 {t d : Int} (a : rB d = false) : subN t d = 0 := by simp [subN, a]
theorem subN_ever {d : Int} (b : rB d = true) : subN 1099511627776 d = 1099511627776 := by
  have : rB 1099511627776 = true := rB_yes (by omega) (by omega)
  simp [subN, this, b]
theorem subN_ge {t d : Int} (a : rB t = true) (b : rB d = true) (h : t < 1099511627776) (k : d ≤ t) : subN t d = t - d := by
  simp only [subN, a, b, Bool.and_self, if_true]; rw [if_neg (by omega), if_pos k]
theorem subN_le {t d : Int} (a : rB t = true) (b : rB d = true) (h : t < 1099511627776) (k : t ≤ d) : subN t d = 0 := by
  simp only [subN, a, b, Bool.and_self, if_true]; rw [if_neg (by omega)]
  by_cases e : d ≤ t
  · rw [if_pos e]; omega
  · rw [if_neg e]
theorem subN_lt {t d : Int} (a : rB t = true) (b : rB d = true) (h : t < 1099511627776) (k : t < d) : subN t d = 0 := by
  simp only [subN, a, b, Bool.and_self, if_true]; rw [if_neg (by omega), if_neg (by omega)]

theorem shN_no {t n d : Int} (a : mayB t n d = false) : shN t n d = 0 := by simp [shN, a]
theorem shuN_no {t n d : Int} (a : mayB t n d = false) : shuN t n d = 0 := by simp [shuN, a]
theorem shE_no {t n d : Int} (a : mayB t n d = false) : shE t n d = 1 := by simp [shE, a]
theorem shE_yes {t n d : Int} (a : mayB t n d = true) : shE t n d = 0 := by simp [shE, a]
theorem shN_ever {n d : Int} (a : mayB 1099511627776 n d = true) : shN 1099511627776 n d = 1099511627776 := by simp [shN, a]
theorem shuN_ever {n d : Int} (a : mayB 1099511627776 n d = true) : shuN 1099511627776 n d = 1099511627776 := by simp [shuN, a]
theorem shN_yes {t n d : Int} (a : mayB t n d = true) (h : t < 1099511627776) : shN t n d = cutN (t * n / d) := by
  simp only [shN, a, if_true]; rw [if_neg (by omega)]
theorem shuN_yes {t n d : Int} (a : mayB t n d = true) (h : t < 1099511627776) : shuN t n d = cutN ((t * n + d - 1) / d) := by
  simp only [shuN, a, if_true]; rw [if_neg (by omega)]
theorem mayB_parts {t n d : Int} (a : mayB t n d = true) : rB t = true ∧ 0 ≤ n ∧ n ≤ 1048576 ∧ 1 ≤ d ∧ d ≤ 1048576 := by
  simp [mayB] at a; exact ⟨a.1.1.1.1, a.1.1.1.2, a.1.1.2, a.1.2, a.2⟩
theorem mayB_mk {t n d : Int} (a : rB t = true) (b : 0 ≤ n) (c : n ≤ 1048576) (e : 1 ≤ d) (f : d ≤ 1048576) : mayB t n d = true := by
  simp [mayB, a, b, c, e, f]

theorem mayB_h1 {t n d : Int} (h : n < 0) : mayB t n d = false := by simp [mayB]; intro _ h1; omega
theorem mayB_h2 {t n d : Int} (h : 1048576 < n) : mayB t n d = false := by simp [mayB]; intro _ _ h1; omega
theorem mayB_h3 {t n d : Int} (h : d < 1) : mayB t n d = false := by simp [mayB]; intro _ _ _ h1; omega
theorem mayB_h4 {t n d : Int} (h : 1048576 < d) : mayB t n d = false := by simp [mayB]; intro _ _ _ _; omega

/-! products of ticks and terms -/
theorem prod_lo {t n : Int} (a : 0 ≤ t) (b : 0 ≤ n) : 0 ≤ t * n := Int.mul_nonneg a b
theorem prod_hi {t n : Int} (b : t ≤ 1099511627776) (c : 0 ≤ n) (d : n ≤ 1048576) : t * n ≤ 1152921504606846976 := by
  have h1 : t * n ≤ 1099511627776 * n := Int.mul_le_mul_of_nonneg_right b c
  omega
theorem quo_lo {p d : Int} (a : 0 ≤ p) (b : 1 ≤ d) : 0 ≤ p / d := Int.ediv_nonneg a (by omega)
theorem quo_hi {p : Int} (d : Int) (a : 0 ≤ p) : p / d ≤ p := Int.ediv_le_self d a
end Tk
end Go.Proofs.Ytpaklljcbmimfaa
