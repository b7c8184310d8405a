/-
  Whole numbers as 64-bit floats: what their bits stand for.
-/
import Derived.Laws.FloatArith
namespace Go.Proofs.Ytnabnoaephjceaa
namespace Fl
open Ieee

/-- The bits W stand for the whole number n. -/
def Std (W n : Nat) : Prop := ∃ m u s : Nat, s = 1074 ∧ double.read W = .number false m (-(s : Int) + (u : Int)) ∧ m * 2 ^ u = n * 2 ^ s

theorem zmul (a b : Nat) : 0 * a = 0 * b := by rw [Nat.zero_mul, Nat.zero_mul]
theorem min_le (M N : Nat) (h9 : M ≤ 1074 * 2 ^ 52) (hup : N < 2 ^ 53) : min (M + N) (2047 * 2 ^ 52) = M + N := by omega
theorem nearest_nat {n : Nat} (h0 : 0 < n) (hn : n < 2 ^ 53) : double.nearest false n 0 = (n.log2 + 1022) * 2 ^ 52 + n * 2 ^ (52 - n.log2) := by
  have hL : n.log2 ≤ 52 := by
    have : n.log2 < 53 := (Nat.log2_lt (by omega)).2 hn
    omega
  have hlast : max ((0 : Int) + n.log2 - double.fractionBits) double.leastPlace = (n.log2 : Int) - 52 := by
    show max ((0 : Int) + n.log2 - (52 : Nat)) (2 - 2 ^ (11 - 1) - (52 : Nat)) = _
    omega
  have hup : n * 2 ^ (52 - n.log2) < 2 ^ 53 := by
    have h1 : n < 2 ^ (n.log2 + 1) := Nat.lt_log2_self
    have h2 : n * 2 ^ (52 - n.log2) < 2 ^ (n.log2 + 1) * 2 ^ (52 - n.log2) := Nat.mul_lt_mul_of_pos_right h1 (Nat.pow_pos (by omega))
    rw [← Nat.pow_add, show n.log2 + 1 + (52 - n.log2) = 53 by omega] at h2
    exact h2
  unfold Format.nearest
  rw [if_neg (by omega)]
  simp only [hlast]
  rw [show ((0 : Int) - ((n.log2 : Int) - 52)).toNat = 52 - n.log2 by omega, show (((n.log2 : Int) - 52) - 0).toNat = 0 by omega]
  rw [show (((n.log2 : Int) - 52) - double.leastPlace).toNat = n.log2 + 1022 by show (((n.log2 : Int) - 52) - (2 - 2 ^ (11 - 1) - (52 : Nat))).toNat = _; omega]
  have hc : ∀ N : Nat, Toward.even.cut false N 0 = N := by
    intro N
    simp [Toward.cut, Nat.mod_one]
  rw [hc, Nat.shiftLeft_eq]
  have e1 : double.binade = 2 ^ 52 := rfl
  have e2 : double.infRung = 2047 * 2 ^ 52 := rfl
  have e3 : ∀ r, double.word false r = r := fun _ => rfl
  rw [e1, e2, e3]
  exact min_le _ _ (Nat.mul_le_mul_right _ (by omega)) hup
theorem read_word {L N : Nat} (hL : L ≤ 52) (h1 : 2 ^ 52 ≤ N) (h2 : N < 2 ^ 53) : double.read ((L + 1022) * 2 ^ 52 + N) = .number false N (-1074 + ((L + 1022 : Nat) : Int)) := by
  have hW : (L + 1022) * 2 ^ 52 + N < 2 ^ 63 := by
    have : (L + 1022) * 2 ^ 52 ≤ 1074 * 2 ^ 52 := Nat.mul_le_mul_right _ (by omega)
    omega
  unfold Format.read
  simp only [show double.signWeight = 2 ^ 63 by rfl, show double.binade = 2 ^ 52 by rfl, show double.infRung = 2047 * 2 ^ 52 by rfl, show double.leastPlace = -1074 by decide]
  rw [Nat.mod_eq_of_lt hW, Nat.div_eq_of_lt hW]
  have h3 : ¬ ((L + 1022) * 2 ^ 52 + N < 2 ^ 52) := by omega
  have h4 : (L + 1022) * 2 ^ 52 + N < 2047 * 2 ^ 52 := by
    have : (L + 1022) * 2 ^ 52 ≤ 1074 * 2 ^ 52 := Nat.mul_le_mul_right _ (by omega)
    omega
  rw [if_neg h3, if_pos h4]
  have h5 : ((L + 1022) * 2 ^ 52 + N) / 2 ^ 52 = L + 1023 := by
    rw [Nat.add_comm, Nat.add_mul_div_right _ _ (by omega)]; omega
  have h6 : ((L + 1022) * 2 ^ 52 + N) % 2 ^ 52 = N - 2 ^ 52 := by
    rw [Nat.add_comm, Nat.add_mul_mod_self_right]; omega
  rw [h5, h6]
  simp only [Nat.zero_mod]
  rw [show 2 ^ 52 + (N - 2 ^ 52) = N by omega]
  rfl
theorem std_nat {n : Nat} (hn : n < 2 ^ 53) : Std (floatOfInt .f64 n) n := by
  have hb : floatOfInt .f64 n = double.nearest false n 0 := by
    show double.write (.number (decide ((n : Int) < 0)) (n : Int).natAbs 0) = _
    rw [show decide ((n : Int) < 0) = false by simp, Int.natAbs_natCast]
    rfl
  rw [hb]
  obtain ⟨s, hs⟩ : ∃ s : Nat, s = 1074 := ⟨_, rfl⟩
  by_cases h0 : n = 0
  · subst h0
    exact ⟨0, 0, s, hs, by rw [hs]; rfl, zmul _ _⟩
  · have hL : n.log2 ≤ 52 := by
      have : n.log2 < 53 := (Nat.log2_lt (by omega)).2 hn
      omega
    rw [nearest_nat (by omega) hn]
    have h3 : 2 ^ 52 ≤ n * 2 ^ (52 - n.log2) := by
      have h1 : 2 ^ n.log2 ≤ n := Nat.log2_self_le (by omega)
      have h2 : 2 ^ n.log2 * 2 ^ (52 - n.log2) ≤ n * 2 ^ (52 - n.log2) := Nat.mul_le_mul_right _ h1
      rwa [← Nat.pow_add, show n.log2 + (52 - n.log2) = 52 by omega] at h2
    have h4 : n * 2 ^ (52 - n.log2) < 2 ^ 53 := by
      have h1 : n < 2 ^ (n.log2 + 1) := Nat.lt_log2_self
      have h2 : n * 2 ^ (52 - n.log2) < 2 ^ (n.log2 + 1) * 2 ^ (52 - n.log2) := Nat.mul_lt_mul_of_pos_right h1 (Nat.pow_pos (by omega))
      rwa [← Nat.pow_add, show n.log2 + 1 + (52 - n.log2) = 53 by omega] at h2
    have h5 := read_word hL h3 h4
    refine ⟨n * 2 ^ (52 - n.log2), n.log2 + 1022, s, hs, by rw [hs]; exact h5, ?_⟩
    rw [Nat.mul_assoc, ← Nat.pow_add, show 52 - n.log2 + (n.log2 + 1022) = s by omega]
theorem compare_scale (a b s : Nat) : compare (a * 2 ^ s) (b * 2 ^ s) = compare a b := by
  have hp : 0 < 2 ^ s := Nat.pow_pos (by omega)
  rcases Nat.lt_trichotomy a b with h | h | h
  · rw [Nat.compare_eq_lt.2 h, Nat.compare_eq_lt.2 (Nat.mul_lt_mul_of_pos_right h hp)]
  · subst h; simp
  · rw [Nat.compare_eq_gt.2 h, Nat.compare_eq_gt.2 (Nat.mul_lt_mul_of_pos_right h hp)]
theorem compare_int (a b : Nat) : compare (a : Int) (b : Int) = compare a b := by
  rcases Nat.lt_trichotomy a b with h | h | h
  · rw [Nat.compare_eq_lt.2 h, Int.compare_eq_lt.2 (by omega)]
  · subst h; simp
  · rw [Nat.compare_eq_gt.2 h, Int.compare_eq_gt.2 (by omega)]
theorem order_std {W V a b : Nat} (hW : Std W a) (hV : Std V b) : double.order W V = some (compare a b) := by
  obtain ⟨m, u, t, ht, hr, hm⟩ := hW
  obtain ⟨n, v, t', ht', hs, hn⟩ := hV
  obtain rfl : t = t' := by omega
  unfold Format.order
  rw [hr, hs]
  have hsg : ∀ (x up : Nat), signed false x up = ((x * 2 ^ up : Nat) : Int) := by intro x up; simp [signed, Nat.shiftLeft_eq]
  simp only [Datum.order, hsg, compare_int]
  congr 1
  by_cases h : u ≤ v
  · rw [show (-(t : Int) + (u : Int) - min (-(t : Int) + (u : Int)) (-(t : Int) + (v : Int))).toNat = 0 by omega, show (-(t : Int) + (v : Int) - min (-(t : Int) + (u : Int)) (-(t : Int) + (v : Int))).toNat = v - u by omega]
    rw [← compare_scale (m * 2 ^ 0) (n * 2 ^ (v - u)) u, ← compare_scale a b t, ← hm, ← hn, Nat.mul_assoc n, ← Nat.pow_add, show v - u + u = v by omega]
    simp
  · rw [show (-(t : Int) + (u : Int) - min (-(t : Int) + (u : Int)) (-(t : Int) + (v : Int))).toNat = u - v by omega, show (-(t : Int) + (v : Int) - min (-(t : Int) + (u : Int)) (-(t : Int) + (v : Int))).toNat = 0 by omega]
    rw [← compare_scale (m * 2 ^ (u - v)) (n * 2 ^ 0) v, ← compare_scale a b t, ← hm, ← hn, Nat.mul_assoc m, ← Nat.pow_add, show u - v + v = u by omega]
    simp
theorem eq_std {W V a b : Nat} (hW : Std W a) (hV : Std V b) : Op.floatEq .f64 W V = decide (a = b) := by
  show (double.order W V == some .eq) = _
  rw [order_std hW hV]
  rcases Nat.lt_trichotomy a b with h | h | h
  · rw [Nat.compare_eq_lt.2 h, decide_eq_false (by omega)]; rfl
  · subst h; simp
  · rw [Nat.compare_eq_gt.2 h, decide_eq_false (by omega)]; rfl
end Fl
end Go.Proofs.Ytnabnoaephjceaa
