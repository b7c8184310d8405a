/-
  PLAIN: what was read is written in just those bytes, and what was written is read again.
-/
import Derived.Test.YtgifinilgieonaaPackQAmount
namespace Go.Proofs.Ytgifinilgieonaa
namespace Pk

theorem rdG_canon : ∀ (bs : List Int) (i v : Nat) (r : List Int), (∀ x ∈ bs, 0 ≤ x ∧ x ≤ 255) → rdG i bs = some (v, r) → bs = enc v ++ r ∧ (0 < i → 0 < v) := by
  intro bs
  induction bs with
  | nil => intro i v r _ h; cases h
  | cons x bs ih =>
    intro i v r hb h
    have hx := hb x (by simp)
    rw [rdG] at h
    split at h
    · cases h
    · split at h
      · rename_i hn hlt
        split at h
        · cases h
        · rename_i hz
          cases h
          refine ⟨?_, fun hi => by omega⟩
          rw [enc_low (by omega)]
          simp; omega
      · rename_i hn hge
        rcases hr : rdG (i + 1) bs with _ | ⟨v', r'⟩
        · rw [hr] at h; cases h
        · rw [hr] at h
          cases h
          obtain ⟨h1, h2⟩ := ih (i + 1) v' r' (fun y hy => hb y (by simp [hy])) hr
          have h3 := h2 (by omega)
          refine ⟨?_, fun _ => by omega⟩
          rw [enc_high (by omega), h1]
          rw [show (x.toNat % 128 + 128 * v') / 128 = v' by omega]
          simp; omega
theorem uint_canon {bs r : List Int} {v : Nat} (hb : ∀ x ∈ bs, 0 ≤ x ∧ x ≤ 255) (h : (St.ok bs).uint = (v, .ok r)) : bs = enc v ++ r := by
  unfold St.uint at h
  simp only at h
  rcases hr : rdG 0 bs with _ | ⟨v', r'⟩
  · rw [hr] at h; cases h
  · rw [hr] at h
    cases h
    exact (rdG_canon bs 0 v r hb hr).1
theorem rdG_back : ∀ (v i : Nat) (r : List Int), i ≤ 9 → v * 128 ^ i < 18446744073709551616 → (0 < i → 0 < v) → rdG i (enc v ++ r) = some (v, r) := by
  intro v
  induction v using Nat.strongRecOn with
  | _ v ih =>
    intro i r hi hv h0
    by_cases hlt : v < 128
    · rw [enc_low hlt]
      have h9 : ¬ (9 < i ∨ (i = 9 ∧ 1 < (v : Int))) := by
        rintro (h | ⟨h, h1⟩)
        · omega
        · subst h
          have h2 : 2 ≤ v := by omega
          have h3 := Nat.mul_le_mul_right (128 ^ 9) h2
          omega
      show rdG i ((v : Int) :: r) = _
      rw [rdG, if_neg h9, if_pos (by omega), if_neg (by rintro ⟨h1, h2⟩; have := h0 h2; omega)]
      simp
    · rw [enc_high (by omega)]
      have h8 : i ≤ 8 := by
        rcases Nat.lt_or_ge i 9 with h | h
        · omega
        · obtain rfl : i = 9 := by omega
          have h3 := Nat.mul_le_mul_right (128 ^ 9) (show 128 ≤ v by omega)
          omega
      show rdG i (((v % 128 + 128 : Nat) : Int) :: (enc (v / 128) ++ r)) = _
      rw [rdG, if_neg (by omega), if_neg (by omega), ih (v / 128) (by omega) (i + 1) r (by omega) ?_ (fun _ => by omega)]
      · simp only [Option.map_some, Option.some.injEq, Prod.mk.injEq, and_true, Int.toNat_natCast]
        omega
      · rw [Nat.pow_succ, Nat.mul_comm (128 ^ i) 128, ← Nat.mul_assoc]
        exact Nat.lt_of_le_of_lt (Nat.mul_le_mul_right _ (by omega)) hv
theorem uint_back {v : Nat} {r : List Int} (hv : v < 18446744073709551616) : (St.ok (enc v ++ r)).uint = (v, .ok r) := by
  unfold St.uint
  simp only
  rw [rdG_back v 0 r (by omega) (by omega) (fun h => by omega)]

/-- What a whole number is written as. -/
def zig (n : Int) : Nat := if 0 ≤ n then 2 * n.toNat else 2 * (-n - 1).toNat + 1
theorem zig_unzig (v : Nat) : zig (unzig v) = v := by
  unfold zig unzig
  by_cases h : v % 2 = 0
  · rw [if_pos h, if_pos (by omega)]; omega
  · rw [if_neg h, if_neg (by omega)]; omega
end Pk
end Go.Proofs.Ytgifinilgieonaa
