/-
  PLAIN: numbers in groups of seven bits.
-/
namespace Go.Proofs.YtekleamkpfeifaaDoor
namespace Pk

/-- The bytes of a number, the lowest seven bits first. -/
def enc (v : Nat) : List Int := if v < 128 then [(v : Int)] else (v % 128 + 128 : Nat) :: enc (v / 128)
termination_by v
decreasing_by omega
theorem enc_low {v : Nat} (h : v < 128) : enc v = [(v : Int)] := by rw [enc, if_pos h]
theorem enc_high {v : Nat} (h : 128 ≤ v) : enc v = ((v % 128 + 128 : Nat) : Int) :: enc (v / 128) := by rw [enc, if_neg (by omega)]
theorem enc_len_pos (v : Nat) : 1 ≤ (enc v).length := by
  rw [enc]; split <;> simp
theorem enc_len (n : Nat) : ∀ v : Nat, v < 128 ^ (n + 1) → (enc v).length ≤ n + 1 := by
  induction n with
  | zero => intro v h; rw [enc_low (by simpa using h)]; simp
  | succ n ih =>
    intro v h
    by_cases hv : v < 128
    · rw [enc_low hv]; simp
    · rw [enc_high (by omega)]
      have := ih (v / 128) (by rw [Nat.div_lt_iff_lt_mul (by omega), ← Nat.pow_succ]; exact h)
      simp; omega
theorem enc_ten {v : Nat} (h : v < 18446744073709551616) : (enc v).length ≤ 10 := enc_len 9 v (Nat.lt_of_lt_of_le h (by decide))
theorem enc_byte : ∀ (v : Nat), ∀ x ∈ enc v, 0 ≤ x ∧ x ≤ 255 := by
  intro v
  induction v using Nat.strongRecOn with
  | _ v ih =>
    intro x hx
    by_cases hv : v < 128
    · rw [enc_low hv] at hx; simp at hx; omega
    · rw [enc_high (by omega)] at hx
      rcases List.mem_cons.1 hx with rfl | hx
      · omega
      · exact ih (v / 128) (by omega) x hx
end Pk
end Go.Proofs.YtekleamkpfeifaaDoor
