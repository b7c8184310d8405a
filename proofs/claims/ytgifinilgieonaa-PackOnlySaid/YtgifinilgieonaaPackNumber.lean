/-
  CONTRACT of pack.number: the number at a text's beginning.
-/
import Derived.Test.YtgifinilgieonaaPackStr
import Derived.Test.YtgifinilgieonaaPackQUint
import Derived.Laws.Bits64b
namespace Go.Proofs.Ytgifinilgieonaa
namespace Pk
open Go.RowKit
/-- The number that s begins with, and of how many bytes it is (none: 0). -/
def numV (s : ByteArray) : Nat := match rdG 0 (nums s) with | none => 0 | some (v, _) => v
def numN (s : ByteArray) : Nat := match rdG 0 (nums s) with | none => 0 | some (_, r) => s.size - r.length
theorem numV_none {s : ByteArray} (h : rdG 0 (nums s) = none) : numV s = 0 ∧ numN s = 0 := by simp [numV, numN, h]
theorem numV_some {s : ByteArray} {v : Nat} {r : List Int} (h : rdG 0 (nums s) = some (v, r)) : numV s = v ∧ numN s = s.size - r.length := by simp [numV, numN, h]
theorem pow_128 (j : Nat) : 128 ^ j = 2 ^ (j * 7) := by rw [show (128 : Nat) = 2 ^ 7 by rfl, ← Nat.pow_mul, Nat.mul_comm]
theorem or_val {acc j y : Nat} (hC : acc < 128 ^ j) (hj : j ≤ 9) (hy : ¬ (j = 9 ∧ 1 < y)) : bits BinOp.or IntKind.u64 (acc : Int) (IntKind.u64.wrap ((y : Int) % 128 * 2 ^ (j * 7))) = ((acc + y % 128 * 128 ^ j : Nat) : Int) := by
  have h := acc_lt (x := (y : Int)) hC hj (by omega)
  rw [show ((y : Int)).toNat = y by omega] at h
  have e : (y : Int) % 128 * 2 ^ (j * 7) = ((y % 128 * 128 ^ j : Nat) : Int) := by
    rw [pow_128, Int.natCast_mul, show ((y % 128 : Nat) : Int) = (y : Int) % 128 by omega]; simp
  rw [e, wrap_nat (by omega), bits_or_u64_nat _ _ (by omega) (by omega)]
  congr 1
  have h2 : acc < 2 ^ (j * 7) := by rw [← pow_128]; exact hC
  have := Nat.two_pow_add_eq_or_of_lt h2 (y % 128)
  rw [pow_128, Nat.mul_comm (y % 128), Nat.or_comm, ← this]
  omega
theorem or_val9 {acc : Nat} (hC : acc < 128 ^ 9) : bits BinOp.or IntKind.u64 (acc : Int) 9223372036854775808 = ((acc + 1 * 128 ^ 9 : Nat) : Int) := by
  have := or_val (y := 1) hC (by omega) (by omega)
  rwa [show IntKind.u64.wrap (((1 : Nat) : Int) % 128 * 2 ^ (9 * 7)) = 9223372036854775808 by decide] at this
theorem or_val0 : bits BinOp.or IntKind.u64 0 (IntKind.u64.wrap 0) = 0 := by decide
theorem ret_two {a c : Int} {b d : Nat} (h : a = b) (g : c = d) : Ending.returned (.tuple #[.int .u64 a, .int .i64 c]) = .returned (.tuple #[.int .u64 (b : Nat), .int .i64 (d : Nat)]) := by rw [h, g]
theorem num_end {s : ByteArray} {acc j y : Nat} (H : rdG 0 (nums s) = some (acc + y * 128 ^ j, (nums s).drop (j + 1))) (hj : j < s.size) : numV s = acc + y * 128 ^ j ∧ numN s = j + 1 := by
  obtain ⟨h1, h2⟩ := numV_some H
  refine ⟨h1, ?_⟩
  rw [h2, List.length_drop, nums_len]
  omega
theorem acc_up {acc j y : Nat} (hC : acc < 128 ^ j) : acc + y % 128 * 128 ^ j < 128 ^ (j + 1) := by
  have h2 : y % 128 * 128 ^ j ≤ 127 * 128 ^ j := Nat.mul_le_mul_right _ (by omega)
  rw [Nat.pow_succ]
  omega
set_option maxRecDepth 100000 in
set_option maxHeartbeats 1000000 in
theorem number_any (s : ByteArray) (w : World) (hs : s.size ≤ 70368744177664) :
    Calls Try.prog 35 #[.string s] w fun e w' => e = .returned (.tuple #[.int .u64 (numV s : Nat), .int .i64 (numN s : Nat)]) ∧ w = w' := by
  go_enter Try.func35, Try.ntmps35
  go_wp2
  go_loop [2, 8] (fun v i => ∃ acc j : Nat, v = .int .u64 acc ∧ i = .int .i64 j ∧ j ≤ 9 ∧ j ≤ s.size ∧ Hid (acc < 128 ^ j) ∧ Hid (rdG 0 (nums s) = lift acc j (rdG j ((nums s).drop j)))) (fun _ i => 10 - (intOf i).toNat)
  case atStart => exact ⟨0, 0, rfl, rfl, by omega, by omega, by simp [Hid], by simp [Hid, lift_start]⟩
  case round =>
    obtain ⟨acc, j, rfl, rfl, hj, hjs, HC, H⟩ := hrel
    by_cases hlt : j < s.size
    · have HD := Lib.hid (drop_at (nums_at hlt))
      have hx1 : (s[j]).toNat < 256 := (s[j]).toNat_lt
      by_cases h9 : j = 9 ∧ 1 < (s[j]).toNat
      · have HN := Lib.hid (numV_none (by rw [H.out, HD.out, rdG_big _ h9.1 (by omega), lift_none]))
        obtain ⟨rfl, h91⟩ := h9
        clear H HD HC
        go_wp2
        go_ret2
        exact ⟨by rw [HN.out.1, HN.out.2]; rfl, rfl⟩
      · by_cases h128 : (s[j]).toNat < 128
        · by_cases hz : (s[j]).toNat = 0 ∧ 0 < j
          · have HN := Lib.hid (numV_none (by rw [H.out, HD.out, hz.1]; rw [show ((0 : Nat) : Int) = 0 by rfl, rdG_zero _ hz.2 hj, lift_none]))
            clear H HD HC
            go_wp2
            all_goals
              go_ret2
              exact ⟨by rw [HN.out.1, HN.out.2]; rfl, rfl⟩
          · obtain ⟨y, hy⟩ : ∃ y, (s[j]).toNat = y := ⟨_, rfl⟩
            have HE := Lib.hid (num_end (acc := acc) (y := y) (by rw [H.out, HD.out, hy, lift_last _ hj (by omega) (by omega) (by omega)]; rfl) hlt)
            rw [hy] at hx1 h9 h128 hz
            by_cases h0 : y = 0
            · obtain rfl : j = 0 := by omega
              obtain rfl : acc = 0 := by have := HC.out; omega
              subst h0
              clear H HD HC
              go_wp2
              go_ret2
              exact ⟨ret_two (by rw [HE.out.1]; exact or_val0) (by rw [HE.out.2]; rfl), rfl⟩
            by_cases hj9 : j = 9
            · obtain rfl : y = 1 := by omega
              subst hj9
              have HV := Lib.hid (or_val9 HC.out)
              clear H HD HC
              go_wp2
              go_ret2
              exact ⟨ret_two (by rw [HE.out.1]; exact HV.out) (by rw [HE.out.2]; rfl), rfl⟩
            · have HV := Lib.hid (or_val (y := y) HC.out hj h9)
              have hm : y % 128 = y := Nat.mod_eq_of_lt h128
              rw [hm] at HV
              clear H HD HC hm
              go_wp2
              go_ret2
              exact ⟨ret_two (by rw [HE.out.1]; exact HV.out) (by rw [HE.out.2]; rfl), rfl⟩
        · have hj8 : j ≤ 8 := by omega
          obtain ⟨y, hy⟩ : ∃ y, (s[j]).toNat = y := ⟨_, rfl⟩
          have HN := Lib.hid (H.out.trans (by rw [HD.out, hy, lift_more _ hj8 (by omega)]; rfl) : _ = lift (acc + y % 128 * 128 ^ j) (j + 1) (rdG (j + 1) ((nums s).drop (j + 1))))
          have HV := Lib.hid (or_val (y := y) HC.out hj (by omega))
          have HU := Lib.hid (acc_up (y := y) HC.out)
          rw [hy] at hx1 h9 h128
          clear H HD HC
          go_wp2
          go_round
          case rel => exact ⟨_, j + 1, by rw [HV.out], by go_num, by omega, by omega, HU, HN⟩
          case measure => simp [intOf]; omega
    · have HN := Lib.hid (numV_none (by rw [H.out, List.drop_of_length_le (by rw [nums_len]; omega), rdG_nil, lift_none]))
      clear H HC
      go_wp2
      go_ret2
      exact ⟨by rw [HN.out.1, HN.out.2]; rfl, rfl⟩
end Pk
end Go.Proofs.Ytgifinilgieonaa
