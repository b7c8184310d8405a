/-
  CONTRACT of hanseref04.Sum.
-/
import Derived.Test.YtekleamkpfeifaaDoorProg
import Derived.Test.YtekleamkpfeifaaDoorChecked
import Derived.Test.YtekleamkpfeifaaDoorMem
import Derived.Test.YtekleamkpfeifaaDoorKeepBytes
import Derived.Test.YtekleamkpfeifaaDoorCrc
namespace Go.Proofs.YtekleamkpfeifaaDoor
namespace Fr
open Go.RowKit
def nats (xs : List Int) : List Nat := xs.map Int.toNat
theorem ticks_next (j r : Nat) : ticks (j + 1) r = tick (ticks j r) := by rw [ticks_add]; rfl
theorem half_pow {t y j : Nat} (h : t = y / 2 ^ j) : t / 2 = y / 2 ^ (j + 1) := by rw [h, Nat.div_div_eq_div_mul, Nat.pow_succ]
theorem bit_set {s t y v j : Nat} (h : t = y / 2 ^ j ∧ s ^^^ t = ticks j (v ^^^ y)) (hl : (s + t) % 2 = 1) : t / 2 = y / 2 ^ (j + 1) ∧ (s / 2 ^^^ 2197175160) ^^^ (t / 2) = ticks (j + 1) (v ^^^ y) := by
  refine ⟨half_pow h.1, ?_⟩
  rw [ticks_next, ← h.2]
  unfold tick
  rw [xor_mod, if_pos (by omega), xor_div, Nat.xor_assoc, Nat.xor_assoc, Nat.xor_comm (t / 2)]
  rfl
theorem bit_clear {s t y v j : Nat} (h : t = y / 2 ^ j ∧ s ^^^ t = ticks j (v ^^^ y)) (hl : ¬ (s + t) % 2 = 1) : t / 2 = y / 2 ^ (j + 1) ∧ (s / 2) ^^^ (t / 2) = ticks (j + 1) (v ^^^ y) := by
  refine ⟨half_pow h.1, ?_⟩
  rw [ticks_next, ← h.2]
  unfold tick
  rw [xor_mod, if_neg (by omega), xor_div]
theorem bits_end {s t y v : Nat} (h : t = y / 2 ^ 8 ∧ s ^^^ t = ticks 8 (v ^^^ y)) (hy : y < 256) : s = ticks 8 (v ^^^ y) := by
  have ht : t = 0 := by rw [h.1]; exact Nat.div_eq_of_lt hy
  rw [← h.2, ht, Nat.xor_zero]
theorem poly_bits {s : Nat} (hs : s < 4294967296) : bits BinOp.xor IntKind.u32 ((s : Int) / 2) 2197175160 = ((s / 2 ^^^ 2197175160 : Nat) : Int) := by
  rw [show ((s : Int) / 2) = ((s / 2 : Nat) : Int) by omega]
  exact u32_xor_nat (s / 2) 2197175160 (by omega) (by omega)
theorem poly_lt {s : Nat} (hs : s < 4294967296) : s / 2 ^^^ 2197175160 < 4294967296 := Nat.xor_lt_two_pow (n := 32) (by omega) (by omega)
theorem crc_at {xs : List Int} {k v y : Nat} (hx : xs[k]? = some (y : Int)) : crc v (nats (xs.drop k)) = crc (ticks 8 (v ^^^ y)) (nats (xs.drop (k + 1))) := by
  obtain ⟨hk, he⟩ := List.getElem?_eq_some_iff.1 hx
  rw [List.drop_eq_getElem_cons hk, he]
  rfl
theorem ret_u32 {a b : Int} (h : a = b) : Ending.returned (.int .u32 a) = .returned (.int .u32 b) := by rw [h]
theorem sum_end {v : Nat} {xs : List Int} (h : crc 4294967295 (nats xs) = v) (hv : v < 4294967296) : (4294967295 : Int) - v = (sumOf (nats xs) : Nat) := by
  unfold sumOf; rw [h]; omega
set_option maxRecDepth 100000 in
set_option maxHeartbeats 1000000 in
theorem refsum_any (A : Option Addr) (n c : Nat) (xs : List Int) (w : World) (hA : NRow .u8 w A xs) (hn : xs.length = n) (hb : ByteList xs) (hlen : n ≤ 70368744177664) :
    Calls Tryd.prog 60 #[.slice A n c] w fun e w' => e = .returned (.int .u32 (sumOf (nats xs) : Nat)) ∧ w = w' := by
  subst hn
  have HA := Lib.hid hA
  have HB := Lib.hid hb
  clear hA hb
  go_enter Tryd.func60, Tryd.ntmps60
  go_wp2
  go_loop [3, 4] (fun r i => ∃ (k v : Nat), r = .int .u32 v ∧ i = .int .i64 k ∧ k ≤ xs.length ∧ v < 4294967296 ∧ Hid (crc 4294967295 (nats xs) = crc v (nats (xs.drop k)))) (fun _ i => xs.length - (intOf i).toNat)
  case atStart => exact ⟨0, 4294967295, rfl, rfl, by omega, by omega, rfl⟩
  case round =>
    obtain ⟨k, v, rfl, rfl, hk, hv, H⟩ := hrel
    by_cases hlt : k < xs.length
    · obtain ⟨x, hx⟩ : ∃ x, xs[k]? = some x := ⟨xs[k], List.getElem?_eq_getElem hlt⟩
      obtain ⟨hx0, hx1⟩ := HB.out x (List.mem_of_getElem? hx)
      obtain ⟨b, off, rfl, hc⟩ := HA.out k x hx
      obtain ⟨y, rfl⟩ : ∃ y : Nat, x = y := ⟨x.toNat, by omega⟩
      have HX := Lib.hid (H.out.trans (crc_at hx))
      clear hx H
      go_wp2
      go_loop [3, 5, 6] (fun r z i => ∃ (j s t : Nat), r = .int .u32 s ∧ z = .int .u32 t ∧ i = .int .i64 j ∧ j ≤ 8 ∧ s < 4294967296 ∧ t < 256 ∧ Hid (t = y / 2 ^ j ∧ s ^^^ t = ticks j (v ^^^ y))) (fun _ _ i => 8 - (intOf i).toNat)
      case atStart => exact ⟨0, v, y, rfl, rfl, rfl, by omega, hv, by omega, by simp, rfl⟩
      case round =>
        obtain ⟨j, s, t, rfl, rfl, rfl, hj, hs, ht, HT⟩ := hrel
        by_cases hj8 : j < 8
        · by_cases hlow : (s + t) % 2 = 1
          · have HN := Lib.hid (bit_set HT.out hlow)
            have hl2 : (((s : Int) + t) % 2 == 1) = true := by rw [beq_iff_eq]; omega
            go_wp2
            go_round
            case rel => exact ⟨j + 1, s / 2 ^^^ 2197175160, t / 2, by rw [poly_bits hs], by go_num, by go_num, by omega, poly_lt hs, by omega, HN⟩
            case measure => simp [intOf]; omega
          · have HN := Lib.hid (bit_clear HT.out hlow)
            have hl2 : (((s : Int) + t) % 2 == 1) = false := by rw [beq_eq_false_iff_ne]; omega
            go_wp2
            go_round
            case rel => exact ⟨j + 1, s / 2, t / 2, by go_num, by go_num, by go_num, by omega, by omega, by omega, HN⟩
            case measure => simp [intOf]; omega
        · obtain rfl : j = 8 := by omega
          have HE := Lib.hid (bits_end HT.out (by omega))
          go_wp2
          go_round
          case rel => exact ⟨k + 1, s, rfl, by go_num, by omega, hs, by show _ = _; rw [HX.out, HE.out]⟩
          case measure => simp [intOf]; omega
    · have HE := Lib.hid (H.out.trans (by rw [List.drop_of_length_le (by omega)]))
      go_wp2
      go_ret
      exact ⟨ret_u32 (sum_end HE.out hv), rfl⟩
end Fr
end Go.Proofs.YtekleamkpfeifaaDoor
