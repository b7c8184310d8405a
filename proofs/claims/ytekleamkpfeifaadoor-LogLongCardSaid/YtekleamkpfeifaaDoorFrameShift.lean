/-
  CONTRACTS of package frame's shift and Sum, as the developers wrote them.
-/
import Derived.Test.YtekleamkpfeifaaDoorRowWords
import Derived.Test.YtekleamkpfeifaaDoorFrameLd
namespace Go.Proofs.YtekleamkpfeifaaDoor
namespace Fr
open Go.RowKit
set_option maxRecDepth 100000 in
set_option maxHeartbeats 1000000 in
theorem shift_any (r : Nat) (w : World) (hr : r < 4294967296) (hld : Ld w) :
    Calls Tryd.prog 73 #[.int .u32 r] w fun e w' => e = .returned (.int .u32 (ticks 4 r : Nat)) ∧ w = w' := by
  have hc := hld (r % 16) _ (tab_at _ (Nat.mod_lt _ (by omega)))
  have ht : ticks 4 (r % 16) < 4294967296 := ticks_lt 4 _ (by omega)
  have H4 := Lib.hid (ticks_four r)
  obtain ⟨x, hx⟩ : ∃ x, x = ticks 4 (r % 16) := ⟨_, rfl⟩
  rw [← hx] at hc ht H4
  have hxor : bits BinOp.xor IntKind.u32 ((r : Int) / 16) (x : Int) = ((r / 16 ^^^ x : Nat) : Int) := by
    rw [show ((r : Int) / 16) = ((r / 16 : Nat) : Int) by omega]
    exact u32_xor_nat (r / 16) x (by omega) ht
  clear hld hx
  go_enter Tryd.func73, Tryd.ntmps73
  go_wp2
  go_ret
  exact ⟨by rw [H4.out]; rfl, rfl⟩
theorem shift_two (v : Nat) : ticks 4 (ticks 4 v) = ticks 8 v := (ticks_add 4 4 v).symm
theorem nats_app (xs ys : List Int) : nats (xs ++ ys) = nats xs ++ nats ys := by simp [nats]
theorem crc_part {ps : List (List Int)} {k v : Nat} {p : List Int} (hp : ps[k]? = some p) : crc v (nats (ps.drop k).flatten) = crc (crc v (nats p)) (nats (ps.drop (k + 1)).flatten) := by
  obtain ⟨hk, he⟩ := List.getElem?_eq_some_iff.1 hp
  rw [List.drop_eq_getElem_cons hk, he, List.flatten_cons, nats_app, crc_append]
theorem turn_all {v : Nat} (hv : v < 4294967296) : bits BinOp.xor IntKind.u32 IntKind.u32.max (v : Int) = (4294967295 : Int) - v := by
  rw [show IntKind.u32.max = ((4294967295 : Nat) : Int) by decide, u32_xor_nat 4294967295 v (by omega) hv]
  have h : 4294967295 ^^^ v = 4294967295 - v := by
    apply Nat.eq_of_testBit_eq
    intro i
    rw [show 4294967295 - v = 2 ^ 32 - (v + 1) by omega, Nat.testBit_two_pow_sub_succ (by omega), Nat.testBit_xor, show 4294967295 = 2 ^ 32 - 1 from rfl, Nat.testBit_two_pow_sub_one]
    by_cases hi : i < 32
    · simp [hi]
    · have hz : v.testBit i = false := Nat.testBit_lt_two_pow (Nat.lt_of_lt_of_le hv (show 2 ^ 32 ≤ 2 ^ i from Nat.pow_le_pow_right (by omega) (by omega)))
      simp [hi, hz]
  rw [h]; omega
theorem byte_xor {s y : Nat} (hs : s < 4294967296) (hy : y < 256) : bits BinOp.xor IntKind.u32 (s : Int) (y : Int) = ((s ^^^ y : Nat) : Int) ∧ s ^^^ y < 4294967296 :=
  ⟨u32_xor_nat s y hs (by omega), Nat.xor_lt_two_pow (n := 32) (by omega) (by omega)⟩
set_option maxRecDepth 100000 in
set_option maxHeartbeats 2000000 in
theorem sum_any (A : Option Addr) (n c : Nat) (vs : List Value) (ps : List (List Int)) (w : World) (hA : BRows w A vs ps) (hn : ps.length = n) (hb : ∀ p ∈ ps, ByteList p) (hlen : n ≤ 1099511627776) (hld : Ld w) :
    Calls Tryd.prog 69 #[.slice A n c] w fun e w' => e = .returned (.int .u32 (sumOf (nats ps.flatten) : Nat)) ∧ w = w' := by
  subst hn
  have HA := Lib.hid hA
  have HB := Lib.hid hb
  have HLD := Lib.hid hld
  clear hA hb hld
  go_enter Tryd.func69, Tryd.ntmps69
  go_wp2
  go_loop [3, 10] (fun r i => ∃ (k v : Nat), r = .int .u32 v ∧ i = .int .i64 k ∧ k ≤ ps.length ∧ v < 4294967296 ∧ Hid (crc 4294967295 (nats ps.flatten) = crc v (nats (ps.drop k).flatten))) (fun _ i => ps.length - (intOf i).toNat)
  case atStart => exact ⟨0, 4294967295, rfl, rfl, by omega, by omega, rfl⟩
  case round =>
    obtain ⟨k, v, rfl, rfl, hk, hv, H⟩ := hrel
    by_cases hlt : k < ps.length
    · obtain ⟨b1, o1, B1, c1, p, rfl, hp1, hc1, hr1, hn1, hcp⟩ := HA.out.at_ (i := k) hlt
      have HX := Lib.hid (H.out.trans (crc_part hp1))
      have HBP := Lib.hid (HB.out p (List.mem_of_getElem? hp1))
      have HR1 := Lib.hid hr1
      have hpl : p.length ≤ 9223372036854775807 := by omega
      clear hp1 hr1 hn1 H hcp
      go_wp2
      go_loop [3, 16] (fun r i => ∃ (j s : Nat), r = .int .u32 s ∧ i = .int .i64 j ∧ j ≤ p.length ∧ s < 4294967296 ∧ Hid (crc v (nats p) = crc s (nats (p.drop j)))) (fun _ i => p.length - (intOf i).toNat)
      case atStart => exact ⟨0, v, rfl, rfl, by omega, hv, rfl⟩
      case round =>
        obtain ⟨j, s, rfl, rfl, hj, hs, HS⟩ := hrel
        by_cases hjl : j < p.length
        · obtain ⟨x, hx⟩ : ∃ x, p[j]? = some x := ⟨p[j], List.getElem?_eq_getElem hjl⟩
          obtain ⟨hx0, hx1⟩ := HBP.out x (List.mem_of_getElem? hx)
          obtain ⟨b, off, rfl, hc⟩ := HR1.out j x hx
          obtain ⟨y, rfl⟩ : ∃ y : Nat, x = y := ⟨x.toNat, by omega⟩
          have HN := Lib.hid (HS.out.trans (crc_at hx))
          obtain ⟨hxor, hxl⟩ := byte_xor hs (show y < 256 by omega)
          have ht1 : ticks 4 (s ^^^ y) < 4294967296 := ticks_lt 4 _ hxl
          have ht2 := ticks_lt 4 _ ht1
          obtain ⟨t1, ht⟩ : ∃ t1, t1 = ticks 4 (s ^^^ y) := ⟨_, rfl⟩
          have HT := Lib.hid ht
          have H2 := Lib.hid (shift_two (s ^^^ y))
          rw [← ht] at ht1 ht2
          clear hx ht HS
          go_wp2_with (fail)
          refine (shift_any _ w hxl HLD.out).mono ?_
          rintro e w1 ⟨rfl, rfl⟩
          rw [← HT.out]
          go_wp2_with (fail)
          refine (shift_any _ w ht1 HLD.out).mono ?_
          rintro e w1 ⟨rfl, rfl⟩
          go_wp2
          go_round
          case rel => exact ⟨j + 1, ticks 4 t1, rfl, by go_num, by omega, ht2, by rw [HT.out, H2.out]; exact HN.out⟩
          case measure => simp [intOf]; omega
        · have HE := Lib.hid (HS.out.trans (by rw [List.drop_of_length_le (by omega)]; rfl : _ = s))
          go_wp2
          go_round
          case rel => exact ⟨k + 1, s, rfl, by go_num, by omega, hs, by show _ = _; rw [HX.out, HE.out]⟩
          case measure => simp [intOf]; omega
    · have HE := Lib.hid (H.out.trans (by rw [List.drop_of_length_le (by omega)]; rfl : _ = v))
      go_wp2
      go_ret
      exact ⟨ret_u32 ((turn_all hv).trans (sum_end HE.out hv)), rfl⟩
end Fr
end Go.Proofs.YtekleamkpfeifaaDoor
