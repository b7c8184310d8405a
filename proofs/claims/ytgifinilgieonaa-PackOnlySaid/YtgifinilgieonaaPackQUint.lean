/-
  CONTRACT of (*hanseref03.Reader).Uint.
-/
import Derived.Test.YtgifinilgieonaaPackQObj
import Derived.Deep.QuietTactic
import Derived.BigQuiet
namespace Go.Proofs.Ytgifinilgieonaa
namespace Pk
open Go.RowKit
theorem drop_at {xs : List Int} {m : Nat} {x : Int} (h : xs[m]? = some x) : xs.drop m = x :: xs.drop (m + 1) := by
  obtain ⟨hm, rfl⟩ := List.getElem?_eq_some_iff.1 h
  exact List.drop_eq_getElem_cons hm
theorem pow_le_8 {j : Nat} (h : j ≤ 8) : 128 ^ j ≤ 72057594037927936 := Nat.le_trans (Nat.pow_le_pow_right (by omega) h) (by decide)
theorem acc_lt {acc j : Nat} {x : Int} (hC : acc < 128 ^ j) (hj : j ≤ 9) (hx : ¬ (j = 9 ∧ 1 < x)) : acc + x.toNat % 128 * 128 ^ j < 18446744073709551616 := by
  by_cases h9 : j = 9
  · subst h9
    have h1 : x.toNat % 128 ≤ 1 := by omega
    have h2 := Nat.mul_le_mul_right (128 ^ 9) h1
    omega
  · have h1 := pow_le_8 (j := j) (by omega)
    have h2 : x.toNat % 128 * 128 ^ j ≤ 127 * 72057594037927936 := Nat.mul_le_mul (by omega) h1
    omega
theorem wrap_nat {n : Nat} (h : n < 18446744073709551616) : IntKind.u64.wrap (n : Int) = n := by
  unfold IntKind.wrap; simp [IntKind.signed, IntKind.bits]; omega
theorem acc_wrap {acc un j : Nat} {x : Int} (hC : acc < 128 ^ j ∧ un = 128 ^ j) (hj : j ≤ 9) (hx : ¬ (j = 9 ∧ 1 < x)) (hx0 : 0 ≤ x) :
    IntKind.u64.wrap ((acc : Int) + IntKind.u64.wrap (x % 128 * un)) = ((acc + x.toNat % 128 * 128 ^ j : Nat) : Int) := by
  have h := acc_lt hC.1 hj hx
  have e : x % 128 * (un : Int) = ((x.toNat % 128 * 128 ^ j : Nat) : Int) := by
    rw [hC.2, Int.natCast_mul, show ((x.toNat % 128 : Nat) : Int) = x % 128 by omega]
  rw [e, wrap_nat (by omega), ← Int.natCast_add, wrap_nat h]
theorem acc_wrap0 {acc un j : Nat} {x : Int} (hC : acc < 128 ^ j ∧ un = 128 ^ j) (hj : j ≤ 9) (hx : ¬ (j = 9 ∧ 1 < x)) (h0 : x = 0) :
    IntKind.u64.wrap ((acc : Int) + IntKind.u64.wrap 0) = ((acc + x.toNat * 128 ^ j : Nat) : Int) := by
  have h := acc_wrap hC hj hx (by omega)
  subst h0
  simpa using h
theorem un_wrap {acc un j : Nat} (hC : acc < 128 ^ j ∧ un = 128 ^ j) (hj : j ≤ 8) : IntKind.u64.wrap ((un : Int) * 128) = ((128 ^ (j + 1) : Nat) : Int) := by
  have h := pow_le_8 hj
  rw [hC.2, show (((128 ^ j : Nat) : Int) * 128) = ((128 ^ (j + 1) : Nat) : Int) by rw [Nat.pow_succ, Int.natCast_mul]; rfl, wrap_nat (by rw [Nat.pow_succ]; omega)]
theorem acc_next {acc un j : Nat} {x : Int} (hC : acc < 128 ^ j ∧ un = 128 ^ j) : acc + x.toNat % 128 * 128 ^ j < 128 ^ (j + 1) ∧ 128 ^ (j + 1) = 128 ^ (j + 1) := by
  have h2 : x.toNat % 128 * 128 ^ j ≤ 127 * 128 ^ j := Nat.mul_le_mul_right _ (by omega)
  rw [Nat.pow_succ]
  exact ⟨by omega, rfl⟩
theorem ret_u64 {a : Int} {b : Nat} (h : a = b) : Ending.returned (.int .u64 a) = .returned (.int .u64 (b : Nat)) := by rw [h]
theorem toNat_mod {x : Int} (h0 : 0 ≤ x) (h : x < 128) : x.toNat % 128 = x.toNat := by omega
set_option maxRecDepth 100000 in
set_option maxHeartbeats 4000000 in
theorem quint_any (q : Nat) (A : Option Addr) (c : Nat) (xs : List Int) (st : St) (w : World) (hQ : QObj w q A c xs st) (hb : ByteList xs) (hlen : xs.length ≤ 70368744177664) :
    Calls Try.prog 29 #[.pointer (some ⟨q, 0, none⟩)] w fun r w' => r = .returned (.int .u64 (st.uint.1 : Nat)) ∧ QObj w' q A c xs st.uint.2 ∧ Moved w w' [q] := by
  obtain ⟨at_, e, hq, hA, hnq, hst⟩ := hQ
  have c2 := cell_at hq 2 (v := .int .i64 e) rfl
  cases st with
  | bad e' =>
    obtain ⟨rfl, he⟩ := hst
    go_enter Try.func29, Try.ntmps29
    go_wp2
    go_ret
    exact ⟨rfl, ⟨at_, e, hq, hA, hnq, rfl, he⟩, Moved.refl _ _⟩
  | ok bs =>
    obtain ⟨rfl, k, rfl, hk, rfl⟩ := hst
    have HA := Lib.hid hA
    have HB := Lib.hid hb
    have HNQ := Lib.hid hnq
    clear hA hb hnq
    go_enter Try.func29, Try.ntmps29
    go_wp2
    have HQ := Lib.hid hq
    clear hq c2
    go_loopw [3, 4, 5] (fun v u i wr => ∃ (acc un j m : Nat), v = .int .u64 acc ∧ u = .int .u64 un ∧ i = .int .i64 j ∧ j ≤ 9 ∧ m ≤ xs.length ∧ Hid (acc < 128 ^ j ∧ un = 128 ^ j) ∧
      Hid (wr.heap[q]? = some (.cells #[.slice A xs.length c, .int .i64 m, .int .i64 0] 31 (0, 0))) ∧ Moved w wr [q] ∧ Hid (rdG 0 (xs.drop k) = lift acc j (rdG j (xs.drop m)))) (fun _ _ i _ => 10 - (intOf i).toNat)
    case atStart => exact ⟨0, 1, 0, k, rfl, rfl, rfl, by omega, hk, by simp [Hid], HQ.out, Moved.refl _ _, by simp [Hid, lift_start]⟩
    case round =>
      obtain ⟨acc, un, j, m, rfl, rfl, rfl, hj, hm, HC, HQ2, hM, H⟩ := hrel
      have HM := Lib.hid hM
      clear hM
      have c0 := cell_at HQ2.out 0 (v := .slice A xs.length c) rfl
      have c1 := cell_at HQ2.out 1 (v := .int .i64 m) rfl
      have f1 := free_at HQ2.out 1
      by_cases hlt : m < xs.length
      · obtain ⟨x, hx⟩ : ∃ x, xs[m]? = some x := ⟨xs[m], List.getElem?_eq_getElem hlt⟩
        obtain ⟨hx0, hx1⟩ := HB.out x (List.mem_of_getElem? hx)
        have hA2 : NRow .u8 wr A xs := nrowx_moved HA.out HM.out (fun b hb h => HNQ.out (by simp at h; exact h ▸ hb))
        obtain ⟨b, off, rfl, hc⟩ := hA2 m x hx
        have HD := Lib.hid (drop_at hx)
        have hqb : ¬ b = q := fun h => HNQ.out (by rw [← h]; exact rowX_some hx)
        clear hx hA2
        by_cases h9 : j = 9 ∧ 1 < x
        · have HN := Lib.hid (uint_none (by rw [H.out, HD.out, rdG_big _ h9.1 h9.2, lift_none]))
          obtain ⟨rfl, h91⟩ := h9
          clear H HD
          go_wp2
          go_quiet (fail)
          go_wp2
          go_quiet (fail)
          go_wp2_with (go_at_call 43; refine (fail_any q _ _ 4 _ (by exact q_next (m' := (m : Int) + 1) HQ2.out)).mono ?_; rintro e w1 ⟨rfl, rfl⟩)
          all_goals
            go_ret
            refine ⟨by rw [HN.out]; rfl, ?_⟩
            rw [HN.out]
            exact qobj_fail (e := 4) (by exact q_next (m' := (m : Int) + 1) HQ2.out) HA.out HNQ.out ((HM.out.drewN _).setCell (p := ⟨q, 1, none⟩) (.inl (by simp)) (.int .i64 ((m : Int) + 1))) (by omega)
        · by_cases h128 : x < 128
          · by_cases hz : x = 0 ∧ 0 < j
            · have HN := Lib.hid (uint_none (by rw [H.out, HD.out, hz.1, rdG_zero _ hz.2 hj, lift_none]))
              obtain ⟨rfl, hz2⟩ := hz
              clear H HD
              go_wp2
              go_quiet (fail)
              go_wp2
              go_quiet (fail)
              go_wp2_with (go_at_call 43; refine (fail_any q _ _ 4 _ (by exact q_next (m' := (m : Int) + 1) HQ2.out)).mono ?_; rintro e w1 ⟨rfl, rfl⟩)
              all_goals
                go_ret
                refine ⟨by rw [HN.out]; rfl, ?_⟩
                rw [HN.out]
                exact qobj_fail (e := 4) (by exact q_next (m' := (m : Int) + 1) HQ2.out) HA.out HNQ.out ((HM.out.drewN _).setCell (p := ⟨q, 1, none⟩) (.inl (by simp)) (.int .i64 ((m : Int) + 1))) (by omega)
            · have HN := Lib.hid (uint_some (by rw [H.out, HD.out, lift_last _ hj h9 h128 hz]))
              by_cases hx00 : x = 0
              · have HW := Lib.hid (acc_wrap0 (x := x) HC.out hj h9 hx00)
                obtain rfl : j = 0 := by omega
                obtain rfl := hx00
                clear H HD
                go_wp2
                go_quiet (fail)
                go_wp2
                go_quiet (fail)
                go_wp2
                all_goals
                  go_ret
                  refine ⟨?_, ?_⟩
                  · rw [HN.out]; exact ret_u64 HW.out
                  · rw [HN.out]
                    exact ⟨qobj_ok (m := m + 1) (by exact q_next HQ2.out) HA.out HNQ.out ((HM.out.drewN _).setCell (p := ⟨q, 1, none⟩) (.inl (by simp)) (.int .i64 ((m : Int) + 1))) (by omega), (HM.out.drewN _).setCell (p := ⟨q, 1, none⟩) (.inl (by simp)) (.int .i64 ((m : Int) + 1))⟩
              · have HW := Lib.hid ((acc_wrap HC.out hj h9 hx0).trans (by rw [toNat_mod hx0 h128]))
                have hx128 : ¬ x % 128 = 0 := by omega
                clear H HD
                go_wp2
                go_quiet (fail)
                go_wp2
                go_quiet (fail)
                go_wp2
                all_goals
                  go_ret
                  refine ⟨?_, ?_⟩
                  · rw [HN.out]; exact ret_u64 HW.out
                  · rw [HN.out]
                    exact ⟨qobj_ok (m := m + 1) (by exact q_next HQ2.out) HA.out HNQ.out ((HM.out.drewN _).setCell (p := ⟨q, 1, none⟩) (.inl (by simp)) (.int .i64 ((m : Int) + 1))) (by omega), (HM.out.drewN _).setCell (p := ⟨q, 1, none⟩) (.inl (by simp)) (.int .i64 ((m : Int) + 1))⟩
          · have h8 : j ≤ 8 := by omega
            have HN := Lib.hid (H.out.trans (by rw [HD.out, lift_more _ h8 (by omega)]))
            have HW := Lib.hid (acc_wrap HC.out hj h9 hx0)
            have HU := Lib.hid (un_wrap HC.out h8)
            have HC2 := Lib.hid (acc_next (x := x) HC.out)
            clear H HD
            go_wp2
            go_quiet (fail)
            go_wp2
            go_quiet (fail)
            go_wp2
            all_goals
              go_roundw
              case rel => exact ⟨_, _, j + 1, m + 1, by rw [HW.out], by rw [HU.out], by go_num, by omega, by omega, ⟨HC2.out.1, rfl⟩, q_next HQ2.out, (HM.out.drewN _).setCell (p := ⟨q, 1, none⟩) (.inl (by simp)) (.int .i64 ((m : Int) + 1)), HN⟩
              case measure => simp [intOf]; omega
      · have HN := Lib.hid (uint_none (by rw [H.out, List.drop_of_length_le (by omega), rdG_nil, lift_none]))
        clear H
        go_wp2
        go_quiet (fail)
        go_wp2_with (go_at_call 43; refine (fail_any q _ _ 4 _ (by exact HQ2.out)).mono ?_; rintro e w1 ⟨rfl, rfl⟩)
        go_ret
        refine ⟨by rw [HN.out]; rfl, ?_⟩
        rw [HN.out]
        exact qobj_fail (e := 4) (by exact HQ2.out) HA.out HNQ.out (HM.out.drewN _) (by omega)
end Pk
end Go.Proofs.Ytgifinilgieonaa
