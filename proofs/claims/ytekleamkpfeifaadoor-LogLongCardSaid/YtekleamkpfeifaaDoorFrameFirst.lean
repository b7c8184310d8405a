/-
  CONTRACT of package frame's First.
-/
import Derived.Test.YtekleamkpfeifaaDoorFrameSeal
namespace Go.Proofs.YtekleamkpfeifaaDoor
namespace Fr
open Go.RowKit
theorem num_be4 (v : Nat) : numB (be4 v) = v := by
  unfold numB be4
  simp only [List.getD_cons_zero, List.getD_cons_succ]
  omega
theorem four_of {xs : List Int} (h : 4 ≤ xs.length) : ∃ x0 x1 x2 x3 r, xs = x0 :: x1 :: x2 :: x3 :: r := by
  rcases xs with _ | ⟨x0, _ | ⟨x1, _ | ⟨x2, _ | ⟨x3, r⟩⟩⟩⟩ <;> simp only [List.length_nil, List.length_cons] at h
  · omega
  · omega
  · omega
  · omega
  · exact ⟨x0, x1, x2, x3, r, rfl⟩
theorem be4_num {xs : List Int} (hb : ByteList xs) (h : 4 ≤ xs.length) {k : Nat} (hk : numB xs = k) : be4 k = xs.take 4 := by
  obtain ⟨x0, x1, x2, x3, r, rfl⟩ := four_of h
  have g0 := hb x0 (by simp)
  have g1 := hb x1 (by simp)
  have g2 := hb x2 (by simp)
  have g3 := hb x3 (by simp)
  unfold numB at hk
  simp only [List.getD_cons_zero, List.getD_cons_succ] at hk
  simp only [be4, List.take_succ_cons, List.take_zero, List.cons.injEq, and_true]
  omega
theorem numB_take (xs : List Int) (h : 4 ≤ xs.length) : numB (xs.take 4) = numB xs := by
  obtain ⟨x0, x1, x2, x3, r, rfl⟩ := four_of h
  rfl
theorem take_parts (xs : List Int) (k : Nat) : xs.take (8 + k) = xs.take 4 ++ ((xs.drop 4).take 4 ++ (xs.drop 8).take k) := by
  rw [show 8 + k = 4 + (4 + k) by omega, List.take_add, List.take_add, List.drop_drop]
theorem first_iff {xs ps : List Int} {k sm : Nat} (hb : ByteList xs) (h8 : 8 ≤ xs.length) (hk : numB xs = k) (hps : ps = (xs.drop 8).take k) (hpl : ps.length = k) (hsm : sm = sumOf (nats (xs.take 4 ++ ps))) :
    frameOf ps = xs.take (8 + k) ↔ (sm : Int) = numB ((xs.drop 4).take 4) := by
  have h4 := be4_num hb (by omega) hk
  have hl : 4 ≤ (xs.drop 4).length := by simp; omega
  rw [take_parts, ← hps, frameOf, hpl, h4, ← hsm, List.append_assoc, List.append_cancel_left_eq, List.append_cancel_right_eq, numB_take _ hl]
  constructor
  · intro h
    rw [← numB_take _ hl, ← h, num_be4]
  · intro h
    exact be4_num (hb.drop 4) hl h.symm
set_option maxRecDepth 100000 in
set_option maxHeartbeats 2000000 in
theorem first_any (A : Option Addr) (n c : Nat) (xs : List Int) (w : World) (hA : NRow .u8 w A xs) (hn : xs.length = n) (hb : ByteList xs) (hnil : A = none → c = 0) (hc : n ≤ c) (hc2 : c ≤ 9223372036854775807) (hlen : n ≤ 1099511627776) (hld : Ld w) :
    Calls Tryd.prog 65 #[.slice A n c] w (ToldF (firstP xs) (firstN xs) (firstE xs) w) := by
  subst hn
  by_cases h8 : xs.length < 8
  · have HF := Lib.hid (first_none (xs := xs) (by rw [firstOf, if_pos h8]))
    rw [HF.out.1, HF.out.2.1, HF.out.2.2]
    go_enter Tryd.func65, Tryd.ntmps65
    go_wp2
    go_ret3
    exact toldf_none (Moved.refl _ _)
  have hbd := numB_bound hb
  obtain ⟨k, hk⟩ : ∃ k : Nat, numB xs = k := ⟨(numB xs).toNat, by omega⟩
  have hkt : (numB xs).toNat = k := by omega
  have hk32 : k ≤ 4294967295 := by omega
  obtain ⟨x0, hx0⟩ : ∃ x0, xs[0]? = some x0 := ⟨xs[0], List.getElem?_eq_getElem (by omega)⟩
  obtain ⟨b, off, rfl, -⟩ := hA 0 x0 hx0
  have HA := Lib.hid hA
  have HB := Lib.hid hb
  have HLD := Lib.hid hld
  have HK := Lib.hid hk
  have HKT := Lib.hid hkt
  have HN4 := Lib.hid (show numB (xs.take 4) = k by rw [numB_take _ (by omega)]; exact hk)
  have HL4 := Lib.hid (show (xs.take 4).length = 4 by simp; omega)
  have HB4 := Lib.hid (hb.take 4)
  clear hA hb hnil hld hk hbd hkt hx0
  by_cases hc8 : c = 8
  · obtain rfl := hc8
    have hx8 : xs.length = 8 := by omega
    go_enter Tryd.func65, Tryd.ntmps65
    go_wp2
    go_quiet (fail)
    go_wp2_with fail
    refine (number_any (some ⟨b, off, none⟩) 4 _ (xs.take 4) _ (by exact (HA.out.take 4).drewN _) HL4.out HB4.out (by omega) (by omega)).mono ?_
    rw [HN4.out]
    rintro e w1 ⟨rfl, m1, hw1⟩
    have HM1 := Lib.hid (show Moved w w1 [] by rw [hw1]; exact ((Moved.refl _ _).drewN _).drewN _)
    clear hw1
    by_cases hbig : 131072 < k ∨ xs.length - 8 < k
    · have HF := Lib.hid (first_none (xs := xs) (by rw [firstOf, if_neg h8, HKT.out, if_pos hbig]))
      rcases hbig with h | h
      · go_wp2
        go_ret3
        rw [HF.out.1, HF.out.2.1, HF.out.2.2]
        exact toldf_none HM1.out
      · by_cases h' : 131072 < k
        · go_wp2
          go_ret3
          rw [HF.out.1, HF.out.2.1, HF.out.2.2]
          exact toldf_none HM1.out
        · go_wp2
          go_ret3
          rw [HF.out.1, HF.out.2.1, HF.out.2.2]
          exact toldf_none HM1.out
    have hk1 : k ≤ 131072 := by omega
    have hk2 : k ≤ xs.length - 8 := by omega
    have hk0 : k = 0 := by omega
    have HBIG := Lib.hid hbig
    clear hbig
    obtain ⟨ps, hps⟩ : ∃ ps, ps = (xs.drop 8).take k := ⟨_, rfl⟩
    have HPS := Lib.hid hps
    have HPL := Lib.hid (show ps.length = k by rw [hps]; simp; omega)
    have HBP := Lib.hid (show ByteList ps by rw [hps]; exact (HB.out.drop 8).take k)
    have HA1 := Lib.hid (nrowx_moved HA.out HM1.out (fun _ _ h => by cases h))
    have HB41 := Lib.hid (show Bites w1 (.slice (some ⟨b, off, none⟩) 4 8) (xs.take 4) from ⟨_, 8, by rw [HL4.out], HA1.out.take 4, (fun h => by cases h), by rw [HL4.out]; omega, hc2⟩)
    have HBP1 := Lib.hid (show Bites w1 (.slice (some ⟨b, off, none⟩) 0 0) ps from ⟨_, 0, by rw [HPL.out, hk0], by rw [List.eq_nil_of_length_eq_zero (HPL.out.trans hk0)]; exact NRow.none_ _ _ _, (fun h => by cases h), by rw [HPL.out]; omega, by omega⟩)
    have HBR := Lib.hid (brows_two 27 HB41.out HBP1.out)
    have HL1 := Lib.hid ((HLD.out.moved HM1.out).alloc (.cells #[.slice (some ⟨b, off, none⟩) 4 8, .slice (some ⟨b, off, none⟩) 0 0] 27))
    have HM2 := Lib.hid (HM1.out.alloc (.cells #[.slice (some ⟨b, off, none⟩) 4 8, .slice (some ⟨b, off, none⟩) 0 0] 27))
    clear hps
    go_wp2_with fail
    refine (sum_any _ 2 2 _ [xs.take 4, ps] _ (by exact HBR.out) rfl (fun p hp => by
      rcases List.mem_cons.1 hp with rfl | hp
      · exact HB4.out
      · simp at hp; subst hp; exact HBP.out) (by omega) (by exact HL1.out)).mono ?_
    rintro e w2 ⟨rfl, hw2⟩
    rw [hw2] at HM2
    clear hw2
    rw [show ([xs.take 4, ps] : List (List Int)).flatten = xs.take 4 ++ ps by simp]
    obtain ⟨sm, hsm⟩ : ∃ sm, sm = sumOf (nats (xs.take 4 ++ ps)) := ⟨_, rfl⟩
    have HIF := Lib.hid (first_iff HB.out (by omega) HK.out HPS.out HPL.out hsm)
    rw [← hsm]
    clear hsm
    have HA2 := Lib.hid (nrowx_moved HA.out HM2.out (fun _ _ h => by cases h))
    have HD4 := Lib.hid (show NRow .u8 w2 (some ⟨b, off + 4, none⟩) ((xs.drop 4).take 4) from (HA2.out.drop 4).take 4)
    have HD4L := Lib.hid (show ((xs.drop 4).take 4).length = 4 by simp; omega)
    go_wp2_with fail
    refine (number_any (some ⟨b, off + 4, none⟩) 4 _ ((xs.drop 4).take 4) _ (by exact HD4.out) HD4L.out ((HB.out.drop 4).take 4) (by omega) (by omega)).mono ?_
    obtain ⟨nn, hnn⟩ : ∃ nn, nn = numB ((xs.drop 4).take 4) := ⟨_, rfl⟩
    rw [← hnn]
    rw [← hnn] at HIF
    clear hnn
    rintro e w3 ⟨rfl, m3, hw3⟩
    have HM3 := Lib.hid (show Moved w w3 [] by rw [hw3]; exact HM2.out.drewN _)
    clear hw3
    by_cases heq : (sm : Int) = nn
    · have HF := Lib.hid (first_some (xs := xs) (p := ps) (by rw [firstOf, if_neg h8, HKT.out, if_neg HBIG.out, ← HPS.out, if_pos (HIF.out.2 heq)]))
      have hbe : ((sm : Int) == nn) = true := by rw [beq_iff_eq]; exact heq
      clear heq
      have HP3 := Lib.hid (show NRow .u8 w3 (some ⟨b, off, none⟩) ps by rw [List.eq_nil_of_length_eq_zero (HPL.out.trans hk0)]; exact NRow.none_ _ _ _)
      go_wp2_with fail
      refine (clone_any ⟨b, off, none⟩ 0 _ ps _ (by exact HP3.out) (HPL.out.trans hk0) (by omega)).mono ?_
      rintro e w4 ⟨v4, rfl, hO4, hS4⟩
      have HO4 := Lib.hid hO4
      have HS4 := Lib.hid (show Step w w4 [] (rowOf v4) from ⟨HM3.out.trans hS4.1 (fun _ h => by cases h), fun j hj => .inr (Nat.le_trans HM3.out.size (Step.new hS4 j hj))⟩)
      clear hO4 hS4
      go_wp2
      go_ret3
      rw [HF.out.1, HF.out.2.1, HF.out.2.2, HPL.out, hk0]
      exact ⟨_, rfl, HO4.out, HS4.out⟩
    · have HF := Lib.hid (first_none (xs := xs) (by rw [firstOf, if_neg h8, HKT.out, if_neg HBIG.out, ← HPS.out, if_neg (fun h => heq (HIF.out.1 h))]))
      have hbe : ((sm : Int) == nn) = false := by rw [beq_eq_false_iff_ne]; exact heq
      clear heq
      go_wp2
      go_ret3
      rw [HF.out.1, HF.out.2.1, HF.out.2.2]
      exact toldf_none HM3.out
  · have hc9 : 8 < c := by omega
    go_enter Tryd.func65, Tryd.ntmps65
    go_wp2
    go_quiet (fail)
    go_wp2_with fail
    refine (number_any (some ⟨b, off, none⟩) 4 _ (xs.take 4) _ (by exact (HA.out.take 4).drewN _) HL4.out HB4.out (by omega) (by omega)).mono ?_
    rw [HN4.out]
    rintro e w1 ⟨rfl, m1, hw1⟩
    have HM1 := Lib.hid (show Moved w w1 [] by rw [hw1]; exact ((Moved.refl _ _).drewN _).drewN _)
    clear hw1
    by_cases hbig : 131072 < k ∨ xs.length - 8 < k
    · have HF := Lib.hid (first_none (xs := xs) (by rw [firstOf, if_neg h8, HKT.out, if_pos hbig]))
      rcases hbig with h | h
      · go_wp2
        go_ret3
        rw [HF.out.1, HF.out.2.1, HF.out.2.2]
        exact toldf_none HM1.out
      · by_cases h' : 131072 < k
        · go_wp2
          go_ret3
          rw [HF.out.1, HF.out.2.1, HF.out.2.2]
          exact toldf_none HM1.out
        · go_wp2
          go_ret3
          rw [HF.out.1, HF.out.2.1, HF.out.2.2]
          exact toldf_none HM1.out
    have hk1 : k ≤ 131072 := by omega
    have hk2 : k ≤ xs.length - 8 := by omega
    have hk3 : k ≤ c - 8 := by omega
    have HBIG := Lib.hid hbig
    clear hbig
    obtain ⟨ps, hps⟩ : ∃ ps, ps = (xs.drop 8).take k := ⟨_, rfl⟩
    have HPS := Lib.hid hps
    have HPL := Lib.hid (show ps.length = k by rw [hps]; simp; omega)
    have HBP := Lib.hid (show ByteList ps by rw [hps]; exact (HB.out.drop 8).take k)
    have HA1 := Lib.hid (nrowx_moved HA.out HM1.out (fun _ _ h => by cases h))
    have HB41 := Lib.hid (show Bites w1 (.slice (some ⟨b, off, none⟩) 4 c) (xs.take 4) from ⟨_, c, by rw [HL4.out], HA1.out.take 4, (fun h => by cases h), by rw [HL4.out]; omega, hc2⟩)
    have HBP1 := Lib.hid (show Bites w1 (.slice (some ⟨b, off + 8, none⟩) k (c - 8)) ps from ⟨_, c - 8, by rw [HPL.out], by rw [hps]; exact (HA1.out.drop 8).take k, (fun h => by cases h), by rw [HPL.out]; exact hk3, by omega⟩)
    have HBR := Lib.hid (brows_two 27 HB41.out HBP1.out)
    have HL1 := Lib.hid ((HLD.out.moved HM1.out).alloc (.cells #[.slice (some ⟨b, off, none⟩) 4 c, .slice (some ⟨b, off + 8, none⟩) k (c - 8)] 27))
    have HM2 := Lib.hid (HM1.out.alloc (.cells #[.slice (some ⟨b, off, none⟩) 4 c, .slice (some ⟨b, off + 8, none⟩) k (c - 8)] 27))
    clear hps
    go_wp2_with fail
    refine (sum_any _ 2 2 _ [xs.take 4, ps] _ (by exact HBR.out) rfl (fun p hp => by
      rcases List.mem_cons.1 hp with rfl | hp
      · exact HB4.out
      · simp at hp; subst hp; exact HBP.out) (by omega) (by exact HL1.out)).mono ?_
    rintro e w2 ⟨rfl, hw2⟩
    rw [hw2] at HM2
    clear hw2
    rw [show ([xs.take 4, ps] : List (List Int)).flatten = xs.take 4 ++ ps by simp]
    obtain ⟨sm, hsm⟩ : ∃ sm, sm = sumOf (nats (xs.take 4 ++ ps)) := ⟨_, rfl⟩
    have HIF := Lib.hid (first_iff HB.out (by omega) HK.out HPS.out HPL.out hsm)
    rw [← hsm]
    clear hsm
    have HA2 := Lib.hid (nrowx_moved HA.out HM2.out (fun _ _ h => by cases h))
    have HD4 := Lib.hid (show NRow .u8 w2 (some ⟨b, off + 4, none⟩) ((xs.drop 4).take 4) from (HA2.out.drop 4).take 4)
    have HD4L := Lib.hid (show ((xs.drop 4).take 4).length = 4 by simp; omega)
    go_wp2_with fail
    refine (number_any (some ⟨b, off + 4, none⟩) 4 _ ((xs.drop 4).take 4) _ (by exact HD4.out) HD4L.out ((HB.out.drop 4).take 4) (by omega) (by omega)).mono ?_
    obtain ⟨nn, hnn⟩ : ∃ nn, nn = numB ((xs.drop 4).take 4) := ⟨_, rfl⟩
    rw [← hnn]
    rw [← hnn] at HIF
    clear hnn
    rintro e w3 ⟨rfl, m3, hw3⟩
    have HM3 := Lib.hid (show Moved w w3 [] by rw [hw3]; exact HM2.out.drewN _)
    clear hw3
    by_cases heq : (sm : Int) = nn
    · have HF := Lib.hid (first_some (xs := xs) (p := ps) (by rw [firstOf, if_neg h8, HKT.out, if_neg HBIG.out, ← HPS.out, if_pos (HIF.out.2 heq)]))
      have hbe : ((sm : Int) == nn) = true := by rw [beq_iff_eq]; exact heq
      clear heq
      have HP3 := Lib.hid (show NRow .u8 w3 (some ⟨b, off + 8, none⟩) ps by rw [HPS.out]; exact ((nrowx_moved HA.out HM3.out (fun _ _ h => by cases h)).drop 8).take k)
      go_wp2_with fail
      refine (clone_any ⟨b, off + 8, none⟩ k _ ps _ (by exact HP3.out) HPL.out (by omega)).mono ?_
      rintro e w4 ⟨v4, rfl, hO4, hS4⟩
      have HO4 := Lib.hid hO4
      have HS4 := Lib.hid (show Step w w4 [] (rowOf v4) from ⟨HM3.out.trans hS4.1 (fun _ h => by cases h), fun j hj => .inr (Nat.le_trans HM3.out.size (Step.new hS4 j hj))⟩)
      clear hO4 hS4
      go_wp2
      go_ret3
      rw [HF.out.1, HF.out.2.1, HF.out.2.2, HPL.out]
      exact ⟨_, rfl, HO4.out, HS4.out⟩
    · have HF := Lib.hid (first_none (xs := xs) (by rw [firstOf, if_neg h8, HKT.out, if_neg HBIG.out, ← HPS.out, if_neg (fun h => heq (HIF.out.1 h))]))
      have hbe : ((sm : Int) == nn) = false := by rw [beq_eq_false_iff_ne]; exact heq
      clear heq
      go_wp2
      go_ret3
      rw [HF.out.1, HF.out.2.1, HF.out.2.2]
      exact toldf_none HM3.out
end Fr
end Go.Proofs.YtekleamkpfeifaaDoor
