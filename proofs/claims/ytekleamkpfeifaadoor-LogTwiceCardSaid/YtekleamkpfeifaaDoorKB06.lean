/-
  2 texts in one: FrameFirst, DiskPc.
-/
import Derived.Test.YtekleamkpfeifaaDoorKB05
import Derived.Test.YtekleamkpfeifaaDoorKB04
import Derived.BigRegion
import Derived.Deep.QuietTactic
import Derived.BigQuiet
import Derived.IntWalk

/-
  CONTRACT of package frame's First.
-/
namespace Go.Proofs.YtekleamkpfeifaaDoor
namespace Fr
open Go.RowKit
theorem num_be4 (v : Nat) : numB (be4 v) = v := by
  unfold numB be4
  simp only [List.getD_cons_zero, List.getD_cons_succ]
  omega
theorem four_of {xs : List Int} (h : 4 ≤ xs.length) : ∃ x0 x1 x2 x3 r, xs = x0 :: x1 :: x2 :: x3 :: r := by
  rcases xs with _ | ⟨x0, _ | ⟨x1, _ | ⟨x2, _ | ⟨x3, r⟩⟩⟩⟩ <;> simp only [List.length_nil, List.length_cons] at h
  · omega
  · omega
  · omega
  · omega
  · exact ⟨x0, x1, x2, x3, r, rfl⟩
theorem be4_num {xs : List Int} (hb : ByteList xs) (h : 4 ≤ xs.length) {k : Nat} (hk : numB xs = k) : be4 k = xs.take 4 := by
  obtain ⟨x0, x1, x2, x3, r, rfl⟩ := four_of h
  have g0 := hb x0 (by simp)
  have g1 := hb x1 (by simp)
  have g2 := hb x2 (by simp)
  have g3 := hb x3 (by simp)
  unfold numB at hk
  simp only [List.getD_cons_zero, List.getD_cons_succ] at hk
  simp only [be4, List.take_succ_cons, List.take_zero, List.cons.injEq, and_true]
  omega
theorem numB_take (xs : List Int) (h : 4 ≤ xs.length) : numB (xs.take 4) = numB xs := by
  obtain ⟨x0, x1, x2, x3, r, rfl⟩ := four_of h
  rfl
theorem take_parts (xs : List Int) (k : Nat) : xs.take (8 + k) = xs.take 4 ++ ((xs.drop 4).take 4 ++ (xs.drop 8).take k) := by
  rw [show 8 + k = 4 + (4 + k) by omega, List.take_add, List.take_add, List.drop_drop]
theorem first_iff {xs ps : List Int} {k sm : Nat} (hb : ByteList xs) (h8 : 8 ≤ xs.length) (hk : numB xs = k) (hps : ps = (xs.drop 8).take k) (hpl : ps.length = k) (hsm : sm = sumOf (nats (xs.take 4 ++ ps))) :
    frameOf ps = xs.take (8 + k) ↔ (sm : Int) = numB ((xs.drop 4).take 4) := by
  have h4 := be4_num hb (by omega) hk
  have hl : 4 ≤ (xs.drop 4).length := by simp; omega
  rw [take_parts, ← hps, frameOf, hpl, h4, ← hsm, List.append_assoc, List.append_cancel_left_eq, List.append_cancel_right_eq, numB_take _ hl]
  constructor
  · intro h
    rw [← numB_take _ hl, ← h, num_be4]
  · intro h
    exact be4_num (hb.drop 4) hl h.symm
set_option maxRecDepth 100000 in
set_option maxHeartbeats 2000000 in
theorem first_any (A : Option Addr) (n c : Nat) (xs : List Int) (w : World) (hA : NRow .u8 w A xs) (hn : xs.length = n) (hb : ByteList xs) (hnil : A = none → c = 0) (hc : n ≤ c) (hc2 : c ≤ 9223372036854775807) (hlen : n ≤ 1099511627776) (hld : Ld w) :
    Calls Tryd.prog 65 #[.slice A n c] w (ToldF (firstP xs) (firstN xs) (firstE xs) w) := by
  subst hn
  by_cases h8 : xs.length < 8
  · have HF := Lib.hid (first_none (xs := xs) (by rw [firstOf, if_pos h8]))
    rw [HF.out.1, HF.out.2.1, HF.out.2.2]
    go_enter Tryd.func65, Tryd.ntmps65
    go_wp2
    go_ret3
    exact toldf_none (Moved.refl _ _)
  have hbd := numB_bound hb
  obtain ⟨k, hk⟩ : ∃ k : Nat, numB xs = k := ⟨(numB xs).toNat, by omega⟩
  have hkt : (numB xs).toNat = k := by omega
  have hk32 : k ≤ 4294967295 := by omega
  obtain ⟨x0, hx0⟩ : ∃ x0, xs[0]? = some x0 := ⟨xs[0], List.getElem?_eq_getElem (by omega)⟩
  obtain ⟨b, off, rfl, -⟩ := hA 0 x0 hx0
  have HA := Lib.hid hA
  have HB := Lib.hid hb
  have HLD := Lib.hid hld
  have HK := Lib.hid hk
  have HKT := Lib.hid hkt
  have HN4 := Lib.hid (show numB (xs.take 4) = k by rw [numB_take _ (by omega)]; exact hk)
  have HL4 := Lib.hid (show (xs.take 4).length = 4 by simp; omega)
  have HB4 := Lib.hid (hb.take 4)
  clear hA hb hnil hld hk hbd hkt hx0
  by_cases hc8 : c = 8
  · obtain rfl := hc8
    have hx8 : xs.length = 8 := by omega
    go_enter Tryd.func65, Tryd.ntmps65
    go_wp2
    go_quiet (fail)
    go_wp2_with fail
    refine (number_any (some ⟨b, off, none⟩) 4 _ (xs.take 4) _ (by exact (HA.out.take 4).drewN _) HL4.out HB4.out (by omega) (by omega)).mono ?_
    rw [HN4.out]
    rintro e w1 ⟨rfl, m1, hw1⟩
    have HM1 := Lib.hid (show Moved w w1 [] by rw [hw1]; exact ((Moved.refl _ _).drewN _).drewN _)
    clear hw1
    by_cases hbig : 131072 < k ∨ xs.length - 8 < k
    · have HF := Lib.hid (first_none (xs := xs) (by rw [firstOf, if_neg h8, HKT.out, if_pos hbig]))
      rcases hbig with h | h
      · go_wp2
        go_ret3
        rw [HF.out.1, HF.out.2.1, HF.out.2.2]
        exact toldf_none HM1.out
      · by_cases h' : 131072 < k
        · go_wp2
          go_ret3
          rw [HF.out.1, HF.out.2.1, HF.out.2.2]
          exact toldf_none HM1.out
        · go_wp2
          go_ret3
          rw [HF.out.1, HF.out.2.1, HF.out.2.2]
          exact toldf_none HM1.out
    have hk1 : k ≤ 131072 := by omega
    have hk2 : k ≤ xs.length - 8 := by omega
    have hk0 : k = 0 := by omega
    have HBIG := Lib.hid hbig
    clear hbig
    obtain ⟨ps, hps⟩ : ∃ ps, ps = (xs.drop 8).take k := ⟨_, rfl⟩
    have HPS := Lib.hid hps
    have HPL := Lib.hid (show ps.length = k by rw [hps]; simp; omega)
    have HBP := Lib.hid (show ByteList ps by rw [hps]; exact (HB.out.drop 8).take k)
    have HA1 := Lib.hid (nrowx_moved HA.out HM1.out (fun _ _ h => by cases h))
    have HB41 := Lib.hid (show Bites w1 (.slice (some ⟨b, off, none⟩) 4 8) (xs.take 4) from ⟨_, 8, by rw [HL4.out], HA1.out.take 4, (fun h => by cases h), by rw [HL4.out]; omega, hc2⟩)
    have HBP1 := Lib.hid (show Bites w1 (.slice (some ⟨b, off, none⟩) 0 0) ps from ⟨_, 0, by rw [HPL.out, hk0], by rw [List.eq_nil_of_length_eq_zero (HPL.out.trans hk0)]; exact NRow.none_ _ _ _, (fun h => by cases h), by rw [HPL.out]; omega, by omega⟩)
    have HBR := Lib.hid (brows_two 27 HB41.out HBP1.out)
    have HL1 := Lib.hid ((HLD.out.moved HM1.out).alloc (.cells #[.slice (some ⟨b, off, none⟩) 4 8, .slice (some ⟨b, off, none⟩) 0 0] 27))
    have HM2 := Lib.hid (HM1.out.alloc (.cells #[.slice (some ⟨b, off, none⟩) 4 8, .slice (some ⟨b, off, none⟩) 0 0] 27))
    clear hps
    go_wp2_with fail
    refine (sum_any _ 2 2 _ [xs.take 4, ps] _ (by exact HBR.out) rfl (fun p hp => by
      rcases List.mem_cons.1 hp with rfl | hp
      · exact HB4.out
      · simp at hp; subst hp; exact HBP.out) (by omega) (by exact HL1.out)).mono ?_
    rintro e w2 ⟨rfl, hw2⟩
    rw [hw2] at HM2
    clear hw2
    rw [show ([xs.take 4, ps] : List (List Int)).flatten = xs.take 4 ++ ps by simp]
    obtain ⟨sm, hsm⟩ : ∃ sm, sm = sumOf (nats (xs.take 4 ++ ps)) := ⟨_, rfl⟩
    have HIF := Lib.hid (first_iff HB.out (by omega) HK.out HPS.out HPL.out hsm)
    rw [← hsm]
    clear hsm
    have HA2 := Lib.hid (nrowx_moved HA.out HM2.out (fun _ _ h => by cases h))
    have HD4 := Lib.hid (show NRow .u8 w2 (some ⟨b, off + 4, none⟩) ((xs.drop 4).take 4) from (HA2.out.drop 4).take 4)
    have HD4L := Lib.hid (show ((xs.drop 4).take 4).length = 4 by simp; omega)
    go_wp2_with fail
    refine (number_any (some ⟨b, off + 4, none⟩) 4 _ ((xs.drop 4).take 4) _ (by exact HD4.out) HD4L.out ((HB.out.drop 4).take 4) (by omega) (by omega)).mono ?_
    obtain ⟨nn, hnn⟩ : ∃ nn, nn = numB ((xs.drop 4).take 4) := ⟨_, rfl⟩
    rw [← hnn]
    rw [← hnn] at HIF
    clear hnn
    rintro e w3 ⟨rfl, m3, hw3⟩
    have HM3 := Lib.hid (show Moved w w3 [] by rw [hw3]; exact HM2.out.drewN _)
    clear hw3
    by_cases heq : (sm : Int) = nn
    · have HF := Lib.hid (first_some (xs := xs) (p := ps) (by rw [firstOf, if_neg h8, HKT.out, if_neg HBIG.out, ← HPS.out, if_pos (HIF.out.2 heq)]))
      have hbe : ((sm : Int) == nn) = true := by rw [beq_iff_eq]; exact heq
      clear heq
      have HP3 := Lib.hid (show NRow .u8 w3 (some ⟨b, off, none⟩) ps by rw [List.eq_nil_of_length_eq_zero (HPL.out.trans hk0)]; exact NRow.none_ _ _ _)
      go_wp2_with fail
      refine (clone_any ⟨b, off, none⟩ 0 _ ps _ (by exact HP3.out) (HPL.out.trans hk0) (by omega)).mono ?_
      rintro e w4 ⟨v4, rfl, hO4, hS4⟩
      have HO4 := Lib.hid hO4
      have HS4 := Lib.hid (show Step w w4 [] (rowOf v4) from ⟨HM3.out.trans hS4.1 (fun _ h => by cases h), fun j hj => .inr (Nat.le_trans HM3.out.size (Step.new hS4 j hj))⟩)
      clear hO4 hS4
      go_wp2
      go_ret3
      rw [HF.out.1, HF.out.2.1, HF.out.2.2, HPL.out, hk0]
      exact ⟨_, rfl, HO4.out, HS4.out⟩
    · have HF := Lib.hid (first_none (xs := xs) (by rw [firstOf, if_neg h8, HKT.out, if_neg HBIG.out, ← HPS.out, if_neg (fun h => heq (HIF.out.1 h))]))
      have hbe : ((sm : Int) == nn) = false := by rw [beq_eq_false_iff_ne]; exact heq
      clear heq
      go_wp2
      go_ret3
      rw [HF.out.1, HF.out.2.1, HF.out.2.2]
      exact toldf_none HM3.out
  · have hc9 : 8 < c := by omega
    go_enter Tryd.func65, Tryd.ntmps65
    go_wp2
    go_quiet (fail)
    go_wp2_with fail
    refine (number_any (some ⟨b, off, none⟩) 4 _ (xs.take 4) _ (by exact (HA.out.take 4).drewN _) HL4.out HB4.out (by omega) (by omega)).mono ?_
    rw [HN4.out]
    rintro e w1 ⟨rfl, m1, hw1⟩
    have HM1 := Lib.hid (show Moved w w1 [] by rw [hw1]; exact ((Moved.refl _ _).drewN _).drewN _)
    clear hw1
    by_cases hbig : 131072 < k ∨ xs.length - 8 < k
    · have HF := Lib.hid (first_none (xs := xs) (by rw [firstOf, if_neg h8, HKT.out, if_pos hbig]))
      rcases hbig with h | h
      · go_wp2
        go_ret3
        rw [HF.out.1, HF.out.2.1, HF.out.2.2]
        exact toldf_none HM1.out
      · by_cases h' : 131072 < k
        · go_wp2
          go_ret3
          rw [HF.out.1, HF.out.2.1, HF.out.2.2]
          exact toldf_none HM1.out
        · go_wp2
          go_ret3
          rw [HF.out.1, HF.out.2.1, HF.out.2.2]
          exact toldf_none HM1.out
    have hk1 : k ≤ 131072 := by omega
    have hk2 : k ≤ xs.length - 8 := by omega
    have hk3 : k ≤ c - 8 := by omega
    have HBIG := Lib.hid hbig
    clear hbig
    obtain ⟨ps, hps⟩ : ∃ ps, ps = (xs.drop 8).take k := ⟨_, rfl⟩
    have HPS := Lib.hid hps
    have HPL := Lib.hid (show ps.length = k by rw [hps]; simp; omega)
    have HBP := Lib.hid (show ByteList ps by rw [hps]; exact (HB.out.drop 8).take k)
    have HA1 := Lib.hid (nrowx_moved HA.out HM1.out (fun _ _ h => by cases h))
    have HB41 := Lib.hid (show Bites w1 (.slice (some ⟨b, off, none⟩) 4 c) (xs.take 4) from ⟨_, c, by rw [HL4.out], HA1.out.take 4, (fun h => by cases h), by rw [HL4.out]; omega, hc2⟩)
    have HBP1 := Lib.hid (show Bites w1 (.slice (some ⟨b, off + 8, none⟩) k (c - 8)) ps from ⟨_, c - 8, by rw [HPL.out], by rw [hps]; exact (HA1.out.drop 8).take k, (fun h => by cases h), by rw [HPL.out]; exact hk3, by omega⟩)
    have HBR := Lib.hid (brows_two 27 HB41.out HBP1.out)
    have HL1 := Lib.hid ((HLD.out.moved HM1.out).alloc (.cells #[.slice (some ⟨b, off, none⟩) 4 c, .slice (some ⟨b, off + 8, none⟩) k (c - 8)] 27))
    have HM2 := Lib.hid (HM1.out.alloc (.cells #[.slice (some ⟨b, off, none⟩) 4 c, .slice (some ⟨b, off + 8, none⟩) k (c - 8)] 27))
    clear hps
    go_wp2_with fail
    refine (sum_any _ 2 2 _ [xs.take 4, ps] _ (by exact HBR.out) rfl (fun p hp => by
      rcases List.mem_cons.1 hp with rfl | hp
      · exact HB4.out
      · simp at hp; subst hp; exact HBP.out) (by omega) (by exact HL1.out)).mono ?_
    rintro e w2 ⟨rfl, hw2⟩
    rw [hw2] at HM2
    clear hw2
    rw [show ([xs.take 4, ps] : List (List Int)).flatten = xs.take 4 ++ ps by simp]
    obtain ⟨sm, hsm⟩ : ∃ sm, sm = sumOf (nats (xs.take 4 ++ ps)) := ⟨_, rfl⟩
    have HIF := Lib.hid (first_iff HB.out (by omega) HK.out HPS.out HPL.out hsm)
    rw [← hsm]
    clear hsm
    have HA2 := Lib.hid (nrowx_moved HA.out HM2.out (fun _ _ h => by cases h))
    have HD4 := Lib.hid (show NRow .u8 w2 (some ⟨b, off + 4, none⟩) ((xs.drop 4).take 4) from (HA2.out.drop 4).take 4)
    have HD4L := Lib.hid (show ((xs.drop 4).take 4).length = 4 by simp; omega)
    go_wp2_with fail
    refine (number_any (some ⟨b, off + 4, none⟩) 4 _ ((xs.drop 4).take 4) _ (by exact HD4.out) HD4L.out ((HB.out.drop 4).take 4) (by omega) (by omega)).mono ?_
    obtain ⟨nn, hnn⟩ : ∃ nn, nn = numB ((xs.drop 4).take 4) := ⟨_, rfl⟩
    rw [← hnn]
    rw [← hnn] at HIF
    clear hnn
    rintro e w3 ⟨rfl, m3, hw3⟩
    have HM3 := Lib.hid (show Moved w w3 [] by rw [hw3]; exact HM2.out.drewN _)
    clear hw3
    by_cases heq : (sm : Int) = nn
    · have HF := Lib.hid (first_some (xs := xs) (p := ps) (by rw [firstOf, if_neg h8, HKT.out, if_neg HBIG.out, ← HPS.out, if_pos (HIF.out.2 heq)]))
      have hbe : ((sm : Int) == nn) = true := by rw [beq_iff_eq]; exact heq
      clear heq
      have HP3 := Lib.hid (show NRow .u8 w3 (some ⟨b, off + 8, none⟩) ps by rw [HPS.out]; exact ((nrowx_moved HA.out HM3.out (fun _ _ h => by cases h)).drop 8).take k)
      go_wp2_with fail
      refine (clone_any ⟨b, off + 8, none⟩ k _ ps _ (by exact HP3.out) HPL.out (by omega)).mono ?_
      rintro e w4 ⟨v4, rfl, hO4, hS4⟩
      have HO4 := Lib.hid hO4
      have HS4 := Lib.hid (show Step w w4 [] (rowOf v4) from ⟨HM3.out.trans hS4.1 (fun _ h => by cases h), fun j hj => .inr (Nat.le_trans HM3.out.size (Step.new hS4 j hj))⟩)
      clear hO4 hS4
      go_wp2
      go_ret3
      rw [HF.out.1, HF.out.2.1, HF.out.2.2, HPL.out]
      exact ⟨_, rfl, HO4.out, HS4.out⟩
    · have HF := Lib.hid (first_none (xs := xs) (by rw [firstOf, if_neg h8, HKT.out, if_neg HBIG.out, ← HPS.out, if_neg (fun h => heq (HIF.out.1 h))]))
      have hbe : ((sm : Int) == nn) = false := by rw [beq_eq_false_iff_ne]; exact heq
      clear heq
      go_wp2
      go_ret3
      rw [HF.out.1, HF.out.2.1, HF.out.2.2]
      exact toldf_none HM3.out
end Fr
end Go.Proofs.YtekleamkpfeifaaDoor

/-
  The pieces that the program's Disk keeps: each stands behind the ones ahead of it, none is ever changed; CONTRACT of (*disk.piece).end.
-/
namespace Go.Proofs.YtekleamkpfeifaaDoor
namespace Dk
open Go.RowKit
/-- A piece: its block, the block of its bytes, its bytes. -/
structure Pc where
  p : Nat
  g : Nat
  ys : List Int
def ptr : List Pc → Value
  | [] => .pointer none
  | c :: _ => .pointer (some ⟨c.p, 0, none⟩)
/-- The bytes up to the end of the first piece of the list (the others stand ahead of it). -/
def pcBytes : List Pc → List Int
  | [] => []
  | c :: r => pcBytes r ++ c.ys
def pcBlks : List Pc → List Nat
  | [] => []
  | c :: r => c.p :: c.g :: pcBlks r
def PcAt (w : World) : List Pc → Prop
  | [] => True
  | c :: r => w.heap[c.p]? = some (.cells #[ptr r, .int .i64 (pcBytes r).length, .slice (some ⟨c.g, 0, none⟩) c.ys.length c.ys.length] 85 (0, 0)) ∧
    NRow .u8 w (some ⟨c.g, 0, none⟩) c.ys ∧ c.g < w.heap.size ∧ 0 < c.ys.length ∧ (∀ k ∈ pcBlks r, k < c.p) ∧ PcAt w r
def ptrRank : Value → Nat
  | .pointer (some a) => a.block + 1
  | _ => 0
theorem pcBytes_append : ∀ (a b : List Pc), pcBytes (a ++ b) = pcBytes b ++ pcBytes a
  | [], b => by simp [pcBytes]
  | c :: r, b => by rw [List.cons_append, pcBytes, pcBytes, pcBytes_append r b, List.append_assoc]
theorem pcBlks_append : ∀ (a b : List Pc), pcBlks (a ++ b) = pcBlks a ++ pcBlks b
  | [], b => rfl
  | c :: r, b => by rw [List.cons_append, pcBlks, pcBlks, pcBlks_append r b]; rfl
theorem PcAt.tail {w : World} : ∀ {a b : List Pc}, PcAt w (a ++ b) → PcAt w b
  | [], _, h => h
  | _ :: _, _, h => PcAt.tail h.2.2.2.2.2
theorem PcAt.lt {w : World} : ∀ {L : List Pc}, PcAt w L → ∀ k ∈ pcBlks L, k < w.heap.size
  | [], _, k, hk => by cases hk
  | c :: r, h, k, hk => by
    rcases List.mem_cons.1 hk with rfl | hk
    · exact lt_of_block h.1
    · rcases List.mem_cons.1 hk with rfl | hk
      · exact h.2.2.1
      · exact PcAt.lt h.2.2.2.2.2 k hk
theorem PcAt.stays {w w' : World} : ∀ {L : List Pc}, PcAt w L → (∀ k ∈ pcBlks L, w'.heap[k]? = w.heap[k]?) → PcAt w' L
  | [], _, _ => trivial
  | c :: r, h, hk => by
    have hg : w'.heap[c.g]? = w.heap[c.g]? := hk c.g (by simp [pcBlks])
    refine ⟨by rw [hk c.p (by simp [pcBlks])]; exact h.1, ?_, ?_, h.2.2.2.1, h.2.2.2.2.1, PcAt.stays h.2.2.2.2.2 (fun k hm => hk k (by simp [pcBlks, hm]))⟩
    · exact nrow_stays (n := c.ys.length) (c := c.ys.length) h.2.1 (fun b hb => by
        obtain rfl : c.g = b := by simpa [mem_rowOf, Value.ownBlock] using hb
        exact hg)
    · have h1 : w.heap[c.g]? = some (w.heap[c.g]'h.2.2.1) := Array.getElem?_eq_getElem h.2.2.1
      rw [← hg] at h1
      exact (Array.getElem?_eq_some_iff.1 h1).1
theorem PcAt.moved {w w' : World} {L : List Pc} {S : List Nat} (h : PcAt w L) (hM : Moved w w' S) (hS : ∀ k ∈ pcBlks L, k ∉ S) : PcAt w' L := h.stays fun k hk => hM.block k (h.lt k hk) (hS k hk)
theorem PcAt.still {w w' : World} {L : List Pc} (h : PcAt w L) (hM : Moved w w' []) : PcAt w' L := h.moved hM fun _ _ h => by cases h
theorem PcAt.drewN {w : World} {L : List Pc} (h : PcAt w L) (n : Nat) : PcAt (w.drewN n) L := h.stays fun _ _ => rfl
set_option maxRecDepth 100000 in
theorem pend_nil (w : World) : Calls Tryd.prog 50 #[.pointer none] w fun r w' => r = .returned (.int .i64 ((0 : Nat) : Int)) ∧ ∃ k, w' = w.drewN k := by
  go_enter Tryd.func50, Tryd.ntmps50
  go_wp2
  go_ret
  exact ⟨rfl, 0, rfl⟩
set_option maxRecDepth 100000 in
theorem pend_raw (p a n c : Nat) (A : Option Addr) (w : World) (c1 : w.cell? ⟨p, 1, none⟩ = some (.int .i64 a)) (c2 : w.cell? ⟨p, 2, none⟩ = some (.slice A n c)) (h : a + n ≤ 35184372088832) :
    Calls Tryd.prog 50 #[.pointer (some ⟨p, 0, none⟩)] w fun r w' => r = .returned (.int .i64 ((a + n : Nat) : Int)) ∧ ∃ k, w' = w.drewN k := by
  have e1 : IntKind.i64.wrap ((a : Int) + (n : Int)) = ((a + n : Nat) : Int) := by rw [IntWalk.i64_in _ (by omega)]; omega
  go_enter Tryd.func50, Tryd.ntmps50
  go_wp2
  go_quiet (fail)
  go_wp2
  go_ret
  exact ⟨rfl, _, rfl⟩
theorem pend_any (L : List Pc) (w : World) (h : PcAt w L) (hm : (pcBytes L).length ≤ 35184372088832) :
    Calls Tryd.prog 50 #[ptr L] w fun r w' => r = .returned (.int .i64 (pcBytes L).length) ∧ ∃ k, w' = w.drewN k := by
  rcases L with _ | ⟨c, r⟩
  · exact pend_nil w
  · have e : (pcBytes (c :: r)).length = (pcBytes r).length + c.ys.length := by rw [pcBytes, List.length_append]
    rw [e]
    exact pend_raw c.p _ _ _ _ w (cell_at h.1 1 rfl) (cell_at h.1 2 rfl) (by omega)
end Dk
end Go.Proofs.YtekleamkpfeifaaDoor
