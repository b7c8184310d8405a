/-
  THE WALK of the statement FrameCuts, from what it asks of package frame.
-/
import Derived.Test.YtpcmkjmkaggfbaaDoorFrameBack
import Derived.Test.YtpcmkjmkaggfbaaDoorFrameSpoilt
namespace Go.Proofs.YtpcmkjmkaggfbaaDoor
namespace Fr
open Go.RowKit
/-- A frame that is cut off is none. -/
theorem first_cut {p : List Int} {j : Nat} (hj : j < 8 + p.length) : firstOf ((frameOf p).take j) = none := by
  have hlen : ((frameOf p).take j).length = j := by rw [List.length_take, frameOf_len]; omega
  unfold firstOf
  by_cases h8 : j < 8
  · rw [if_pos (by omega)]
  · obtain ⟨i, rfl⟩ : ∃ i, j = 8 + i := ⟨j - 8, by omega⟩
    have hn : numB ((frameOf p).take (8 + i)) = p.length := by
      obtain ⟨s, hs⟩ : ∃ s, s = sumOf (nats (be4 p.length ++ p)) := ⟨_, rfl⟩
      rw [frameOf, ← hs, show 8 + i = (be4 p.length ++ be4 s).length + i by rw [List.length_append, be4_len, be4_len], List.take_length_add_append]
      unfold numB be4
      simp only [List.cons_append, List.nil_append, List.getD_cons_zero, List.getD_cons_succ]
      omega
    rw [if_neg (by omega), hn, Int.toNat_natCast, if_pos (.inr (by omega))]
/-- Frames that are cut off somewhere: those are found that are whole. -/
theorem scan_cut {ps : List (List Int)} (hp : ∀ p ∈ ps, p.length ≤ 131072) {k n : Nat} (h1 : (framesOf (ps.take k)).length ≤ n) (h2 : ∀ p, ps[k]? = some p → n < (framesOf (ps.take (k + 1))).length) :
    scanOf ((framesOf ps).take n) = (ps.take k, (framesOf (ps.take k)).length) := by
  have h3 : (framesOf ps).take n = framesOf (ps.take k) ++ (framesOf (ps.drop k)).take (n - (framesOf (ps.take k)).length) := by
    conv => lhs; rw [frames_split ps k, show n = (framesOf (ps.take k)).length + (n - (framesOf (ps.take k)).length) by omega, List.take_length_add_append]
  have h4 : scanOf ((framesOf (ps.drop k)).take (n - (framesOf (ps.take k)).length)) = ([], 0) := by
    cases hq : ps[k]? with
    | none =>
      rw [List.drop_of_length_le (List.getElem?_eq_none_iff.1 hq), show framesOf [] = [] from rfl, List.take_nil]
      exact scan_nil
    | some p =>
      have h5 := h2 p hq
      rw [take_snoc hq, frames_snoc, List.length_append, frameOf_len] at h5
      rw [frames_at hq, List.take_append_of_le_length (by rw [frameOf_len]; omega)]
      exact scan_none (first_cut (by omega))
  rw [h3, scan_more (fun p h => hp p (List.mem_of_mem_take h)), h4, List.append_nil, Nat.add_zero]
theorem ends_at {ps : List (List Int)} {k : Nat} (hk : k < ps.length) : (endsOf ps)[k]? = some ((framesOf (ps.take (k + 1))).length : Int) := by
  unfold endsOf
  rw [List.getElem?_map, List.getElem?_range hk]
  rfl
theorem frames_take_le (ps : List (List Int)) (k : Nat) : (framesOf (ps.take k)).length ≤ (framesOf ps).length := by
  rw [frames_split ps k, List.length_append]; omega
set_option maxRecDepth 100000 in
set_option maxHeartbeats 3000000 in
theorem cuts_any (F : FLaws) (A : Option Addr) (c : Nat) (vs : List Value) (ps : List (List Int)) (at_ : Int) (w : World) (hA : BRows w A vs ps) (hb : ∀ p ∈ ps, ByteList p) (hl : ps.length ≤ 9223372036854775807) (hc : ps.length ≤ c) (hld : Ld w) :
    Calls Tryd.prog 7 #[.slice A ps.length c, .int .i64 at_] w fun e w' => e = .returned (.bool true) ∧ Below w.heap.size w w' := by
  have HLD := Lib.hid hld
  have HA := Lib.hid hA
  have HPB := Lib.hid hb
  clear hld hA hb
  go_enter Tryd.func7, Tryd.ntmps7
  go_wp2_with fail
  refine (heavy_any A _ c vs ps w HA.out rfl hl).mono ?_
  rintro e w1 ⟨b, rfl, hheavy, kd, rfl⟩
  cases b
  case true =>
    go_wp2
    all_goals
      go_ret
      exact ⟨rfl, ((Moved.refl w []).drewN _).below (Nat.le_refl _) (fun _ h => by cases h)⟩
  obtain ⟨hl64, hfl⟩ := hheavy rfl
  clear hheavy
  go_wp2_with fail
  refine (sealed_any F A _ c vs ps (w.drewN kd) (HA.out.drewN kd) rfl HPB.out hl64 hfl (HLD.out.drewN kd)).mono ?_
  rintro e w2 (⟨v2, ve, rfl, hp, hO2, hE2, hS2, hdj⟩ | ⟨rfl, hM2⟩)
  case inr =>
    have HM2 := Lib.hid (((Moved.refl w []).drewN kd).trans hM2 (fun _ h => by cases h))
    clear hM2
    go_wp2_with fail
    refine (frame_wakes F _ (by exact HLD.out.moved HM2.out)).mono ?_
    rintro e w9 ⟨rfl, hM9⟩
    have HM9 := Lib.hid hM9
    clear hM9
    go_wp2
    go_ret
    exact ⟨rfl, (HM2.out.trans HM9.out (fun _ h => by cases h)).below (Nat.le_refl _) (fun _ h => by cases h)⟩
  obtain ⟨A2, c2, rfl, hn2, hc2a, hc2b⟩ := own_shape hO2
  obtain ⟨Ae, ce, rfl, -⟩ := own_shape hE2
  have hfl2 : (framesOf ps).length ≤ 262656 := by rw [frames_len]; omega
  have HFB := Lib.hid (frames_bytes HPB.out hp)
  have HP := Lib.hid hp
  have HO2 := Lib.hid hO2
  have HM2 := Lib.hid (((Moved.refl w []).drewN kd).trans hS2.1 (fun _ h => by cases h))
  have HA2 := Lib.hid (HA.out.moved HM2.out (fun _ _ h => by cases h))
  have HE2 := Lib.hid (NRow.of_own hE2)
  have HN2 := Lib.hid hn2
  clear hO2 hE2 hS2 hdj hp hn2
  obtain ⟨n, hn, hnn⟩ := place_eq (at_ := at_) (n := (framesOf ps).length + 1) (by omega) (by omega)
  have hnn2 : wrap64 ((IntKind.u64.wrap at_).tmod (((framesOf ps).length : Int) + 1)) = n := by rw [← hnn]; push_cast; rfl
  obtain ⟨fs, hfs⟩ : ∃ fs, fs = framesOf ps := ⟨_, rfl⟩
  have HFS := Lib.hid hfs
  rw [← hfs] at HFB HO2 hfl2 hnn2 hn hc2a ⊢
  clear hfs hnn
  go_wp2
  rw [hnn2]
  go_loopw [9, 10] (fun kk ee wr => ∃ k m : Nat, kk = .int .i64 k ∧ ee = .int .i64 m ∧ k ≤ ps.length ∧ m ≤ n ∧ Hid (m = (framesOf (ps.take k)).length) ∧ ∃ d, wr = w2.drewN d) (fun kk _ _ => ps.length - (intOf kk).toNat)
  case atStart => exact ⟨0, 0, rfl, rfl, by omega, by omega, rfl, 0, rfl⟩
  case round =>
    obtain ⟨k, m, rfl, rfl, hk, hmn, HMK, d, rfl⟩ := hrel
    clear hnn2
    by_cases hlt : k < ps.length
    · obtain ⟨b1, o1, rfl, hc1⟩ := HE2.out k _ (ends_at hlt)
      obtain ⟨m2, hm2⟩ : ∃ m2, m2 = (framesOf (ps.take (k + 1))).length := ⟨_, rfl⟩
      rw [← hm2] at hc1
      have HM2K := Lib.hid hm2
      have hm3 : m2 ≤ 262656 := by have h := frames_take_le ps (k + 1); rw [← HFS.out] at h; omega
      clear hm2
      by_cases hle : m2 ≤ n
      · go_wp2
        go_roundw
        case rel => exact ⟨k + 1, m2, by go_num, rfl, by omega, hle, HM2K.out, d, rfl⟩
        case measure => simp [intOf]; omega
      · have hle2 : n < m2 := by omega
        have HSC := Lib.hid (show scanOf (fs.take n) = (ps.take k, m) by rw [HFS.out, HMK.out]; exact scan_cut HP.out (by rw [← HMK.out]; exact hmn) (fun p _ => by rw [← HM2K.out]; exact hle2))
        obtain ⟨qs, hqs⟩ : ∃ qs, qs = ps.take k := ⟨_, rfl⟩
        have hql : qs.length = k := by rw [hqs, List.length_take]; omega
        have hq64 : qs.length ≤ 64 := by omega
        have HQL := Lib.hid hql
        have HQB := Lib.hid (show ∀ p ∈ qs, ByteList p by rw [hqs]; exact fun p h => HPB.out p (List.mem_of_mem_take h))
        have HAQ := Lib.hid (show BRows w2 A (vs.take k) qs by rw [hqs]; exact brows_take HA2.out k)
        rw [← hqs] at HSC
        clear hqs hql
        go_wp2_with fail
        refine (F.scan A2 n c2 (fs.take n) (w2.drewN d) (((NRow.of_own HO2.out).take n).drewN d) (by rw [List.length_take]; omega) (HFB.out.take n) HN2.out (by omega) hc2b (by omega) ((HLD.out.moved HM2.out).drewN d)).mono ?_
        rw [HSC.out]
        rintro e w5 ⟨vg, fg, rfl, hOg, hSg⟩
        obtain ⟨Ag, cg, ug, rfl, hBg, -⟩ := hOg.reads
        have HBG := Lib.hid hBg
        have HM5 := Lib.hid (((Moved.refl w2 []).drewN d).trans hSg.1 (fun _ h => by cases h))
        have HA5 := Lib.hid (HAQ.out.moved HM5.out (fun _ _ h => by cases h))
        clear hOg hSg hBg
        go_wp2_with fail
        refine (rows_any _ _ _ _ _ _ ug (vs.take k) qs qs w5 HBG.out HA5.out rfl HQL.out HQB.out HQB.out (by omega) (by omega)).mono ?_
        rintro e w6 ⟨rfl, k6, hw6⟩
        rw [show decide (qs = qs) = true by simp]
        have HM6 := Lib.hid (show Moved w2 w6 [] by rw [hw6]; exact HM5.out.drewN _)
        clear hw6
        go_wp2_with fail
        refine (frame_wakes F _ (by exact (HLD.out.moved HM2.out).moved HM6.out)).mono ?_
        rintro e w9 ⟨rfl, hM9⟩
        have HM9 := Lib.hid hM9
        clear hM9
        go_wp2
        go_ret
        exact ⟨rfl, ((HM2.out.trans HM6.out (fun _ h => by cases h)).trans HM9.out (fun _ h => by cases h)).below (Nat.le_refl _) (fun _ h => by cases h)⟩
    · have hkl : ps.length ≤ k := by omega
      have HSC := Lib.hid (show scanOf (fs.take n) = (ps.take k, m) by rw [HFS.out, HMK.out]; exact scan_cut HP.out (by rw [← HMK.out]; exact hmn) (fun p hq => by rw [List.getElem?_eq_none_iff.2 hkl] at hq; cases hq))
      obtain ⟨qs, hqs⟩ : ∃ qs, qs = ps.take k := ⟨_, rfl⟩
      have hql : qs.length = k := by rw [hqs, List.length_take]; omega
      have hq64 : qs.length ≤ 64 := by omega
      have HQL := Lib.hid hql
      have HQB := Lib.hid (show ∀ p ∈ qs, ByteList p by rw [hqs]; exact fun p h => HPB.out p (List.mem_of_mem_take h))
      have HAQ := Lib.hid (show BRows w2 A (vs.take k) qs by rw [hqs]; exact brows_take HA2.out k)
      rw [← hqs] at HSC
      clear hqs hql
      go_wp2_with fail
      refine (F.scan A2 n c2 (fs.take n) (w2.drewN d) (((NRow.of_own HO2.out).take n).drewN d) (by rw [List.length_take]; omega) (HFB.out.take n) HN2.out (by omega) hc2b (by omega) ((HLD.out.moved HM2.out).drewN d)).mono ?_
      rw [HSC.out]
      rintro e w5 ⟨vg, fg, rfl, hOg, hSg⟩
      obtain ⟨Ag, cg, ug, rfl, hBg, -⟩ := hOg.reads
      have HBG := Lib.hid hBg
      have HM5 := Lib.hid (((Moved.refl w2 []).drewN d).trans hSg.1 (fun _ h => by cases h))
      have HA5 := Lib.hid (HAQ.out.moved HM5.out (fun _ _ h => by cases h))
      clear hOg hSg hBg
      go_wp2_with fail
      refine (rows_any _ _ _ _ _ _ ug (vs.take k) qs qs w5 HBG.out HA5.out rfl HQL.out HQB.out HQB.out (by omega) (by omega)).mono ?_
      rintro e w6 ⟨rfl, k6, hw6⟩
      rw [show decide (qs = qs) = true by simp]
      have HM6 := Lib.hid (show Moved w2 w6 [] by rw [hw6]; exact HM5.out.drewN _)
      clear hw6
      go_wp2_with fail
      refine (frame_wakes F _ (by exact (HLD.out.moved HM2.out).moved HM6.out)).mono ?_
      rintro e w9 ⟨rfl, hM9⟩
      have HM9 := Lib.hid hM9
      clear hM9
      go_wp2
      go_ret
      exact ⟨rfl, ((HM2.out.trans HM6.out (fun _ h => by cases h)).trans HM9.out (fun _ h => by cases h)).below (Nat.le_refl _) (fun _ h => by cases h)⟩
end Fr
end Go.Proofs.YtpcmkjmkaggfbaaDoor
