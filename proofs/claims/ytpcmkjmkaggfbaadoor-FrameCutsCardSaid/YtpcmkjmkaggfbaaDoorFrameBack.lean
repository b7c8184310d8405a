/-
  THE WALK of the statement FrameBack, from what it asks of package frame.
-/
import Derived.Test.YtpcmkjmkaggfbaaDoorFrameSealed
namespace Go.Proofs.YtpcmkjmkaggfbaaDoor
namespace Fr
open Go.RowKit
/-- A frame is found again, whatever stands behind it. -/
theorem first_frame {p zs : List Int} (h1 : p.length ≤ 131072) : firstOf (frameOf p ++ zs) = some p := by
  obtain ⟨s, hs⟩ : ∃ s, s = sumOf (nats (be4 p.length ++ p)) := ⟨_, rfl⟩
  have hf : frameOf p = be4 p.length ++ be4 s ++ p := by rw [frameOf, hs]
  have hn : numB (frameOf p ++ zs) = p.length := by
    rw [hf]
    unfold numB be4
    simp only [List.cons_append, List.nil_append, List.getD_cons_zero, List.getD_cons_succ]
    omega
  have hlen : (frameOf p ++ zs).length = 8 + p.length + zs.length := by rw [List.length_append, frameOf_len]
  have hd : (frameOf p ++ zs).drop 8 = p ++ zs := by rw [List.drop_append_of_le_length (by rw [frameOf_len]; omega), frameOf_drop]
  unfold firstOf
  rw [if_neg (by omega), hn, hd, Int.toNat_natCast, if_neg (by omega), List.take_left' rfl, List.take_left' (frameOf_len p), if_pos rfl]
theorem frames_append (a b : List (List Int)) : framesOf (a ++ b) = framesOf a ++ framesOf b := by simp [framesOf]
theorem frames_split (ps : List (List Int)) (k : Nat) : framesOf ps = framesOf (ps.take k) ++ framesOf (ps.drop k) := by rw [← frames_append, List.take_append_drop]
theorem frames_at {ps : List (List Int)} {k : Nat} {p : List Int} (h : ps[k]? = some p) : framesOf (ps.drop k) = frameOf p ++ framesOf (ps.drop (k + 1)) := by
  obtain ⟨hk, rfl⟩ := List.getElem?_eq_some_iff.1 h
  rw [List.drop_eq_getElem_cons hk]
  rfl
theorem scan_frames {ps : List (List Int)} (hp : ∀ p ∈ ps, p.length ≤ 131072) (more : List Int) : ∀ k, k ≤ ps.length → ScanIs (framesOf ps ++ more) (ps.take k) (framesOf (ps.take k)).length := by
  intro k
  induction k with
  | zero => intro _; exact scan_start _
  | succ k ih =>
    intro hk
    obtain ⟨p, hq⟩ : ∃ p, ps[k]? = some p := ⟨_, List.getElem?_eq_getElem (by omega)⟩
    have h1 : (framesOf ps ++ more).drop (framesOf (ps.take k)).length = frameOf p ++ (framesOf (ps.drop (k + 1)) ++ more) := by
      rw [frames_split ps k, List.append_assoc, List.drop_left, frames_at hq, List.append_assoc]
    have h2 := scan_go (ih (by omega)) (h1 ▸ first_frame (hp p (List.mem_of_getElem? hq)))
    rw [take_snoc hq, frames_snoc, List.length_append, frameOf_len]
    exact h2
/-- Frames, and whatever stands behind them. -/
theorem scan_more {ps : List (List Int)} (hp : ∀ p ∈ ps, p.length ≤ 131072) (more : List Int) : scanOf (framesOf ps ++ more) = (ps ++ (scanOf more).1, (framesOf ps).length + (scanOf more).2) := by
  have h := scan_frames hp more ps.length (Nat.le_refl _)
  unfold ScanIs at h
  rw [List.take_length, List.drop_left] at h
  exact h
theorem scan_nil : scanOf [] = ([], 0) := scan_none (by rw [firstOf, if_pos (by simp)])
theorem scan_just {ps : List (List Int)} (hp : ∀ p ∈ ps, p.length ≤ 131072) : scanOf (framesOf ps) = (ps, (framesOf ps).length) := by
  have h := scan_more hp []
  rw [List.append_nil, scan_nil] at h
  simpa using h
theorem brows_take {w : World} {A : Option Addr} {vs : List Value} {ps : List (List Int)} (h : BRows w A vs ps) (n : Nat) : BRows w A (vs.take n) (ps.take n) :=
  ⟨h.1.take n, by rw [List.length_take, List.length_take, h.2.1], fun i v p hv hp => by
    rw [List.getElem?_take] at hv hp
    split at hv
    · rename_i hi
      rw [if_pos hi] at hp
      exact h.2.2 i v p hv hp
    · cases hv⟩
theorem frames_bytes {ps : List (List Int)} (hb : ∀ p ∈ ps, ByteList p) (hp : ∀ p ∈ ps, p.length ≤ 131072) : ByteList (framesOf ps) := by
  unfold framesOf
  refine flat_bytes fun q hq => ?_
  obtain ⟨p, hp2, rfl⟩ := List.mem_map.1 hq
  exact frameOf_bytes (hb p hp2) (by have := hp p hp2; omega)
set_option maxRecDepth 100000 in
set_option maxHeartbeats 3000000 in
theorem back_any (F : FLaws) (A : Option Addr) (c : Nat) (vs : List Value) (ps : List (List Int)) (B : Option Addr) (d : Nat) (xs : List Int) (w : World) (hA : BRows w A vs ps) (hb : ∀ p ∈ ps, ByteList p) (hl : ps.length ≤ 9223372036854775807)
    (hB : NRow .u8 w B xs) (hbx : ByteList xs) (hnil : B = none → d = 0) (hlx : xs.length ≤ 9223372036854775807) (hld : Ld w) :
    Calls Tryd.prog 6 #[.slice A ps.length c, .slice B xs.length d] w fun e w' => e = .returned (.bool true) ∧ Below w.heap.size w w' := by
  obtain ⟨i0, hi, hz0, hz1, hz2⟩ := info_parts info_u8
  have HLD := Lib.hid hld
  have HA := Lib.hid hA
  have HPB := Lib.hid hb
  have HX := Lib.hid hB
  have HXB := Lib.hid hbx
  have HXN := Lib.hid hnil
  clear hld hA hb hB hbx hnil
  go_enter Tryd.func6, Tryd.ntmps6
  go_wp2_with fail
  refine (heavy_any A _ c vs ps w HA.out rfl hl).mono ?_
  rintro e w1 ⟨b, rfl, hheavy, kd, rfl⟩
  cases b
  case true =>
    go_wp2
    all_goals
      go_ret
      exact ⟨rfl, ((Moved.refl w []).drewN _).below (Nat.le_refl _) (fun _ h => by cases h)⟩
  obtain ⟨hl64, hfl⟩ := hheavy rfl
  clear hheavy
  by_cases hbig : 262144 < xs.length
  · go_wp2
    all_goals
      go_ret
      exact ⟨rfl, ((Moved.refl w []).drewN _).below (Nat.le_refl _) (fun _ h => by cases h)⟩
  go_wp2_with fail
  refine (sealed_any F A _ c vs ps (w.drewN kd) (HA.out.drewN kd) rfl HPB.out hl64 hfl (HLD.out.drewN kd)).mono ?_
  rintro e w2 (⟨v2, ve, rfl, hp, hO2, hE2, hS2, hdj⟩ | ⟨rfl, hM2⟩)
  case inr =>
    have HM2 := Lib.hid (((Moved.refl w []).drewN kd).trans hM2 (fun _ h => by cases h))
    clear hM2
    go_wp2_with fail
    refine (frame_wakes F _ (by exact HLD.out.moved HM2.out)).mono ?_
    rintro e w9 ⟨rfl, hM9⟩
    have HM9 := Lib.hid hM9
    clear hM9
    go_wp2
    go_ret
    exact ⟨rfl, (HM2.out.trans HM9.out (fun _ h => by cases h)).below (Nat.le_refl _) (fun _ h => by cases h)⟩
  obtain ⟨A2, c2, rfl, hn2, hc2a, hc2b⟩ := own_shape hO2
  obtain ⟨Ae, ce, rfl, -⟩ := own_shape hE2
  have hfl2 : (framesOf ps).length ≤ 262656 := by rw [frames_len]; omega
  have HFB := Lib.hid (frames_bytes HPB.out hp)
  have hsm := scan_more hp xs
  have HSJ := Lib.hid (scan_just hp)
  have hsx := scan_small _ xs (Nat.le_refl _)
  obtain ⟨qs, hqs⟩ : ∃ qs, qs = ps ++ (scanOf xs).1 := ⟨_, rfl⟩
  obtain ⟨en, hen⟩ : ∃ en, en = (framesOf ps).length + (scanOf xs).2 := ⟨_, rfl⟩
  rw [← hqs, ← hen] at hsm
  have hq1 : ps.length ≤ qs.length := by rw [hqs, List.length_append]; omega
  have hq2 : qs.length ≤ 1048576 := by rw [hqs, List.length_append]; omega
  have HQT := Lib.hid (show qs.take ps.length = ps by rw [hqs]; exact List.take_left' rfl)
  have hen1 : (framesOf ps).length ≤ en := by omega
  have hen2 : en ≤ 1048576 := by omega
  have HSM := Lib.hid hsm
  have HO2 := Lib.hid hO2
  have HM2 := Lib.hid (((Moved.refl w []).drewN kd).trans hS2.1 (fun _ h => by cases h))
  have HX2 := Lib.hid (nrowx_moved HX.out HM2.out (fun _ _ h => by cases h))
  have HA2 := Lib.hid (HA.out.moved HM2.out (fun _ _ h => by cases h))
  have HN2 := Lib.hid hn2
  clear hO2 hE2 hS2 hdj hp hsm hsx hqs hen hn2
  obtain ⟨fs, hfs⟩ : ∃ fs, fs = framesOf ps := ⟨_, rfl⟩
  rw [← hfs] at HFB HSJ HSM HO2 hfl2 hen1 ⊢
  rw [← hfs] at hc2a
  clear hfs
  go_wp2_with fail
  refine (twin_any A2 _ c2 fs w2 (NRow.of_own HO2.out) rfl HN2.out (by omega)).mono ?_
  rintro e w3 ⟨v3, rfl, hO3, hS3⟩
  obtain ⟨A3, c3, rfl, -⟩ := own_shape hO3
  have HO3 := Lib.hid hO3
  have HS3 := Lib.hid hS3
  have HX3 := Lib.hid (nrowx_moved HX2.out hS3.1 (fun _ _ h => by cases h))
  clear hO3 hS3
  go_wp2_with (at_builtin; refine wpList_append_row rfl _ _ 25 rfl 5 i0 .u8 1 Tryd.underlying25 hi hz0 hz1 hz2 (.slice A3 fs.length c3) _ _ rfl HO3.out B xs.length d xs rfl rfl HX3.out HXN.out (by unfold maxLen; omega) (by omega) ?_)
  intro v4 w4 hown hst
  have HO4 := Lib.hid (show w4.ownsRow 0 5 1 v4 (fs.length + xs.length) ((fs ++ xs).map (Value.int .u8)) by rw [List.map_append]; exact hown)
  have HM4 := Lib.hid (HS3.out.1.trans hst.1 (fun b hb => .inr (Step.new HS3.out b hb)))
  clear hown hst
  obtain ⟨A4, c4, rfl, hn4, hc4, hc4b⟩ := own_shape HO4.out
  have HN4 := Lib.hid hn4
  clear hn4
  go_wp2_with fail
  refine (F.scan A4 _ c4 (fs ++ xs) w4 (NRow.of_own HO4.out) (by simp) (HFB.out.append HXB.out) HN4.out hc4 hc4b (by omega) ((HLD.out.moved HM2.out).moved HM4.out)).mono ?_
  rw [HSM.out]
  rintro e w5 ⟨vg, fg, rfl, hOg, hSg⟩
  obtain ⟨Ag, cg, ug, rfl, hBg, hng, hcg, hcg2, -⟩ := hOg.reads
  have HBG := Lib.hid (show BRows w5 Ag (ug.take ps.length) ps by have h := brows_take hBg ps.length; rw [HQT.out] at h; exact h)
  have HM5 := Lib.hid (HM4.out.trans hSg.1 (fun _ h => by cases h))
  have HA5 := Lib.hid (HA2.out.moved HM5.out (fun _ _ h => by cases h))
  have HNG := Lib.hid hng
  clear hOg hSg hBg hng
  go_wp2_with fail
  refine (rows_any _ _ _ _ _ _ (ug.take ps.length) vs ps ps w5 HBG.out HA5.out rfl rfl HPB.out HPB.out (by omega) (by omega)).mono ?_
  rintro e w6 ⟨rfl, k6, hw6⟩
  rw [show decide (ps = ps) = true by simp]
  have HM6 := Lib.hid (show Moved w2 w6 [] by rw [hw6]; exact HM5.out.drewN _)
  have HO6 := Lib.hid (own_moved HO2.out HM6.out (fun _ _ h => by cases h))
  clear hw6
  go_wp2_with fail
  refine (F.scan A2 _ c2 fs w6 (NRow.of_own HO6.out) rfl HFB.out HN2.out hc2a hc2b (by omega) ((HLD.out.moved HM2.out).moved HM6.out)).mono ?_
  rw [HSJ.out]
  rintro e w7 ⟨vh, fh, rfl, hOh, hSh⟩
  obtain ⟨Ah, ch, uh, rfl, -⟩ := hOh.reads
  have HM7 := Lib.hid ((HM2.out.trans HM6.out (fun _ h => by cases h)).trans hSh.1 (fun _ h => by cases h))
  clear hOh hSh
  go_wp2_with fail
  refine (frame_wakes F _ (by exact HLD.out.moved HM7.out)).mono ?_
  rintro e w9 ⟨rfl, hM9⟩
  have HM9 := Lib.hid hM9
  clear hM9
  go_wp2
  go_ret
  exact ⟨rfl, (HM7.out.trans HM9.out (fun _ h => by cases h)).below (Nat.le_refl _) (fun _ h => by cases h)⟩
end Fr
end Go.Proofs.YtpcmkjmkaggfbaaDoor
