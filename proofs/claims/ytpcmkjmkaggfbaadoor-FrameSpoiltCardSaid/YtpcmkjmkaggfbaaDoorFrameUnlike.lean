/-
  THE WALK of the statement FrameUnlike, from what it asks of package frame.
-/
import Derived.Test.YtpcmkjmkaggfbaaDoorFrameLaws
namespace Go.Proofs.YtpcmkjmkaggfbaaDoor
namespace Fr
open Go.RowKit
theorem frameOf_drop (p : List Int) : (frameOf p).drop 8 = p := by
  unfold frameOf
  rw [List.drop_append_of_le_length (by simp [be4_len])]
  simp [be4_len]
theorem frameOf_inj {a b : List Int} : frameOf a = frameOf b ↔ a = b :=
  ⟨fun h => by rw [← frameOf_drop a, ← frameOf_drop b, h], fun h => by rw [h]⟩
theorem frameOf_len (p : List Int) : (frameOf p).length = 8 + p.length := by unfold frameOf; simp [be4_len]; omega
theorem seal_big {p : List Int} (h : 131072 < p.length) : sealOut p = [] ∧ sealErr p = 5 := by simp [sealOut, sealErr, h]
theorem seal_fits {p : List Int} (h : ¬ 131072 < p.length) : sealOut p = frameOf p ∧ sealErr p = 0 := by simp [sealOut, sealErr, h]
set_option maxRecDepth 100000 in
set_option maxHeartbeats 2000000 in
theorem unlike_any (F : FLaws) (A : Option Addr) (c : Nat) (xs : List Int) (A1 : Option Addr) (c1 : Nat) (ys : List Int) (w : World) (hA : NRow .u8 w A xs) (hA1 : NRow .u8 w A1 ys) (hb : ByteList xs) (hb1 : ByteList ys) (hnil : A = none → c = 0) (hnil1 : A1 = none → c1 = 0)
    (hl0 : xs.length ≤ 9223372036854775807) (hl1 : ys.length ≤ 9223372036854775807) (hc : xs.length ≤ c) (hc2 : c ≤ 9223372036854775807) (hc1 : ys.length ≤ c1) (hc12 : c1 ≤ 9223372036854775807) (hld : Ld w) :
    Calls Tryd.prog 9 #[.slice A xs.length c, .slice A1 ys.length c1] w fun e w' => e = .returned (.bool true) ∧ Below w.heap.size w w' := by
  by_cases hbig : 262144 < xs.length
  · go_enter Tryd.func9, Tryd.ntmps9
    go_wp2
    go_ret
    exact ⟨rfl, Below.refl _ _⟩
  by_cases hbig1 : 262144 < ys.length
  · go_enter Tryd.func9, Tryd.ntmps9
    go_wp2
    go_ret
    exact ⟨rfl, Below.refl _ _⟩
  have HLD := Lib.hid hld
  have HA := Lib.hid hA
  have HA1 := Lib.hid hA1
  have HB := Lib.hid hb
  have HB1 := Lib.hid hb1
  have HNIL := Lib.hid hnil
  have HNIL1 := Lib.hid hnil1
  clear hld hA hA1 hb hb1 hnil hnil1
  go_enter Tryd.func9, Tryd.ntmps9
  go_wp2_with fail
  refine (F.seal_ A _ c xs w HA.out rfl HB.out HNIL.out hc hc2 (by omega) HLD.out).mono ?_
  rintro e w1 ⟨v1, rfl, hO1, hS1⟩
  obtain ⟨B1, d1, rfl, -⟩ := own_shape hO1
  have HO1 := Lib.hid hO1
  have HS1 := Lib.hid hS1
  have HA2 := Lib.hid (nrowx_moved HA1.out hS1.1 (fun _ _ h => by cases h))
  clear hO1 hS1
  go_wp2_with fail
  refine (F.seal_ A1 _ c1 ys w1 HA2.out rfl HB1.out HNIL1.out hc1 hc12 (by omega) (HLD.out.moved HS1.out.1)).mono ?_
  rintro e w2 ⟨v2, rfl, hO2, hS2⟩
  obtain ⟨B2, d2, rfl, -⟩ := own_shape hO2
  have HM2 := Lib.hid (HS1.out.1.trans hS2.1 (fun _ h => by cases h))
  have HO1' := Lib.hid (own_moved HO1.out hS2.1 (fun _ _ h => by cases h))
  have HO2 := Lib.hid hO2
  have HAx := Lib.hid (nrowx_moved HA.out HM2.out (fun _ _ h => by cases h))
  have HAy := Lib.hid (nrowx_moved HA1.out HM2.out (fun _ _ h => by cases h))
  clear hO2 hS2
  by_cases hx : 131072 < xs.length
  · rw [(seal_big hx).1, (seal_big hx).2]
    by_cases hy : 131072 < ys.length
    · rw [(seal_big hy).1, (seal_big hy).2]
      go_wp2_with (go_at_call 16; refine (frame_wakes F _ (by exact HLD.out.moved HM2.out)).mono ?_; rintro e w8 ⟨rfl, hM8⟩; have HM8 := Lib.hid hM8; clear hM8)
      go_ret
      exact ⟨rfl, (HM2.out.trans HM8.out (fun _ h => by cases h)).below (Nat.le_refl _) (fun _ h => by cases h)⟩
    · rw [(seal_fits hy).1, (seal_fits hy).2]
      go_wp2_with (go_at_call 16; refine (frame_wakes F _ (by exact HLD.out.moved HM2.out)).mono ?_; rintro e w8 ⟨rfl, hM8⟩; have HM8 := Lib.hid hM8; clear hM8)
      go_ret
      exact ⟨rfl, (HM2.out.trans HM8.out (fun _ h => by cases h)).below (Nat.le_refl _) (fun _ h => by cases h)⟩
  · rw [(seal_fits hx).2]
    by_cases hy : 131072 < ys.length
    · rw [(seal_big hy).1, (seal_big hy).2]
      go_wp2_with (go_at_call 16; refine (frame_wakes F _ (by exact HLD.out.moved HM2.out)).mono ?_; rintro e w8 ⟨rfl, hM8⟩; have HM8 := Lib.hid hM8; clear hM8)
      go_ret
      exact ⟨rfl, (HM2.out.trans HM8.out (fun _ h => by cases h)).below (Nat.le_refl _) (fun _ h => by cases h)⟩
    · rw [(seal_fits hy).2]
      have e1 : sealOut xs = frameOf xs := (seal_fits hx).1
      have e2 : sealOut ys = frameOf ys := (seal_fits hy).1
      have HF1 := Lib.hid (show ByteList (sealOut xs) by rw [e1]; exact frameOf_bytes HB.out (by omega))
      have HF2 := Lib.hid (show ByteList (sealOut ys) by rw [e2]; exact frameOf_bytes HB1.out (by omega))
      have HI : Hid (decide (sealOut xs = sealOut ys) = decide (xs = ys)) := by
        show _ = _
        rw [e1, e2]; exact decide_eq_decide.2 frameOf_inj
      clear e1 e2
      obtain ⟨bb, hbb⟩ : ∃ bb, decide (xs = ys) = bb := ⟨_, rfl⟩
      have HBB := Lib.hid hbb
      clear hbb
      go_wp2_with fail
      refine (bytes_is _ _ _ _ _ _ _ _ _ (NRow.of_own HO1'.out) (NRow.of_own HO2.out) rfl rfl HF1.out HF2.out bb (HI.out.trans HBB.out)).mono ?_
      rintro e w3 ⟨rfl, rfl⟩
      go_wp2_with fail
      refine (bytes_is _ _ _ _ _ _ _ _ _ HAx.out HAy.out rfl rfl HB.out HB1.out bb HBB.out).mono ?_
      rintro e w3 ⟨rfl, rfl⟩
      go_wp2_with (go_at_call 16; refine (frame_wakes F _ (by exact HLD.out.moved HM2.out)).mono ?_; rintro e w8 ⟨rfl, hM8⟩; have HM8 := Lib.hid hM8; clear hM8)
      go_ret
      exact ⟨rfl, (HM2.out.trans HM8.out (fun _ h => by cases h)).below (Nat.le_refl _) (fun _ h => by cases h)⟩
end Fr
end Go.Proofs.YtpcmkjmkaggfbaaDoor
