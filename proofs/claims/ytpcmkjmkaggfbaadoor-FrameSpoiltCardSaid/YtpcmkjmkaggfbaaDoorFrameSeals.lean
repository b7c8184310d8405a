/-
  THE WALK of the statement FrameSeals, from what it asks of package frame.
-/
import Derived.Test.YtpcmkjmkaggfbaaDoorFrameUnlike
import Derived.Test.YtpcmkjmkaggfbaaDoorKeepSpoil
namespace Go.Proofs.YtpcmkjmkaggfbaaDoor
namespace Fr
open Go.RowKit
theorem sealOut_bytes {p : List Int} (h : ByteList p) (hl : p.length < 4294967296) : ByteList (sealOut p) := by
  unfold sealOut; split
  · exact ByteList.nil
  · exact frameOf_bytes h hl
theorem sealOut_len (p : List Int) : (sealOut p).length ≤ 131080 := by
  unfold sealOut; split
  · simp
  · rw [frameOf_len]; omega
theorem firstP_bytes {p : List Int} (h : ByteList p) : ByteList (firstP p) := by
  cases hf : firstOf p with
  | none => rw [(first_none hf).1]; exact ByteList.nil
  | some q =>
    rw [(first_some hf).1]
    unfold firstOf at hf
    split at hf
    · cases hf
    · split at hf
      · cases hf
      · split at hf
        · cases hf; exact (h.drop 8).take _
        · cases hf
theorem firstP_len (p : List Int) : (firstP p).length ≤ p.length := by
  cases hf : firstOf p with
  | none => rw [(first_none hf).1]; simp
  | some q => rw [(first_some hf).1]; have := first_len hf; omega
/-- New blocks are written over: what was there before stays. -/
theorem moved_spoil {w w1 w2 : World} {S : List Nat} (h : Moved w w1 []) (hM : Moved w1 w2 S) (hS : ∀ k ∈ S, w.heap.size ≤ k) : Moved w w2 [] := h.trans hM (fun k hk => .inr (hS k hk))
set_option maxRecDepth 100000 in
set_option maxHeartbeats 2000000 in
theorem seals_any (F : FLaws) (A : Option Addr) (c : Nat) (xs : List Int) (A1 : Option Addr) (c1 : Nat) (ys : List Int) (w : World) (hA : NRow .u8 w A xs) (hA1 : NRow .u8 w A1 ys) (hb : ByteList xs) (hb1 : ByteList ys) (hnil : A = none → c = 0) (hnil1 : A1 = none → c1 = 0)
    (hl0 : xs.length ≤ 9223372036854775807) (hl1 : ys.length ≤ 9223372036854775807) (hc1 : ys.length ≤ c1) (hc12 : c1 ≤ 9223372036854775807) (hld : Ld w) :
    Calls Tryd.prog 4 #[.slice A xs.length c, .slice A1 ys.length c1] w fun e w' => e = .returned (.bool true) ∧ Below w.heap.size w w' := by
  by_cases hbig : 262144 < xs.length
  · go_enter Tryd.func4, Tryd.ntmps4
    go_wp2
    go_ret
    exact ⟨rfl, Below.refl _ _⟩
  by_cases hbig1 : 262144 < ys.length
  · go_enter Tryd.func4, Tryd.ntmps4
    go_wp2
    go_ret
    exact ⟨rfl, Below.refl _ _⟩
  have HLD := Lib.hid hld
  have HA := Lib.hid hA
  have HA1 := Lib.hid hA1
  have HB := Lib.hid hb
  have HB1 := Lib.hid hb1
  have HNIL := Lib.hid hnil
  have HNIL1 := Lib.hid hnil1
  clear hld hA hA1 hb hb1 hnil hnil1
  go_enter Tryd.func4, Tryd.ntmps4
  go_wp2_with fail
  refine (twin_any A _ c xs w HA.out rfl HNIL.out (by omega)).mono ?_
  rintro e w1 ⟨vi, rfl, hO1, hS1⟩
  obtain ⟨Bi, di, rfl, hni, hdi, hdi2⟩ := own_shape hO1
  have HO1 := Lib.hid hO1
  have HS1 := Lib.hid hS1
  have HNI := Lib.hid hni
  clear hO1 hS1 hni
  go_wp2_with fail
  refine (F.seal_ Bi _ di xs w1 (NRow.of_own HO1.out) rfl HB.out HNI.out hdi hdi2 (by omega) (HLD.out.moved HS1.out.1)).mono ?_
  rintro e w2 ⟨vs, rfl, hO2, hS2⟩
  obtain ⟨Bs, ds, rfl, -⟩ := own_shape hO2
  have HO2 := Lib.hid hO2
  have HS2 := Lib.hid hS2
  have HM2 := Lib.hid (HS1.out.1.trans hS2.1 (fun _ h => by cases h))
  have HA2 := Lib.hid (nrowx_moved HA.out HM2.out (fun _ _ h => by cases h))
  clear hO2 hS2
  go_wp2_with fail
  refine (refseal_any A _ c xs w2 HA2.out rfl HB.out HNIL.out (by omega)).mono ?_
  rintro e w3 ⟨vt, rfl, hO3, hS3⟩
  obtain ⟨Bt, dt, rfl, -⟩ := own_shape hO3
  have HO3 := Lib.hid hO3
  have HM3 := Lib.hid (HM2.out.trans hS3.1 (fun _ h => by cases h))
  have HA3 := Lib.hid (nrowx_moved HA.out HM3.out (fun _ _ h => by cases h))
  have HO1b := Lib.hid (own_moved HO1.out (HS2.out.1.trans hS3.1 (fun _ h => by cases h)) (fun _ _ h => by cases h))
  have HO2b := Lib.hid (own_moved HO2.out hS3.1 (fun _ _ h => by cases h))
  have HSB := Lib.hid (sealOut_bytes HB.out (by omega))
  have HSL := sealOut_len xs
  clear hO3 hS3
  obtain ⟨so, hso⟩ : ∃ so, so = sealOut xs := ⟨_, rfl⟩
  obtain ⟨se, hse⟩ : ∃ se, se = sealErr xs := ⟨_, rfl⟩
  rw [← hso] at HO3 HO2b HSB HSL HO2 HS2 ⊢
  rw [← hse]
  clear hso hse
  go_wp2_with fail
  refine (bytes_is _ _ _ _ _ _ _ _ _ (NRow.of_own HO2b.out) (NRow.of_own HO3.out) rfl rfl HSB.out HSB.out true (by simp)).mono ?_
  rintro e w4 ⟨rfl, rfl⟩
  go_wp2_with fail
  refine (bytes_is _ _ _ _ _ _ _ _ _ (NRow.of_own HO1b.out) HA3.out rfl rfl HB.out HB.out true (by simp)).mono ?_
  rintro e w4 ⟨rfl, rfl⟩
  go_wp2_with fail
  refine (spoil_any _ _ _ HO2b.out (by omega)).mono ?_
  rintro e w4 ⟨rfl, hM4⟩
  have HR2 := Lib.hid (fun k hk => Step.new HS2.out k hk : ∀ k ∈ rowOf (.slice Bs so.length ds), w1.heap.size ≤ k)
  have HO1c := Lib.hid (own_moved HO1b.out hM4 (fun k hk h => by have h1 := HR2.out k h; have h2 := own_lt HO1.out k hk; omega))
  have HM4 := Lib.hid (moved_spoil HM3.out hM4 (fun k hk => Nat.le_trans HS1.out.1.size (HR2.out k hk)))
  have HA4 := Lib.hid (nrowx_moved HA.out HM4.out (fun _ _ h => by cases h))
  have HY4 := Lib.hid (nrowx_moved HA1.out HM4.out (fun _ _ h => by cases h))
  clear hM4
  go_wp2_with fail
  refine (bytes_is _ _ _ _ _ _ _ _ _ (NRow.of_own HO1c.out) HA4.out rfl rfl HB.out HB.out true (by simp)).mono ?_
  rintro e w5 ⟨rfl, rfl⟩
  go_wp2_with fail
  refine (twin_any A1 _ c1 ys w4 HY4.out rfl HNIL1.out (by omega)).mono ?_
  rintro e w5 ⟨vc, rfl, hO5, hS5⟩
  obtain ⟨Bc, dc, rfl, hnc, hdc, hdc2⟩ := own_shape hO5
  have HO5 := Lib.hid hO5
  have HNC := Lib.hid hnc
  have HM5 := Lib.hid (HM4.out.trans hS5.1 (fun _ h => by cases h))
  clear hO5 hS5 hnc
  go_wp2_with fail
  refine (F.first Bc _ dc ys w5 (NRow.of_own HO5.out) rfl HB1.out HNC.out hdc hdc2 (by omega) (HLD.out.moved HM5.out)).mono ?_
  rintro e w6 ⟨vp, rfl, hO6, hS6⟩
  obtain ⟨Bp, dp, rfl, -⟩ := own_shape hO6
  have HO6 := Lib.hid hO6
  have HS6 := Lib.hid hS6
  have HM6 := Lib.hid (HM5.out.trans hS6.1 (fun _ h => by cases h))
  have HY6 := Lib.hid (nrowx_moved HA1.out HM6.out (fun _ _ h => by cases h))
  clear hO6 hS6
  go_wp2_with fail
  refine (reffirst_any A1 _ c1 ys w6 HY6.out rfl HB1.out HNIL1.out hc1 hc12 (by omega)).mono ?_
  rintro e w7 ⟨vq, rfl, hO7, hS7⟩
  obtain ⟨Bq, dq, rfl, -⟩ := own_shape hO7
  have HO7 := Lib.hid hO7
  have HO6b := Lib.hid (own_moved HO6.out hS7.1 (fun _ _ h => by cases h))
  have HO5b := Lib.hid (own_moved HO5.out (HS6.out.1.trans hS7.1 (fun _ h => by cases h)) (fun _ _ h => by cases h))
  have HM7 := Lib.hid (HM6.out.trans hS7.1 (fun _ h => by cases h))
  have HPB := Lib.hid (firstP_bytes HB1.out)
  have HPL := firstP_len ys
  clear hO7 hS7
  obtain ⟨fp, hfp⟩ : ∃ fp, fp = firstP ys := ⟨_, rfl⟩
  obtain ⟨fn, hfn⟩ : ∃ fn, fn = firstN ys := ⟨_, rfl⟩
  obtain ⟨fe, hfe⟩ : ∃ fe, fe = firstE ys := ⟨_, rfl⟩
  rw [← hfp] at HO6 HO6b HO7 HPB HPL HS6 ⊢
  rw [← hfn, ← hfe]
  clear hfp hfn hfe
  go_wp2_with fail
  refine (bytes_is _ _ _ _ _ _ _ _ _ (NRow.of_own HO6b.out) (NRow.of_own HO7.out) rfl rfl HPB.out HPB.out true (by simp)).mono ?_
  rintro e w8 ⟨rfl, rfl⟩
  go_wp2_with fail
  refine (spoil_any _ _ _ HO6b.out (by omega)).mono ?_
  rintro e w8 ⟨rfl, hM8⟩
  have HR6 := Lib.hid (fun k hk => Step.new HS6.out k hk : ∀ k ∈ rowOf (.slice Bp fp.length dp), w5.heap.size ≤ k)
  have HO5c := Lib.hid (own_moved HO5b.out hM8 (fun k hk h => by have h1 := HR6.out k h; have h2 := own_lt HO5.out k hk; omega))
  have HM8 := Lib.hid (moved_spoil HM7.out hM8 (fun k hk => Nat.le_trans HM5.out.size (HR6.out k hk)))
  have HY8 := Lib.hid (nrowx_moved HA1.out HM8.out (fun _ _ h => by cases h))
  clear hM8
  go_wp2_with fail
  refine (bytes_is _ _ _ _ _ _ _ _ _ (NRow.of_own HO5c.out) HY8.out rfl rfl HB1.out HB1.out true (by simp)).mono ?_
  rintro e w9 ⟨rfl, rfl⟩
  go_wp2_with (go_at_call 16; refine (frame_wakes F _ (by exact HLD.out.moved HM8.out)).mono ?_; rintro e w9 ⟨rfl, hM9⟩; have HM9 := Lib.hid hM9; clear hM9)
  go_ret
  exact ⟨rfl, (HM8.out.trans HM9.out (fun _ h => by cases h)).below (Nat.le_refl _) (fun _ h => by cases h)⟩
end Fr
end Go.Proofs.YtpcmkjmkaggfbaaDoor
