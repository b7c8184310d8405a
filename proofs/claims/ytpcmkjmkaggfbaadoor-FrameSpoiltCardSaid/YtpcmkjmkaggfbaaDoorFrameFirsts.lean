/-
  THE WALK of the statement FrameFirsts, from what it asks of package frame.
-/
import Derived.Test.YtpcmkjmkaggfbaaDoorFrameSeals
namespace Go.Proofs.YtpcmkjmkaggfbaaDoor
namespace Fr
open Go.RowKit
theorem brows_nil (w : World) (A : Option Addr) : BRows w A [] [] := ⟨VRow.none_ _ _, rfl, fun i v p hv => by simp at hv⟩
theorem brows_tail {w : World} {b off : Nat} {v : Value} {vs : List Value} {p : List Int} {ps : List (List Int)} (h : BRows w (some ⟨b, off, none⟩) (v :: vs) (p :: ps)) : BRows w (some ⟨b, off + 1, none⟩) vs ps :=
  ⟨by simpa using h.1.drop 1, by simpa using h.2.1, fun i u q hu hq => h.2.2 (i + 1) u q (by simpa using hu) (by simpa using hq)⟩
theorem first_bytes {xs p : List Int} (hb : ByteList xs) (h : firstOf xs = some p) : ByteList p := by
  have h1 := firstP_bytes hb
  rw [(first_some h).1] at h1
  exact h1
theorem scan_bytes : ∀ (n : Nat) (xs : List Int), xs.length ≤ n → ByteList xs → ∀ p ∈ (scanOf xs).1, ByteList p := by
  intro n
  induction n with
  | zero =>
    intro xs hl _ p hp
    have : firstOf xs = none := by rw [firstOf, if_pos (by omega)]
    rw [scan_none this] at hp
    cases hp
  | succ n ih =>
    intro xs hl hb p hp
    cases hf : firstOf xs with
    | none => rw [scan_none hf] at hp; cases hp
    | some q =>
      rw [scan_some hf] at hp
      have hq := first_len hf
      rcases List.mem_cons.1 hp with rfl | hp
      · exact first_bytes hb hf
      · exact ih _ (by simp; omega) (hb.drop _) p hp
theorem scan_small : ∀ (n : Nat) (xs : List Int), xs.length ≤ n → (scanOf xs).1.length ≤ xs.length ∧ (scanOf xs).2 ≤ xs.length := by
  intro n
  induction n with
  | zero =>
    intro xs hl
    have : firstOf xs = none := by rw [firstOf, if_pos (by omega)]
    rw [scan_none this]
    exact ⟨by simp, by omega⟩
  | succ n ih =>
    intro xs hl
    cases hf : firstOf xs with
    | none => rw [scan_none hf]; exact ⟨by simp, by omega⟩
    | some q =>
      rw [scan_some hf]
      have hq := first_len hf
      have h1 := ih (xs.drop (8 + q.length)) (by simp; omega)
      simp only [List.length_drop] at h1
      exact ⟨by simp; omega, by simp; omega⟩
set_option maxRecDepth 100000 in
set_option maxHeartbeats 2000000 in
theorem firsts_any (F : FLaws) (A : Option Addr) (c : Nat) (xs : List Int) (w : World) (hA : NRow .u8 w A xs) (hb : ByteList xs) (hnil : A = none → c = 0) (hl0 : xs.length ≤ 9223372036854775807) (hc : xs.length ≤ c) (hc2 : c ≤ 9223372036854775807) (hld : Ld w) :
    Calls Tryd.prog 10 #[.slice A xs.length c] w fun e w' => e = .returned (.bool true) ∧ Below w.heap.size w w' := by
  by_cases hbig : 262144 < xs.length
  · go_enter Tryd.func10, Tryd.ntmps10
    go_wp2
    go_ret
    exact ⟨rfl, Below.refl _ _⟩
  have HLD := Lib.hid hld
  have HA := Lib.hid hA
  have HB := Lib.hid hb
  have HNIL := Lib.hid hnil
  clear hld hA hb hnil
  go_enter Tryd.func10, Tryd.ntmps10
  go_wp2_with fail
  refine (F.scan A _ c xs w HA.out rfl HB.out HNIL.out hc hc2 (by omega) HLD.out).mono ?_
  rintro e w1 ⟨vl, fl, rfl, hO1, hS1⟩
  obtain ⟨Al, cl, us, rfl, -, -, hcl1, hcl2, -⟩ := hO1.reads
  have HO1 := Lib.hid hO1
  have HS1 := Lib.hid hS1
  have HA1 := Lib.hid (nrowx_moved HA.out hS1.1 (fun _ _ h => by cases h))
  clear hO1 hS1
  go_wp2_with fail
  refine (F.first A _ c xs w1 HA1.out rfl HB.out HNIL.out hc hc2 (by omega) (HLD.out.moved HS1.out.1)).mono ?_
  rintro e w2 ⟨vp, rfl, hO2, hS2⟩
  obtain ⟨Bp, dp, rfl, -⟩ := own_shape hO2
  have HO2 := Lib.hid hO2
  have HM2 := Lib.hid (HS1.out.1.trans hS2.1 (fun _ h => by cases h))
  have HO1b := Lib.hid (HO1.out.moved hS2.1 (fun _ _ h => by cases h))
  have HA2 := Lib.hid (nrowx_moved HA.out HM2.out (fun _ _ h => by cases h))
  clear hO2 hS2
  cases hf : firstOf xs with
  | none =>
    have hs := scan_none hf
    have h3 := first_none hf
    rw [h3.1, h3.2.1, h3.2.2, hs]
    clear hs h3 hf
    go_wp2_with (go_at_call 16; refine (frame_wakes F _ (by exact HLD.out.moved HM2.out)).mono ?_; rintro e w8 ⟨rfl, hM8⟩; have HM8 := Lib.hid hM8; clear hM8)
    go_ret
    exact ⟨rfl, (HM2.out.trans HM8.out (fun _ h => by cases h)).below (Nat.le_refl _) (fun _ h => by cases h)⟩
  | some p =>
    have hs := scan_some hf
    have h3 := first_some hf
    have hpl := first_len hf
    have hsm := scan_small _ (xs.drop (8 + p.length)) (Nat.le_refl _)
    have HBS := Lib.hid (scan_bytes _ (xs.drop (8 + p.length)) (Nat.le_refl _) (HB.out.drop _))
    have HBP := Lib.hid (first_bytes HB.out hf)
    simp only [List.length_drop] at hsm
    obtain ⟨rs, hrs⟩ : ∃ rs, rs = (scanOf (xs.drop (8 + p.length))).1 := ⟨_, rfl⟩
    obtain ⟨rn, hrn⟩ : ∃ rn, rn = (scanOf (xs.drop (8 + p.length))).2 := ⟨_, rfl⟩
    rw [← hrs, ← hrn] at hs
    rw [← hrs, ← hrn] at hsm
    rw [← hrs] at HBS
    rw [h3.1] at HO2
    rw [hs] at HO1b HO1 hcl1
    rw [h3.1, h3.2.1, h3.2.2, hs]
    have HRS := Lib.hid hrs
    have HRN := Lib.hid hrn
    clear hs h3 hf hrs hrn
    dsimp only at HO1 HO1b hcl1
    obtain ⟨hsm1, hsm2⟩ := hsm
    simp only [List.length_cons] at hcl1
    by_cases hcn : c = 8 + p.length
    · have HD := Lib.hid (show xs.drop (8 + p.length) = [] from List.drop_of_length_le (by omega))
      obtain rfl := hcn
      go_wp2_with fail
      refine (F.scan _ _ _ (xs.drop (8 + p.length)) w2 (by rw [HD.out]; exact NRow.none_ _ _ _) (by simp; try omega) (HB.out.drop _) (fun _ => by omega) (by omega) (by omega) (by omega) (HLD.out.moved HM2.out)).mono ?_
      rw [← HRS.out, ← HRN.out]
      rintro e w3 ⟨vk, fk, rfl, hO3, hS3⟩
      obtain ⟨Ak, ck, uk, rfl, hBk, -, -, -, -⟩ := hO3.reads
      obtain ⟨Al', cl', us', hval, hBl, -, -, -, -⟩ := (HO1b.out.moved hS3.1 (fun _ _ h => by cases h)).reads
      injection hval with hv1 hv2 hv3
      subst hv1 hv3
      have HM3 := Lib.hid (HM2.out.trans hS3.1 (fun _ h => by cases h))
      have hO2b := own_moved HO2.out hS3.1 (fun _ _ h => by cases h)
      have HO2b := Lib.hid hO2b
      obtain ⟨u0, ut, rfl⟩ : ∃ u0 ut, us' = u0 :: ut := by
        have h := hBl.2.1
        rcases us' with _ | ⟨u0, ut⟩
        · simp at h
        · exact ⟨u0, ut, rfl⟩
      obtain ⟨bl, ol, B0, c0, p0, rfl, hp0, hc0, hr0, -, -, -, -⟩ := hBl.at_ (i := 0) (by simp)
      obtain rfl : p = p0 := by simpa using hp0
      have hc0 : w3.cell? ⟨bl, ol, none⟩ = some (.slice B0 p.length c0) := hc0
      have HR0 := Lib.hid hr0
      have HT := Lib.hid (brows_tail hBl)
      have HBK := Lib.hid hBk
      have i0 : 0 < rs.length + 1 := by omega
      clear hO3 hS3 hBk hBl hO2b hp0 hr0 hv2
      by_cases hcl : cl = 1
      · obtain rfl : rs = [] := List.eq_nil_of_length_eq_zero (by omega)
        obtain rfl := hcl
        go_wp2_with (first
          | (go_at_call 20; refine (bytes_is _ _ _ _ _ _ p p _ HR0.out (NRow.of_own HO2b.out) rfl rfl HBP.out HBP.out true (by simp)).mono ?_; rintro e w9 ⟨rfl, rfl⟩)
          | (go_at_call 15; refine (rows_any _ _ _ _ _ _ [] _ [] [] _ (brows_nil _ _) (by exact HBK.out) rfl rfl (fun _ h => by cases h) (fun _ h => by cases h) (by simp) (by simp)).mono ?_; rintro e w9 ⟨rfl, kd, rfl⟩)
          | (go_at_call 16; refine (frame_wakes F _ (by exact (HLD.out.moved HM3.out).drewN _)).mono ?_; rintro e w8 ⟨rfl, hM8⟩; have HM8 := Lib.hid hM8; clear hM8))
        go_ret
        exact ⟨rfl, ((HM3.out.drewN _).trans HM8.out (fun _ h => by cases h)).below (Nat.le_refl _) (fun _ h => by cases h)⟩
      · have hcl2 : 1 < cl := by omega
        go_wp2_with (first
          | (go_at_call 20; refine (bytes_is _ _ _ _ _ _ p p _ HR0.out (NRow.of_own HO2b.out) rfl rfl HBP.out HBP.out true (by simp)).mono ?_; rintro e w9 ⟨rfl, rfl⟩)
          | (go_at_call 15; refine (rows_any _ _ _ _ _ _ _ _ rs rs _ (by exact HT.out) (by exact HBK.out) (by omega) rfl HBS.out HBS.out (by omega) (by omega)).mono ?_; rintro e w9 ⟨rfl, kd, rfl⟩; rw [show decide (rs = rs) = true by simp])
          | (go_at_call 16; refine (frame_wakes F _ (by exact (HLD.out.moved HM3.out).drewN _)).mono ?_; rintro e w8 ⟨rfl, hM8⟩; have HM8 := Lib.hid hM8; clear hM8))
        go_ret
        exact ⟨rfl, ((HM3.out.drewN _).trans HM8.out (fun _ h => by cases h)).below (Nat.le_refl _) (fun _ h => by cases h)⟩
    · obtain ⟨ad, rfl⟩ : ∃ ad, A = some ad := by
        rcases A with _ | ad
        · exact absurd (HNIL.out rfl) (by omega)
        · exact ⟨ad, rfl⟩
      have hcn2 : 8 + p.length < c := by omega
      have HA3 := Lib.hid (nrow_from HA2.out (8 + p.length))
      go_wp2_with fail
      refine (F.scan (some (ad.add (8 + p.length))) _ _ (xs.drop (8 + p.length)) w2 HA3.out (by simp; try omega) (HB.out.drop _) (fun h => by cases h) (by omega) (by omega) (by omega) (HLD.out.moved HM2.out)).mono ?_
      rw [← HRS.out, ← HRN.out]
      rintro e w3 ⟨vk, fk, rfl, hO3, hS3⟩
      obtain ⟨Ak, ck, uk, rfl, hBk, -, -, -, -⟩ := hO3.reads
      obtain ⟨Al', cl', us', hval, hBl, -, -, -, -⟩ := (HO1b.out.moved hS3.1 (fun _ _ h => by cases h)).reads
      injection hval with hv1 hv2 hv3
      subst hv1 hv3
      have HM3 := Lib.hid (HM2.out.trans hS3.1 (fun _ h => by cases h))
      have hO2b := own_moved HO2.out hS3.1 (fun _ _ h => by cases h)
      have HO2b := Lib.hid hO2b
      obtain ⟨u0, ut, rfl⟩ : ∃ u0 ut, us' = u0 :: ut := by
        have h := hBl.2.1
        rcases us' with _ | ⟨u0, ut⟩
        · simp at h
        · exact ⟨u0, ut, rfl⟩
      obtain ⟨bl, ol, B0, c0, p0, rfl, hp0, hc0, hr0, -, -, -, -⟩ := hBl.at_ (i := 0) (by simp)
      obtain rfl : p = p0 := by simpa using hp0
      have hc0 : w3.cell? ⟨bl, ol, none⟩ = some (.slice B0 p.length c0) := hc0
      have HR0 := Lib.hid hr0
      have HT := Lib.hid (brows_tail hBl)
      have HBK := Lib.hid hBk
      have i0 : 0 < rs.length + 1 := by omega
      clear hO3 hS3 hBk hBl hO2b hp0 hr0 hv2
      by_cases hcl : cl = 1
      · obtain rfl : rs = [] := List.eq_nil_of_length_eq_zero (by omega)
        obtain rfl := hcl
        go_wp2_with (first
          | (go_at_call 20; refine (bytes_is _ _ _ _ _ _ p p _ HR0.out (NRow.of_own HO2b.out) rfl rfl HBP.out HBP.out true (by simp)).mono ?_; rintro e w9 ⟨rfl, rfl⟩)
          | (go_at_call 15; refine (rows_any _ _ _ _ _ _ [] _ [] [] _ (brows_nil _ _) (by exact HBK.out) rfl rfl (fun _ h => by cases h) (fun _ h => by cases h) (by simp) (by simp)).mono ?_; rintro e w9 ⟨rfl, kd, rfl⟩)
          | (go_at_call 16; refine (frame_wakes F _ (by exact (HLD.out.moved HM3.out).drewN _)).mono ?_; rintro e w8 ⟨rfl, hM8⟩; have HM8 := Lib.hid hM8; clear hM8))
        go_ret
        exact ⟨rfl, ((HM3.out.drewN _).trans HM8.out (fun _ h => by cases h)).below (Nat.le_refl _) (fun _ h => by cases h)⟩
      · have hcl2 : 1 < cl := by omega
        go_wp2_with (first
          | (go_at_call 20; refine (bytes_is _ _ _ _ _ _ p p _ HR0.out (NRow.of_own HO2b.out) rfl rfl HBP.out HBP.out true (by simp)).mono ?_; rintro e w9 ⟨rfl, rfl⟩)
          | (go_at_call 15; refine (rows_any _ _ _ _ _ _ _ _ rs rs _ (by exact HT.out) (by exact HBK.out) (by omega) rfl HBS.out HBS.out (by omega) (by omega)).mono ?_; rintro e w9 ⟨rfl, kd, rfl⟩; rw [show decide (rs = rs) = true by simp])
          | (go_at_call 16; refine (frame_wakes F _ (by exact (HLD.out.moved HM3.out).drewN _)).mono ?_; rintro e w8 ⟨rfl, hM8⟩; have HM8 := Lib.hid hM8; clear hM8))
        go_ret
        exact ⟨rfl, ((HM3.out.drewN _).trans HM8.out (fun _ h => by cases h)).below (Nat.le_refl _) (fun _ h => by cases h)⟩
end Fr
end Go.Proofs.YtpcmkjmkaggfbaaDoor
