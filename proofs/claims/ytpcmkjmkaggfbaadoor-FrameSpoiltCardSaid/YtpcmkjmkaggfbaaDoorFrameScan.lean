/-
  CONTRACT of package frame's Scan (its label and goto); what the statements' walks ask of the package.
-/
import Derived.Test.YtpcmkjmkaggfbaaDoorFrameFirst
import Derived.Test.YtpcmkjmkaggfbaaDoorFrameLaws
import Derived.ScopeJumps
import Derived.WalkMore
namespace Go.Proofs.YtpcmkjmkaggfbaaDoor
namespace Fr
open Go.RowKit
def ScanAt (A : Option Addr) (c : Nat) (xs : List Int) (w : World) (a : Act) (wr : World) : Prop :=
  ∃ (k : Nat) (v : Value) (ps : List (List Int)) (fp : List Nat) (u4 u5 u6 u7 u8 u9 u10 u11 u12 u13 u14 u15 u16 u17 u18 u19 u20 u21 u22 u23 u24 u25 : Value), a = { tmps := #[.slice A xs.length c, undef, v, .int .i64 k, u4, u5, u6, u7, u8, u9, u10, u11, u12, u13, u14, u15, u16, u17, u18, u19, u20, u21, u22, u23, u24, u25], defers := [] } ∧ k ≤ xs.length ∧ ps.length ≤ k ∧ OwnRows wr v ps fp ∧ Step w wr [] fp ∧ Hid (ScanIs xs ps k)
set_option maxRecDepth 100000 in
set_option maxHeartbeats 3000000 in
theorem scan_any (A : Option Addr) (n c : Nat) (xs : List Int) (w : World) (hA : NRow .u8 w A xs) (hn : xs.length = n) (hb : ByteList xs) (hnil : A = none → c = 0) (hc : n ≤ c) (hc2 : c ≤ 9223372036854775807) (hlen : n ≤ 1099511627776) (hld : Ld w) :
    Calls Tryd.prog 24 #[.slice A n c] w (ToldS (scanOf xs).1 (scanOf xs).2 w) := by
  subst hn
  obtain ⟨i0, hi, hz0, hz1, hz2⟩ := info_parts info_bytes
  have HA := Lib.hid hA
  have HB := Lib.hid hb
  have HNIL := Lib.hid hnil
  have HLD := Lib.hid hld
  clear hA hb hnil hld
  go_enter Tryd.func24, Tryd.ntmps24
  go_wp2
  refine wp_scope_jumps 0 (ScanAt A c xs w) (fun a _ => xs.length - (intOf (a.tmps.getD 3 undef)).toNat) rfl ?_ ?_
  · go_wp2
    go_step3
    cases hf : firstOf xs with
    | none =>
      have HE := Lib.hid (scan_none hf)
      have HF := Lib.hid (first_none hf)
      clear hf
      go_wp2_with fail
      refine (first_any A _ _ xs w HA.out (by simp) HB.out HNIL.out (by omega) (by omega) (by omega) HLD.out).mono ?_
      rw [HF.out.1, HF.out.2.1, HF.out.2.2]
      rintro e w1 ⟨v1, rfl, hO1, hS1⟩
      have HM1 := Lib.hid hS1.1
      clear hO1 hS1
      go_wp2
      simp only [Exit.jump]
      go_ret2
      exact ⟨_, [], by rw [HE.out]; rfl, by rw [HE.out]; exact OwnRows.nil _, HM1.out, by simp⟩
    | some p =>
      have HG := Lib.hid (scan_go (scan_start xs) (show firstOf (xs.drop 0) = some p from hf))
      have HF := Lib.hid (first_some hf)
      have hpl := first_len hf
      clear hf
      go_wp2_with fail
      refine (first_any A _ _ xs w HA.out (by simp) HB.out HNIL.out (by omega) (by omega) (by omega) HLD.out).mono ?_
      rw [HF.out.1, HF.out.2.1, HF.out.2.2]
      rintro e w1 ⟨u1, rfl, hO1, hS1⟩
      obtain ⟨Au, cu, rfl, -⟩ := own_shape hO1
      have hO2 := OwnRows.nil w1
      obtain ⟨vs, hfp, hr, hl, he, ha, hd⟩ := hO2.stays (w' := w1.alloc (.cells #[.slice Au p.length cu] 25)) (fun j hj => Below.heap_alloc w1 _ j (hO2.lt j hj))
      have HR := Lib.hid hr
      have HU := Lib.hid (hO1.alloc (.cells #[.slice Au p.length cu] 25))
      have HS1 := Lib.hid hS1
      have HUA := Lib.hid (fun b _ h => by simp [rowOf, Value.ownBlock] at h : ∀ b ∈ rowOf (.slice Au p.length cu), b ∉ rowOf (.slice none 0 0))
      have hvs : vs = [] := List.eq_nil_of_length_eq_zero (by simpa using hl)
      have HUP := Lib.hid (fun b _ h => by rw [hvs] at h; simp [partsOf] at h : ∀ b ∈ rowOf (.slice Au p.length cu), b ∉ partsOf vs)
      have HDD := Lib.hid hd
      have HFP := Lib.hid hfp
      have HL := Lib.hid hl
      have HEE := Lib.hid he
      have HAA := Lib.hid ha
      clear hO1 hO2 hS1 hfp hr hl he ha hd hvs
      go_wp2_with (at_builtin; refine wpList_append_vals rfl _ _ 22 rfl 25 i0 (.slice none 0 0) 24 Tryd.underlying22 hi hz0 rfl hz1 hz2 (.slice none 0 0) _ _ rfl HR.out _ 1 1 [.slice Au p.length cu] rfl rfl (vrow_lit _ _ _) (fun u hu => by simp at hu; subst hu; rfl) (fun h => by cases h) (by unfold maxLen; simp; try omega) (by simp; try omega) ?_)
      intro v2 w2 hown hst
      obtain ⟨fp2, hO3, hS3⟩ := OwnRows.push HFP.out HL.out HEE.out HAA.out HU.out HUA.out HDD.out HUP.out hown hst
      obtain ⟨A3, c3, vs3, rfl, -⟩ := hO3.reads
      have HO3 := Lib.hid hO3
      have HS3 := Lib.hid (step_join (Step.refl w []) (S := []) (T := []) (U := rowOf (.slice Au p.length cu)) (show Step _ w2 ([] ++ rowOf (.slice Au p.length cu)) fp2 from ⟨((HS1.out.1.mono (fun _ h => by cases h)).alloc _).trans hS3.1 (fun j hj => .inl hj), fun j hj => (hS3.2 j hj).imp id (fun h => Nat.le_trans (Nat.le_trans HS1.out.1.size (by simp)) h)⟩) (fun j hj => (HS1.out.2 j hj).elim (fun h => by cases h) (fun h => h)))
      clear hown hst hO3 hS3
      go_wp2
      go_step3
      rw [show (8 + (p.length : Int)) = ((0 + (8 + p.length) : Nat) : Int) by omega]
      exact ⟨rfl, 0 + (8 + p.length), _, [] ++ [p], fp2, _, _, _, _, _, _, _, _, _, _, _, _, _, _, _, _, _, _, _, _, _, _, rfl, by omega, by simp; omega, HO3.out, HS3.out, HG.out⟩
  · rintro a' wr ⟨k, v, ps, fp, u4, u5, u6, u7, u8, u9, u10, u11, u12, u13, u14, u15, u16, u17, u18, u19, u20, u21, u22, u23, u24, u25, rfl, hk, hpk, hO, hS, H⟩
    have HO := Lib.hid hO
    have HS := Lib.hid hS
    obtain ⟨Ao, co, vs0, rfl, -, -⟩ := hO.reads
    have HA1 := Lib.hid (nrowx_moved HA.out hS.1 (fun _ _ h => by cases h))
    have HL1 := Lib.hid (HLD.out.moved hS.1)
    clear hO hS
    by_cases hck : c = k
    · have hf : firstOf (xs.drop k) = none := by rw [List.drop_of_length_le (by omega), firstOf, if_pos (by simp)]
      have HE := Lib.hid (scan_end H.out hf)
      have HF := Lib.hid (first_none hf)
      have HD := Lib.hid (show xs.drop k = [] from List.drop_of_length_le (by omega))
      obtain rfl := hck
      clear hf
      go_wp2_with fail
      refine (first_any A _ _ (xs.drop c) wr (by rw [HD.out]; exact NRow.none_ _ _ _) (by rw [HD.out]; simp; try omega) (HB.out.drop c) (fun _ => by omega) (by omega) (by omega) (by omega) HL1.out).mono ?_
      rw [HF.out.1, HF.out.2.1, HF.out.2.2]
      rintro e w1 ⟨v1, rfl, hO1, hS1⟩
      have HM1 := Lib.hid hS1.1
      clear hO1 hS1
      go_wp2
      simp only [Exit.jump]
      go_ret2
      exact ⟨_, fp, by rw [HE.out]; rfl, by rw [HE.out]; exact HO.out.moved HM1.out (fun _ _ h => by cases h), HS.out.1.trans HM1.out (fun _ h => by cases h), fun j hj => HS.out.2 j hj⟩
    · obtain ⟨ad, rfl⟩ : ∃ ad, A = some ad := by
        rcases A with _ | ad
        · exact absurd (HNIL.out rfl) (by omega)
        · exact ⟨ad, rfl⟩
      have hck2 : k < c := by omega
      have HA2 := Lib.hid (nrow_from HA1.out k)
      cases hf : firstOf (xs.drop k) with
      | none =>
        have HE := Lib.hid (scan_end H.out hf)
        have HF := Lib.hid (first_none hf)
        clear hf
        go_wp2_with fail
        refine (first_any (some (ad.add k)) _ _ (xs.drop k) wr HA2.out (by simp) (HB.out.drop k) (fun h => by cases h) (by omega) (by omega) (by omega) HL1.out).mono ?_
        rw [HF.out.1, HF.out.2.1, HF.out.2.2]
        rintro e w1 ⟨v1, rfl, hO1, hS1⟩
        have HM1 := Lib.hid hS1.1
        clear hO1 hS1
        go_wp2
        simp only [Exit.jump]
        go_ret2
        exact ⟨_, fp, by rw [HE.out]; rfl, by rw [HE.out]; exact HO.out.moved HM1.out (fun _ _ h => by cases h), HS.out.1.trans HM1.out (fun _ h => by cases h), fun j hj => HS.out.2 j hj⟩
      | some p =>
        have HG := Lib.hid (scan_go H.out hf)
        have HF := Lib.hid (first_some hf)
        have hpl := first_len hf
        have hpl : 8 + p.length ≤ xs.length - k := by simpa using hpl
        clear hf H
        go_wp2_with fail
        refine (first_any (some (ad.add k)) _ _ (xs.drop k) wr HA2.out (by simp) (HB.out.drop k) (fun h => by cases h) (by omega) (by omega) (by omega) HL1.out).mono ?_
        rw [HF.out.1, HF.out.2.1, HF.out.2.2]
        rintro e w1 ⟨u1, rfl, hO1, hS1⟩
        obtain ⟨Au, cu, rfl, -⟩ := own_shape hO1
        have hO2 := HO.out.moved hS1.1 (fun _ _ h => by cases h)
        obtain ⟨vs, hfp, hr, hl, he, ha, hd⟩ := hO2.stays (w' := w1.alloc (.cells #[.slice Au p.length cu] 25)) (fun j hj => Below.heap_alloc w1 _ j (hO2.lt j hj))
        have HR := Lib.hid hr
        have HU := Lib.hid (hO1.alloc (.cells #[.slice Au p.length cu] 25))
        have HS1 := Lib.hid hS1
        have HUA := Lib.hid (fun b hb h => by
          have h1 := (hS1.2 b hb).elim (fun h => by cases h) id
          have h2 := HO.out.lt b (by rw [hfp]; exact List.mem_append.2 (.inl h))
          omega : ∀ b ∈ rowOf (.slice Au p.length cu), b ∉ rowOf (.slice Ao ps.length co))
        have HUP := Lib.hid (fun b hb h => by
          have h1 := (hS1.2 b hb).elim (fun h => by cases h) id
          have h2 := HO.out.lt b (by rw [hfp]; exact List.mem_append.2 (.inr h))
          omega : ∀ b ∈ rowOf (.slice Au p.length cu), b ∉ partsOf vs)
        have HDD := Lib.hid hd
        have HFP := Lib.hid hfp
        have HL := Lib.hid hl
        have HEE := Lib.hid he
        have HAA := Lib.hid ha
        clear hO1 hO2 hS1 hfp hr hl he ha hd
        go_wp2_with (at_builtin; refine wpList_append_vals rfl _ _ 22 rfl 25 i0 (.slice none 0 0) 24 Tryd.underlying22 hi hz0 rfl hz1 hz2 (.slice Ao ps.length co) _ _ rfl HR.out _ 1 1 [.slice Au p.length cu] rfl rfl (vrow_lit _ _ _) (fun u hu => by simp at hu; subst hu; rfl) (fun h => by cases h) (by unfold maxLen; omega) (by omega) ?_)
        intro v2 w2 hown hst
        obtain ⟨fp2, hO3, hS3⟩ := OwnRows.push HFP.out HL.out HEE.out HAA.out HU.out HUA.out HDD.out HUP.out hown hst
        obtain ⟨A3, c3, vs3, rfl, -⟩ := hO3.reads
        have HO3 := Lib.hid hO3
        have HS3 := Lib.hid (step_join (HS.out) (S := []) (T := fp) (U := rowOf (.slice Au p.length cu)) (show Step _ w2 (fp ++ rowOf (.slice Au p.length cu)) fp2 from ⟨((HS1.out.1.mono (fun _ h => by cases h)).alloc _).trans hS3.1 (fun j hj => .inl hj), fun j hj => (hS3.2 j hj).imp id (fun h => Nat.le_trans (Nat.le_trans HS1.out.1.size (by simp)) h)⟩) (fun j hj => (HS1.out.2 j hj).elim (fun h => by cases h) (fun h => Nat.le_trans HS.out.1.size h)))
        clear hown hst hO3 hS3
        go_wp2
        go_step3
        rw [show ((k : Int) + (8 + (p.length : Int))) = ((k + (8 + p.length) : Nat) : Int) by omega]
        refine ⟨rfl, ⟨k + (8 + p.length), _, ps ++ [p], fp2, _, _, _, _, _, _, _, _, _, _, _, _, _, _, _, _, _, _, _, _, _, _, rfl, by omega, by simp; omega, HO3.out, HS3.out, HG.out⟩, ?_⟩
        simp [intOf]; omega
end Fr
end Go.Proofs.YtpcmkjmkaggfbaaDoor
