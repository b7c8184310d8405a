/-
  CONTRACT of the statements' helper same: the Log and the page's Disk tell the same.
-/
import Derived.Test.YtekleamkpfeifaaDoorLogOpened
import Derived.Test.YtekleamkpfeifaaDoorKB02
namespace Go.Proofs.YtekleamkpfeifaaDoor
namespace Lg
open Go.RowKit Dk Fr
section
variable {D : World → Nat → List Nat → DSt → Nat → Prop} {G : World → Nat → Nat → List Nat → List Int → List (List Int) → Nat → Prop} {W w w1 : World} {p l : Nat} {fd fl : List Nat} {q : Nat} {fq : List Nat} {s : DSt} {sn : List Int} {rs : List (List Int)} {m : Nat}
/-- Something that belongs to none of them moves. -/
theorem PAt.keeps (L : LLaws D G) (h : PAt D G W w p l fd fl q fq s sn rs m) {S : List Nat} (hM : Moved w w1 S) (hn : ∀ k ∈ S, W.heap.size ≤ k ∧ k ∉ fd ∧ k ∉ fl ∧ k ∉ fq) : PAt D G W w1 p l fd fl q fq s sn rs m :=
  ⟨h.log.keeps L (S := S) (T := S) ⟨hM, fun _ hk => .inl hk⟩ (fun k hk => (hn k hk).1) (fun k hk => ⟨(hn k hk).2.1, (hn k hk).2.2.1⟩), h.page.keeps QStill (S := S) (T := S) ⟨hM, fun _ hk => .inl hk⟩ (fun k hk => (hn k hk).1) (fun k hk => (hn k hk).2.2.2), h.apart, h.live, h.clean⟩
theorem PAt.on (L : LLaws D G) (h : PAt D G W w p l fd fl q fq s sn rs m) (hM : Moved w w1 []) : PAt D G W w1 p l fd fl q fq s sn rs m := h.keeps L hM (fun _ hk => by cases hk)
/-- The Log alone moves. -/
theorem PAt.lmove (h : PAt D G W w p l fd fl q fq s sn rs m) {fl1 : List Nat} (hX : LAt D G W w1 p l fd fl1 s sn rs m) (hS : Step w w1 fl fl1) : PAt D G W w1 p l fd fl1 q fq s sn rs m :=
  ⟨hX, h.page.keeps QStill hS h.log.newl (fun k hk => h.apart k (List.mem_append.2 (.inr hk))), fun k hk hf => by
    rcases List.mem_append.1 hk with hk | hk
    · exact h.apart k (List.mem_append.2 (.inl hk)) hf
    · rcases hS.2 k hk with h' | h'
      · exact h.apart k (List.mem_append.2 (.inr h')) hf
      · have := QObj.lt h.page.on k hf; omega, h.live, h.clean⟩
end
def SameNow (D : World → Nat → List Nat → DSt → Nat → Prop) (G : World → Nat → Nat → List Nat → List Int → List (List Int) → Nat → Prop) (W : World) (p l : Nat) (fd : List Nat) (q : Nat) (fq : List Nat) (s : DSt) (sn : List Int) (rs : List (List Int)) (m : Nat) (r : Ending) (w' : World) : Prop :=
  r = .returned (.bool true) ∧ ∃ fl', PAt D G W w' p l fd fl' q fq s sn rs m
set_option maxRecDepth 100000 in
set_option maxHeartbeats 2000000 in
theorem same_any {D : World → Nat → List Nat → DSt → Nat → Prop} {G : World → Nat → Nat → List Nat → List Int → List (List Int) → Nat → Prop} (L : LLaws D G) (W w : World) (p l : Nat) (fd fl : List Nat) (q : Nat) (fq : List Nat) (s : DSt) (sn : List Int) (rs : List (List Int)) (m : Nat) (h : PAt D G W w p l fd fl q fq s sn rs m) (hm : m ≤ 1073741824) :
    Calls Tryd.prog 13 #[.pointer (some ⟨l, 0, none⟩), .pointer (some ⟨q, 0, none⟩)] w (SameNow D G W p l fd q fq s sn rs m) := by
  have H := Lib.hid h
  obtain ⟨bs, safe, dead, trip⟩ := s
  obtain ⟨A, c, ar, kp, hfq, hr, htr, hbm, hby, hsf, hcalm, hkp, hnil, hcp⟩ := q_open h.page.on
  have c0 := cell_at hr.at_ 0 (v := .slice A bs.length c) rfl
  have HNR := Lib.hid (NRow.of_own (show w.ownsRow 0 5 1 (.slice A bs.length c) bs.length (bs.map (Value.int .u8)) from hr.own))
  have HBY := Lib.hid hby
  have HNIL := Lib.hid hnil
  have HCL := Lib.hid (show logOf bs = (sn, rs, bs.length) from h.clean)
  have hall := log_all hby h.clean
  obtain ⟨hsb, hsl, hrb, hrl⟩ := hall
  have HSB := Lib.hid hsb
  have HRB := Lib.hid (fun r hr => (hrb r hr).1 : ∀ r ∈ rs, ByteList r)
  have HRL := Lib.hid (fun r hr => (hrb r hr).2 : ∀ r ∈ rs, r.length ≤ bs.length)
  clear hsb hrb
  clear h hr htr hby hcalm hnil hfq
  go_enter Tryd.func13, Tryd.ntmps13
  go_wp2_with fail
  refine (parts_any A _ c bs w HNR.out rfl HBY.out HNIL.out (by omega) (by omega) (by omega)).mono ?_
  rw [HCL.out]
  rintro e w1 ⟨B1, c1, v1, fr1, rfl, hN1, hb1, hS1, hf1, hM1⟩
  obtain ⟨Av, cv, us1, rfl, -⟩ := hS1.reads
  have H1 := Lib.hid (H.out.on L hM1)
  have HN1 := Lib.hid hN1
  have HB1 := Lib.hid hb1
  have HS1 := Lib.hid hS1
  have HF1 := Lib.hid (fun b hb => ⟨hS1.lt b hb, fun h => by have := H.out.log.below L b h; have := hf1 b hb; omega, fun h => by have := QObj.lt H.out.page.on b h; have := hf1 b hb; omega⟩ : ∀ b ∈ fr1, b < w1.heap.size ∧ b ∉ fd ++ fl ∧ b ∉ fq)
  clear hN1 hb1 hS1 hf1 hM1 c0
  go_wp2_with fail
  refine (H1.out.log.snap L (by omega)).mono ?_
  rintro e w2 ⟨A2, c2, l2, rfl, hT2, hn2, hc2, hf2, hX2, hS2⟩
  have H2 := Lib.hid (H1.out.lmove hX2 hS2)
  have HT2 := Lib.hid hT2
  have HF2 := Lib.hid hf2
  have HL2 := Lib.hid (t_lt hT2)
  have HN2 := Lib.hid (nrowx_moved HN1.out hS2.1 (fun b hb h => (HF1.out b (HB1.out b (rowX_rowOf hb))).2.1 (List.mem_append.2 (.inr h))))
  have HS2 := Lib.hid (HS1.out.moved hS2.1 (fun b hb h => (HF1.out b hb).2.1 (List.mem_append.2 (.inr h))))
  have HG2 := Lib.hid (fun b hb h => (hS2.2 b h).elim (fun h' => (HF1.out b hb).2.1 (List.mem_append.2 (.inr h'))) (fun h' => by have := (HF1.out b hb).1; omega) : ∀ b ∈ fr1, b ∉ l2)
  have hz2 : w1.heap.size ≤ w2.heap.size := hS2.1.size
  clear hT2 hn2 hf2 hX2 hS2
  go_wp2_with fail
  refine (H2.out.log.recs L (by omega)).mono ?_
  rintro e w3 ⟨A3, c3, us3, l3, fr3, rfl, hT3, hB3, hn3, hc3, hr3, hf3, hX3, hS3⟩
  have H3 := Lib.hid (H2.out.lmove hX3 hS3)
  have HT3 := Lib.hid hT3
  have HB3 := Lib.hid hB3
  have HF3 := Lib.hid hf3
  have HTA := Lib.hid (t_stays HT2.out (fun b hb => hS3.1.block b (HL2.out b hb) (fun h => (HF2.out b hb).2.1 h)))
  have HTL := Lib.hid (fun b hb h => (hS3.2 b h).elim (fun h' => (HF2.out b hb).2.1 h') (fun h' => by have := HL2.out b hb; omega) : ∀ b ∈ rowOf (.slice A2 sn.length c2), b ∉ l3)
  have HN3 := Lib.hid (nrowx_moved HN2.out hS3.1 (fun b hb h => HG2.out b (HB1.out b (rowX_rowOf hb)) h))
  have HS3 := Lib.hid (HS2.out.moved hS3.1 (fun b hb h => HG2.out b hb h))
  have HG3 := Lib.hid (fun b hb h => (hS3.2 b h).elim (fun h' => HG2.out b hb h') (fun h' => by have := (HF1.out b hb).1; omega) : ∀ b ∈ fr1, b ∉ l3)
  have hz3 : w2.heap.size ≤ w3.heap.size := hS3.1.size
  clear hT3 hB3 hn3 hr3 hf3 hX3 hS3
  go_wp2_with fail
  refine (bytes_is A2 B1 _ _ _ _ sn sn _ HTA.out.nrow HN3.out rfl rfl HSB.out HSB.out true (by simp)).mono ?_
  rintro e w4 ⟨rfl, rfl⟩
  obtain ⟨A1', c1', us1', hval, hB1', hn1', hc1', hr1'⟩ := HS3.out.reads
  injection hval with hv1 hv2 hv3
  subst hv1 hv3
  have HB1' := Lib.hid hB1'
  clear hB1' hn1' hc1' hr1' hv2
  go_wp2_with fail
  refine (rows_any A3 Av rs.length rs.length _ _ us3 us1' rs rs _ HB3.out HB1'.out rfl rfl HRB.out HRB.out (by omega) (by omega)).mono ?_
  rintro e w4 ⟨rfl, k4, hw4⟩
  rw [show decide (rs = rs) = true by simp]
  have hM4 : Moved w3 w4 [] := by rw [hw4]; exact (Moved.refl w3 []).drewN k4
  have H4 := Lib.hid (H3.out.on L hM4)
  have HTA4 := Lib.hid (t_stays HTA.out (fun b hb => hM4.block b (t_lt HTA.out b hb) (fun h => by cases h)))
  have HM4 := Lib.hid hM4
  have HS4 := Lib.hid (HS3.out.moved hM4 (fun _ _ h => by cases h))
  clear hw4 hM4
  go_wp2_with fail
  refine (tspoil_any _ _ _ _ HTA4.out (by omega)).mono ?_
  rintro e w5 ⟨rfl, hM5⟩
  have H5 := Lib.hid (H4.out.keeps L hM5 (fun b hb => ⟨Nat.le_trans H1.out.log.old.size (HF2.out b hb).1, (HF2.out b hb).2.2, HTL.out b hb, fun h => by have := QObj.lt H1.out.page.on b h; have := (HF2.out b hb).1; omega⟩))
  have HS5 := Lib.hid (HS4.out.moved hM5 (fun b hb h => by have := (HF1.out b hb).1; have := (HF2.out b h).1; omega))
  obtain ⟨A3', c3', vs3, hval3, hVR, hvl, -, -, hel, hvr, hpt, hlt, hva, hdj⟩ := HT3.out
  injection hval3 with hv1 hv2 hv3
  subst hv1 hv3
  have HM35 := Lib.hid ((HM4.out.mono (fun _ h => by cases h)).trans hM5 (fun b hb => .inl hb) : Moved w3 w5 (rowOf (.slice A2 sn.length c2)))
  have HAF := Lib.hid (fun b hb h => by have := HL2.out b h; have := (HF3.out b hb).1; omega : ∀ b ∈ fr3, b ∉ rowOf (.slice A2 sn.length c2))
  have HVR := Lib.hid hVR
  have HVL := Lib.hid hvl
  have HEL := Lib.hid hel
  have HVF := Lib.hid hvr
  have HPT := Lib.hid hpt
  have HLT := Lib.hid hlt
  have HVA := Lib.hid hva
  have HDJ := Lib.hid hdj
  clear hM5 hVR hvl hel hvr hpt hlt hva hdj hv2
  go_wp2
  go_loopw [11] (fun i wr => ∃ k : Nat, i = .int .i64 k ∧ k ≤ rs.length ∧ Moved w5 wr (partsOf (vs3.take k))) (fun i _ => rs.length - (intOf i).toNat)
  case atStart => exact ⟨0, rfl, by omega, Moved.refl _ _⟩
  case round =>
    obtain ⟨k, rfl, hk, hM⟩ := hrel
    have HM := Lib.hid hM
    clear hM
    by_cases hlt : k < rs.length
    · obtain ⟨u, hu⟩ : ∃ u, vs3[k]? = some u := ⟨vs3[k]'(by rw [HVL.out]; exact hlt), List.getElem?_eq_getElem _⟩
      obtain ⟨y, hy⟩ : ∃ y, rs[k]? = some y := ⟨rs[k], List.getElem?_eq_getElem hlt⟩
      have hyx : y.length ≤ 70368744177664 := by have := HRL.out y (List.mem_of_getElem? hy); omega
      have hut : TRow wr u y.length y := t_stays (HEL.out k u y hu hy) (fun b hb => by
        have hbf : b ∈ fr3 := HPT.out b (mem_partsOf.2 ⟨k, u, hu, hb⟩)
        have hb3 := HLT.out b hbf
        rw [HM.out.block b (Nat.lt_of_lt_of_le hb3 HM35.out.size) (fun h => by
          obtain ⟨i, x, hi, hbx⟩ := mem_partsOf.1 h
          rw [List.getElem?_take] at hi
          split at hi
          · rename_i hik
            exact HDJ.out k i u x (by omega) hu hi b hb hbx
          · cases hi), HM35.out.block b hb3 (HAF.out b hbf)])
      obtain ⟨b, off, hal, hcell⟩ := HVR.out k u hu
      subst hal
      have hblk : b ∈ rowOf (.slice (some ⟨b, off, none⟩) rs.length c3) := by simp [mem_rowOf, Value.ownBlock]
      have hbf := HVF.out b hblk
      have hb3 := HLT.out b hbf
      have hcell2 : wr.cell? ⟨b, off + k, none⟩ = some u := by
        rw [World.cell?_of_block (w := w5) (HM.out.block b (Nat.lt_of_lt_of_le hb3 HM35.out.size) (fun h => HVA.out b hblk (partsOf_part h))), World.cell?_of_block (w := w3) (HM35.out.block b hb3 (HAF.out b hbf))]
        exact hcell
      have HU := Lib.hid hut
      have HPX := Lib.hid (partsOf_take hu)
      clear hut hu hy hcell hblk hbf hb3
      go_wp2_with (go_at_call 27; refine (tspoil_any u _ y wr HU.out hyx).mono ?_; rintro e w6 ⟨rfl, hM6⟩; have HM6 := Lib.hid hM6; clear hM6)
      go_roundw
      case rel => exact ⟨k + 1, by go_num, by omega, by rw [HPX.out]; exact (HM.out.mono (fun b hb => by simp [hb])).trans HM6.out (fun b hb => .inl (by simp [hb]))⟩
      case measure => simp [intOf]; omega
    · have HPF := Lib.hid (fun b hb => HPT.out b (partsOf_part hb) : ∀ b ∈ partsOf (vs3.take k), b ∈ fr3)
      have H6 := Lib.hid (H5.out.keeps L HM.out (fun b hb => by
        have hb2 := HF3.out b (HPF.out b hb)
        have hW := H1.out.log.old.size
        exact ⟨by omega, hb2.2.2, hb2.2.1, fun h => by have := QObj.lt H1.out.page.on b h; omega⟩))
      have HS6 := Lib.hid (HS5.out.moved HM.out (fun b hb h => by have := (HF1.out b hb).1; have := (HF3.out b (HPF.out b h)).1; omega))
      obtain ⟨A6, c6, us6, hval6, hB6, -, -, hr6⟩ := HS6.out.reads
      injection hval6 with hv1 hv2 hv3
      subst hv1 hv3
      have HB6 := Lib.hid hB6
      have HR6 := Lib.hid hr6
      clear hB6 hr6 hv2
      go_wp2_with (first
        | (go_at_call 35; refine (H6.out.log.recs L (by omega)).mono ?_; rintro e w7 ⟨A7, c7, us7, l7, fr7, rfl, hT7, hB7, hn7, hc7, hr7, hf7, hX7, hS7⟩; have HB7 := Lib.hid hB7; have H7 := Lib.hid (H6.out.lmove hX7 hS7); have HB8 := Lib.hid (HB6.out.moved hS7.1 (fun b hb h => HG3.out b (HR6.out b hb) h)); clear hT7 hB7 hn7 hr7 hf7 hX7 hS7)
        | (go_at_call 36; refine (rows_any _ _ _ _ _ _ us7 us6 rs rs w7 HB7.out HB8.out rfl rfl HRB.out HRB.out (by omega) (by omega)).mono ?_; rintro e w8 ⟨rfl, k8, rfl⟩; rw [show decide (rs = rs) = true by simp]))
      go_ret
      exact ⟨rfl, _, H7.out.on L ((Moved.refl _ _).drewN _)⟩
end Lg
end Go.Proofs.YtekleamkpfeifaaDoor
