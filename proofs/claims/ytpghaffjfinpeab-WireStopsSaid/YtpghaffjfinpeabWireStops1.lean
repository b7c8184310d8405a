/-
  THE WALK of the statement WireStops at n = 1. (wip/gen_stops.py wrote this.)
-/
import Derived.Test.YtpghaffjfinpeabWireStops0
import Derived.Test.YtpghaffjfinpeabWireWakes
import Derived.Test.YtpghaffjfinpeabWireTrec
import Derived.Test.YtpghaffjfinpeabWireTstate
import Derived.Test.YtpghaffjfinpeabWireTbundle
import Derived.Test.YtpghaffjfinpeabWireMore
namespace Go.Proofs.Ytpghaffjfinpeab
namespace Wi
open Go.RowKit Pk Am
attribute [local go_sem] store_cplx
set_option maxRecDepth 100000 in
set_option maxHeartbeats 4000000 in
theorem stops_1 (x y : Int) (w : World) (hx : -9223372036854775808 ≤ x ∧ x ≤ 9223372036854775807) (hy : -9223372036854775808 ≤ y ∧ y ≤ 9223372036854775807) :
    Calls Try.prog 3 #[.int .i64 1, .agg #[.int .i64 x, .int .i64 y]] w fun e w' => e = .returned (.bool true) ∧ Below w.heap.size w w' := by
  obtain ⟨i_span, hi_span, hz_span, hs_span, hb_span⟩ := info_parts info_span
  obtain ⟨i_slot, hi_slot, hz_slot, hs_slot, hb_slot⟩ := info_parts info_slot
  obtain ⟨i_int, hi_int, hz_int, hs_int, hb_int⟩ := info_parts info_int
  obtain ⟨i_msg, hi_msg, hz_msg, hs_msg, hb_msg⟩ := info_parts info_msg
  have HX := Lib.hid hx
  have HY := Lib.hid hy
  have hIR : (Try.prog.info? 33).map (·.size) = some 24 := by kernel_rfl
  have HIR := Lib.hid hIR
  have HTR := Lib.hid (fun (vs : List Value) (ds : List Dat) (W : World) (e : Int) (he : (wrs ds ⟨.ok [], false⟩).err = e) (h : HoldsAll W W.heap.size Krec vs ds) => (he ▸ top_rec vs ds W h : Calls Try.prog 4 #[.agg vs.toArray] W (Told (wrs ds ⟨.ok [], false⟩).out e W)))
  have HTS := Lib.hid (fun (vs : List Value) (ds : List Dat) (W : World) (e : Int) (he : (wrs ds ⟨.ok [], false⟩).err = e) (h : HoldsAll W W.heap.size Kstate vs ds) => (he ▸ top_state vs ds W h : Calls Try.prog 6 #[.agg vs.toArray] W (Told (wrs ds ⟨.ok [], false⟩).out e W)))
  have HTB := Lib.hid (fun (A : Option Addr) (n c : Nat) (rows : List (List Dat)) (W : World) (e : Int) (he : (wrD (.list 16 rows) ⟨.ok [], false⟩).err = e) (h : Holds W W.heap.size (.list 16 Kmsg) (.slice A n c) (.list 16 rows)) => (he ▸ top_bundle A n c rows W h : Calls Try.prog 5 #[.slice A n c] W (Told (wrD (.list 16 rows) ⟨.ok [], false⟩).out e W)))
  clear hx hy hIR
  have hbx := heap_alloc_new w (.cells #[.int .i64 x, .int .i64 y] 23)
  have HBX := Lib.hid hbx
  clear hbx
  go_enter Try.func3, Try.ntmps3
  go_wp2_with (at_make; refine wpList_make_full _ rfl _ _ 24 rfl 0 73 i_span (.agg #[.int .i64 0, .int .i64 0]) 2 Try.underlying24 hi_span hz_span hs_span _ _ _ _ 9 rfl rfl rfl rfl (by rw [hb_span]; omega) (by unfold maxLen; omega) (by omega) ?_)
  intro w1 hown hgrow
  obtain ⟨h1, m1⟩ := made_new (Ks := Kspan) (most := 8) (g := w.heap.size + 1) (by simp) rfl rfl rfl (by omega) hgrow hown
  obtain ⟨g1, hg1⟩ : ∃ g1, g1 = w.heap.size + 1 := ⟨_, rfl⟩
  rw [← hg1] at h1 ⊢
  have HB1 := Lib.hid (At.moved HBX.out m1)
  have H1 := Lib.hid h1
  have M1 := Lib.hid (((Moved.refl w []).alloc _).trans m1 (by simp))
  clear h1 m1 hown hgrow hg1 HBX
  go_wp2_with (first
    | (refine wpList_store_new rfl 33 _ _ rfl _ #[.int .i64 0, .int .i64 0, .int .i64 0, .int .i64 0, .int .i64 0, .int .i64 0, .int .i64 0, .int .i64 0, .bool false, .int .i64 0, .int .i64 0, .int .i64 0, .complex .f64 0 0, .int .i64 0, .int .i64 0, .int .i64 0, .int .i64 0, .slice none 0 0, .bool false, .int .i64 0, .int .i64 0, .complex .f64 0 0, .slice (some ⟨g1, 0, none⟩) 9 9, .slice none 0 0] rfl rfl (by exact HIR.out) rfl (by rw [List.all_toArray]; rfl) ?_)
    | (at_make; refine wpList_make_full _ rfl _ _ 31 rfl 0 77 i_slot (.agg #[.int .i64 0, .int .i64 0, .int .i64 0]) 3 Try.underlying31 hi_slot hz_slot hs_slot _ _ _ _ 257 rfl rfl rfl rfl (by rw [hb_slot]; omega) (by unfold maxLen; omega) (by omega) ?_))
  intro w2 hown hgrow
  obtain ⟨h2, m2⟩ := made_new (Ks := Kslot) (most := 256) (g := w1.heap.size + 1) (by simp) rfl rfl rfl (by omega) hgrow hown
  obtain ⟨g2, hg2⟩ : ∃ g2, g2 = w1.heap.size + 1 := ⟨_, rfl⟩
  rw [← hg2] at h2 ⊢
  have M2 := Lib.hid (((Moved.refl w1 []).alloc _).trans m2 (by simp))
  obtain ⟨rv, hrv⟩ : ∃ rv : List Value, rv = [.int .i64 0, .int .i64 0, .int .i64 0, .int .i64 0, .int .i64 0, .int .i64 0, .int .i64 0, .int .i64 0, .bool false, .int .i64 0, .int .i64 0, .int .i64 0, .complex .f64 0 0, .int .i64 0, .int .i64 0, .int .i64 0, .int .i64 0, .slice none 0 0, .bool false, .int .i64 0, .int .i64 0, .complex .f64 0 0, .slice (some ⟨g1, 0, none⟩) 9 9, .slice none 0 0] := ⟨_, rfl⟩
  obtain ⟨rd, hrd⟩ : ∃ rd : List Dat, rd = [.num 0, .num 0, .num 0, .num 0, .num 0, .num 0, .num 0, .num 0, .mark false, .num 0, .num 0, .num 0, .amt 0 0, .num 0, .num 0, .num 0, .num 0, .list 8 [], .mark false, .num 0, .num 0, .amt 0 0, .list 8 (List.replicate 9 (Kspan.map zeroD)), .list 256 []] := ⟨_, rfl⟩
  have HR := Lib.hid (show HoldsAll w1 w1.heap.size Krec rv rd by rw [hrv, hrd]; exact (hN (by omega) (hN (by omega) (hN (by omega) (hN (by omega) (hN (by omega) (hN (by omega) (hN (by omega) (hN (by omega) (hM (hN (by omega) (hN (by omega) (hN (by omega) (hAv amt_zero.symm (by omega) (hN (by omega) (hN (by omega) (hN (by omega) (hN (by omega) (hL (zero_holds _ _ (.list 8 Kint)) (hM (hN (by omega) (hN (by omega) (hAv amt_zero.symm (by omega) (hL H1.out (hL (zero_holds _ _ (.list 256 Kslot)) hZ)))))))))))))))))))))))))
  have HRE := Lib.hid (show (wrs rd ⟨.ok [], false⟩).err = 6 by rw [hrd]; exact err_long (wrs_found (most := 8) (rows := (List.replicate 9 (Kspan.map zeroD))) (by rw [List.length_replicate]; omega) _ _ (by simp)))
  have hrl : rv.length = 24 := by rw [hrv]; rfl
  have HRI := Lib.hid (show (Try.prog.info? 33).map (·.size) = some rv.length by rw [hrl]; exact HIR.out)
  have HRA := Lib.hid (show At w2 w1.heap.size rv.toArray 33 by rw [hrv]; exact At.moved (heap_alloc_new w1 _) m2)
  have HB2 := Lib.hid (HB1.out.moved M2.out)
  have H2 := Lib.hid h2
  clear h2 m2 hown hgrow hg2 hrl hrv hrd HB1 H1
  go_wp2_with (first
    | (refine wpList_store_new rfl 33 _ _ rfl _ #[.int .i64 0, .int .i64 0, .int .i64 0, .int .i64 0, .int .i64 0, .int .i64 0, .int .i64 0, .int .i64 0, .bool false, .int .i64 0, .int .i64 0, .int .i64 0, .complex .f64 0 0, .int .i64 0, .int .i64 0, .int .i64 0, .int .i64 0, .slice none 0 0, .bool false, .int .i64 0, .int .i64 0, .complex .f64 0 0, .slice none 0 0, .slice (some ⟨g2, 0, none⟩) 257 257] rfl rfl (by exact HIR.out) rfl (by rw [List.all_toArray]; rfl) ?_))
  obtain ⟨sv, hsv⟩ : ∃ sv : List Value, sv = [.int .i64 0, .int .i64 0, .int .i64 0, .int .i64 0, .int .i64 0, .int .i64 0, .int .i64 0, .int .i64 0, .bool false, .int .i64 0, .int .i64 0, .int .i64 0, .complex .f64 0 0, .int .i64 0, .int .i64 0, .int .i64 0, .int .i64 0, .slice none 0 0, .bool false, .int .i64 0, .int .i64 0, .complex .f64 0 0, .slice none 0 0, .slice (some ⟨g2, 0, none⟩) 257 257] := ⟨_, rfl⟩
  obtain ⟨sd, hsd⟩ : ∃ sd : List Dat, sd = [.num 0, .num 0, .num 0, .num 0, .num 0, .num 0, .num 0, .num 0, .mark false, .num 0, .num 0, .num 0, .amt 0 0, .num 0, .num 0, .num 0, .num 0, .list 8 [], .mark false, .num 0, .num 0, .amt 0 0, .list 8 [], .list 256 (List.replicate 257 (Kslot.map zeroD))] := ⟨_, rfl⟩
  have HS := Lib.hid (show HoldsAll w2 w2.heap.size Krec sv sd by rw [hsv, hsd]; exact (hN (by omega) (hN (by omega) (hN (by omega) (hN (by omega) (hN (by omega) (hN (by omega) (hN (by omega) (hN (by omega) (hM (hN (by omega) (hN (by omega) (hN (by omega) (hAv amt_zero.symm (by omega) (hN (by omega) (hN (by omega) (hN (by omega) (hN (by omega) (hL (zero_holds _ _ (.list 8 Kint)) (hM (hN (by omega) (hN (by omega) (hAv amt_zero.symm (by omega) (hL (zero_holds _ _ (.list 8 Kspan)) (hL H2.out hZ)))))))))))))))))))))))))
  have HSE := Lib.hid (show (wrs sd ⟨.ok [], false⟩).err = 6 by rw [hsd]; exact err_long (wrs_found (most := 256) (rows := (List.replicate 257 (Kslot.map zeroD))) (by rw [List.length_replicate]; omega) _ _ (by simp)))
  have hsl : sv.length = 24 := by rw [hsv]; rfl
  have HSI := Lib.hid (show (Try.prog.info? 33).map (·.size) = some sv.length by rw [hsl]; exact HIR.out)
  rw [← hsv]
  obtain ⟨W2, hW2⟩ : ∃ W2, W2 = w2.alloc (.cells sv.toArray 33) := ⟨_, rfl⟩
  have m3 : Moved w2 W2 [] := by rw [hW2]; exact (Moved.refl w2 []).alloc _
  have HSA := Lib.hid (show At W2 w2.heap.size sv.toArray 33 by rw [hW2]; exact heap_alloc_new w2 _)
  rw [← hW2]
  have hb2 := HB2.out.moved m3
  have c0 := hb2.cell 0 (v := .int .i64 x) rfl
  have c1 := hb2.cell 1 (v := .int .i64 y) rfl
  have HB3 := Lib.hid hb2
  have M3 := Lib.hid m3
  clear hb2 m3 hW2 hsl hsv hsd HB2 H2
  have hw8 : IntKind.i64.wrap 9 = 9 := by decide
  have hne2 : ¬ w.heap.size = W2.heap.size := by have := lt_of_block HB3.out; omega
  have hlt2 : w.heap.size < W2.heap.size := lt_of_block HB3.out
  refine wp_region_held (S := fun w' => w'.cell? ⟨w.heap.size, 0, none⟩ = some (.int .i64 x) ∧ w'.cell? ⟨w.heap.size, 1, none⟩ = some (.int .i64 y)) (by kernel_rfl) ?_
  change wpAnyH _ _ _ _ _ _ _ _ (World.drew _)
  refine wpAnyH_take (i := 0) (v := .agg #[.int .i64 x, .int .i64 y]) rfl (by kernel_rfl) (by kernel_rfl) (by kernel_rfl) (fun _ _ _ h => h) (Or.inl ⟨by rfl, ?ld⟩) ⟨c0, c1⟩ ?_
  case ld => intro w' ⟨d0, d1⟩; go_simp
  refine wpAnyH_take (i := 1) (v := .int .i64 1) rfl (by kernel_rfl) (by kernel_rfl) (by kernel_rfl) (fun _ _ _ h => h) (Or.inl ⟨by rfl, ?mv⟩) ⟨c0, c1⟩ ?_
  case mv => intro w' _; go_simp
  refine wpAnyH_take (i := 2) (v := .int .i64 9) rfl (by kernel_rfl) (by kernel_rfl) (by kernel_rfl) (fun _ _ _ h => h) (Or.inl ⟨by rfl, ?ad⟩) ⟨c0, c1⟩ ?_
  case ad => intro w' _; go_simp
  refine wpAnyH_ready (rs := [3, 6]) (by kernel_rfl) (by simp) ?_
  refine AllReadyH.cons rfl (fun K hK => ?_) (AllReadyH.cons rfl (fun K hK => ?_) AllReadyH.nil)
  · refine step_make_full rfl _ _ 26 rfl 0 3 i_int (.int .i64 0) 1 Try.underlying26 hi_int hz_int hs_int _ _ _ _ 9 rfl rfl (by decide) (by decide) (by rw [hb_int]; omega) (by unfold maxLen; omega) (by omega) ?_
    intro w3 hown hgrow
    obtain ⟨h3, m3⟩ := made_new (w := W2.drew) (Ks := Kint) (most := 8) (g := W2.heap.size) rfl rfl rfl rfl (by omega) hgrow hown
    have mA : Moved W2 w3 [] := ((Moved.refl W2 []).drew).trans m3 (by simp)
    have a0 := (HB3.out.moved mA).cell 0 (v := .int .i64 x) rfl
    have a1 := (HB3.out.moved mA).cell 1 (v := .int .i64 y) rfl
    have hlt3 : w.heap.size < w3.heap.size := Nat.lt_of_lt_of_le hlt2 mA.size
    refine hK.out _ _ ⟨a0, a1⟩ (fun _ => ?_)
    clear hK K
    refine wpAnyH_take (i := 4) (v := .agg #[.int .i64 x, .int .i64 y, .int .i64 0, .complex .f64 0 0, .int .i64 0, .int .i64 0, .int .i64 0, .int .i64 0, .slice (some ⟨W2.heap.size, 0, none⟩) 9 9, .bool false]) rfl (by kernel_rfl) (by kernel_rfl) (by kernel_rfl) (fun _ _ _ h => h) (Or.inl ⟨by rfl, ?bj⟩) ⟨a0, a1⟩ ?_
    case bj => intro w' _; go_simp
    refine wpAnyH_take (i := 5) (v := .agg #[.int .i64 0, .int .i64 0, .int .i64 0, .int .i64 0, .int .i64 0, .int .i64 0, .int .i64 0, .int .i64 0, .bool false, .int .i64 x, .int .i64 y, .int .i64 0, .complex .f64 0 0, .int .i64 0, .int .i64 0, .int .i64 0, .int .i64 0, .slice (some ⟨W2.heap.size, 0, none⟩) 9 9, .bool false, .int .i64 0, .int .i64 0, .complex .f64 0 0, .slice none 0 0, .slice none 0 0]) rfl (by kernel_rfl) (by kernel_rfl) (by kernel_rfl) (fun _ _ _ h => h) (Or.inl ⟨by rfl, ?br⟩) ⟨a0, a1⟩ ?_
    case br => intro w' _; go_simp
    refine wpAnyH_ready (rs := [6]) (by kernel_rfl) (by simp) ?_
    refine AllReadyH.cons rfl (fun K hK => ?_) AllReadyH.nil
    simp only [Act.put, List.setIfInBounds_toArray]
    go_simp
    refine hK.out _ _ ⟨by rw [World.cell?_alloc_lt _ _ _ (by exact hlt3)]; exact a0, by rw [World.cell?_alloc_lt _ _ _ (by exact hlt3)]; exact a1⟩ (fun _ => ?_)
    clear hK K
    refine wpAnyH_ready (rs := [7]) (by kernel_rfl) (by simp) ?_
    refine AllReadyH.cons rfl (fun K hK => ?_) AllReadyH.nil
    refine step_store_new rfl 33 _ _ rfl _ #[.int .i64 0, .int .i64 0, .int .i64 0, .int .i64 0, .int .i64 0, .int .i64 0, .int .i64 0, .int .i64 0, .bool false, .int .i64 x, .int .i64 y, .int .i64 0, .complex .f64 0 0, .int .i64 0, .int .i64 0, .int .i64 0, .int .i64 0, .slice (some ⟨W2.heap.size, 0, none⟩) 9 9, .bool false, .int .i64 0, .int .i64 0, .complex .f64 0 0, .slice none 0 0, .slice none 0 0] rfl rfl (by exact HIR.out) rfl (by rw [List.all_toArray]; rfl) ?_
    refine hK.out _ _ ⟨by rw [World.cell?_alloc_lt _ _ _ (by exact hlt3)]; exact a0, by rw [World.cell?_alloc_lt _ _ _ (by exact hlt3)]; exact a1⟩ (fun _ => ?_)
    clear hK K
    refine wpAnyH_done (by kernel_rfl) ?_ _
    obtain ⟨jv, hjv⟩ : ∃ jv : List Value, jv = [.int .i64 0, .int .i64 0, .int .i64 0, .int .i64 0, .int .i64 0, .int .i64 0, .int .i64 0, .int .i64 0, .bool false, .int .i64 x, .int .i64 y, .int .i64 0, .complex .f64 0 0, .int .i64 0, .int .i64 0, .int .i64 0, .int .i64 0, .slice (some ⟨W2.heap.size, 0, none⟩) 9 9, .bool false, .int .i64 0, .int .i64 0, .complex .f64 0 0, .slice none 0 0, .slice none 0 0] := ⟨_, rfl⟩
    obtain ⟨jd, hjd⟩ : ∃ jd : List Dat, jd = [.num 0, .num 0, .num 0, .num 0, .num 0, .num 0, .num 0, .num 0, .mark false, .num x, .num y, .num 0, .amt 0 0, .num 0, .num 0, .num 0, .num 0, .list 8 (List.replicate 9 (Kint.map zeroD)), .mark false, .num 0, .num 0, .amt 0 0, .list 8 [], .list 256 []] := ⟨_, rfl⟩
    have H3 := Lib.hid h3
    have hx := HX.out
    have hy := HY.out
    have hj : HoldsAll w3 w3.heap.size Krec jv jd := by rw [hjv, hjd]; exact (hN (by omega) (hN (by omega) (hN (by omega) (hN (by omega) (hN (by omega) (hN (by omega) (hN (by omega) (hN (by omega) (hM (hN hx (hN hy (hN (by omega) (hAv amt_zero.symm (by omega) (hN (by omega) (hN (by omega) (hN (by omega) (hN (by omega) (hL H3.out (hM (hN (by omega) (hN (by omega) (hAv amt_zero.symm (by omega) (hL (zero_holds _ _ (.list 8 Kspan)) (hL (zero_holds _ _ (.list 256 Kslot)) hZ))))))))))))))))))))))))
    have HJE := Lib.hid (show (wrs jd ⟨.ok [], false⟩).err = 6 by rw [hjd]; exact err_long (wrs_found (most := 8) (rows := (List.replicate 9 (Kint.map zeroD))) (by rw [List.length_replicate]; omega) _ _ (by simp)))
    have hjl : jv.length = 24 := by rw [hjv]; rfl
    have HJI := Lib.hid (show (Try.prog.info? 33).map (·.size) = some jv.length by rw [hjl]; exact HIR.out)
    rw [← hjv]
    obtain ⟨W3, hW3⟩ : ∃ W3, W3 = w3.alloc (.cells jv.toArray 33) := ⟨_, rfl⟩
    have m34 : Moved w3 W3 [] := by rw [hW3]; exact (Moved.refl w3 []).alloc _
    have HJ := Lib.hid (hj.moved m34)
    have HJA := Lib.hid (show At W3 w3.heap.size jv.toArray 33 by rw [hW3]; exact heap_alloc_new w3 _)
    have M4 := Lib.hid (mA.trans m34 (by simp))
    rw [← hW3]
    obtain ⟨g4, hg4⟩ : ∃ g4, g4 = w3.heap.size := ⟨_, rfl⟩
    rw [← hg4] at HJA ⊢
    clear h3 m3 mA a0 a1 hlt3 hj hjl hjd hjv hW3 m34 hg4 hown hgrow hx hy
    have MW : Moved w2 W3 [] := M3.out.trans M4.out (by simp)
    have RA := Lib.hid (HRA.out.moved MW)
    have SA := Lib.hid (HSA.out.moved M4.out)
    have BA := Lib.hid (HB3.out.moved M4.out)
    have QR := Lib.hid (HR.out.moved (M2.out.trans MW (by simp)))
    have QS := Lib.hid (HS.out.moved MW)
    have MT := Lib.hid (M1.out.trans (M2.out.trans MW (by simp)) (by simp))
    clear MW HRA HSA HB3 HR HS M1 M2 M3 M4 c0 c1 hne2 hlt2 hw8
    go_wp2_with (refine wpList_load_mid rfl 33 _ rfl w1.heap.size 0 rfl rv _ RA.out.range Try.underlying33 rfl HRI.out ?_)
    refine (HTR.out rv rd _ 6 HRE.out QR.out).mono ?_
    rintro e1 w5 ⟨v1, rfl, -, st1⟩
    have SA5 := Lib.hid (SA.out.moved st1.1)
    have JA5 := Lib.hid (HJA.out.moved st1.1)
    have BA5 := Lib.hid (BA.out.moved st1.1)
    have QS5 := Lib.hid (QS.out.moved st1.1)
    have QJ5 := Lib.hid (HJ.out.moved st1.1)
    have MT5 := Lib.hid (MT.out.trans st1.1 (by simp))
    clear st1 RA SA BA QR QS MT HJA HJ
    go_wp2_with (refine wpList_load_mid rfl 33 _ rfl w2.heap.size 0 rfl sv _ SA5.out.range Try.underlying33 rfl HSI.out ?_)
    refine (HTR.out sv sd _ 6 HSE.out QS5.out).mono ?_
    rintro e2 w6 ⟨v2, rfl, -, st2⟩
    have JA6 := Lib.hid (JA5.out.moved st2.1)
    have BA6 := Lib.hid (BA5.out.moved st2.1)
    have QJ6 := Lib.hid (QJ5.out.moved st2.1)
    have MT6 := Lib.hid (MT5.out.trans st2.1 (by simp))
    clear st2 SA5 JA5 BA5 QS5 QJ5 MT5
    go_wp2_with (refine wpList_load_mid rfl 33 _ rfl g4 0 rfl jv _ JA6.out.range Try.underlying33 rfl HJI.out ?_)
    refine (HTR.out jv jd _ 6 HJE.out QJ6.out).mono ?_
    rintro e3 w7 ⟨v3, rfl, -, st3⟩
    have BA7 := Lib.hid (BA6.out.moved st3.1)
    have MT7 := Lib.hid (MT6.out.trans st3.1 (by simp))
    clear st3 JA6 BA6 QJ6 MT6
    go_wp2_with (at_make; refine wpList_make_full _ rfl _ _ 39 rfl 0 59 i_msg (.agg #[.int .i64 0, .int .i64 0, .int .i64 0, .int .i64 0, .int .i64 0, .int .i64 0, .bool false, .int .i64 0, .int .i64 0, .int .i64 0, .complex .f64 0 0, .int .i64 0, .int .i64 0, .int .i64 0, .int .i64 0, .slice none 0 0, .bool false, .slice none 0 0]) 18 Try.underlying39 hi_msg hz_msg hs_msg _ _ _ _ 17 rfl rfl rfl rfl (by rw [hb_msg]; omega) (by unfold maxLen; omega) (by omega) ?_)
    intro w8 hown hgrow
    obtain ⟨h8, m8⟩ := made_new (Ks := Kmsg) (most := 16) (g := w7.heap.size) rfl rfl rfl rfl (by omega) hgrow hown
    have H8 := Lib.hid h8
    have BA8 := Lib.hid (BA7.out.moved m8)
    have MT8 := Lib.hid (MT7.out.trans m8 (by simp))
    have HBE := Lib.hid (show (wrD (.list 16 (List.replicate 17 (Kmsg.map zeroD))) ⟨.ok [], false⟩).err = 6 from err_long (by rw [wrD, if_pos (by rw [List.length_replicate]; omega)]; rfl))
    clear h8 m8 hown hgrow BA7 MT7
    go_wp2_with fail
    refine (HTB.out _ 17 17 (List.replicate 17 (Kmsg.map zeroD)) _ 6 HBE.out H8.out).mono ?_
    rintro e4 w9 ⟨v4, rfl, -, st4⟩
    have ba9 := BA8.out.moved st4.1
    have c0 := ba9.cell 0 (v := .int .i64 x) rfl
    have MT9 := Lib.hid (MT8.out.trans st4.1 (by simp))
    obtain ⟨wC, hrC, hoC, hgC⟩ := run_make_full (P := Try.prog) w9.drew 0 31 77 i_slot (.agg #[.int .i64 0, .int .i64 0, .int .i64 0]) 3 Try.underlying31 hi_slot hz_slot hs_slot .i64 .i64 1025 (by rw [hb_slot]; omega) (by unfold maxLen; omega) (by omega)
    have hrC' : (Instr.makeSlice 31 (.int .i64 1025) (.int .i64 1025)).run Try.prog w9.drew = .ok (.slice (some ⟨w9.heap.size, 0, none⟩) 1025 1025) wC := hrC
    have hw1024 : IntKind.i64.wrap 1025 = 1025 := by decide
    obtain ⟨hC, mC⟩ := made_new (w := w9.drew) (Ks := Kslot) (most := 1024) (g := w9.heap.size) rfl rfl rfl rfl (by omega) hgC hoC
    have mC' : Moved w9 wC [] := ((Moved.refl w9 []).drew).trans mC (by simp)
    have baC := ba9.moved mC'
    have cC := baC.cell 0 (v := .int .i64 x) rfl
    obtain ⟨td, htd⟩ : ∃ td : List Dat, td = [.num x, .amt 0 0, .num 0, .mark false, .num 0, .num 0, .list 1024 [], .list 1024 [], .list 1024 [], .list 1024 (List.replicate 1025 (Kslot.map zeroD)), .list 1024 [], .num 0] := ⟨_, rfl⟩
    have H5 := Lib.hid hC
    have hx := HX.out
    have HTC := Lib.hid (show HoldsAll wC wC.heap.size Kstate [.int .i64 x, .complex .f64 0 0, .int .i64 0, .bool false, .int .i64 0, .int .i64 0, .slice none 0 0, .slice none 0 0, .slice none 0 0, .slice (some ⟨w9.heap.size, 0, none⟩) 1025 1025, .slice none 0 0, .int .i64 0] td by rw [htd]; exact (hN hx (hAv amt_zero.symm (by omega) (hN (by omega) (hM (hN (by omega) (hN (by omega) (hL (zero_holds _ _ (.list 1024 Kown)) (hL (zero_holds _ _ (.list 1024 Kcopy)) (hL (zero_holds _ _ (.list 1024 Kresv)) (hL H5.out (hL (zero_holds _ _ (.list 1024 Kuse)) (hN (by omega) hZ)))))))))))))
    have HTE := Lib.hid (show (wrs td ⟨.ok [], false⟩).err = 6 by rw [htd]; exact err_long (wrs_found (most := 1024) (rows := (List.replicate 1025 (Kslot.map zeroD))) (by rw [List.length_replicate]; omega) _ _ (by simp)))
    have BAC := Lib.hid baC
    have MTC := Lib.hid (MT9.out.trans mC' (by simp))
    clear st4 BA8 MT8 hrC hoC hgC hC mC mC' baC ba9 htd H5 H8 hx
    go_wp2_with fail
    go_region_held3 (fun w' => w'.cell? ⟨w.heap.size, 0, none⟩ = some (.int .i64 x)) (go_keep) ((go_at_call 6; refine (HTS.out [.int .i64 x, .complex .f64 0 0, .int .i64 0, .bool false, .int .i64 0, .int .i64 0, .slice none 0 0, .slice none 0 0, .slice none 0 0, .slice (some ⟨w9.heap.size, 0, none⟩) 1025 1025, .slice none 0 0, .int .i64 0] td _ 6 HTE.out HTC.out).mono ?_; rintro e5 w10 ⟨v5, rfl, -, st5⟩; have cD := (BAC.out.moved st5.1).cell 0 (v := .int .i64 x) rfl; have MT10 := Lib.hid (MTC.out.trans st5.1 (by simp)); clear st5))
    clear c0 cC cD hrC' hw1024
    go_wp2_with fail
    refine (wakes_ _).mono ?_
    rintro e6 w11 ⟨rfl, m11⟩
    have MT11 := Lib.hid (MT10.out.trans m11 (by simp))
    clear m11
    go_wp2
    go_ret
    exact ⟨rfl, MT11.out.below (Nat.le_refl _) (by simp)⟩
  · simp only [Act.put, List.setIfInBounds_toArray]
    go_simp
    refine hK.out _ _ ⟨by exact (World.cell?_alloc_lt _ _ _ (by exact hlt2)).trans c0, by exact (World.cell?_alloc_lt _ _ _ (by exact hlt2)).trans c1⟩ (fun _ => ?_)
    clear hK K
    refine wpAnyH_ready (rs := [3]) (by kernel_rfl) (by simp) ?_
    refine AllReadyH.cons rfl (fun K hK => ?_) AllReadyH.nil
    refine step_make_full rfl _ _ 26 rfl 0 3 i_int (.int .i64 0) 1 Try.underlying26 hi_int hz_int hs_int _ _ _ _ 9 rfl rfl (by decide) (by decide) (by rw [hb_int]; omega) (by unfold maxLen; omega) (by omega) ?_
    intro w3 hown hgrow
    have hgB : (W2.alloc (.cells #[.int .i64 0, .int .i64 0, .int .i64 0, .int .i64 0, .int .i64 0, .int .i64 0, .int .i64 0, .int .i64 0, .bool false, .int .i64 0, .int .i64 0, .int .i64 0, .complex .f64 0 0, .int .i64 0, .int .i64 0, .int .i64 0, .int .i64 0, .slice none 0 0, .bool false, .int .i64 0, .int .i64 0, .complex .f64 0 0, .slice none 0 0, .slice none 0 0] 33)).drew.heap.size = W2.heap.size + 1 := by show (W2.alloc _).heap.size = _; rw [World.size_alloc]
    rw [hgB] at hown ⊢
    have mZ : Moved W2 (W2.alloc (.cells #[.int .i64 0, .int .i64 0, .int .i64 0, .int .i64 0, .int .i64 0, .int .i64 0, .int .i64 0, .int .i64 0, .bool false, .int .i64 0, .int .i64 0, .int .i64 0, .complex .f64 0 0, .int .i64 0, .int .i64 0, .int .i64 0, .int .i64 0, .slice none 0 0, .bool false, .int .i64 0, .int .i64 0, .complex .f64 0 0, .slice none 0 0, .slice none 0 0] 33)).drew [] := ((Moved.refl W2 []).alloc _).drew
    have m3 := moved_grown hgrow
    have mB : Moved W2 w3 [] := mZ.trans m3 (by simp)
    have hz3 : At w3 W2.heap.size #[.int .i64 0, .int .i64 0, .int .i64 0, .int .i64 0, .int .i64 0, .int .i64 0, .int .i64 0, .int .i64 0, .bool false, .int .i64 0, .int .i64 0, .int .i64 0, .complex .f64 0 0, .int .i64 0, .int .i64 0, .int .i64 0, .int .i64 0, .slice none 0 0, .bool false, .int .i64 0, .int .i64 0, .complex .f64 0 0, .slice none 0 0, .slice none 0 0] 33 := At.moved (show At (W2.alloc (.cells #[.int .i64 0, .int .i64 0, .int .i64 0, .int .i64 0, .int .i64 0, .int .i64 0, .int .i64 0, .int .i64 0, .bool false, .int .i64 0, .int .i64 0, .int .i64 0, .complex .f64 0 0, .int .i64 0, .int .i64 0, .int .i64 0, .int .i64 0, .slice none 0 0, .bool false, .int .i64 0, .int .i64 0, .complex .f64 0 0, .slice none 0 0, .slice none 0 0] 33)).drew _ _ _ from heap_alloc_new W2 _) m3
    have b0 := (HB3.out.moved mB).cell 0 (v := .int .i64 x) rfl
    have b1 := (HB3.out.moved mB).cell 1 (v := .int .i64 y) rfl
    refine hK.out _ _ ⟨b0, b1⟩ (fun _ => ?_)
    clear hK K
    refine wpAnyH_take (i := 4) (v := .agg #[.int .i64 x, .int .i64 y, .int .i64 0, .complex .f64 0 0, .int .i64 0, .int .i64 0, .int .i64 0, .int .i64 0, .slice (some ⟨W2.heap.size + 1, 0, none⟩) 9 9, .bool false]) rfl (by kernel_rfl) (by kernel_rfl) (by kernel_rfl) (fun _ _ _ h => h) (Or.inl ⟨by rfl, ?bj2⟩) ⟨b0, b1⟩ ?_
    case bj2 => intro w' _; go_simp
    refine wpAnyH_take (i := 5) (v := .agg #[.int .i64 0, .int .i64 0, .int .i64 0, .int .i64 0, .int .i64 0, .int .i64 0, .int .i64 0, .int .i64 0, .bool false, .int .i64 x, .int .i64 y, .int .i64 0, .complex .f64 0 0, .int .i64 0, .int .i64 0, .int .i64 0, .int .i64 0, .slice (some ⟨W2.heap.size + 1, 0, none⟩) 9 9, .bool false, .int .i64 0, .int .i64 0, .complex .f64 0 0, .slice none 0 0, .slice none 0 0]) rfl (by kernel_rfl) (by kernel_rfl) (by kernel_rfl) (fun _ _ _ h => h) (Or.inl ⟨by rfl, ?br2⟩) ⟨b0, b1⟩ ?_
    case br2 => intro w' _; go_simp
    refine wpAnyH_ready (rs := [7]) (by kernel_rfl) (by simp) ?_
    refine AllReadyH.cons rfl (fun K hK => ?_) AllReadyH.nil
    refine step_store_row rfl 33 _ _ rfl W2.heap.size #[.int .i64 0, .int .i64 0, .int .i64 0, .int .i64 0, .int .i64 0, .int .i64 0, .int .i64 0, .int .i64 0, .bool false, .int .i64 x, .int .i64 y, .int .i64 0, .complex .f64 0 0, .int .i64 0, .int .i64 0, .int .i64 0, .int .i64 0, .slice (some ⟨W2.heap.size + 1, 0, none⟩) 9 9, .bool false, .int .i64 0, .int .i64 0, .complex .f64 0 0, .slice none 0 0, .slice none 0 0] rfl rfl _ hz3 (by exact HIR.out) rfl (by rw [List.all_toArray]; rfl) ?_
    have mS : Moved W2 (w3.setRow W2.heap.size #[.int .i64 0, .int .i64 0, .int .i64 0, .int .i64 0, .int .i64 0, .int .i64 0, .int .i64 0, .int .i64 0, .bool false, .int .i64 x, .int .i64 y, .int .i64 0, .complex .f64 0 0, .int .i64 0, .int .i64 0, .int .i64 0, .int .i64 0, .slice (some ⟨W2.heap.size + 1, 0, none⟩) 9 9, .bool false, .int .i64 0, .int .i64 0, .complex .f64 0 0, .slice none 0 0, .slice none 0 0]) [] := moved_setRow mB (.inr (Nat.le_refl _)) _
    have e0 := (HB3.out.moved mS).cell 0 (v := .int .i64 x) rfl
    have e1 := (HB3.out.moved mS).cell 1 (v := .int .i64 y) rfl
    refine hK.out _ _ ⟨e0, e1⟩ (fun _ => ?_)
    clear hK K
    refine wpAnyH_done (by kernel_rfl) ?_ _
    simp only [Act.put, List.setIfInBounds_toArray]
    have hja : At (w3.setRow W2.heap.size #[.int .i64 0, .int .i64 0, .int .i64 0, .int .i64 0, .int .i64 0, .int .i64 0, .int .i64 0, .int .i64 0, .bool false, .int .i64 x, .int .i64 y, .int .i64 0, .complex .f64 0 0, .int .i64 0, .int .i64 0, .int .i64 0, .int .i64 0, .slice (some ⟨W2.heap.size + 1, 0, none⟩) 9 9, .bool false, .int .i64 0, .int .i64 0, .complex .f64 0 0, .slice none 0 0, .slice none 0 0]) W2.heap.size #[.int .i64 0, .int .i64 0, .int .i64 0, .int .i64 0, .int .i64 0, .int .i64 0, .int .i64 0, .int .i64 0, .bool false, .int .i64 x, .int .i64 y, .int .i64 0, .complex .f64 0 0, .int .i64 0, .int .i64 0, .int .i64 0, .int .i64 0, .slice (some ⟨W2.heap.size + 1, 0, none⟩) 9 9, .bool false, .int .i64 0, .int .i64 0, .complex .f64 0 0, .slice none 0 0, .slice none 0 0] 33 := setRow_heap w3 _ _ _ _ _ hz3
    have hms : Moved w3 (w3.setRow W2.heap.size #[.int .i64 0, .int .i64 0, .int .i64 0, .int .i64 0, .int .i64 0, .int .i64 0, .int .i64 0, .int .i64 0, .bool false, .int .i64 x, .int .i64 y, .int .i64 0, .complex .f64 0 0, .int .i64 0, .int .i64 0, .int .i64 0, .int .i64 0, .slice (some ⟨W2.heap.size + 1, 0, none⟩) 9 9, .bool false, .int .i64 0, .int .i64 0, .complex .f64 0 0, .slice none 0 0, .slice none 0 0]) [W2.heap.size] := moved_setRow (Moved.refl w3 _) (.inl (by simp)) _
    have hown2 := own_stays hown (fun k hk => hms.block k (own_lt hown k hk) (by simp [rowOf, Value.ownBlock] at hk; simp; omega))
    obtain ⟨W3, hW3⟩ : ∃ W3, W3 = w3.setRow W2.heap.size #[.int .i64 0, .int .i64 0, .int .i64 0, .int .i64 0, .int .i64 0, .int .i64 0, .int .i64 0, .int .i64 0, .bool false, .int .i64 x, .int .i64 y, .int .i64 0, .complex .f64 0 0, .int .i64 0, .int .i64 0, .int .i64 0, .int .i64 0, .slice (some ⟨W2.heap.size + 1, 0, none⟩) 9 9, .bool false, .int .i64 0, .int .i64 0, .complex .f64 0 0, .slice none 0 0, .slice none 0 0] := ⟨_, rfl⟩
    rw [← hW3] at mS hja hown2 ⊢
    have h3 := made_at (most := 8) (Ks := Kint) rfl rfl rfl (by omega) hown2
    obtain ⟨jv, hjv⟩ : ∃ jv : List Value, jv = [.int .i64 0, .int .i64 0, .int .i64 0, .int .i64 0, .int .i64 0, .int .i64 0, .int .i64 0, .int .i64 0, .bool false, .int .i64 x, .int .i64 y, .int .i64 0, .complex .f64 0 0, .int .i64 0, .int .i64 0, .int .i64 0, .int .i64 0, .slice (some ⟨W2.heap.size + 1, 0, none⟩) 9 9, .bool false, .int .i64 0, .int .i64 0, .complex .f64 0 0, .slice none 0 0, .slice none 0 0] := ⟨_, rfl⟩
    obtain ⟨jd, hjd⟩ : ∃ jd : List Dat, jd = [.num 0, .num 0, .num 0, .num 0, .num 0, .num 0, .num 0, .num 0, .mark false, .num x, .num y, .num 0, .amt 0 0, .num 0, .num 0, .num 0, .num 0, .list 8 (List.replicate 9 (Kint.map zeroD)), .mark false, .num 0, .num 0, .amt 0 0, .list 8 [], .list 256 []] := ⟨_, rfl⟩
    have H3 := Lib.hid h3
    have hx := HX.out
    have hy := HY.out
    have HJ := Lib.hid (show HoldsAll W3 W3.heap.size Krec jv jd by rw [hjv, hjd]; exact (hN (by omega) (hN (by omega) (hN (by omega) (hN (by omega) (hN (by omega) (hN (by omega) (hN (by omega) (hN (by omega) (hM (hN hx (hN hy (hN (by omega) (hAv amt_zero.symm (by omega) (hN (by omega) (hN (by omega) (hN (by omega) (hN (by omega) (hL H3.out (hM (hN (by omega) (hN (by omega) (hAv amt_zero.symm (by omega) (hL (zero_holds _ _ (.list 8 Kspan)) (hL (zero_holds _ _ (.list 256 Kslot)) hZ)))))))))))))))))))))))))
    have HJE := Lib.hid (show (wrs jd ⟨.ok [], false⟩).err = 6 by rw [hjd]; exact err_long (wrs_found (most := 8) (rows := (List.replicate 9 (Kint.map zeroD))) (by rw [List.length_replicate]; omega) _ _ (by simp)))
    have hjl : jv.length = 24 := by rw [hjv]; rfl
    have HJI := Lib.hid (show (Try.prog.info? 33).map (·.size) = some jv.length by rw [hjl]; exact HIR.out)
    rw [← hjv] at hja ⊢
    obtain ⟨g4, hg4⟩ : ∃ g4, g4 = W2.heap.size := ⟨_, rfl⟩
    rw [← hg4] at hja
    have HJA := Lib.hid hja
    have M4 := Lib.hid mS
    rw [← hg4]
    clear h3 m3 mB mZ b0 b1 e0 e1 hjl hjd hW3 hg4 hown hown2 hgrow hx hy hja mS hz3 hms hgB hjv
    have MW : Moved w2 W3 [] := M3.out.trans M4.out (by simp)
    have RA := Lib.hid (HRA.out.moved MW)
    have SA := Lib.hid (HSA.out.moved M4.out)
    have BA := Lib.hid (HB3.out.moved M4.out)
    have QR := Lib.hid (HR.out.moved (M2.out.trans MW (by simp)))
    have QS := Lib.hid (HS.out.moved MW)
    have MT := Lib.hid (M1.out.trans (M2.out.trans MW (by simp)) (by simp))
    clear MW HRA HSA HB3 HR HS M1 M2 M3 M4 c0 c1 hne2 hlt2 hw8
    go_wp2_with (refine wpList_load_mid rfl 33 _ rfl w1.heap.size 0 rfl rv _ RA.out.range Try.underlying33 rfl HRI.out ?_)
    refine (HTR.out rv rd _ 6 HRE.out QR.out).mono ?_
    rintro e1 w5 ⟨v1, rfl, -, st1⟩
    have SA5 := Lib.hid (SA.out.moved st1.1)
    have JA5 := Lib.hid (HJA.out.moved st1.1)
    have BA5 := Lib.hid (BA.out.moved st1.1)
    have QS5 := Lib.hid (QS.out.moved st1.1)
    have QJ5 := Lib.hid (HJ.out.moved st1.1)
    have MT5 := Lib.hid (MT.out.trans st1.1 (by simp))
    clear st1 RA SA BA QR QS MT HJA HJ
    go_wp2_with (refine wpList_load_mid rfl 33 _ rfl w2.heap.size 0 rfl sv _ SA5.out.range Try.underlying33 rfl HSI.out ?_)
    refine (HTR.out sv sd _ 6 HSE.out QS5.out).mono ?_
    rintro e2 w6 ⟨v2, rfl, -, st2⟩
    have JA6 := Lib.hid (JA5.out.moved st2.1)
    have BA6 := Lib.hid (BA5.out.moved st2.1)
    have QJ6 := Lib.hid (QJ5.out.moved st2.1)
    have MT6 := Lib.hid (MT5.out.trans st2.1 (by simp))
    clear st2 SA5 JA5 BA5 QS5 QJ5 MT5
    go_wp2_with (refine wpList_load_mid rfl 33 _ rfl g4 0 rfl jv _ JA6.out.range Try.underlying33 rfl HJI.out ?_)
    refine (HTR.out jv jd _ 6 HJE.out QJ6.out).mono ?_
    rintro e3 w7 ⟨v3, rfl, -, st3⟩
    have BA7 := Lib.hid (BA6.out.moved st3.1)
    have MT7 := Lib.hid (MT6.out.trans st3.1 (by simp))
    clear st3 JA6 BA6 QJ6 MT6
    go_wp2_with (at_make; refine wpList_make_full _ rfl _ _ 39 rfl 0 59 i_msg (.agg #[.int .i64 0, .int .i64 0, .int .i64 0, .int .i64 0, .int .i64 0, .int .i64 0, .bool false, .int .i64 0, .int .i64 0, .int .i64 0, .complex .f64 0 0, .int .i64 0, .int .i64 0, .int .i64 0, .int .i64 0, .slice none 0 0, .bool false, .slice none 0 0]) 18 Try.underlying39 hi_msg hz_msg hs_msg _ _ _ _ 17 rfl rfl rfl rfl (by rw [hb_msg]; omega) (by unfold maxLen; omega) (by omega) ?_)
    intro w8 hown hgrow
    obtain ⟨h8, m8⟩ := made_new (Ks := Kmsg) (most := 16) (g := w7.heap.size) rfl rfl rfl rfl (by omega) hgrow hown
    have H8 := Lib.hid h8
    have BA8 := Lib.hid (BA7.out.moved m8)
    have MT8 := Lib.hid (MT7.out.trans m8 (by simp))
    have HBE := Lib.hid (show (wrD (.list 16 (List.replicate 17 (Kmsg.map zeroD))) ⟨.ok [], false⟩).err = 6 from err_long (by rw [wrD, if_pos (by rw [List.length_replicate]; omega)]; rfl))
    clear h8 m8 hown hgrow BA7 MT7
    go_wp2_with fail
    refine (HTB.out _ 17 17 (List.replicate 17 (Kmsg.map zeroD)) _ 6 HBE.out H8.out).mono ?_
    rintro e4 w9 ⟨v4, rfl, -, st4⟩
    have ba9 := BA8.out.moved st4.1
    have c0 := ba9.cell 0 (v := .int .i64 x) rfl
    have MT9 := Lib.hid (MT8.out.trans st4.1 (by simp))
    obtain ⟨wC, hrC, hoC, hgC⟩ := run_make_full (P := Try.prog) w9.drew 0 31 77 i_slot (.agg #[.int .i64 0, .int .i64 0, .int .i64 0]) 3 Try.underlying31 hi_slot hz_slot hs_slot .i64 .i64 1025 (by rw [hb_slot]; omega) (by unfold maxLen; omega) (by omega)
    have hrC' : (Instr.makeSlice 31 (.int .i64 1025) (.int .i64 1025)).run Try.prog w9.drew = .ok (.slice (some ⟨w9.heap.size, 0, none⟩) 1025 1025) wC := hrC
    have hw1024 : IntKind.i64.wrap 1025 = 1025 := by decide
    obtain ⟨hC, mC⟩ := made_new (w := w9.drew) (Ks := Kslot) (most := 1024) (g := w9.heap.size) rfl rfl rfl rfl (by omega) hgC hoC
    have mC' : Moved w9 wC [] := ((Moved.refl w9 []).drew).trans mC (by simp)
    have baC := ba9.moved mC'
    have cC := baC.cell 0 (v := .int .i64 x) rfl
    obtain ⟨td, htd⟩ : ∃ td : List Dat, td = [.num x, .amt 0 0, .num 0, .mark false, .num 0, .num 0, .list 1024 [], .list 1024 [], .list 1024 [], .list 1024 (List.replicate 1025 (Kslot.map zeroD)), .list 1024 [], .num 0] := ⟨_, rfl⟩
    have H5 := Lib.hid hC
    have hx := HX.out
    have HTC := Lib.hid (show HoldsAll wC wC.heap.size Kstate [.int .i64 x, .complex .f64 0 0, .int .i64 0, .bool false, .int .i64 0, .int .i64 0, .slice none 0 0, .slice none 0 0, .slice none 0 0, .slice (some ⟨w9.heap.size, 0, none⟩) 1025 1025, .slice none 0 0, .int .i64 0] td by rw [htd]; exact (hN hx (hAv amt_zero.symm (by omega) (hN (by omega) (hM (hN (by omega) (hN (by omega) (hL (zero_holds _ _ (.list 1024 Kown)) (hL (zero_holds _ _ (.list 1024 Kcopy)) (hL (zero_holds _ _ (.list 1024 Kresv)) (hL H5.out (hL (zero_holds _ _ (.list 1024 Kuse)) (hN (by omega) hZ)))))))))))))
    have HTE := Lib.hid (show (wrs td ⟨.ok [], false⟩).err = 6 by rw [htd]; exact err_long (wrs_found (most := 1024) (rows := (List.replicate 1025 (Kslot.map zeroD))) (by rw [List.length_replicate]; omega) _ _ (by simp)))
    have BAC := Lib.hid baC
    have MTC := Lib.hid (MT9.out.trans mC' (by simp))
    clear st4 BA8 MT8 hrC hoC hgC hC mC mC' baC ba9 htd H5 H8 hx
    go_wp2_with fail
    go_region_held3 (fun w' => w'.cell? ⟨w.heap.size, 0, none⟩ = some (.int .i64 x)) (go_keep) ((go_at_call 6; refine (HTS.out [.int .i64 x, .complex .f64 0 0, .int .i64 0, .bool false, .int .i64 0, .int .i64 0, .slice none 0 0, .slice none 0 0, .slice none 0 0, .slice (some ⟨w9.heap.size, 0, none⟩) 1025 1025, .slice none 0 0, .int .i64 0] td _ 6 HTE.out HTC.out).mono ?_; rintro e5 w10 ⟨v5, rfl, -, st5⟩; have cD := (BAC.out.moved st5.1).cell 0 (v := .int .i64 x) rfl; have MT10 := Lib.hid (MTC.out.trans st5.1 (by simp)); clear st5))
    clear c0 cC cD hrC' hw1024
    go_wp2_with fail
    refine (wakes_ _).mono ?_
    rintro e6 w11 ⟨rfl, m11⟩
    have MT11 := Lib.hid (MT10.out.trans m11 (by simp))
    clear m11
    go_wp2
    go_ret
    exact ⟨rfl, MT11.out.below (Nat.le_refl _) (by simp)⟩

end Wi
end Go.Proofs.Ytpghaffjfinpeab
