/-
  2 texts in one: WireLown, WirePcopy.
-/
import Derived.Test.YtpghaffjfinpeaaGreatKWireOnly06
import Derived.Test.YtpghaffjfinpeaaGreatKWireOnly04
import Derived.Test.YtpghaffjfinpeaaGreatKWireOnly37
import Derived.Test.YtpghaffjfinpeaaGreatKWireOnly31

/-
  CONTRACT of wire.putList[hanse/api.Own]. (wip/gen_wire.py wrote this.)
-/
namespace Go.Proofs.YtpghaffjfinpeaaGreat
namespace Wi
open Go.RowKit Pk Am
set_option maxRecDepth 100000 in
set_option maxHeartbeats 2000000 in
theorem p_list_own (b p : Nat) (fp : List Nat) (x : Ws) (m most : Nat) (M : Int) (A : Option Addr) (n c : Nat) (rows : List (List Dat)) (w : World) (hW : WW b w p fp x m) (hH : Holds w b (.list most Kown) (.slice A n c) (.list most rows)) (hM : M = (most : Int)) (hm : m + (10 + most * 2060) ≤ 35184370000000) :
    Calls Tryz.prog 67 #[.pointer (some ⟨p, 0, none⟩), .slice A n c, .int .i64 M, .func (.func 68) #[.pointer (some ⟨p, 0, none⟩)] #[]] w (Puts b p fp (wrD (.list most rows) x) (m + (10 + most * 2060)) w) := by
  subst hM
  obtain ⟨hcount, hn45⟩ := hH.count
  have HC := Lib.hid hcount
  clear hcount
  by_cases hgt : most < n
  · obtain ⟨c0, c1, c2, hblk⟩ := hW.obj.blk
    have k3 := cell_at hblk 3 (v := .bool x.t) rfl
    have f3 := free_at hblk 3
    have HL := Lib.hid (show wrD (.list most rows) x = x.long by rw [wrD, if_pos (by rw [HC.out]; exact hgt)])
    have HW := Lib.hid hW
    clear hW hH hblk
    go_enter Tryz.func67, Tryz.ntmps67
    go_wp2
    go_end0
    exact ⟨rfl, fp, by rw [HL.out]; exact ⟨HW.out.obj.long.more (by omega), HW.out.far⟩, (Moved.refl _ _).setCell (.inl HW.out.obj.mem) _, fun _ h => .inl h⟩
  · have hU := Lib.hid (show wrD (.list most rows) x = wrRows rows (x.put (enc n)) by rw [wrD, if_neg (by rw [HC.out]; exact hgt), HC.out])
    have HH := Lib.hid hH
    have HW := Lib.hid hW
    clear hH hW
    go_enter Tryz.func67, Tryz.ntmps67
    go_wp2_with fail
    refine (p_uint b p fp x m n _ (by exact HW.out) (by omega) (by omega)).mono ?_
    rintro e1 w1 ⟨rfl, fq1, hO1, hS1⟩
    have HO1 := Lib.hid hO1
    have HS1 := Lib.hid hS1
    clear hO1 hS1
    go_wp2
    go_loopw [26] (fun i W => ∃ (k : Nat) (cur : Ws) (fq : List Nat), i = .int .i64 k ∧ k ≤ n ∧ Hid (cur = wrRows (rows.take k) (x.put (enc n))) ∧ WW b W p fq cur (m + 10 + k * 2060) ∧ Step w W fp fq) (fun i _ => n - (intOf i).toNat)
    case atStart => exact ⟨0, _, fq1, rfl, Nat.zero_le _, by show _ = _; rw [List.take_zero, wrRows], by rw [Nat.zero_mul]; exact HO1.out, HS1.out⟩
    case round =>
      obtain ⟨k, cur, fq, rfl, hk, H, hO, hS⟩ := hrel
      have HS := Lib.hid hS
      have HO := Lib.hid hO
      clear hS hO HO1 HS1
      have hb0 : k * 2060 ≤ most * 2060 := Nat.mul_le_mul_right _ (by omega)
      by_cases hlt : k < n
      · have hb1 : k * 2060 + 2060 ≤ most * 2060 := by rw [← Nat.succ_mul]; exact Nat.mul_le_mul_right _ (by omega)
        obtain ⟨r, hr⟩ : ∃ r, rows[k]? = some r := ⟨rows[k]'(by rw [HC.out]; exact hlt), List.getElem?_eq_getElem _⟩
        have HN := Lib.hid ((congrArg (wrs r) H.out).trans (wrRows_take hr _).symm)
        obtain ⟨g, off, vs, rfl, hg, hcell, hall⟩ := HH.out.elem hr
        clear hr H
        have hall' := HoldsAll.stays_in HW.out HS.out hall
        have hBel := HW.out.below HS.out
        have hlen : vs.length = 21 := hall.len.1
        have HR := Lib.hid (show wr.rangeAt g (off + k * 21) vs from fun j v hv => (hBel.cell hg).trans (hcell j v hv))
        have HI := Lib.hid (show (Tryz.prog.info? 126).map (·.size) = some vs.length by rw [hlen]; kernel_rfl)
        have H1 := Lib.hid (show vs.toArray.all (·.oneCell') = true by rw [List.all_toArray]; exact HoldsAll.one _ _ _ hall)
        have HZ := Lib.hid (show 21 = vs.toArray.size by rw [List.size_toArray, hlen])
        have HA := Lib.hid hall'
        clear hall hall' hcell hBel hlen
        go_wp2_with (first
          | (refine wpList_load_mid rfl 126 _ rfl g (off + k * 21) rfl vs _ HR.out Tryz.underlying126 rfl HI.out ?_)
          | (refine wpList_store_new rfl 126 _ _ rfl _ vs.toArray rfl rfl HI.out HZ.out H1.out ?_)
          | (refine wpList_load_mid rfl 126 _ rfl wr.heap.size 0 rfl vs _ (range_new _ _ _) Tryz.underlying126 rfl HI.out ?_))
        refine (p_own b p fq cur (m + 10 + k * 2060) vs _ _ (by exact HO.out.alloc _) (HoldsAll.stays_in HO.out (step_alloc _ _ fq) HA.out) (by omega)).mono ?_
        rintro e2 w2 ⟨rfl, fq2, hO2, hS2⟩
        have HO2 := Lib.hid hO2
        have HS2 := Lib.hid (HS.out.trans ((step_alloc _ _ _).trans hS2))
        clear hO2 hS2
        go_wp2
        go_roundw
        case rel => exact ⟨k + 1, _, fq2, by go_num, by omega, HN.out, by rw [Nat.succ_mul]; exact HO2.out.more (by omega), HS2.out⟩
        case measure => simp [intOf]; omega
      · obtain rfl : k = n := by omega
        go_wp2
        go_end0
        refine ⟨rfl, fq, ?_, HS.out⟩
        rw [hU.out]
        have h := HO.out
        rw [H.out, ← HC.out, List.take_length] at h
        rw [HC.out] at h
        exact h.more (by omega)
end Wi
end Go.Proofs.YtpghaffjfinpeaaGreat

/-
  CONTRACT of (*wire.writer).copy. (wip/gen_wire.py wrote this.)
-/
namespace Go.Proofs.YtpghaffjfinpeaaGreat
namespace Wi
open Go.RowKit Pk Am
set_option maxRecDepth 100000 in
set_option maxHeartbeats 2000000 in
theorem p_copy (b p : Nat) (fp : List Nat) (x : Ws) (m : Nat) (vs : List Value) (ds : List Dat) (w : World) (hW : WW b w p fp x m) (hd : HoldsAll w b Kcopy vs ds) (hm : m + 260 ≤ 35184370000000) :
    Calls Tryz.prog 70 #[.pointer (some ⟨p, 0, none⟩), .agg vs.toArray] w (Puts b p fp (wrs ds x) (m + 260) w) := by
  obtain ⟨n0, _, _, rfl, rfl, i0, hd0⟩ := hd.num
  obtain ⟨n1, _, _, rfl, rfl, i1, hd1⟩ := hd0.num
  obtain ⟨n2, _, _, rfl, rfl, i2, hd2⟩ := hd1.num
  obtain ⟨u3, l3, _, _, rfl, rfl, i3, hd3⟩ := hd2.amt
  obtain ⟨n4, _, _, rfl, rfl, i4, hd4⟩ := hd3.num
  obtain ⟨n5, _, _, rfl, rfl, i5, hd5⟩ := hd4.num
  obtain ⟨n6, _, _, rfl, rfl, i6, hd6⟩ := hd5.num
  obtain ⟨n7, _, _, rfl, rfl, i7, hd7⟩ := hd6.num
  obtain ⟨A8, z8, y8, r8, _, _, rfl, rfl, i8, hd8⟩ := hd7.list
  obtain ⟨q9, _, _, rfl, rfl, hd9⟩ := hd8.mark
  obtain ⟨n10, _, _, rfl, rfl, i10, hd10⟩ := hd9.num
  obtain ⟨n11, _, _, rfl, rfl, i11, hd11⟩ := hd10.num
  obtain ⟨n12, _, _, rfl, rfl, i12, hd12⟩ := hd11.num
  obtain ⟨n13, _, _, rfl, rfl, i13, hd13⟩ := hd12.num
  obtain ⟨n14, _, _, rfl, rfl, i14, hd14⟩ := hd13.num
  obtain ⟨n15, _, _, rfl, rfl, i15, hd15⟩ := hd14.num
  obtain ⟨n16, _, _, rfl, rfl, i16, hd16⟩ := hd15.num
  obtain ⟨rfl, rfl⟩ := hd16.nil
  have I0 := Lib.hid i0
  have I1 := Lib.hid i1
  have I2 := Lib.hid i2
  have I3 := Lib.hid i3
  have I4 := Lib.hid i4
  have I5 := Lib.hid i5
  have I6 := Lib.hid i6
  have I7 := Lib.hid i7
  have I8 := Lib.hid i8
  have I10 := Lib.hid i10
  have I11 := Lib.hid i11
  have I12 := Lib.hid i12
  have I13 := Lib.hid i13
  have I14 := Lib.hid i14
  have I15 := Lib.hid i15
  have I16 := Lib.hid i16
  clear i0 i1 i2 i3 i4 i5 i6 i7 i8 i10 i11 i12 i13 i14 i15 i16
  show Calls _ _ #[.pointer (some ⟨p, 0, none⟩), .agg #[.int .i64 n0, .int .i64 n1, .int .i64 n2, Am.amt u3 l3, .int .i64 n4, .int .i64 n5, .int .i64 n6, .int .i64 n7, .slice A8 z8 y8, .bool q9, .int .i64 n10, .int .i64 n11, .int .i64 n12, .int .i64 n13, .int .i64 n14, .int .i64 n15, .int .i64 n16]] w _
  obtain ⟨a3, ha3⟩ : ∃ a, a = Am.amt u3 l3 := ⟨_, rfl⟩
  rw [← ha3]
  have HA3 := Lib.hid ha3
  clear ha3
  have hB0 := Bx.new hW #[.int .i64 n0, .int .i64 n1, .int .i64 n2, a3, .int .i64 n4, .int .i64 n5, .int .i64 n6, .int .i64 n7, .slice A8 z8 y8, .bool q9, .int .i64 n10, .int .i64 n11, .int .i64 n12, .int .i64 n13, .int .i64 n14, .int .i64 n15, .int .i64 n16] 130
  have hO0 := hW.alloc (.cells #[.int .i64 n0, .int .i64 n1, .int .i64 n2, a3, .int .i64 n4, .int .i64 n5, .int .i64 n6, .int .i64 n7, .slice A8 z8 y8, .bool q9, .int .i64 n10, .int .i64 n11, .int .i64 n12, .int .i64 n13, .int .i64 n14, .int .i64 n15, .int .i64 n16] 130)
  have hS0 : Step w (w.alloc (.cells #[.int .i64 n0, .int .i64 n1, .int .i64 n2, a3, .int .i64 n4, .int .i64 n5, .int .i64 n6, .int .i64 n7, .slice A8 z8 y8, .bool q9, .int .i64 n10, .int .i64 n11, .int .i64 n12, .int .i64 n13, .int .i64 n14, .int .i64 n15, .int .i64 n16] 130)) fp fp := step_alloc _ _ _
  have hmf : ∀ (fn : Fn) (first cap : Array Value) (w : World), (Instr.makeFunc fn first cap).run Tryz.prog w = .ok (.func fn first cap) w := fun _ _ _ _ => rfl
  have c0 := hB0.cell 0 (v := .int .i64 n0) rfl
  have c1 := hB0.cell 1 (v := .int .i64 n1) rfl
  have c2 := hB0.cell 2 (v := .int .i64 n2) rfl
  have c3 := hB0.cell 3 (v := a3) rfl
  have c4 := hB0.cell 4 (v := .int .i64 n4) rfl
  have c5 := hB0.cell 5 (v := .int .i64 n5) rfl
  have c6 := hB0.cell 6 (v := .int .i64 n6) rfl
  have c7 := hB0.cell 7 (v := .int .i64 n7) rfl
  have c8 := hB0.cell 8 (v := .slice A8 z8 y8) rfl
  have c9 := hB0.cell 9 (v := .bool q9) rfl
  have HW := Lib.hid hW
  have HB0 := Lib.hid hB0
  have HO0 := Lib.hid hO0
  have HS0 := Lib.hid hS0
  clear hW hB0 hO0 hS0
  go_enter Tryz.func70, Tryz.ntmps70
  go_wp2_with fail
  refine (p_job b p fp _ m _ _ _ (by exact HO0.out) (HoldsAll.stays_in HW.out HS0.out (hN I0.out (hN I1.out (hN I2.out (hAv HA3.out I3.out (hN I4.out (hN I5.out (hN I6.out (hN I7.out (hL I8.out (hM hZ))))))))))) (by omega)).mono ?_
  clear c0 c1 c2 c3 c4 c5 c6 c7 c8 c9
  rintro e1 w1 ⟨rfl, fq1, hO1, hS1⟩
  have hB1 := HB0.out.step hS1
  have hT1 := HS0.out.trans hS1
  have c10 := hB1.cell 10 (v := .int .i64 n10) rfl
  have c11 := hB1.cell 11 (v := .int .i64 n11) rfl
  have c12 := hB1.cell 12 (v := .int .i64 n12) rfl
  have c13 := hB1.cell 13 (v := .int .i64 n13) rfl
  have c14 := hB1.cell 14 (v := .int .i64 n14) rfl
  have c15 := hB1.cell 15 (v := .int .i64 n15) rfl
  have c16 := hB1.cell 16 (v := .int .i64 n16) rfl
  have HB1 := Lib.hid hB1
  have HO1 := Lib.hid (hO1.more (m' := m + 190) (by omega))
  have HS1 := Lib.hid hT1
  clear hB1 hO1 hS1 hT1
  go_wp2_with fail
  have hg2 : w1.heap.size = w1.heap.size := rfl
  refine (p_ints b p fq1 _ (m + 190) _ 7 _ [n10, n11, n12, n13, n14, n15, n16] _ (by exact HO1.out.alloc _) (nrow_lits hg2 [n10, n11, n12, n13, n14, n15, n16] _ rfl) rfl (by intro z hz; simp only [List.mem_cons, List.not_mem_nil, or_false] at hz; rcases hz with rfl | rfl | rfl | rfl | rfl | rfl | rfl; exact I10.out; exact I11.out; exact I12.out; exact I13.out; exact I14.out; exact I15.out; exact I16.out) (rowX_new hg2 HO1.out.obj.lt) (by omega) (by omega)).mono ?_
  clear c10 c11 c12 c13 c14 c15 c16
  rintro e2 w2 ⟨rfl, fq2, hO2, hS2⟩
  have hS2 := (step_alloc _ _ _).trans hS2
  have hB2 := HB1.out.step hS2
  have hT2 := HS1.out.trans hS2
  have HB2 := Lib.hid hB2
  have HO2 := Lib.hid (hO2.more (m' := m + 260) (by omega))
  have HS2 := Lib.hid hT2
  clear hB2 hO2 hS2 hT2
  go_wp2
  go_end0
  exact ⟨rfl, fq2, by first | exact (HO2.out.more (by omega)) | (have h := HO2.out.more (m' := m + 260) (by omega); simpa only [wrs, nums, List.map_cons, List.map_nil] using h), HS2.out⟩
end Wi
end Go.Proofs.YtpghaffjfinpeaaGreat
