/-
  1 texts in one: WirePown.
-/
import Derived.Test.YtpghaffjfinpeaaGreatKWireOnly06
import Derived.Test.YtpghaffjfinpeaaGreatKWireOnly04
import Derived.Test.YtpghaffjfinpeaaGreatKWireOnly31
import Derived.Test.YtpghaffjfinpeaaGreatKWireOnly35
import Derived.Test.YtpghaffjfinpeaaGreatKWireOnly36

/-
  CONTRACT of (*wire.writer).own. (wip/gen_wire.py wrote this.)
-/
namespace Go.Proofs.YtpghaffjfinpeaaGreat
namespace Wi
open Go.RowKit Pk Am
set_option maxRecDepth 100000 in
set_option maxHeartbeats 2000000 in
theorem p_own (b p : Nat) (fp : List Nat) (x : Ws) (m : Nat) (vs : List Value) (ds : List Dat) (w : World) (hW : WW b w p fp x m) (hd : HoldsAll w b Kown vs ds) (hm : m + 2060 ≤ 35184370000000) :
    Calls Tryz.prog 68 #[.pointer (some ⟨p, 0, none⟩), .agg vs.toArray] w (Puts b p fp (wrs ds x) (m + 2060) w) := by
  obtain ⟨n0, _, _, rfl, rfl, i0, hd0⟩ := hd.num
  obtain ⟨n1, _, _, rfl, rfl, i1, hd1⟩ := hd0.num
  obtain ⟨n2, _, _, rfl, rfl, i2, hd2⟩ := hd1.num
  obtain ⟨u3, l3, _, _, rfl, rfl, i3, hd3⟩ := hd2.amt
  obtain ⟨n4, _, _, rfl, rfl, i4, hd4⟩ := hd3.num
  obtain ⟨n5, _, _, rfl, rfl, i5, hd5⟩ := hd4.num
  obtain ⟨n6, _, _, rfl, rfl, i6, hd6⟩ := hd5.num
  obtain ⟨n7, _, _, rfl, rfl, i7, hd7⟩ := hd6.num
  obtain ⟨A8, z8, y8, r8, _, _, rfl, rfl, i8, hd8⟩ := hd7.list
  obtain ⟨q9, _, _, rfl, rfl, hd9⟩ := hd8.mark
  obtain ⟨n10, _, _, rfl, rfl, i10, hd10⟩ := hd9.num
  obtain ⟨n11, _, _, rfl, rfl, i11, hd11⟩ := hd10.num
  obtain ⟨n12, _, _, rfl, rfl, i12, hd12⟩ := hd11.num
  obtain ⟨q13, _, _, rfl, rfl, hd13⟩ := hd12.mark
  obtain ⟨n14, _, _, rfl, rfl, i14, hd14⟩ := hd13.num
  obtain ⟨n15, _, _, rfl, rfl, i15, hd15⟩ := hd14.num
  obtain ⟨n16, _, _, rfl, rfl, i16, hd16⟩ := hd15.num
  obtain ⟨n17, _, _, rfl, rfl, i17, hd17⟩ := hd16.num
  obtain ⟨A18, z18, y18, r18, _, _, rfl, rfl, i18, hd18⟩ := hd17.list
  obtain ⟨A19, z19, y19, r19, _, _, rfl, rfl, i19, hd19⟩ := hd18.list
  obtain ⟨A20, z20, y20, r20, _, _, rfl, rfl, i20, hd20⟩ := hd19.list
  obtain ⟨rfl, rfl⟩ := hd20.nil
  have I0 := Lib.hid i0
  have I1 := Lib.hid i1
  have I2 := Lib.hid i2
  have I3 := Lib.hid i3
  have I4 := Lib.hid i4
  have I5 := Lib.hid i5
  have I6 := Lib.hid i6
  have I7 := Lib.hid i7
  have I8 := Lib.hid i8
  have I10 := Lib.hid i10
  have I11 := Lib.hid i11
  have I12 := Lib.hid i12
  have I14 := Lib.hid i14
  have I15 := Lib.hid i15
  have I16 := Lib.hid i16
  have I17 := Lib.hid i17
  have I18 := Lib.hid i18
  have I19 := Lib.hid i19
  have I20 := Lib.hid i20
  clear i0 i1 i2 i3 i4 i5 i6 i7 i8 i10 i11 i12 i14 i15 i16 i17 i18 i19 i20
  show Calls _ _ #[.pointer (some ⟨p, 0, none⟩), .agg #[.int .i64 n0, .int .i64 n1, .int .i64 n2, Am.amt u3 l3, .int .i64 n4, .int .i64 n5, .int .i64 n6, .int .i64 n7, .slice A8 z8 y8, .bool q9, .int .i64 n10, .int .i64 n11, .int .i64 n12, .bool q13, .int .i64 n14, .int .i64 n15, .int .i64 n16, .int .i64 n17, .slice A18 z18 y18, .slice A19 z19 y19, .slice A20 z20 y20]] w _
  obtain ⟨a3, ha3⟩ : ∃ a, a = Am.amt u3 l3 := ⟨_, rfl⟩
  rw [← ha3]
  have HA3 := Lib.hid ha3
  clear ha3
  have hB0 := Bx.new hW #[.int .i64 n0, .int .i64 n1, .int .i64 n2, a3, .int .i64 n4, .int .i64 n5, .int .i64 n6, .int .i64 n7, .slice A8 z8 y8, .bool q9, .int .i64 n10, .int .i64 n11, .int .i64 n12, .bool q13, .int .i64 n14, .int .i64 n15, .int .i64 n16, .int .i64 n17, .slice A18 z18 y18, .slice A19 z19 y19, .slice A20 z20 y20] 126
  have hO0 := hW.alloc (.cells #[.int .i64 n0, .int .i64 n1, .int .i64 n2, a3, .int .i64 n4, .int .i64 n5, .int .i64 n6, .int .i64 n7, .slice A8 z8 y8, .bool q9, .int .i64 n10, .int .i64 n11, .int .i64 n12, .bool q13, .int .i64 n14, .int .i64 n15, .int .i64 n16, .int .i64 n17, .slice A18 z18 y18, .slice A19 z19 y19, .slice A20 z20 y20] 126)
  have hS0 : Step w (w.alloc (.cells #[.int .i64 n0, .int .i64 n1, .int .i64 n2, a3, .int .i64 n4, .int .i64 n5, .int .i64 n6, .int .i64 n7, .slice A8 z8 y8, .bool q9, .int .i64 n10, .int .i64 n11, .int .i64 n12, .bool q13, .int .i64 n14, .int .i64 n15, .int .i64 n16, .int .i64 n17, .slice A18 z18 y18, .slice A19 z19 y19, .slice A20 z20 y20] 126)) fp fp := step_alloc _ _ _
  have hmf : ∀ (fn : Fn) (first cap : Array Value) (w : World), (Instr.makeFunc fn first cap).run Tryz.prog w = .ok (.func fn first cap) w := fun _ _ _ _ => rfl
  have c0 := hB0.cell 0 (v := .int .i64 n0) rfl
  have c1 := hB0.cell 1 (v := .int .i64 n1) rfl
  have c2 := hB0.cell 2 (v := .int .i64 n2) rfl
  have c3 := hB0.cell 3 (v := a3) rfl
  have c4 := hB0.cell 4 (v := .int .i64 n4) rfl
  have c5 := hB0.cell 5 (v := .int .i64 n5) rfl
  have c6 := hB0.cell 6 (v := .int .i64 n6) rfl
  have c7 := hB0.cell 7 (v := .int .i64 n7) rfl
  have c8 := hB0.cell 8 (v := .slice A8 z8 y8) rfl
  have c9 := hB0.cell 9 (v := .bool q9) rfl
  have HW := Lib.hid hW
  have HB0 := Lib.hid hB0
  have HO0 := Lib.hid hO0
  have HS0 := Lib.hid hS0
  clear hW hB0 hO0 hS0
  go_enter Tryz.func68, Tryz.ntmps68
  go_wp2_with fail
  refine (p_job b p fp _ m _ _ _ (by exact HO0.out) (HoldsAll.stays_in HW.out HS0.out (hN I0.out (hN I1.out (hN I2.out (hAv HA3.out I3.out (hN I4.out (hN I5.out (hN I6.out (hN I7.out (hL I8.out (hM hZ))))))))))) (by omega)).mono ?_
  clear c0 c1 c2 c3 c4 c5 c6 c7 c8 c9
  rintro e1 w1 ⟨rfl, fq1, hO1, hS1⟩
  have hB1 := HB0.out.step hS1
  have hT1 := HS0.out.trans hS1
  have c10 := hB1.cell 10 (v := .int .i64 n10) rfl
  have c11 := hB1.cell 11 (v := .int .i64 n11) rfl
  have c12 := hB1.cell 12 (v := .int .i64 n12) rfl
  have HB1 := Lib.hid hB1
  have HO1 := Lib.hid (hO1.more (m' := m + 190) (by omega))
  have HS1 := Lib.hid hT1
  clear hB1 hO1 hS1 hT1
  go_wp2_with fail
  have hg2 : w1.heap.size = w1.heap.size := rfl
  refine (p_ints b p fq1 _ (m + 190) _ 3 _ [n10, n11, n12] _ (by exact HO1.out.alloc _) (nrow_lits hg2 [n10, n11, n12] _ rfl) rfl (by intro z hz; simp only [List.mem_cons, List.not_mem_nil, or_false] at hz; rcases hz with rfl | rfl | rfl; exact I10.out; exact I11.out; exact I12.out) (rowX_new hg2 HO1.out.obj.lt) (by omega) (by omega)).mono ?_
  clear c10 c11 c12
  rintro e2 w2 ⟨rfl, fq2, hO2, hS2⟩
  have hS2 := (step_alloc _ _ _).trans hS2
  have hB2 := HB1.out.step hS2
  have hT2 := HS1.out.trans hS2
  have c13 := hB2.cell 13 (v := .bool q13) rfl
  have HB2 := Lib.hid hB2
  have HO2 := Lib.hid (hO2.more (m' := m + 220) (by omega))
  have HS2 := Lib.hid hT2
  clear hB2 hO2 hS2 hT2
  go_wp2_with fail
  go_region_held3 (fun w' => w'.cell? ⟨w.heap.size, 13, none⟩ = some (.bool q13)) (go_keep) ((go_at_call 45; refine (p_mark b p fq2 _ (m + 220) q13 _ (by first | exact HO2.out | exact HO2.out.alloc _ | exact HO2.out.stays (fun _ _ => rfl)) (by omega)).mono ?_; clear c13; rintro e3 w3 ⟨rfl, fq3, hO3, hS3⟩; have hS3 := (show Step w2 _ fq2 fq2 from by first | exact Step.refl _ _ | exact ⟨(Moved.refl _ _).drew, fun _ h => .inl h⟩ | exact ⟨(Moved.refl _ _).drewN _, fun _ h => .inl h⟩).trans hS3; have k13 := (HB2.out.step hS3).cell 13 (v := .bool q13) rfl; have hB3 := HB2.out.step hS3; have hT3 := HS2.out.trans hS3; have c14 := hB3.cell 14 (v := .int .i64 n14) rfl; have c15 := hB3.cell 15 (v := .int .i64 n15) rfl; have c16 := hB3.cell 16 (v := .int .i64 n16) rfl; have c17 := hB3.cell 17 (v := .int .i64 n17) rfl; have HB3 := Lib.hid hB3; have HO3 := Lib.hid (hO3.more (m' := m + 230) (by omega)); have HS3 := Lib.hid hT3; clear hB3 hO3 hS3 hT3))
  clear k13
  go_wp2_with fail
  have hg4 : w3.heap.size = w3.heap.size := rfl
  refine (p_ints b p fq3 _ (m + 230) _ 4 _ [n14, n15, n16, n17] _ (by exact HO3.out.alloc _) (nrow_lits hg4 [n14, n15, n16, n17] _ rfl) rfl (by intro z hz; simp only [List.mem_cons, List.not_mem_nil, or_false] at hz; rcases hz with rfl | rfl | rfl | rfl; exact I14.out; exact I15.out; exact I16.out; exact I17.out) (rowX_new hg4 HO3.out.obj.lt) (by omega) (by omega)).mono ?_
  clear c14 c15 c16 c17
  rintro e4 w4 ⟨rfl, fq4, hO4, hS4⟩
  have hS4 := (step_alloc _ _ _).trans hS4
  have hB4 := HB3.out.step hS4
  have hT4 := HS3.out.trans hS4
  have c18 := hB4.cell 18 (v := .slice A18 z18 y18) rfl
  have HB4 := Lib.hid hB4
  have HO4 := Lib.hid (hO4.more (m' := m + 270) (by omega))
  have HS4 := Lib.hid hT4
  clear hB4 hO4 hS4 hT4
  go_wp2_with fail
  go_region_held3 (fun w' => w'.cell? ⟨w.heap.size, 18, none⟩ = some (.slice A18 z18 y18)) (go_keep) ((go_at_call 80; refine (p_list_int b p fq4 _ (m + 270) 8 _ A18 z18 y18 r18 _ (by first | exact HO4.out | exact HO4.out.alloc _ | exact HO4.out.stays (fun _ _ => rfl)) (by exact Holds.alike (Holds.stays_in HW.out HS4.out I18.out) HO4.out.size rfl) (by rfl) (by omega)).mono ?_; clear c18; rintro e5 w5 ⟨rfl, fq5, hO5, hS5⟩; have hS5 := (show Step w4 _ fq4 fq4 from by first | exact Step.refl _ _ | exact ⟨(Moved.refl _ _).drew, fun _ h => .inl h⟩ | exact ⟨(Moved.refl _ _).drewN _, fun _ h => .inl h⟩).trans hS5; have k18 := (HB4.out.step hS5).cell 18 (v := .slice A18 z18 y18) rfl; have hB5 := HB4.out.step hS5; have hT5 := HS4.out.trans hS5; have c19 := hB5.cell 19 (v := .slice A19 z19 y19) rfl; have HB5 := Lib.hid hB5; have HO5 := Lib.hid (hO5.more (m' := m + 360) (by omega)); have HS5 := Lib.hid hT5; clear hB5 hO5 hS5 hT5))
  clear k18
  go_wp2_with fail
  refine (p_list_offer b p fq5 _ (m + 360) 8 _ A19 z19 y19 r19 _ (by first | exact HO5.out | exact HO5.out.alloc _ | exact HO5.out.stays (fun _ _ => rfl)) (Holds.stays_in HW.out HS5.out I19.out) (by rfl) (by omega)).mono ?_
  clear c19
  rintro e6 w6 ⟨rfl, fq6, hO6, hS6⟩
  have hB6 := HB5.out.step hS6
  have hT6 := HS5.out.trans hS6
  have c20 := hB6.cell 20 (v := .slice A20 z20 y20) rfl
  have HB6 := Lib.hid hB6
  have HO6 := Lib.hid (hO6.more (m' := m + 1810) (by omega))
  have HS6 := Lib.hid hT6
  clear hB6 hO6 hS6 hT6
  go_wp2_with fail
  refine (p_list_part b p fq6 _ (m + 1810) 8 _ A20 z20 y20 r20 _ (by first | exact HO6.out | exact HO6.out.alloc _ | exact HO6.out.stays (fun _ _ => rfl)) (Holds.stays_in HW.out HS6.out I20.out) (by rfl) (by omega)).mono ?_
  clear c20
  rintro e7 w7 ⟨rfl, fq7, hO7, hS7⟩
  have hB7 := HB6.out.step hS7
  have hT7 := HS6.out.trans hS7
  have HB7 := Lib.hid hB7
  have HO7 := Lib.hid (hO7.more (m' := m + 2060) (by omega))
  have HS7 := Lib.hid hT7
  clear hB7 hO7 hS7 hT7
  go_wp2
  go_end0
  exact ⟨rfl, fq7, by first | exact (HO7.out.more (by omega)) | (have h := HO7.out.more (m' := m + 2060) (by omega); simpa only [wrs, nums, List.map_cons, List.map_nil] using h), HS7.out⟩
end Wi
end Go.Proofs.YtpghaffjfinpeaaGreat
