/-
  3 texts in one: WirePrec, WireTrec, WirePoffer.
-/
import Derived.Test.YtpghaffjfinpeaaGreatKWireOnly06
import Derived.Test.YtpghaffjfinpeaaGreatKWireOnly04
import Derived.Test.YtpghaffjfinpeaaGreatKWireOnly30
import Derived.Test.YtpghaffjfinpeaaGreatKWireOnly31
import Derived.Test.YtpghaffjfinpeaaGreatKWireOnly32
import Derived.Test.YtpghaffjfinpeaaGreatKWireOnly33

/-
  CONTRACT of (*wire.writer).rec. (wip/gen_wire.py wrote this.)
-/
namespace Go.Proofs.YtpghaffjfinpeaaGreat
namespace Wi
open Go.RowKit Pk Am
set_option maxRecDepth 100000 in
set_option maxHeartbeats 2000000 in
theorem p_rec (b p : Nat) (fp : List Nat) (x : Ws) (m : Nat) (vs : List Value) (ds : List Dat) (w : World) (hW : WW b w p fp x m) (hd : HoldsAll w b Krec vs ds) (hm : m + 8180 ≤ 35184370000000) :
    Calls Tryz.prog 17 #[.pointer (some ⟨p, 0, none⟩), .agg vs.toArray] w (Puts b p fp (wrs ds x) (m + 8180) w) := by
  obtain ⟨n0, _, _, rfl, rfl, i0, hd0⟩ := hd.num
  obtain ⟨n1, _, _, rfl, rfl, i1, hd1⟩ := hd0.num
  obtain ⟨n2, _, _, rfl, rfl, i2, hd2⟩ := hd1.num
  obtain ⟨n3, _, _, rfl, rfl, i3, hd3⟩ := hd2.num
  obtain ⟨n4, _, _, rfl, rfl, i4, hd4⟩ := hd3.num
  obtain ⟨n5, _, _, rfl, rfl, i5, hd5⟩ := hd4.num
  obtain ⟨n6, _, _, rfl, rfl, i6, hd6⟩ := hd5.num
  obtain ⟨n7, _, _, rfl, rfl, i7, hd7⟩ := hd6.num
  obtain ⟨q8, _, _, rfl, rfl, hd8⟩ := hd7.mark
  obtain ⟨n9, _, _, rfl, rfl, i9, hd9⟩ := hd8.num
  obtain ⟨n10, _, _, rfl, rfl, i10, hd10⟩ := hd9.num
  obtain ⟨n11, _, _, rfl, rfl, i11, hd11⟩ := hd10.num
  obtain ⟨u12, l12, _, _, rfl, rfl, i12, hd12⟩ := hd11.amt
  obtain ⟨n13, _, _, rfl, rfl, i13, hd13⟩ := hd12.num
  obtain ⟨n14, _, _, rfl, rfl, i14, hd14⟩ := hd13.num
  obtain ⟨n15, _, _, rfl, rfl, i15, hd15⟩ := hd14.num
  obtain ⟨n16, _, _, rfl, rfl, i16, hd16⟩ := hd15.num
  obtain ⟨A17, z17, y17, r17, _, _, rfl, rfl, i17, hd17⟩ := hd16.list
  obtain ⟨q18, _, _, rfl, rfl, hd18⟩ := hd17.mark
  obtain ⟨n19, _, _, rfl, rfl, i19, hd19⟩ := hd18.num
  obtain ⟨n20, _, _, rfl, rfl, i20, hd20⟩ := hd19.num
  obtain ⟨u21, l21, _, _, rfl, rfl, i21, hd21⟩ := hd20.amt
  obtain ⟨A22, z22, y22, r22, _, _, rfl, rfl, i22, hd22⟩ := hd21.list
  obtain ⟨A23, z23, y23, r23, _, _, rfl, rfl, i23, hd23⟩ := hd22.list
  obtain ⟨rfl, rfl⟩ := hd23.nil
  have I0 := Lib.hid i0
  have I1 := Lib.hid i1
  have I2 := Lib.hid i2
  have I3 := Lib.hid i3
  have I4 := Lib.hid i4
  have I5 := Lib.hid i5
  have I6 := Lib.hid i6
  have I7 := Lib.hid i7
  have I9 := Lib.hid i9
  have I10 := Lib.hid i10
  have I11 := Lib.hid i11
  have I12 := Lib.hid i12
  have I13 := Lib.hid i13
  have I14 := Lib.hid i14
  have I15 := Lib.hid i15
  have I16 := Lib.hid i16
  have I17 := Lib.hid i17
  have I19 := Lib.hid i19
  have I20 := Lib.hid i20
  have I21 := Lib.hid i21
  have I22 := Lib.hid i22
  have I23 := Lib.hid i23
  clear i0 i1 i2 i3 i4 i5 i6 i7 i9 i10 i11 i12 i13 i14 i15 i16 i17 i19 i20 i21 i22 i23
  show Calls _ _ #[.pointer (some ⟨p, 0, none⟩), .agg #[.int .i64 n0, .int .i64 n1, .int .i64 n2, .int .i64 n3, .int .i64 n4, .int .i64 n5, .int .i64 n6, .int .i64 n7, .bool q8, .int .i64 n9, .int .i64 n10, .int .i64 n11, Am.amt u12 l12, .int .i64 n13, .int .i64 n14, .int .i64 n15, .int .i64 n16, .slice A17 z17 y17, .bool q18, .int .i64 n19, .int .i64 n20, Am.amt u21 l21, .slice A22 z22 y22, .slice A23 z23 y23]] w _
  obtain ⟨a12, ha12⟩ : ∃ a, a = Am.amt u12 l12 := ⟨_, rfl⟩
  rw [← ha12]
  have HA12 := Lib.hid ha12
  clear ha12
  obtain ⟨a21, ha21⟩ : ∃ a, a = Am.amt u21 l21 := ⟨_, rfl⟩
  rw [← ha21]
  have HA21 := Lib.hid ha21
  clear ha21
  have hB0 := Bx.new hW #[.int .i64 n0, .int .i64 n1, .int .i64 n2, .int .i64 n3, .int .i64 n4, .int .i64 n5, .int .i64 n6, .int .i64 n7, .bool q8, .int .i64 n9, .int .i64 n10, .int .i64 n11, a12, .int .i64 n13, .int .i64 n14, .int .i64 n15, .int .i64 n16, .slice A17 z17 y17, .bool q18, .int .i64 n19, .int .i64 n20, a21, .slice A22 z22 y22, .slice A23 z23 y23] 34
  have hO0 := hW.alloc (.cells #[.int .i64 n0, .int .i64 n1, .int .i64 n2, .int .i64 n3, .int .i64 n4, .int .i64 n5, .int .i64 n6, .int .i64 n7, .bool q8, .int .i64 n9, .int .i64 n10, .int .i64 n11, a12, .int .i64 n13, .int .i64 n14, .int .i64 n15, .int .i64 n16, .slice A17 z17 y17, .bool q18, .int .i64 n19, .int .i64 n20, a21, .slice A22 z22 y22, .slice A23 z23 y23] 34)
  have hS0 : Step w (w.alloc (.cells #[.int .i64 n0, .int .i64 n1, .int .i64 n2, .int .i64 n3, .int .i64 n4, .int .i64 n5, .int .i64 n6, .int .i64 n7, .bool q8, .int .i64 n9, .int .i64 n10, .int .i64 n11, a12, .int .i64 n13, .int .i64 n14, .int .i64 n15, .int .i64 n16, .slice A17 z17 y17, .bool q18, .int .i64 n19, .int .i64 n20, a21, .slice A22 z22 y22, .slice A23 z23 y23] 34)) fp fp := step_alloc _ _ _
  have hmf : ∀ (fn : Fn) (first cap : Array Value) (w : World), (Instr.makeFunc fn first cap).run Tryz.prog w = .ok (.func fn first cap) w := fun _ _ _ _ => rfl
  have c0 := hB0.cell 0 (v := .int .i64 n0) rfl
  have HW := Lib.hid hW
  have HB0 := Lib.hid hB0
  have HO0 := Lib.hid hO0
  have HS0 := Lib.hid hS0
  clear hW hB0 hO0 hS0
  go_enter Tryz.func17, Tryz.ntmps17
  go_wp2_with fail
  go_region_held3 (fun w' => w'.cell? ⟨w.heap.size, 0, none⟩ = some (.int .i64 n0)) (go_keep) ((go_at_call 42; refine (p_int b p fp _ m n0 _ (by first | exact HO0.out | exact HO0.out.alloc _ | exact HO0.out.stays (fun _ _ => rfl)) I0.out (by omega)).mono ?_; clear c0; rintro e1 w1 ⟨rfl, fq1, hO1, hS1⟩; have hS1 := (show Step (w.alloc (.cells #[.int .i64 n0, .int .i64 n1, .int .i64 n2, .int .i64 n3, .int .i64 n4, .int .i64 n5, .int .i64 n6, .int .i64 n7, .bool q8, .int .i64 n9, .int .i64 n10, .int .i64 n11, a12, .int .i64 n13, .int .i64 n14, .int .i64 n15, .int .i64 n16, .slice A17 z17 y17, .bool q18, .int .i64 n19, .int .i64 n20, a21, .slice A22 z22 y22, .slice A23 z23 y23] 34)) _ fp fp from by first | exact Step.refl _ _ | exact ⟨(Moved.refl _ _).drew, fun _ h => .inl h⟩ | exact ⟨(Moved.refl _ _).drewN _, fun _ h => .inl h⟩).trans hS1; have k0 := (HB0.out.step hS1).cell 0 (v := .int .i64 n0) rfl; have hB1 := HB0.out.step hS1; have hT1 := HS0.out.trans hS1; have c1 := hB1.cell 1 (v := .int .i64 n1) rfl; have c2 := hB1.cell 2 (v := .int .i64 n2) rfl; have HB1 := Lib.hid hB1; have HO1 := Lib.hid (hO1.more (m' := m + 10) (by omega)); have HS1 := Lib.hid hT1; clear hB1 hO1 hS1 hT1))
  clear k0
  go_wp2_with fail
  refine (p_id b p fq1 _ (m + 10) _ _ _ (by exact HO1.out) (HoldsAll.stays_in HW.out HS1.out (hN I1.out (hN I2.out hZ))) (by omega)).mono ?_
  clear c1 c2
  rintro e2 w2 ⟨rfl, fq2, hO2, hS2⟩
  have hB2 := HB1.out.step hS2
  have hT2 := HS1.out.trans hS2
  have c3 := hB2.cell 3 (v := .int .i64 n3) rfl
  have c4 := hB2.cell 4 (v := .int .i64 n4) rfl
  have c5 := hB2.cell 5 (v := .int .i64 n5) rfl
  have c6 := hB2.cell 6 (v := .int .i64 n6) rfl
  have c7 := hB2.cell 7 (v := .int .i64 n7) rfl
  have HB2 := Lib.hid hB2
  have HO2 := Lib.hid (hO2.more (m' := m + 30) (by omega))
  have HS2 := Lib.hid hT2
  clear hB2 hO2 hS2 hT2
  go_wp2_with fail
  have hg3 : w2.heap.size = w2.heap.size := rfl
  refine (p_ints b p fq2 _ (m + 30) _ 5 _ [n3, n4, n5, n6, n7] _ (by exact HO2.out.alloc _) (nrow_lits hg3 [n3, n4, n5, n6, n7] _ rfl) rfl (by intro z hz; simp only [List.mem_cons, List.not_mem_nil, or_false] at hz; rcases hz with rfl | rfl | rfl | rfl | rfl; exact I3.out; exact I4.out; exact I5.out; exact I6.out; exact I7.out) (rowX_new hg3 HO2.out.obj.lt) (by omega) (by omega)).mono ?_
  clear c3 c4 c5 c6 c7
  rintro e3 w3 ⟨rfl, fq3, hO3, hS3⟩
  have hS3 := (step_alloc _ _ _).trans hS3
  have hB3 := HB2.out.step hS3
  have hT3 := HS2.out.trans hS3
  have c8 := hB3.cell 8 (v := .bool q8) rfl
  have HB3 := Lib.hid hB3
  have HO3 := Lib.hid (hO3.more (m' := m + 80) (by omega))
  have HS3 := Lib.hid hT3
  clear hB3 hO3 hS3 hT3
  go_wp2_with fail
  go_region_held3 (fun w' => w'.cell? ⟨w.heap.size, 8, none⟩ = some (.bool q8)) (go_keep) ((go_at_call 45; refine (p_mark b p fq3 _ (m + 80) q8 _ (by first | exact HO3.out | exact HO3.out.alloc _ | exact HO3.out.stays (fun _ _ => rfl)) (by omega)).mono ?_; clear c8; rintro e4 w4 ⟨rfl, fq4, hO4, hS4⟩; have hS4 := (show Step w3 _ fq3 fq3 from by first | exact Step.refl _ _ | exact ⟨(Moved.refl _ _).drew, fun _ h => .inl h⟩ | exact ⟨(Moved.refl _ _).drewN _, fun _ h => .inl h⟩).trans hS4; have k8 := (HB3.out.step hS4).cell 8 (v := .bool q8) rfl; have hB4 := HB3.out.step hS4; have hT4 := HS3.out.trans hS4; have c9 := hB4.cell 9 (v := .int .i64 n9) rfl; have c10 := hB4.cell 10 (v := .int .i64 n10) rfl; have c11 := hB4.cell 11 (v := .int .i64 n11) rfl; have c12 := hB4.cell 12 (v := a12) rfl; have c13 := hB4.cell 13 (v := .int .i64 n13) rfl; have c14 := hB4.cell 14 (v := .int .i64 n14) rfl; have c15 := hB4.cell 15 (v := .int .i64 n15) rfl; have c16 := hB4.cell 16 (v := .int .i64 n16) rfl; have c17 := hB4.cell 17 (v := .slice A17 z17 y17) rfl; have c18 := hB4.cell 18 (v := .bool q18) rfl; have HB4 := Lib.hid hB4; have HO4 := Lib.hid (hO4.more (m' := m + 90) (by omega)); have HS4 := Lib.hid hT4; clear hB4 hO4 hS4 hT4))
  clear k8
  go_wp2_with fail
  refine (p_job b p fq4 _ (m + 90) _ _ _ (by exact HO4.out) (HoldsAll.stays_in HW.out HS4.out (hN I9.out (hN I10.out (hN I11.out (hAv HA12.out I12.out (hN I13.out (hN I14.out (hN I15.out (hN I16.out (hL I17.out (hM hZ))))))))))) (by omega)).mono ?_
  clear c9 c10 c11 c12 c13 c14 c15 c16 c17 c18
  rintro e5 w5 ⟨rfl, fq5, hO5, hS5⟩
  have hB5 := HB4.out.step hS5
  have hT5 := HS4.out.trans hS5
  have c19 := hB5.cell 19 (v := .int .i64 n19) rfl
  have c20 := hB5.cell 20 (v := .int .i64 n20) rfl
  have c21 := hB5.cell 21 (v := a21) rfl
  have HB5 := Lib.hid hB5
  have HO5 := Lib.hid (hO5.more (m' := m + 280) (by omega))
  have HS5 := Lib.hid hT5
  clear hB5 hO5 hS5 hT5
  go_wp2_with fail
  refine (p_busy b p fq5 _ (m + 280) _ _ _ (by exact HO5.out) (HoldsAll.stays_in HW.out HS5.out (hN I19.out (hN I20.out (hAv HA21.out I21.out hZ)))) (by omega)).mono ?_
  clear c19 c20 c21
  rintro e6 w6 ⟨rfl, fq6, hO6, hS6⟩
  have hB6 := HB5.out.step hS6
  have hT6 := HS5.out.trans hS6
  have c22 := hB6.cell 22 (v := .slice A22 z22 y22) rfl
  have HB6 := Lib.hid hB6
  have HO6 := Lib.hid (hO6.more (m' := m + 320) (by omega))
  have HS6 := Lib.hid hT6
  clear hB6 hO6 hS6 hT6
  go_wp2_with fail
  refine (p_list_span b p fq6 _ (m + 320) 8 _ A22 z22 y22 r22 _ (by first | exact HO6.out | exact HO6.out.alloc _ | exact HO6.out.stays (fun _ _ => rfl)) (Holds.stays_in HW.out HS6.out I22.out) (by rfl) (by omega)).mono ?_
  clear c22
  rintro e7 w7 ⟨rfl, fq7, hO7, hS7⟩
  have hB7 := HB6.out.step hS7
  have hT7 := HS6.out.trans hS7
  have c23 := hB7.cell 23 (v := .slice A23 z23 y23) rfl
  have HB7 := Lib.hid hB7
  have HO7 := Lib.hid (hO7.more (m' := m + 490) (by omega))
  have HS7 := Lib.hid hT7
  clear hB7 hO7 hS7 hT7
  go_wp2_with fail
  refine (p_list_slot b p fq7 _ (m + 490) 256 _ A23 z23 y23 r23 _ (by first | exact HO7.out | exact HO7.out.alloc _ | exact HO7.out.stays (fun _ _ => rfl)) (Holds.stays_in HW.out HS7.out I23.out) (by rfl) (by omega)).mono ?_
  clear c23
  rintro e8 w8 ⟨rfl, fq8, hO8, hS8⟩
  have hB8 := HB7.out.step hS8
  have hT8 := HS7.out.trans hS8
  have HB8 := Lib.hid hB8
  have HO8 := Lib.hid (hO8.more (m' := m + 8180) (by omega))
  have HS8 := Lib.hid hT8
  clear hB8 hO8 hS8 hT8
  go_wp2
  go_end0
  exact ⟨rfl, fq8, by first | exact (HO8.out.more (by omega)) | (have h := HO8.out.more (m' := m + 8180) (by omega); simpa only [wrs, nums, List.map_cons, List.map_nil] using h), HS8.out⟩
end Wi
end Go.Proofs.YtpghaffjfinpeaaGreat

/-
  CONTRACT of wire.Rec. (wip/gen_wire.py wrote this.)
-/
namespace Go.Proofs.YtpghaffjfinpeaaGreat
namespace Wi
open Go.RowKit Pk Am
set_option maxRecDepth 100000 in
set_option maxHeartbeats 1000000 in
theorem top_rec (vs : List Value) (ds : List Dat) (w : World) (hd : HoldsAll w w.heap.size Krec vs ds) :
    Calls Tryz.prog 5 #[.agg vs.toArray] w (Told (wrs ds ⟨.ok [], false⟩).out (wrs ds ⟨.ok [], false⟩).err w) := by
  have hlen : vs.length = 24 := hd.len.1
  have hsz : (w.alloc (.cells vs.toArray 34)).heap.size = w.heap.size + 1 := by simp
  have hO0 := WW.new w.heap.size (w.alloc (.cells vs.toArray 34)) (by omega)
  rw [hsz] at hO0
  have HO0 := Lib.hid hO0
  have hS0 : Step w ((w.alloc (.cells vs.toArray 34)).alloc (.cells #[.slice none 0 0, .int .i64 0, .pointer none, .bool false] 70)) [] [w.heap.size + 1] := ⟨((Moved.refl w []).alloc _).alloc _, fun k hk => .inr (by simp at hk; omega)⟩
  have HD := Lib.hid (HoldsAll.stays (Nat.le_refl _) (fun k hk => hS0.1.block k hk (by simp)) _ _ _ hd)
  have HS0 := Lib.hid hS0
  have HI := Lib.hid (show (Tryz.prog.info? 34).map (·.size) = some vs.length by rw [hlen]; kernel_rfl)
  have HR := Lib.hid (show ((w.alloc (.cells vs.toArray 34)).alloc (.cells #[.slice none 0 0, .int .i64 0, .pointer none, .bool false] 70)).rangeAt w.heap.size 0 vs from fun j v hv => by
    rw [World.cell?_alloc_lt _ _ _ (by simp)]; exact range_new _ _ _ j v hv)
  clear hlen hsz hO0 hS0 hd
  go_enter Tryz.func5, Tryz.ntmps5
  go_wp2_with (refine wpList_load_mid rfl 34 _ rfl w.heap.size 0 rfl vs _ HR.out Tryz.underlying34 rfl HI.out ?_)
  refine (p_rec w.heap.size (w.heap.size + 1) [w.heap.size + 1] _ 0 vs ds _ (by exact HO0.out) HD.out (by omega)).mono ?_
  rintro e1 w1 ⟨rfl, fq1, hO1, hS1⟩
  have HO1 := Lib.hid (hO1.more (m' := 8180) (by omega))
  have HS1 := Lib.hid hS1
  clear hO1 hS1
  go_wp2_with fail
  refine (all_any w.heap.size (w.heap.size + 1) fq1 _ 8180 _ (by exact HO1.out) (by omega)).mono ?_
  rintro e2 w2 hT
  obtain ⟨v, rfl, hown, hst⟩ := Told.of HS1.out HS0.out hT
  have HN := Lib.hid hown
  have HST := Lib.hid hst
  clear hown hst hT
  go_wp2
  go_ret2
  exact ⟨v, rfl, HN.out, HST.out⟩
end Wi
end Go.Proofs.YtpghaffjfinpeaaGreat

/-
  CONTRACT of (*wire.writer).offer. (wip/gen_wire.py wrote this.)
-/
namespace Go.Proofs.YtpghaffjfinpeaaGreat
namespace Wi
open Go.RowKit Pk Am
set_option maxRecDepth 100000 in
set_option maxHeartbeats 2000000 in
theorem p_offer (b p : Nat) (fp : List Nat) (x : Ws) (m : Nat) (vs : List Value) (ds : List Dat) (w : World) (hW : WW b w p fp x m) (hd : HoldsAll w b Koffer vs ds) (hm : m + 180 ≤ 35184370000000) :
    Calls Tryz.prog 92 #[.pointer (some ⟨p, 0, none⟩), .agg vs.toArray] w (Puts b p fp (wrs ds x) (m + 180) w) := by
  obtain ⟨n0, _, _, rfl, rfl, i0, hd0⟩ := hd.num
  obtain ⟨A1, z1, y1, r1, _, _, rfl, rfl, i1, hd1⟩ := hd0.list
  obtain ⟨rfl, rfl⟩ := hd1.nil
  have I0 := Lib.hid i0
  have I1 := Lib.hid i1
  clear i0 i1
  show Calls _ _ #[.pointer (some ⟨p, 0, none⟩), .agg #[.int .i64 n0, .slice A1 z1 y1]] w _
  have hB0 := Bx.new hW #[.int .i64 n0, .slice A1 z1 y1] 167
  have hO0 := hW.alloc (.cells #[.int .i64 n0, .slice A1 z1 y1] 167)
  have hS0 : Step w (w.alloc (.cells #[.int .i64 n0, .slice A1 z1 y1] 167)) fp fp := step_alloc _ _ _
  have hmf : ∀ (fn : Fn) (first cap : Array Value) (w : World), (Instr.makeFunc fn first cap).run Tryz.prog w = .ok (.func fn first cap) w := fun _ _ _ _ => rfl
  have c0 := hB0.cell 0 (v := .int .i64 n0) rfl
  have HW := Lib.hid hW
  have HB0 := Lib.hid hB0
  have HO0 := Lib.hid hO0
  have HS0 := Lib.hid hS0
  clear hW hB0 hO0 hS0
  go_enter Tryz.func92, Tryz.ntmps92
  go_wp2_with fail
  go_region_held3 (fun w' => w'.cell? ⟨w.heap.size, 0, none⟩ = some (.int .i64 n0)) (go_keep) ((go_at_call 42; refine (p_int b p fp _ m n0 _ (by first | exact HO0.out | exact HO0.out.alloc _ | exact HO0.out.stays (fun _ _ => rfl)) I0.out (by omega)).mono ?_; clear c0; rintro e1 w1 ⟨rfl, fq1, hO1, hS1⟩; have hS1 := (show Step (w.alloc (.cells #[.int .i64 n0, .slice A1 z1 y1] 167)) _ fp fp from by first | exact Step.refl _ _ | exact ⟨(Moved.refl _ _).drew, fun _ h => .inl h⟩ | exact ⟨(Moved.refl _ _).drewN _, fun _ h => .inl h⟩).trans hS1; have k0 := (HB0.out.step hS1).cell 0 (v := .int .i64 n0) rfl; have hB1 := HB0.out.step hS1; have hT1 := HS0.out.trans hS1; have c1 := hB1.cell 1 (v := .slice A1 z1 y1) rfl; have HB1 := Lib.hid hB1; have HO1 := Lib.hid (hO1.more (m' := m + 10) (by omega)); have HS1 := Lib.hid hT1; clear hB1 hO1 hS1 hT1))
  clear k0
  go_wp2_with fail
  refine (p_list_span b p fq1 _ (m + 10) 8 _ A1 z1 y1 r1 _ (by first | exact HO1.out | exact HO1.out.alloc _ | exact HO1.out.stays (fun _ _ => rfl)) (Holds.stays_in HW.out HS1.out I1.out) (by rfl) (by omega)).mono ?_
  clear c1
  rintro e2 w2 ⟨rfl, fq2, hO2, hS2⟩
  have hB2 := HB1.out.step hS2
  have hT2 := HS1.out.trans hS2
  have HB2 := Lib.hid hB2
  have HO2 := Lib.hid (hO2.more (m' := m + 180) (by omega))
  have HS2 := Lib.hid hT2
  clear hB2 hO2 hS2 hT2
  go_wp2
  go_end0
  exact ⟨rfl, fq2, by first | exact (HO2.out.more (by omega)) | (have h := HO2.out.more (m' := m + 180) (by omega); simpa only [wrs, nums, List.map_cons, List.map_nil] using h), HS2.out⟩
end Wi
end Go.Proofs.YtpghaffjfinpeaaGreat
