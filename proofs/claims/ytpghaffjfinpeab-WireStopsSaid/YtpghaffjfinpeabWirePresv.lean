/-
  CONTRACT of (*wire.writer).resv. (wip/gen_wire.py wrote this.)
-/
import Derived.Test.YtpghaffjfinpeabWireWW
import Derived.Test.YtpghaffjfinpeabWireKinds
import Derived.Test.YtpghaffjfinpeabWirePid
import Derived.Test.YtpghaffjfinpeabWirePbusy
namespace Go.Proofs.Ytpghaffjfinpeab
namespace Wi
open Go.RowKit Pk Am
set_option maxRecDepth 100000 in
set_option maxHeartbeats 2000000 in
theorem p_resv (b p : Nat) (fp : List Nat) (x : Ws) (m : Nat) (vs : List Value) (ds : List Dat) (w : World) (hW : WW b w p fp x m) (hd : HoldsAll w b Kresv vs ds) (hm : m + 90 ≤ 35184370000000) :
    Calls Try.prog 32 #[.pointer (some ⟨p, 0, none⟩), .agg vs.toArray] w (Puts b p fp (wrs ds x) (m + 90) w) := by
  obtain ⟨n0, _, _, rfl, rfl, i0, hd0⟩ := hd.num
  obtain ⟨n1, _, _, rfl, rfl, i1, hd1⟩ := hd0.num
  obtain ⟨n2, _, _, rfl, rfl, i2, hd2⟩ := hd1.num
  obtain ⟨n3, _, _, rfl, rfl, i3, hd3⟩ := hd2.num
  obtain ⟨n4, _, _, rfl, rfl, i4, hd4⟩ := hd3.num
  obtain ⟨u5, l5, _, _, rfl, rfl, i5, hd5⟩ := hd4.amt
  obtain ⟨q6, _, _, rfl, rfl, hd6⟩ := hd5.mark
  obtain ⟨n7, _, _, rfl, rfl, i7, hd7⟩ := hd6.num
  obtain ⟨rfl, rfl⟩ := hd7.nil
  have I0 := Lib.hid i0
  have I1 := Lib.hid i1
  have I2 := Lib.hid i2
  have I3 := Lib.hid i3
  have I4 := Lib.hid i4
  have I5 := Lib.hid i5
  have I7 := Lib.hid i7
  clear i0 i1 i2 i3 i4 i5 i7
  show Calls _ _ #[.pointer (some ⟨p, 0, none⟩), .agg #[.int .i64 n0, .int .i64 n1, .int .i64 n2, .int .i64 n3, .int .i64 n4, Am.amt u5 l5, .bool q6, .int .i64 n7]] w _
  obtain ⟨a5, ha5⟩ : ∃ a, a = Am.amt u5 l5 := ⟨_, rfl⟩
  rw [← ha5]
  have HA5 := Lib.hid ha5
  clear ha5
  have hB0 := Bx.new hW #[.int .i64 n0, .int .i64 n1, .int .i64 n2, .int .i64 n3, .int .i64 n4, a5, .bool q6, .int .i64 n7] 94
  have hO0 := hW.alloc (.cells #[.int .i64 n0, .int .i64 n1, .int .i64 n2, .int .i64 n3, .int .i64 n4, a5, .bool q6, .int .i64 n7] 94)
  have hS0 : Step w (w.alloc (.cells #[.int .i64 n0, .int .i64 n1, .int .i64 n2, .int .i64 n3, .int .i64 n4, a5, .bool q6, .int .i64 n7] 94)) fp fp := step_alloc _ _ _
  have hmf : ∀ (fn : Fn) (first cap : Array Value) (w : World), (Instr.makeFunc fn first cap).run Try.prog w = .ok (.func fn first cap) w := fun _ _ _ _ => rfl
  have c0 := hB0.cell 0 (v := .int .i64 n0) rfl
  have c1 := hB0.cell 1 (v := .int .i64 n1) rfl
  have HW := Lib.hid hW
  have HB0 := Lib.hid hB0
  have HO0 := Lib.hid hO0
  have HS0 := Lib.hid hS0
  clear hW hB0 hO0 hS0
  go_enter Try.func32, Try.ntmps32
  go_wp2_with fail
  refine (p_id b p fp _ m _ _ _ (by exact HO0.out) (HoldsAll.stays_in HW.out HS0.out (hN I0.out (hN I1.out hZ))) (by omega)).mono ?_
  clear c0 c1
  rintro e1 w1 ⟨rfl, fq1, hO1, hS1⟩
  have hB1 := HB0.out.step hS1
  have hT1 := HS0.out.trans hS1
  have c2 := hB1.cell 2 (v := .int .i64 n2) rfl
  have HB1 := Lib.hid hB1
  have HO1 := Lib.hid (hO1.more (m' := m + 20) (by omega))
  have HS1 := Lib.hid hT1
  clear hB1 hO1 hS1 hT1
  go_wp2_with fail
  go_region_held3 (fun w' => w'.cell? ⟨w.heap.size, 2, none⟩ = some (.int .i64 n2)) (go_keep) ((go_at_call 14; refine (p_int b p fq1 _ (m + 20) n2 _ (by first | exact HO1.out | exact HO1.out.alloc _ | exact HO1.out.stays (fun _ _ => rfl)) I2.out (by omega)).mono ?_; clear c2; rintro e2 w2 ⟨rfl, fq2, hO2, hS2⟩; have hS2 := (show Step w1 _ fq1 fq1 from by first | exact Step.refl _ _ | exact ⟨(Moved.refl _ _).drew, fun _ h => .inl h⟩ | exact ⟨(Moved.refl _ _).drewN _, fun _ h => .inl h⟩).trans hS2; have k2 := (HB1.out.step hS2).cell 2 (v := .int .i64 n2) rfl; have hB2 := HB1.out.step hS2; have hT2 := HS1.out.trans hS2; have c3 := hB2.cell 3 (v := .int .i64 n3) rfl; have c4 := hB2.cell 4 (v := .int .i64 n4) rfl; have c5 := hB2.cell 5 (v := a5) rfl; have HB2 := Lib.hid hB2; have HO2 := Lib.hid (hO2.more (m' := m + 30) (by omega)); have HS2 := Lib.hid hT2; clear hB2 hO2 hS2 hT2))
  clear k2
  go_wp2_with fail
  refine (p_busy b p fq2 _ (m + 30) _ _ _ (by exact HO2.out) (HoldsAll.stays_in HW.out HS2.out (hN I3.out (hN I4.out (hAv HA5.out I5.out hZ)))) (by omega)).mono ?_
  clear c3 c4 c5
  rintro e3 w3 ⟨rfl, fq3, hO3, hS3⟩
  have hB3 := HB2.out.step hS3
  have hT3 := HS2.out.trans hS3
  have c6 := hB3.cell 6 (v := .bool q6) rfl
  have HB3 := Lib.hid hB3
  have HO3 := Lib.hid (hO3.more (m' := m + 70) (by omega))
  have HS3 := Lib.hid hT3
  clear hB3 hO3 hS3 hT3
  go_wp2_with fail
  go_region_held3 (fun w' => w'.cell? ⟨w.heap.size, 6, none⟩ = some (.bool q6)) (go_keep) ((go_at_call 17; refine (p_mark b p fq3 _ (m + 70) q6 _ (by first | exact HO3.out | exact HO3.out.alloc _ | exact HO3.out.stays (fun _ _ => rfl)) (by omega)).mono ?_; clear c6; rintro e4 w4 ⟨rfl, fq4, hO4, hS4⟩; have hS4 := (show Step w3 _ fq3 fq3 from by first | exact Step.refl _ _ | exact ⟨(Moved.refl _ _).drew, fun _ h => .inl h⟩ | exact ⟨(Moved.refl _ _).drewN _, fun _ h => .inl h⟩).trans hS4; have k6 := (HB3.out.step hS4).cell 6 (v := .bool q6) rfl; have hB4 := HB3.out.step hS4; have hT4 := HS3.out.trans hS4; have c7 := hB4.cell 7 (v := .int .i64 n7) rfl; have HB4 := Lib.hid hB4; have HO4 := Lib.hid (hO4.more (m' := m + 80) (by omega)); have HS4 := Lib.hid hT4; clear hB4 hO4 hS4 hT4))
  clear k6
  go_wp2_with fail
  go_region_held3 (fun w' => w'.cell? ⟨w.heap.size, 7, none⟩ = some (.int .i64 n7)) (go_keep) ((go_at_call 14; refine (p_int b p fq4 _ (m + 80) n7 _ (by first | exact HO4.out | exact HO4.out.alloc _ | exact HO4.out.stays (fun _ _ => rfl)) I7.out (by omega)).mono ?_; clear c7; rintro e5 w5 ⟨rfl, fq5, hO5, hS5⟩; have hS5 := (show Step w4 _ fq4 fq4 from by first | exact Step.refl _ _ | exact ⟨(Moved.refl _ _).drew, fun _ h => .inl h⟩ | exact ⟨(Moved.refl _ _).drewN _, fun _ h => .inl h⟩).trans hS5; have k7 := (HB4.out.step hS5).cell 7 (v := .int .i64 n7) rfl; have hB5 := HB4.out.step hS5; have hT5 := HS4.out.trans hS5; have HB5 := Lib.hid hB5; have HO5 := Lib.hid (hO5.more (m' := m + 90) (by omega)); have HS5 := Lib.hid hT5; clear hB5 hO5 hS5 hT5))
  clear k7
  go_wp2
  go_end0
  exact ⟨rfl, fq5, by first | exact (HO5.out.more (by omega)) | (have h := HO5.out.more (m' := m + 90) (by omega); simpa only [wrs, nums, List.map_cons, List.map_nil] using h), HS5.out⟩
end Wi
end Go.Proofs.Ytpghaffjfinpeab
