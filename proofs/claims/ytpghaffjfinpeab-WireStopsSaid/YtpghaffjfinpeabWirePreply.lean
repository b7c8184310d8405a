/-
  CONTRACT of (*wire.writer).reply. (wip/gen_wire.py wrote this.)
-/
import Derived.Test.YtpghaffjfinpeabWireWW
import Derived.Test.YtpghaffjfinpeabWireKinds
import Derived.Test.YtpghaffjfinpeabWirePid
namespace Go.Proofs.Ytpghaffjfinpeab
namespace Wi
open Go.RowKit Pk Am
set_option maxRecDepth 100000 in
set_option maxHeartbeats 2000000 in
theorem p_reply (b p : Nat) (fp : List Nat) (x : Ws) (m : Nat) (vs : List Value) (ds : List Dat) (w : World) (hW : WW b w p fp x m) (hd : HoldsAll w b Kreply vs ds) (hm : m + 70 ≤ 35184370000000) :
    Calls Try.prog 35 #[.pointer (some ⟨p, 0, none⟩), .agg vs.toArray] w (Puts b p fp (wrs ds x) (m + 70) w) := by
  obtain ⟨n0, _, _, rfl, rfl, i0, hd0⟩ := hd.num
  obtain ⟨n1, _, _, rfl, rfl, i1, hd1⟩ := hd0.num
  obtain ⟨n2, _, _, rfl, rfl, i2, hd2⟩ := hd1.num
  obtain ⟨n3, _, _, rfl, rfl, i3, hd3⟩ := hd2.num
  obtain ⟨n4, _, _, rfl, rfl, i4, hd4⟩ := hd3.num
  obtain ⟨n5, _, _, rfl, rfl, i5, hd5⟩ := hd4.num
  obtain ⟨n6, _, _, rfl, rfl, i6, hd6⟩ := hd5.num
  obtain ⟨rfl, rfl⟩ := hd6.nil
  have I0 := Lib.hid i0
  have I1 := Lib.hid i1
  have I2 := Lib.hid i2
  have I3 := Lib.hid i3
  have I4 := Lib.hid i4
  have I5 := Lib.hid i5
  have I6 := Lib.hid i6
  clear i0 i1 i2 i3 i4 i5 i6
  show Calls _ _ #[.pointer (some ⟨p, 0, none⟩), .agg #[.int .i64 n0, .int .i64 n1, .int .i64 n2, .int .i64 n3, .int .i64 n4, .int .i64 n5, .int .i64 n6]] w _
  have hB0 := Bx.new hW #[.int .i64 n0, .int .i64 n1, .int .i64 n2, .int .i64 n3, .int .i64 n4, .int .i64 n5, .int .i64 n6] 64
  have hO0 := hW.alloc (.cells #[.int .i64 n0, .int .i64 n1, .int .i64 n2, .int .i64 n3, .int .i64 n4, .int .i64 n5, .int .i64 n6] 64)
  have hS0 : Step w (w.alloc (.cells #[.int .i64 n0, .int .i64 n1, .int .i64 n2, .int .i64 n3, .int .i64 n4, .int .i64 n5, .int .i64 n6] 64)) fp fp := step_alloc _ _ _
  have hmf : ∀ (fn : Fn) (first cap : Array Value) (w : World), (Instr.makeFunc fn first cap).run Try.prog w = .ok (.func fn first cap) w := fun _ _ _ _ => rfl
  have c0 := hB0.cell 0 (v := .int .i64 n0) rfl
  have HW := Lib.hid hW
  have HB0 := Lib.hid hB0
  have HO0 := Lib.hid hO0
  have HS0 := Lib.hid hS0
  clear hW hB0 hO0 hS0
  go_enter Try.func35, Try.ntmps35
  go_wp2_with fail
  go_region_held3 (fun w' => w'.cell? ⟨w.heap.size, 0, none⟩ = some (.int .i64 n0)) (go_keep) ((go_at_call 14; refine (p_int b p fp _ m n0 _ (by first | exact HO0.out | exact HO0.out.alloc _ | exact HO0.out.stays (fun _ _ => rfl)) I0.out (by omega)).mono ?_; clear c0; rintro e1 w1 ⟨rfl, fq1, hO1, hS1⟩; have hS1 := (show Step (w.alloc (.cells #[.int .i64 n0, .int .i64 n1, .int .i64 n2, .int .i64 n3, .int .i64 n4, .int .i64 n5, .int .i64 n6] 64)) _ fp fp from by first | exact Step.refl _ _ | exact ⟨(Moved.refl _ _).drew, fun _ h => .inl h⟩ | exact ⟨(Moved.refl _ _).drewN _, fun _ h => .inl h⟩).trans hS1; have k0 := (HB0.out.step hS1).cell 0 (v := .int .i64 n0) rfl; have hB1 := HB0.out.step hS1; have hT1 := HS0.out.trans hS1; have c1 := hB1.cell 1 (v := .int .i64 n1) rfl; have c2 := hB1.cell 2 (v := .int .i64 n2) rfl; have HB1 := Lib.hid hB1; have HO1 := Lib.hid (hO1.more (m' := m + 10) (by omega)); have HS1 := Lib.hid hT1; clear hB1 hO1 hS1 hT1))
  clear k0
  go_wp2_with fail
  refine (p_id b p fq1 _ (m + 10) _ _ _ (by exact HO1.out) (HoldsAll.stays_in HW.out HS1.out (hN I1.out (hN I2.out hZ))) (by omega)).mono ?_
  clear c1 c2
  rintro e2 w2 ⟨rfl, fq2, hO2, hS2⟩
  have hB2 := HB1.out.step hS2
  have hT2 := HS1.out.trans hS2
  have c3 := hB2.cell 3 (v := .int .i64 n3) rfl
  have c4 := hB2.cell 4 (v := .int .i64 n4) rfl
  have c5 := hB2.cell 5 (v := .int .i64 n5) rfl
  have c6 := hB2.cell 6 (v := .int .i64 n6) rfl
  have HB2 := Lib.hid hB2
  have HO2 := Lib.hid (hO2.more (m' := m + 30) (by omega))
  have HS2 := Lib.hid hT2
  clear hB2 hO2 hS2 hT2
  go_wp2_with fail
  have hg3 : w2.heap.size = w2.heap.size := rfl
  refine (p_ints b p fq2 _ (m + 30) _ 4 _ [n3, n4, n5, n6] _ (by exact HO2.out.alloc _) (nrow_lits hg3 [n3, n4, n5, n6] _ rfl) rfl (by intro z hz; simp only [List.mem_cons, List.not_mem_nil, or_false] at hz; rcases hz with rfl | rfl | rfl | rfl; exact I3.out; exact I4.out; exact I5.out; exact I6.out) (rowX_new hg3 HO2.out.obj.lt) (by omega) (by omega)).mono ?_
  clear c3 c4 c5 c6
  rintro e3 w3 ⟨rfl, fq3, hO3, hS3⟩
  have hS3 := (step_alloc _ _ _).trans hS3
  have hB3 := HB2.out.step hS3
  have hT3 := HS2.out.trans hS3
  have HB3 := Lib.hid hB3
  have HO3 := Lib.hid (hO3.more (m' := m + 70) (by omega))
  have HS3 := Lib.hid hT3
  clear hB3 hO3 hS3 hT3
  go_wp2
  go_end0
  exact ⟨rfl, fq3, by first | exact (HO3.out.more (by omega)) | (have h := HO3.out.more (m' := m + 70) (by omega); simpa only [wrs, nums, List.map_cons, List.map_nil] using h), HS3.out⟩
end Wi
end Go.Proofs.Ytpghaffjfinpeab
