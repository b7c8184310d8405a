/-
  CONTRACT of (*wire.writer).slot. (wip/gen_wire.py wrote this.)
-/
import Derived.Test.YtpghaffjfinpeabWireWW
import Derived.Test.YtpghaffjfinpeabWireKinds
import Derived.Test.YtpghaffjfinpeabWirePid
namespace Go.Proofs.Ytpghaffjfinpeab
namespace Wi
open Go.RowKit Pk Am
set_option maxRecDepth 100000 in
set_option maxHeartbeats 2000000 in
theorem p_slot (b p : Nat) (fp : List Nat) (x : Ws) (m : Nat) (vs : List Value) (ds : List Dat) (w : World) (hW : WW b w p fp x m) (hd : HoldsAll w b Kslot vs ds) (hm : m + 30 ≤ 35184370000000) :
    Calls Try.prog 23 #[.pointer (some ⟨p, 0, none⟩), .agg vs.toArray] w (Puts b p fp (wrs ds x) (m + 30) w) := by
  obtain ⟨n0, _, _, rfl, rfl, i0, hd0⟩ := hd.num
  obtain ⟨n1, _, _, rfl, rfl, i1, hd1⟩ := hd0.num
  obtain ⟨n2, _, _, rfl, rfl, i2, hd2⟩ := hd1.num
  obtain ⟨rfl, rfl⟩ := hd2.nil
  have I0 := Lib.hid i0
  have I1 := Lib.hid i1
  have I2 := Lib.hid i2
  clear i0 i1 i2
  show Calls _ _ #[.pointer (some ⟨p, 0, none⟩), .agg #[.int .i64 n0, .int .i64 n1, .int .i64 n2]] w _
  have hB0 := Bx.new hW #[.int .i64 n0, .int .i64 n1, .int .i64 n2] 77
  have hO0 := hW.alloc (.cells #[.int .i64 n0, .int .i64 n1, .int .i64 n2] 77)
  have hS0 : Step w (w.alloc (.cells #[.int .i64 n0, .int .i64 n1, .int .i64 n2] 77)) fp fp := step_alloc _ _ _
  have hmf : ∀ (fn : Fn) (first cap : Array Value) (w : World), (Instr.makeFunc fn first cap).run Try.prog w = .ok (.func fn first cap) w := fun _ _ _ _ => rfl
  have c0 := hB0.cell 0 (v := .int .i64 n0) rfl
  have c1 := hB0.cell 1 (v := .int .i64 n1) rfl
  have HW := Lib.hid hW
  have HB0 := Lib.hid hB0
  have HO0 := Lib.hid hO0
  have HS0 := Lib.hid hS0
  clear hW hB0 hO0 hS0
  go_enter Try.func23, Try.ntmps23
  go_wp2_with fail
  refine (p_id b p fp _ m _ _ _ (by exact HO0.out) (HoldsAll.stays_in HW.out HS0.out (hN I0.out (hN I1.out hZ))) (by omega)).mono ?_
  clear c0 c1
  rintro e1 w1 ⟨rfl, fq1, hO1, hS1⟩
  have hB1 := HB0.out.step hS1
  have hT1 := HS0.out.trans hS1
  have c2 := hB1.cell 2 (v := .int .i64 n2) rfl
  have HB1 := Lib.hid hB1
  have HO1 := Lib.hid (hO1.more (m' := m + 20) (by omega))
  have HS1 := Lib.hid hT1
  clear hB1 hO1 hS1 hT1
  go_wp2_with fail
  go_region_held3 (fun w' => w'.cell? ⟨w.heap.size, 2, none⟩ = some (.int .i64 n2)) (go_keep) ((go_at_call 14; refine (p_int b p fq1 _ (m + 20) n2 _ (by first | exact HO1.out | exact HO1.out.alloc _ | exact HO1.out.stays (fun _ _ => rfl)) I2.out (by omega)).mono ?_; clear c2; rintro e2 w2 ⟨rfl, fq2, hO2, hS2⟩; have hS2 := (show Step w1 _ fq1 fq1 from by first | exact Step.refl _ _ | exact ⟨(Moved.refl _ _).drew, fun _ h => .inl h⟩ | exact ⟨(Moved.refl _ _).drewN _, fun _ h => .inl h⟩).trans hS2; have k2 := (HB1.out.step hS2).cell 2 (v := .int .i64 n2) rfl; have hB2 := HB1.out.step hS2; have hT2 := HS1.out.trans hS2; have HB2 := Lib.hid hB2; have HO2 := Lib.hid (hO2.more (m' := m + 30) (by omega)); have HS2 := Lib.hid hT2; clear hB2 hO2 hS2 hT2))
  clear k2
  go_wp2
  go_end0
  exact ⟨rfl, fq2, by first | exact (HO2.out.more (by omega)) | (have h := HO2.out.more (m' := m + 30) (by omega); simpa only [wrs, nums, List.map_cons, List.map_nil] using h), HS2.out⟩
end Wi
end Go.Proofs.Ytpghaffjfinpeab
