/-
  CONTRACT of (*wire.writer).offer. (wip/gen_wire.py wrote this.)
-/
import Derived.Test.YtpghaffjfinpeabWireWW
import Derived.Test.YtpghaffjfinpeabWireKinds
import Derived.Test.YtpghaffjfinpeabWireLspan
namespace Go.Proofs.Ytpghaffjfinpeab
namespace Wi
open Go.RowKit Pk Am
set_option maxRecDepth 100000 in
set_option maxHeartbeats 2000000 in
theorem p_offer (b p : Nat) (fp : List Nat) (x : Ws) (m : Nat) (vs : List Value) (ds : List Dat) (w : World) (hW : WW b w p fp x m) (hd : HoldsAll w b Koffer vs ds) (hm : m + 180 ≤ 35184370000000) :
    Calls Try.prog 43 #[.pointer (some ⟨p, 0, none⟩), .agg vs.toArray] w (Puts b p fp (wrs ds x) (m + 180) w) := by
  obtain ⟨n0, _, _, rfl, rfl, i0, hd0⟩ := hd.num
  obtain ⟨A1, z1, y1, r1, _, _, rfl, rfl, i1, hd1⟩ := hd0.list
  obtain ⟨rfl, rfl⟩ := hd1.nil
  have I0 := Lib.hid i0
  have I1 := Lib.hid i1
  clear i0 i1
  show Calls _ _ #[.pointer (some ⟨p, 0, none⟩), .agg #[.int .i64 n0, .slice A1 z1 y1]] w _
  have hB0 := Bx.new hW #[.int .i64 n0, .slice A1 z1 y1] 112
  have hO0 := hW.alloc (.cells #[.int .i64 n0, .slice A1 z1 y1] 112)
  have hS0 : Step w (w.alloc (.cells #[.int .i64 n0, .slice A1 z1 y1] 112)) fp fp := step_alloc _ _ _
  have hmf : ∀ (fn : Fn) (first cap : Array Value) (w : World), (Instr.makeFunc fn first cap).run Try.prog w = .ok (.func fn first cap) w := fun _ _ _ _ => rfl
  have c0 := hB0.cell 0 (v := .int .i64 n0) rfl
  have HW := Lib.hid hW
  have HB0 := Lib.hid hB0
  have HO0 := Lib.hid hO0
  have HS0 := Lib.hid hS0
  clear hW hB0 hO0 hS0
  go_enter Try.func43, Try.ntmps43
  go_wp2_with fail
  go_region_held3 (fun w' => w'.cell? ⟨w.heap.size, 0, none⟩ = some (.int .i64 n0)) (go_keep) ((go_at_call 14; refine (p_int b p fp _ m n0 _ (by first | exact HO0.out | exact HO0.out.alloc _ | exact HO0.out.stays (fun _ _ => rfl)) I0.out (by omega)).mono ?_; clear c0; rintro e1 w1 ⟨rfl, fq1, hO1, hS1⟩; have hS1 := (show Step (w.alloc (.cells #[.int .i64 n0, .slice A1 z1 y1] 112)) _ fp fp from by first | exact Step.refl _ _ | exact ⟨(Moved.refl _ _).drew, fun _ h => .inl h⟩ | exact ⟨(Moved.refl _ _).drewN _, fun _ h => .inl h⟩).trans hS1; have k0 := (HB0.out.step hS1).cell 0 (v := .int .i64 n0) rfl; have hB1 := HB0.out.step hS1; have hT1 := HS0.out.trans hS1; have c1 := hB1.cell 1 (v := .slice A1 z1 y1) rfl; have HB1 := Lib.hid hB1; have HO1 := Lib.hid (hO1.more (m' := m + 10) (by omega)); have HS1 := Lib.hid hT1; clear hB1 hO1 hS1 hT1))
  clear k0
  go_wp2_with fail
  refine (p_list_span b p fq1 _ (m + 10) 8 _ A1 z1 y1 r1 _ (by first | exact HO1.out | exact HO1.out.alloc _ | exact HO1.out.stays (fun _ _ => rfl)) (Holds.stays_in HW.out HS1.out I1.out) (by rfl) (by omega)).mono ?_
  clear c1
  rintro e2 w2 ⟨rfl, fq2, hO2, hS2⟩
  have hB2 := HB1.out.step hS2
  have hT2 := HS1.out.trans hS2
  have HB2 := Lib.hid hB2
  have HO2 := Lib.hid (hO2.more (m' := m + 180) (by omega))
  have HS2 := Lib.hid hT2
  clear hB2 hO2 hS2 hT2
  go_wp2
  go_end0
  exact ⟨rfl, fq2, by first | exact (HO2.out.more (by omega)) | (have h := HO2.out.more (m' := m + 180) (by omega); simpa only [wrs, nums, List.map_cons, List.map_nil] using h), HS2.out⟩
end Wi
end Go.Proofs.Ytpghaffjfinpeab
