/-
  CONTRACT of (*wire.writer).busy. (wip/gen_wire.py wrote this.)
-/
import Derived.Test.YtpghaffjfinpeabWireWW
import Derived.Test.YtpghaffjfinpeabWireKinds
namespace Go.Proofs.Ytpghaffjfinpeab
namespace Wi
open Go.RowKit Pk Am
set_option maxRecDepth 100000 in
set_option maxHeartbeats 2000000 in
theorem p_busy (b p : Nat) (fp : List Nat) (x : Ws) (m : Nat) (vs : List Value) (ds : List Dat) (w : World) (hW : WW b w p fp x m) (hd : HoldsAll w b Kbusy vs ds) (hm : m + 40 ≤ 35184370000000) :
    Calls Try.prog 19 #[.pointer (some ⟨p, 0, none⟩), .agg vs.toArray] w (Puts b p fp (wrs ds x) (m + 40) w) := by
  obtain ⟨n0, _, _, rfl, rfl, i0, hd0⟩ := hd.num
  obtain ⟨n1, _, _, rfl, rfl, i1, hd1⟩ := hd0.num
  obtain ⟨u2, l2, _, _, rfl, rfl, i2, hd2⟩ := hd1.amt
  obtain ⟨rfl, rfl⟩ := hd2.nil
  have I0 := Lib.hid i0
  have I1 := Lib.hid i1
  have I2 := Lib.hid i2
  clear i0 i1 i2
  show Calls _ _ #[.pointer (some ⟨p, 0, none⟩), .agg #[.int .i64 n0, .int .i64 n1, Am.amt u2 l2]] w _
  obtain ⟨a2, ha2⟩ : ∃ a, a = Am.amt u2 l2 := ⟨_, rfl⟩
  rw [← ha2]
  have HA2 := Lib.hid ha2
  clear ha2
  have hB0 := Bx.new hW #[.int .i64 n0, .int .i64 n1, a2] 30
  have hO0 := hW.alloc (.cells #[.int .i64 n0, .int .i64 n1, a2] 30)
  have hS0 : Step w (w.alloc (.cells #[.int .i64 n0, .int .i64 n1, a2] 30)) fp fp := step_alloc _ _ _
  have hmf : ∀ (fn : Fn) (first cap : Array Value) (w : World), (Instr.makeFunc fn first cap).run Try.prog w = .ok (.func fn first cap) w := fun _ _ _ _ => rfl
  have c0 := hB0.cell 0 (v := .int .i64 n0) rfl
  have c1 := hB0.cell 1 (v := .int .i64 n1) rfl
  have HW := Lib.hid hW
  have HB0 := Lib.hid hB0
  have HO0 := Lib.hid hO0
  have HS0 := Lib.hid hS0
  clear hW hB0 hO0 hS0
  go_enter Try.func19, Try.ntmps19
  go_wp2_with fail
  have hg1 : (w.alloc (.cells #[.int .i64 n0, .int .i64 n1, a2] 30)).heap.size = w.heap.size + 1 := by simp
  refine (p_ints b p fp _ m _ 2 _ [n0, n1] _ (by exact HO0.out.alloc _) (nrow_lits hg1 [n0, n1] _ rfl) rfl (by intro z hz; simp only [List.mem_cons, List.not_mem_nil, or_false] at hz; rcases hz with rfl | rfl; exact I0.out; exact I1.out) (rowX_new hg1 HO0.out.obj.lt) (by omega) (by omega)).mono ?_
  clear c0 c1
  rintro e1 w1 ⟨rfl, fq1, hO1, hS1⟩
  have hS1 := (step_alloc _ _ _).trans hS1
  have hB1 := HB0.out.step hS1
  have hT1 := HS0.out.trans hS1
  have c2 := hB1.cell 2 (v := a2) rfl
  have HB1 := Lib.hid hB1
  have HO1 := Lib.hid (hO1.more (m' := m + 20) (by omega))
  have HS1 := Lib.hid hT1
  clear hB1 hO1 hS1 hT1
  go_wp2_with fail
  go_region_held3 (fun w' => w'.cell? ⟨w.heap.size, 2, none⟩ = some (a2)) (go_keep) ((go_at_call 26; refine (p_amountv b p fq1 _ (m + 20) u2 l2 _ _ HA2.out (by first | exact HO1.out | exact HO1.out.alloc _ | exact HO1.out.stays (fun _ _ => rfl)) I2.out.1 I2.out.2 (by omega)).mono ?_; clear c2; rintro e2 w2 ⟨rfl, fq2, hO2, hS2⟩; have hS2 := (show Step w1 _ fq1 fq1 from by first | exact Step.refl _ _ | exact ⟨(Moved.refl _ _).drew, fun _ h => .inl h⟩ | exact ⟨(Moved.refl _ _).drewN _, fun _ h => .inl h⟩).trans hS2; have k2 := (HB1.out.step hS2).cell 2 (v := a2) rfl; have hB2 := HB1.out.step hS2; have hT2 := HS1.out.trans hS2; have HB2 := Lib.hid hB2; have HO2 := Lib.hid (hO2.more (m' := m + 40) (by omega)); have HS2 := Lib.hid hT2; clear hB2 hO2 hS2 hT2))
  clear k2
  go_wp2
  go_end0
  exact ⟨rfl, fq2, by first | exact (HO2.out.more (by omega)) | (have h := HO2.out.more (m' := m + 40) (by omega); simpa only [wrs, nums, List.map_cons, List.map_nil] using h), HS2.out⟩
end Wi
end Go.Proofs.Ytpghaffjfinpeab
