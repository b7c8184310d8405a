/-
  CONTRACT of (*wire.writer).use. (wip/gen_wire.py wrote this.)
-/
import Derived.Test.YtpghaffjfinpeabWireWW
import Derived.Test.YtpghaffjfinpeabWireKinds
namespace Go.Proofs.Ytpghaffjfinpeab
namespace Wi
open Go.RowKit Pk Am
set_option maxRecDepth 100000 in
set_option maxHeartbeats 2000000 in
theorem p_use (b p : Nat) (fp : List Nat) (x : Ws) (m : Nat) (vs : List Value) (ds : List Dat) (w : World) (hW : WW b w p fp x m) (hd : HoldsAll w b Kuse vs ds) (hm : m + 30 ≤ 35184370000000) :
    Calls Try.prog 34 #[.pointer (some ⟨p, 0, none⟩), .agg vs.toArray] w (Puts b p fp (wrs ds x) (m + 30) w) := by
  obtain ⟨n0, _, _, rfl, rfl, i0, hd0⟩ := hd.num
  obtain ⟨n1, _, _, rfl, rfl, i1, hd1⟩ := hd0.num
  obtain ⟨n2, _, _, rfl, rfl, i2, hd2⟩ := hd1.num
  obtain ⟨rfl, rfl⟩ := hd2.nil
  have I0 := Lib.hid i0
  have I1 := Lib.hid i1
  have I2 := Lib.hid i2
  clear i0 i1 i2
  show Calls _ _ #[.pointer (some ⟨p, 0, none⟩), .agg #[.int .i64 n0, .int .i64 n1, .int .i64 n2]] w _
  have hB0 := Bx.new hW #[.int .i64 n0, .int .i64 n1, .int .i64 n2] 98
  have hO0 := hW.alloc (.cells #[.int .i64 n0, .int .i64 n1, .int .i64 n2] 98)
  have hS0 : Step w (w.alloc (.cells #[.int .i64 n0, .int .i64 n1, .int .i64 n2] 98)) fp fp := step_alloc _ _ _
  have hmf : ∀ (fn : Fn) (first cap : Array Value) (w : World), (Instr.makeFunc fn first cap).run Try.prog w = .ok (.func fn first cap) w := fun _ _ _ _ => rfl
  have c0 := hB0.cell 0 (v := .int .i64 n0) rfl
  have c1 := hB0.cell 1 (v := .int .i64 n1) rfl
  have c2 := hB0.cell 2 (v := .int .i64 n2) rfl
  have HW := Lib.hid hW
  have HB0 := Lib.hid hB0
  have HO0 := Lib.hid hO0
  have HS0 := Lib.hid hS0
  clear hW hB0 hO0 hS0
  go_enter Try.func34, Try.ntmps34
  go_wp2_with fail
  have hg1 : (w.alloc (.cells #[.int .i64 n0, .int .i64 n1, .int .i64 n2] 98)).heap.size = w.heap.size + 1 := by simp
  refine (p_ints b p fp _ m _ 3 _ [n0, n1, n2] _ (by exact HO0.out.alloc _) (nrow_lits hg1 [n0, n1, n2] _ rfl) rfl (by intro z hz; simp only [List.mem_cons, List.not_mem_nil, or_false] at hz; rcases hz with rfl | rfl | rfl; exact I0.out; exact I1.out; exact I2.out) (rowX_new hg1 HO0.out.obj.lt) (by omega) (by omega)).mono ?_
  clear c0 c1 c2
  rintro e1 w1 ⟨rfl, fq1, hO1, hS1⟩
  have hS1 := (step_alloc _ _ _).trans hS1
  have hB1 := HB0.out.step hS1
  have hT1 := HS0.out.trans hS1
  have HB1 := Lib.hid hB1
  have HO1 := Lib.hid (hO1.more (m' := m + 30) (by omega))
  have HS1 := Lib.hid hT1
  clear hB1 hO1 hS1 hT1
  go_wp2
  go_end0
  exact ⟨rfl, fq1, by first | exact (HO1.out.more (by omega)) | (have h := HO1.out.more (m' := m + 30) (by omega); simpa only [wrs, nums, List.map_cons, List.map_nil] using h), HS1.out⟩
end Wi
end Go.Proofs.Ytpghaffjfinpeab
