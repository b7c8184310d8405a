/-
  4 texts in one: WireTextW, WirePframe, WireTframe, WirePmsg.
-/
import Derived.Test.YtpghaffjfinpeaaGreatKWireOnly42
import Derived.Test.YtpghaffjfinpeaaGreatKWireOnly06
import Derived.Test.YtpghaffjfinpeaaGreatKWireOnly04
import Derived.Test.YtpghaffjfinpeaaGreatKWireOnly30
import Derived.Test.YtpghaffjfinpeaaGreatKWireOnly31
import Derived.Test.YtpghaffjfinpeaaGreatKWireOnly32

/-
  CONTRACT of (*pack.Writer).Text for the Writer in a wire.writer, in WireWW's words.
-/
namespace Go.Proofs.YtpghaffjfinpeaaGreat
namespace Wi
open Go.RowKit Pk Am
theorem p_text (b p : Nat) (fp : List Nat) (x : Ws) (m : Nat) (A : Option Addr) (n c : Nat) (l : List Int) (w : World) (hW : WW b w p fp x m) (hH : Holds w b .text (.slice A n c) (.text l)) (hm : m ≤ 35184372088832) :
    Calls Tryz.prog 56 #[.pointer (some ⟨p, 0, none⟩), .slice A n c] w (Puts b p fp (wrD (.text l) x) (m + 131082) w) := by
  rw [Holds] at hH
  obtain ⟨A', n', c', l', e1, e2, h3, h4, h5, h6, h7⟩ := hH
  injection e1 with e1
  injection e2 with e2 e3 e4
  subst e1 e2 e3 e4
  exact (wtext_any p fp x.s m A n c l w hW.obj ⟨h3, h4, h5, fun k hk hf => by have := h6 k hk; have := hW.far k hf; omega⟩ h7 hm).mono fun _ _ h => Puts.of hW (by rw [wrD]; rfl) (by rw [wrD]; exact h)
end Wi
end Go.Proofs.YtpghaffjfinpeaaGreat

/-
  CONTRACT of (*wire.writer).frame. (wip/gen_wire.py wrote this.)
-/
namespace Go.Proofs.YtpghaffjfinpeaaGreat
namespace Wi
open Go.RowKit Pk Am
set_option maxRecDepth 100000 in
set_option maxHeartbeats 2000000 in
theorem p_frame (b p : Nat) (fp : List Nat) (x : Ws) (m : Nat) (vs : List Value) (ds : List Dat) (w : World) (hW : WW b w p fp x m) (hd : HoldsAll w b Kframe vs ds) (hm : m + 131142 ≤ 35184370000000) :
    Calls Tryz.prog 26 #[.pointer (some ⟨p, 0, none⟩), .agg vs.toArray] w (Puts b p fp (wrs ds x) (m + 131142) w) := by
  obtain ⟨n0, _, _, rfl, rfl, i0, hd0⟩ := hd.num
  obtain ⟨n1, _, _, rfl, rfl, i1, hd1⟩ := hd0.num
  obtain ⟨n2, _, _, rfl, rfl, i2, hd2⟩ := hd1.num
  obtain ⟨n3, _, _, rfl, rfl, i3, hd3⟩ := hd2.num
  obtain ⟨n4, _, _, rfl, rfl, i4, hd4⟩ := hd3.num
  obtain ⟨n5, _, _, rfl, rfl, i5, hd5⟩ := hd4.num
  obtain ⟨A6, z6, y6, r6, _, _, rfl, rfl, i6, hd6⟩ := hd5.text
  obtain ⟨rfl, rfl⟩ := hd6.nil
  have I0 := Lib.hid i0
  have I1 := Lib.hid i1
  have I2 := Lib.hid i2
  have I3 := Lib.hid i3
  have I4 := Lib.hid i4
  have I5 := Lib.hid i5
  have I6 := Lib.hid i6
  clear i0 i1 i2 i3 i4 i5 i6
  show Calls _ _ #[.pointer (some ⟨p, 0, none⟩), .agg #[.int .i64 n0, .int .i64 n1, .int .i64 n2, .int .i64 n3, .int .i64 n4, .int .i64 n5, .slice A6 z6 y6]] w _
  have hB0 := Bx.new hW #[.int .i64 n0, .int .i64 n1, .int .i64 n2, .int .i64 n3, .int .i64 n4, .int .i64 n5, .slice A6 z6 y6] 46
  have hO0 := hW.alloc (.cells #[.int .i64 n0, .int .i64 n1, .int .i64 n2, .int .i64 n3, .int .i64 n4, .int .i64 n5, .slice A6 z6 y6] 46)
  have hS0 : Step w (w.alloc (.cells #[.int .i64 n0, .int .i64 n1, .int .i64 n2, .int .i64 n3, .int .i64 n4, .int .i64 n5, .slice A6 z6 y6] 46)) fp fp := step_alloc _ _ _
  have hmf : ∀ (fn : Fn) (first cap : Array Value) (w : World), (Instr.makeFunc fn first cap).run Tryz.prog w = .ok (.func fn first cap) w := fun _ _ _ _ => rfl
  have c0 := hB0.cell 0 (v := .int .i64 n0) rfl
  have c1 := hB0.cell 1 (v := .int .i64 n1) rfl
  have c2 := hB0.cell 2 (v := .int .i64 n2) rfl
  have c3 := hB0.cell 3 (v := .int .i64 n3) rfl
  have c4 := hB0.cell 4 (v := .int .i64 n4) rfl
  have c5 := hB0.cell 5 (v := .int .i64 n5) rfl
  have HW := Lib.hid hW
  have HB0 := Lib.hid hB0
  have HO0 := Lib.hid hO0
  have HS0 := Lib.hid hS0
  clear hW hB0 hO0 hS0
  go_enter Tryz.func26, Tryz.ntmps26
  go_wp2_with fail
  have hg1 : (w.alloc (.cells #[.int .i64 n0, .int .i64 n1, .int .i64 n2, .int .i64 n3, .int .i64 n4, .int .i64 n5, .slice A6 z6 y6] 46)).heap.size = w.heap.size + 1 := by simp
  refine (p_ints b p fp _ m _ 6 _ [n0, n1, n2, n3, n4, n5] _ (by exact HO0.out.alloc _) (nrow_lits hg1 [n0, n1, n2, n3, n4, n5] _ rfl) rfl (by intro z hz; simp only [List.mem_cons, List.not_mem_nil, or_false] at hz; rcases hz with rfl | rfl | rfl | rfl | rfl | rfl; exact I0.out; exact I1.out; exact I2.out; exact I3.out; exact I4.out; exact I5.out) (rowX_new hg1 HO0.out.obj.lt) (by omega) (by omega)).mono ?_
  clear c0 c1 c2 c3 c4 c5
  rintro e1 w1 ⟨rfl, fq1, hO1, hS1⟩
  have hS1 := (step_alloc _ _ _).trans hS1
  have hB1 := HB0.out.step hS1
  have hT1 := HS0.out.trans hS1
  have c6 := hB1.cell 6 (v := .slice A6 z6 y6) rfl
  have HB1 := Lib.hid hB1
  have HO1 := Lib.hid (hO1.more (m' := m + 60) (by omega))
  have HS1 := Lib.hid hT1
  clear hB1 hO1 hS1 hT1
  go_wp2_with fail
  go_region_held3 (fun w' => w'.cell? ⟨w.heap.size, 6, none⟩ = some (.slice A6 z6 y6)) (go_keep) ((go_at_call 56; refine (p_text b p fq1 _ (m + 60) A6 z6 y6 r6 _ (by first | exact HO1.out | exact HO1.out.alloc _ | exact HO1.out.stays (fun _ _ => rfl)) (by exact Holds.alike (Holds.stays_in HW.out HS1.out I6.out) HO1.out.size rfl) (by omega)).mono ?_; clear c6; rintro e2 w2 ⟨rfl, fq2, hO2, hS2⟩; have hS2 := (show Step w1 _ fq1 fq1 from by first | exact Step.refl _ _ | exact ⟨(Moved.refl _ _).drew, fun _ h => .inl h⟩ | exact ⟨(Moved.refl _ _).drewN _, fun _ h => .inl h⟩).trans hS2; have k6 := (HB1.out.step hS2).cell 6 (v := .slice A6 z6 y6) rfl; have hB2 := HB1.out.step hS2; have hT2 := HS1.out.trans hS2; have HB2 := Lib.hid hB2; have HO2 := Lib.hid (hO2.more (m' := m + 131142) (by omega)); have HS2 := Lib.hid hT2; clear hB2 hO2 hS2 hT2))
  clear k6
  go_wp2
  go_end0
  exact ⟨rfl, fq2, by first | exact (HO2.out.more (by omega)) | (have h := HO2.out.more (m' := m + 131142) (by omega); simpa only [wrs, nums, List.map_cons, List.map_nil] using h), HS2.out⟩
end Wi
end Go.Proofs.YtpghaffjfinpeaaGreat

/-
  CONTRACT of wire.Frame. (wip/gen_wire.py wrote this.)
-/
namespace Go.Proofs.YtpghaffjfinpeaaGreat
namespace Wi
open Go.RowKit Pk Am
set_option maxRecDepth 100000 in
set_option maxHeartbeats 1000000 in
theorem top_frame (vs : List Value) (ds : List Dat) (w : World) (hd : HoldsAll w w.heap.size Kframe vs ds) :
    Calls Tryz.prog 10 #[.agg vs.toArray] w (Told (wrs ds ⟨.ok [], false⟩).out (wrs ds ⟨.ok [], false⟩).err w) := by
  have hlen : vs.length = 7 := hd.len.1
  have hsz : (w.alloc (.cells vs.toArray 46)).heap.size = w.heap.size + 1 := by simp
  have hO0 := WW.new w.heap.size (w.alloc (.cells vs.toArray 46)) (by omega)
  rw [hsz] at hO0
  have HO0 := Lib.hid hO0
  have hS0 : Step w ((w.alloc (.cells vs.toArray 46)).alloc (.cells #[.slice none 0 0, .int .i64 0, .pointer none, .bool false] 70)) [] [w.heap.size + 1] := ⟨((Moved.refl w []).alloc _).alloc _, fun k hk => .inr (by simp at hk; omega)⟩
  have HD := Lib.hid (HoldsAll.stays (Nat.le_refl _) (fun k hk => hS0.1.block k hk (by simp)) _ _ _ hd)
  have HS0 := Lib.hid hS0
  have HI := Lib.hid (show (Tryz.prog.info? 46).map (·.size) = some vs.length by rw [hlen]; kernel_rfl)
  have HR := Lib.hid (show ((w.alloc (.cells vs.toArray 46)).alloc (.cells #[.slice none 0 0, .int .i64 0, .pointer none, .bool false] 70)).rangeAt w.heap.size 0 vs from fun j v hv => by
    rw [World.cell?_alloc_lt _ _ _ (by simp)]; exact range_new _ _ _ j v hv)
  clear hlen hsz hO0 hS0 hd
  go_enter Tryz.func10, Tryz.ntmps10
  go_wp2_with (refine wpList_load_mid rfl 46 _ rfl w.heap.size 0 rfl vs _ HR.out Tryz.underlying46 rfl HI.out ?_)
  refine (p_frame w.heap.size (w.heap.size + 1) [w.heap.size + 1] _ 0 vs ds _ (by exact HO0.out) HD.out (by omega)).mono ?_
  rintro e1 w1 ⟨rfl, fq1, hO1, hS1⟩
  have HO1 := Lib.hid (hO1.more (m' := 131142) (by omega))
  have HS1 := Lib.hid hS1
  clear hO1 hS1
  go_wp2_with fail
  refine (all_any w.heap.size (w.heap.size + 1) fq1 _ 131142 _ (by exact HO1.out) (by omega)).mono ?_
  rintro e2 w2 hT
  obtain ⟨v, rfl, hown, hst⟩ := Told.of HS1.out HS0.out hT
  have HN := Lib.hid hown
  have HST := Lib.hid hst
  clear hown hst hT
  go_wp2
  go_ret2
  exact ⟨v, rfl, HN.out, HST.out⟩
end Wi
end Go.Proofs.YtpghaffjfinpeaaGreat

/-
  CONTRACT of (*wire.writer).msg. (wip/gen_wire.py wrote this.)
-/
namespace Go.Proofs.YtpghaffjfinpeaaGreat
namespace Wi
open Go.RowKit Pk Am
set_option maxRecDepth 100000 in
set_option maxHeartbeats 2000000 in
theorem p_msg (b p : Nat) (fp : List Nat) (x : Ws) (m : Nat) (vs : List Value) (ds : List Dat) (w : World) (hW : WW b w p fp x m) (hd : HoldsAll w b Kmsg vs ds) (hm : m + 430 ≤ 35184370000000) :
    Calls Tryz.prog 23 #[.pointer (some ⟨p, 0, none⟩), .agg vs.toArray] w (Puts b p fp (wrs ds x) (m + 430) w) := by
  obtain ⟨n0, _, _, rfl, rfl, i0, hd0⟩ := hd.num
  obtain ⟨n1, _, _, rfl, rfl, i1, hd1⟩ := hd0.num
  obtain ⟨n2, _, _, rfl, rfl, i2, hd2⟩ := hd1.num
  obtain ⟨n3, _, _, rfl, rfl, i3, hd3⟩ := hd2.num
  obtain ⟨n4, _, _, rfl, rfl, i4, hd4⟩ := hd3.num
  obtain ⟨n5, _, _, rfl, rfl, i5, hd5⟩ := hd4.num
  obtain ⟨q6, _, _, rfl, rfl, hd6⟩ := hd5.mark
  obtain ⟨n7, _, _, rfl, rfl, i7, hd7⟩ := hd6.num
  obtain ⟨n8, _, _, rfl, rfl, i8, hd8⟩ := hd7.num
  obtain ⟨n9, _, _, rfl, rfl, i9, hd9⟩ := hd8.num
  obtain ⟨u10, l10, _, _, rfl, rfl, i10, hd10⟩ := hd9.amt
  obtain ⟨n11, _, _, rfl, rfl, i11, hd11⟩ := hd10.num
  obtain ⟨n12, _, _, rfl, rfl, i12, hd12⟩ := hd11.num
  obtain ⟨n13, _, _, rfl, rfl, i13, hd13⟩ := hd12.num
  obtain ⟨n14, _, _, rfl, rfl, i14, hd14⟩ := hd13.num
  obtain ⟨A15, z15, y15, r15, _, _, rfl, rfl, i15, hd15⟩ := hd14.list
  obtain ⟨q16, _, _, rfl, rfl, hd16⟩ := hd15.mark
  obtain ⟨A17, z17, y17, r17, _, _, rfl, rfl, i17, hd17⟩ := hd16.list
  obtain ⟨rfl, rfl⟩ := hd17.nil
  have I0 := Lib.hid i0
  have I1 := Lib.hid i1
  have I2 := Lib.hid i2
  have I3 := Lib.hid i3
  have I4 := Lib.hid i4
  have I5 := Lib.hid i5
  have I7 := Lib.hid i7
  have I8 := Lib.hid i8
  have I9 := Lib.hid i9
  have I10 := Lib.hid i10
  have I11 := Lib.hid i11
  have I12 := Lib.hid i12
  have I13 := Lib.hid i13
  have I14 := Lib.hid i14
  have I15 := Lib.hid i15
  have I17 := Lib.hid i17
  clear i0 i1 i2 i3 i4 i5 i7 i8 i9 i10 i11 i12 i13 i14 i15 i17
  show Calls _ _ #[.pointer (some ⟨p, 0, none⟩), .agg #[.int .i64 n0, .int .i64 n1, .int .i64 n2, .int .i64 n3, .int .i64 n4, .int .i64 n5, .bool q6, .int .i64 n7, .int .i64 n8, .int .i64 n9, Am.amt u10 l10, .int .i64 n11, .int .i64 n12, .int .i64 n13, .int .i64 n14, .slice A15 z15 y15, .bool q16, .slice A17 z17 y17]] w _
  obtain ⟨a10, ha10⟩ : ∃ a, a = Am.amt u10 l10 := ⟨_, rfl⟩
  rw [← ha10]
  have HA10 := Lib.hid ha10
  clear ha10
  have hB0 := Bx.new hW #[.int .i64 n0, .int .i64 n1, .int .i64 n2, .int .i64 n3, .int .i64 n4, .int .i64 n5, .bool q6, .int .i64 n7, .int .i64 n8, .int .i64 n9, a10, .int .i64 n11, .int .i64 n12, .int .i64 n13, .int .i64 n14, .slice A15 z15 y15, .bool q16, .slice A17 z17 y17] 76
  have hO0 := hW.alloc (.cells #[.int .i64 n0, .int .i64 n1, .int .i64 n2, .int .i64 n3, .int .i64 n4, .int .i64 n5, .bool q6, .int .i64 n7, .int .i64 n8, .int .i64 n9, a10, .int .i64 n11, .int .i64 n12, .int .i64 n13, .int .i64 n14, .slice A15 z15 y15, .bool q16, .slice A17 z17 y17] 76)
  have hS0 : Step w (w.alloc (.cells #[.int .i64 n0, .int .i64 n1, .int .i64 n2, .int .i64 n3, .int .i64 n4, .int .i64 n5, .bool q6, .int .i64 n7, .int .i64 n8, .int .i64 n9, a10, .int .i64 n11, .int .i64 n12, .int .i64 n13, .int .i64 n14, .slice A15 z15 y15, .bool q16, .slice A17 z17 y17] 76)) fp fp := step_alloc _ _ _
  have hmf : ∀ (fn : Fn) (first cap : Array Value) (w : World), (Instr.makeFunc fn first cap).run Tryz.prog w = .ok (.func fn first cap) w := fun _ _ _ _ => rfl
  have c0 := hB0.cell 0 (v := .int .i64 n0) rfl
  have HW := Lib.hid hW
  have HB0 := Lib.hid hB0
  have HO0 := Lib.hid hO0
  have HS0 := Lib.hid hS0
  clear hW hB0 hO0 hS0
  go_enter Tryz.func23, Tryz.ntmps23
  go_wp2_with fail
  go_region_held3 (fun w' => w'.cell? ⟨w.heap.size, 0, none⟩ = some (.int .i64 n0)) (go_keep) ((go_at_call 42; refine (p_int b p fp _ m n0 _ (by first | exact HO0.out | exact HO0.out.alloc _ | exact HO0.out.stays (fun _ _ => rfl)) I0.out (by omega)).mono ?_; clear c0; rintro e1 w1 ⟨rfl, fq1, hO1, hS1⟩; have hS1 := (show Step (w.alloc (.cells #[.int .i64 n0, .int .i64 n1, .int .i64 n2, .int .i64 n3, .int .i64 n4, .int .i64 n5, .bool q6, .int .i64 n7, .int .i64 n8, .int .i64 n9, a10, .int .i64 n11, .int .i64 n12, .int .i64 n13, .int .i64 n14, .slice A15 z15 y15, .bool q16, .slice A17 z17 y17] 76)) _ fp fp from by first | exact Step.refl _ _ | exact ⟨(Moved.refl _ _).drew, fun _ h => .inl h⟩ | exact ⟨(Moved.refl _ _).drewN _, fun _ h => .inl h⟩).trans hS1; have k0 := (HB0.out.step hS1).cell 0 (v := .int .i64 n0) rfl; have hB1 := HB0.out.step hS1; have hT1 := HS0.out.trans hS1; have c1 := hB1.cell 1 (v := .int .i64 n1) rfl; have c2 := hB1.cell 2 (v := .int .i64 n2) rfl; have HB1 := Lib.hid hB1; have HO1 := Lib.hid (hO1.more (m' := m + 10) (by omega)); have HS1 := Lib.hid hT1; clear hB1 hO1 hS1 hT1))
  clear k0
  go_wp2_with fail
  refine (p_id b p fq1 _ (m + 10) _ _ _ (by exact HO1.out) (HoldsAll.stays_in HW.out HS1.out (hN I1.out (hN I2.out hZ))) (by omega)).mono ?_
  clear c1 c2
  rintro e2 w2 ⟨rfl, fq2, hO2, hS2⟩
  have hB2 := HB1.out.step hS2
  have hT2 := HS1.out.trans hS2
  have c3 := hB2.cell 3 (v := .int .i64 n3) rfl
  have c4 := hB2.cell 4 (v := .int .i64 n4) rfl
  have c5 := hB2.cell 5 (v := .int .i64 n5) rfl
  have HB2 := Lib.hid hB2
  have HO2 := Lib.hid (hO2.more (m' := m + 30) (by omega))
  have HS2 := Lib.hid hT2
  clear hB2 hO2 hS2 hT2
  go_wp2_with fail
  have hg3 : w2.heap.size = w2.heap.size := rfl
  refine (p_ints b p fq2 _ (m + 30) _ 3 _ [n3, n4, n5] _ (by exact HO2.out.alloc _) (nrow_lits hg3 [n3, n4, n5] _ rfl) rfl (by intro z hz; simp only [List.mem_cons, List.not_mem_nil, or_false] at hz; rcases hz with rfl | rfl | rfl; exact I3.out; exact I4.out; exact I5.out) (rowX_new hg3 HO2.out.obj.lt) (by omega) (by omega)).mono ?_
  clear c3 c4 c5
  rintro e3 w3 ⟨rfl, fq3, hO3, hS3⟩
  have hS3 := (step_alloc _ _ _).trans hS3
  have hB3 := HB2.out.step hS3
  have hT3 := HS2.out.trans hS3
  have c6 := hB3.cell 6 (v := .bool q6) rfl
  have HB3 := Lib.hid hB3
  have HO3 := Lib.hid (hO3.more (m' := m + 60) (by omega))
  have HS3 := Lib.hid hT3
  clear hB3 hO3 hS3 hT3
  go_wp2_with fail
  go_region_held3 (fun w' => w'.cell? ⟨w.heap.size, 6, none⟩ = some (.bool q6)) (go_keep) ((go_at_call 45; refine (p_mark b p fq3 _ (m + 60) q6 _ (by first | exact HO3.out | exact HO3.out.alloc _ | exact HO3.out.stays (fun _ _ => rfl)) (by omega)).mono ?_; clear c6; rintro e4 w4 ⟨rfl, fq4, hO4, hS4⟩; have hS4 := (show Step w3 _ fq3 fq3 from by first | exact Step.refl _ _ | exact ⟨(Moved.refl _ _).drew, fun _ h => .inl h⟩ | exact ⟨(Moved.refl _ _).drewN _, fun _ h => .inl h⟩).trans hS4; have k6 := (HB3.out.step hS4).cell 6 (v := .bool q6) rfl; have hB4 := HB3.out.step hS4; have hT4 := HS3.out.trans hS4; have c7 := hB4.cell 7 (v := .int .i64 n7) rfl; have c8 := hB4.cell 8 (v := .int .i64 n8) rfl; have c9 := hB4.cell 9 (v := .int .i64 n9) rfl; have c10 := hB4.cell 10 (v := a10) rfl; have c11 := hB4.cell 11 (v := .int .i64 n11) rfl; have c12 := hB4.cell 12 (v := .int .i64 n12) rfl; have c13 := hB4.cell 13 (v := .int .i64 n13) rfl; have c14 := hB4.cell 14 (v := .int .i64 n14) rfl; have c15 := hB4.cell 15 (v := .slice A15 z15 y15) rfl; have c16 := hB4.cell 16 (v := .bool q16) rfl; have HB4 := Lib.hid hB4; have HO4 := Lib.hid (hO4.more (m' := m + 70) (by omega)); have HS4 := Lib.hid hT4; clear hB4 hO4 hS4 hT4))
  clear k6
  go_wp2_with fail
  refine (p_job b p fq4 _ (m + 70) _ _ _ (by exact HO4.out) (HoldsAll.stays_in HW.out HS4.out (hN I7.out (hN I8.out (hN I9.out (hAv HA10.out I10.out (hN I11.out (hN I12.out (hN I13.out (hN I14.out (hL I15.out (hM hZ))))))))))) (by omega)).mono ?_
  clear c7 c8 c9 c10 c11 c12 c13 c14 c15 c16
  rintro e5 w5 ⟨rfl, fq5, hO5, hS5⟩
  have hB5 := HB4.out.step hS5
  have hT5 := HS4.out.trans hS5
  have c17 := hB5.cell 17 (v := .slice A17 z17 y17) rfl
  have HB5 := Lib.hid hB5
  have HO5 := Lib.hid (hO5.more (m' := m + 260) (by omega))
  have HS5 := Lib.hid hT5
  clear hB5 hO5 hS5 hT5
  go_wp2_with fail
  refine (p_list_span b p fq5 _ (m + 260) 8 _ A17 z17 y17 r17 _ (by first | exact HO5.out | exact HO5.out.alloc _ | exact HO5.out.stays (fun _ _ => rfl)) (Holds.stays_in HW.out HS5.out I17.out) (by rfl) (by omega)).mono ?_
  clear c17
  rintro e6 w6 ⟨rfl, fq6, hO6, hS6⟩
  have hB6 := HB5.out.step hS6
  have hT6 := HS5.out.trans hS6
  have HB6 := Lib.hid hB6
  have HO6 := Lib.hid (hO6.more (m' := m + 430) (by omega))
  have HS6 := Lib.hid hT6
  clear hB6 hO6 hS6 hT6
  go_wp2
  go_end0
  exact ⟨rfl, fq6, by first | exact (HO6.out.more (by omega)) | (have h := HO6.out.more (m' := m + 430) (by omega); simpa only [wrs, nums, List.map_cons, List.map_nil] using h), HS6.out⟩
end Wi
end Go.Proofs.YtpghaffjfinpeaaGreat
