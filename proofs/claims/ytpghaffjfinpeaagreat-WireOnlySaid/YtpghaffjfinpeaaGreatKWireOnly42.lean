/-
  3 texts in one: WirePstate, WireTstate, WireText.
-/
import Derived.Test.YtpghaffjfinpeaaGreatKWireOnly06
import Derived.Test.YtpghaffjfinpeaaGreatKWireOnly04
import Derived.Test.YtpghaffjfinpeaaGreatKWireOnly38
import Derived.Test.YtpghaffjfinpeaaGreatKWireOnly39
import Derived.Test.YtpghaffjfinpeaaGreatKWireOnly40
import Derived.Test.YtpghaffjfinpeaaGreatKWireOnly33
import Derived.Test.YtpghaffjfinpeaaGreatKWireOnly41
import Derived.Laws.DeepNot64

/-
  CONTRACT of (*wire.writer).state. (wip/gen_wire.py wrote this.)
-/
namespace Go.Proofs.YtpghaffjfinpeaaGreat
namespace Wi
open Go.RowKit Pk Am
set_option maxRecDepth 100000 in
set_option maxHeartbeats 2000000 in
theorem p_state (b p : Nat) (fp : List Nat) (x : Ws) (m : Nat) (vs : List Value) (ds : List Dat) (w : World) (hW : WW b w p fp x m) (hd : HoldsAll w b Kstate vs ds) (hm : m + 2529410 ≤ 35184370000000) :
    Calls Tryz.prog 29 #[.pointer (some ⟨p, 0, none⟩), .agg vs.toArray] w (Puts b p fp (wrs ds x) (m + 2529410) w) := by
  obtain ⟨n0, _, _, rfl, rfl, i0, hd0⟩ := hd.num
  obtain ⟨u1, l1, _, _, rfl, rfl, i1, hd1⟩ := hd0.amt
  obtain ⟨n2, _, _, rfl, rfl, i2, hd2⟩ := hd1.num
  obtain ⟨q3, _, _, rfl, rfl, hd3⟩ := hd2.mark
  obtain ⟨n4, _, _, rfl, rfl, i4, hd4⟩ := hd3.num
  obtain ⟨n5, _, _, rfl, rfl, i5, hd5⟩ := hd4.num
  obtain ⟨A6, z6, y6, r6, _, _, rfl, rfl, i6, hd6⟩ := hd5.list
  obtain ⟨A7, z7, y7, r7, _, _, rfl, rfl, i7, hd7⟩ := hd6.list
  obtain ⟨A8, z8, y8, r8, _, _, rfl, rfl, i8, hd8⟩ := hd7.list
  obtain ⟨A9, z9, y9, r9, _, _, rfl, rfl, i9, hd9⟩ := hd8.list
  obtain ⟨A10, z10, y10, r10, _, _, rfl, rfl, i10, hd10⟩ := hd9.list
  obtain ⟨n11, _, _, rfl, rfl, i11, hd11⟩ := hd10.num
  obtain ⟨rfl, rfl⟩ := hd11.nil
  have I0 := Lib.hid i0
  have I1 := Lib.hid i1
  have I2 := Lib.hid i2
  have I4 := Lib.hid i4
  have I5 := Lib.hid i5
  have I6 := Lib.hid i6
  have I7 := Lib.hid i7
  have I8 := Lib.hid i8
  have I9 := Lib.hid i9
  have I10 := Lib.hid i10
  have I11 := Lib.hid i11
  clear i0 i1 i2 i4 i5 i6 i7 i8 i9 i10 i11
  show Calls _ _ #[.pointer (some ⟨p, 0, none⟩), .agg #[.int .i64 n0, Am.amt u1 l1, .int .i64 n2, .bool q3, .int .i64 n4, .int .i64 n5, .slice A6 z6 y6, .slice A7 z7 y7, .slice A8 z8 y8, .slice A9 z9 y9, .slice A10 z10 y10, .int .i64 n11]] w _
  obtain ⟨a1, ha1⟩ : ∃ a, a = Am.amt u1 l1 := ⟨_, rfl⟩
  rw [← ha1]
  have HA1 := Lib.hid ha1
  clear ha1
  have hB0 := Bx.new hW #[.int .i64 n0, a1, .int .i64 n2, .bool q3, .int .i64 n4, .int .i64 n5, .slice A6 z6 y6, .slice A7 z7 y7, .slice A8 z8 y8, .slice A9 z9 y9, .slice A10 z10 y10, .int .i64 n11] 55
  have hO0 := hW.alloc (.cells #[.int .i64 n0, a1, .int .i64 n2, .bool q3, .int .i64 n4, .int .i64 n5, .slice A6 z6 y6, .slice A7 z7 y7, .slice A8 z8 y8, .slice A9 z9 y9, .slice A10 z10 y10, .int .i64 n11] 55)
  have hS0 : Step w (w.alloc (.cells #[.int .i64 n0, a1, .int .i64 n2, .bool q3, .int .i64 n4, .int .i64 n5, .slice A6 z6 y6, .slice A7 z7 y7, .slice A8 z8 y8, .slice A9 z9 y9, .slice A10 z10 y10, .int .i64 n11] 55)) fp fp := step_alloc _ _ _
  have hmf : ∀ (fn : Fn) (first cap : Array Value) (w : World), (Instr.makeFunc fn first cap).run Tryz.prog w = .ok (.func fn first cap) w := fun _ _ _ _ => rfl
  have c0 := hB0.cell 0 (v := .int .i64 n0) rfl
  have HW := Lib.hid hW
  have HB0 := Lib.hid hB0
  have HO0 := Lib.hid hO0
  have HS0 := Lib.hid hS0
  clear hW hB0 hO0 hS0
  go_enter Tryz.func29, Tryz.ntmps29
  go_wp2_with fail
  go_region_held3 (fun w' => w'.cell? ⟨w.heap.size, 0, none⟩ = some (.int .i64 n0)) (go_keep) ((go_at_call 42; refine (p_int b p fp _ m n0 _ (by first | exact HO0.out | exact HO0.out.alloc _ | exact HO0.out.stays (fun _ _ => rfl)) I0.out (by omega)).mono ?_; clear c0; rintro e1 w1 ⟨rfl, fq1, hO1, hS1⟩; have hS1 := (show Step (w.alloc (.cells #[.int .i64 n0, a1, .int .i64 n2, .bool q3, .int .i64 n4, .int .i64 n5, .slice A6 z6 y6, .slice A7 z7 y7, .slice A8 z8 y8, .slice A9 z9 y9, .slice A10 z10 y10, .int .i64 n11] 55)) _ fp fp from by first | exact Step.refl _ _ | exact ⟨(Moved.refl _ _).drew, fun _ h => .inl h⟩ | exact ⟨(Moved.refl _ _).drewN _, fun _ h => .inl h⟩).trans hS1; have k0 := (HB0.out.step hS1).cell 0 (v := .int .i64 n0) rfl; have hB1 := HB0.out.step hS1; have hT1 := HS0.out.trans hS1; have c1 := hB1.cell 1 (v := a1) rfl; have HB1 := Lib.hid hB1; have HO1 := Lib.hid (hO1.more (m' := m + 10) (by omega)); have HS1 := Lib.hid hT1; clear hB1 hO1 hS1 hT1))
  clear k0
  go_wp2_with fail
  go_region_held3 (fun w' => w'.cell? ⟨w.heap.size, 1, none⟩ = some (a1)) (go_keep) ((go_at_call 66; refine (p_amountv b p fq1 _ (m + 10) u1 l1 _ _ HA1.out (by first | exact HO1.out | exact HO1.out.alloc _ | exact HO1.out.stays (fun _ _ => rfl)) I1.out.1 I1.out.2 (by omega)).mono ?_; clear c1; rintro e2 w2 ⟨rfl, fq2, hO2, hS2⟩; have hS2 := (show Step w1 _ fq1 fq1 from by first | exact Step.refl _ _ | exact ⟨(Moved.refl _ _).drew, fun _ h => .inl h⟩ | exact ⟨(Moved.refl _ _).drewN _, fun _ h => .inl h⟩).trans hS2; have k1 := (HB1.out.step hS2).cell 1 (v := a1) rfl; have hB2 := HB1.out.step hS2; have hT2 := HS1.out.trans hS2; have c2 := hB2.cell 2 (v := .int .i64 n2) rfl; have HB2 := Lib.hid hB2; have HO2 := Lib.hid (hO2.more (m' := m + 30) (by omega)); have HS2 := Lib.hid hT2; clear hB2 hO2 hS2 hT2))
  clear k1
  go_wp2_with fail
  go_region_held3 (fun w' => w'.cell? ⟨w.heap.size, 2, none⟩ = some (.int .i64 n2)) (go_keep) ((go_at_call 42; refine (p_int b p fq2 _ (m + 30) n2 _ (by first | exact HO2.out | exact HO2.out.alloc _ | exact HO2.out.stays (fun _ _ => rfl)) I2.out (by omega)).mono ?_; clear c2; rintro e3 w3 ⟨rfl, fq3, hO3, hS3⟩; have hS3 := (show Step w2 _ fq2 fq2 from by first | exact Step.refl _ _ | exact ⟨(Moved.refl _ _).drew, fun _ h => .inl h⟩ | exact ⟨(Moved.refl _ _).drewN _, fun _ h => .inl h⟩).trans hS3; have k2 := (HB2.out.step hS3).cell 2 (v := .int .i64 n2) rfl; have hB3 := HB2.out.step hS3; have hT3 := HS2.out.trans hS3; have c3 := hB3.cell 3 (v := .bool q3) rfl; have HB3 := Lib.hid hB3; have HO3 := Lib.hid (hO3.more (m' := m + 40) (by omega)); have HS3 := Lib.hid hT3; clear hB3 hO3 hS3 hT3))
  clear k2
  go_wp2_with fail
  go_region_held3 (fun w' => w'.cell? ⟨w.heap.size, 3, none⟩ = some (.bool q3)) (go_keep) ((go_at_call 45; refine (p_mark b p fq3 _ (m + 40) q3 _ (by first | exact HO3.out | exact HO3.out.alloc _ | exact HO3.out.stays (fun _ _ => rfl)) (by omega)).mono ?_; clear c3; rintro e4 w4 ⟨rfl, fq4, hO4, hS4⟩; have hS4 := (show Step w3 _ fq3 fq3 from by first | exact Step.refl _ _ | exact ⟨(Moved.refl _ _).drew, fun _ h => .inl h⟩ | exact ⟨(Moved.refl _ _).drewN _, fun _ h => .inl h⟩).trans hS4; have k3 := (HB3.out.step hS4).cell 3 (v := .bool q3) rfl; have hB4 := HB3.out.step hS4; have hT4 := HS3.out.trans hS4; have c4 := hB4.cell 4 (v := .int .i64 n4) rfl; have c5 := hB4.cell 5 (v := .int .i64 n5) rfl; have HB4 := Lib.hid hB4; have HO4 := Lib.hid (hO4.more (m' := m + 50) (by omega)); have HS4 := Lib.hid hT4; clear hB4 hO4 hS4 hT4))
  clear k3
  go_wp2_with fail
  have hg5 : w4.heap.size = w4.heap.size := rfl
  refine (p_ints b p fq4 _ (m + 50) _ 2 _ [n4, n5] _ (by exact HO4.out.alloc _) (nrow_lits hg5 [n4, n5] _ rfl) rfl (by intro z hz; simp only [List.mem_cons, List.not_mem_nil, or_false] at hz; rcases hz with rfl | rfl; exact I4.out; exact I5.out) (rowX_new hg5 HO4.out.obj.lt) (by omega) (by omega)).mono ?_
  clear c4 c5
  rintro e5 w5 ⟨rfl, fq5, hO5, hS5⟩
  have hS5 := (step_alloc _ _ _).trans hS5
  have hB5 := HB4.out.step hS5
  have hT5 := HS4.out.trans hS5
  have c6 := hB5.cell 6 (v := .slice A6 z6 y6) rfl
  have HB5 := Lib.hid hB5
  have HO5 := Lib.hid (hO5.more (m' := m + 70) (by omega))
  have HS5 := Lib.hid hT5
  clear hB5 hO5 hS5 hT5
  go_wp2_with fail
  refine (p_list_own b p fq5 _ (m + 70) 1024 _ A6 z6 y6 r6 _ (by first | exact HO5.out | exact HO5.out.alloc _ | exact HO5.out.stays (fun _ _ => rfl)) (Holds.stays_in HW.out HS5.out I6.out) (by rfl) (by omega)).mono ?_
  clear c6
  rintro e6 w6 ⟨rfl, fq6, hO6, hS6⟩
  have hB6 := HB5.out.step hS6
  have hT6 := HS5.out.trans hS6
  have c7 := hB6.cell 7 (v := .slice A7 z7 y7) rfl
  have HB6 := Lib.hid hB6
  have HO6 := Lib.hid (hO6.more (m' := m + 2109520) (by omega))
  have HS6 := Lib.hid hT6
  clear hB6 hO6 hS6 hT6
  go_wp2_with fail
  refine (p_list_copy b p fq6 _ (m + 2109520) 1024 _ A7 z7 y7 r7 _ (by first | exact HO6.out | exact HO6.out.alloc _ | exact HO6.out.stays (fun _ _ => rfl)) (Holds.stays_in HW.out HS6.out I7.out) (by rfl) (by omega)).mono ?_
  clear c7
  rintro e7 w7 ⟨rfl, fq7, hO7, hS7⟩
  have hB7 := HB6.out.step hS7
  have hT7 := HS6.out.trans hS7
  have c8 := hB7.cell 8 (v := .slice A8 z8 y8) rfl
  have HB7 := Lib.hid hB7
  have HO7 := Lib.hid (hO7.more (m' := m + 2375770) (by omega))
  have HS7 := Lib.hid hT7
  clear hB7 hO7 hS7 hT7
  go_wp2_with fail
  refine (p_list_resv b p fq7 _ (m + 2375770) 1024 _ A8 z8 y8 r8 _ (by first | exact HO7.out | exact HO7.out.alloc _ | exact HO7.out.stays (fun _ _ => rfl)) (Holds.stays_in HW.out HS7.out I8.out) (by rfl) (by omega)).mono ?_
  clear c8
  rintro e8 w8 ⟨rfl, fq8, hO8, hS8⟩
  have hB8 := HB7.out.step hS8
  have hT8 := HS7.out.trans hS8
  have c9 := hB8.cell 9 (v := .slice A9 z9 y9) rfl
  have HB8 := Lib.hid hB8
  have HO8 := Lib.hid (hO8.more (m' := m + 2467940) (by omega))
  have HS8 := Lib.hid hT8
  clear hB8 hO8 hS8 hT8
  go_wp2_with fail
  refine (p_list_slot b p fq8 _ (m + 2467940) 1024 _ A9 z9 y9 r9 _ (by first | exact HO8.out | exact HO8.out.alloc _ | exact HO8.out.stays (fun _ _ => rfl)) (Holds.stays_in HW.out HS8.out I9.out) (by rfl) (by omega)).mono ?_
  clear c9
  rintro e9 w9 ⟨rfl, fq9, hO9, hS9⟩
  have hB9 := HB8.out.step hS9
  have hT9 := HS8.out.trans hS9
  have c10 := hB9.cell 10 (v := .slice A10 z10 y10) rfl
  have HB9 := Lib.hid hB9
  have HO9 := Lib.hid (hO9.more (m' := m + 2498670) (by omega))
  have HS9 := Lib.hid hT9
  clear hB9 hO9 hS9 hT9
  go_wp2_with fail
  refine (p_list_use b p fq9 _ (m + 2498670) 1024 _ A10 z10 y10 r10 _ (by first | exact HO9.out | exact HO9.out.alloc _ | exact HO9.out.stays (fun _ _ => rfl)) (Holds.stays_in HW.out HS9.out I10.out) (by rfl) (by omega)).mono ?_
  clear c10
  rintro e10 w10 ⟨rfl, fq10, hO10, hS10⟩
  have hB10 := HB9.out.step hS10
  have hT10 := HS9.out.trans hS10
  have c11 := hB10.cell 11 (v := .int .i64 n11) rfl
  have HB10 := Lib.hid hB10
  have HO10 := Lib.hid (hO10.more (m' := m + 2529400) (by omega))
  have HS10 := Lib.hid hT10
  clear hB10 hO10 hS10 hT10
  go_wp2_with fail
  go_region_held3 (fun w' => w'.cell? ⟨w.heap.size, 11, none⟩ = some (.int .i64 n11)) (go_keep) ((go_at_call 42; refine (p_int b p fq10 _ (m + 2529400) n11 _ (by first | exact HO10.out | exact HO10.out.alloc _ | exact HO10.out.stays (fun _ _ => rfl)) I11.out (by omega)).mono ?_; clear c11; rintro e11 w11 ⟨rfl, fq11, hO11, hS11⟩; have hS11 := (show Step w10 _ fq10 fq10 from by first | exact Step.refl _ _ | exact ⟨(Moved.refl _ _).drew, fun _ h => .inl h⟩ | exact ⟨(Moved.refl _ _).drewN _, fun _ h => .inl h⟩).trans hS11; have k11 := (HB10.out.step hS11).cell 11 (v := .int .i64 n11) rfl; have hB11 := HB10.out.step hS11; have hT11 := HS10.out.trans hS11; have HB11 := Lib.hid hB11; have HO11 := Lib.hid (hO11.more (m' := m + 2529410) (by omega)); have HS11 := Lib.hid hT11; clear hB11 hO11 hS11 hT11))
  clear k11
  go_wp2
  go_end0
  exact ⟨rfl, fq11, by first | exact (HO11.out.more (by omega)) | (have h := HO11.out.more (m' := m + 2529410) (by omega); simpa only [wrs, nums, List.map_cons, List.map_nil] using h), HS11.out⟩
end Wi
end Go.Proofs.YtpghaffjfinpeaaGreat

/-
  CONTRACT of wire.State. (wip/gen_wire.py wrote this.)
-/
namespace Go.Proofs.YtpghaffjfinpeaaGreat
namespace Wi
open Go.RowKit Pk Am
set_option maxRecDepth 100000 in
set_option maxHeartbeats 1000000 in
theorem top_state (vs : List Value) (ds : List Dat) (w : World) (hd : HoldsAll w w.heap.size Kstate vs ds) :
    Calls Tryz.prog 12 #[.agg vs.toArray] w (Told (wrs ds ⟨.ok [], false⟩).out (wrs ds ⟨.ok [], false⟩).err w) := by
  have hlen : vs.length = 12 := hd.len.1
  have hsz : (w.alloc (.cells vs.toArray 55)).heap.size = w.heap.size + 1 := by simp
  have hO0 := WW.new w.heap.size (w.alloc (.cells vs.toArray 55)) (by omega)
  rw [hsz] at hO0
  have HO0 := Lib.hid hO0
  have hS0 : Step w ((w.alloc (.cells vs.toArray 55)).alloc (.cells #[.slice none 0 0, .int .i64 0, .pointer none, .bool false] 70)) [] [w.heap.size + 1] := ⟨((Moved.refl w []).alloc _).alloc _, fun k hk => .inr (by simp at hk; omega)⟩
  have HD := Lib.hid (HoldsAll.stays (Nat.le_refl _) (fun k hk => hS0.1.block k hk (by simp)) _ _ _ hd)
  have HS0 := Lib.hid hS0
  have HI := Lib.hid (show (Tryz.prog.info? 55).map (·.size) = some vs.length by rw [hlen]; kernel_rfl)
  have HR := Lib.hid (show ((w.alloc (.cells vs.toArray 55)).alloc (.cells #[.slice none 0 0, .int .i64 0, .pointer none, .bool false] 70)).rangeAt w.heap.size 0 vs from fun j v hv => by
    rw [World.cell?_alloc_lt _ _ _ (by simp)]; exact range_new _ _ _ j v hv)
  clear hlen hsz hO0 hS0 hd
  go_enter Tryz.func12, Tryz.ntmps12
  go_wp2_with (refine wpList_load_mid rfl 55 _ rfl w.heap.size 0 rfl vs _ HR.out Tryz.underlying55 rfl HI.out ?_)
  refine (p_state w.heap.size (w.heap.size + 1) [w.heap.size + 1] _ 0 vs ds _ (by exact HO0.out) HD.out (by omega)).mono ?_
  rintro e1 w1 ⟨rfl, fq1, hO1, hS1⟩
  have HO1 := Lib.hid (hO1.more (m' := 2529410) (by omega))
  have HS1 := Lib.hid hS1
  clear hO1 hS1
  go_wp2_with fail
  refine (all_any w.heap.size (w.heap.size + 1) fq1 _ 2529410 _ (by exact HO1.out) (by omega)).mono ?_
  rintro e2 w2 hT
  obtain ⟨v, rfl, hown, hst⟩ := Told.of HS1.out HS0.out hT
  have HN := Lib.hid hown
  have HST := Lib.hid hst
  clear hown hst hT
  go_wp2
  go_ret2
  exact ⟨v, rfl, HN.out, HST.out⟩
end Wi
end Go.Proofs.YtpghaffjfinpeaaGreat

/-
  (The Writer within a wire.writer, whose mark is t.)
  CONTRACTS of (*pack.Writer).Int, Mark, Text.
-/
namespace Go.Proofs.YtpghaffjfinpeaaGreat
namespace Wi
open Go.RowKit Pk
variable {t : Bool}
theorem text_small {s : WSt} {l : List Int} {n : Nat} (hl : l.length = n) (h : ¬ 131072 < n) : s.text l = (s.put (enc n)).put l := by
  subst hl
  rw [WSt.text, if_neg h, put_put]
theorem text_great {s : WSt} {l : List Int} {n : Nat} (hl : l.length = n) (h : 131072 < n) : s.text l = s.fail 5 := by
  subst hl
  rw [WSt.text, if_pos h]
set_option maxRecDepth 100000 in
set_option maxHeartbeats 1000000 in
theorem wtext_any (p : Nat) (fp : List Nat) (s : WSt) (m : Nat) (A : Option Addr) (n c : Nat) (l : List Int) (w : World) (hW : WObj t w p fp s m) (hY : Handed w fp A n c l) (hn : n ≤ 35184372088832) (hm : m ≤ 35184372088832) :
    Calls Tryz.prog 56 #[.pointer (some ⟨p, 0, none⟩), .slice A n c] w (Wrote (WObj t) p fp (s.text l) (m + 131082) w) := by
  have HW := Lib.hid hW
  have HY := Lib.hid hY
  clear hW hY
  by_cases h5 : 131072 < n
  · have HT := Lib.hid (text_great (s := s) HY.out.len h5)
    go_enter Tryz.func56, Tryz.ntmps56
    go_wp2_with (go_at_call 84; refine (wfail_any p fp s m 5 _ HW.out (by omega)).mono ?_; rintro e1 w1 ⟨rfl, fq1, hO1, hS1⟩; have HO1 := Lib.hid hO1; have HS1 := Lib.hid hS1; clear hO1 hS1)
    go_end0
    exact ⟨rfl, fq1, by rw [HT.out]; exact HO1.out.more (by omega), HS1.out⟩
  · have HT := Lib.hid (text_small (s := s) HY.out.len h5)
    go_enter Tryz.func56, Tryz.ntmps56
    go_wp2_with fail
    refine (wuint_any p fp s m n _ HW.out (by omega) (by omega)).mono ?_
    rintro e1 w1 ⟨rfl, fq1, hO1, hS1⟩
    have hY1 : Handed w1 fq1 A n c l := ⟨nrowx_moved HY.out.row hS1.1 HY.out.far, HY.out.len, HY.out.nil, fun k hk hf => by
      rcases hS1.2 k hf with h | h
      · exact HY.out.far k hk h
      · have := HY.out.row.ltX k hk; omega⟩
    have HY1 := Lib.hid hY1
    have HO1 := Lib.hid hO1
    have HS1 := Lib.hid hS1
    clear hO1 hS1 hY1
    go_wp2_with (go_at_call 83; refine (wput_any p fq1 _ (m + 10) _ _ _ l _ HO1.out HY1.out (by omega)).mono ?_; rintro e2 w2 ⟨rfl, fq2, hO2, hS2⟩; have HO2 := Lib.hid hO2; have HS2 := Lib.hid (HS1.out.trans hS2); clear hO2 hS2)
    go_end0
    exact ⟨rfl, fq2, by rw [HT.out]; exact HO2.out.more (by omega), HS2.out⟩
end Wi
end Go.Proofs.YtpghaffjfinpeaaGreat
