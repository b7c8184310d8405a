/-
  2 texts in one: WireLint, WirePjob.
-/
import Derived.Test.YtpghaffjfinpeaaGreatKWireOnly06
import Derived.Test.YtpghaffjfinpeaaGreatKWireOnly04
import Derived.Test.YtpghaffjfinpeaaGreatKWireOnly30

/-
  CONTRACT of wire.putList[int]. (wip/gen_wire.py wrote this.)
-/
namespace Go.Proofs.YtpghaffjfinpeaaGreat
namespace Wi
open Go.RowKit Pk Am
set_option maxRecDepth 100000 in
set_option maxHeartbeats 2000000 in
theorem p_list_int (b p : Nat) (fp : List Nat) (x : Ws) (m most : Nat) (M : Int) (A : Option Addr) (n c : Nat) (rows : List (List Dat)) (w : World) (hW : WW b w p fp x m) (hH : Holds w b (.list most Kint) (.slice A n c) (.list most rows)) (hM : M = (most : Int)) (hm : m + (10 + most * 10) ≤ 35184370000000) :
    Calls Tryz.prog 80 #[.pointer (some ⟨p, 0, none⟩), .slice A n c, .int .i64 M, .func (.func 42) #[.pointer (some ⟨p, 0, none⟩)] #[]] w (Puts b p fp (wrD (.list most rows) x) (m + (10 + most * 10)) w) := by
  subst hM
  obtain ⟨hcount, hn45⟩ := hH.count
  have HC := Lib.hid hcount
  clear hcount
  by_cases hgt : most < n
  · obtain ⟨c0, c1, c2, hblk⟩ := hW.obj.blk
    have k3 := cell_at hblk 3 (v := .bool x.t) rfl
    have f3 := free_at hblk 3
    have HL := Lib.hid (show wrD (.list most rows) x = x.long by rw [wrD, if_pos (by rw [HC.out]; exact hgt)])
    have HW := Lib.hid hW
    clear hW hH hblk
    go_enter Tryz.func80, Tryz.ntmps80
    go_wp2
    go_end0
    exact ⟨rfl, fp, by rw [HL.out]; exact ⟨HW.out.obj.long.more (by omega), HW.out.far⟩, (Moved.refl _ _).setCell (.inl HW.out.obj.mem) _, fun _ h => .inl h⟩
  · have hU := Lib.hid (show wrD (.list most rows) x = wrRows rows (x.put (enc n)) by rw [wrD, if_neg (by rw [HC.out]; exact hgt), HC.out])
    have HH := Lib.hid hH
    have HW := Lib.hid hW
    clear hH hW
    go_enter Tryz.func80, Tryz.ntmps80
    go_wp2_with fail
    refine (p_uint b p fp x m n _ (by exact HW.out) (by omega) (by omega)).mono ?_
    rintro e1 w1 ⟨rfl, fq1, hO1, hS1⟩
    have HO1 := Lib.hid hO1
    have HS1 := Lib.hid hS1
    clear hO1 hS1
    go_wp2
    go_loopw [26] (fun i W => ∃ (k : Nat) (cur : Ws) (fq : List Nat), i = .int .i64 k ∧ k ≤ n ∧ Hid (cur = wrRows (rows.take k) (x.put (enc n))) ∧ WW b W p fq cur (m + 10 + k * 10) ∧ Step w W fp fq) (fun i _ => n - (intOf i).toNat)
    case atStart => exact ⟨0, _, fq1, rfl, Nat.zero_le _, by show _ = _; rw [List.take_zero, wrRows], by rw [Nat.zero_mul]; exact HO1.out, HS1.out⟩
    case round =>
      obtain ⟨k, cur, fq, rfl, hk, H, hO, hS⟩ := hrel
      have HS := Lib.hid hS
      have HO := Lib.hid hO
      clear hS hO HO1 HS1
      have hb0 : k * 10 ≤ most * 10 := Nat.mul_le_mul_right _ (by omega)
      by_cases hlt : k < n
      · have hb1 : k * 10 + 10 ≤ most * 10 := by rw [← Nat.succ_mul]; exact Nat.mul_le_mul_right _ (by omega)
        obtain ⟨r, hr⟩ : ∃ r, rows[k]? = some r := ⟨rows[k]'(by rw [HC.out]; exact hlt), List.getElem?_eq_getElem _⟩
        have HN := Lib.hid ((congrArg (wrs r) H.out).trans (wrRows_take hr _).symm)
        obtain ⟨g, off, vs, rfl, hg, hcell, hall⟩ := HH.out.elem hr
        clear hr H
        have hall' := HoldsAll.stays_in HW.out HS.out hall
        have hBel := HW.out.below HS.out
        obtain ⟨n0, _, _, rfl, rfl, i0, hd0⟩ := hall.num
        obtain ⟨rfl, rfl⟩ := hd0.nil
        have t0 : wr.cell? ⟨g, off + k, none⟩ = some (.int .i64 n0) := (hBel.cell hg).trans (by have h := hcell 0 _ rfl; simpa only [List.length_cons, List.length_nil, Nat.zero_add, Nat.mul_one, Nat.add_zero] using h)
        have HI := Lib.hid i0
        clear hall hall' hcell hBel hd0 i0
        go_wp2_with fail
        refine (p_int b p fq cur (m + 10 + k * 10) n0 _ (by exact HO.out) HI.out (by omega)).mono ?_
        clear t0
        rintro e2 w2 ⟨rfl, fq2, hO2, hS2⟩
        have HO2 := Lib.hid hO2
        have HS2 := Lib.hid (HS.out.trans hS2)
        clear hO2 hS2
        go_wp2
        go_roundw
        case rel => exact ⟨k + 1, _, fq2, by go_num, by omega, by have h := HN.out; rw [wrs, wrs] at h; exact h, by rw [Nat.succ_mul]; exact HO2.out.more (by omega), HS2.out⟩
        case measure => simp [intOf]; omega
      · obtain rfl : k = n := by omega
        go_wp2
        go_end0
        refine ⟨rfl, fq, ?_, HS.out⟩
        rw [hU.out]
        have h := HO.out
        rw [H.out, ← HC.out, List.take_length] at h
        rw [HC.out] at h
        exact h.more (by omega)
end Wi
end Go.Proofs.YtpghaffjfinpeaaGreat

/-
  CONTRACT of (*wire.writer).job. (wip/gen_wire.py wrote this.)
-/
namespace Go.Proofs.YtpghaffjfinpeaaGreat
namespace Wi
open Go.RowKit Pk Am
set_option maxRecDepth 100000 in
set_option maxHeartbeats 2000000 in
theorem p_job (b p : Nat) (fp : List Nat) (x : Ws) (m : Nat) (vs : List Value) (ds : List Dat) (w : World) (hW : WW b w p fp x m) (hd : HoldsAll w b Kjob vs ds) (hm : m + 190 ≤ 35184370000000) :
    Calls Tryz.prog 46 #[.pointer (some ⟨p, 0, none⟩), .agg vs.toArray] w (Puts b p fp (wrs ds x) (m + 190) w) := by
  obtain ⟨n0, _, _, rfl, rfl, i0, hd0⟩ := hd.num
  obtain ⟨n1, _, _, rfl, rfl, i1, hd1⟩ := hd0.num
  obtain ⟨n2, _, _, rfl, rfl, i2, hd2⟩ := hd1.num
  obtain ⟨u3, l3, _, _, rfl, rfl, i3, hd3⟩ := hd2.amt
  obtain ⟨n4, _, _, rfl, rfl, i4, hd4⟩ := hd3.num
  obtain ⟨n5, _, _, rfl, rfl, i5, hd5⟩ := hd4.num
  obtain ⟨n6, _, _, rfl, rfl, i6, hd6⟩ := hd5.num
  obtain ⟨n7, _, _, rfl, rfl, i7, hd7⟩ := hd6.num
  obtain ⟨A8, z8, y8, r8, _, _, rfl, rfl, i8, hd8⟩ := hd7.list
  obtain ⟨q9, _, _, rfl, rfl, hd9⟩ := hd8.mark
  obtain ⟨rfl, rfl⟩ := hd9.nil
  have I0 := Lib.hid i0
  have I1 := Lib.hid i1
  have I2 := Lib.hid i2
  have I3 := Lib.hid i3
  have I4 := Lib.hid i4
  have I5 := Lib.hid i5
  have I6 := Lib.hid i6
  have I7 := Lib.hid i7
  have I8 := Lib.hid i8
  clear i0 i1 i2 i3 i4 i5 i6 i7 i8
  show Calls _ _ #[.pointer (some ⟨p, 0, none⟩), .agg #[.int .i64 n0, .int .i64 n1, .int .i64 n2, Am.amt u3 l3, .int .i64 n4, .int .i64 n5, .int .i64 n6, .int .i64 n7, .slice A8 z8 y8, .bool q9]] w _
  obtain ⟨a3, ha3⟩ : ∃ a, a = Am.amt u3 l3 := ⟨_, rfl⟩
  rw [← ha3]
  have HA3 := Lib.hid ha3
  clear ha3
  have hB0 := Bx.new hW #[.int .i64 n0, .int .i64 n1, .int .i64 n2, a3, .int .i64 n4, .int .i64 n5, .int .i64 n6, .int .i64 n7, .slice A8 z8 y8, .bool q9] 28
  have hO0 := hW.alloc (.cells #[.int .i64 n0, .int .i64 n1, .int .i64 n2, a3, .int .i64 n4, .int .i64 n5, .int .i64 n6, .int .i64 n7, .slice A8 z8 y8, .bool q9] 28)
  have hS0 : Step w (w.alloc (.cells #[.int .i64 n0, .int .i64 n1, .int .i64 n2, a3, .int .i64 n4, .int .i64 n5, .int .i64 n6, .int .i64 n7, .slice A8 z8 y8, .bool q9] 28)) fp fp := step_alloc _ _ _
  have hmf : ∀ (fn : Fn) (first cap : Array Value) (w : World), (Instr.makeFunc fn first cap).run Tryz.prog w = .ok (.func fn first cap) w := fun _ _ _ _ => rfl
  have c0 := hB0.cell 0 (v := .int .i64 n0) rfl
  have c1 := hB0.cell 1 (v := .int .i64 n1) rfl
  have HW := Lib.hid hW
  have HB0 := Lib.hid hB0
  have HO0 := Lib.hid hO0
  have HS0 := Lib.hid hS0
  clear hW hB0 hO0 hS0
  go_enter Tryz.func46, Tryz.ntmps46
  go_wp2_with fail
  refine (p_id b p fp _ m _ _ _ (by exact HO0.out) (HoldsAll.stays_in HW.out HS0.out (hN I0.out (hN I1.out hZ))) (by omega)).mono ?_
  clear c0 c1
  rintro e1 w1 ⟨rfl, fq1, hO1, hS1⟩
  have hB1 := HB0.out.step hS1
  have hT1 := HS0.out.trans hS1
  have c2 := hB1.cell 2 (v := .int .i64 n2) rfl
  have HB1 := Lib.hid hB1
  have HO1 := Lib.hid (hO1.more (m' := m + 20) (by omega))
  have HS1 := Lib.hid hT1
  clear hB1 hO1 hS1 hT1
  go_wp2_with fail
  go_region_held3 (fun w' => w'.cell? ⟨w.heap.size, 2, none⟩ = some (.int .i64 n2)) (go_keep) ((go_at_call 42; refine (p_int b p fq1 _ (m + 20) n2 _ (by first | exact HO1.out | exact HO1.out.alloc _ | exact HO1.out.stays (fun _ _ => rfl)) I2.out (by omega)).mono ?_; clear c2; rintro e2 w2 ⟨rfl, fq2, hO2, hS2⟩; have hS2 := (show Step w1 _ fq1 fq1 from by first | exact Step.refl _ _ | exact ⟨(Moved.refl _ _).drew, fun _ h => .inl h⟩ | exact ⟨(Moved.refl _ _).drewN _, fun _ h => .inl h⟩).trans hS2; have k2 := (HB1.out.step hS2).cell 2 (v := .int .i64 n2) rfl; have hB2 := HB1.out.step hS2; have hT2 := HS1.out.trans hS2; have c3 := hB2.cell 3 (v := a3) rfl; have HB2 := Lib.hid hB2; have HO2 := Lib.hid (hO2.more (m' := m + 30) (by omega)); have HS2 := Lib.hid hT2; clear hB2 hO2 hS2 hT2))
  clear k2
  go_wp2_with fail
  go_region_held3 (fun w' => w'.cell? ⟨w.heap.size, 3, none⟩ = some (a3)) (go_keep) ((go_at_call 66; refine (p_amountv b p fq2 _ (m + 30) u3 l3 _ _ HA3.out (by first | exact HO2.out | exact HO2.out.alloc _ | exact HO2.out.stays (fun _ _ => rfl)) I3.out.1 I3.out.2 (by omega)).mono ?_; clear c3; rintro e3 w3 ⟨rfl, fq3, hO3, hS3⟩; have hS3 := (show Step w2 _ fq2 fq2 from by first | exact Step.refl _ _ | exact ⟨(Moved.refl _ _).drew, fun _ h => .inl h⟩ | exact ⟨(Moved.refl _ _).drewN _, fun _ h => .inl h⟩).trans hS3; have k3 := (HB2.out.step hS3).cell 3 (v := a3) rfl; have hB3 := HB2.out.step hS3; have hT3 := HS2.out.trans hS3; have c4 := hB3.cell 4 (v := .int .i64 n4) rfl; have c5 := hB3.cell 5 (v := .int .i64 n5) rfl; have c6 := hB3.cell 6 (v := .int .i64 n6) rfl; have c7 := hB3.cell 7 (v := .int .i64 n7) rfl; have HB3 := Lib.hid hB3; have HO3 := Lib.hid (hO3.more (m' := m + 50) (by omega)); have HS3 := Lib.hid hT3; clear hB3 hO3 hS3 hT3))
  clear k3
  go_wp2_with fail
  have hg4 : w3.heap.size = w3.heap.size := rfl
  refine (p_ints b p fq3 _ (m + 50) _ 4 _ [n4, n5, n6, n7] _ (by exact HO3.out.alloc _) (nrow_lits hg4 [n4, n5, n6, n7] _ rfl) rfl (by intro z hz; simp only [List.mem_cons, List.not_mem_nil, or_false] at hz; rcases hz with rfl | rfl | rfl | rfl; exact I4.out; exact I5.out; exact I6.out; exact I7.out) (rowX_new hg4 HO3.out.obj.lt) (by omega) (by omega)).mono ?_
  clear c4 c5 c6 c7
  rintro e4 w4 ⟨rfl, fq4, hO4, hS4⟩
  have hS4 := (step_alloc _ _ _).trans hS4
  have hB4 := HB3.out.step hS4
  have hT4 := HS3.out.trans hS4
  have c8 := hB4.cell 8 (v := .slice A8 z8 y8) rfl
  have HB4 := Lib.hid hB4
  have HO4 := Lib.hid (hO4.more (m' := m + 90) (by omega))
  have HS4 := Lib.hid hT4
  clear hB4 hO4 hS4 hT4
  go_wp2_with fail
  go_region_held3 (fun w' => w'.cell? ⟨w.heap.size, 8, none⟩ = some (.slice A8 z8 y8)) (go_keep) ((go_at_call 80; refine (p_list_int b p fq4 _ (m + 90) 8 _ A8 z8 y8 r8 _ (by first | exact HO4.out | exact HO4.out.alloc _ | exact HO4.out.stays (fun _ _ => rfl)) (by exact Holds.alike (Holds.stays_in HW.out HS4.out I8.out) HO4.out.size rfl) (by rfl) (by omega)).mono ?_; clear c8; rintro e5 w5 ⟨rfl, fq5, hO5, hS5⟩; have hS5 := (show Step w4 _ fq4 fq4 from by first | exact Step.refl _ _ | exact ⟨(Moved.refl _ _).drew, fun _ h => .inl h⟩ | exact ⟨(Moved.refl _ _).drewN _, fun _ h => .inl h⟩).trans hS5; have k8 := (HB4.out.step hS5).cell 8 (v := .slice A8 z8 y8) rfl; have hB5 := HB4.out.step hS5; have hT5 := HS4.out.trans hS5; have c9 := hB5.cell 9 (v := .bool q9) rfl; have HB5 := Lib.hid hB5; have HO5 := Lib.hid (hO5.more (m' := m + 180) (by omega)); have HS5 := Lib.hid hT5; clear hB5 hO5 hS5 hT5))
  clear k8
  go_wp2_with fail
  go_region_held3 (fun w' => w'.cell? ⟨w.heap.size, 9, none⟩ = some (.bool q9)) (go_keep) ((go_at_call 45; refine (p_mark b p fq5 _ (m + 180) q9 _ (by first | exact HO5.out | exact HO5.out.alloc _ | exact HO5.out.stays (fun _ _ => rfl)) (by omega)).mono ?_; clear c9; rintro e6 w6 ⟨rfl, fq6, hO6, hS6⟩; have hS6 := (show Step w5 _ fq5 fq5 from by first | exact Step.refl _ _ | exact ⟨(Moved.refl _ _).drew, fun _ h => .inl h⟩ | exact ⟨(Moved.refl _ _).drewN _, fun _ h => .inl h⟩).trans hS6; have k9 := (HB5.out.step hS6).cell 9 (v := .bool q9) rfl; have hB6 := HB5.out.step hS6; have hT6 := HS5.out.trans hS6; have HB6 := Lib.hid hB6; have HO6 := Lib.hid (hO6.more (m' := m + 190) (by omega)); have HS6 := Lib.hid hT6; clear hB6 hO6 hS6 hT6))
  clear k9
  go_wp2
  go_end0
  exact ⟨rfl, fq6, by first | exact (HO6.out.more (by omega)) | (have h := HO6.out.more (m' := m + 190) (by omega); simpa only [wrs, nums, List.map_cons, List.map_nil] using h), HS6.out⟩
end Wi
end Go.Proofs.YtpghaffjfinpeaaGreat
