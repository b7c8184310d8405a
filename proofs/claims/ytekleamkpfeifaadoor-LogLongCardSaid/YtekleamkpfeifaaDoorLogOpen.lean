/-
  CONTRACT of journal.Open.
-/
import Derived.Test.YtekleamkpfeifaaDoorLogFind
namespace Go.Proofs.YtekleamkpfeifaaDoor
namespace Lg
open Go.RowKit Dk Fr
theorem recs_sum : ∀ (n : Nat) (xs : List Int), xs.length ≤ n → 9 * (recsOf xs).1.length + (recsOf xs).1.flatten.length ≤ xs.length ∧ (recsOf xs).2 ≤ xs.length := by
  intro n
  induction n with
  | zero => intro xs h; have : xs = [] := List.eq_nil_of_length_eq_zero (by omega); subst this; rw [recs_nil]; simp
  | succ n ih =>
    intro xs h
    cases hl : laidOf 82 xs with
    | none => rw [recs_none hl]; simp
    | some r =>
      rw [recs_some hl]
      have h1 := laid_len hl
      have h2 := ih (xs.drop (9 + r.length)) (by simp; omega)
      simp at h2 ⊢
      omega
theorem log_sum (xs : List Int) : (logOf xs).1.length + 9 * (logOf xs).2.1.length + (logOf xs).2.1.flatten.length ≤ xs.length ∧ (logOf xs).2.2 ≤ xs.length := by
  unfold logOf
  cases hl : laidOf 83 xs with
  | none => have h := recs_sum _ xs (Nat.le_refl _); simp at h ⊢; omega
  | some s =>
    have h1 := laid_len hl
    have h2 := recs_sum _ (xs.drop (9 + s.length)) (Nat.le_refl _)
    simp at h2 ⊢
    omega
/-- The Log that Open answers. -/
theorem open_end {w w1 w3 w4 : World} {p m : Nat} {fd fd1 fd2 : List Nat} {S : ByteArray} {R : List Rc} {xs : List Int} {o : Obj} (hS1 : Step w w1 fd fd1) (h1 : ∀ k ∈ fd1, k < w1.heap.size) (hG : GRaw w3 w1.heap.size p S R) (hs : Pk.nums S = (logOf xs).1) (hr : rtexts R = (logOf xs).2.1) (hn : ∀ k ∈ rblks R, (w1.alloc o).heap.size ≤ k) (hM : Moved (w1.alloc o) w3 [w1.heap.size]) (hS4 : Step w3 w4 fd1 fd2) (hx : xs.length ≤ m) :
    ∃ fl, GObj w4 w1.heap.size p fl (logOf xs).1 (logOf xs).2.1 m ∧ Step w w4 fd (fd2 ++ fl) ∧ ∀ k ∈ fl, k ∉ fd2 ∧ w.heap.size ≤ k := by
  have z1 : (w1.alloc o).heap.size = w1.heap.size + 1 := by simp
  have z0 := hS1.1.size
  have z3 := hM.size
  have hfl : ∀ k ∈ w1.heap.size :: rblks R, w1.heap.size ≤ k := fun k hk => by
    rcases List.mem_cons.1 hk with rfl | hk
    · exact Nat.le_refl _
    · have := hn k hk; omega
  have hno : ∀ k ∈ w1.heap.size :: rblks R, k ∉ fd1 := fun k hk hf => by have := hfl k hk; have := h1 k hf; omega
  refine ⟨w1.heap.size :: rblks R, ⟨S, R, rfl, hG.stays (fun k hk => hS4.1.block k (hG.lt k hk) (hno k hk)), hs, hr, Nat.le_trans (log_sum xs).1 hx⟩, ⟨?_, fun k hk => ?_⟩, fun k hk => ⟨fun hf => ?_, by have := hfl k hk; omega⟩⟩
  · have hA : Moved w (w1.alloc o) fd := hS1.1.alloc o
    have hB : Moved w w3 fd := hA.trans hM (fun k hk => .inr (by simp at hk; omega))
    exact hB.trans hS4.1 hS1.2
  · rcases List.mem_append.1 hk with hk | hk
    · rcases hS4.2 k hk with h | h
      · exact hS1.2 k h
      · exact .inr (by omega)
    · exact .inr (by have := hfl k hk; omega)
  · rcases hS4.2 k hf with h | h
    · exact hno k hk h
    · have := hG.lt k hk; omega
theorem open_step {w w1 w3 w4 : World} {fd fd1 fd2 : List Nat} {o : Obj} (hS1 : Step w w1 fd fd1) (hM : Moved (w1.alloc o) w3 [w1.heap.size]) (hS4 : Step w3 w4 fd1 fd2) : Step w w4 fd fd2 := by
  have z0 := hS1.1.size
  have z1 : (w1.alloc o).heap.size = w1.heap.size + 1 := by simp
  have z3 := hM.size
  have hA : Moved w (w1.alloc o) fd := hS1.1.alloc o
  have hB : Moved w w3 fd := hA.trans hM (fun k hk => .inr (by simp at hk; omega))
  exact ⟨hB.trans hS4.1 hS1.2, fun k hk => (hS4.2 k hk).elim (hS1.2 k) (fun h => .inr (by omega))⟩
/-- The table of package frame is no block of the Disk's. -/
theorem ld_apart {w : World} {p m : Nat} {fd : List Nat} {s : DSt} (hld : Ld w) (hD : DObj w p fd s m) : 0 ∉ fd := by
  have h0 : w.cell? ⟨0, 0, none⟩ = some (.int .u32 0) := hld 0 0 rfl
  obtain ⟨L, ar, kp, rfl, hr, -⟩ := hD
  have hP : ∀ L : List Pc, PcAt w L → 0 ∉ pcBlks L := by
    intro L
    induction L with
    | nil => intro _ h; cases h
    | cons c r ih =>
      intro hP h
      rcases List.mem_cons.1 h with h | h
      · have h1 := cell_at hP.1 0 (v := ptr r) rfl
        rw [← h, h0] at h1
        obtain ⟨a, ha⟩ := ptr_is r
        rw [ha] at h1
        cases h1
      · rcases List.mem_cons.1 h with h | h
        · obtain ⟨y, ys, hy⟩ : ∃ y ys, c.ys = y :: ys := by
            have := hP.2.2.2.1
            cases hc : c.ys with
            | nil => rw [hc] at this; simp at this
            | cons y ys => exact ⟨y, ys, rfl⟩
          obtain ⟨b, off, e, hc⟩ := hP.2.1 0 y (by rw [hy]; rfl)
          injection e with e
          injection e with e1 e2
          rw [← e1, ← e2, ← h] at hc
          rw [h0] at hc
          cases hc
        · exact ih hP.2.2.2.2.2 h
  intro h
  rcases List.mem_cons.1 h with h | h
  · have h1 := cell_at hr.at_ 0 (v := ptr L) rfl
    rw [← h, h0] at h1
    obtain ⟨a, ha⟩ := ptr_is L
    rw [ha] at h1
    cases h1
  · exact hP L hr.pcs h
theorem ld_lt {w : World} (hld : Ld w) : 0 < w.heap.size := World.block_lt_of_cell? w _ (hld 0 0 rfl)
set_option maxRecDepth 100000 in
set_option maxHeartbeats 1000000 in
theorem gopen_any (p : Nat) (fd : List Nat) (s : DSt) (m : Nat) (w : World) (hD : DObj w p fd s m) (hm : m ≤ 1073741824) (hld : Ld w) :
    Calls Tryd.prog 33 #[.pointer (some ⟨p, 0, none⟩)] w fun r w' => ∃ fd', DObj w' p fd' (openSt s).2 m ∧
      (((openSt s).1 = 0 ∧ ∃ l fl, r = .returned (.tuple #[.pointer (some ⟨l, 0, none⟩), .int .i64 0]) ∧ GObj w' l p fl (logOf s.bs).1 (logOf s.bs).2.1 m ∧ Step w w' fd (fd' ++ fl) ∧ (∀ k ∈ fl, k ∉ fd' ∧ w.heap.size ≤ k)) ∨
       ((openSt s).1 ≠ 0 ∧ r = .returned (.tuple #[.pointer none, .int .i64 (openSt s).1]) ∧ Step w w' fd fd')) := by
  have HD := Lib.hid hD
  have HLD := Lib.hid hld
  have HLEN := Lib.hid (show s.bs.length ≤ m from dlaws.fits hD)
  have HBY := Lib.hid (dlaws.bytes hD)
  clear hD hld
  cases hd : s.dead
  · have hoff : s.off = 0 := by unfold DSt.off; rw [hd]; rfl
    have hrd : s.read = s.bs := by unfold DSt.read; rw [hd]; rfl
    obtain ⟨M, hM⟩ : ∃ M, s.bs.length = M := ⟨_, rfl⟩
    have hMm : M ≤ m := by rw [← hM]; exact HLEN.out
    have hle := (log_sum s.bs).2
    obtain ⟨j, hj⟩ : ∃ j, (logOf s.bs).2.2 = j := ⟨_, rfl⟩
    rw [hj, hM] at hle
    have hop : openSt s = if j < M then s.cut j else (0, s) := by unfold openSt; rw [hd, hj, hM]; rfl
    have HM := Lib.hid hM
    have HJ := Lib.hid hj
    have HOP := Lib.hid hop
    have HRD := Lib.hid (show s.read.length = M by rw [hrd]; exact hM)
    have HRD2 := Lib.hid hrd
    clear hM hj hop hrd
    go_enter Tryd.func33, Tryd.ntmps33
    go_wp2_with fail
    refine (dread_any p fd s m w HD.out (by omega)).mono ?_
    rintro e w1 ⟨v1, fd1, rfl, hT1, hV1, hD1, hS1⟩
    rw [hoff]
    rw [HRD.out] at hT1
    obtain ⟨A1, c1, rfl, hn1, hc1, hc2⟩ := t_shape hT1
    have HT1 := Lib.hid (show NRow .u8 w1 A1 s.bs by rw [← HRD2.out]; exact hT1.nrow)
    have HL1 := Lib.hid (fun b hb => t_lt hT1 b hb : ∀ b ∈ rowOf (.slice A1 M c1), b < w1.heap.size)
    have HV1 := Lib.hid hV1
    have HD1 := Lib.hid hD1
    have HS1 := Lib.hid hS1
    have HN1 := Lib.hid hn1
    have HLD2 := Lib.hid ((HLD.out.moves hS1.1 (ld_apart HLD.out HD.out)).alloc (.cells #[.pointer (some ⟨p, 0, none⟩), .string ByteArray.empty, .pointer none] 69))
    have HT2 := Lib.hid (HT1.out.alloc (.cells #[.pointer (some ⟨p, 0, none⟩), .string ByteArray.empty, .pointer none] 69))
    have HG2 : Hid (GRaw (w1.alloc (.cells #[.pointer (some ⟨p, 0, none⟩), .string ByteArray.empty, .pointer none] 69)) w1.heap.size p ByteArray.empty []) := ⟨heap_alloc_new w1 _, trivial, by simp [rblks]⟩
    clear hT1 hV1 hD1 hS1 hn1
    go_wp2_with fail
    refine (find_any w1.heap.size p A1 M c1 s.bs _ (by exact HG2.out) (by exact HT2.out) HM.out HBY.out HN1.out hc1 hc2 (by omega) (by exact HLD2.out) ?_ ?_).mono ?_
    · intro h
      have h1 := ld_lt HLD.out
      have h2 := HS1.out.1.size
      simp only [List.mem_singleton] at h
      omega
    · intro b hb h
      have h1 := HL1.out b (rowX_rowOf hb)
      simp only [List.mem_singleton] at h
      omega
    rintro e w3 ⟨S, R, rfl, hG3, hs3, hr3, hf3, hM3⟩
    rw [HJ.out]
    have HG3 := Lib.hid hG3
    have HM3 := Lib.hid hM3
    have HS3 := Lib.hid hs3
    have HR3 := Lib.hid hr3
    have HF3 := Lib.hid hf3
    have HD3 := Lib.hid (HD1.out.stays (fun k hk => by
      have h1 := HD1.out.lt k hk
      rw [hM3.block k (by simp; omega) (fun h => by simp at h; omega)]
      exact Below.heap_alloc w1 _ k h1))
    clear hG3 hs3 hr3 hf3 hM3
    by_cases hlt : j < M
    · have hne : ((j : Int) == (M : Int)) = false := by rw [beq_eq_false_iff_ne]; omega
      have HOP2 := Lib.hid (HOP.out.trans (if_pos hlt))
      cases ht : s.trip with
      | some k =>
        have HC : Hid (s.cut j = (7, s.crash k)) := by
          show _ = _
          unfold DSt.cut DSt.stroke
          rw [hd, if_neg (by simp), if_neg (by rw [HM.out]; omega), ht]
          rfl
        clear ht
        go_wp2_with fail
        refine (dcut_any p fd1 s m j w3 HD3.out (by omega) (by omega) (by omega)).mono ?_
        rw [HC.out]
        rintro e w4 ⟨rfl, fd2, hD4, hS4⟩
        have HD4 := Lib.hid hD4
        have HS4 := Lib.hid hS4
        clear hD4 hS4
        go_wp2
        go_ret2
        rw [HOP2.out, HC.out]
        exact ⟨fd2, HD4.out, .inr ⟨by show (7 : Int) ≠ 0; decide, rfl, open_step HS1.out HM3.out HS4.out⟩⟩
      | none =>
        obtain ⟨s2, hs2⟩ : ∃ s2, s2 = { s with bs := s.bs.take j, safe := j } := ⟨_, rfl⟩
        have HC : Hid (s.cut j = (0, s2)) := by
          show _ = _
          rw [hs2]
          unfold DSt.cut DSt.stroke
          rw [hd, if_neg (by simp), if_neg (by rw [HM.out]; omega), if_neg (by simp), ht]
          rfl
        clear ht hs2
        go_wp2_with fail
        refine (dcut_any p fd1 s m j w3 HD3.out (by omega) (by omega) (by omega)).mono ?_
        rw [HC.out]
        rintro e w4 ⟨rfl, fd2, hD4, hS4⟩
        have HD4 := Lib.hid hD4
        have HS4 := Lib.hid hS4
        clear hD4 hS4
        go_wp2
        go_ret2
        rw [HOP2.out, HC.out]
        obtain ⟨fl, e1, e2, e3⟩ := open_end HS1.out HD1.out.lt HG3.out HS3.out HR3.out HF3.out HM3.out HS4.out HLEN.out
        exact ⟨fd2, HD4.out, .inl ⟨rfl, w1.heap.size, fl, rfl, e1, e2, e3⟩⟩
    · have hje : j = M := by omega
      have HOP2 := Lib.hid (HOP.out.trans (if_neg hlt))
      subst hje
      go_wp2
      go_ret2
      rw [HOP2.out]
      obtain ⟨fl, e1, e2, e3⟩ := open_end HS1.out HD1.out.lt HG3.out HS3.out HR3.out HF3.out HM3.out (Step.refl w3 fd1) HLEN.out
      exact ⟨fd1, HD3.out, .inl ⟨rfl, w1.heap.size, fl, rfl, e1, e2, e3⟩⟩
  · have hoff : s.off = 7 := by unfold DSt.off; rw [hd]; rfl
    have HOP := Lib.hid (show openSt s = (7, s) by unfold openSt; rw [hd]; rfl)
    go_enter Tryd.func33, Tryd.ntmps33
    go_wp2_with fail
    refine (dread_any p fd s m w HD.out (by omega)).mono ?_
    rintro e w1 ⟨v1, fd1, rfl, hT1, hV1, hD1, hS1⟩
    rw [hoff]
    have HD1 := Lib.hid hD1
    have HS1 := Lib.hid hS1
    clear hT1 hV1 hD1 hS1
    go_wp2
    go_ret2
    rw [HOP.out]
    exact ⟨fd1, HD1.out, .inr ⟨by show (7 : Int) ≠ 0; decide, rfl, HS1.out⟩⟩
end Lg
end Go.Proofs.YtekleamkpfeifaaDoor
