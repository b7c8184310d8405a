/-
  4 texts in one: LogOpen, LogReverse, LogRecs, LogHave.
-/
import Derived.Test.YtekleamkpfeifaaDoorKB12
import Derived.Test.YtekleamkpfeifaaDoorKB05
import Derived.Test.YtekleamkpfeifaaDoorKB06

/-
  CONTRACT of journal.Open.
-/
namespace Go.Proofs.YtekleamkpfeifaaDoor
namespace Lg
open Go.RowKit Dk Fr
theorem recs_sum : ∀ (n : Nat) (xs : List Int), xs.length ≤ n → 9 * (recsOf xs).1.length + (recsOf xs).1.flatten.length ≤ xs.length ∧ (recsOf xs).2 ≤ xs.length := by
  intro n
  induction n with
  | zero => intro xs h; have : xs = [] := List.eq_nil_of_length_eq_zero (by omega); subst this; rw [recs_nil]; simp
  | succ n ih =>
    intro xs h
    cases hl : laidOf 82 xs with
    | none => rw [recs_none hl]; simp
    | some r =>
      rw [recs_some hl]
      have h1 := laid_len hl
      have h2 := ih (xs.drop (9 + r.length)) (by simp; omega)
      simp at h2 ⊢
      omega
theorem log_sum (xs : List Int) : (logOf xs).1.length + 9 * (logOf xs).2.1.length + (logOf xs).2.1.flatten.length ≤ xs.length ∧ (logOf xs).2.2 ≤ xs.length := by
  unfold logOf
  cases hl : laidOf 83 xs with
  | none => have h := recs_sum _ xs (Nat.le_refl _); simp at h ⊢; omega
  | some s =>
    have h1 := laid_len hl
    have h2 := recs_sum _ (xs.drop (9 + s.length)) (Nat.le_refl _)
    simp at h2 ⊢
    omega
/-- The Log that Open answers. -/
theorem open_end {w w1 w3 w4 : World} {p m : Nat} {fd fd1 fd2 : List Nat} {S : ByteArray} {R : List Rc} {xs : List Int} {o : Obj} (hS1 : Step w w1 fd fd1) (h1 : ∀ k ∈ fd1, k < w1.heap.size) (hG : GRaw w3 w1.heap.size p S R) (hs : Pk.nums S = (logOf xs).1) (hr : rtexts R = (logOf xs).2.1) (hn : ∀ k ∈ rblks R, (w1.alloc o).heap.size ≤ k) (hM : Moved (w1.alloc o) w3 [w1.heap.size]) (hS4 : Step w3 w4 fd1 fd2) (hx : xs.length ≤ m) :
    ∃ fl, GObj w4 w1.heap.size p fl (logOf xs).1 (logOf xs).2.1 m ∧ Step w w4 fd (fd2 ++ fl) ∧ ∀ k ∈ fl, k ∉ fd2 ∧ w.heap.size ≤ k := by
  have z1 : (w1.alloc o).heap.size = w1.heap.size + 1 := by simp
  have z0 := hS1.1.size
  have z3 := hM.size
  have hfl : ∀ k ∈ w1.heap.size :: rblks R, w1.heap.size ≤ k := fun k hk => by
    rcases List.mem_cons.1 hk with rfl | hk
    · exact Nat.le_refl _
    · have := hn k hk; omega
  have hno : ∀ k ∈ w1.heap.size :: rblks R, k ∉ fd1 := fun k hk hf => by have := hfl k hk; have := h1 k hf; omega
  refine ⟨w1.heap.size :: rblks R, ⟨S, R, rfl, hG.stays (fun k hk => hS4.1.block k (hG.lt k hk) (hno k hk)), hs, hr, Nat.le_trans (log_sum xs).1 hx⟩, ⟨?_, fun k hk => ?_⟩, fun k hk => ⟨fun hf => ?_, by have := hfl k hk; omega⟩⟩
  · have hA : Moved w (w1.alloc o) fd := hS1.1.alloc o
    have hB : Moved w w3 fd := hA.trans hM (fun k hk => .inr (by simp at hk; omega))
    exact hB.trans hS4.1 hS1.2
  · rcases List.mem_append.1 hk with hk | hk
    · rcases hS4.2 k hk with h | h
      · exact hS1.2 k h
      · exact .inr (by omega)
    · exact .inr (by have := hfl k hk; omega)
  · rcases hS4.2 k hf with h | h
    · exact hno k hk h
    · have := hG.lt k hk; omega
theorem open_step {w w1 w3 w4 : World} {fd fd1 fd2 : List Nat} {o : Obj} (hS1 : Step w w1 fd fd1) (hM : Moved (w1.alloc o) w3 [w1.heap.size]) (hS4 : Step w3 w4 fd1 fd2) : Step w w4 fd fd2 := by
  have z0 := hS1.1.size
  have z1 : (w1.alloc o).heap.size = w1.heap.size + 1 := by simp
  have z3 := hM.size
  have hA : Moved w (w1.alloc o) fd := hS1.1.alloc o
  have hB : Moved w w3 fd := hA.trans hM (fun k hk => .inr (by simp at hk; omega))
  exact ⟨hB.trans hS4.1 hS1.2, fun k hk => (hS4.2 k hk).elim (hS1.2 k) (fun h => .inr (by omega))⟩
/-- The table of package frame is no block of the Disk's. -/
theorem ld_apart {w : World} {p m : Nat} {fd : List Nat} {s : DSt} (hld : Ld w) (hD : DObj w p fd s m) : 0 ∉ fd := by
  have h0 : w.cell? ⟨0, 0, none⟩ = some (.int .u32 0) := hld 0 0 rfl
  obtain ⟨L, ar, kp, rfl, hr, -⟩ := hD
  have hP : ∀ L : List Pc, PcAt w L → 0 ∉ pcBlks L := by
    intro L
    induction L with
    | nil => intro _ h; cases h
    | cons c r ih =>
      intro hP h
      rcases List.mem_cons.1 h with h | h
      · have h1 := cell_at hP.1 0 (v := ptr r) rfl
        rw [← h, h0] at h1
        obtain ⟨a, ha⟩ := ptr_is r
        rw [ha] at h1
        cases h1
      · rcases List.mem_cons.1 h with h | h
        · obtain ⟨y, ys, hy⟩ : ∃ y ys, c.ys = y :: ys := by
            have := hP.2.2.2.1
            cases hc : c.ys with
            | nil => rw [hc] at this; simp at this
            | cons y ys => exact ⟨y, ys, rfl⟩
          obtain ⟨b, off, e, hc⟩ := hP.2.1 0 y (by rw [hy]; rfl)
          injection e with e
          injection e with e1 e2
          rw [← e1, ← e2, ← h] at hc
          rw [h0] at hc
          cases hc
        · exact ih hP.2.2.2.2.2 h
  intro h
  rcases List.mem_cons.1 h with h | h
  · have h1 := cell_at hr.at_ 0 (v := ptr L) rfl
    rw [← h, h0] at h1
    obtain ⟨a, ha⟩ := ptr_is L
    rw [ha] at h1
    cases h1
  · exact hP L hr.pcs h
theorem ld_lt {w : World} (hld : Ld w) : 0 < w.heap.size := World.block_lt_of_cell? w _ (hld 0 0 rfl)
set_option maxRecDepth 100000 in
set_option maxHeartbeats 1000000 in
theorem gopen_any (p : Nat) (fd : List Nat) (s : DSt) (m : Nat) (w : World) (hD : DObj w p fd s m) (hm : m ≤ 1073741824) (hld : Ld w) :
    Calls Tryd.prog 33 #[.pointer (some ⟨p, 0, none⟩)] w fun r w' => ∃ fd', DObj w' p fd' (openSt s).2 m ∧
      (((openSt s).1 = 0 ∧ ∃ l fl, r = .returned (.tuple #[.pointer (some ⟨l, 0, none⟩), .int .i64 0]) ∧ GObj w' l p fl (logOf s.bs).1 (logOf s.bs).2.1 m ∧ Step w w' fd (fd' ++ fl) ∧ (∀ k ∈ fl, k ∉ fd' ∧ w.heap.size ≤ k)) ∨
       ((openSt s).1 ≠ 0 ∧ r = .returned (.tuple #[.pointer none, .int .i64 (openSt s).1]) ∧ Step w w' fd fd')) := by
  have HD := Lib.hid hD
  have HLD := Lib.hid hld
  have HLEN := Lib.hid (show s.bs.length ≤ m from dlaws.fits hD)
  have HBY := Lib.hid (dlaws.bytes hD)
  clear hD hld
  cases hd : s.dead
  · have hoff : s.off = 0 := by unfold DSt.off; rw [hd]; rfl
    have hrd : s.read = s.bs := by unfold DSt.read; rw [hd]; rfl
    obtain ⟨M, hM⟩ : ∃ M, s.bs.length = M := ⟨_, rfl⟩
    have hMm : M ≤ m := by rw [← hM]; exact HLEN.out
    have hle := (log_sum s.bs).2
    obtain ⟨j, hj⟩ : ∃ j, (logOf s.bs).2.2 = j := ⟨_, rfl⟩
    rw [hj, hM] at hle
    have hop : openSt s = if j < M then s.cut j else (0, s) := by unfold openSt; rw [hd, hj, hM]; rfl
    have HM := Lib.hid hM
    have HJ := Lib.hid hj
    have HOP := Lib.hid hop
    have HRD := Lib.hid (show s.read.length = M by rw [hrd]; exact hM)
    have HRD2 := Lib.hid hrd
    clear hM hj hop hrd
    go_enter Tryd.func33, Tryd.ntmps33
    go_wp2_with fail
    refine (dread_any p fd s m w HD.out (by omega)).mono ?_
    rintro e w1 ⟨v1, fd1, rfl, hT1, hV1, hD1, hS1⟩
    rw [hoff]
    rw [HRD.out] at hT1
    obtain ⟨A1, c1, rfl, hn1, hc1, hc2⟩ := t_shape hT1
    have HT1 := Lib.hid (show NRow .u8 w1 A1 s.bs by rw [← HRD2.out]; exact hT1.nrow)
    have HL1 := Lib.hid (fun b hb => t_lt hT1 b hb : ∀ b ∈ rowOf (.slice A1 M c1), b < w1.heap.size)
    have HV1 := Lib.hid hV1
    have HD1 := Lib.hid hD1
    have HS1 := Lib.hid hS1
    have HN1 := Lib.hid hn1
    have HLD2 := Lib.hid ((HLD.out.moves hS1.1 (ld_apart HLD.out HD.out)).alloc (.cells #[.pointer (some ⟨p, 0, none⟩), .string ByteArray.empty, .pointer none] 69))
    have HT2 := Lib.hid (HT1.out.alloc (.cells #[.pointer (some ⟨p, 0, none⟩), .string ByteArray.empty, .pointer none] 69))
    have HG2 : Hid (GRaw (w1.alloc (.cells #[.pointer (some ⟨p, 0, none⟩), .string ByteArray.empty, .pointer none] 69)) w1.heap.size p ByteArray.empty []) := ⟨heap_alloc_new w1 _, trivial, by simp [rblks]⟩
    clear hT1 hV1 hD1 hS1 hn1
    go_wp2_with fail
    refine (find_any w1.heap.size p A1 M c1 s.bs _ (by exact HG2.out) (by exact HT2.out) HM.out HBY.out HN1.out hc1 hc2 (by omega) (by exact HLD2.out) ?_ ?_).mono ?_
    · intro h
      have h1 := ld_lt HLD.out
      have h2 := HS1.out.1.size
      simp only [List.mem_singleton] at h
      omega
    · intro b hb h
      have h1 := HL1.out b (rowX_rowOf hb)
      simp only [List.mem_singleton] at h
      omega
    rintro e w3 ⟨S, R, rfl, hG3, hs3, hr3, hf3, hM3⟩
    rw [HJ.out]
    have HG3 := Lib.hid hG3
    have HM3 := Lib.hid hM3
    have HS3 := Lib.hid hs3
    have HR3 := Lib.hid hr3
    have HF3 := Lib.hid hf3
    have HD3 := Lib.hid (HD1.out.stays (fun k hk => by
      have h1 := HD1.out.lt k hk
      rw [hM3.block k (by simp; omega) (fun h => by simp at h; omega)]
      exact Below.heap_alloc w1 _ k h1))
    clear hG3 hs3 hr3 hf3 hM3
    by_cases hlt : j < M
    · have hne : ((j : Int) == (M : Int)) = false := by rw [beq_eq_false_iff_ne]; omega
      have HOP2 := Lib.hid (HOP.out.trans (if_pos hlt))
      cases ht : s.trip with
      | some k =>
        have HC : Hid (s.cut j = (7, s.crash k)) := by
          show _ = _
          unfold DSt.cut DSt.stroke
          rw [hd, if_neg (by simp), if_neg (by rw [HM.out]; omega), ht]
          rfl
        clear ht
        go_wp2_with fail
        refine (dcut_any p fd1 s m j w3 HD3.out (by omega) (by omega) (by omega)).mono ?_
        rw [HC.out]
        rintro e w4 ⟨rfl, fd2, hD4, hS4⟩
        have HD4 := Lib.hid hD4
        have HS4 := Lib.hid hS4
        clear hD4 hS4
        go_wp2
        go_ret2
        rw [HOP2.out, HC.out]
        exact ⟨fd2, HD4.out, .inr ⟨by show (7 : Int) ≠ 0; decide, rfl, open_step HS1.out HM3.out HS4.out⟩⟩
      | none =>
        obtain ⟨s2, hs2⟩ : ∃ s2, s2 = { s with bs := s.bs.take j, safe := j } := ⟨_, rfl⟩
        have HC : Hid (s.cut j = (0, s2)) := by
          show _ = _
          rw [hs2]
          unfold DSt.cut DSt.stroke
          rw [hd, if_neg (by simp), if_neg (by rw [HM.out]; omega), if_neg (by simp), ht]
          rfl
        clear ht hs2
        go_wp2_with fail
        refine (dcut_any p fd1 s m j w3 HD3.out (by omega) (by omega) (by omega)).mono ?_
        rw [HC.out]
        rintro e w4 ⟨rfl, fd2, hD4, hS4⟩
        have HD4 := Lib.hid hD4
        have HS4 := Lib.hid hS4
        clear hD4 hS4
        go_wp2
        go_ret2
        rw [HOP2.out, HC.out]
        obtain ⟨fl, e1, e2, e3⟩ := open_end HS1.out HD1.out.lt HG3.out HS3.out HR3.out HF3.out HM3.out HS4.out HLEN.out
        exact ⟨fd2, HD4.out, .inl ⟨rfl, w1.heap.size, fl, rfl, e1, e2, e3⟩⟩
    · have hje : j = M := by omega
      have HOP2 := Lib.hid (HOP.out.trans (if_neg hlt))
      subst hje
      go_wp2
      go_ret2
      rw [HOP2.out]
      obtain ⟨fl, e1, e2, e3⟩ := open_end HS1.out HD1.out.lt HG3.out HS3.out HR3.out HF3.out HM3.out (Step.refl w3 fd1) HLEN.out
      exact ⟨fd1, HD3.out, .inl ⟨rfl, w1.heap.size, fl, rfl, e1, e2, e3⟩⟩
  · have hoff : s.off = 7 := by unfold DSt.off; rw [hd]; rfl
    have HOP := Lib.hid (show openSt s = (7, s) by unfold openSt; rw [hd]; rfl)
    go_enter Tryd.func33, Tryd.ntmps33
    go_wp2_with fail
    refine (dread_any p fd s m w HD.out (by omega)).mono ?_
    rintro e w1 ⟨v1, fd1, rfl, hT1, hV1, hD1, hS1⟩
    rw [hoff]
    have HD1 := Lib.hid hD1
    have HS1 := Lib.hid hS1
    clear hT1 hV1 hD1 hS1
    go_wp2
    go_ret2
    rw [HOP.out]
    exact ⟨fd1, HD1.out, .inr ⟨by show (7 : Int) ≠ 0; decide, rfl, HS1.out⟩⟩
end Lg
end Go.Proofs.YtekleamkpfeifaaDoor

/-
  CONTRACT of the library's slices.Reverse over a row of slices of bytes that the call itself made.
-/
namespace Go.Proofs.YtekleamkpfeifaaDoor
namespace Lg
open Go.RowKit
/-- The first k and the last k have changed places. -/
def RevIs (k : Nat) (vs us : List Value) : Prop := us.length = vs.length ∧ ∀ i, i < vs.length → us[i]? = if i < k ∨ vs.length ≤ i + k then vs[vs.length - 1 - i]? else vs[i]?
theorem rev_start (vs : List Value) : RevIs 0 vs vs := ⟨rfl, fun i hi => by rw [if_neg (by omega)]⟩
theorem rev_end {k : Nat} {vs us : List Value} (h : RevIs k vs us) (hk : vs.length ≤ 2 * k + 1) : us = vs.reverse := by
  apply List.ext_getElem?
  intro i
  by_cases hi : i < vs.length
  · rw [h.2 i hi, List.getElem?_reverse hi]
    split
    · rfl
    · rw [show vs.length - 1 - i = i by omega]
  · rw [List.getElem?_eq_none (by rw [h.1]; omega), List.getElem?_eq_none (by simp; omega)]
theorem rev_step {k : Nat} {vs us : List Value} {x y : Value} (h : RevIs k vs us) (hk : 2 * k + 1 < vs.length) (hx : us[k]? = some x) (hy : us[vs.length - 1 - k]? = some y) : RevIs (k + 1) vs ((us.set k y).set (vs.length - 1 - k) x) := by
  refine ⟨by simp [h.1], fun i hi => ?_⟩
  have e1 := h.2 k (by omega)
  have e2 := h.2 (vs.length - 1 - k) (by omega)
  rw [if_neg (by omega), hx] at e1
  rw [if_neg (by omega), hy] at e2
  rw [List.getElem?_set, List.getElem?_set]
  by_cases h1 : vs.length - 1 - k = i
  · rw [if_pos h1, if_pos (by simp [h.1]; omega), if_pos (by omega), ← h1, show vs.length - 1 - (vs.length - 1 - k) = k by omega, e1]
  · rw [if_neg h1]
    by_cases h2 : k = i
    · rw [if_pos h2, if_pos (by rw [h.1]; omega), if_pos (by omega), ← h2, e2]
    · rw [if_neg h2, h.2 i hi]
      by_cases h3 : i < k ∨ vs.length ≤ i + k
      · rw [if_pos h3, if_pos (by omega)]
      · rw [if_neg h3, if_neg (by omega)]
set_option maxRecDepth 100000 in
set_option maxHeartbeats 1000000 in
theorem reverse_any (g n c : Nat) (vs : List Value) (w : World) (hO : w.ownsRow 0 27 1 (.slice (some ⟨g, 0, none⟩) n c) n vs) (hsl : ∀ u ∈ vs, ∃ A m d, u = .slice A m d) (h0 : 0 < n) (hn : n ≤ 1099511627776) :
    Calls Tryd.prog 57 #[.slice (some ⟨g, 0, none⟩) n c] w fun r w' => r = .returned (.tuple #[]) ∧ w'.ownsRow 0 27 1 (.slice (some ⟨g, 0, none⟩) n c) n vs.reverse ∧ Moved w w' [g] := by
  have HL := Lib.hid (show vs.length = n by simpa using hO.1)
  have HO := Lib.hid hO
  have HSL := Lib.hid hsl
  have e0 : IntKind.i64.wrap ((n : Int) - 1) = ((n - 1 : Nat) : Int) := by rw [IntWalk.i64_in _ (by omega)]; omega
  clear hO hsl
  go_enter Tryd.func57, Tryd.ntmps57
  go_wp2
  go_loopw [2, 3] (fun iv jv wr => ∃ (k j : Nat) (us : List Value), iv = .int .i64 k ∧ jv = .int .i64 j ∧ k + j + 1 = n ∧ 2 * k ≤ n ∧ Hid (RevIs k vs us) ∧ wr.ownsRow 0 27 1 (.slice (some ⟨g, 0, none⟩) n c) n us ∧ Moved w wr [g]) (fun iv _ _ => n - (intOf iv).toNat)
  case atStart => exact ⟨0, n - 1, vs, rfl, by first | rfl | go_num, by omega, by omega, rev_start vs, HO.out, Moved.refl _ _⟩
  case round =>
    obtain ⟨k, j, us, rfl, rfl, hkj, hk2, H, hO, hM⟩ := hrel
    have HO1 := Lib.hid hO
    have HM1 := Lib.hid hM
    have HUL := Lib.hid (show us.length = n by simpa using hO.1)
    clear hO hM
    by_cases hlt : k < j
    · obtain ⟨x, hx⟩ : ∃ x, us[k]? = some x := ⟨us[k]'(by rw [HUL.out]; omega), List.getElem?_eq_getElem _⟩
      obtain ⟨y, hy⟩ : ∃ y, us[j]? = some y := ⟨us[j]'(by rw [HUL.out]; omega), List.getElem?_eq_getElem _⟩
      have hsu : ∀ u ∈ us, ∃ A m d, u = .slice A m d := by
        intro u hu
        obtain ⟨i, hi⟩ := List.mem_iff_getElem?.1 hu
        have hil : i < vs.length := by have := (List.getElem?_eq_some_iff.1 hi).1; rw [HUL.out] at this; rw [HL.out]; exact this
        have h := H.out.2 i hil
        rw [hi] at h
        split at h
        · exact HSL.out u (List.mem_of_getElem? h.symm)
        · exact HSL.out u (List.mem_of_getElem? h.symm)
      obtain ⟨Ax, nx, cx, rfl⟩ := hsu x (List.mem_of_getElem? hx)
      obtain ⟨Ay, ny, cy, rfl⟩ := hsu y (List.mem_of_getElem? hy)
      have HR := Lib.hid (rev_step H.out (by rw [HL.out]; omega) hx (by rw [HL.out, show n - 1 - k = j by omega]; exact hy))
      rw [HL.out, show n - 1 - k = j by omega] at HR
      have hx1 : wr.cell? ⟨g, k, none⟩ = some (.slice Ax nx cx) := by rw [HO1.out.cellAt k (by omega)]; exact hx
      have hy1 : wr.cell? ⟨g, j, none⟩ = some (.slice Ay ny cy) := by rw [HO1.out.cellAt j (by omega)]; exact hy
      have f1 := HO1.out.frozenAt k
      have hO2 := (HO1.out.stored k (.slice Ay ny cy)).1
      have hy2 : (wr.setCell ⟨g, k, none⟩ (.slice Ay ny cy)).cell? ⟨g, j, none⟩ = some (.slice Ay ny cy) := by rw [hO2.cellAt j (by omega), List.getElem?_set, if_neg (by omega)]; exact hy
      have f2 := hO2.frozenAt j
      have e1 : IntKind.i64.wrap ((j : Int) - 1) = ((j - 1 : Nat) : Int) := by rw [IntWalk.i64_in _ (by omega)]; omega
      have HO3 := Lib.hid (hO2.stored j (.slice Ax nx cx)).1
      clear hsu hx hy H hO2
      go_wp2
      go_region
      go_wp2
      go_roundw
      case rel => exact ⟨k + 1, j - 1, _, by go_num, rfl, by omega, by omega, HR.out, own_stays HO3.out (fun _ _ => rfl), ((HM1.out.setCell (p := ⟨g, k, none⟩) (.inl (by simp)) _).setCell (p := ⟨g, j, none⟩) (.inl (by simp)) _).drew⟩
      case measure => simp [intOf]; omega
    · have HE := Lib.hid (rev_end H.out (by rw [HL.out]; omega))
      go_wp2
      go_end0
      exact ⟨rfl, by rw [← HE.out]; exact HO1.out, HM1.out⟩
end Lg
end Go.Proofs.YtekleamkpfeifaaDoor

/-
  CONTRACT of (*journal.Log).Recs.
-/
namespace Go.Proofs.YtekleamkpfeifaaDoor
namespace Lg
open Go.RowKit Dk Fr
/-- A row of the call's own, of new rows of bytes, whatever marks they bear. -/
def TOwn (w : World) (v : Value) (vs : List Value) (ps : List (List Int)) : Prop :=
  w.ownsRow 0 27 1 v ps.length vs ∧ vs.length = ps.length ∧ (∀ (i : Nat) (u : Value) (p : List Int), vs[i]? = some u → ps[i]? = some p → TRow w u p.length p) ∧
    (∀ k ∈ rowOf v, k ∉ partsOf vs) ∧ ∀ (i j : Nat) (u x : Value), i ≠ j → vs[i]? = some u → vs[j]? = some x → ∀ k ∈ rowOf u, k ∉ rowOf x
theorem TOwn.parts_lt {w : World} {v : Value} {vs : List Value} {ps : List (List Int)} (h : TOwn w v vs ps) : ∀ k ∈ partsOf vs, k < w.heap.size := by
  obtain ⟨hr, hl, he, _, _⟩ := h
  intro k hk
  obtain ⟨i, u, hi, hk⟩ := mem_partsOf.1 hk
  obtain ⟨hi2, _⟩ := List.getElem?_eq_some_iff.1 hi
  exact t_lt (he i u ps[i] hi (List.getElem?_eq_getElem (by omega))) k hk
theorem TOwn.stays {w w' : World} {v : Value} {vs : List Value} {ps : List (List Int)} (h : TOwn w v vs ps) (hv : ∀ k ∈ rowOf v, w'.heap[k]? = w.heap[k]?) (hp : ∀ k ∈ partsOf vs, w'.heap[k]? = w.heap[k]?) : TOwn w' v vs ps := by
  obtain ⟨hr, hl, he, ha, hd⟩ := h
  exact ⟨own_stays hr hv, hl, fun i u p hu hq => t_stays (he i u p hu hq) (fun k hk => hp k (mem_partsOf.2 ⟨i, u, hu, hk⟩)), ha, hd⟩
theorem TOwn.nil (w : World) : TOwn w (.slice none 0 0) [] [] := ⟨World.ownsRow_nil _ _ _ _, rfl, fun i u p hu => by simp at hu, by simp [rowOf, Value.ownBlock], fun i j u x _ hu => by simp at hu⟩
theorem TOwn.slices {w : World} {v : Value} {vs : List Value} {ps : List (List Int)} (h : TOwn w v vs ps) : ∀ u ∈ vs, ∃ A m d, u = .slice A m d := by
  intro u hu
  obtain ⟨i, hi⟩ := List.mem_iff_getElem?.1 hu
  obtain ⟨hi2, _⟩ := List.getElem?_eq_some_iff.1 hi
  have hip : i < ps.length := by rw [← h.2.1]; exact hi2
  obtain ⟨A, d, h1, -⟩ := t_shape (h.2.2.1 i u ps[i] hi (List.getElem?_eq_getElem hip))
  exact ⟨A, _, d, h1⟩
/-- One row more. -/
theorem TOwn.push {w w1 : World} {v v' u : Value} {vs : List Value} {ps : List (List Int)} {p : List Int} (h : TOwn w v vs ps) (hu : TRow w u p.length p) (hua : ∀ k ∈ rowOf u, k ∉ rowOf v) (hup : ∀ k ∈ rowOf u, k ∉ partsOf vs) (hown : w1.ownsRow 0 27 1 v' (ps.length + 1) (vs ++ [u])) (hS : Step w w1 (rowOf v) (rowOf v')) :
    TOwn w1 v' (vs ++ [u]) (ps ++ [p]) := by
  have hplt := h.parts_lt
  obtain ⟨hr, hl, he, ha, hd⟩ := h
  have hparts : partsOf (vs ++ [u]) = partsOf vs ++ rowOf u := by simp [partsOf]
  refine ⟨by simpa using hown, by simp [hl], ?_, ?_, ?_⟩
  · intro i x q hx hq
    by_cases hi : i < vs.length
    · rw [List.getElem?_append_left hi] at hx
      rw [List.getElem?_append_left (by omega)] at hq
      have h1 := he i x q hx hq
      exact t_stays h1 (fun k hk => hS.1.block k (t_lt h1 k hk) (fun hm => ha k hm (mem_partsOf.2 ⟨i, x, hx, hk⟩)))
    · by_cases hi2 : i = vs.length
      · subst hi2
        rw [List.getElem?_append_right (by omega)] at hx
        rw [hl, List.getElem?_append_right (by omega)] at hq
        simp at hx hq
        subst hx hq
        exact t_stays hu (fun k hk => hS.1.block k (t_lt hu k hk) (hua k hk))
      · rw [List.getElem?_eq_none (by simp; omega)] at hx; cases hx
  · intro k hk hm
    rw [hparts] at hm
    rcases hS.2 k hk with h | h
    · rcases List.mem_append.1 hm with hm | hm
      · exact ha k h hm
      · exact hua k hm h
    · rcases List.mem_append.1 hm with hm | hm
      · have := hplt k hm; omega
      · have := t_lt hu k hm; omega
  · intro i j x y hij hx hy k hk hm
    rcases Nat.lt_trichotomy i vs.length with hi | hi | hi
    · rw [List.getElem?_append_left hi] at hx
      rcases Nat.lt_trichotomy j vs.length with hj | hj | hj
      · rw [List.getElem?_append_left hj] at hy
        exact hd i j x y hij hx hy k hk hm
      · subst hj
        rw [List.getElem?_append_right (by omega)] at hy
        simp at hy
        subst hy
        exact hup k hm (mem_partsOf.2 ⟨i, x, hx, hk⟩)
      · rw [List.getElem?_eq_none (by simp; omega)] at hy; cases hy
    · subst hi
      rw [List.getElem?_append_right (by omega)] at hx
      simp at hx
      subst hx
      rcases Nat.lt_trichotomy j vs.length with hj | hj | hj
      · rw [List.getElem?_append_left hj] at hy
        exact hup k hk (mem_partsOf.2 ⟨j, y, hy, hm⟩)
      · omega
      · rw [List.getElem?_eq_none (by simp; omega)] at hy; cases hy
    · rw [List.getElem?_eq_none (by simp; omega)] at hx; cases hx
/-- Turned about. -/
theorem TOwn.turned {w w1 : World} {v : Value} {vs : List Value} {ps : List (List Int)} (h : TOwn w v vs ps) (hown : w1.ownsRow 0 27 1 v ps.length vs.reverse) (hM : Moved w w1 (rowOf v)) : TOwn w1 v vs.reverse ps.reverse := by
  have hplt := h.parts_lt
  obtain ⟨hr, hl, he, ha, hd⟩ := h
  have hat : ∀ (i : Nat) (u : Value), vs.reverse[i]? = some u → i < vs.length ∧ vs[vs.length - 1 - i]? = some u := fun i u hu => by
    have hi : i < vs.length := by have := (List.getElem?_eq_some_iff.1 hu).1; simpa using this
    rw [List.getElem?_reverse hi] at hu
    exact ⟨hi, hu⟩
  have hpr : ∀ k, k ∈ partsOf vs.reverse ↔ k ∈ partsOf vs := fun k => by simp [partsOf]
  refine ⟨by simpa using hown, by simp [hl], fun i u p hu hp => ?_, fun k hk hm => ha k hk ((hpr k).1 hm), fun i j u x hij hu hx => ?_⟩
  · obtain ⟨hi, hu⟩ := hat i u hu
    rw [List.getElem?_reverse (by omega), ← hl] at hp
    have h1 := he _ u p hu hp
    exact t_stays h1 (fun k hk => hM.block k (t_lt h1 k hk) (fun hm => ha k hm (mem_partsOf.2 ⟨_, u, hu, hk⟩)))
  · obtain ⟨hi, hu⟩ := hat i u hu
    obtain ⟨hj, hx⟩ := hat j x hx
    exact hd _ _ u x (by omega) hu hx
theorem TOwn.trows {w : World} {v : Value} {vs : List Value} {ps : List (List Int)} (h : TOwn w v vs ps) : TRows w v ps (rowOf v ++ partsOf vs) := by
  have hplt := h.parts_lt
  obtain ⟨hr, hl, he, ha, hd⟩ := h
  have hlt := own_lt hr
  obtain ⟨A, c, rfl, hn, hc⟩ := own_shape hr
  exact ⟨A, c, vs, rfl, VRow.of_own hr, hl, hn, hc, he, fun b hb => List.mem_append.2 (.inl hb), fun b hb => List.mem_append.2 (.inr hb), fun b hb => (List.mem_append.1 hb).elim (hlt b) (hplt b), ha, hd⟩
theorem rtexts_rev : ∀ R : List Rc, rtexts R = (R.map fun c => Pk.nums c.t).reverse
  | [] => rfl
  | c :: r => by rw [rtexts, rtexts_rev r, List.map_cons, List.reverse_cons]
theorem rrank_lt {b : Nat} {r : List Rc} (h : ∀ k ∈ rblks r, k < b) : ptrRank (rptr r) < ptrRank (.pointer (some ⟨b, 0, none⟩)) := by
  cases r with
  | nil => exact Nat.succ_pos _
  | cons c r => exact Nat.succ_lt_succ (h c.b (by simp [rblks]))
set_option maxRecDepth 100000 in
theorem reverse_nil (A : Option Addr) (c : Nat) (w : World) : Calls Tryd.prog 57 #[.slice A 0 c] w fun r w' => r = .returned (.tuple #[]) ∧ w' = w := by
  go_enter Tryd.func57, Tryd.ntmps57
  go_wp2
  refine wp_loop_rounds 1 ?_
  rw [rounds_succ]
  go_wp2
  go_end0
  exact ⟨rfl, rfl⟩
/-- What a call of Recs has made so far. -/
structure Sofar (w wr : World) (v : Value) (vs : List Value) (ps : List (List Int)) : Prop where
  own : TOwn wr v vs ps
  old : Moved w wr []
  new : ∀ k ∈ rowOf v ++ partsOf vs, w.heap.size ≤ k
/-- One text more. -/
theorem Sofar.more {w wr W2 w3 : World} {v v2 v3 : Value} {vs : List Value} {ps : List (List Int)} {t : ByteArray} (h : Sofar w wr v vs ps) (ht : t.size ≤ 1099511627776)
    (hv : v2 = .slice (some ⟨wr.heap.size, 0, none⟩) t.size (grownCap wr t.size 0 5))
    (hW : W2 = (wr.drew.alloc (.cells (bytesRow t (grownCap wr t.size 0 5)) 5 ((bytesRow t (grownCap wr t.size 0 5)).size, (bytesRow t (grownCap wr t.size 0 5)).size + 1))))
    (hown : w3.ownsRow 0 27 1 v3 (ps.length + 1) (vs ++ [v2])) (hS : Step (W2.alloc (.cells #[v2] 27)) w3 (rowOf v) (rowOf v3)) :
    Sofar w w3 v3 (vs ++ [v2]) (ps ++ [Pk.nums t]) := by
  have hT := TRow.of_string wr t (by unfold maxLen; omega)
  rw [← hv, ← hW, show (t.data.toList.map fun b => (b.toNat : Int)) = Pk.nums t from rfl, ← Pk.nums_len] at hT
  have hM2 : Moved wr W2 [] := by rw [hW]; exact ((Moved.refl wr []).drew).alloc _
  have hM3 := hM2.alloc (.cells #[v2] 27)
  have hro : ∀ k ∈ rowOf v2, k = wr.heap.size := fun k hk => by subst hv; simpa [mem_rowOf, Value.ownBlock, eq_comm] using hk
  have hlt := own_lt h.own.1
  have hpl := h.own.parts_lt
  have hO3 := h.own.stays (w' := W2.alloc (.cells #[v2] 27)) (fun k hk => hM3.block k (hlt k hk) (fun h => by cases h)) (fun k hk => hM3.block k (hpl k hk) (fun h => by cases h))
  have z1 := h.old.size
  have z3 := hM3.size
  refine ⟨hO3.push (t_stays hT (fun k hk => Below.heap_alloc W2 _ k (t_lt hT k hk))) (fun k hk hm => by have := hro k hk; have := hlt k hm; omega) (fun k hk hm => by have := hro k hk; have := hpl k hm; omega) hown hS, (h.old.trans hM3 (fun _ h => by cases h)).trans hS.1 (fun k hk => .inr (h.new k (List.mem_append.2 (.inl hk)))), fun k hk => ?_⟩
  rcases List.mem_append.1 hk with hk | hk
  · rcases hS.2 k hk with h1 | h1
    · exact h.new k (List.mem_append.2 (.inl h1))
    · omega
  · rw [show partsOf (vs ++ [v2]) = partsOf vs ++ rowOf v2 by simp [partsOf]] at hk
    rcases List.mem_append.1 hk with hk | hk
    · exact h.new k (List.mem_append.2 (.inr hk))
    · have := hro k hk; omega
set_option maxRecDepth 100000 in
set_option maxHeartbeats 2000000 in
theorem grecs_any (l p : Nat) (fl : List Nat) (sn : List Int) (rs : List (List Int)) (m : Nat) (w : World) (hG : GObj w l p fl sn rs m) (hm : m ≤ 1073741824) :
    Calls Tryd.prog 35 #[.pointer (some ⟨l, 0, none⟩)] w fun r w' => ∃ v fl' fr, r = .returned v ∧ TRows w' v rs fr ∧ (∀ k ∈ fr, w.heap.size ≤ k ∧ k ∉ fl') ∧ GObj w' l p fl' sn rs m ∧ Step w w' fl fl' := by
  obtain ⟨i0, hi, hz0, hz1, hz2⟩ := info_parts info_bytes
  have HG := Lib.hid hG
  obtain ⟨S, R, hfl, hr, hs, hrs, hb⟩ := hG
  have c2 := cell_at hr.at_ 2 (v := rptr R) rfl
  have HR := Lib.hid hr
  have HRS := Lib.hid hrs
  have HLN := Lib.hid (show R.length ≤ m by have := rtexts_len R; rw [hrs] at this; omega)
  have HFLN := Lib.hid (show rs.flatten.length ≤ m by omega)
  clear hr hs hrs hfl hb
  go_enter Tryd.func35, Tryd.ntmps35
  go_wp2
  go_loopw [3, 4] (fun v r wr => ∃ (D T : List Rc) (vs : List Value) (ps : List (List Int)), Hid (R = D ++ T) ∧ r = rptr T ∧ Hid (ps = D.map fun c => Pk.nums c.t) ∧ ps.length ≤ 1073741824 ∧ Sofar w wr v vs ps) (fun _ r _ => ptrRank r)
  case atStart => exact ⟨[], R, [], [], rfl, rfl, rfl, by simp, TOwn.nil _, Moved.refl _ _, fun k hk => by simp [rowOf, Value.ownBlock, partsOf] at hk⟩
  case round =>
    obtain ⟨D, T, vs, ps, HD, rfl, HP, hpl, hSF⟩ := hrel
    obtain ⟨Ao, co, rfl, -⟩ := own_shape hSF.own.1
    have HSF := Lib.hid hSF
    clear hSF
    rcases T with _ | ⟨x, r⟩
    · obtain rfl : R = D := by rw [HD.out, List.append_nil]
      rw [show rptr [] = .pointer none from rfl]
      have HPR := Lib.hid (show ps.reverse = rs by rw [HP.out, ← rtexts_rev, HRS.out])
      by_cases h0 : ps.length = 0
      · obtain rfl := List.eq_nil_of_length_eq_zero h0
        clear h0
        go_wp2_with fail
        refine (reverse_nil Ao co wr).mono ?_
        rintro e w1 ⟨rfl, hw1⟩
        have HW := Lib.hid hw1
        clear hw1
        go_wp2
        go_ret
        rw [HW.out]
        refine ⟨_, fl, _, rfl, by rw [← HPR.out]; exact HSF.out.own.trows, fun k hk => ⟨HSF.out.new k hk, fun h => ?_⟩, HG.out.stays (fun k hk => HSF.out.old.block k (HG.out.lt k hk) (fun h => by cases h)), HSF.out.old.mono (fun _ h => by cases h), fun _ h => .inl h⟩
        have h1 := HG.out.lt k h
        have h2 := HSF.out.new k hk
        omega
      · obtain ⟨g, rfl⟩ : ∃ g, Ao = some ⟨g, 0, none⟩ := by
          rcases HSF.out.own.1.2 with ⟨_, h⟩ | ⟨g, cap, cur, hv, _⟩
          · exact absurd h h0
          · injection hv with hA
            exact ⟨g, hA⟩
        have h0' : 0 < ps.length := by omega
        go_wp2_with fail
        refine (reverse_any g ps.length co vs wr HSF.out.own.1 HSF.out.own.slices h0' (by omega)).mono ?_
        rintro e w1 ⟨rfl, hO1, hM1⟩
        have hro : rowOf (.slice (some ⟨g, 0, none⟩) ps.length co) = [g] := rfl
        have HT := Lib.hid (HSF.out.own.turned hO1 (by rw [hro]; exact hM1)).trows
        rw [HPR.out] at HT
        have HM := Lib.hid (HSF.out.old.trans hM1 (fun k hk => .inr (HSF.out.new k (List.mem_append.2 (.inl (by rw [hro]; exact hk))))))
        have HN := Lib.hid (show ∀ k ∈ rowOf (.slice (some ⟨g, 0, none⟩) ps.length co) ++ partsOf vs.reverse, w.heap.size ≤ k from fun k hk => HSF.out.new k (by
          rcases List.mem_append.1 hk with h | h
          · exact List.mem_append.2 (.inl h)
          · exact List.mem_append.2 (.inr (by simpa [partsOf] using h))))
        clear hO1 hM1
        go_wp2
        go_ret
        refine ⟨_, fl, _, rfl, HT.out, fun k hk => ⟨HN.out k hk, fun h => ?_⟩, HG.out.stays (fun k hk => HM.out.block k (HG.out.lt k hk) (fun h => by cases h)), HM.out.mono (fun _ h => by cases h), fun _ h => .inl h⟩
        have h1 := HG.out.lt k h
        have h2 := HN.out k hk
        omega
    · have hrx := HR.out.still HSF.out.old
      have hpx := RcAt.tail (a := D) (b := x :: r) (by rw [← HD.out]; exact hrx.rcs)
      have c1 := cell_at hpx.1 1 (v := .string x.t) rfl
      have HLOW := Lib.hid hpx.2.1
      have hxt : x.t.size ≤ 1073741824 := by
        have h1 : Pk.nums x.t ∈ rs := by
          rw [← HRS.out, rtexts_rev, List.mem_reverse]
          exact List.mem_map.2 ⟨x, by rw [HD.out]; simp, rfl⟩
        have h2 := part_le_flat h1
        rw [Pk.nums_len] at h2
        exact Nat.le_trans (Nat.le_trans h2 HFLN.out) hm
      have hpl2 : ps.length + 1 ≤ 1073741824 := by
        have h1 := congrArg List.length HD.out
        rw [List.length_append, List.length_cons] at h1
        have h2 := congrArg List.length HP.out
        rw [List.length_map] at h2
        have h3 := HLN.out
        omega
      have hcv := run_bytes_of_string (P := Tryd.prog) wr 9 27 5 x.t Tryd.underlying9 Tryd.underlying27 Tryd.underlying5
      obtain ⟨W2, hW2⟩ : ∃ W2, W2 = (wr.drew.alloc (.cells (bytesRow x.t (grownCap wr x.t.size 0 5)) 5 ((bytesRow x.t (grownCap wr x.t.size 0 5)).size, (bytesRow x.t (grownCap wr x.t.size 0 5)).size + 1))) := ⟨_, rfl⟩
      rw [← hW2] at hcv
      obtain ⟨cp, hcp⟩ : ∃ cp, cp = grownCap wr x.t.size 0 5 := ⟨_, rfl⟩
      rw [← hcp] at hcv
      have HW2 := Lib.hid hW2
      have HV2 : Hid (Value.slice (some ⟨wr.heap.size, 0, none⟩) x.t.size cp = Value.slice (some ⟨wr.heap.size, 0, none⟩) x.t.size (grownCap wr x.t.size 0 5)) := by show _ = _; rw [hcp]
      have HO2 : Hid ((W2.alloc (.cells #[.slice (some ⟨wr.heap.size, 0, none⟩) x.t.size cp] 27)).ownsRow 0 27 1 (.slice Ao ps.length co) ps.length vs) := own_stays HSF.out.own.1 (fun k hk => by
        have h1 := own_lt HSF.out.own.1 k hk
        rw [Below.heap_alloc W2 _ k (by rw [hW2]; simp; omega), hW2, Below.heap_alloc wr.drew _ k h1]
        rfl)
      rw [show rptr (x :: r) = .pointer (some ⟨x.b, 0, none⟩) from rfl]
      clear hW2 hcp hrx hpx
      go_wp2_with (at_builtin; refine wpList_append_vals rfl _ _ 47 rfl 27 i0 (.slice none 0 0) 24 Tryd.underlying47 hi hz0 rfl hz1 hz2 (.slice Ao ps.length co) _ _ rfl HO2.out _ 1 1 [.slice (some ⟨wr.heap.size, 0, none⟩) x.t.size cp] rfl rfl (vrow_lit _ _ _) (fun u hu => by simp at hu; subst hu; rfl) (fun h => by cases h) (by unfold maxLen; omega) (by omega) ?_)
      intro v3 w3 hown hst
      have hSF3 := HSF.out.more (by omega) HV2.out HW2.out hown hst
      have HSF3 := Lib.hid hSF3
      have d0 := cell_at (RcAt.tail (a := D) (b := x :: r) (by rw [← HD.out]; exact (HR.out.still hSF3.old).rcs)).1 0 (v := rptr r) rfl
      have HP3 := Lib.hid (show ps ++ [Pk.nums x.t] = (D ++ [x]).map fun c => Pk.nums c.t by rw [HP.out, List.map_append]; rfl)
      clear hown hst hSF3
      go_wp2
      go_roundw
      case rel => exact ⟨D ++ [x], r, _, ps ++ [Pk.nums x.t], by rw [HD.out, List.append_assoc]; rfl, rfl, HP3.out, by rw [List.length_append]; exact hpl2, HSF3.out⟩
      case measure => exact rrank_lt HLOW.out
end Lg
end Go.Proofs.YtekleamkpfeifaaDoor

/-
  All that the statements' walks ask of the program's Log.
-/
namespace Go.Proofs.YtekleamkpfeifaaDoor
namespace Lg
theorem llaws : LLaws Dk.DObj GObj where
  disk := Dk.dlaws
  stays := GObj.stays
  lt := GObj.lt
  open_ := gopen_any
  append := gappend_any
  sync := fun l p fd fl s sn rs m w hD hG hap _ hm => gsync_any l p fd fl s sn rs m w hD hG hap hm
  compact := gcompact_any
  snap := gsnap_any
  recs := grecs_any
end Lg
end Go.Proofs.YtekleamkpfeifaaDoor
