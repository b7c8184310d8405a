/-
  CONTRACTS of hanseref06's Open, Lay, Add, Compact.
-/
import Derived.Test.YtekleamkpfeifaaDoorKB03
import Derived.Test.YtekleamkpfeifaaDoorDiskRef2
namespace Go.Proofs.YtekleamkpfeifaaDoor
namespace Lg
open Go.RowKit Dk Fr
theorem recs_le : ∀ (n : Nat) (xs : List Int), xs.length ≤ n → (recsOf xs).2 ≤ xs.length := by
  intro n
  induction n with
  | zero => intro xs h; have : xs = [] := List.eq_nil_of_length_eq_zero (by omega); subst this; rw [recs_nil]; simp
  | succ n ih =>
    intro xs h
    cases hl : laidOf 82 xs with
    | none => rw [recs_none hl]; simp
    | some r =>
      rw [recs_some hl]
      have h1 := laid_len hl
      have h2 := ih (xs.drop (9 + r.length)) (by simp; omega)
      simp at h2 ⊢
      omega
theorem log_le (xs : List Int) : (logOf xs).2.2 ≤ xs.length := by
  unfold logOf
  cases hl : laidOf 83 xs with
  | none => exact recs_le _ xs (Nat.le_refl _)
  | some s =>
    have h1 := laid_len hl
    have h2 := recs_le _ (xs.drop (9 + s.length)) (Nat.le_refl _)
    simp at h2 ⊢
    omega
set_option maxRecDepth 100000 in
set_option maxHeartbeats 1000000 in
theorem qopen_any (q : Nat) (fq : List Nat) (s : DSt) (m : Nat) (w : World) (hQ : QObj w q fq s m) (hm : m ≤ 1099511627776) :
    Calls Tryd.prog 42 #[.pointer (some ⟨q, 0, none⟩)] w (Does QObj q fq (openSt s).2 m (.int .i64 (openSt s).1) w) := by
  have HQ := Lib.hid hQ
  obtain ⟨bs, safe, dead, trip⟩ := s
  obtain ⟨A, c, ar, kp, hfq, hr, htr, hbm, hby, hsf, hcalm, hkp, hnil, hcp⟩ := q_open hQ
  have c0 := cell_at hr.at_ 0 (v := .slice A bs.length c) rfl
  have c2 := cell_at hr.at_ 2 (v := .bool dead) rfl
  cases dead
  · have HNR := Lib.hid (NRow.of_own (show w.ownsRow 0 5 1 (.slice A bs.length c) bs.length (bs.map (Value.int .u8)) from hr.own))
    have HBY := Lib.hid hby
    have HNIL := Lib.hid hnil
    have HAT := Lib.hid hr.at_
    have hle := log_le bs
    obtain ⟨n, hn⟩ : ∃ n, n = (logOf bs).2.2 := ⟨_, rfl⟩
    have HOP : Hid (openSt ⟨bs, safe, false, trip⟩ = if n < bs.length then DSt.cut n ⟨bs, safe, false, trip⟩ else (0, ⟨bs, safe, false, trip⟩)) := by
      show _ = _
      unfold openSt
      rw [if_neg (by simp), hn]
    rw [← hn] at hle
    have HN := Lib.hid hn
    clear hr htr hby hcalm hQ hnil hn
    go_enter Tryd.func42, Tryd.ntmps42
    go_wp2_with fail
    refine (parts_any A _ c bs w HNR.out rfl HBY.out HNIL.out (by omega) (by omega) (by omega)).mono ?_
    rw [← HN.out]
    rintro e w1 ⟨B1, c1, v1, fr1, rfl, -, -, hS1, -, hM1⟩
    obtain ⟨Av, cv, us, rfl, -⟩ := hS1.reads
    have HM1 := Lib.hid hM1
    have hat1 : w1.heap[q]? = some (.cells #[.slice A bs.length c, .int .i64 safe, .bool false, .bool ar, .int .i64 kp] 29 (0, 0)) := by
      rw [hM1.block q (lt_of_block HAT.out) (fun h => by cases h)]; exact HAT.out
    have d0 := cell_at hat1 0 (v := .slice A bs.length c) rfl
    have HQ1 := Lib.hid (HQ.out.stays (fun b hb => hM1.block b (HQ.out.lt b hb) (fun h => by cases h)))
    clear hS1 hM1 hat1 c0 c2
    by_cases hlt : n < bs.length
    · have hdl : decide (n < bs.length) = true := by simpa using hlt
      go_wp2_with fail
      refine (qcut_any q fq ⟨bs, safe, false, trip⟩ m n w1 HQ1.out (by omega) (by omega) (by omega)).mono ?_
      rintro e w2 ⟨rfl, f2, h2, hS2⟩
      have HOP2 := Lib.hid (HOP.out.trans (if_pos hlt))
      have H2 := Lib.hid h2
      have HS2 := Lib.hid (show Step w w2 fq f2 from ⟨(HM1.out.mono (fun _ h => by cases h)).trans hS2.1 (fun b hb => .inl hb), fun b hb => (hS2.2 b hb).imp id (Nat.le_trans HM1.out.size)⟩)
      clear h2 hS2
      go_wp2
      go_ret
      exact ⟨by rw [HOP2.out]; rfl, f2, by rw [HOP2.out]; exact H2.out, HS2.out⟩
    · have hdl : decide (n < bs.length) = false := by simpa using hlt
      have HOP2 := Lib.hid (HOP.out.trans (if_neg hlt))
      go_wp2
      go_ret
      exact ⟨by rw [HOP2.out]; rfl, fq, by rw [HOP2.out]; exact HQ1.out, HM1.out.mono (fun _ h => by cases h), fun b hb => .inl hb⟩
  · clear hr htr hby hcalm
    go_enter Tryd.func42, Tryd.ntmps42
    go_wp2
    go_ret
    exact ⟨rfl, fq, HQ.out, Step.refl _ _⟩
set_option maxRecDepth 100000 in
set_option maxHeartbeats 1000000 in
theorem qlay_any (x : Int) (A : Option Addr) (n c : Nat) (ys : List Int) (w : World) (hx : 0 ≤ x ∧ x ≤ 255) (hA : NRow .u8 w A ys) (hn : ys.length = n) (hb : ByteList ys) (hnil : A = none → c = 0) (hlen : n ≤ 1099511627776) :
    Calls Tryd.prog 48 #[.int .u8 x, .slice A n c] w (ToldB (sealOut (x :: ys)) (sealErr (x :: ys)) w) := by
  obtain ⟨i0, hi, hz0, hz1, hz2⟩ := info_parts info_u8
  have HN := Lib.hid hn
  have HNIL := Lib.hid hnil
  have HO4 := Lib.hid (own_lit (w := w) (e := 5) [x] (by unfold maxLen; simp) #[.int .u8 x] rfl)
  have HE4 := Lib.hid (hA.alloc (.cells #[.int .u8 x] 5))
  have HOL := Lib.hid (show (x :: ys).length = 1 + n by rw [List.length_cons, hn]; omega)
  have HOB := Lib.hid (show ByteList (x :: ys) from fun y hy => (List.mem_cons.1 hy).elim (fun h => by rw [h]; exact hx) (hb y))
  clear hA hn hb hnil hx
  go_enter Tryd.func48, Tryd.ntmps48
  go_wp2_with (at_builtin; refine wpList_append_row rfl _ _ 27 rfl 5 i0 .u8 1 Tryd.underlying27 hi hz0 hz1 hz2 (.slice (some ⟨w.heap.size, 0, none⟩) 1 1) 1 _ rfl (by exact HO4.out.1) A n c ys rfl HN.out HE4.out HNIL.out (by unfold maxLen; omega) (by omega) ?_)
  intro v5 w5 hown hst
  have HO5 := Lib.hid (show w5.ownsRow 0 5 1 v5 (1 + n) ((x :: ys).map (Value.int .u8)) from hown)
  have HS5 := Lib.hid (show Moved w w5 [] from HO4.out.2.1.trans hst.1 (fun b hb => .inr (Step.new HO4.out.2 b hb)))
  clear hown hst
  obtain ⟨A5, c5, rfl, hn5, -⟩ := own_shape HO5.out
  have HN5 := Lib.hid hn5
  clear hn5
  go_wp2_with fail
  refine (refseal_any A5 _ c5 (x :: ys) w5 (NRow.of_own HO5.out) HOL.out HOB.out HN5.out (by omega)).mono ?_
  rintro e w6 ⟨v6, rfl, hO6, hS6⟩
  obtain ⟨A6, c6, rfl, -⟩ := own_shape hO6
  have HO6 := Lib.hid hO6
  have HS6 := Lib.hid (show Step w w6 [] (rowOf (.slice A6 (sealOut (x :: ys)).length c6)) from ⟨HS5.out.trans hS6.1 (fun _ h => by cases h), fun b hb => .inr (Nat.le_trans HS5.out.size (Step.new hS6 b hb))⟩)
  clear hO6 hS6
  go_wp2
  go_ret2
  exact ⟨_, rfl, HO6.out, HS6.out⟩
set_option maxRecDepth 100000 in
set_option maxHeartbeats 1000000 in
theorem qadd_any (q : Nat) (fq : List Nat) (s : DSt) (m : Nat) (A : Option Addr) (n c : Nat) (ys : List Int) (w : World) (hQ : QObj w q fq s m) (hY : Lent w fq A n c ys) (hm : m + n + 9 ≤ 1073741824) :
    Calls Tryd.prog 26 #[.pointer (some ⟨q, 0, none⟩), .slice A n c] w (Does QObj q fq (if 131071 < n then s else s.add (recFrame ys)) (m + n + 9) (.int .i64 (if 131071 < n then 5 else s.off)) w) := by
  have HQ := Lib.hid hQ
  have HY := Lib.hid hY
  have hyl := hY.len
  have HYL := Lib.hid (show (82 :: ys).length = 1 + n by rw [List.length_cons, hyl]; omega)
  clear hQ hY hyl
  by_cases hbig : 131071 < n
  · rw [if_pos hbig, if_pos hbig]
    have hso := seal_big (p := 82 :: ys) (by rw [HYL.out]; omega)
    go_enter Tryd.func26, Tryd.ntmps26
    go_wp2_with fail
    refine (qlay_any 82 A n c ys w (by omega) HY.out.row HY.out.len HY.out.bytes HY.out.nil (by omega)).mono ?_
    rw [hso.1, hso.2]
    rintro e w1 ⟨v1, rfl, hO1, hS1⟩
    obtain ⟨A1, c1, rfl, -⟩ := own_shape hO1
    have HQ1 := Lib.hid (HQ.out.stays (fun b hb => hS1.1.block b (HQ.out.lt b hb) (fun h => by cases h)))
    have HM1 := Lib.hid hS1.1
    clear hO1 hS1 hso
    go_wp2
    go_ret
    exact ⟨rfl, fq, HQ1.out.more (by omega), HM1.out.mono (fun _ h => by cases h), fun b hb => .inl hb⟩
  · rw [if_neg hbig, if_neg hbig]
    have hso := seal_fits (p := 82 :: ys) (by rw [HYL.out]; omega)
    obtain ⟨fo, hfo⟩ : ∃ fo, fo = frameOf (82 :: ys) := ⟨_, rfl⟩
    rw [← hfo] at hso
    have hfl : fo.length = 9 + n := by rw [hfo, frameOf_len, HYL.out]; omega
    have HFB := Lib.hid (show ByteList fo by rw [hfo]; exact logged_bytes (by omega) HY.out.bytes (by rw [HY.out.len]; omega))
    have HFO := Lib.hid hfo
    have HFL := Lib.hid hfl
    clear hfo hfl
    go_enter Tryd.func26, Tryd.ntmps26
    go_wp2_with fail
    refine (qlay_any 82 A n c ys w (by omega) HY.out.row HY.out.len HY.out.bytes HY.out.nil (by omega)).mono ?_
    rw [hso.1, hso.2]
    rintro e w1 ⟨v1, rfl, hO1, hS1⟩
    obtain ⟨A1, c1, rfl, hn1, hc1⟩ := own_shape hO1
    have HQ1 := Lib.hid (HQ.out.stays (fun b hb => hS1.1.block b (HQ.out.lt b hb) (fun h => by cases h)))
    have HM1 := Lib.hid hS1.1
    have HY1 : Hid (Lent w1 fq A1 fo.length c1 fo) := ⟨NRow.of_own hO1, rfl, hn1, hc1, HFB.out, fun b hb hf => by have := HQ.out.lt b hf; have := Step.new hS1 b (rowX_rowOf hb); omega⟩
    clear hO1 hS1 hso hn1 hc1
    go_wp2_with fail
    refine (qappend_any q fq s m A1 fo.length c1 fo w1 HQ1.out HY1.out (by rw [HFL.out]; omega)).mono ?_
    rintro e w2 ⟨rfl, f2, h2, hS2⟩
    have H2 := Lib.hid (show QObj w2 q f2 (s.add (recFrame ys)) (m + n + 9) by rw [HFO.out] at h2; exact h2.more (by rw [← HFO.out, HFL.out]; omega))
    have HS2 := Lib.hid (show Step w w2 fq f2 from ⟨(HM1.out.mono (fun _ h => by cases h)).trans hS2.1 (fun b hb => .inl hb), fun b hb => (hS2.2 b hb).imp id (Nat.le_trans HM1.out.size)⟩)
    clear h2 hS2
    go_wp2
    go_ret
    exact ⟨by first | rfl | (rw [HFO.out]; rfl), f2, H2.out, HS2.out⟩
set_option maxRecDepth 100000 in
set_option maxHeartbeats 1000000 in
theorem qcompact_any (q : Nat) (fq : List Nat) (s : DSt) (m : Nat) (A : Option Addr) (n c : Nat) (ys : List Int) (w : World) (hQ : QObj w q fq s m) (hY : Lent w fq A n c ys) (hm : m + n + 9 ≤ 1073741824) :
    Calls Tryd.prog 18 #[.pointer (some ⟨q, 0, none⟩), .slice A n c] w (Does QObj q fq (if 131071 < n then s else (s.swap (snapFrame ys)).2) (m + n + 9) (.int .i64 (if 131071 < n then 5 else (s.swap (snapFrame ys)).1)) w) := by
  have HQ := Lib.hid hQ
  have HY := Lib.hid hY
  have hyl := hY.len
  have HYL := Lib.hid (show (83 :: ys).length = 1 + n by rw [List.length_cons, hyl]; omega)
  clear hQ hY hyl
  by_cases hbig : 131071 < n
  · rw [if_pos hbig, if_pos hbig]
    have hso := seal_big (p := 83 :: ys) (by rw [HYL.out]; omega)
    go_enter Tryd.func18, Tryd.ntmps18
    go_wp2_with fail
    refine (qlay_any 83 A n c ys w (by omega) HY.out.row HY.out.len HY.out.bytes HY.out.nil (by omega)).mono ?_
    rw [hso.1, hso.2]
    rintro e w1 ⟨v1, rfl, hO1, hS1⟩
    obtain ⟨A1, c1, rfl, -⟩ := own_shape hO1
    have HQ1 := Lib.hid (HQ.out.stays (fun b hb => hS1.1.block b (HQ.out.lt b hb) (fun h => by cases h)))
    have HM1 := Lib.hid hS1.1
    clear hO1 hS1 hso
    go_wp2
    go_ret
    exact ⟨rfl, fq, HQ1.out.more (by omega), HM1.out.mono (fun _ h => by cases h), fun b hb => .inl hb⟩
  · rw [if_neg hbig, if_neg hbig]
    have hso := seal_fits (p := 83 :: ys) (by rw [HYL.out]; omega)
    obtain ⟨fo, hfo⟩ : ∃ fo, fo = frameOf (83 :: ys) := ⟨_, rfl⟩
    rw [← hfo] at hso
    have hfl : fo.length = 9 + n := by rw [hfo, frameOf_len, HYL.out]; omega
    have HFB := Lib.hid (show ByteList fo by rw [hfo]; exact logged_bytes (by omega) HY.out.bytes (by rw [HY.out.len]; omega))
    have HFO := Lib.hid hfo
    have HFL := Lib.hid hfl
    clear hfo hfl
    go_enter Tryd.func18, Tryd.ntmps18
    go_wp2_with fail
    refine (qlay_any 83 A n c ys w (by omega) HY.out.row HY.out.len HY.out.bytes HY.out.nil (by omega)).mono ?_
    rw [hso.1, hso.2]
    rintro e w1 ⟨v1, rfl, hO1, hS1⟩
    obtain ⟨A1, c1, rfl, hn1, hc1⟩ := own_shape hO1
    have HQ1 := Lib.hid (HQ.out.stays (fun b hb => hS1.1.block b (HQ.out.lt b hb) (fun h => by cases h)))
    have HM1 := Lib.hid hS1.1
    have HY1 : Hid (Lent w1 fq A1 fo.length c1 fo) := ⟨NRow.of_own hO1, rfl, hn1, hc1, HFB.out, fun b hb hf => by have := HQ.out.lt b hf; have := Step.new hS1 b (rowX_rowOf hb); omega⟩
    clear hO1 hS1 hso hn1 hc1
    go_wp2_with fail
    refine (qswap_any q fq s m A1 fo.length c1 fo w1 HQ1.out HY1.out (by rw [HFL.out]; omega)).mono ?_
    rintro e w2 ⟨rfl, f2, h2, hS2⟩
    have H2 := Lib.hid (show QObj w2 q f2 ((s.swap (snapFrame ys)).2) (m + n + 9) by rw [HFO.out] at h2; exact h2.more (by rw [← HFO.out, HFL.out]; omega))
    have HS2 := Lib.hid (show Step w w2 fq f2 from ⟨(HM1.out.mono (fun _ h => by cases h)).trans hS2.1 (fun b hb => .inl hb), fun b hb => (hS2.2 b hb).imp id (Nat.le_trans HM1.out.size)⟩)
    clear h2 hS2
    go_wp2
    go_ret
    exact ⟨by first | rfl | (rw [HFO.out]; rfl), f2, H2.out, HS2.out⟩
end Lg
end Go.Proofs.YtekleamkpfeifaaDoor
