/-
  hanselaw09's ResvLimits, walked.
-/
import Derived.Test.YtnabnoaephjceaaResvLaws
namespace Go.Proofs.Ytnabnoaephjceaa
namespace Rv
open Go.RowKit Am Pf
def allCells (l : List R) : List Value := l.flatMap R.cells
theorem allCells_append (a b : List R) : allCells (a ++ b) = allCells a ++ allCells b := List.flatMap_append
theorem cells_len (r : R) : r.cells.length = 8 := rfl
theorem allCells_len (l : List R) : (allCells l).length = l.length * 8 := by
  induction l with
  | nil => rfl
  | cons a r ih => rw [allCells, List.flatMap_cons, List.length_append, show (r.flatMap _) = allCells r from rfl, ih, cells_len]; simp; omega
theorem allCells_at : ∀ {l : List R} {k : Nat} {r : R}, l[k]? = some r → ∀ j u, r.cells[j]? = some u → (allCells l)[k * 8 + j]? = some u
  | [], k, r, h => by simp at h
  | a :: l, 0, r, h => fun j u hu => by
    simp at h; subst h
    rw [allCells, List.flatMap_cons, Nat.zero_mul, Nat.zero_add, List.getElem?_append_left (List.getElem?_eq_some_iff.1 hu).1]
    exact hu
  | a :: l, k + 1, r, h => fun j u hu => by
    have := allCells_at (l := l) (k := k) (r := r) (by simpa using h) j u hu
    rw [allCells, List.flatMap_cons, List.getElem?_append_right (by rw [cells_len]; omega), cells_len, show (k + 1) * 8 + j - 8 = k * 8 + j by omega]
    exact this
def Own (w : World) (v : Value) (l : List R) : Prop := w.ownsRow 0 29 8 v l.length (allCells l)
theorem Own.row {w : World} {A : Option Addr} {n c : Nat} {l : List R} (h : Own w (.slice A n c) l) : Row w A l := by
  intro k r hr
  rcases h.2 with ⟨_, h0⟩ | ⟨g, cap, cur, hv, _⟩
  · have := (List.getElem?_eq_some_iff.1 hr).1; omega
  · injection hv with hA
    subst hA
    refine ⟨g, 0, rfl, fun j u hu => ?_⟩
    have h1 := h.cells (g := g) rfl (k * 8 + j) u (allCells_at hr j u hu)
    rw [add_none_, ← Nat.add_assoc] at h1
    exact h1
theorem own_shape8 {w : World} {v : Value} {l : List R} {n : Nat} (h : Own w v l) (hn : l.length = n) : ∃ A c, v = .slice A n c ∧ (A = none → c = 0) ∧ n ≤ c ∧ c ≤ 9223372036854775807 := by
  subst hn
  rcases h.2 with ⟨rfl, h0⟩ | ⟨g, cap, cur, rfl, _, _, hc, hm, _⟩
  · exact ⟨none, 0, by rw [h0], fun _ => rfl, by omega, by omega⟩
  · exact ⟨_, _, rfl, (fun hA => by cases hA), hc, by unfold maxLen at hm; omega⟩
theorem cells_one8 (l : List R) : ∀ u ∈ allCells l, u.oneCell' = true := by
  intro u hu
  unfold allCells at hu
  rw [List.mem_flatMap] at hu
  obtain ⟨r, _, hr⟩ := hu
  simp only [R.cells, List.mem_cons, List.not_mem_nil, or_false] at hr
  rcases hr with rfl | rfl | rfl | rfl | rfl | rfl | rfl | rfl <;> rfl
theorem news8 (w : World) (r : R) (cs : Array Value) (hc : cs = r.cells.toArray) (e : TypeId) : ∀ (j : Nat) u, (allCells [r])[j]? = some u → (w.alloc (.cells cs e)).cell? ((⟨w.heap.size, 0, none⟩ : Addr).add j) = some u := by
  intro j u hu
  rw [add_none_, cell_of_row _ _ _ _ _ _ (heap_alloc_new w _), Nat.zero_add, hc]
  simpa [allCells] using hu
set_option maxRecDepth 100000 in
theorem wakes_any (L : Laws) (w : World) : Calls Try.prog 5 #[] w fun e w' => e = .returned (.bool true) ∧ Moved w w' [] := by
  have h := L.add 2 none 0 0 [] ⟨0, 0, 1, ⟨3, 4, 1⟩, true, 0⟩ w (by decide) rfl (by decide) (fun k r hr => by simp at hr) (by omega) (by omega) (fun _ => rfl) (fun x hx => by simp at hx; subst hx; simp) (.inr ⟨fun x hx => (by cases hx), fitB_ok fitw⟩) (fun x hx => by cases hx) (fun x hx => by simp at hx; subst hx; simp [Small])
  rw [two_amt] at h
  simp only [R.cells] at h
  rw [one_amt] at h
  have H := Lib.hid h
  clear h
  go_enter Try.func5, Try.ntmps5
  go_wp2_with fail
  refine (H.out).mono ?_
  rintro e w' ⟨B, c', out, rfl, hr, -, ho, hM⟩
  obtain rfl := ho (by simp)
  obtain ⟨g, off, rfl, hc⟩ := hr 0 _ rfl
  have c2 := hc 2 (.int .i64 1) rfl
  simp only [Nat.zero_mul, Nat.add_zero] at c2
  clear hc hr ho
  go_wp2
  go_ret
  exact ⟨rfl, hM⟩
theorem lim_succ (k : Nat) : lim (k + 1) = lim k ++ [⟨0, 0, ((k + 1 : Nat) : Int), ⟨k, k + 1, 1⟩, false, 0⟩] := by simp [lim, List.range_succ]
theorem lim_len (k : Nat) : (lim k).length = k := by simp [lim]
theorem lim_add (L : Laws) (A : Option Addr) (c j : Nat) (x y : Int) (w : World) (hO : Own w (.slice A j c) (lim j)) (hlc : j ≤ c) (hcm : c ≤ 9223372036854775807) (hA0 : A = none → c = 0) (hj : j < 64) (hF : Fit 1 ((lim j).map R.b ++ [⟨500, 501, 1⟩])) (hF2 : Fit 1 (⟨500, 501, 1⟩ :: (lim j).map R.b)) (hxy : ¬ (x = 0 ∧ y = 0)) (hx : Small x) (hy : Small y) :
    Calls Try.prog 4 #[.complex .f64 4607182418800017408 0, .slice none 0 0, .slice A j c, .agg #[.int .i64 x, .int .i64 y, .int .i64 7, .int .i64 500, .int .i64 501, .complex .f64 4607182418800017408 0, .bool false, .int .i64 0]] w fun e w' => ∃ B c', e = .returned (.tuple #[.slice B (j + 1) c', .int .i64 0]) ∧ Moved w w' [] := by
  have h := L.add 1 A j c (lim j) ⟨x, y, 7, ⟨500, 501, 1⟩, false, 0⟩ w (by decide) (lim_len j) hj hO.row hlc hcm hA0 (fun r hr => by
    rcases List.mem_cons.1 hr with rfl | hr
    · simp
    · unfold lim at hr
      rw [List.mem_map] at hr
      obtain ⟨q, hq, rfl⟩ := hr
      rw [List.mem_range] at hq
      refine ⟨Nat.lt_succ_self q, ?_, by simp⟩
      show q + 1 ≤ _
      omega) (by
    rcases (by omega : (x < 0 ∨ x = 0 ∧ y < 0) ∨ (0 < x ∨ x = 0 ∧ 0 < y)) with h | h
    · refine .inl ⟨fun r hr => ?_, hF2⟩
      unfold lim at hr
      rw [List.mem_map] at hr
      obtain ⟨q, hq, rfl⟩ := hr
      show x < 0 ∨ (x = 0 ∧ (y < 0 ∨ (y = 0 ∧ _)))
      rcases h with h | ⟨h, h'⟩
      · exact .inl h
      · exact .inr ⟨h, .inl h'⟩
    · refine .inr ⟨fun r hr => ?_, hF⟩
      unfold lim at hr
      rw [List.mem_map] at hr
      obtain ⟨q, hq, rfl⟩ := hr
      show ¬ (x < 0 ∨ (x = 0 ∧ (y < 0 ∨ (y = 0 ∧ _))))
      rintro (h1 | ⟨h1, h2 | ⟨h2, -⟩⟩) <;> omega) (fun r hr => by
    unfold lim at hr
    rw [List.mem_map] at hr
    obtain ⟨q, _, rfl⟩ := hr
    rintro ⟨h1, h2, -⟩
    exact hxy ⟨h1.symm, h2.symm⟩) (fun r hr => by
    rcases List.mem_cons.1 hr with rfl | hr
    · exact ⟨hx, hy, by simp [Small], by simp [Small]⟩
    · unfold lim at hr
      rw [List.mem_map] at hr
      obtain ⟨q, hq, rfl⟩ := hr
      rw [List.mem_range] at hq
      refine ⟨by simp [Small], by simp [Small], ?_, by simp [Small]⟩
      show -9223372036854775808 ≤ ((q + 1 : Nat) : Int) ∧ ((q + 1 : Nat) : Int) ≤ 9223372036854775807
      omega)
  simp only [R.cells, show ((500 : Nat) : Int) = 500 from rfl, show ((501 : Nat) : Int) = 501 from rfl] at h
  rw [one_amt] at h
  exact h.mono fun e w' ⟨B, c', out, h1, _, _, _, h2⟩ => ⟨B, c', h1, h2⟩
set_option maxRecDepth 100000 in
set_option maxHeartbeats 2000000 in
theorem limits_any (L : Laws) (n x y : Int) (w : World) (hx : Small x) (hy : Small y) (hn : Small n) :
    Calls Try.prog 3 #[.int .i64 n, .agg #[.int .i64 x, .int .i64 y]] w fun e w' => e = .returned (.bool true) ∧ Below w.heap.size w w' := by
  obtain ⟨i0, hi, hz0, hz1, hz2⟩ := info_parts info_resv
  by_cases h0 : n < 0
  · go_enter Try.func3, Try.ntmps3
    go_wp2
    go_ret
    exact ⟨rfl, (Below.refl _ _).alloc (Nat.le_refl _) _⟩
  by_cases h1 : 2 < n
  · go_enter Try.func3, Try.ntmps3
    go_wp2
    go_ret
    exact ⟨rfl, (Below.refl _ _).alloc (Nat.le_refl _) _⟩
  by_cases h2 : x = 0 ∧ y = 0
  · obtain ⟨rfl, rfl⟩ := h2
    go_enter Try.func3, Try.ntmps3
    go_wp2
    go_ret
    exact ⟨rfl, (Below.refl _ _).alloc (Nat.le_refl _) _⟩
  obtain ⟨k, rfl⟩ : ∃ k : Nat, n = k := ⟨n.toNat, by omega⟩
  have hk : k ≤ 2 := by omega
  obtain ⟨N, hN⟩ : ∃ N, N = 62 + k := ⟨_, rfl⟩
  have HXY := Lib.hid h2
  have HSX := Lib.hid hx
  have HSY := Lib.hid hy
  clear hx hy
  rcases (by omega : x ≠ 0 ∨ (x = 0 ∧ y ≠ 0)) with hd | ⟨hx0, hd⟩
  case' inl => have he : (x == 0) = false := by simpa using hd
  case' inr =>
    have he : (y == 0) = false := by simpa using hd
    have HX0 := Lib.hid hx0
    clear hx0
  all_goals
    go_enter Try.func3, Try.ntmps3
    go_wp2_with fail
    obtain ⟨W, hW⟩ : ∃ W, W = w.alloc (.cells #[.int .i64 x, .int .i64 y] 23) := ⟨_, rfl⟩
    rw [← hW]
    go_loopw [5, 6] (fun v i wr => ∃ j : Nat, i = .int .i64 j ∧ j ≤ N ∧ Hid (Own wr v (lim j)) ∧ Hid (∀ b ∈ rowOf v, W.heap.size ≤ b) ∧ Hid (Moved W wr [])) (fun _ i _ => N - (intOf i).toNat)
    case atStart => exact ⟨0, rfl, by omega, World.ownsRow_nil _ _ _ _, fun b hb => by simp [rowOf, Value.ownBlock] at hb, Moved.refl _ _⟩
    case round =>
      obtain ⟨j, rfl, hj, HO, HG, HM⟩ := hrel
      by_cases hlt : j < N
      · obtain ⟨A, c, rfl, hA0, hlc, hcm⟩ := own_shape8 HO.out (lim_len j)
        have HO1 := Lib.hid (own_stays (show wr.ownsRow 0 29 8 (.slice A j c) j (allCells (lim j)) by have := HO.out; unfold Own at this; rw [lim_len] at this; exact this) (w' := wr.alloc (.cells #[.int .i64 0, .int .i64 0, .int .i64 ((j : Int) + 1), .int .i64 j, .int .i64 ((j : Int) + 1), .complex .f64 4607182418800017408 0, .bool false, .int .i64 0] 29)) (fun k hk => Below.heap_alloc wr _ k (own_lt HO.out k hk)))
        have HNEWS := Lib.hid (news8 wr ⟨0, 0, ((j + 1 : Nat) : Int), ⟨j, j + 1, 1⟩, false, 0⟩ #[.int .i64 0, .int .i64 0, .int .i64 ((j : Int) + 1), .int .i64 j, .int .i64 ((j : Int) + 1), .complex .f64 4607182418800017408 0, .bool false, .int .i64 0] (by rw [R.cells, one_amt]; rfl) 29)
        go_wp2_with (first
          | refine wpList_append_roww rfl (.tmp 26) (.tmp 34) 24 rfl 29 i0 _ 8 72 Try.underlying24 hi hz0 hz1 hz2 rfl (by decide) _ _ _ rfl (by exact HO1.out) ⟨wr.heap.size, 0, none⟩ 1 1 (allCells [⟨0, 0, ((j + 1 : Nat) : Int), ⟨j, j + 1, 1⟩, false, 0⟩]) rfl rfl (by exact HNEWS.out) (cells_one8 _) (by unfold maxLen; omega) (by omega) ?_)
        intro v' w' h1 h2
        have H1 := Lib.hid (show Own w' v' (lim (j + 1)) by unfold Own; rw [lim_len, lim_succ, allCells_append]; exact h1)
        have H2 := Lib.hid h2
        clear h1 h2
        go_wp2
        go_round
        case rel =>
          have hsz := HM.out.size
          have h2 := H2.out
          refine ⟨j + 1, by go_num, by omega, H1.out, fun b hb => ?_, (HM.out.alloc _).trans h2.1 (fun b hb => .inr (HG.out b hb))⟩
          rcases h2.2 b hb with h' | h'
          · exact HG.out b h'
          · have : (wr.alloc (.cells #[.int .i64 0, .int .i64 0, .int .i64 ((j : Int) + 1), .int .i64 j, .int .i64 ((j : Int) + 1), .complex .f64 4607182418800017408 0, .bool false, .int .i64 0] 29)).heap.size = wr.heap.size + 1 := by simp
            omega
        case measure => simp [intOf]; omega
      · obtain rfl : j = N := by omega
        obtain ⟨A, c, rfl, hA0, hlc, hcm⟩ := own_shape8 HO.out (lim_len j)
        have hc0 : W.cell? ⟨w.heap.size, 0, none⟩ = some (.int .i64 x) := by rw [hW, cell_of_row _ _ _ _ _ _ (heap_alloc_new w _)]; rfl
        have hc1 : W.cell? ⟨w.heap.size, 1, none⟩ = some (.int .i64 y) := by rw [hW, cell_of_row _ _ _ _ _ _ (heap_alloc_new w _)]; rfl
        obtain ⟨d0, d1⟩ := two_still HM.out hc0 hc1
        have HW : Hid (Moved w W []) := by rw [hW]; exact (Moved.refl w []).alloc _
        have hge : ¬ ((j : Int) < 62 + (k : Int)) := by omega
        have hj63 : j < 1000 := by omega
        rcases (by omega : (k = 2 ∧ j = 64) ∨ (k ≠ 2 ∧ j < 64 ∧ (j = 62 ∨ j = 63))) with hkj | ⟨hk2, hj64, hkj⟩
        · have hk2 : ((k : Int) == 2) = true := by simp; omega
          have HADD := L.full 1 A j c ⟨x, y, 7, ⟨500, 501, 1⟩, false, 0⟩ wr (by omega) (by omega)
          clear hN hk hj hlt hkj
          simp only [R.cells, show ((500 : Nat) : Int) = 500 from rfl, show ((501 : Nat) : Int) = 501 from rfl] at HADD
          rw [one_amt] at HADD
          have HADD := Lib.hid HADD
          go_wp2_with fail
          refine HADD.out.mono ?_
          rintro e w' ⟨B, c', rfl, hM⟩
          have HM2 := Lib.hid hM
          clear hM
          go_wp2_with fail
          refine (wakes_any L _).mono ?_
          rintro e w'' ⟨rfl, hM⟩
          have HM3 := Lib.hid hM
          clear hM
          go_wp2
          go_ret
          exact ⟨rfl, (Pf.Moved.then0 (Pf.Moved.then0 (Pf.Moved.then0 HW.out HM.out) HM2.out) HM3.out).below (Nat.le_refl _) (fun _ h => by cases h)⟩
        · have HFIT : Hid (Fit 1 ((lim j).map R.b ++ [⟨500, 501, 1⟩])) := by
            show Fit _ _
            rw [lim_b]
            rcases hkj with rfl | rfl
            · exact fitB_ok fit62
            · exact fitB_ok fit63
          have HFIT2 : Hid (Fit 1 (⟨500, 501, 1⟩ :: (lim j).map R.b)) := by
            show Fit _ _
            rw [lim_b]
            rcases hkj with rfl | rfl
            · exact fitB_ok fit62a
            · exact fitB_ok fit63a
          have hk2 : ((k : Int) == 2) = false := by simp; omega
          have HADD := Lib.hid (lim_add L A c _ x y wr HO.out hlc hcm hA0 (by omega) HFIT.out HFIT2.out HXY.out HSX.out HSY.out)
          clear hlc hcm hA0 hc0 hc1 HFIT HFIT2 hN hk hj hlt hkj
          go_wp2_with fail
          refine HADD.out.mono ?_
          rintro e w' ⟨B, c', rfl, hM⟩
          have HM2 := Lib.hid hM
          clear hM
          go_wp2_with fail
          refine (wakes_any L _).mono ?_
          rintro e w'' ⟨rfl, hM⟩
          have HM3 := Lib.hid hM
          clear hM
          go_wp2
          go_ret
          exact ⟨rfl, (Pf.Moved.then0 (Pf.Moved.then0 (Pf.Moved.then0 HW.out HM.out) HM2.out) HM3.out).below (Nat.le_refl _) (fun _ h => by cases h)⟩
end Rv
end Go.Proofs.Ytnabnoaephjceaa
