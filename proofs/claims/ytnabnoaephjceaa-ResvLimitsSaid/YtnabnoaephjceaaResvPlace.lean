/-
  CONTRACT of resv.place, where all are behind the one that is added, or none.
-/
import Derived.Test.YtnabnoaephjceaaResvOrder
import Derived.Deep.LoopGhost
namespace Go.Proofs.Ytnabnoaephjceaa
namespace Rv
open Go.RowKit Am Pf
theorem Row.at_ {w : World} {A : Option Addr} {l : List R} (h : Row w A l) {k : Nat} {r : R} (hr : l[k]? = some r) : ∃ g off, A = some ⟨g, off, none⟩ ∧
    w.cell? ⟨g, off + k * 8, none⟩ = some (.int .i64 r.a) ∧ w.cell? ⟨g, off + k * 8 + 1, none⟩ = some (.int .i64 r.i) ∧ w.cell? ⟨g, off + k * 8 + 2, none⟩ = some (.int .i64 r.n) ∧ w.cell? ⟨g, off + k * 8 + 3, none⟩ = some (.int .i64 r.b.f) ∧
    w.cell? ⟨g, off + k * 8 + 4, none⟩ = some (.int .i64 r.b.t) ∧ w.cell? ⟨g, off + k * 8 + 5, none⟩ = some (amt r.b.n 0) ∧ w.cell? ⟨g, off + k * 8 + 6, none⟩ = some (.bool r.sure) ∧ w.cell? ⟨g, off + k * 8 + 7, none⟩ = some (.int .i64 r.til) := by
  obtain ⟨g, off, e, hc⟩ := h k r hr
  exact ⟨g, off, e, hc 0 _ rfl, hc 1 _ rfl, hc 2 _ rfl, hc 3 _ rfl, hc 4 _ rfl, hc 5 _ rfl, hc 6 _ rfl, hc 7 _ rfl⟩
theorem eight_still {w w' : World} (h : Moved w w' []) {p0 p1 p2 p3 p4 p5 p6 p7 : Addr} {v0 v1 v2 v3 v4 v5 v6 v7 : Value} (h0 : w.cell? p0 = some v0) (h1 : w.cell? p1 = some v1) (h2 : w.cell? p2 = some v2) (h3 : w.cell? p3 = some v3) (h4 : w.cell? p4 = some v4) (h5 : w.cell? p5 = some v5) (h6 : w.cell? p6 = some v6) (h7 : w.cell? p7 = some v7) :
    w'.cell? p0 = some v0 ∧ w'.cell? p1 = some v1 ∧ w'.cell? p2 = some v2 ∧ w'.cell? p3 = some v3 ∧ w'.cell? p4 = some v4 ∧ w'.cell? p5 = some v5 ∧ w'.cell? p6 = some v6 ∧ w'.cell? p7 = some v7 :=
  ⟨one_still h h0, one_still h h1, one_still h h2, one_still h h3, one_still h h4, one_still h h5, one_still h h6, one_still h h7⟩
/-- Where r goes. -/
def Place (l : List R) (r : R) (p : Nat) : Prop := (∀ x ∈ l, Gt x r) ∧ p = 0 ∨ (∀ x ∈ l, ¬ Gt x r) ∧ p = l.length
set_option maxRecDepth 100000 in
set_option maxHeartbeats 2000000 in
theorem place_any (A : Option Addr) (n c : Nat) (l : List R) (r : R) (p : Nat) (w : World) (hn : l.length = n) (hl : n ≤ 1048576) (hR : Row w A l) (hP : Place l r p) :
    Calls Try.prog 11 #[.slice A n c, .agg r.cells.toArray] w fun e w' => e = .returned (.int .i64 p) ∧ Moved w w' [] := by
  subst hn
  have HR := Lib.hid hR
  have HP := Lib.hid hP
  obtain ⟨Z, T, hZ⟩ := amt_parts r.b.n
  have HORD : Hid (∀ (x : R) W, Calls Try.prog 19 #[.agg x.cells.toArray, .agg #[.int .i64 r.a, .int .i64 r.i, .int .i64 r.n, .int .i64 r.b.f, .int .i64 r.b.t, .complex .f64 Z T, .bool r.sure, .int .i64 r.til]] W fun e w' => ∃ o : Int, e = .returned (.int .i64 o) ∧ (0 < o ↔ Gt x r) ∧ Moved W w' []) := by
    intro x W
    rw [← hZ]
    exact order_any x r W
  unfold R.cells
  rw [hZ]
  clear hR hP hZ
  go_enter Try.func11, Try.ntmps11
  go_wp2_with fail
  obtain ⟨W, hW⟩ : ∃ W, W = w.alloc (.cells #[.int .i64 r.a, .int .i64 r.i, .int .i64 r.n, .int .i64 r.b.f, .int .i64 r.b.t, .complex .f64 Z T, .bool r.sure, .int .i64 r.til] 29) := ⟨_, rfl⟩
  rw [← hW]
  have HM : Hid (Moved w W []) := by rw [hW]; exact (Moved.refl w []).alloc _
  have hb2 : W.heap[w.heap.size]? = some (.cells #[.int .i64 r.a, .int .i64 r.i, .int .i64 r.n, .int .i64 r.b.f, .int .i64 r.b.t, .complex .f64 Z T, .bool r.sure, .int .i64 r.til] 29 (0, 0)) := by
    rw [hW]; exact heap_alloc_new w _
  have HB2 := Lib.hid hb2
  clear hW hb2
  obtain ⟨n, hn⟩ : ∃ n, n = l.length := ⟨_, rfl⟩
  rw [← hn] at hl ⊢
  have HN := Lib.hid hn
  clear hn
  go_loopw [5] (fun i wr => ∃ k : Nat, i = .int .i64 k ∧ k ≤ n ∧ Hid (k = n ∨ ∀ x ∈ l, Gt x r) ∧ Hid (Moved W wr [])) (fun i _ => (intOf i).toNat)
  case atStart => exact ⟨n, rfl, by omega, .inl rfl, Moved.refl _ _⟩
  case round =>
    obtain ⟨k, rfl, hk, HK, HMR⟩ := hrel
    rcases k with _ | k
    · have HP0 : Hid (p = 0) := by
        show _ = _
        rcases HP.out with ⟨_, h⟩ | ⟨h, h'⟩
        · exact h
        · rcases HK.out with h1 | h1
          · rw [h', ← HN.out, ← h1]
          · rcases l with _ | ⟨x, l⟩
            · exact h'
            · exact absurd (h1 x (by simp)) (h x (by simp))
      go_wp2_with fail
      go_quiet (fail)
      go_wp2
      go_ret
      exact ⟨by rw [HP0.out]; rfl, (HM.out.trans HMR.out (fun _ h => by cases h)).drewN _⟩
    · obtain ⟨x, hx⟩ : ∃ x, l[k]? = some x := ⟨l[k]'(by have := HN.out; omega), List.getElem?_eq_getElem _⟩
      obtain ⟨g, off, rfl, c0, c1, c2, c3, c4, c5, c6, c7⟩ := ((HR.out.still HM.out).still HMR.out).at_ hx
      have hb2 : wr.heap[w.heap.size]? = some (.cells #[.int .i64 r.a, .int .i64 r.i, .int .i64 r.n, .int .i64 r.b.f, .int .i64 r.b.t, .complex .f64 Z T, .bool r.sure, .int .i64 r.til] 29 (0, 0)) := (HMR.out.block _ (lt_of_block HB2.out) (fun h => by cases h)).trans HB2.out
      have d0 := cell_at hb2 0 rfl
      have d1 := cell_at hb2 1 rfl
      have d2 := cell_at hb2 2 rfl
      have d3 := cell_at hb2 3 rfl
      have d4 := cell_at hb2 4 rfl
      have d5 := cell_at hb2 5 rfl
      have d6 := cell_at hb2 6 rfl
      have d7 := cell_at hb2 7 rfl
      obtain ⟨X, Y, hX⟩ := amt_parts x.b.n
      rw [hX] at c5
      obtain ⟨F, hF⟩ : ∃ F : Int, F = x.b.f := ⟨_, rfl⟩
      obtain ⟨TT, hT⟩ : ∃ F : Int, F = x.b.t := ⟨_, rfl⟩
      rw [← hF] at c3
      rw [← hT] at c4
      have HO : Hid (∀ W, Calls Try.prog 19 #[.agg #[.int .i64 x.a, .int .i64 x.i, .int .i64 x.n, .int .i64 F, .int .i64 TT, .complex .f64 X Y, .bool x.sure, .int .i64 x.til], .agg #[.int .i64 r.a, .int .i64 r.i, .int .i64 r.n, .int .i64 r.b.f, .int .i64 r.b.t, .complex .f64 Z T, .bool r.sure, .int .i64 r.til]] W fun e w' => ∃ o : Int, e = .returned (.int .i64 o) ∧ (0 < o ↔ Gt x r) ∧ Moved W w' []) := by
        intro W
        rw [hF, hT, ← hX]
        exact HORD.out x W
      have HX := Lib.hid hx
      clear hx hb2 hX hF hT
      have hkn : (k : Int) < (n : Int) := by omega
      have hk0 : (0 : Int) ≤ (k : Int) := by omega
      obtain ⟨m, hm⟩ : ∃ m, m = k + 1 := ⟨_, rfl⟩
      rw [← hm]
      have hwr : IntKind.i64.wrap ((m : Int) - 1) = (k : Int) := by rw [IntWalk.i64_in _ (by omega)]; omega
      have hm0 : (0 : Int) < (m : Int) := by omega
      have hm0c : decide (0 < m) = true := by simp; omega
      have hm0b : decide ((0 : Int) < (m : Int)) = true := by simp; omega
      have HM1 := Lib.hid hm
      clear hm
      rcases HP.out with hp | hp
      all_goals
        have HPP := Lib.hid hp
        clear hp
        go_wp2_with fail
        go_region_held3 (fun w' => w'.cell? ⟨g, off + k * 8, none⟩ = some (.int .i64 x.a) ∧ w'.cell? ⟨g, off + k * 8 + 1, none⟩ = some (.int .i64 x.i) ∧ w'.cell? ⟨g, off + k * 8 + 2, none⟩ = some (.int .i64 x.n) ∧ w'.cell? ⟨g, off + k * 8 + 3, none⟩ = some (.int .i64 F) ∧
          w'.cell? ⟨g, off + k * 8 + 4, none⟩ = some (.int .i64 TT) ∧ w'.cell? ⟨g, off + k * 8 + 5, none⟩ = some (.complex .f64 X Y) ∧ w'.cell? ⟨g, off + k * 8 + 6, none⟩ = some (.bool x.sure) ∧ w'.cell? ⟨g, off + k * 8 + 7, none⟩ = some (.int .i64 x.til) ∧
          w'.cell? ⟨w.heap.size, 0, none⟩ = some (.int .i64 r.a) ∧ w'.cell? ⟨w.heap.size, 1, none⟩ = some (.int .i64 r.i) ∧ w'.cell? ⟨w.heap.size, 2, none⟩ = some (.int .i64 r.n) ∧ w'.cell? ⟨w.heap.size, 3, none⟩ = some (.int .i64 r.b.f) ∧
          w'.cell? ⟨w.heap.size, 4, none⟩ = some (.int .i64 r.b.t) ∧ w'.cell? ⟨w.heap.size, 5, none⟩ = some (.complex .f64 Z T) ∧ w'.cell? ⟨w.heap.size, 6, none⟩ = some (.bool r.sure) ∧ w'.cell? ⟨w.heap.size, 7, none⟩ = some (.int .i64 r.til)) (go_keep)
          ((go_at_call 19; refine (HO.out _).mono ?_; rintro e w3 ⟨o, rfl, hgt, hm3⟩; obtain ⟨q0, q1, q2, q3, q4, q5, q6, q7⟩ := eight_still (w := wr.drew) hm3 c0 c1 c2 c3 c4 c5 c6 c7; obtain ⟨u0, u1, u2, u3, u4, u5, u6, u7⟩ := eight_still (w := wr.drew) hm3 d0 d1 d2 d3 d4 d5 d6 d7; have HM3 := Lib.hid ((Moved.refl wr []).drew.trans hm3 (fun _ h => by cases h) : Moved wr w3 []); clear hm3; (first | (have hgt := hgt.2 (HPP.out.1 x (List.mem_of_getElem? HX.out))) | (have hgt := mt hgt.1 (HPP.out.1 x (List.mem_of_getElem? HX.out))))))
      · go_wp2
        go_round
        case rel => exact ⟨k, by go_num, by omega, .inr HPP.out.1, HMR.out.trans HM3.out (fun _ h => by cases h)⟩
        case measure => have := HM1.out; simp [intOf]; omega
      · have HE : Hid (p = m) := by
          show _ = _
          rcases HK.out with h | h
          · rw [HPP.out.2, ← HN.out]; have := HM1.out; omega
          · exact absurd (h x (List.mem_of_getElem? HX.out)) (HPP.out.1 x (List.mem_of_getElem? HX.out))
        go_wp2
        go_ret
        exact ⟨by rw [HE.out]; rfl, (HM.out.trans HMR.out (fun _ h => by cases h)).trans HM3.out (fun _ h => by cases h)⟩
end Rv
end Go.Proofs.Ytnabnoaephjceaa
