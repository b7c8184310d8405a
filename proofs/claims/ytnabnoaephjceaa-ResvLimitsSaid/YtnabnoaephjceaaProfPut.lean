/-
  CONTRACT of profile.put.
-/
import Derived.Test.YtnabnoaephjceaaProfLook
import Derived.Test.YtnabnoaephjceaaRowWide
import Derived.Deep.OwnRows
namespace Go.Proofs.Ytnabnoaephjceaa
namespace Pf
open Go.RowKit Am
def cellsOf (L : List Sp) : List Value := L.flatMap fun s => [.int .i64 s.t, amt s.n 0]
theorem cellsOf_append (a b : List Sp) : cellsOf (a ++ b) = cellsOf a ++ cellsOf b := List.flatMap_append
theorem cellsOf_length (L : List Sp) : (cellsOf L).length = L.length * 2 := by
  induction L with
  | nil => rfl
  | cons a r ih => rw [cellsOf, List.flatMap_cons, List.length_append, show (r.flatMap _) = cellsOf r from rfl, ih]; simp; omega
theorem cellsOf_at : ∀ {L : List Sp} {i : Nat} {s : Sp}, L[i]? = some s → (cellsOf L)[i * 2]? = some (.int .i64 s.t) ∧ (cellsOf L)[i * 2 + 1]? = some (amt s.n 0)
  | [], i, s, h => by simp at h
  | a :: r, 0, s, h => by simp at h; subst h; exact ⟨rfl, rfl⟩
  | a :: r, i + 1, s, h => by
    have := cellsOf_at (L := r) (i := i) (s := s) (by simpa using h)
    rw [show (i + 1) * 2 = i * 2 + 2 by omega]
    exact this
/-- A row of the call's own that holds steps. -/
def Own (w : World) (v : Value) (L : List Sp) : Prop := w.ownsRow 0 81 2 v L.length (cellsOf L)
theorem Own.srow {w : World} {A : Option Addr} {n c : Nat} {L : List Sp} (h : Own w (.slice A n c) L) : SRow w A L := by
  intro i s hs
  rcases h.2 with ⟨_, h0⟩ | ⟨g, cap, cur, hv, _⟩
  · have := (List.getElem?_eq_some_iff.1 hs).1; omega
  · injection hv with hA
    subst hA
    have h1 := h.cells (g := g) rfl (i * 2) _ (cellsOf_at hs).1
    have h2 := h.cells (g := g) rfl (i * 2 + 1) _ (cellsOf_at hs).2
    rw [add_none_] at h1 h2
    exact ⟨g, 0, rfl, h1, h2⟩
/-- What put answers. -/
def putL (L : List Sp) (f t n : Nat) : List Sp := if t ≤ f ∨ L ≠ [] ∧ (L.getLast?.map Sp.n) = some n then L else L ++ [⟨f, n⟩]
theorem own_shape2 {w : World} {v : Value} {L : List Sp} (h : Own w v L) : ∃ A c, v = .slice A L.length c ∧ (A = none → c = 0) ∧ L.length ≤ c ∧ c ≤ 9223372036854775807 := by
  rcases h.2 with ⟨rfl, h0⟩ | ⟨g, cap, cur, rfl, _, _, hc, hm, _⟩
  · exact ⟨none, 0, by rw [h0], fun _ => rfl, by omega, by omega⟩
  · exact ⟨_, _, rfl, (fun hA => by cases hA), hc, by unfold maxLen at hm; omega⟩
theorem step_news (w : World) (f n : Nat) (x y : Nat) (hx : amt n 0 = .complex .f64 x y) (e : TypeId) : ∀ (j : Nat) u, (cellsOf [⟨f, n⟩])[j]? = some u → (w.alloc (.cells #[.int .i64 f, .complex .f64 x y] e)).cell? ((⟨w.heap.size, 0, none⟩ : Addr).add j) = some u := by
  intro j u hu
  rw [add_none_, cell_of_row _ _ _ _ _ _ (heap_alloc_new w _), ← hx]
  rw [Nat.zero_add]
  simpa [cellsOf] using hu
theorem cells_one (L : List Sp) : ∀ u ∈ cellsOf L, u.oneCell' = true := by
  intro u hu
  unfold cellsOf at hu
  rw [List.mem_flatMap] at hu
  obtain ⟨s, _, hs⟩ := hu
  simp only [List.mem_cons, List.not_mem_nil, or_false] at hs
  rcases hs with rfl | rfl <;> rfl
theorem step_info : (Try.prog.info? 81).map (fun i => (i.zero, i.size, i.bytes)) = some (some (.agg #[.int .i64 0, .complex .f64 0 0]), 2, 24) := by kernel_rfl
theorem eq_small {a b : Nat} (ha : a ≤ 2) (hb : b ≤ 2) : ∃ x y u v, amt a 0 = .complex .f64 x y ∧ amt b 0 = .complex .f64 u v ∧ Op.floatEq .f64 x u = decide (a = b) ∧ Op.floatEq .f64 y v = true := by
  refine ⟨_, _, _, _, rfl, rfl, ?_, ?_⟩
  all_goals
    rcases (by omega : b = 0 ∨ b = 1 ∨ b = 2) with rfl | rfl | rfl <;> rcases (by omega : a = 0 ∨ a = 1 ∨ a = 2) with rfl | rfl | rfl <;> decide +kernel
set_option maxRecDepth 100000 in
set_option maxHeartbeats 2000000 in
theorem put_any (L : List Sp) (f t n : Nat) (v : Value) (w : World) (z : Value) (hO : Own w v L) (hl : L.length ≤ 1048576) (hn : n ≤ 2) (hL : ∀ s ∈ L, s.n ≤ 2) (hz : ∃ x y, z = .complex .f64 x y) (hzn : f < t → z = amt n 0) :
    Calls Try.prog 43 #[v, .int .i64 f, .int .i64 t, z] w fun e w' => ∃ v', e = .returned v' ∧ Own w' v' (putL L f t n) ∧ Step w w' (rowOf v) (rowOf v') := by
  obtain ⟨i0, hi, hz0, hz1, hz2⟩ := info_parts step_info
  by_cases h : t ≤ f
  · have hp : putL L f t n = L := if_pos (.inl h)
    rw [hp]
    obtain ⟨x, y, rfl⟩ := hz
    obtain ⟨A, c, rfl, -⟩ := own_shape2 hO
    clear hp
    go_enter Try.func43, Try.ntmps43
    go_wp2
    go_ret
    exact ⟨_, rfl, hO, Step.refl _ _⟩
  · obtain rfl := hzn (by omega)
    clear hz hzn
    by_cases hL0 : L = []
    · have hp : putL L f t n = L ++ [⟨f, n⟩] := if_neg (by rintro (h' | ⟨h', -⟩); exact h h'; exact h' hL0)
      rw [hp]
      subst hL0
      obtain ⟨A, c, rfl, -⟩ := own_shape2 hO
      obtain ⟨x, y, hx⟩ := amt_parts n
      have HNEWS := Lib.hid (step_news w f n x y hx 81)
      have HO := Lib.hid (own_stays hO (w' := w.alloc (.cells #[.int .i64 f, .complex .f64 x y] 81)) (fun k hk => Below.heap_alloc w _ k (own_lt hO k hk)))
      rw [hx]
      clear hx hp hO
      go_enter Try.func43, Try.ntmps43
      go_wp2_with (first
        | refine wpList_append_roww rfl (.tmp 29) (.tmp 33) 61 rfl 81 i0 _ 2 24 Try.underlying61 hi hz0 hz1 hz2 rfl (by decide) _ _ _ rfl (by exact HO.out) ⟨w.heap.size, 0, none⟩ 1 1 (cellsOf [⟨f, n⟩]) rfl rfl (by exact HNEWS.out) (cells_one _) (by simp [maxLen]) (by simp) ?_)
      intro v' w' h1 h2
      have H1 := Lib.hid h1
      have H2 := Lib.hid h2
      clear h1 h2
      go_wp2
      go_ret
      exact ⟨v', rfl, by have := H1.out; rw [← cellsOf_append] at this; exact this, (Step.trans (step_alloc w _ _) H2.out)⟩
    · obtain ⟨q, hq⟩ : ∃ q, q + 1 = L.length := ⟨L.length - 1, by have := List.length_pos_iff.2 hL0; omega⟩
      obtain ⟨s, hs⟩ : ∃ s, L[q]? = some s := ⟨L[q]'(by omega), List.getElem?_eq_getElem _⟩
      have hlast : L.getLast? = some s := by rw [List.getLast?_eq_getElem?, ← hq]; simpa using hs
      have hsn := hL s (List.mem_of_getElem? hs)
      obtain ⟨A, c, rfl, hA0, hcl, hcm⟩ := own_shape2 hO
      obtain ⟨b, off, rfl, -, hc⟩ := (Own.srow hO) q s hs
      obtain ⟨x, y, u, v, e1, e2, e3, e4⟩ := eq_small hsn hn
      have HNEWS := Lib.hid (step_news w f n u v e2 81)
      have HO := Lib.hid (own_stays hO (w' := w.alloc (.cells #[.int .i64 f, .complex .f64 u v] 81)) (fun k hk => Below.heap_alloc w _ k (own_lt hO k hk)))
      have HO0 := Lib.hid hO
      rw [e1] at hc
      rw [e2]
      have hlen : L.length ≤ 1048576 := hl
      have HNE := Lib.hid hL0
      have HLA := Lib.hid hlast
      have h3 : (FloatKind.f64.format.order x u == some .eq) = decide (s.n = n) := e3
      have h4 : (FloatKind.f64.format.order y v == some .eq) = true := e4
      clear hO hs hlast hA0 hL hL0 hsn e1 e2 e3 e4
      obtain ⟨m, hm⟩ : ∃ m, m = L.length := ⟨_, rfl⟩
      rw [← hm] at hq hcl hlen hl ⊢
      have hqm : q = m - 1 := by omega
      have hm1 : 0 < m := by omega
      rw [hqm] at hc
      have HM := Lib.hid hm
      clear hm hqm hq
      by_cases hsame : s.n = n
      · have hp : putL L f t n = L := if_pos (.inr ⟨HNE.out, by rw [HLA.out, ← hsame]; rfl⟩)
        rw [hp]
        simp only [hsame, decide_true] at h3
        clear hp hsame
        go_enter Try.func43, Try.ntmps43
        go_wp2
        go_ret
        exact ⟨_, rfl, by rw [HM.out]; exact HO0.out, Step.refl _ _⟩
      · have hp : putL L f t n = L ++ [⟨f, n⟩] := if_neg (by rintro (h' | ⟨-, h'⟩); exact h h'; rw [HLA.out] at h'; exact hsame (by simpa using h'))
        rw [hp]
        simp only [hsame, decide_false] at h3
        have HO1 := Lib.hid (show (w.alloc (.cells #[.int .i64 f, .complex .f64 u v] 81)).ownsRow 0 81 2 (.slice (some ⟨b, off, none⟩) m c) m (cellsOf L) by rw [HM.out]; exact HO.out)
        clear hp hsame HO
        go_enter Try.func43, Try.ntmps43
        go_wp2_with (first
          | refine wpList_append_roww rfl (.tmp 29) (.tmp 33) 61 rfl 81 i0 _ 2 24 Try.underlying61 hi hz0 hz1 hz2 rfl (by decide) _ _ _ rfl (by exact HO1.out) ⟨w.heap.size, 0, none⟩ 1 1 (cellsOf [⟨f, n⟩]) rfl rfl (by exact HNEWS.out) (cells_one _) (by unfold maxLen; omega) (by omega) ?_)
        intro v' w' h1 h2
        have H1 := Lib.hid h1
        have H2 := Lib.hid h2
        clear h1 h2
        go_wp2
        go_ret
        exact ⟨v', rfl, by have := H1.out; rw [← cellsOf_append, HM.out] at this; exact (by simpa [Own] using this), (Step.trans (step_alloc w _ _) H2.out)⟩
end Pf
end Go.Proofs.Ytnabnoaephjceaa
