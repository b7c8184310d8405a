/-
  CONTRACTS of life.right, of slices.Clone over ints, and of Walk's own question after the next event.
-/
import Derived.Test.YtmaoemedodpebabDoorLifeLd
import Derived.Test.YtmaoemedodpebabDoorMemStep
namespace Go.Proofs.YtmaoemedodpebabDoor
namespace Lf
open Go.RowKit
theorem right_any (s : Int) (w : World) : Calls Tryd.prog 7 #[.int .i64 s] w fun e w' => e = .returned (.bool (decide (isSt s))) ∧ w = w' := by
  by_cases h0 : 0 ≤ s
  · by_cases h1 : s < 8
    · have hd : decide (isSt s) = true := decide_eq_true (show 0 ≤ s ∧ s ≤ 7 from ⟨h0, by omega⟩)
      have d0 : decide (0 ≤ s) = true := by simpa using h0
      have d1 : decide (s < 8) = true := by simpa using h1
      have HD := Lib.hid hd
      clear hd
      go_enter Tryd.func7, Tryd.ntmps7
      go_wp2
      go_ret
      exact ⟨by rw [HD.out]; rfl, rfl⟩
    · have hd : decide (isSt s) = false := decide_eq_false (fun h => by have h1 := h.1; have h2 := h.2; omega)
      have d0 : decide (0 ≤ s) = true := by simpa using h0
      have d1 : decide (s < 8) = false := by simpa using h1
      have HD := Lib.hid hd
      clear hd
      go_enter Tryd.func7, Tryd.ntmps7
      go_wp2
      go_ret
      exact ⟨by rw [HD.out]; rfl, rfl⟩
  · have hd : decide (isSt s) = false := decide_eq_false (fun h => by have h1 := h.1; have h2 := h.2; omega)
    have d0 : decide (0 ≤ s) = false := by simpa using h0
    have HD := Lib.hid hd
    clear hd
    go_enter Tryd.func7, Tryd.ntmps7
    go_wp2
    go_ret
    exact ⟨by rw [HD.out]; rfl, rfl⟩
theorem right_yes {s : Int} (h : isSt s) (w : World) : Calls Tryd.prog 7 #[.int .i64 s] w fun e w' => e = .returned (.bool true) ∧ w = w' :=
  (right_any s w).mono fun e w' hr => by rw [show decide (isSt s) = true by simpa using h] at hr; exact hr
theorem right_no {s : Int} (h : ¬ isSt s) (w : World) : Calls Tryd.prog 7 #[.int .i64 s] w fun e w' => e = .returned (.bool false) ∧ w = w' :=
  (right_any s w).mono fun e w' hr => by rw [show decide (isSt s) = false by simpa using h] at hr; exact hr
/-- What the machine's question stands on: how many were asked for, the row that leads to the first state, the row of events. -/
structure Cl (w0 w : World) (A6 : Option Addr) (n6 c6 : Nat) (A3 : Option Addr) (n3 c3 : Nat) (p7 p6 p3 j : Nat) : Prop where
  at7 : w.heap[p7]? = some (.cells #[.int .i64 j] 3 (0, 0))
  at6 : w.heap[p6]? = some (.cells #[.slice A6 n6 c6] 22 (0, 0))
  at3 : w.heap[p3]? = some (.cells #[.slice A3 n3 c3] 22 (0, 0))
  new7 : w0.heap.size ≤ p7
  d67 : p6 ≠ p7
  d37 : p3 ≠ p7
  moved : Moved w0 w []
theorem Cl.next {w0 w : World} {A6 A3 : Option Addr} {n6 c6 n3 c3 p7 p6 p3 j : Nat} (h : Cl w0 w A6 n6 c6 A3 n3 c3 p7 p6 p3 j) (k : Nat) : Cl w0 (w.setCell ⟨p7, 0, none⟩ (.int .i64 k)) A6 n6 c6 A3 n3 c3 p7 p6 p3 k :=
  ⟨one_setCell h.at7, by rw [Below.heap_setCell _ _ _ _ h.d67]; exact h.at6, by rw [Below.heap_setCell _ _ _ _ h.d37]; exact h.at3, h.new7, h.d67, h.d37, h.moved.setCell (.inr h.new7) _⟩
theorem Cl.row {w0 w : World} {A6 A3 : Option Addr} {n6 c6 n3 c3 p7 p6 p3 j : Nat} (h : Cl w0 w A6 n6 c6 A3 n3 c3 p7 p6 p3 j) {A : Option Addr} {xs : List Int} (hA : IRow w0 A xs) : IRow w A xs := irow_moved hA h.moved
set_option maxRecDepth 100000 in
set_option maxHeartbeats 1000000 in
theorem asks_any (w0 w : World) (A6 A3 : Option Addr) (n6 c6 n3 c3 p7 p6 p3 j : Nat) (xs ys : List Int) (hC : Cl w0 w A6 n6 c6 A3 n3 c3 p7 p6 p3 j) (hX : IRow w0 A6 xs) (hY : IRow w0 A3 ys) (hx : xs.length = n6) (hy : ys.length = n3) (h6 : n6 ≤ 8) (hj : j ≤ 2000000) :
    Calls Tryd.prog 8 #[.pointer (some ⟨p7, 0, none⟩), .pointer (some ⟨p6, 0, none⟩), .pointer (some ⟨p3, 0, none⟩)] w fun e w' => e = .returned (.int .i64 ((xs ++ ys).getD j 0)) ∧ Cl w0 w' A6 n6 c6 A3 n3 c3 p7 p6 p3 (j + 1) := by
  have HC1 : Hid (Cl w0 (w.setCell ⟨p7, 0, none⟩ (.int .i64 ((j : Int) + 1))) A6 n6 c6 A3 n3 c3 p7 p6 p3 (j + 1)) := hC.next (j + 1)
  have c7 := cell_at hC.at7 0 (v := .int .i64 j) rfl
  have f7 := free_at hC.at7 0
  have d6o := cell_at hC.at6 0 (v := .slice A6 n6 c6) rfl
  have d6 := cell_at HC1.out.at6 0 (v := .slice A6 n6 c6) rfl
  have d3 := cell_at HC1.out.at3 0 (v := .slice A3 n3 c3) rfl
  have e1 : IntKind.i64.wrap ((j : Int) - (n6 : Int)) = (j : Int) - (n6 : Int) := IntWalk.i64_in _ (by omega)
  have e2 : IntKind.i64.wrap ((j : Int) + 1) = (j : Int) + 1 := IntWalk.i64_in _ (by omega)
  have e3 : IntKind.i64.wrap ((n6 : Int) + ((j : Int) - (n6 : Int))) = (j : Int) := by rw [IntWalk.i64_in _ (by omega)]; omega
  have HX1 := Lib.hid (HC1.out.row hX)
  have HY1 := Lib.hid (HC1.out.row hY)
  have HX := Lib.hid hx
  have HY := Lib.hid hy
  clear hC hX hY hx hy
  by_cases hlo : j < n6
  · obtain ⟨x, hx⟩ : ∃ x, xs[j]? = some x := ⟨xs[j]'(by rw [HX.out]; exact hlo), List.getElem?_eq_getElem _⟩
    obtain ⟨b, off, rfl, hc⟩ := HX1.out j x hx
    have HE : Hid ((xs ++ ys).getD j 0 = x) := by
      show (xs ++ ys).getD j 0 = x
      rw [List.getD_eq_getElem?_getD, List.getElem?_append_left (by rw [HX.out]; exact hlo), hx]; rfl
    have d0 : decide ((j : Int) - (n6 : Int) < 0) = true := by simp; omega
    clear hx
    go_enter Tryd.func8, Tryd.ntmps8
    go_wp2
    go_ret
    exact ⟨by rw [HE.out]; rfl, HC1.out⟩
  · have d0 : decide ((j : Int) - (n6 : Int) < 0) = false := by simp; omega
    by_cases hhi : j < n6 + n3
    · obtain ⟨i, hi⟩ : ∃ i, j = n6 + i := ⟨j - n6, by omega⟩
      have hin : i < n3 := by omega
      obtain ⟨x, hx⟩ : ∃ x, ys[i]? = some x := ⟨ys[i]'(by rw [HY.out]; exact hin), List.getElem?_eq_getElem _⟩
      obtain ⟨b, off, rfl, hc⟩ := HY1.out i x hx
      have HE : Hid ((xs ++ ys).getD j 0 = x) := by
        show (xs ++ ys).getD j 0 = x
        rw [List.getD_eq_getElem?_getD, List.getElem?_append_right (by rw [HX.out]; omega), show j - xs.length = i by rw [HX.out]; omega, hx]; rfl
      have e5 : (j : Int) - (n6 : Int) = (i : Int) := by omega
      have e9 : IntKind.i64.wrap ((j : Int) - (n6 : Int)) = (i : Int) := by rw [e1, e5]
      clear e1
      rw [e5] at d0
      have d1 : decide ((i : Int) < (n3 : Int)) = true := by simp; omega
      have HJ := Lib.hid hi
      clear hx e5 hi
      go_enter Tryd.func8, Tryd.ntmps8
      go_wp2
      go_ret
      exact ⟨by rw [HE.out]; rfl, HC1.out⟩
    · have HE : Hid ((xs ++ ys).getD j 0 = 0) := by
        show (xs ++ ys).getD j 0 = 0
        rw [List.getD_eq_getElem?_getD, List.getElem?_eq_none (by rw [List.length_append, HX.out, HY.out]; omega)]; rfl
      have d1 : decide ((j : Int) - (n6 : Int) < (n3 : Int)) = false := by simp; omega
      go_enter Tryd.func8, Tryd.ntmps8
      go_wp2
      go_ret
      exact ⟨by rw [HE.out]; rfl, HC1.out⟩
end Lf
end Go.Proofs.YtmaoemedodpebabDoor
