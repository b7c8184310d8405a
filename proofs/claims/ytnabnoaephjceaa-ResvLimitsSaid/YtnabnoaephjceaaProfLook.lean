/-
  A Profile in memory; CONTRACTS of look, taken, its closure, amount.Fits at small amounts.
-/
import Derived.Test.YtnabnoaephjceaaProfPlace
import Derived.Laws.ComplexArith
namespace Go.Proofs.Ytnabnoaephjceaa
namespace Pf
open Go.RowKit Am
/-- What is told of steps of which none are kept: all is free. -/
def view (cap : Nat) (L : List Sp) : List Sp := if L = [] then [⟨0, cap⟩] else L
/-- A Profile at block p: its amount, the steps that it keeps. -/
def PAt (w : World) (p cap : Nat) (L : List Sp) : Prop :=
  ∃ A c, w.heap[p]? = some (.cells #[amt cap 0, .slice A L.length c] 63 (0, 0)) ∧ SRow w A L ∧ L.length ≤ c ∧ c ≤ 9223372036854775807 ∧ (A = none → c = 0)
theorem PAt.still {w w' : World} {p cap : Nat} {L : List Sp} (h : PAt w p cap L) (hm : Moved w w' []) : PAt w' p cap L := by
  obtain ⟨A, c, h1, h2, h3⟩ := h
  exact ⟨A, c, (hm.block p (lt_of_block h1) (by simp)).trans h1, h2.still hm, h3⟩
theorem PAt.lt {w : World} {p cap : Nat} {L : List Sp} (h : PAt w p cap L) : p < w.heap.size := by obtain ⟨A, c, h1, _⟩ := h; exact lt_of_block h1
/-- A slice that reads as steps. -/
def Steps (w : World) (v : Value) (L : List Sp) : Prop := ∃ A c, v = .slice A L.length c ∧ SRow w A L ∧ L.length ≤ c ∧ c ≤ 9223372036854775807 ∧ (A = none → c = 0)
theorem srow_one (w : World) (n : Nat) (e : TypeId) : SRow (w.alloc (.cells #[.int .i64 (0 : Nat), amt n 0] e)) (some ⟨w.heap.size, 0, none⟩) [⟨0, n⟩] := by
  intro i s hs
  rcases i with _ | i
  · simp at hs; subst hs
    exact ⟨w.heap.size, 0, rfl, by rw [cell_of_row _ _ _ _ _ _ (heap_alloc_new w _)]; rfl, by rw [cell_of_row _ _ _ _ _ _ (heap_alloc_new w _)]; rfl⟩
  · simp at hs
theorem amt_parts (n : Nat) : ∃ x y, amt n 0 = .complex .f64 x y := ⟨_, _, rfl⟩
set_option maxRecDepth 100000 in
theorem look_any (p cap : Nat) (L : List Sp) (w : World) (hP : PAt w p cap L) (hl : L.length ≤ 1048576) :
    Calls Try.prog 41 #[.pointer (some ⟨p, 0, none⟩)] w fun e w' => (∃ v, e = .returned v ∧ Steps w' v (view cap L)) ∧ Moved w w' [] := by
  obtain ⟨A, c, h1, h2, h3, h4, h5⟩ := hP
  have H1 := cell_at h1 0 rfl
  have H2 := cell_at h1 1 rfl
  obtain ⟨x, y, hx⟩ := amt_parts cap
  have HR := Lib.hid h2
  have HX := Lib.hid hx
  simp only [List.getElem_toArray, List.getElem_cons_zero, List.getElem_cons_succ] at H1 H2
  rw [hx] at H1
  clear h1 h2
  by_cases hL : L = []
  · subst hL
    simp only [List.length_nil] at *
    clear hx
    go_enter Try.func41, Try.ntmps41
    go_wp2
    go_ret
    refine ⟨⟨_, rfl, some ⟨w.heap.size, 0, none⟩, 1, rfl, ?_, by simp [view], by omega, fun h => by cases h⟩, (Moved.refl w []).alloc _⟩
    have := srow_one w cap 81
    rw [HX.out] at this
    exact this
  · have hpos : 0 < L.length := List.length_pos_iff.2 hL
    have hv : view cap L = L := if_neg hL
    rw [hv]
    have HLEN := Lib.hid (rfl : L.length = L.length)
    obtain ⟨n, hn⟩ : ∃ n, n = L.length := ⟨_, rfl⟩
    rw [← hn] at hpos hl H2 h3
    have HN := Lib.hid hn
    clear hx hn hv hL
    go_enter Try.func41, Try.ntmps41
    go_wp2
    go_ret
    exact ⟨⟨.slice A n c, rfl, A, c, by rw [← HN.out], HR.out, by rw [← HN.out]; exact h3, h4, h5⟩, Moved.refl w []⟩
set_option maxRecDepth 100000 in
theorem taken_any (n : Nat) (w : World) :
    Calls Try.prog 35 #[amt n 0] w fun e w' => ∃ b, e = .returned (.func (.func 44) #[] #[.pointer (some ⟨b, 0, none⟩)]) ∧ w'.cell? ⟨b, 0, none⟩ = some (amt n 0) ∧ Moved w w' [] := by
  obtain ⟨x, y, hx⟩ := amt_parts n
  rw [hx]
  have c1 := cell_own w (.complex .f64 x y) 25
  clear hx
  go_enter Try.func35, Try.ntmps35
  have hmf : ∀ (fn : Fn) (first cap : Array Value) (w : World), (Instr.makeFunc fn first cap).run Try.prog w = .ok (.func fn first cap) w := fun _ _ _ _ => rfl
  go_wp2
  go_ret
  exact ⟨w.heap.size, rfl, c1, (Moved.refl w []).alloc _⟩
/-- Small amounts are taken exactly. -/
theorem less_small {a b : Nat} (hb : b ≤ 2) (ha : a ≤ b) : ∃ x y u v z t, amt b 0 = .complex .f64 x y ∧ amt a 0 = .complex .f64 u v ∧ amt (b - a : Nat) 0 = .complex .f64 z t ∧ cSumBits .sub .f64 x y u v = some (z, t) := by
  refine ⟨_, _, _, _, _, _, rfl, rfl, rfl, ?_⟩
  rcases (by omega : b = 0 ∨ b = 1 ∨ b = 2) with rfl | rfl | rfl <;> rcases (by omega : a = 0 ∨ a = 1 ∨ a = 2) with rfl | rfl | rfl <;> first | omega | decide +kernel
/-- Small amounts are taken, be there as much or not. -/
theorem take_small {a b : Nat} (hb : b ≤ 2) (ha : a ≤ 2) : ∃ x y u v z t, amt b 0 = .complex .f64 x y ∧ amt a 0 = .complex .f64 u v ∧ cSumBits .sub .f64 x y u v = some (z, t) ∧ (a ≤ b → amt (b - a : Nat) 0 = .complex .f64 z t) := by
  by_cases h : a ≤ b
  · obtain ⟨x, y, u, v, z, t, e1, e2, e3, e4⟩ := less_small hb h
    exact ⟨x, y, u, v, z, t, e1, e2, e4, fun _ => e3⟩
  · refine ⟨_, _, _, _, ((cSumBits .sub .f64 (floatOfInt .f64 b) (floatOfInt .f64 0) (floatOfInt .f64 a) (floatOfInt .f64 0)).getD (0, 0)).1, ((cSumBits .sub .f64 (floatOfInt .f64 b) (floatOfInt .f64 0) (floatOfInt .f64 a) (floatOfInt .f64 0)).getD (0, 0)).2, rfl, rfl, ?_, fun h' => absurd h' h⟩
    rcases (by omega : b = 0 ∨ b = 1 ∨ b = 2) with rfl | rfl | rfl <;> rcases (by omega : a = 0 ∨ a = 1 ∨ a = 2) with rfl | rfl | rfl <;> first | omega | decide +kernel
set_option maxRecDepth 100000 in
theorem change_any (b : Nat) (n m : Nat) (w : World) (hb : w.cell? ⟨b, 0, none⟩ = some (amt n 0)) (hm : m ≤ 2) (hn : n ≤ 2) :
    Calls Try.prog 44 #[amt m 0, .pointer (some ⟨b, 0, none⟩)] w fun e w' => ∃ z t, e = .returned (.complex .f64 z t) ∧ w = w' ∧ (n ≤ m → amt (m - n : Nat) 0 = .complex .f64 z t) := by
  obtain ⟨x, y, u, v, z, t, e1, e2, e3, e4⟩ := take_small hm hn
  rw [e2] at hb
  rw [e1]
  have hrun := fun w => run_complex_sum (P := Try.prog) (w := w) .sub (.inr rfl) 25 .f64 x y u v z t e3
  have H := Lib.hid e4
  clear e1 e2 e3 e4
  go_enter Try.func44, Try.ntmps44
  go_wp2
  go_ret
  exact ⟨z, t, rfl, rfl, H.out⟩
set_option maxRecDepth 100000 in
theorem fits_any (a b : Nat) (w : World) (hb : b ≤ 2) (ha : a ≤ b) :
    Calls Try.prog 46 #[amt a 0, amt b 0] w fun e w' => e = .returned (.bool true) ∧ w = w' := by
  obtain ⟨x, y, u, v, z, t, e1, e2, e3, e4⟩ := less_small hb ha
  have r1 := fun w => right_any (n := b) (l := 0) (by omega) (by decide) w
  have r2 := fun w => right_any (n := a) (l := 0) (by omega) (by decide) w
  have r3 := fun w => right_any (n := b - a) (l := 0) (by omega) (by decide) w
  simp only [Int.natCast_zero] at r1 r2 r3
  rw [e1] at r1
  rw [e2] at r2
  rw [e3] at r3
  rw [e1, e2]
  have hrun := fun w => run_complex_sum (P := Try.prog) (w := w) .sub (.inr rfl) 25 .f64 x y u v z t e4
  have R1 := Lib.hid r1
  have R2 := Lib.hid r2
  have R3 := Lib.hid r3
  clear e1 e2 e3 e4 r1 r2 r3 ha hb
  go_enter Try.func46, Try.ntmps46
  go_wp2_with fail
  refine (R1.out _).mono ?_
  rintro e w' ⟨rfl, rfl⟩
  go_wp2_with fail
  refine (R2.out _).mono ?_
  rintro e w' ⟨rfl, rfl⟩
  go_wp2_with fail
  refine (R3.out _).mono ?_
  rintro e w' ⟨rfl, rfl⟩
  go_wp2
  go_ret
  exact ⟨rfl, rfl⟩
end Pf
end Go.Proofs.Ytnabnoaephjceaa
