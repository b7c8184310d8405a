/-
  CONTRACTS of slices.IndexFunc at resv.find's closure, of resv.find where there is none, of resv.right.
-/
import Derived.Test.YtnabnoaephjceaaResvPlace
namespace Go.Proofs.Ytnabnoaephjceaa
namespace Rv
open Go.RowKit Am Pf
theorem right_true (f t : Nat) (x y : Nat) (w : World) (hft : f < t) (ht : t ≤ 1099511627776) :
    Calls Try.prog 6 #[.agg #[.int .i64 f, .int .i64 t, .complex .f64 x y]] w fun e w' => e = .returned (.bool true) ∧ Moved w w' [] := by
  have hf : Hid (∀ W, Calls Try.prog 13 #[.int .i64 f] W fun e w' => e = .returned (.bool true) ∧ W = w') := fun W => by
    rw [← Tk.rB_yes (t := f) (by omega) (by omega)]; exact Tk.right_any _ W
  have htt : Hid (∀ W, Calls Try.prog 13 #[.int .i64 t] W fun e w' => e = .returned (.bool true) ∧ W = w') := fun W => by
    rw [← Tk.rB_yes (t := t) (by omega) (by omega)]; exact Tk.right_any _ W
  go_enter Try.func6, Try.ntmps6
  go_wp2_with fail
  refine (hf.out _).mono ?_
  rintro e w1 ⟨rfl, rfl⟩
  go_wp2_with fail
  refine (htt.out _).mono ?_
  rintro e w1 ⟨rfl, rfl⟩
  go_wp2
  go_ret
  exact ⟨rfl, (Moved.refl w []).alloc _⟩
theorem closure_any (x : R) (i n : Nat) (a b c : Int) (w : World) (h0 : w.cell? ⟨i, 0, none⟩ = some (.int .i64 a)) (h1 : w.cell? ⟨i, 1, none⟩ = some (.int .i64 b)) (hn : w.cell? ⟨n, 0, none⟩ = some (.int .i64 c)) (hx : ¬ (x.a = a ∧ x.i = b ∧ x.n = c)) :
    Calls Try.prog 16 #[.agg x.cells.toArray, .pointer (some ⟨i, 0, none⟩), .pointer (some ⟨n, 0, none⟩)] w fun e w' => e = .returned (.bool false) ∧ Moved w w' [] := by
  obtain ⟨X, Y, hX⟩ := amt_parts x.b.n
  unfold R.cells
  rw [hX]
  clear hX
  have hM : Moved w (w.alloc (.cells #[.int .i64 x.a, .int .i64 x.i, .int .i64 x.n, .int .i64 x.b.f, .int .i64 x.b.t, .complex .f64 X Y, .bool x.sure, .int .i64 x.til] 29)) [] := (Moved.refl w []).alloc _
  have k0 := one_still hM h0
  have k1 := one_still hM h1
  have k2 := one_still hM hn
  have HM := Lib.hid hM
  clear h0 h1 hn hM
  rcases (by by_cases h1 : x.a = a <;> by_cases h2 : x.i = b <;> simp_all : x.a ≠ a ∨ (x.a = a ∧ x.i ≠ b) ∨ (x.a = a ∧ x.i = b ∧ x.n ≠ c)) with hd | ⟨ha, hd⟩ | ⟨ha, hb, hd⟩
  case' inl => have he : (x.a == a) = false := by simpa using hd
  case' inr.inl =>
    subst ha
    have he : (x.i == b) = false := by simpa using hd
  case' inr.inr =>
    subst ha
    subst hb
    have he : (x.n == c) = false := by simpa using hd
  all_goals
    clear hx hd
    go_enter Try.func16, Try.ntmps16
    go_wp2
    go_ret
    exact ⟨rfl, HM.out⟩
set_option maxHeartbeats 1000000 in
theorem index_none (A : Option Addr) (n c i p : Nat) (l : List R) (a b m : Int) (w : World) (hn : l.length = n) (hl : n ≤ 1048576) (hR : Row w A l) (h0 : w.cell? ⟨i, 0, none⟩ = some (.int .i64 a)) (h1 : w.cell? ⟨i, 1, none⟩ = some (.int .i64 b)) (h2 : w.cell? ⟨p, 0, none⟩ = some (.int .i64 m)) (hx : ∀ x ∈ l, ¬ (x.a = a ∧ x.i = b ∧ x.n = m)) :
    Calls Try.prog 15 #[.slice A n c, .func (.func 16) #[] #[.pointer (some ⟨i, 0, none⟩), .pointer (some ⟨p, 0, none⟩)]] w fun e w' => e = .returned (.int .i64 (-1)) ∧ Moved w w' [] := by
  have HR := Lib.hid hR
  have HX := Lib.hid hx
  have HN := Lib.hid hn
  have H0 := Lib.hid h0
  have H1 := Lib.hid h1
  have H2 := Lib.hid h2
  clear hR hx hn h0 h1 h2
  go_enter Try.func15, Try.ntmps15
  go_wp2_with fail
  go_loopw [5, 8] (fun _ j wr => ∃ k : Nat, j = .int .i64 k ∧ k ≤ n ∧ Hid (Moved w wr [])) (fun _ j _ => n - (intOf j).toNat)
  case atStart => exact ⟨0, rfl, by omega, Moved.refl _ _⟩
  case round =>
    obtain ⟨k, rfl, hk, HM⟩ := hrel
    by_cases hlt : k < n
    · obtain ⟨x, hx⟩ : ∃ x, l[k]? = some x := ⟨l[k]'(by have := HN.out; omega), List.getElem?_eq_getElem _⟩
      obtain ⟨g, off, rfl, c0, c1, c2, c3, c4, c5, c6, c7⟩ := (HR.out.still HM.out).at_ hx
      have HC : Hid (Calls Try.prog 16 #[.agg x.cells.toArray, .pointer (some ⟨i, 0, none⟩), .pointer (some ⟨p, 0, none⟩)] wr fun e w' => e = .returned (.bool false) ∧ Moved wr w' []) :=
        closure_any x i p a b m wr (one_still HM.out H0.out) (one_still HM.out H1.out) (one_still HM.out H2.out) (HX.out x (List.mem_of_getElem? hx))
      obtain ⟨X, Y, hX⟩ := amt_parts x.b.n
      obtain ⟨F, hF⟩ : ∃ F : Int, F = x.b.f := ⟨_, rfl⟩
      obtain ⟨T, hT⟩ : ∃ F : Int, F = x.b.t := ⟨_, rfl⟩
      unfold R.cells at HC
      rw [hX] at c5 HC
      rw [← hF] at c3 HC
      rw [← hT] at c4 HC
      clear hx hX hF hT
      go_wp2_with fail
      refine HC.out.mono ?_
      rintro e w2 ⟨rfl, h2⟩
      have HM2 := Lib.hid (HM.out.trans h2 (fun _ h => by cases h))
      clear h2
      go_wp2
      go_round
      case rel => exact ⟨k + 1, by go_num, by omega, HM2.out⟩
      case measure => simp [intOf]; omega
    · go_wp2
      go_ret
      exact ⟨rfl, HM.out⟩
set_option maxHeartbeats 1000000 in
theorem find_none (A : Option Addr) (n c : Nat) (l : List R) (a b m : Int) (w : World) (hn : l.length = n) (hl : n ≤ 1048576) (hR : Row w A l) (hx : ∀ x ∈ l, ¬ (x.a = a ∧ x.i = b ∧ x.n = m)) :
    Calls Try.prog 8 #[.slice A n c, .agg #[.int .i64 a, .int .i64 b], .int .i64 m] w fun e w' => e = .returned (.int .i64 (-1)) ∧ Moved w w' [] := by
  have hM : Moved w ((w.alloc (.cells #[.int .i64 a, .int .i64 b] 23)).alloc (.cells #[.int .i64 m] 3)) [] := ((Moved.refl w []).alloc _).alloc _
  have H := Lib.hid (index_none A n c w.heap.size (w.heap.size + 1) l a b m _ hn hl (hR.still hM) (by rw [World.cell?_alloc_lt _ _ _ (by simp), cell_of_row _ _ _ _ _ _ (heap_alloc_new w _)]; rfl) (by rw [World.cell?_alloc_lt _ _ _ (by simp), cell_of_row _ _ _ _ _ _ (heap_alloc_new w _)]; rfl)
    (by have := heap_alloc_new (w.alloc (.cells #[.int .i64 a, .int .i64 b] 23)) (.cells #[.int .i64 m] 3); rw [show (w.alloc (.cells #[.int .i64 a, .int .i64 b] 23)).heap.size = w.heap.size + 1 by simp] at this; rw [cell_of_row _ _ _ _ _ _ this]; rfl) hx)
  have HM := Lib.hid hM
  clear hM hR hx hn
  go_enter Try.func8, Try.ntmps8
  go_wp2_with fail
  refine H.out.mono ?_
  rintro e w' ⟨rfl, h⟩
  have HW := Lib.hid h
  clear h
  go_wp2
  go_ret
  exact ⟨rfl, HM.out.trans HW.out (fun _ h => by cases h)⟩
end Rv
end Go.Proofs.Ytnabnoaephjceaa
