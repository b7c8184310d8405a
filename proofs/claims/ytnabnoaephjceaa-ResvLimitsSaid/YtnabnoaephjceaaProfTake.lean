/-
  CONTRACTS of (*profile.Profile).Take and amount.Sum of one amount.
-/
import Derived.Test.YtnabnoaephjceaaProfLay
namespace Go.Proofs.Ytnabnoaephjceaa
namespace Pf
open Go.RowKit Am
set_option maxRecDepth 100000 in
set_option maxHeartbeats 1000000 in
theorem take_any (p cap : Nat) (L : List Sp) (f t n : Nat) (w : World) (hP : PAt w p cap L) (hl : L.length ≤ 100000) (hM : May cap (view cap L) f t n) :
    Calls Try.prog 28 #[.pointer (some ⟨p, 0, none⟩), .agg #[.int .i64 f, .int .i64 t, amt n 0]] w fun e w' => e = .returned (.int .i64 0) ∧ PAt w' p cap (layL (view cap L) f t n) ∧ Moved w w' [p] := by
  obtain ⟨x, y, hx⟩ := amt_parts n
  have HT : Hid (∀ W, Calls Try.prog 35 #[.complex .f64 x y] W fun e w' => ∃ b, e = .returned (.func (.func 44) #[] #[.pointer (some ⟨b, 0, none⟩)]) ∧ w'.cell? ⟨b, 0, none⟩ = some (amt n 0) ∧ Moved W w' []) := by
    intro W
    rw [← hx]
    exact taken_any n W
  have HLA : Hid (∀ W b, Moved w W [] → W.cell? ⟨b, 0, none⟩ = some (amt n 0) → Calls Try.prog 34 #[.pointer (some ⟨p, 0, none⟩), .agg #[.int .i64 f, .int .i64 t, .complex .f64 x y], .func (.func 44) #[] #[.pointer (some ⟨b, 0, none⟩)]] W fun e w' => e = .returned (.int .i64 0) ∧ PAt w' p cap (layL (view cap L) f t n) ∧ Moved w w' [p] ∧ Moved W w' [p]) := by
    intro W b hW hb
    rw [← hx]
    exact (lay_any p cap L f t n b W (hP.still hW) hl hM hb).mono fun e w' ⟨h1, h2, h3⟩ => ⟨h1, h2, (hW.mono (fun _ h => by cases h)).trans h3 (fun _ h => .inl h), h3⟩
  have HPW : Hid (w.heap.size ≠ p) := by have := hP.lt; show _ ≠ _; omega
  rw [hx]
  have c0 : (w.alloc (.cells #[.int .i64 f, .int .i64 t, .complex .f64 x y] 27)).drew.cell? ⟨w.heap.size, 0, none⟩ = some (.int .i64 f) := by show (w.alloc _).cell? _ = _; rw [cell_of_row _ _ _ _ _ _ (heap_alloc_new w _)]; rfl
  have c1 : (w.alloc (.cells #[.int .i64 f, .int .i64 t, .complex .f64 x y] 27)).drew.cell? ⟨w.heap.size, 1, none⟩ = some (.int .i64 t) := by show (w.alloc _).cell? _ = _; rw [cell_of_row _ _ _ _ _ _ (heap_alloc_new w _)]; rfl
  have c2 : (w.alloc (.cells #[.int .i64 f, .int .i64 t, .complex .f64 x y] 27)).drew.cell? ⟨w.heap.size, 2, none⟩ = some (.complex .f64 x y) := by show (w.alloc _).cell? _ = _; rw [cell_of_row _ _ _ _ _ _ (heap_alloc_new w _)]; rfl
  clear hx hP hM hl
  go_enter Try.func28, Try.ntmps28
  go_wp2
  go_region_held3 (fun w' => w'.cell? ⟨w.heap.size, 0, none⟩ = some (.int .i64 f) ∧ w'.cell? ⟨w.heap.size, 1, none⟩ = some (.int .i64 t) ∧ w'.cell? ⟨w.heap.size, 2, none⟩ = some (.complex .f64 x y)) (first | exact ⟨cell_past H3.out HPW.out (one_still HM.out c0), cell_past H3.out HPW.out (one_still HM.out c1), cell_past H3.out HPW.out (one_still HM.out c2)⟩ | exact ⟨one_still HM.out c0, one_still HM.out c1, one_still HM.out c2⟩ | go_keep) (first
    | (go_at_call 35; (with_reducible refine (HT.out _).mono ?_); rintro r w2 ⟨b, rfl, hb, hM⟩; have HB := Lib.hid hb; have HM := Lib.hid hM; clear hb hM)
    | (go_at_call 34; (with_reducible refine (HLA.out _ b (by exact Moved.then0 ((Moved.refl w []).alloc _).drew HM.out) (by exact HB.out)).mono ?_); rintro r w3 ⟨rfl, h1, h2, h3⟩; have H1 := Lib.hid h1; have H2 := Lib.hid h2; have H3 := Lib.hid h3; clear h1 h2 h3))
  all_goals
    go_wp2
    go_ret
    exact ⟨rfl, H1.out, H2.out⟩
theorem sum_small {n : Nat} (hn : n ≤ 2) : ∃ x y, amt n 0 = .complex .f64 x y ∧ cSumBits .add .f64 0 0 x y = some (x, y) := by
  refine ⟨_, _, rfl, ?_⟩
  rcases (by omega : n = 0 ∨ n = 1 ∨ n = 2) with rfl | rfl | rfl <;> decide +kernel
set_option maxRecDepth 100000 in
theorem sum_one (n : Nat) (hn : n ≤ 2) (b : Nat) (w : World) (hb : w.cell? ⟨b, 0, none⟩ = some (amt n 0)) :
    Calls Try.prog 27 #[.slice (some ⟨b, 0, none⟩) 1 1] w fun e w' => e = .returned (.tuple #[amt n 0, .int .i64 0]) ∧ w = w' := by
  obtain ⟨x, y, hx, hs⟩ := sum_small hn
  have HR : Hid (∀ w, Calls Try.prog 7 #[.complex .f64 x y] w fun e w' => e = .returned (.bool true) ∧ w = w') := by
    intro w
    rw [← hx]
    exact right_any (n := n) (l := 0) (by omega) (by decide) w
  have hrun := fun w => run_complex_sum (P := Try.prog) (w := w) .add (.inl rfl) 25 .f64 0 0 x y x y hs
  rw [hx] at hb ⊢
  clear hx hs hn
  go_enter Try.func27, Try.ntmps27
  go_wp2
  refine wp_loop_rounds 2 ?_
  rw [rounds_succ]
  go_wp2_with fail
  refine (HR.out _).mono ?_
  rintro e w' ⟨rfl, rfl⟩
  go_wp2
  rw [rounds_succ]
  go_wp2_with fail
  refine (HR.out _).mono ?_
  rintro e w' ⟨rfl, rfl⟩
  go_wp2
  go_ret2
  exact ⟨rfl, rfl⟩
end Pf
end Go.Proofs.Ytnabnoaephjceaa
