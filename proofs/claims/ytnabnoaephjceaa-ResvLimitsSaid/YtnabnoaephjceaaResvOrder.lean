/-
  CONTRACTS of the library's cmp.isNaN, cmp.Compare and cmp.Or over ints, and of resv.order.
-/
import Derived.Test.YtnabnoaephjceaaResvLaws
namespace Go.Proofs.Ytnabnoaephjceaa
namespace Rv
open Go.RowKit Am Pf
def cmpN (x y : Int) : Int := if x < y then -1 else if y < x then 1 else 0
theorem isNaN_any (x : Int) (w : World) : Calls Try.prog 33 #[.int .i64 x] w fun e w' => e = .returned (.bool false) ∧ w = w' := by
  go_enter Try.func33, Try.ntmps33
  go_wp2
  go_ret
  exact ⟨rfl, rfl⟩
theorem compare_any (x y : Int) (w : World) : Calls Try.prog 26 #[.int .i64 x, .int .i64 y] w fun e w' => e = .returned (.int .i64 (cmpN x y)) ∧ w = w' := by
  unfold cmpN
  rcases (by omega : x < y ∨ y < x ∨ x = y) with h | h | h
  case' inl => rw [if_pos h]
  case' inr.inl => rw [if_neg (by omega), if_pos h]
  case' inr.inr => rw [if_neg (by omega), if_neg (by omega)]
  case' inr.inr => subst h
  all_goals
    go_enter Try.func26, Try.ntmps26
    go_wp2_with fail
    refine (isNaN_any _ _).mono ?_
    rintro e w' ⟨rfl, rfl⟩
    go_wp2_with fail
    refine (isNaN_any _ _).mono ?_
    rintro e w' ⟨rfl, rfl⟩
    go_wp2
    go_ret
    exact ⟨rfl, rfl⟩
def orL : List Int → Int
  | [] => 0
  | x :: r => if x = 0 then orL r else x
theorem orL_drop {xs : List Int} {k : Nat} (hk : k < xs.length) : orL (xs.drop k) = if xs[k] = 0 then orL (xs.drop (k + 1)) else xs[k] := by
  rw [List.drop_eq_getElem_cons hk]; rfl
set_option maxHeartbeats 1000000 in
theorem or_any (A : Option Addr) (n c : Nat) (xs : List Int) (w : World) (hn : xs.length = n) (hl : n ≤ 1048576) (hA : NRow .i64 w A xs) :
    Calls Try.prog 25 #[.slice A n c] w fun e w' => e = .returned (.int .i64 (orL xs)) ∧ w = w' := by
  subst hn
  have HA := Lib.hid hA
  clear hA
  go_enter Try.func25, Try.ntmps25
  go_wp2_with fail
  go_loop [5, 8] (fun _ i => ∃ k : Nat, i = .int .i64 k ∧ k ≤ xs.length ∧ Hid (orL xs = orL (xs.drop k))) (fun _ i => xs.length - (intOf i).toNat)
  case atStart => exact ⟨0, rfl, by omega, rfl⟩
  case round =>
    obtain ⟨k, rfl, hk, HO⟩ := hrel
    by_cases hlt : k < xs.length
    · obtain ⟨x, hx⟩ : ∃ x, xs[k]? = some x := ⟨xs[k], List.getElem?_eq_getElem hlt⟩
      have HX := Lib.hid (show orL (xs.drop k) = if x = 0 then orL (xs.drop (k + 1)) else x by rw [orL_drop hlt]; rw [List.getElem?_eq_getElem hlt] at hx; injection hx with hx; rw [hx])
      obtain ⟨b, off, rfl, hc⟩ := HA.out k x hx
      clear hx
      by_cases h0 : x = 0
      · subst h0
        go_wp2
        go_round
        case rel => exact ⟨k + 1, by go_num, by omega, HO.out.trans HX.out⟩
        case measure => simp [intOf]; omega
      · have hne : (x != 0) = true := by simpa using h0
        have HR := Lib.hid (HO.out.trans (HX.out.trans (if_neg h0)))
        clear h0 HX
        go_wp2
        go_ret
        exact ⟨by rw [HR.out]; rfl, rfl⟩
    · have HR := Lib.hid (show orL xs = 0 by rw [HO.out, List.drop_eq_nil_of_le (by omega)]; rfl)
      go_wp2
      go_ret
      exact ⟨by rw [HR.out]; rfl, rfl⟩
theorem nrow_lit3 (w : World) (x y z : Int) (e : TypeId) : NRow .i64 (w.alloc (.cells #[.int .i64 x, .int .i64 y, .int .i64 z] e)) (some ⟨w.heap.size, 0, none⟩) [x, y, z] := by
  intro i u hu
  refine ⟨_, _, rfl, ?_⟩
  rw [cell_of_row _ _ _ _ _ _ (heap_alloc_new w _), Nat.zero_add]
  match i, hu with
  | 0, hu => cases hu; rfl
  | 1, hu => cases hu; rfl
  | 2, hu => cases hu; rfl
theorem gt_of (x r : R) : 0 < orL [cmpN x.a r.a, cmpN x.i r.i, cmpN x.n r.n] ↔ Gt x r := by
  unfold Gt orL orL orL orL cmpN
  repeat' split
  all_goals omega
set_option maxHeartbeats 1000000 in
theorem order_any (x r : R) (w : World) : Calls Try.prog 19 #[.agg x.cells.toArray, .agg r.cells.toArray] w fun e w' => ∃ o : Int, e = .returned (.int .i64 o) ∧ (0 < o ↔ Gt x r) ∧ Moved w w' [] := by
  obtain ⟨X, Y, hX⟩ := amt_parts x.b.n
  obtain ⟨Z, T, hZ⟩ := amt_parts r.b.n
  unfold R.cells
  rw [hX, hZ]
  clear hX hZ
  go_enter Try.func19, Try.ntmps19
  go_wp2_with fail
  obtain ⟨W, hW⟩ : ∃ W, W = (w.alloc (.cells #[.int .i64 x.a, .int .i64 x.i, .int .i64 x.n, .int .i64 x.b.f, .int .i64 x.b.t, .complex .f64 X Y, .bool x.sure, .int .i64 x.til] 29)).alloc (.cells #[.int .i64 r.a, .int .i64 r.i, .int .i64 r.n, .int .i64 r.b.f, .int .i64 r.b.t, .complex .f64 Z T, .bool r.sure, .int .i64 r.til] 29) := ⟨_, rfl⟩
  rw [← hW]
  have HM : Hid (Moved w W []) := by rw [hW]; exact ((Moved.refl w []).alloc _).alloc _
  have hb1 : W.heap[w.heap.size]? = some (.cells #[.int .i64 x.a, .int .i64 x.i, .int .i64 x.n, .int .i64 x.b.f, .int .i64 x.b.t, .complex .f64 X Y, .bool x.sure, .int .i64 x.til] 29 (0, 0)) := by
    rw [hW, Below.heap_alloc _ _ _ (by simp)]; exact heap_alloc_new w _
  have hb2 : W.heap[w.heap.size + 1]? = some (.cells #[.int .i64 r.a, .int .i64 r.i, .int .i64 r.n, .int .i64 r.b.f, .int .i64 r.b.t, .complex .f64 Z T, .bool r.sure, .int .i64 r.til] 29 (0, 0)) := by
    rw [hW]
    have := heap_alloc_new (w.alloc (.cells #[.int .i64 x.a, .int .i64 x.i, .int .i64 x.n, .int .i64 x.b.f, .int .i64 x.b.t, .complex .f64 X Y, .bool x.sure, .int .i64 x.til] 29)) (.cells #[.int .i64 r.a, .int .i64 r.i, .int .i64 r.n, .int .i64 r.b.f, .int .i64 r.b.t, .complex .f64 Z T, .bool r.sure, .int .i64 r.til] 29)
    simpa using this
  have a0 := cell_at hb1 0 rfl
  have a1 := cell_at hb1 1 rfl
  have a2 := cell_at hb1 2 rfl
  have b0 := cell_at hb2 0 rfl
  have b1 := cell_at hb2 1 rfl
  have b2 := cell_at hb2 2 rfl
  clear hW hb1 hb2
  go_region_held3 (fun w' => w'.cell? ⟨w.heap.size, 0, none⟩ = some (.int .i64 x.a) ∧ w'.cell? ⟨w.heap.size, 1, none⟩ = some (.int .i64 x.i) ∧ w'.cell? ⟨w.heap.size, 2, none⟩ = some (.int .i64 x.n) ∧ w'.cell? ⟨w.heap.size + 1, 0, none⟩ = some (.int .i64 r.a) ∧ w'.cell? ⟨w.heap.size + 1, 1, none⟩ = some (.int .i64 r.i) ∧ w'.cell? ⟨w.heap.size + 1, 2, none⟩ = some (.int .i64 r.n)) (go_keep) (first
    | (go_at_call 26; refine (compare_any _ _ _).mono ?_; rintro e w' ⟨rfl, rfl⟩)
    | (go_at_call 25; refine (or_any _ 3 _ [cmpN x.a r.a, cmpN x.i r.i, cmpN x.n r.n] _ rfl (by decide) (by exact nrow_lit3 _ _ _ _ _)).mono ?_; rintro e w' ⟨rfl, rfl⟩))
  go_wp2
  go_ret
  exact ⟨_, rfl, gt_of x r, (HM.out.alloc _).drew⟩
end Rv
end Go.Proofs.Ytnabnoaephjceaa
