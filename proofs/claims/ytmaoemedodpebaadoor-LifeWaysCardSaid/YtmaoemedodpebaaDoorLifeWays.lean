/-
  CONTRACT of hansekeep.Spoil; the walk of LifeWays.
-/
import Derived.Test.YtmaoemedodpebaaDoorLifeWakes
import Derived.Test.YtmaoemedodpebaaDoorLifeRefWay
namespace Go.Proofs.YtmaoemedodpebaaDoor
namespace Lf
open Go.RowKit
theorem own_iset {w : World} {e : TypeId} {g n c : Nat} {xs : List Int} (h : w.ownsRow 0 e 1 (.slice (some ⟨g, 0, none⟩) n c) n (xs.map (Value.int .i64))) (j : Nat) (x : Int) :
    (w.setCell ⟨g, j, none⟩ (.int .i64 x)).ownsRow 0 e 1 (.slice (some ⟨g, 0, none⟩) n c) n ((xs.set j x).map (Value.int .i64)) := by
  rw [List.map_set]
  exact (h.stored j (.int .i64 x)).1
set_option maxRecDepth 100000 in
set_option maxHeartbeats 1000000 in
theorem ispoil_any (v : Value) (xs : List Int) (w : World) (hown : w.ownsRow 0 3 1 v xs.length (xs.map (Value.int .i64))) (hlen : xs.length ≤ 70368744177664) :
    Calls Tryd.prog 18 #[v] w fun r w' => r = .returned (.tuple #[]) ∧ Moved w w' (rowOf v) := by
  rcases hown.2 with ⟨rfl, h0⟩ | ⟨g, cap, cur, rfl, _⟩
  · clear hown
    go_enter Tryd.func18, Tryd.ntmps18
    go_wp2
    refine wp_loop_rounds 1 ?_
    rw [rounds_succ]
    go_wp2
    go_end0
    exact ⟨rfl, Moved.refl _ _⟩
  · have HO := Lib.hid hown
    clear hown
    go_enter Tryd.func18, Tryd.ntmps18
    go_wp2
    go_loopw [2] (fun i wr => ∃ (k : Nat) (ys : List Int), i = .int .i64 k ∧ k ≤ xs.length ∧ Hid (ys.length = xs.length) ∧ wr.ownsRow 0 3 1 (.slice (some ⟨g, 0, none⟩) xs.length cap) xs.length (ys.map (Value.int .i64)) ∧ Moved w wr [g]) (fun i _ => xs.length - (intOf i).toNat)
    case atStart => exact ⟨0, xs, rfl, by omega, rfl, HO.out, Moved.refl _ _⟩
    case round =>
      obtain ⟨k, ys, rfl, hk, hl, hown, hM⟩ := hrel
      have HM := Lib.hid hM
      have HO2 := Lib.hid hown
      clear hM
      by_cases hlt : k < xs.length
      · obtain ⟨y, hy⟩ : ∃ y, ys[k]? = some y := ⟨ys[k]'(by rw [hl.out]; exact hlt), List.getElem?_eq_getElem _⟩
        have hc : wr.cell? ⟨g, k, none⟩ = some (.int .i64 y) := by
          rw [hown.cellAt k (by omega), List.getElem?_map, hy]; rfl
        have hf := hown.frozenAt k
        clear hown hy
        go_wp2
        go_roundw
        case rel => exact ⟨k + 1, _, by go_num, by omega, (List.length_set ..).trans hl.out, own_iset HO2.out k _, HM.out.setCell (p := ⟨g, k, none⟩) (.inl (by simp)) _⟩
        case measure => simp [intOf]; omega
      · clear hown
        go_wp2
        go_end0
        exact ⟨rfl, HM.out.mono (fun k hk => by simp at hk; subst hk; simp [mem_rowOf, Value.ownBlock])⟩
/-- A way that the page tells. -/
theorem ref_len {a b : Int} {l : List Int} (w : World) (h : wayL a b = some l) :
    Calls Tryd.prog 17 #[.int .i64 a, .int .i64 b] w fun r w' => ∃ A c, r = .returned (.tuple #[.slice A l.length c, .bool true]) ∧ w'.ownsRow 0 3 1 (.slice A l.length c) l.length (l.map (Value.int .i64)) ∧ (∀ k ∈ rowOf (.slice A l.length c), w.heap.size ≤ k) ∧ (A = none → c = 0) ∧ Moved w w' [] := by
  refine (refWay_any a b w).mono ?_
  rw [h]
  rintro r w' ⟨v, rfl, hO, hf, hM⟩
  obtain ⟨A, c, rfl, hn, -⟩ := own_shape (show w'.ownsRow 0 3 1 v l.length (l.map (Value.int .i64)) from hO)
  exact ⟨A, c, rfl, hO, hf, hn, hM⟩
theorem ref_none {a b : Int} (w : World) (h : wayL a b = none) :
    Calls Tryd.prog 17 #[.int .i64 a, .int .i64 b] w fun r w' => ∃ A c, r = .returned (.tuple #[.slice A 0 c, .bool false]) ∧ w'.ownsRow 0 3 1 (.slice A 0 c) 0 [] ∧ (∀ k ∈ rowOf (.slice A 0 c), w.heap.size ≤ k) ∧ (A = none → c = 0) ∧ Moved w w' [] := by
  refine (refWay_any a b w).mono ?_
  rw [h]
  rintro r w' ⟨v, rfl, hO, hf, hM⟩
  obtain ⟨A, c, rfl, hn, -⟩ := own_shape (show w'.ownsRow 0 3 1 v 0 [] from hO)
  exact ⟨A, c, rfl, hO, hf, hn, hM⟩
theorem own_apart {w w' : World} {base : Nat} {e : TypeId} {size : Nat} {v : Value} {n : Nat} {xs : List Value} {S : List Nat} (h : w.ownsRow base e size v n xs) (hM : Moved w w' S) (hd : ∀ k ∈ rowOf v, k ∉ S) : w'.ownsRow base e size v n xs :=
  own_stays h (fun k hk => hM.block k (own_lt h k hk) (hd k hk))
set_option maxRecDepth 100000 in
set_option maxHeartbeats 2000000 in
theorem ways_any (L : LfLaws) (a b : Int) (w : World) (hld : Ld w) :
    Calls Tryd.prog 4 #[.int .i64 a, .int .i64 b] w fun e w' => e = .returned (.bool true) ∧ Moved w w' [] := by
  have HLD := Lib.hid hld
  clear hld
  obtain ⟨l, hl, t, ht⟩ : ∃ l, l = (wayL a b).getD [] ∧ ∃ t, t = (wayL a b).isSome := ⟨_, rfl, _, rfl⟩
  have hl8 : l.length ≤ 8 := by
    rw [hl]
    cases hw : wayL a b with
    | none => simp
    | some r => exact (wayL_leads hw).2.1
  have one : ∀ w : World, Ld w → Calls Tryd.prog 16 #[.int .i64 a, .int .i64 b] w fun r w' => ∃ A c, r = .returned (.tuple #[.slice A l.length c, .bool t]) ∧ w'.ownsRow 0 3 1 (.slice A l.length c) l.length (l.map (Value.int .i64)) ∧ (∀ k ∈ rowOf (.slice A l.length c), w.heap.size ≤ k) ∧ (A = none → c = 0) ∧ Moved w w' [] := fun w hd => by
    cases hw : wayL a b with
    | none => rw [hw] at hl ht; subst hl ht; exact L.none w hw hd
    | some r => rw [hw] at hl ht; subst hl ht; exact L.len w hw hd
  have two : ∀ w : World, Calls Tryd.prog 17 #[.int .i64 a, .int .i64 b] w fun r w' => ∃ A c, r = .returned (.tuple #[.slice A l.length c, .bool t]) ∧ w'.ownsRow 0 3 1 (.slice A l.length c) l.length (l.map (Value.int .i64)) ∧ (∀ k ∈ rowOf (.slice A l.length c), w.heap.size ≤ k) ∧ (A = none → c = 0) ∧ Moved w w' [] := fun w => by
    cases hw : wayL a b with
    | none => rw [hw] at hl ht; subst hl ht; exact ref_none w hw
    | some r => rw [hw] at hl ht; subst hl ht; exact ref_len w hw
  have ONE := Lib.hid one
  have TWO := Lib.hid two
  clear one two hl ht
  go_enter Tryd.func4, Tryd.ntmps4
  go_wp2_with fail
  refine (ONE.out w HLD.out).mono ?_
  rintro e w1 ⟨A1, c1, rfl, hO1, hf1, hn1, hM1⟩
  have HM1 := Lib.hid hM1
  have HO1 := Lib.hid hO1
  have HF1 := Lib.hid hf1
  clear hO1 hf1 hn1 hM1
  go_wp2_with fail
  refine (TWO.out w1).mono ?_
  rintro e w2 ⟨A2, c2, rfl, hO2, hf2, hn2, hM2⟩
  have HM2 := Lib.hid (HM1.out.trans hM2 (fun _ h => by cases h))
  have HO2 := Lib.hid hO2
  have HF2 := Lib.hid (fun k hk h => by have := own_lt HO1.out k h; have := hf2 k hk; omega : ∀ k ∈ rowOf (.slice A2 l.length c2), k ∉ rowOf (.slice A1 l.length c1))
  have HO12 := Lib.hid (own_still HO1.out hM2)
  clear hO2 hf2 hn2 hM2
  go_wp2_with fail
  refine (ints_same A1 A2 c1 c2 l w2 (own_irow HO12.out) (own_irow HO2.out) (by omega)).mono ?_
  rintro e w3 ⟨rfl, k3, hw3⟩
  have HO13 := Lib.hid (show w3.ownsRow 0 3 1 (.slice A1 l.length c1) l.length (l.map (Value.int .i64)) by rw [hw3]; exact HO12.out)
  have HO23 := Lib.hid (show w3.ownsRow 0 3 1 (.slice A2 l.length c2) l.length (l.map (Value.int .i64)) by rw [hw3]; exact HO2.out)
  have HM3 := Lib.hid (show Moved w w3 [] by rw [hw3]; exact HM2.out.drewN k3)
  clear hw3
  go_wp2_with fail
  refine (ispoil_any _ l w3 HO13.out (by omega)).mono ?_
  rintro e w4 ⟨rfl, hM4⟩
  have HO24 := Lib.hid (own_apart HO23.out hM4 HF2.out)
  have HM4 := Lib.hid (HM3.out.trans hM4 (fun k hk => .inr (HF1.out k hk)))
  clear hM4
  go_wp2_with fail
  refine (ONE.out w4 (HLD.out.moved HM4.out)).mono ?_
  rintro e w5 ⟨A5, c5, rfl, hO5, hf5, hn5, hM5⟩
  have HM5 := Lib.hid (HM4.out.trans hM5 (fun _ h => by cases h))
  have HO5 := Lib.hid hO5
  have HO25 := Lib.hid (own_still HO24.out hM5)
  clear hO5 hf5 hn5 hM5
  go_wp2_with (first
    | (go_at_call 14; refine (ints_same A5 A2 c5 c2 l _ (own_irow HO5.out) (own_irow HO25.out) (by omega)).mono ?_; rintro e w6 ⟨rfl, k6, hw6⟩; have HM6 := Lib.hid (show Moved w w6 [] by rw [hw6]; exact HM5.out.drewN k6); clear hw6)
    | (go_at_call 15; refine (wakes_any L _ (by exact HLD.out.moved HM6.out)).mono ?_; rintro e w7 ⟨rfl, hM7⟩; have HM7 := Lib.hid (HM6.out.trans hM7 (fun _ h => by cases h)); clear hM7))
  go_ret
  exact ⟨rfl, HM7.out⟩
end Lf
end Go.Proofs.YtmaoemedodpebaaDoor
