/-
  CONTRACTS of the document's own Next and Walk.
-/
import Derived.Test.YtmaoemedodpebaaDoorLifeLaws
namespace Go.Proofs.YtmaoemedodpebaaDoor
namespace Lf
open Go.RowKit
def rowCells : Array Value := #[.int .i64 0, .int .i64 1, .int .i64 1, .int .i64 1, .int .i64 2, .int .i64 2, .int .i64 1, .int .i64 5, .int .i64 4, .int .i64 1, .int .i64 9, .int .i64 7, .int .i64 1, .int .i64 10, .int .i64 0, .int .i64 2, .int .i64 3, .int .i64 3, .int .i64 2, .int .i64 8, .int .i64 6, .int .i64 2, .int .i64 9, .int .i64 7, .int .i64 3, .int .i64 4, .int .i64 1, .int .i64 4, .int .i64 6, .int .i64 1, .int .i64 4, .int .i64 7, .int .i64 5, .int .i64 5, .int .i64 8, .int .i64 6, .int .i64 5, .int .i64 9, .int .i64 7, .int .i64 6, .int .i64 9, .int .i64 7, .int .i64 7, .int .i64 10, .int .i64 0]
theorem row_at : ∀ k, k < 15 → ∃ a b c, table[k]? = some (a, b, c) ∧ rowCells[k * 3]? = some (.int .i64 a) ∧ rowCells[k * 3 + 1]? = some (.int .i64 b) ∧ rowCells[k * 3 + 2]? = some (.int .i64 c)
  | 0, _ => ⟨_, _, _, rfl, rfl, rfl, rfl⟩
  | 1, _ => ⟨_, _, _, rfl, rfl, rfl, rfl⟩
  | 2, _ => ⟨_, _, _, rfl, rfl, rfl, rfl⟩
  | 3, _ => ⟨_, _, _, rfl, rfl, rfl, rfl⟩
  | 4, _ => ⟨_, _, _, rfl, rfl, rfl, rfl⟩
  | 5, _ => ⟨_, _, _, rfl, rfl, rfl, rfl⟩
  | 6, _ => ⟨_, _, _, rfl, rfl, rfl, rfl⟩
  | 7, _ => ⟨_, _, _, rfl, rfl, rfl, rfl⟩
  | 8, _ => ⟨_, _, _, rfl, rfl, rfl, rfl⟩
  | 9, _ => ⟨_, _, _, rfl, rfl, rfl, rfl⟩
  | 10, _ => ⟨_, _, _, rfl, rfl, rfl, rfl⟩
  | 11, _ => ⟨_, _, _, rfl, rfl, rfl, rfl⟩
  | 12, _ => ⟨_, _, _, rfl, rfl, rfl, rfl⟩
  | 13, _ => ⟨_, _, _, rfl, rfl, rfl, rfl⟩
  | 14, _ => ⟨_, _, _, rfl, rfl, rfl, rfl⟩
  | n + 15, h => by omega
set_option maxRecDepth 100000 in
set_option maxHeartbeats 2000000 in
theorem refRows_any (w : World) :
    Calls Tryd.prog 19 #[] w fun r w' => r = .returned (.slice (some ⟨w.heap.size, 0, none⟩) 15 15) ∧ ∃ T, w' = w.alloc (.cells rowCells T) := by
  go_enter Tryd.func19, Tryd.ntmps19
  go_wp2
  go_ret
  exact ⟨rfl, _, rfl⟩
set_option maxRecDepth 100000 in
set_option maxHeartbeats 2000000 in
theorem refNext_any (st ev : Int) (w : World) :
    Calls Tryd.prog 10 #[.int .i64 st, .int .i64 ev] w fun r w' => r = .returned (.tuple #[.int .i64 ((nxt st ev).getD 0), .bool (nxt st ev).isSome]) ∧ Moved w w' [] := by
  go_enter Tryd.func10, Tryd.ntmps10
  go_wp2_with fail
  refine (refRows_any w).mono ?_
  rintro e w1 ⟨rfl, T, rfl⟩
  have hb := heap_alloc_new w (.cells rowCells T)
  have HB := Lib.hid hb
  obtain ⟨w1, hw1⟩ : ∃ w1, w1 = w.alloc (.cells rowCells T) := ⟨_, rfl⟩
  have HM := Lib.hid (show Moved w w1 [] by rw [hw1]; exact (Moved.refl w []).alloc _)
  rw [← hw1] at HB ⊢
  obtain ⟨g, hg⟩ : ∃ g, g = w.heap.size := ⟨_, rfl⟩
  rw [← hg] at HB ⊢
  clear hb hw1 hg
  go_wp2
  go_loop [7] (fun i => ∃ k : Nat, i = .int .i64 k ∧ k ≤ 15 ∧ Hid (nxt st ev = look st ev (table.drop k))) (fun i => 15 - (intOf i).toNat)
  case atStart => exact ⟨0, rfl, by omega, rfl⟩
  case round =>
    obtain ⟨k, rfl, hk, HL⟩ := hrel
    by_cases hlt : k < 15
    · obtain ⟨a, b, c, ht, h0, h1, h2⟩ := row_at k hlt
      have c0 := cell_at HB.out (k * 3) h0
      have c1 := cell_at HB.out (k * 3 + 1) h1
      have c2 := cell_at HB.out (k * 3 + 2) h2
      have HD := Lib.hid (look_drop (st := st) (ev := ev) ht)
      clear ht h0 h1 h2
      by_cases ha : a = st
      · by_cases hbv : b = ev
        · have HR := Lib.hid (show nxt st ev = some c by rw [HL.out, HD.out, if_pos ⟨ha, hbv⟩])
          subst ha hbv
          go_wp2
          go_ret2
          exact ⟨by rw [HR.out]; rfl, HM.out⟩
        · have HR : Hid (nxt st ev = look st ev (table.drop (k + 1))) := by show _ = _; rw [HL.out, HD.out, if_neg (fun h => hbv h.2)]
          have hd1 : (b == ev) = false := by simpa using hbv
          subst ha
          go_wp2
          go_round
          case rel => exact ⟨k + 1, by go_num, by omega, HR.out⟩
          case measure => simp [intOf]; omega
      · have HR : Hid (nxt st ev = look st ev (table.drop (k + 1))) := by show _ = _; rw [HL.out, HD.out, if_neg (fun h => ha h.1)]
        have hd1 : (a == st) = false := by simpa using ha
        go_wp2
        go_round
        case rel => exact ⟨k + 1, by go_num, by omega, HR.out⟩
        case measure => simp [intOf]; omega
    · have HR : Hid (nxt st ev = none) := by show _ = _; rw [HL.out, List.drop_of_length_le (by show 15 ≤ k; omega)]; rfl
      go_wp2
      go_ret2
      exact ⟨by rw [HR.out]; rfl, HM.out⟩
theorem refNext_yes {st ev t : Int} (w : World) (h : nxt st ev = some t) :
    Calls Tryd.prog 10 #[.int .i64 st, .int .i64 ev] w fun r w' => r = .returned (.tuple #[.int .i64 t, .bool true]) ∧ Moved w w' [] :=
  (refNext_any st ev w).mono fun r w' hr => by rw [h] at hr; exact hr
theorem refNext_no {st ev : Int} (w : World) (h : nxt st ev = none) :
    Calls Tryd.prog 10 #[.int .i64 st, .int .i64 ev] w fun r w' => r = .returned (.tuple #[.int .i64 0, .bool false]) ∧ Moved w w' [] :=
  (refNext_any st ev w).mono fun r w' hr => by rw [h] at hr; exact hr
theorem drop_at {xs : List Int} {k : Nat} {x : Int} (h : xs[k]? = some x) : xs.drop k = x :: xs.drop (k + 1) := by
  rw [List.drop_eq_getElem_cons (List.getElem?_eq_some_iff.1 h).1, (List.getElem?_eq_some_iff.1 h).2]
set_option maxRecDepth 100000 in
set_option maxHeartbeats 2000000 in
theorem refWalk_any (st : Int) (A : Option Addr) (n c : Nat) (xs : List Int) (w : World) (hA : IRow w A xs) (hl : xs.length = n) (hn : n ≤ 9223372036854775807) :
    Calls Tryd.prog 13 #[.int .i64 st, .slice A n c] w fun r w' => r = .returned (.tuple #[.int .i64 (walkL st xs).1, .int .i64 (walkL st xs).2]) ∧ Moved w w' [] := by
  have HA := Lib.hid hA
  have HL := Lib.hid hl
  clear hA hl
  go_enter Tryd.func13, Tryd.ntmps13
  go_wp2
  go_loopw [0, 6] (fun t i wr => ∃ (k : Nat) (s : Int), t = .int .i64 s ∧ i = .int .i64 k ∧ k ≤ n ∧ Hid (walkL st xs = ((walkL s (xs.drop k)).1, k + (walkL s (xs.drop k)).2)) ∧ Moved w wr []) (fun _ i _ => n - (intOf i).toNat)
  case atStart => exact ⟨0, st, rfl, rfl, by omega, by show _ = _; simp, Moved.refl _ _⟩
  case round =>
    obtain ⟨k, s, rfl, rfl, hk, HW, hM⟩ := hrel
    have HM := Lib.hid hM
    clear hM
    by_cases hlt : k < n
    · obtain ⟨x, hx⟩ : ∃ x, xs[k]? = some x := ⟨xs[k]'(by rw [HL.out]; exact hlt), List.getElem?_eq_getElem _⟩
      obtain ⟨b, off, rfl, hc⟩ := (irow_moved HA.out HM.out) k x hx
      have HX := Lib.hid (drop_at hx)
      clear hx
      cases hn : nxt s x with
      | none =>
        have HN := Lib.hid hn
        have HR : Hid (walkL st xs = (s, k)) := by show _ = _; rw [HW.out, HX.out, walk_stop hn]; rfl
        clear hn
        go_wp2_with (go_at_call 10; refine (refNext_no _ HN.out).mono ?_; rintro e w1 ⟨rfl, hM1⟩; have HM1 := Lib.hid (HM.out.trans hM1 (fun _ h => by cases h)); clear hM1)
        go_ret2
        exact ⟨by rw [HR.out]; rfl, HM1.out⟩
      | some t =>
        have HN := Lib.hid hn
        have HR : Hid (walkL st xs = ((walkL t (xs.drop (k + 1))).1, (k + 1) + (walkL t (xs.drop (k + 1))).2)) := by show _ = _; rw [HW.out, HX.out, walk_on hn]; exact congrArg (Prod.mk _) (by dsimp only; omega)
        clear hn
        go_wp2_with (go_at_call 10; refine (refNext_yes _ HN.out).mono ?_; rintro e w1 ⟨rfl, hM1⟩; have HM1 := Lib.hid (HM.out.trans hM1 (fun _ h => by cases h)); clear hM1)
        go_roundw
        case rel => exact ⟨k + 1, t, rfl, by go_num, by omega, HR.out, HM1.out⟩
        case measure => simp [intOf]; omega
    · have HR : Hid (walkL st xs = (s, n)) := by
        show _ = _
        rw [HW.out, List.drop_of_length_le (by rw [HL.out]; omega), walk_nil]
        exact congrArg (Prod.mk _) (by dsimp only; omega)
      go_wp2
      go_ret2
      exact ⟨by rw [HR.out]; rfl, HM.out⟩
end Lf
end Go.Proofs.YtmaoemedodpebaaDoor
