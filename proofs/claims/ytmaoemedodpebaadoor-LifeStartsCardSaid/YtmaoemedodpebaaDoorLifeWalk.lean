/-
  CONTRACTS of life.Walk and life.Next.
-/
import Derived.Test.YtmaoemedodpebaaDoorLifeMachine
import Derived.BigQuiet
namespace Go.Proofs.YtmaoemedodpebaaDoor
namespace Lf
open Go.RowKit
/-- The rows of the table lead there. -/
theorem lead_walk : ∀ s : Nat, s < 8 → walkL 0 (leadT.getD s []) = ((s : Int), (leadT.getD s []).length) ∧ (leadT.getD s []).length ≤ 3 := by decide +kernel
theorem walk_lead {s : Nat} (hs : s < 8) (ys : List Int) : walkL 0 (leadT.getD s [] ++ ys) = ((walkL (s : Int) ys).1, (leadT.getD s []).length + (walkL (s : Int) ys).2) := by
  have h := lead_walk s hs
  rw [walk_both ys (by rw [h.1]), h.1]
theorem walk_none {s : Int} (h : ¬ isSt s) (ys : List Int) : walkL s ys = (s, 0) := by
  cases ys with
  | nil => rfl
  | cons e l =>
    apply walk_stop
    cases hn : nxt s e with
    | none => rfl
    | some t => exact absurd (nxt_st hn).1 h
theorem cl_new (w : World) (A6 : Option Addr) (n6 c6 : Nat) (A3 : Option Addr) (n3 c3 : Nat) :
    Cl w (((w.alloc (.cells #[.slice A3 n3 c3] 22)).alloc (.cells #[.slice A6 n6 c6] 22)).alloc (.cells #[.int .i64 0] 3)) A6 n6 c6 A3 n3 c3 (w.heap.size + 1 + 1) (w.heap.size + 1) w.heap.size 0 := by
  refine ⟨?_, ?_, ?_, by omega, by omega, by omega, (((Moved.refl w []).alloc _).alloc _).alloc _⟩
  · have h := heap_alloc_new ((w.alloc (.cells #[.slice A3 n3 c3] 22)).alloc (.cells #[.slice A6 n6 c6] 22)) (.cells #[.int .i64 0] 3)
    simpa using h
  · rw [Below.heap_alloc _ _ _ (by simp)]
    have h := heap_alloc_new (w.alloc (.cells #[.slice A3 n3 c3] 22)) (.cells #[.slice A6 n6 c6] 22)
    simpa using h
  · rw [Below.heap_alloc _ _ _ (by simp; omega), Below.heap_alloc _ _ _ (by simp)]
    exact heap_alloc_new w _
set_option maxRecDepth 100000 in
set_option maxHeartbeats 2000000 in
theorem walk_any (st : Int) (A : Option Addr) (n c : Nat) (ys : List Int) (w : World) (hA : IRow w A ys) (hn : ys.length = n) (hb : n ≤ 1048576) (hld : Ld w) :
    Calls Tryd.prog 12 #[.int .i64 st, .slice A n c] w fun r w' => r = .returned (.tuple #[.int .i64 (walkL st ys).1, .int .i64 (walkL st ys).2]) ∧ Moved w w' [] := by
  have HA := Lib.hid hA
  have HN := Lib.hid hn
  clear hA hn
  by_cases hst : isSt st
  · obtain ⟨s, rfl⟩ : ∃ s : Nat, st = s := ⟨st.toNat, by have := hst.1; omega⟩
    have hs : s < 8 := by have := hst.2; omega
    have hs2 : (s : Int) < 8 := by omega
    have HR := Lib.hid (right_yes hst)
    obtain ⟨B, c6, hcell, h6, h7, hrow⟩ := hld s (leadT.getD s []) (by rw [List.getD_eq_getElem?_getD, List.getElem?_eq_getElem (show s < leadT.length from hs)]; rfl)
    obtain ⟨xs, hxs⟩ : ∃ xs, xs = leadT.getD s [] := ⟨_, rfl⟩
    obtain ⟨n6, hn6⟩ : ∃ n6, n6 = xs.length := ⟨_, rfl⟩
    obtain ⟨T, hT⟩ : ∃ T, T = (walkL (s : Int) ys).1 := ⟨_, rfl⟩
    obtain ⟨k, hk⟩ : ∃ k, k = (walkL (s : Int) ys).2 := ⟨_, rfl⟩
    have hkn : k ≤ n := by rw [hk, ← HN.out]; exact walk_le ys s
    have hn63 : n6 ≤ 3 := by rw [hn6, hxs]; exact (lead_walk s hs).2
    have HL : Hid (Lft (xs ++ ys) 0 0 T (n6 + k)) := by
      show Lft _ _ _ _ _
      refine ⟨?_, Nat.zero_le _⟩
      rw [List.drop_zero, hxs, walk_lead hs, ← hT, ← hk, ← hxs, ← hn6]
      rfl
    rw [← hxs, ← hn6] at hcell
    rw [← hxs] at hrow
    rw [← hxs, ← hn6] at h6
    rw [← hT, ← hk]
    have HX := Lib.hid hrow
    have HN6 := Lib.hid hn6.symm
    have c1 : ((w.alloc (.cells #[.slice A n c] 22 (0, 0))).cell? ⟨0, s, none⟩ = some (.slice (some B) n6 c6)) := by rw [World.cell?_alloc_lt _ _ _ (World.block_lt_of_cell? w _ hcell)]; exact hcell
    clear hld hrow hT hk hxs hn6 hst
    go_enter Tryd.func12, Tryd.ntmps12
    go_wp2_with (go_at_call 20; refine (HR.out _).mono ?_; rintro r w1 ⟨rfl, rfl⟩)
    refine (machine_any w _ (some B) A n6 c6 n c (w.heap.size + 1 + 1) (w.heap.size + 1) w.heap.size (xs ++ ys) T (n6 + k) (cl_new w (some B) n6 c6 A n c) HL.out (by omega)
      (fun j wr hC hj => asks_any w wr (some B) A n6 c6 n c _ _ _ j xs ys hC HX.out HA.out HN6.out HN.out (by omega) hj)).mono ?_
    rintro r w4 ⟨rfl, hC⟩
    have HM := Lib.hid hC.moved
    have c7 := cell_at hC.at7 0 (v := .int .i64 ((n6 + k + 1 : Nat) : Int)) rfl
    have c6 := cell_at hC.at6 0 (v := .slice (some B) n6 c6) rfl
    clear hC
    go_wp2
    go_quiet (fail)
    go_wp2
    go_ret2
    exact ⟨by show Ending.returned (.tuple #[.int .i64 T, .int .i64 ((n6 : Int) + (k : Int) + 1 - (n6 : Int) - 1)]) = _; rw [show (n6 : Int) + (k : Int) + 1 - (n6 : Int) - 1 = (k : Int) by omega], HM.out.drewN _⟩
  · have HR := Lib.hid (right_no hst)
    rw [walk_none hst]
    clear hld hst
    go_enter Tryd.func12, Tryd.ntmps12
    go_wp2_with (go_at_call 20; refine (HR.out _).mono ?_; rintro r w1 ⟨rfl, rfl⟩)
    go_ret2
    exact ⟨rfl, (Moved.refl w []).alloc _⟩
set_option maxRecDepth 100000 in
theorem next_any (st ev : Int) (w : World) (hld : Ld w) : Calls Tryd.prog 9 #[.int .i64 st, .int .i64 ev] w fun r w' => r = .returned (.tuple #[.int .i64 ((nxt st ev).getD 0), .bool (nxt st ev).isSome]) ∧ Moved w w' [] := by
  have HW : Hid (∀ W, Ld W → IRow W (some ⟨w.heap.size, 0, none⟩) [ev] → Calls Tryd.prog 12 #[.int .i64 st, .slice (some ⟨w.heap.size, 0, none⟩) 1 1] W fun r w' => r = .returned (.tuple #[.int .i64 (walkL st [ev]).1, .int .i64 (walkL st [ev]).2]) ∧ Moved W w' []) :=
    fun W h1 h2 => walk_any st _ 1 1 [ev] W h2 rfl (by omega) h1
  have HI : Hid (IRow (w.alloc (.cells #[.int .i64 ev] 3)) (some ⟨w.heap.size, 0, none⟩) [ev]) := by
    intro i x hx
    rcases i with _ | i
    · simp at hx; subst hx
      exact ⟨w.heap.size, 0, rfl, by rw [cell_of_row _ _ _ _ _ _ (heap_alloc_new w _)]; rfl⟩
    · simp at hx
  have HLD := Lib.hid (hld.moved ((Moved.refl w []).alloc (.cells #[.int .i64 ev] 3)))
  clear hld
  cases h : nxt st ev with
  | none =>
    rw [walk_stop h] at HW
    clear h
    go_enter Tryd.func9, Tryd.ntmps9
    go_wp2_with (go_at_call 12; refine (HW.out _ HLD.out HI.out).mono ?_; rintro r w1 ⟨rfl, hM⟩; have HM := Lib.hid (((Moved.refl w []).alloc _).trans hM (fun _ h => by cases h)); clear hM)
    go_ret2
    exact ⟨rfl, HM.out⟩
  | some t =>
    rw [walk_on h, walk_nil] at HW
    clear h
    go_enter Tryd.func9, Tryd.ntmps9
    go_wp2_with (go_at_call 12; refine (HW.out _ HLD.out HI.out).mono ?_; rintro r w1 ⟨rfl, hM⟩; have HM := Lib.hid (((Moved.refl w []).alloc _).trans hM (fun _ h => by cases h)); clear hM)
    go_ret2
    exact ⟨rfl, HM.out⟩
end Lf
end Go.Proofs.YtmaoemedodpebaaDoor
