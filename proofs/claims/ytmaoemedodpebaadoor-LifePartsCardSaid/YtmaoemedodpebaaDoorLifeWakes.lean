/-
  CONTRACT of the statements' helper wakes of hanselaw10, from what is asked of the program's life; the walks of LifeShort, LifeLeads, LifeReaches.
-/
import Derived.Test.YtmaoemedodpebaaDoorLifeLaws
namespace Go.Proofs.YtmaoemedodpebaaDoor
namespace Lf
open Go.RowKit
theorem LfLaws.next_yes (L : LfLaws) {st ev t : Int} (w : World) (h : nxt st ev = some t) (hld : Ld w) :
    Calls Tryd.prog 9 #[.int .i64 st, .int .i64 ev] w fun r w' => r = .returned (.tuple #[.int .i64 t, .bool true]) ∧ Moved w w' [] :=
  (L.next st ev w hld).mono fun r w' hr => by rw [h] at hr; exact hr
theorem LfLaws.next_no (L : LfLaws) {st ev : Int} (w : World) (h : nxt st ev = none) (hld : Ld w) :
    Calls Tryd.prog 9 #[.int .i64 st, .int .i64 ev] w fun r w' => r = .returned (.tuple #[.int .i64 0, .bool false]) ∧ Moved w w' [] :=
  (L.next st ev w hld).mono fun r w' hr => by rw [h] at hr; exact hr
theorem irow_lit (w : World) (xs : List Int) (cs : Array Value) (e : TypeId) (hcs : cs.toList = xs.map (Value.int .i64)) : IRow (w.alloc (.cells cs e)) (some ⟨w.heap.size, 0, none⟩) xs := fun i x hx => ⟨w.heap.size, 0, rfl, by
  rw [cell_of_row _ _ _ _ _ _ (heap_alloc_new w _), ← Array.getElem?_toList, hcs, List.getElem?_map, Nat.zero_add, hx]
  rfl⟩
set_option maxRecDepth 100000 in
set_option maxHeartbeats 2000000 in
theorem wakes_any (L : LfLaws) (w : World) (hld : Ld w) : Calls Tryd.prog 15 #[] w fun e w' => e = .returned (.bool true) ∧ Moved w w' [] := by
  have HLD := Lib.hid hld
  clear hld
  have h0 := Lib.hid (show walkL 0 [1, 2, 8, 8] = (6, 3) by decide)
  go_enter Tryd.func15, Tryd.ntmps15
  go_wp2_with fail
  refine (L.walk 0 _ 4 4 [1, 2, 8, 8] _ (irow_lit w [1, 2, 8, 8] _ _ rfl) rfl (by omega) (by exact HLD.out.moved ((Moved.refl w []).alloc _))).mono ?_
  rw [h0.out]
  rintro e w1 ⟨rfl, hM1⟩
  have HM1 := Lib.hid (((Moved.refl w []).alloc _).trans hM1 (fun _ h => by cases h))
  clear hM1
  go_wp2
  go_ret
  exact ⟨rfl, HM1.out⟩
theorem own_irow {w : World} {base : Nat} {e : TypeId} {A : Option Addr} {n c : Nat} {xs : List Int} (h : w.ownsRow base e 1 (.slice A n c) n (xs.map (Value.int .i64))) : IRow w A xs := by
  obtain ⟨A', c', hv, hI, -⟩ := own_reads h
  injection hv with h1
  subst h1
  exact hI
/-- A way that is told: new, and of the call's own. -/
theorem LfLaws.len (L : LfLaws) {a b : Int} {l : List Int} (w : World) (h : wayL a b = some l) (hld : Ld w) :
    Calls Tryd.prog 16 #[.int .i64 a, .int .i64 b] w fun r w' => ∃ A c, r = .returned (.tuple #[.slice A l.length c, .bool true]) ∧ w'.ownsRow 0 3 1 (.slice A l.length c) l.length (l.map (Value.int .i64)) ∧ (∀ k ∈ rowOf (.slice A l.length c), w.heap.size ≤ k) ∧ (A = none → c = 0) ∧ Moved w w' [] := by
  refine (L.way a b w hld).mono ?_
  rw [h]
  rintro r w' ⟨v, rfl, hO, hf, hM⟩
  obtain ⟨A, c, rfl, hn, -⟩ := own_shape (show w'.ownsRow 0 3 1 v l.length (l.map (Value.int .i64)) from hO)
  exact ⟨A, c, rfl, hO, hf, hn, hM⟩
theorem LfLaws.none (L : LfLaws) {a b : Int} (w : World) (h : wayL a b = none) (hld : Ld w) :
    Calls Tryd.prog 16 #[.int .i64 a, .int .i64 b] w fun r w' => ∃ A c, r = .returned (.tuple #[.slice A 0 c, .bool false]) ∧ w'.ownsRow 0 3 1 (.slice A 0 c) 0 [] ∧ (∀ k ∈ rowOf (.slice A 0 c), w.heap.size ≤ k) ∧ (A = none → c = 0) ∧ Moved w w' [] := by
  refine (L.way a b w hld).mono ?_
  rw [h]
  rintro r w' ⟨v, rfl, hO, hf, hM⟩
  obtain ⟨A, c, rfl, hn, -⟩ := own_shape (show w'.ownsRow 0 3 1 v 0 [] from hO)
  exact ⟨A, c, rfl, hO, hf, hn, hM⟩
end Lf
end Go.Proofs.YtmaoemedodpebaaDoor
