/-
  THE WALK of LifeExact.
-/
import Derived.Test.YtmaoemedodpebaaDoorLifeParts
import Derived.Test.YtmaoemedodpebaaDoorLifeStarts
import Derived.Test.YtmaoemedodpebaaDoorLifeRefNext
namespace Go.Proofs.YtmaoemedodpebaaDoor
namespace Lf
open Go.RowKit
theorem ints_is (A B : Option Addr) (n c d : Nat) (xs : List Int) (w : World) (hA : IRow w A xs) (hB : IRow w B xs) (hl : xs.length = n) (hlen : n ≤ 9223372036854775807) :
    Calls Tryd.prog 14 #[.slice A n c, .slice B n d] w fun e w' => e = .returned (.bool true) ∧ Moved w w' [] := by
  subst hl
  exact (ints_same A B c d xs w hA hB hlen).mono fun e w' ⟨h1, k, h2⟩ => ⟨h1, by rw [h2]; exact (Moved.refl w []).drewN k⟩
set_option maxRecDepth 100000 in
set_option maxHeartbeats 4000000 in
theorem exact_any (L : LfLaws) (st ev : Int) (A : Option Addr) (n c : Nat) (xs : List Int) (w : World) (hld : Ld w) (hA : IRow w A xs) (hl : xs.length = n) (hn : n ≤ 9223372036854775807) (hz : A = none → c = 0) :
    Calls Tryd.prog 3 #[.int .i64 st, .int .i64 ev, .slice A n c] w fun e w' => e = .returned (.bool true) ∧ Moved w w' [] := by
  have HLD := Lib.hid hld
  clear hld
  obtain ⟨i0, hi, hz0, hz1, hz2⟩ := info_parts info_int
  have HA := Lib.hid hA
  have HL := Lib.hid hl
  have HZ := Lib.hid hz
  clear hA hl hz
  by_cases h1 : 2000 < n
  · go_enter Tryd.func3, Tryd.ntmps3
    go_wp2
    go_ret
    exact ⟨rfl, Moved.refl _ _⟩
  have d1 : decide (2000 < n) = false := by simpa using h1
  obtain ⟨t, ht⟩ : ∃ t, t = (nxt st ev).getD 0 := ⟨_, rfl⟩
  obtain ⟨o, ho⟩ : ∃ o, o = (nxt st ev).isSome := ⟨_, rfl⟩
  obtain ⟨x, hx⟩ : ∃ x, x = (walkL st xs).1 := ⟨_, rfl⟩
  obtain ⟨k, hk⟩ : ∃ k, k = (walkL st xs).2 := ⟨_, rfl⟩
  have HT := Lib.hid ht
  have HO := Lib.hid ho
  have HX := Lib.hid hx
  have HK := Lib.hid hk
  have hkn : k ≤ n := by rw [hk, ← HL.out]; exact walk_le xs st
  clear ht ho hx hk
  have hoo : (o != o) = false := by cases o <;> rfl
  go_enter Tryd.func3, Tryd.ntmps3
  go_wp2_with fail
  refine (L.next st ev w HLD.out).mono ?_
  rw [← HT.out, ← HO.out]
  rintro e w1 ⟨rfl, hM1⟩
  have HM1 := Lib.hid hM1
  clear hM1
  go_wp2_with fail
  refine (refNext_any st ev w1).mono ?_
  rw [← HT.out, ← HO.out]
  rintro e w2 ⟨rfl, hM2⟩
  have HM2 := Lib.hid (HM1.out.trans hM2 (fun _ h => by cases h))
  clear hM2
  go_wp2_with fail
  refine (twinInts_is A n c xs w2 (irow_moved HA.out HM2.out) HL.out HZ.out (by omega)).mono ?_
  rintro e w3 ⟨v3, rfl, hO3, hM3⟩
  have HO3 := Lib.hid hO3
  have HM3 := Lib.hid (HM2.out.trans hM3 (fun _ h => by cases h))
  have hz3 : w2.heap.size ≤ w3.heap.size := hM3.size
  clear hO3 hM3
  go_wp2_with (at_builtin; refine wpList_append_irow rfl _ _ 22 rfl w2.heap.size 3 i0 Tryd.underlying22 hi hz0 hz1 hz2 v3 n _ rfl (by exact HO3.out.alloc _) (some ⟨w3.heap.size, 0, none⟩) 1 [-9] rfl (by exact irow_lit w3 [-9] _ _ rfl) (fun h => by cases h) (by simp; omega) (by exact Nat.le_trans hz3 ((Moved.refl w3 []).alloc _).size) ?_)
  intro v4 w4 hO4 hg4
  have hM24 : Moved (w3.alloc (.cells #[.int .i64 (-9)] 3)) w4 (rowOf v3) := (Moved.refl _ _).grown hg4 (fun j hj => .inl (mem_rowOf.2 hj))
  have hfr : ∀ j ∈ rowOf v3, w2.heap.size ≤ j := fun j hj => (HO3.out.lt j (mem_rowOf.1 hj)).1
  have HM4 := Lib.hid ((HM3.out.alloc _).trans hM24 (fun j hj => .inr (Nat.le_trans HM2.out.size (hfr j hj))))
  obtain ⟨A4, c4, rfl, -, hc4⟩ := own_shape hO4
  have hI4 := own_irow (xs := xs ++ [-9]) (by rw [List.map_append]; exact hO4)
  obtain ⟨b, off, rfl, hcell⟩ := hI4 n (-9) (by rw [List.getElem?_append_right (by rw [HL.out]; omega), HL.out]; simp)
  have HI4 := Lib.hid (show IRow w4 (some ⟨b, off, none⟩) xs from by
    have := hI4.take n
    rw [List.take_left' HL.out] at this
    exact this)

  clear hO4 hg4 hM24 hfr hI4
  go_wp2_with fail
  refine (L.walk st _ n _ xs w4 HI4.out HL.out (by omega) (HLD.out.moved HM4.out)).mono ?_
  rw [← HX.out, ← HK.out]
  rintro e w5 ⟨rfl, hM5⟩
  have HM5 := Lib.hid (HM4.out.trans hM5 (fun _ h => by cases h))
  have hcell5 := kept_cell hM5 hcell
  have HI5 := Lib.hid (irow_moved HI4.out hM5)
  clear hM5 hcell
  go_wp2_with fail
  refine (refWalk_any st A n c xs w5 (irow_moved HA.out HM5.out) HL.out hn).mono ?_
  rw [← HX.out, ← HK.out]
  rintro e w6 ⟨rfl, hM6⟩
  have HM6 := Lib.hid (HM5.out.trans hM6 (fun _ h => by cases h))
  have hcell6 := kept_cell hM6 hcell5
  have HI6 := Lib.hid (irow_moved HI5.out hM6)
  clear hM6 hcell5
  go_wp2_with (first
    | (go_at_call 14; refine (ints_is _ A n _ c xs w6 HI6.out (irow_moved HA.out HM6.out) HL.out hn).mono ?_; rintro e w7 ⟨rfl, hM7⟩; have hcell7 := kept_cell hM7 hcell6; have HM7 := Lib.hid (HM6.out.trans hM7 (fun _ h => by cases h)); clear hM7)
    | (go_at_call 15; refine (wakes_any L _ (by exact HLD.out.moved HM7.out)).mono ?_; rintro e w8 ⟨rfl, hM8⟩; have HM8 := Lib.hid (HM7.out.trans hM8 (fun _ h => by cases h)); clear hM8))
  go_ret
  exact ⟨rfl, HM8.out⟩
end Lf
end Go.Proofs.YtmaoemedodpebaaDoor
