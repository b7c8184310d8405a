/-
  THE WALK of LifeParts.
-/
import Derived.Test.YtmaoemedodpebaaDoorLifeWakes
import Derived.Test.YtmaoemedodpebaaDoorKeepInts
namespace Go.Proofs.YtmaoemedodpebaaDoor
namespace Lf
open Go.RowKit
theorem twinInts_is (A : Option Addr) (n c : Nat) (xs : List Int) (w : World) (hA : IRow w A xs) (hl : xs.length = n) (hz : A = none → c = 0) (hlen : n * 8 ≤ 140737488351232) :
    Calls Tryd.prog 11 #[.slice A n c] w fun e w' => ∃ v, e = .returned v ∧ w'.ownsRow w.heap.size 3 1 v n (xs.map (Value.int .i64)) ∧ Moved w w' [] := by
  subst hl
  exact (twinInts_any A c xs w hA hz hlen).mono fun e w' ⟨v, h1, h2, h3⟩ => ⟨v, h1, h2, Moved.of_below h3 []⟩
set_option maxRecDepth 100000 in
set_option maxHeartbeats 4000000 in
theorem parts_any (L : LfLaws) (st : Int) (A : Option Addr) (n c : Nat) (xs : List Int) (B : Option Addr) (m d : Nat) (ys : List Int) (w : World) (hld : Ld w) (hA : IRow w A xs) (hl : xs.length = n) (hn : n ≤ 9223372036854775807) (hz : A = none → c = 0) (hB : IRow w B ys) (hm : ys.length = m) (hm63 : m ≤ 9223372036854775807) (hzb : B = none → d = 0) :
    Calls Tryd.prog 7 #[.int .i64 st, .slice A n c, .slice B m d] w fun e w' => e = .returned (.bool true) ∧ Moved w w' [] := by
  have HLD := Lib.hid hld
  clear hld
  obtain ⟨i0, hi, hz0, hz1, hz2⟩ := info_parts info_int
  have HA := Lib.hid hA
  have HL := Lib.hid hl
  have HZ := Lib.hid hz
  have HB := Lib.hid hB
  have HLM := Lib.hid hm
  have HZB := Lib.hid hzb
  clear hA hl hz hB hm hzb
  by_cases h1 : 2000 < n
  · go_enter Tryd.func7, Tryd.ntmps7
    go_wp2
    go_ret
    exact ⟨rfl, Moved.refl _ _⟩
  have d1 : decide (2000 < n) = false := by simpa using h1
  by_cases h2 : 2000 < m
  · go_enter Tryd.func7, Tryd.ntmps7
    go_wp2
    go_ret
    exact ⟨rfl, Moved.refl _ _⟩
  have d2 : decide (2000 < m) = false := by simpa using h2
  obtain ⟨x, hx⟩ : ∃ x, x = (walkL st xs).1 := ⟨_, rfl⟩
  obtain ⟨k, hk⟩ : ∃ k, k = (walkL st xs).2 := ⟨_, rfl⟩
  have hkn : k ≤ n := by rw [hk, ← HL.out]; exact walk_le xs st
  have HX := Lib.hid hx
  have HK := Lib.hid hk
  clear hx hk
  by_cases hlt : k < n
  · have HP : Hid (walkL st (xs ++ ys) = (x, k)) := by
      show _ = _
      rw [walk_part ys (by rw [← HK.out, HL.out]; exact hlt), HX.out, HK.out]
    go_enter Tryd.func7, Tryd.ntmps7
    go_wp2_with fail
    refine (L.walk st A n c xs w HA.out HL.out (by omega) HLD.out).mono ?_
    rw [← HX.out, ← HK.out]
    rintro e w1 ⟨rfl, hM1⟩
    have HM1 := Lib.hid hM1
    clear hM1
    go_wp2_with fail
    refine (twinInts_is A n c xs w1 (irow_moved HA.out HM1.out) HL.out HZ.out (by omega)).mono ?_
    rintro e w2 ⟨v2, rfl, hO2, hM2⟩
    have HO2 := Lib.hid hO2
    have HM2 := Lib.hid (HM1.out.trans hM2 (fun _ h => by cases h))
    have hz2s : w1.heap.size ≤ w2.heap.size := hM2.size
    clear hO2 hM2
    go_wp2_with (at_builtin; refine wpList_append_irow rfl _ _ 22 rfl w1.heap.size 3 i0 Tryd.underlying22 hi hz0 hz1 hz2 v2 n _ rfl (by exact HO2.out) B d ys (by exact congrArg (fun m => Value.slice B m d) HLM.out.symm) (irow_moved HB.out HM2.out) HZB.out (by have := HLM.out; omega) hz2s ?_)
    intro v4 w4 hO4 hg4
    have hM24 : Moved w2 w4 (rowOf v2) := (Moved.refl w2 _).grown hg4 (fun j hj => .inl (mem_rowOf.2 hj))
    have hfr : ∀ j ∈ rowOf v2, w1.heap.size ≤ j := fun j hj => (HO2.out.lt j (mem_rowOf.1 hj)).1
    have HM4 := Lib.hid (HM2.out.trans hM24 (fun j hj => .inr (Nat.le_trans HM1.out.size (hfr j hj))))
    obtain ⟨A4, c4, rfl, -, -⟩ := own_shape hO4
    have HI4 := Lib.hid (own_irow (xs := xs ++ ys) (by rw [List.map_append]; exact hO4))
    rw [HLM.out]
    clear hO4 hg4 hM24 hfr
    go_wp2_with fail
    refine (L.walk st A4 (n + m) c4 (xs ++ ys) w4 HI4.out (by rw [List.length_append, HL.out, HLM.out]) (by omega) (HLD.out.moved HM4.out)).mono ?_
    rw [HP.out]
    rintro e w5 ⟨rfl, hM5⟩
    have HM5 := Lib.hid (HM4.out.trans hM5 (fun _ h => by cases h))
    clear hM5
    go_wp2_with (go_at_call 15; refine (wakes_any L _ (by exact HLD.out.moved HM5.out)).mono ?_; rintro e w7 ⟨rfl, hM7⟩; have HM7 := Lib.hid (HM5.out.trans hM7 (fun _ h => by cases h)); clear hM7)
    go_ret
    exact ⟨rfl, HM7.out⟩
  · obtain rfl : k = n := by omega
    obtain ⟨z, hz⟩ : ∃ z, z = (walkL x ys).1 := ⟨_, rfl⟩
    obtain ⟨j, hj⟩ : ∃ j, j = (walkL x ys).2 := ⟨_, rfl⟩
    have hjm : j ≤ m := by rw [hj, ← HLM.out]; exact walk_le ys x
    have HP : Hid (walkL st (xs ++ ys) = (z, k + j)) := by
      show _ = _
      rw [walk_both ys (by rw [← HK.out, HL.out]), ← HX.out, hz, hj, HL.out]
    have HZ1 := Lib.hid hz
    have HJ := Lib.hid hj
    clear hz hj
    go_enter Tryd.func7, Tryd.ntmps7
    go_wp2_with fail
    refine (L.walk st A k c xs w HA.out HL.out (by omega) HLD.out).mono ?_
    rw [← HX.out, ← HK.out]
    rintro e w0 ⟨rfl, hM0⟩
    have HM0 := Lib.hid hM0
    clear hM0
    go_wp2_with fail
    refine (L.walk x B m d ys w0 (irow_moved HB.out HM0.out) HLM.out (by omega) (HLD.out.moved HM0.out)).mono ?_
    rw [← HZ1.out, ← HJ.out]
    rintro e w1 ⟨rfl, hM1⟩
    have HM1 := Lib.hid (HM0.out.trans hM1 (fun _ h => by cases h))
    clear hM1
    go_wp2_with fail
    refine (twinInts_is A k c xs w1 (irow_moved HA.out HM1.out) HL.out HZ.out (by omega)).mono ?_
    rintro e w2 ⟨v2, rfl, hO2, hM2⟩
    have HO2 := Lib.hid hO2
    have HM2 := Lib.hid (HM1.out.trans hM2 (fun _ h => by cases h))
    have hz2s : w1.heap.size ≤ w2.heap.size := hM2.size
    clear hO2 hM2
    go_wp2_with (at_builtin; refine wpList_append_irow rfl _ _ 22 rfl w1.heap.size 3 i0 Tryd.underlying22 hi hz0 hz1 hz2 v2 k _ rfl (by exact HO2.out) B d ys (by exact congrArg (fun m => Value.slice B m d) HLM.out.symm) (irow_moved HB.out HM2.out) HZB.out (by have := HLM.out; omega) hz2s ?_)
    intro v4 w4 hO4 hg4
    have hM24 : Moved w2 w4 (rowOf v2) := (Moved.refl w2 _).grown hg4 (fun j hj => .inl (mem_rowOf.2 hj))
    have hfr : ∀ j ∈ rowOf v2, w1.heap.size ≤ j := fun j hj => (HO2.out.lt j (mem_rowOf.1 hj)).1
    have HM4 := Lib.hid (HM2.out.trans hM24 (fun j hj => .inr (Nat.le_trans HM1.out.size (hfr j hj))))
    obtain ⟨A4, c4, rfl, -, -⟩ := own_shape hO4
    have HI4 := Lib.hid (own_irow (xs := xs ++ ys) (by rw [List.map_append]; exact hO4))
    rw [HLM.out]
    clear hO4 hg4 hM24 hfr
    go_wp2_with fail
    refine (L.walk st A4 (k + m) c4 (xs ++ ys) w4 HI4.out (by rw [List.length_append, HL.out, HLM.out]) (by omega) (HLD.out.moved HM4.out)).mono ?_
    rw [HP.out]
    rintro e w5 ⟨rfl, hM5⟩
    have HM5 := Lib.hid (HM4.out.trans hM5 (fun _ h => by cases h))
    clear hM5
    go_wp2_with (go_at_call 15; refine (wakes_any L _ (by exact HLD.out.moved HM5.out)).mono ?_; rintro e w7 ⟨rfl, hM7⟩; have HM7 := Lib.hid (HM5.out.trans hM7 (fun _ h => by cases h)); clear hM7)
    go_ret
    exact ⟨rfl, HM7.out⟩
end Lf
end Go.Proofs.YtmaoemedodpebaaDoor
