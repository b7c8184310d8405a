/-
  THE WALK of LifeShort.
-/
import Derived.Test.YtmaoemedodpebabDoorLifeWakes
namespace Go.Proofs.YtmaoemedodpebabDoor
namespace Lf
open Go.RowKit
set_option maxRecDepth 100000 in
set_option maxHeartbeats 2000000 in
theorem short_any (L : LfLaws) (a : Int) (A : Option Addr) (n c : Nat) (xs : List Int) (w : World) (hld : Ld w) (hA : IRow w A xs) (hl : xs.length = n) (hn : n ≤ 9223372036854775807) :
    Calls Tryd.prog 3 #[.int .i64 a, .slice A n c] w fun e w' => e = .returned (.bool true) ∧ Moved w w' [] := by
  have HLD := Lib.hid hld
  clear hld
  have HA := Lib.hid hA
  have HL := Lib.hid hl
  clear hA hl
  by_cases hgo : n ≤ 2000 ∧ isSt a
  · obtain ⟨h1, hst⟩ := hgo
    obtain ⟨l, hw, hle⟩ := way_short (xs := xs) hst
    obtain ⟨t, ht⟩ : ∃ t, t = (walkL a xs).1 := ⟨_, rfl⟩
    obtain ⟨k, hk⟩ : ∃ k, k = (walkL a xs).2 := ⟨_, rfl⟩
    have hkn : k ≤ n := by rw [hk, ← HL.out]; exact walk_le xs a
    rw [← ht] at hw
    rw [← hk] at hle
    have HT := Lib.hid ht
    have HK := Lib.hid hk
    have HW := Lib.hid hw
    have ha0 : 0 ≤ a := hst.1
    have ha7 : a ≤ 7 := hst.2
    clear ht hk hw hst
    go_enter Tryd.func3, Tryd.ntmps3
    go_wp2_with fail
    refine (L.walk a A n c xs w HA.out HL.out (by omega) HLD.out).mono ?_
    rw [← HT.out, ← HK.out]
    rintro e w1 ⟨rfl, hM1⟩
    have HM1 := Lib.hid hM1
    clear hM1
    go_wp2_with fail
    refine (L.len w1 HW.out (HLD.out.moved HM1.out)).mono ?_
    rintro e w2 ⟨A2, c2, rfl, hO2, hf2, hn2, hM2⟩
    have HM2 := Lib.hid (HM1.out.trans hM2 (fun _ h => by cases h))
    clear hO2 hf2 hn2 hM2
    go_wp2_with (go_at_call 6; refine (wakes_any L _ (by exact HLD.out.moved HM2.out)).mono ?_; rintro e w3 ⟨rfl, hM3⟩; have HM3 := Lib.hid (HM2.out.trans hM3 (fun _ h => by cases h)); clear hM3)
    go_ret
    exact ⟨rfl, HM3.out⟩
  · have hcase : 2000 < n ∨ a < 0 ∨ 7 < a := by unfold isSt at hgo; omega
    clear hgo
    by_cases h1 : 2000 < n
    · go_enter Tryd.func3, Tryd.ntmps3
      go_wp2
      go_ret
      exact ⟨rfl, Moved.refl _ _⟩
    · by_cases h2 : a < 0
      · go_enter Tryd.func3, Tryd.ntmps3
        go_wp2
        go_ret
        exact ⟨rfl, Moved.refl _ _⟩
      · have h3 : 7 < a := by omega
        have d2 : decide (a < 0) = false := by simpa using h2
        go_enter Tryd.func3, Tryd.ntmps3
        go_wp2
        go_ret
        exact ⟨rfl, Moved.refl _ _⟩
end Lf
end Go.Proofs.YtmaoemedodpebabDoor
