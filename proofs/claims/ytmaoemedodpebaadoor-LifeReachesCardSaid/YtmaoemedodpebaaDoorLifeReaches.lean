/-
  THE WALK of LifeReaches.
-/
import Derived.Test.YtmaoemedodpebaaDoorLifeWakes
namespace Go.Proofs.YtmaoemedodpebaaDoor
namespace Lf
open Go.RowKit
set_option maxRecDepth 100000 in
set_option maxHeartbeats 2000000 in
theorem reaches_any (L : LfLaws) (w : World) (hld : Ld w) : Calls Tryd.prog 8 #[] w fun e w' => e = .returned (.bool true) ∧ Moved w w' [] := by
  have HLD := Lib.hid hld
  clear hld
  go_enter Tryd.func8, Tryd.ntmps8
  go_wp2
  go_loopw [1] (fun i wr => ∃ k : Nat, i = .int .i64 k ∧ k ≤ 8 ∧ Moved w wr []) (fun i _ => 9 - (intOf i).toNat)
  case atStart => exact ⟨0, rfl, by omega, Moved.refl _ _⟩
  case round =>
    obtain ⟨k, rfl, hk, hM⟩ := hrel
    have HM := Lib.hid hM
    clear hM
    by_cases hlt : k < 8
    · have hd : decide ((k : Int) ≤ 7) = true := by simp; omega
      have hs0 : isSt 0 := by unfold isSt; omega
      have hsk : isSt (k : Int) := by unfold isSt; omega
      obtain ⟨l, hl, hl7⟩ := way_some hs0 hsk
      obtain ⟨r, hr, hr7⟩ := way_some hsk hs0
      have HLW := Lib.hid hl
      have HRW := Lib.hid hr
      clear hl hr hs0 hsk
      go_wp2_with fail
      refine (L.len wr HLW.out (HLD.out.moved HM.out)).mono ?_
      rintro e w2 ⟨A2, c2, rfl, hO2, hf2, hn2, hM2⟩
      have HM2 := Lib.hid (HM.out.trans hM2 (fun _ h => by cases h))
      clear hO2 hf2 hn2 hM2
      go_wp2_with fail
      refine (L.len w2 HRW.out (HLD.out.moved HM2.out)).mono ?_
      rintro e w3 ⟨A3, c3, rfl, hO3, hf3, hn3, hM3⟩
      have HM3 := Lib.hid (HM2.out.trans hM3 (fun _ h => by cases h))
      clear hO3 hf3 hn3 hM3
      go_wp2
      go_roundw
      case rel => exact ⟨k + 1, by go_num, by omega, HM3.out⟩
      case measure => simp [intOf]; omega
    · have hd : decide ((k : Int) ≤ 7) = false := by simp; omega
      go_wp2_with (go_at_call 15; refine (wakes_any L _ (by exact HLD.out.moved HM.out)).mono ?_; rintro e w4 ⟨rfl, hM4⟩; have HM4 := Lib.hid (HM.out.trans hM4 (fun _ h => by cases h)); clear hM4)
      go_ret
      exact ⟨rfl, HM4.out⟩
end Lf
end Go.Proofs.YtmaoemedodpebaaDoor
