/-
  THE WALK of LifeLeads.
-/
import Derived.Test.YtmaoemedodpebaaDoorLifeWakes
namespace Go.Proofs.YtmaoemedodpebaaDoor
namespace Lf
open Go.RowKit
set_option maxRecDepth 100000 in
set_option maxHeartbeats 2000000 in
theorem leads_any (L : LfLaws) (a b : Int) (w : World) (hld : Ld w) :
    Calls Tryd.prog 5 #[.int .i64 a, .int .i64 b] w fun e w' => e = .returned (.bool true) ∧ Moved w w' [] := by
  have HLD := Lib.hid hld
  clear hld
  cases hw : wayL a b with
  | none =>
    have HW := Lib.hid hw
    clear hw
    go_enter Tryd.func5, Tryd.ntmps5
    go_wp2_with fail
    refine (L.none w HW.out HLD.out).mono ?_
    rintro e w2 ⟨A2, c2, rfl, hO2, hf2, hn2, hM2⟩
    have HM2 := Lib.hid hM2
    clear hO2 hf2 hn2 hM2
    go_wp2_with (go_at_call 15; refine (wakes_any L _ (by exact HLD.out.moved HM2.out)).mono ?_; rintro e w3 ⟨rfl, hM3⟩; have HM3 := Lib.hid (HM2.out.trans hM3 (fun _ h => by cases h)); clear hM3)
    go_ret
    exact ⟨rfl, HM3.out⟩
  | some l =>
    have HW := Lib.hid hw
    have hlead := wayL_leads hw
    have HLEAD := Lib.hid hlead.1
    have hl8 := hlead.2.1
    clear hw hlead
    obtain ⟨y, hy⟩ : ∃ y, y = l.length := ⟨_, rfl⟩
    rw [← hy] at hl8
    have HY := Lib.hid hy
    clear hy
    go_enter Tryd.func5, Tryd.ntmps5
    go_wp2_with fail
    refine (L.len w HW.out HLD.out).mono ?_
    rw [← HY.out]
    rintro e w2 ⟨A2, c2, rfl, hO2, hf2, hn2, hM2⟩
    have HM2 := Lib.hid hM2
    have HO2 := Lib.hid hO2
    clear hO2 hf2 hn2 hM2
    go_wp2_with fail
    refine (L.walk a A2 y c2 l w2 (own_irow HO2.out) HY.out.symm (by omega) (HLD.out.moved HM2.out)).mono ?_
    rw [HLEAD.out, ← HY.out]
    rintro e w3 ⟨rfl, hM3⟩
    have HM3 := Lib.hid (HM2.out.trans hM3 (fun _ h => by cases h))
    clear hM3
    go_wp2_with (go_at_call 15; refine (wakes_any L _ (by exact HLD.out.moved HM3.out)).mono ?_; rintro e w4 ⟨rfl, hM4⟩; have HM4 := Lib.hid (HM3.out.trans hM4 (fun _ h => by cases h)); clear hM4)
    go_ret
    exact ⟨rfl, HM4.out⟩
end Lf
end Go.Proofs.YtmaoemedodpebaaDoor
