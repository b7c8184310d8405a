/-
  For all t, num, den: a share lies between the one rounded down and the one rounded up, which are at most one apart; a whole is itself. No condition.
  The frame is the guide's template at this function's number and types; the walk is mine.
-/
import Derived.Test.YthcipnofccnplaaRows
import Derived.WalkKit
import Derived.ProofKit
import Derived.OpenShut
import Derived.ShutString
import Derived.Test.YthcipnofccnplaaTickShare
import Derived.Test.YthcipnofccnplaaTickShareUp
import Derived.Test.YthcipnofccnplaaTickMath
import Derived.Test.YthcipnofccnplaaTickWakes
namespace Go.Proofs.Ythcipnofccnplaa.tickEncloses
open Go.ChangeShapes Go.WideShapes Go.ChangeAt Go.RowKit
open Go.ChangeMaps (open_string shut_string)
set_option linter.unusedVariables false      -- a walk need not use every 'w<i>' (that an integer argument fits its kind)

theorem own : ownKnob Try.prog.godebug = none := by kernel_rfl

open Tk

/-! ### STEP 1: the walk -/
theorem walk (a0 : Int) (a1 : Int) (a2 : Int) (w0 : (Lit.int .i64 a0).wf = true) (w1 : (Lit.int .i64 a1).wf = true) (w2 : (Lit.int .i64 a2).wf = true) (w : World) :
    Calls Try.prog 8 #[.int .i64 a0, .int .i64 a1, .int .i64 a2] w fun e w' => e = .returned (.bool true) ∧ Grown w w' := by
  cases hm : mayB a0 a1 a2
  · have H1 := Lib.hid (shN_no hm)
    have H2 := Lib.hid (shuN_no hm)
    have H3 := Lib.hid (shE_no hm)
    go_enter Try.func8, Try.ntmps8
    go_wp2_with (first
      | (go_at_call 15; refine (share_is H1.out H3.out _).mono ?_; rintro e w' ⟨rfl, rfl⟩)
      | (go_at_call 17; refine (shareUp_is H2.out H3.out _).mono ?_; rintro e w' ⟨rfl, rfl⟩)
      | (go_at_call 19; refine (wakes_any _).mono ?_; rintro e w' ⟨rfl, rfl⟩))
    go_ret
    exact ⟨rfl, Grown.refl _⟩
  · have H3 := Lib.hid (shE_yes hm)
    by_cases hf : a0 = 1099511627776
    · subst hf
      have H1 := Lib.hid (shN_ever hm)
      have H2 := Lib.hid (shuN_ever hm)
      clear hm
      go_enter Try.func8, Try.ntmps8
      go_wp2_with (first
        | (go_at_call 15; refine (share_is H1.out H3.out _).mono ?_; rintro e w' ⟨rfl, rfl⟩)
        | (go_at_call 17; refine (shareUp_is H2.out H3.out _).mono ?_; rintro e w' ⟨rfl, rfl⟩)
        | (go_at_call 19; refine (wakes_any _).mono ?_; rintro e w' ⟨rfl, rfl⟩))
      all_goals go_ret
      all_goals exact ⟨rfl, Grown.refl _⟩
    · obtain ⟨hr, n0, n1, d0, d1⟩ := mayB_parts hm
      have t0 := rB_lo hr
      have t1 := rB_hi hr
      have ht : a0 < 1099511627776 := by omega
      obtain ⟨f1, f2, f3, f4, f5, f6, f7, f8⟩ := share_facts hm ht
      by_cases hw : a1 = a2
      · subst hw
        have H1 := Lib.hid (share_whole hm).1
        have H2 := Lib.hid (share_whole hm).2
        have p0 := prod_lo t0 n0
        have p1 := prod_hi t1 n0 n1
        clear hm hf hr f1 f2 f3 f4 f5 f6 f7 f8
        go_enter Try.func8, Try.ntmps8
        go_wp2_with (first
          | (go_at_call 15; refine (share_is H1.out H3.out _).mono ?_; rintro e w' ⟨rfl, rfl⟩)
          | (go_at_call 17; refine (shareUp_is H2.out H3.out _).mono ?_; rintro e w' ⟨rfl, rfl⟩)
          | (go_at_call 19; refine (wakes_any _).mono ?_; rintro e w' ⟨rfl, rfl⟩))
        go_ret
        exact ⟨rfl, Grown.refl _⟩
      · have hw' : (a1 == a2) = false := beq_eq_false_iff_ne.2 hw
        obtain ⟨x, hx⟩ : ∃ x, shN a0 a1 a2 = x := ⟨_, rfl⟩
        obtain ⟨y, hy⟩ : ∃ y, shuN a0 a1 a2 = y := ⟨_, rfl⟩
        rw [hx] at f1 f2 f5 f6 f7
        rw [hy] at f3 f4 f5 f6 f8
        have H1 := Lib.hid hx
        have H2 := Lib.hid hy
        have p0 := prod_lo t0 n0
        have p1 := prod_hi t1 n0 n1
        have x0 := prod_lo f1 (show 0 ≤ a2 by omega)
        have x1 := prod_hi f2 (show 0 ≤ a2 by omega) d1
        have y0 := prod_lo f3 (show 0 ≤ a2 by omega)
        have y1 := prod_hi f4 (show 0 ≤ a2 by omega) d1
        clear hm hf hr hx hy hw
        by_cases hX : x < 1099511627776
        · have g7 := f7 hX
          by_cases hY : y < 1099511627776
          · have g8 := f8 hY
            clear f7 f8
            go_enter Try.func8, Try.ntmps8
            go_wp2_with (first
              | (go_at_call 15; refine (share_is H1.out H3.out _).mono ?_; rintro e w' ⟨rfl, rfl⟩)
              | (go_at_call 17; refine (shareUp_is H2.out H3.out _).mono ?_; rintro e w' ⟨rfl, rfl⟩)
              | (go_at_call 19; refine (wakes_any _).mono ?_; rintro e w' ⟨rfl, rfl⟩))
            go_ret
            exact ⟨rfl, Grown.refl _⟩
          · clear f7 f8
            go_enter Try.func8, Try.ntmps8
            go_wp2_with (first
              | (go_at_call 15; refine (share_is H1.out H3.out _).mono ?_; rintro e w' ⟨rfl, rfl⟩)
              | (go_at_call 17; refine (shareUp_is H2.out H3.out _).mono ?_; rintro e w' ⟨rfl, rfl⟩)
              | (go_at_call 19; refine (wakes_any _).mono ?_; rintro e w' ⟨rfl, rfl⟩))
            go_ret
            exact ⟨rfl, Grown.refl _⟩
        · clear f7 f8
          go_enter Try.func8, Try.ntmps8
          go_wp2_with (first
            | (go_at_call 15; refine (share_is H1.out H3.out _).mono ?_; rintro e w' ⟨rfl, rfl⟩)
            | (go_at_call 17; refine (shareUp_is H2.out H3.out _).mono ?_; rintro e w' ⟨rfl, rfl⟩)
            | (go_at_call 19; refine (wakes_any _).mono ?_; rintro e w' ⟨rfl, rfl⟩))
          go_ret
          exact ⟨rfl, Grown.refl _⟩

/-! ### THE ROW's STEP: WRITTEN OUT: LEAVE IT -/
set_option maxRecDepth 100000 in
theorem lifted (os : Os) (started : os.Started) (H : Type) (enc : TypeId × Value → H) :
    ReturnsInHanded {} Try.checked os 8 .any (Rows.tickEnclosesSpec.pre6 enc Try.prog Try.f8 Rows.tickEnclosesRow.domain false) (Rows.tickEnclosesSpec.post enc Try.prog Try.f8 false true false false) := by
  refine returnsInHanded_of_change (C := Try.checked) own started (by kernel_rfl) Try.func8
    (ChangeSpec.witness6 (enc := enc) (C := Try.checked) false ⟨#[], #[.int .i64 0, .int .i64 0, .int .i64 0], []⟩ 8 (by kernel_rfl) (by kernel_rfl) (by kernel_rfl) (by kernel_rfl)) ?_
  intro W base args ds gs before hval0 hW hcnd _
  have hval : ∀ (j : Nat) t v, Try.f8.params[j]? = some t → args[j]? = some v → Value.okWide Try.prog W .any base t v := hval0
  have hW' := hW
  obtain ⟨p, q, hA0, hV, rfl, hfz, hnd⟩ := hW
  have hA : DataW.TrodAll enc Try.prog W 0 (fun _ => true) true Try.f8.params.toList args.toList ds p := hA0
  rw [Try.params8] at hA hval
  obtain ⟨v0, vs0, d0, ds0, p0, q0, hargs, rfl, rfl, h0, r0⟩ := trodAll_cons hA
  obtain ⟨v1, vs1, d1, ds1, p1, q1, rfl, rfl, rfl, h1, r1⟩ := trodAll_cons r0
  obtain ⟨v2, vs2, d2, ds2, p2, q2, rfl, rfl, rfl, h2, r2⟩ := trodAll_cons r1
  obtain ⟨rfl, rfl, rfl⟩ := trodAll_nil r2
  obtain rfl : args = #[v0, v1, v2] := by cases args; simp_all
  obtain ⟨rfl, rfl⟩ := trodVars_none hV
  obtain ⟨a0, rfl, rfl, rfl, w0⟩ := open_int Try.underlying3 (hval 0 3 v0 rfl rfl) h0
  obtain ⟨a1, rfl, rfl, rfl, w1⟩ := open_int Try.underlying3 (hval 1 3 v1 rfl rfl) h1
  obtain ⟨a2, rfl, rfl, rfl, w2⟩ := open_int Try.underlying3 (hval 2 3 v2 rfl rfl) h2
  clear hA0 hval0
  simp only [List.append_nil] at hW'
  refine (walk a0 a1 a2 w0 w1 w2 W).mono fun e W' ⟨he, hg⟩ => ?_
  subst he
  exact ⟨_, rfl, post_of_same (pa := []) (pv := []) hW' (fun _ _ _ => (trodAll_cons_mk (shut_bool Try.underlying4 _) trodAll_mk0)) (fun sp _ => (trodAll_cons_mk (shut_int Try.underlying3 w0) (trodAll_cons_mk (shut_int Try.underlying3 w1) (trodAll_cons_mk (shut_int Try.underlying3 w2) trodAll_mk0)))) (fun _ _ => rfl) rfl
    (hg.frame _) hg.2.1 (ok_one (by kernel_rfl) rfl (okWide_bool_mk Try.underlying4 _))⟩

theorem over : Rows.tickEnclosesRow.holds Try.pinned (OpenSpec.ofChange Rows.tickEnclosesSpec) :=
  OpenClaim.holds_of_wide 8 Try.f8 rfl rfl rfl rfl rfl rfl rfl ⟨rfl, rfl, rfl, rfl, rfl⟩ rfl rfl rfl rfl rfl (by kernel_rfl) Try.func8 (by kernel_rfl)
    (of_decide_eq_true (by kernel_rfl)) (by unfold Func.isWrapper; first | (rw [if_pos (by decide +kernel)]; kernel_rfl) | (rw [if_neg (by decide +kernel)]; exact ⟨rfl, rfl⟩))
    (fun os started H enc _ => lifted os started H enc)

/-- ████ THE STATEMENT ████ -/
theorem proved : Rows.TickEnclosesSaid :=
  over
#print axioms proved
end Go.Proofs.Ythcipnofccnplaa.tickEncloses
