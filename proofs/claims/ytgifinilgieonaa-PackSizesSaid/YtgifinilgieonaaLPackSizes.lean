/-
  For every 64-bit number: it is written in a byte for each seven bits, at least one, at most ten. No condition.
  The frame is the guide's template at this function's number and types; the walk is mine.
-/
import Derived.Test.YtgifinilgieonaaRows
import Derived.WalkKit
import Derived.Below
import Derived.ProofKit
import Derived.OpenShut
import Derived.ShutString
import Derived.Test.YtgifinilgieonaaPackHaveR
namespace Go.Proofs.Ytgifinilgieonaa.packSizes
open Go.ChangeShapes Go.WideShapes Go.ChangeAt Go.RowKit
open Go.ChangeMaps (open_string shut_string)
set_option linter.unusedVariables false      -- a walk need not use every 'w<i>' (that an integer argument fits its kind)

theorem own : ownKnob Try.prog.godebug = none := by kernel_rfl

open Pk
/-- How many bytes are still to be counted where y is left. -/
def rest (y : Nat) : Nat := if y = 0 then 0 else (enc y).length
theorem enc_rest (v : Nat) : (enc v).length = 1 + rest (v / 128) := by
  unfold rest
  by_cases h : v < 128
  · rw [enc_low h, if_pos (by omega)]; rfl
  · rw [enc_high (by omega), if_neg (by omega)]; simp; omega
theorem rest_step {v y c : Nat} (H : (enc v).length = c + rest y) (h : y ≠ 0) : (enc v).length = (c + 1) + rest (y / 128) := by
  rw [H, show rest y = (enc y).length by rw [rest, if_neg h], enc_rest y]; omega
theorem rest_end {v c : Nat} (H : (enc v).length = c + rest 0) : (enc v).length = c := by rw [H, rest, if_pos rfl]; rfl
theorem rest_le {v y c : Nat} (H : (enc v).length = c + rest y) (hv : U64 v) : c ≤ 10 := by have := enc_ten hv; omega

/-! ### STEP 1: the walk -/
theorem walk (a0 : Int) (w0 : (Lit.int .u64 a0).wf = true) (w : World) :
    Calls Try.prog 5 #[.int .u64 a0] w fun e w' => e = .returned (.bool true) ∧ Below w.heap.size w w' := by
  obtain ⟨v, rfl⟩ : ∃ v : Nat, a0 = v := ⟨a0.toNat, by simp [Lit.wf, IntKind.min, IntKind.max, IntKind.signed, IntKind.bits] at w0; omega⟩
  have hv : U64 v := by simp [Lit.wf, IntKind.min, IntKind.max, IntKind.signed, IntKind.bits] at w0; unfold U64; omega
  clear w0
  have hl10 := enc_ten hv
  go_enter Try.func5, Try.ntmps5
  go_wp2_with (first
    | (go_at_call 16; refine (wuint_any _ _ _ _ v _ (WObj.new w) hv (by omega)).mono ?_; rintro e w1 ⟨rfl, fq, hO1, hS1⟩))
  refine (wbytes_any _ _ _ _ _ hO1 (by omega)).mono ?_
  rintro e w2 ⟨vv, rfl, hown, hS2⟩
  have hown : w2.ownsRow 0 5 1 vv (enc v).length ((enc v).map (Value.int .u8)) := by simpa [WSt.put, WSt.out] using hown
  simp only [WSt.put, WSt.err]
  obtain ⟨A, cp, rfl, -⟩ := own_shape hown
  have hM : Moved w w2 [] := ((Moved.refl w []).alloc _).trans ((hS1.1.mono (T := [w.heap.size]) (fun _ h => h)).trans hS2.1 (fun k hk => by cases hk)) (fun k hk => .inr (by simp at hk; omega))
  have HM := Lib.hid hM
  have HV := Lib.hid hv
  have HR := Lib.hid (enc_rest v)
  clear hown hS2 hS1 hO1 hM hv
  go_wp2
  go_loop [6, 7] (fun n x => ∃ c y : Nat, n = .int .i64 c ∧ x = .int .u64 y ∧ U64 y ∧ Hid ((enc v).length = c + rest y)) (fun _ x => (intOf x).toNat)
  case atStart => exact ⟨1, v / 128, rfl, by rw [wrap_u64_div HV.out], u64_div HV.out, HR.out⟩
  case round =>
    obtain ⟨c, y, rfl, rfl, hy64, H⟩ := hrel
    have HY := Lib.hid hy64
    clear hy64
    have hc := rest_le H.out HV.out
    by_cases hy : y = 0
    · subst hy
      have HE := Lib.hid (rest_end H.out)
      have he1 : (((enc v).length : Int) == (c : Int)) = true := by rw [HE.out]; simp
      clear H HR hl10
      go_wp2_with (go_at_call 14; refine (wakes_ _).mono ?_; rintro e w3 ⟨rfl, hM3⟩)
      go_ret
      exact ⟨rfl, (HM.out.trans hM3 (fun k hk => by cases hk)).below (Nat.le_refl _) (fun k hk => by cases hk)⟩
    · have HN := Lib.hid (rest_step H.out hy)
      clear H HR hl10
      go_wp2
      go_round
      case rel => exact ⟨c + 1, y / 128, by go_num, by rw [wrap_u64_div HY.out], u64_div HY.out, HN⟩
      case measure => have := wrap_u64_div HY.out; simp [intOf]; omega

/-! ### THE ROW's STEP: WRITTEN OUT: LEAVE IT -/
set_option maxRecDepth 100000 in
theorem lifted (os : Os) (started : os.Started) (H : Type) (enc : TypeId × Value → H) :
    ReturnsInHanded {} Try.checked os 5 .any (Rows.packSizesSpec.pre6 enc Try.prog Try.f5 Rows.packSizesRow.domain false) (Rows.packSizesSpec.post enc Try.prog Try.f5 false true false false) := by
  refine returnsInHanded_of_change (C := Try.checked) own started (by kernel_rfl) Try.func5
    (ChangeSpec.witness6 (enc := enc) (C := Try.checked) false ⟨#[], #[.int .u64 0], []⟩ 8 (by kernel_rfl) (by kernel_rfl) (by kernel_rfl) (by kernel_rfl)) ?_
  intro W base args ds gs before hval0 hW hcnd _
  have hval : ∀ (j : Nat) t v, Try.f5.params[j]? = some t → args[j]? = some v → Value.okWide Try.prog W .any base t v := hval0
  have hW' := hW
  obtain ⟨p, q, hA0, hV, rfl, hfz, hnd⟩ := hW
  have hA : DataW.TrodAll enc Try.prog W 0 (fun _ => true) true Try.f5.params.toList args.toList ds p := hA0
  rw [Try.params5] at hA hval
  obtain ⟨v0, vs0, d0, ds0, p0, q0, hargs, rfl, rfl, h0, r0⟩ := trodAll_cons hA
  obtain ⟨rfl, rfl, rfl⟩ := trodAll_nil r0
  obtain rfl : args = #[v0] := by cases args; simp_all
  obtain ⟨rfl, rfl⟩ := trodVars_none hV
  obtain ⟨a0, rfl, rfl, rfl, w0⟩ := open_int Try.underlying42 (hval 0 42 v0 rfl rfl) h0
  clear hA0 hval0
  simp only [List.append_nil] at hW'
  refine (walk a0 w0 W).mono fun e W' ⟨he, bel⟩ => ?_
  subst he
  exact ⟨_, rfl, _, _, _, [], _, [], hW', (trodAll_cons_mk (shut_bool Try.underlying4 _) trodAll_mk0), (trodAll_cons_mk (shut_int Try.underlying42 w0) trodAll_mk0), rfl, bel.frame _, fun h => by cases h⟩

theorem over : Rows.packSizesRow.holds Try.pinned (OpenSpec.ofChange Rows.packSizesSpec) :=
  OpenClaim.holds_of_wide 5 Try.f5 rfl rfl rfl rfl rfl rfl rfl ⟨rfl, rfl, rfl, rfl, rfl⟩ rfl rfl rfl rfl rfl (by kernel_rfl) Try.func5 (by kernel_rfl)
    (of_decide_eq_true (by kernel_rfl)) (by unfold Func.isWrapper; first | (rw [if_pos (by decide +kernel)]; kernel_rfl) | (rw [if_neg (by decide +kernel)]; exact ⟨rfl, rfl⟩))
    (fun os started H enc _ => lifted os started H enc)

/-- ████ THE STATEMENT ████ -/
theorem proved : Rows.PackSizesSaid :=
  over
#print axioms proved
end Go.Proofs.Ytgifinilgieonaa.packSizes
