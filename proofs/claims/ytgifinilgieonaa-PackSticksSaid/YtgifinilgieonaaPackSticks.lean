/-
  THE WALK of the statement PackSticks, from what it asks of the program's Reader.
-/
import Derived.Test.YtgifinilgieonaaPackGot
namespace Go.Proofs.Ytgifinilgieonaa
namespace Pk
open Go.RowKit Am
theorem stepK_bad (k e : Int) : stepK k (.bad e) = .bad e := by
  unfold stepK
  split
  · rfl
  · split
    · rfl
    · split
      · rfl
      · split
        · rfl
        · rfl
theorem done_bad {st : St} {e : Int} (h : st.done = e) (h0 : e ≠ 0) (h4 : e ≠ 4) : st = .bad e := by
  cases st with
  | bad e' => rw [← h]; rfl
  | ok bs =>
    cases bs with
    | nil => exact absurd h.symm h0
    | cons x r => exact absurd h.symm h4
/-- How it stands between two rounds. -/
structure SticksRel (R : World → Nat → List Nat → St → Prop) (w wr : World) (p : Nat) (fp : List Nat) (st : St) (bad : Int) : Prop where
  rd : R wr p fp st
  sticks : bad = 0 ∨ st = .bad bad
  below : Below w.heap.size w wr
  mine : ∀ b ∈ fp, w.heap.size ≤ b
theorem SticksRel.go {R : World → Nat → List Nat → St → Prop} {w wr w1 : World} {p : Nat} {fp fp1 : List Nat} {st st1 : St} {bad bad1 : Int} (h : SticksRel R w wr p fp st bad) (h1 : R w1 p fp1 st1) (hS : Step wr w1 fp fp1) (hs : bad1 = 0 ∨ st1 = .bad bad1) :
    SticksRel R w w1 p fp1 st1 bad1 := by
  have B := Below_step h.below hS h.below.size h.mine
  exact ⟨h1, hs, B.1, B.2⟩
theorem store_cplx (P : Program) (w : World) (p : Addr) (md : Mode) (k : FloatKind) (re im : Nat) : (store p (.complex k re im) md).run P w = stored P w p (.complex k re im) md := run_store P w p _ md rfl
attribute [local go_sem] store_cplx
set_option maxRecDepth 100000 in
set_option maxHeartbeats 2000000 in
theorem sticks_any {R : World → Nat → List Nat → St → Prop} (L : RLaws R) (W : ∀ w, Calls Try.prog 14 #[] w fun e w' => e = .returned (.bool true) ∧ Moved w w' [])
    (A : Option Addr) (c : Nat) (xs : List Int) (A1 : Option Addr) (c1 : Nat) (js : List Int) (w : World) (hA : NRow .u8 w A xs) (hA1 : NRow .i64 w A1 js) (hb : ByteList xs) (hnil : A = none → c = 0) (hl1 : js.length ≤ 9223372036854775807) (hl0 : xs.length ≤ 9223372036854775807) :
    Calls Try.prog 6 #[.slice A xs.length c, .slice A1 js.length c1] w fun e w' => e = .returned (.bool true) ∧ Below w.heap.size w w' := by
  by_cases hbig : 65536 < xs.length
  · go_enter Try.func6, Try.ntmps6
    go_wp2
    go_ret
    exact ⟨rfl, Below.refl _ _⟩
  by_cases hbig1 : 256 < js.length
  · go_enter Try.func6, Try.ntmps6
    go_wp2
    go_ret
    exact ⟨rfl, Below.refl _ _⟩
  have HA := Lib.hid hA
  have HA1 := Lib.hid hA1
  have HB := Lib.hid hb
  have HNIL := Lib.hid hnil
  clear hA hA1 hb hnil
  go_enter Try.func6, Try.ntmps6
  go_wp2_with fail
  refine (L.new A xs.length c xs w HA.out rfl HB.out HNIL.out (by omega)).mono ?_
  rintro e w1 ⟨p, fp, rfl, hR1, hS1⟩
  have hfp : ∀ k ∈ fp, w.heap.size ≤ k := fun k hk => (hS1.2 k hk).elim (fun h => by cases h) id
  have hb1 : Below w.heap.size w w1 := hS1.1.below (Nat.le_refl _) (fun k hk => by cases hk)
  have HREL := Lib.hid (show SticksRel R w w1 p fp (.ok xs) 0 from ⟨hR1, .inl rfl, hb1, hfp⟩)
  clear hfp hb1 hR1 hS1 hbig hbig1
  go_wp2
  go_loopw [6, 7] (fun bd i wr => ∃ (k : Nat) (fp : List Nat) (st : St) (bad : Int), bd = .int .i64 bad ∧ i = .int .i64 k ∧ k ≤ js.length ∧ SticksRel R w wr p fp st bad) (fun _ i _ => js.length - (intOf i).toNat)
  case atStart => exact ⟨0, fp, .ok xs, 0, rfl, rfl, by omega, HREL.out⟩
  case round =>
    obtain ⟨k, fp, st, bad, rfl, rfl, hk, hrel⟩ := hrel
    have HR := Lib.hid hrel
    clear hrel
    by_cases hlt : k < js.length
    · obtain ⟨j, hj⟩ : ∃ j, js[k]? = some j := ⟨js[k], List.getElem?_eq_getElem hlt⟩
      obtain ⟨b, off, rfl, hcell⟩ := (HA1.out.below HR.out.below (Nat.le_refl _)) k j hj
      clear hj
      go_wp2_with fail
      have hr0 := L.stays HR.out.rd (w' := wr.alloc (.cells #[.int .i64 j, .int .u64 0, .int .i64 0, .bool false, .slice none 0 0, .complex .f64 0 0] 56)) (fun k hk => Below.heap_alloc wr _ k (L.lt HR.out.rd k hk))
      refine (got_any L p fp st j _ hr0).mono ?_
      rintro e w2 ⟨zero, rfl, hz, f2, hR2, hS2⟩
      have HREL2 : ∀ bad1, bad1 = 0 ∨ stepK (kindOf j) st = .bad bad1 → SticksRel R w w2 p f2 (stepK (kindOf j) st) bad1 := fun bad1 h => HR.out.go hR2 (step_pre ((Moved.refl wr []).alloc _) hS2) h
      have HR2 := Lib.hid hR2
      have HG := Lib.hid HREL2
      clear hr0 hR2 hS2 HREL2
      obtain ⟨s2, hs2⟩ : ∃ s2, s2 = stepK (kindOf j) st := ⟨_, rfl⟩
      rw [← hs2] at HR2 HG
      have HS2 := Lib.hid hs2
      clear hs2
      by_cases hbad : bad = 0
      · obtain rfl := hbad
        clear hz
        obtain ⟨d, hd⟩ : ∃ d, d = s2.done := ⟨_, rfl⟩
        have HD := Lib.hid hd
        clear hd
        by_cases h5 : d = 5
        · obtain rfl := h5
          have HST := Lib.hid (done_bad HD.out.symm (by omega) (by omega))
          go_wp2_with (go_at_call 12; refine (L.done p f2 _ _ HR2.out).mono ?_; rintro e w3 ⟨rfl, f3, hR3, hS3⟩; rw [← HD.out]; have HR3 := Lib.hid hR3; have HS3 := Lib.hid hS3; clear hR3 hS3)
          go_roundw
          case rel => exact ⟨k + 1, f3, s2, 5, rfl, by go_num, by omega, (HG.out 5 (.inr HST.out)).go HR3.out HS3.out (.inr HST.out)⟩
          case measure => simp [intOf]; omega
        · by_cases h2 : d = 2
          · obtain rfl := h2
            have HST := Lib.hid (done_bad HD.out.symm (by omega) (by omega))
            go_wp2_with (go_at_call 12; refine (L.done p f2 _ _ HR2.out).mono ?_; rintro e w3 ⟨rfl, f3, hR3, hS3⟩; rw [← HD.out]; have HR3 := Lib.hid hR3; have HS3 := Lib.hid hS3; clear hR3 hS3)
            go_roundw
            case rel => exact ⟨k + 1, f3, s2, 2, rfl, by go_num, by omega, (HG.out 2 (.inr HST.out)).go HR3.out HS3.out (.inr HST.out)⟩
            case measure => simp [intOf]; omega
          · have h5' : (d == 5) = false := by simpa using h5
            have h2' : (d == 2) = false := by simpa using h2
            go_wp2_with (go_at_call 12; refine (L.done p f2 _ _ HR2.out).mono ?_; rintro e w3 ⟨rfl, f3, hR3, hS3⟩; rw [← HD.out]; have HR3 := Lib.hid hR3; have HS3 := Lib.hid hS3; clear hR3 hS3)
            go_roundw
            case rel => exact ⟨k + 1, f3, s2, 0, rfl, by go_num, by omega, (HG.out 0 (.inl rfl)).go HR3.out HS3.out (.inl rfl)⟩
            case measure => simp [intOf]; omega
      · have hst := HR.out.sticks.resolve_left hbad
        obtain rfl := hz bad hst
        have HST : Hid (s2 = .bad bad) := by show _ = _; rw [HS2.out, hst, stepK_bad]
        have HD : Hid (s2.done = bad) := by show _ = _; rw [HST.out]; rfl
        have hb1 : (bad != 0) = true := by simpa using hbad
        have hb2 : (bad == 0) = false := by simpa using hbad
        clear hst hz
        go_wp2_with fail
        refine (L.done p f2 _ _ HR2.out).mono ?_
        rintro e w3 ⟨rfl, f3, hR3, hS3⟩
        rw [HD.out]
        have HR3 := Lib.hid hR3
        have HS3 := Lib.hid hS3
        clear hR3 hS3
        go_wp2_with fail
        refine (L.done p f3 _ _ HR3.out).mono ?_
        rintro e w4 ⟨rfl, f4, hR4, hS4⟩
        rw [HD.out]
        have HR4 := Lib.hid hR4
        have HS4 := Lib.hid hS4
        clear hR4 hS4
        go_wp2
        go_roundw
        case rel => exact ⟨k + 1, f4, s2, bad, rfl, by go_num, by omega, ((HG.out bad (.inr HST.out)).go HR3.out HS3.out (.inr HST.out)).go HR4.out HS4.out (.inr HST.out)⟩
        case measure => simp [intOf]; omega
    · have HB6 := HR.out.below
      go_wp2_with (go_at_call 14; refine (W _).mono ?_; rintro e w8 ⟨rfl, hM8⟩; have HM8 := Lib.hid hM8; clear hM8)
      go_ret
      exact ⟨rfl, HB6.trans (HM8.out.below HB6.size (fun k hk => by cases hk))⟩
end Pk
end Go.Proofs.Ytgifinilgieonaa
