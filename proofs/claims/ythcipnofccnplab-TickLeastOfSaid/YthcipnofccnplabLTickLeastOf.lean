/-
  For every two lists of up to 2000 numbers each (of longer ones the statement says nothing): the least of ticks is one of them, and none is less; of two lists it is the less one of both; of none it is Forever. No other condition.
  The frame is the guide's template at this function's number and types; the walk is mine.
-/
import Derived.Test.YthcipnofccnplabRows
import Derived.WalkKit
import Derived.ProofKit
import Derived.OpenShut
import Derived.ShutString
import Derived.ChangeOld
import Derived.Below
import Derived.Test.YthcipnofccnplabTickLeast
import Derived.Test.YthcipnofccnplabTickWakes
namespace Go.Proofs.Ythcipnofccnplab.tickLeastOf
open Go.ChangeShapes Go.WideShapes Go.ChangeAt Go.RowKit
open Go.ChangeMaps (open_string shut_string)
set_option linter.unusedVariables false

theorem own : ownKnob Try.prog.godebug = none := by kernel_rfl
theorem laidOut : laidOutB Try.prog = true := by kernel_rfl

/-- WHAT THE WALK IS TOLD OF A SLICE OF INTEGERS THAT CAME IN: it is nil; or it leads to a row of 'cap' cells, the numbers 'zs' (the first 'len' are its elements, the rest its spare room), each fitting its kind. -/
def IsRow (k : IntKind) (w : World) (a : Option Addr) (len cap : Nat) (zs : List Int) : Prop :=
  (a = none ∧ len = 0 ∧ cap = 0 ∧ zs = []) ∨
  ∃ x, a = some x ∧ len ≤ cap ∧ cap ≤ maxLen ∧ zs.length = cap ∧ (∀ i, i < zs.length → w.cell? (x.add i) = some (.int k (zs.getD i 0))) ∧ ∀ n ∈ zs, (Lit.int k n).wf = true

open Tk
theorem opened {w : World} {a0 : Option Addr} {len0 cap0 : Nat} {z0 : List Int} (w0 : IsRow .i64 w a0 len0 cap0 z0) :
    ∃ xs : List Int, xs.length = len0 ∧ IRow w a0 xs ∧ (a0 = none → cap0 = 0) ∧ len0 ≤ 9223372036854775807 := by
  rcases w0 with ⟨rfl, rfl, rfl, rfl⟩ | ⟨x, rfl, hl, hm, hz, hcell, _⟩
  · exact ⟨[], rfl, IRow.none_ _ _, fun _ => rfl, by omega⟩
  · unfold maxLen at hm
    exact ⟨z0.take len0, by rw [List.length_take]; omega, IRow.of_cells (by omega) hcell, (fun h => by cases h), by omega⟩
theorem info_int : (Try.prog.info? 3).map (fun i => (i.zero, i.size, i.bytes)) = some (some (.int .i64 0), 1, 8) := by kernel_rfl

/-- What the law's loop has found so far: the least one among the first k, or there is none at all. -/
def Found (zs : List Int) (z : Int) (k : Nat) (bl : Bool) : Prop := bl = true ↔ (zs = [] ∨ z ∈ zs.take k)
theorem found_all {zs : List Int} {z : Int} {k : Nat} {bl : Bool} (h : Found zs z k bl) (hk : zs.length ≤ k) (hin : zs ≠ [] → z ∈ zs) : bl = true := by
  unfold Found at h
  rw [h]
  by_cases hz : zs = []
  · left; exact hz
  · right; rw [List.take_of_length_le hk]; exact hin hz
theorem found_stay {zs : List Int} {z : Int} {k : Nat} (h : Found zs z k true) : Found zs z (k + 1) true := by
  unfold Found at *
  simp only [true_iff] at *
  rcases h with h | h
  · left; exact h
  · right
    exact (List.take_subset_take_left zs (by omega)) h
theorem found_hit {zs : List Int} {z : Int} {k : Nat} (hx : zs[k]? = some z) : Found zs z (k + 1) true := by
  unfold Found
  simp only [true_iff]
  right
  rw [List.take_add_one, hx]
  simp
theorem found_miss {zs : List Int} {z x : Int} {k : Nat} (h : Found zs z k false) (hx : zs[k]? = some x) (hne : x ≠ z) : Found zs z (k + 1) false := by
  unfold Found at *
  simp only [Bool.false_eq_true, false_iff, not_or] at *
  refine ⟨h.1, ?_⟩
  rw [List.take_add_one, hx]
  simp only [Option.toList_some, List.mem_append, List.mem_singleton, not_or]
  exact ⟨h.2, fun e => hne e.symm⟩

set_option maxHeartbeats 1000000 in
theorem core (A B : Option Addr) (ca cb : Nat) (xs ys : List Int) (w : World) (hA : IRow w A xs) (hB : IRow w B ys) (hza : A = none → ca = 0) (hzb : B = none → cb = 0)
    (hla : xs.length ≤ 2000) (hlb : ys.length ≤ 2000) :
    Calls Try.prog 3 #[.slice A xs.length ca, .slice B ys.length cb] w fun e w' => e = .returned (.bool true) ∧ Below w.heap.size w w' := by
  obtain ⟨i0, hi, hz0, hz1, hz2⟩ := info_parts info_int
  have HA := Lib.hid hA
  have HB := Lib.hid hB
  have HZA := Lib.hid hza
  have HZB := Lib.hid hzb
  clear hA hB hza hzb
  rcases lst_two xs ys with ⟨hx, hz⟩ | ⟨x, hx, hy, hz⟩ | ⟨x, y, z, hx, hy, hz, hmin⟩
  · have HX := Lib.hid (ls_none hx)
    have HZ := Lib.hid (ls_none hz)
    clear hx hz
    go_enter Try.func3, Try.ntmps3
    go_wp2_with fail
    refine (least_is HA.out rfl (by omega) HX.out).mono ?_
    rintro e w' ⟨rfl, rfl⟩
    go_wp2_with fail
    refine (least_is HB.out rfl (by omega) ⟨rfl, rfl⟩).mono ?_
    rintro e w' ⟨rfl, rfl⟩
    go_wp2_with (first
      | (at_builtin; refine wpList_append_irow rfl (.tmp 32) (.tmp 33) 22 rfl w.heap.size 3 i0 Try.underlying22 hi hz0 hz1 hz2 (.slice none 0 0) _ _ rfl (World.ownsRow_nil _ _ _ _) A ca xs rfl HA.out HZA.out (by omega) (Nat.le_refl _) ?_; intro v1 w1 hown1 hgrow1; (have hb1 := (Below.refl w.heap.size w).grown hgrow1 (Nat.le_refl _) (by intro k hk; cases hk)); (have hbs1 := hb1.size); (have HB1 := Lib.hid (HB.out.below hb1 (Nat.le_refl _))))
      | (at_builtin; refine wpList_append_irow rfl (.tmp 34) (.tmp 35) 22 rfl w.heap.size 3 i0 Try.underlying22 hi hz0 hz1 hz2 v1 _ _ rfl hown1 B cb ys rfl HB1.out HZB.out (by omega) hbs1 ?_; intro v2 w2 hown2 hgrow2))
    have hb2 := hb1.grown hgrow2 hbs1 (fun k hk => (hown1.lt k hk).1)
    obtain ⟨A2, c2, rfl, hI, _, hl2⟩ := own_reads (xs := xs ++ ys) (by simpa using hown2)
    have HI := Lib.hid hI
    have HB2 := Lib.hid hb2
    clear hown1 hown2 hgrow1 hgrow2 hb1 hb2 hI
    go_wp2_with fail
    refine (least_is HI.out hl2 (by omega) HZ.out).mono ?_
    rintro e w' ⟨rfl, rfl⟩
    go_wp2_with (go_at_call 6; refine (wakes_any _).mono ?_; rintro e w' ⟨rfl, rfl⟩)
    go_ret
    exact ⟨rfl, HB2.out⟩
  · have HX := Lib.hid (ls_some hx)
    have HY := Lib.hid (ls_none hy)
    have HZ := Lib.hid (ls_none hz)
    clear hx hy hz
    go_enter Try.func3, Try.ntmps3
    go_wp2_with fail
    refine (least_is HA.out rfl (by omega) HX.out).mono ?_
    rintro e w' ⟨rfl, rfl⟩
    go_wp2_with fail
    refine (least_is HB.out rfl (by omega) HY.out).mono ?_
    rintro e w' ⟨rfl, rfl⟩
    go_wp2_with (first
      | (at_builtin; refine wpList_append_irow rfl (.tmp 32) (.tmp 33) 22 rfl w.heap.size 3 i0 Try.underlying22 hi hz0 hz1 hz2 (.slice none 0 0) _ _ rfl (World.ownsRow_nil _ _ _ _) A ca xs rfl HA.out HZA.out (by omega) (Nat.le_refl _) ?_; intro v1 w1 hown1 hgrow1; (have hb1 := (Below.refl w.heap.size w).grown hgrow1 (Nat.le_refl _) (by intro k hk; cases hk)); (have hbs1 := hb1.size); (have HB1 := Lib.hid (HB.out.below hb1 (Nat.le_refl _))))
      | (at_builtin; refine wpList_append_irow rfl (.tmp 34) (.tmp 35) 22 rfl w.heap.size 3 i0 Try.underlying22 hi hz0 hz1 hz2 v1 _ _ rfl hown1 B cb ys rfl HB1.out HZB.out (by omega) hbs1 ?_; intro v2 w2 hown2 hgrow2))
    have hb2 := hb1.grown hgrow2 hbs1 (fun k hk => (hown1.lt k hk).1)
    obtain ⟨A2, c2, rfl, hI, _, hl2⟩ := own_reads (xs := xs ++ ys) (by simpa using hown2)
    have HI := Lib.hid hI
    have HB2 := Lib.hid hb2
    clear hown1 hown2 hgrow1 hgrow2 hb1 hb2 hI
    go_wp2_with fail
    refine (least_is HI.out hl2 (by omega) HZ.out).mono ?_
    rintro e w' ⟨rfl, rfl⟩
    go_wp2_with (go_at_call 6; refine (wakes_any _).mono ?_; rintro e w' ⟨rfl, rfl⟩)
    go_ret
    exact ⟨rfl, HB2.out⟩
  · have HX := Lib.hid (ls_some hx)
    have HY := Lib.hid (ls_some hy)
    have HZ := Lib.hid (ls_some hz)
    have hall := (lst_is hz).2.1
    have hin := lst_in hz
    have hF : xs ++ ys = [] → z = 1099511627776 := by intro h; rw [h] at hz; simp [lstN] at hz; exact hz.symm
    have HALL := Lib.hid hall
    have HIN := Lib.hid hin
    have HF := Lib.hid hF
    have HMIN := Lib.hid hmin
    clear hx hy hz hall hin hF hmin
    go_enter Try.func3, Try.ntmps3
    go_wp2_with fail
    refine (least_is HA.out rfl (by omega) HX.out).mono ?_
    rintro e w' ⟨rfl, rfl⟩
    go_wp2_with fail
    refine (least_is HB.out rfl (by omega) HY.out).mono ?_
    rintro e w' ⟨rfl, rfl⟩
    go_wp2_with (first
      | (at_builtin; refine wpList_append_irow rfl (.tmp 32) (.tmp 33) 22 rfl w.heap.size 3 i0 Try.underlying22 hi hz0 hz1 hz2 (.slice none 0 0) _ _ rfl (World.ownsRow_nil _ _ _ _) A ca xs rfl HA.out HZA.out (by omega) (Nat.le_refl _) ?_; intro v1 w1 hown1 hgrow1; (have hb1 := (Below.refl w.heap.size w).grown hgrow1 (Nat.le_refl _) (by intro k hk; cases hk)); (have hbs1 := hb1.size); (have HB1 := Lib.hid (HB.out.below hb1 (Nat.le_refl _))))
      | (at_builtin; refine wpList_append_irow rfl (.tmp 34) (.tmp 35) 22 rfl w.heap.size 3 i0 Try.underlying22 hi hz0 hz1 hz2 v1 _ _ rfl hown1 B cb ys rfl HB1.out HZB.out (by omega) hbs1 ?_; intro v2 w2 hown2 hgrow2))
    have hb2 := hb1.grown hgrow2 hbs1 (fun k hk => (hown1.lt k hk).1)
    obtain ⟨N, hN⟩ : ∃ N, xs.length + ys.length = N := ⟨_, rfl⟩
    have hN1 : N ≤ 4000 := by omega
    have hown3 : w2.ownsRow w.heap.size 3 1 v2 N ((xs ++ ys).map (Value.int .i64)) := by rw [← hN]; simpa using hown2
    obtain ⟨A2, c2, rfl, hI, _, hl2⟩ := own_reads hown3
    have HI := Lib.hid hI
    have HB2 := Lib.hid hb2
    have HL := Lib.hid hl2
    clear hown1 hown2 hown3 hgrow1 hgrow2 hb1 hb2 hI hN hl2 hbs1 hla hlb
    go_wp2_with fail
    refine (least_is HI.out HL.out (by omega) HZ.out).mono ?_
    rintro e w' ⟨rfl, rfl⟩
    obtain ⟨b0, hb0, hf0⟩ : ∃ b0 : Bool, (((N : Int) == 0) = b0) ∧ Found (xs ++ ys) z 0 b0 ∧ (b0 = true → (z == 1099511627776) = true) := by
      by_cases h : N = 0
      · have he : xs ++ ys = [] := List.eq_nil_of_length_eq_zero (by rw [HL.out]; exact h)
        exact ⟨true, by subst h; rfl, by unfold Found; simp [he], fun _ => by rw [HF.out he]; rfl⟩
      · have he : xs ++ ys ≠ [] := by intro he; have := HL.out; rw [he] at this; simp at this; omega
        exact ⟨false, by simp; omega, by unfold Found; simp at he; simp; exact he, fun h => by cases h⟩
    have HF0 := Lib.hid hf0.1
    have hz1 : b0 = true → (z == 1099511627776) = true := hf0.2
    clear hf0
    cases b0
    all_goals
      first | have hz2 := hz1 rfl | skip
      clear hz1
      go_wp2
      go_loop [12, 13] (fun inn i => ∃ (k : Nat) (bl : Bool), k ≤ N ∧ i = .int .i64 k ∧ inn = .bool bl ∧ Hid (Found (xs ++ ys) z k bl)) (fun _ i => N - (intOf i).toNat)
      case atStart => exact ⟨0, _, by omega, rfl, rfl, HF0.out⟩
      case round =>
        obtain ⟨k, bl, hk, rfl, rfl, H⟩ := hrel
        by_cases hlt : k < N
        · obtain ⟨u, hu⟩ : ∃ u, (xs ++ ys)[k]? = some u := ⟨(xs ++ ys)[k]'(by rw [HL.out]; exact hlt), List.getElem?_eq_getElem _⟩
          obtain ⟨b, off, rfl, hc⟩ := HI.out k u hu
          have hge := HALL.out u (List.mem_of_getElem? hu)
          cases bl
          · by_cases heq : u = z
            · subst heq
              have HN := Lib.hid (found_hit hu)
              clear hu H hb0
              go_wp2
              go_round
              case rel => exact ⟨k + 1, true, by omega, by go_num, rfl, HN.out⟩
              case measure => simp [intOf]; omega
            · have HN := Lib.hid (found_miss H.out hu heq)
              have hne : (u == z) = false := beq_eq_false_iff_ne.2 heq
              clear hu H heq hb0
              go_wp2
              go_round
              case rel => exact ⟨k + 1, false, by omega, by go_num, rfl, HN.out⟩
              case measure => simp [intOf]; omega
          · have HN := Lib.hid (found_stay H.out)
            clear hu H hb0
            go_wp2
            go_round
            case rel => exact ⟨k + 1, true, by omega, by go_num, rfl, HN.out⟩
            case measure => simp [intOf]; omega
        · have hbl : bl = true := found_all H.out (by rw [HL.out]; omega) HIN.out
          subst hbl
          clear H hb0
          rcases HMIN.out with ⟨hle, hm⟩ | ⟨hle, hm⟩
          all_goals
            subst hm
            clear HMIN
            go_wp2_with (go_at_call 6; refine (wakes_any _).mono ?_; rintro e w' ⟨rfl, rfl⟩)
            go_ret
            exact ⟨rfl, HB2.out⟩

/-! ### STEP 1: the walk -/
theorem walk (a0 : Option Addr) (len0 cap0 : Nat) (z0 : List Int) (a1 : Option Addr) (len1 cap1 : Nat) (z1 : List Int) (w : World) (w0 : IsRow .i64 w a0 len0 cap0 z0) (w1 : IsRow .i64 w a1 len1 cap1 z1) :
    Calls Try.prog 3 #[.slice a0 len0 cap0, .slice a1 len1 cap1] w fun e w' => e = .returned (.bool true) ∧ Below w.heap.size w w' := by
  obtain ⟨xs, rfl, hA, hza, hlenA⟩ := opened w0
  obtain ⟨ys, rfl, hB, hzb, hlenB⟩ := opened w1
  clear w0 w1
  by_cases h1 : 2000 < xs.length
  · go_enter Try.func3, Try.ntmps3
    go_wp2
    go_ret
    exact ⟨rfl, Below.refl _ _⟩
  · by_cases h2 : 2000 < ys.length
    · go_enter Try.func3, Try.ntmps3
      go_wp2
      go_ret
      exact ⟨rfl, Below.refl _ _⟩
    · exact core _ _ _ _ _ _ _ hA hB hza hzb (by omega) (by omega)

/-! ### THE ROW's STEP: WRITTEN OUT: LEAVE IT -/
set_option maxRecDepth 100000 in
theorem lifted (os : Os) (started : os.Started) (H : Type) (enc : TypeId × Value → H) :
    ReturnsInHanded {} Try.checked os 3 .any (Rows.tickLeastOfSpec.pre6 enc Try.prog Try.f3 Rows.tickLeastOfRow.domain false) (Rows.tickLeastOfSpec.post enc Try.prog Try.f3 false true false false) := by
  refine returnsInHanded_of_change (C := Try.checked) own started (by kernel_rfl) Try.func3
    (ChangeSpec.witness6 (enc := enc) (C := Try.checked) false ⟨#[], #[.slice none 0 0, .slice none 0 0], []⟩ 8 (by kernel_rfl) (by kernel_rfl) (by kernel_rfl) (by kernel_rfl)) ?_
  intro W base args ds gs before hval0 hW hcnd _
  have hval : ∀ (j : Nat) t v, Try.f3.params[j]? = some t → args[j]? = some v → Value.okWide Try.prog W .any base t v := hval0
  have hW' := hW
  obtain ⟨p, q, hA0, hV, rfl, hfz, hnd⟩ := hW
  have hA : DataW.TrodAll enc Try.prog W 0 (fun _ => true) true Try.f3.params.toList args.toList ds p := hA0
  rw [Try.params3] at hA hval
  obtain ⟨v0, vs0, d0, ds0, p0, q0, hargs, rfl, rfl, h0, r0⟩ := trodAll_cons hA
  obtain ⟨v1, vs1, d1, ds1, p1, q1, rfl, rfl, rfl, h1, r1⟩ := trodAll_cons r0
  obtain ⟨rfl, rfl, rfl⟩ := trodAll_nil r1
  obtain rfl : args = #[v0, v1] := by cases args; simp_all
  obtain ⟨rfl, rfl⟩ := trodVars_none hV
  obtain ⟨a0, len0, cap0, rfl⟩ := okWide_slice Try.underlying22 (hval 0 22 v0 rfl rfl)
  have k0 := h0
  have lt0 : ∀ x ∈ p0, x.block < W.heap.size := by obtain ⟨m, hm⟩ := k0; exact DataW.trod_lt m _ _ _ hm
  obtain ⟨z0, w0⟩ : ∃ zs, IsRow .i64 W a0 len0 cap0 zs := by
    obtain ⟨fuel, hf⟩ := h0
    rcases open_ints Try.underlying22 Try.underlying3 (by kernel_rfl) hf with ⟨hcs, _⟩ | ⟨x, l, c, zs, hcs, _, hl, hm, hz, _, hcell, hwz⟩
    · simp [Value.cells] at hcs
      obtain ⟨rfl, rfl, rfl⟩ := hcs
      exact ⟨[], .inl ⟨rfl, rfl, rfl, rfl⟩⟩
    · simp [Value.cells] at hcs
      obtain ⟨rfl, rfl, rfl⟩ := hcs
      exact ⟨zs, .inr ⟨_, rfl, hl, hm, by simpa using hz, hcell, hwz⟩⟩
  obtain ⟨a1, len1, cap1, rfl⟩ := okWide_slice Try.underlying22 (hval 1 22 v1 rfl rfl)
  have k1 := h1
  have lt1 : ∀ x ∈ p1, x.block < W.heap.size := by obtain ⟨m, hm⟩ := k1; exact DataW.trod_lt m _ _ _ hm
  obtain ⟨z1, w1⟩ : ∃ zs, IsRow .i64 W a1 len1 cap1 zs := by
    obtain ⟨fuel, hf⟩ := h1
    rcases open_ints Try.underlying22 Try.underlying3 (by kernel_rfl) hf with ⟨hcs, _⟩ | ⟨x, l, c, zs, hcs, _, hl, hm, hz, _, hcell, hwz⟩
    · simp [Value.cells] at hcs
      obtain ⟨rfl, rfl, rfl⟩ := hcs
      exact ⟨[], .inl ⟨rfl, rfl, rfl, rfl⟩⟩
    · simp [Value.cells] at hcs
      obtain ⟨rfl, rfl, rfl⟩ := hcs
      exact ⟨zs, .inr ⟨_, rfl, hl, hm, by simpa using hz, hcell, hwz⟩⟩
  clear hA0 hval0
  refine (walk a0 len0 cap0 z0 a1 len1 cap1 z1 W w0 w1).mono fun e W' ⟨he, bel⟩ => ?_
  subst he
  exact ⟨_, rfl, _, _, _, [], _, [], hW', trodAll_mk1 (shut_bool Try.underlying4 _), (trodAll_cons_mk (Below.trod laidOut (by kernel_rfl) (of_decide_eq_true (by kernel_rfl)) k0 bel lt0) (trodAll_cons_mk (Below.trod laidOut (by kernel_rfl) (of_decide_eq_true (by kernel_rfl)) k1 bel lt1) trodAll_mk0)), rfl, bel.frame _, fun h => by cases h⟩

theorem over : Rows.tickLeastOfRow.holds Try.pinned (OpenSpec.ofChange Rows.tickLeastOfSpec) :=
  OpenClaim.holds_of_wide 3 Try.f3 rfl rfl rfl rfl rfl rfl rfl ⟨rfl, rfl, rfl, rfl, rfl⟩ rfl rfl rfl rfl rfl (by kernel_rfl) Try.func3 (by kernel_rfl)
    (of_decide_eq_true (by kernel_rfl)) (by unfold Func.isWrapper; first | (rw [if_pos (by decide +kernel)]; kernel_rfl) | (rw [if_neg (by decide +kernel)]; exact ⟨rfl, rfl⟩))
    (fun os started H enc _ => lifted os started H enc)

/-- ████ THE STATEMENT ████ -/
theorem proved : Rows.TickLeastOfSaid := over
#print axioms proved
end Go.Proofs.Ythcipnofccnplab.tickLeastOf
