/-
  CONTRACT of hanselaw04's sealed, from what is asked of package frame.
-/
import Derived.Test.YtpcmkjmkaggfbaaDoorFrameSums
namespace Go.Proofs.YtpcmkjmkaggfbaaDoor
namespace Fr
open Go.RowKit
theorem info_i64 : (Tryd.prog.info? 3).map (fun i => (i.zero, i.size, i.bytes)) = some (some (.int .i64 0), 1, 8) := by kernel_rfl
/-- The frames of some payloads, one behind the other. -/
def framesOf (ps : List (List Int)) : List Int := (ps.map frameOf).flatten
theorem frames_snoc (ps : List (List Int)) (p : List Int) : framesOf (ps ++ [p]) = framesOf ps ++ frameOf p := by simp [framesOf]
theorem frames_len (ps : List (List Int)) : (framesOf ps).length = 8 * ps.length + ps.flatten.length := by
  induction ps with
  | nil => rfl
  | cons p r ih =>
    have h : framesOf (p :: r) = frameOf p ++ framesOf r := rfl
    rw [h, List.length_append, ih, frameOf_len, List.flatten_cons, List.length_append, List.length_cons]
    omega
/-- Where the frames end. -/
def endsOf (ps : List (List Int)) : List Int := (List.range ps.length).map fun i => ((framesOf (ps.take (i + 1))).length : Int)
theorem ends_len (ps : List (List Int)) : (endsOf ps).length = ps.length := by simp [endsOf]
theorem ends_snoc (ps : List (List Int)) (p : List Int) : endsOf (ps ++ [p]) = endsOf ps ++ [((framesOf (ps ++ [p])).length : Int)] := by
  unfold endsOf
  rw [List.length_append, List.length_singleton, List.range_succ, List.map_append, List.map_singleton]
  congr 1
  · refine List.map_congr_left fun i hi => ?_
    have hi := List.mem_range.1 hi
    rw [List.take_append_of_le_length (by omega)]
  · rw [List.take_of_length_le (by simp)]
theorem step_two {w wr w1 w2 w3 : World} {o : Obj} {R E R2 E2 T : List Nat} (hS : Step w wr [] (R ++ E)) (h1 : Step wr w1 [] T) (h2 : Step w1 w2 R R2) (h3 : Step (w2.alloc o) w3 E E2) (hd : ∀ b ∈ R, b ∉ E) (hE : ∀ b ∈ E, b < wr.heap.size) (hR2 : ∀ b ∈ R2, b < w2.heap.size) :
    Step w w3 [] (R2 ++ E2) ∧ (∀ b ∈ R2, b ∉ E2) ∧ (∀ b ∈ R2, b ∉ E) := by
  have s0 := hS.1.size
  have s1 := h1.1.size
  have s2 := h2.1.size
  have s3 : (w2.alloc o).heap.size = w2.heap.size + 1 := by simp
  have nR : ∀ b ∈ R, w.heap.size ≤ b := fun b hb => (hS.2 b (List.mem_append.2 (.inl hb))).elim (fun h => by cases h) id
  have nE : ∀ b ∈ E, w.heap.size ≤ b := fun b hb => (hS.2 b (List.mem_append.2 (.inr hb))).elim (fun h => by cases h) id
  have hd2 : ∀ b ∈ R2, b ∉ E := fun b hb he => (h2.2 b hb).elim (fun h => hd b h he) (fun h => by have := hE b he; omega)
  refine ⟨⟨(((hS.1.trans h1.1 (fun _ h => by cases h)).trans h2.1 (fun b hb => .inr (nR b hb))).alloc o).trans h3.1 (fun b hb => .inr (nE b hb)), fun b hb => .inr ?_⟩, fun b hb he => ?_, hd2⟩
  · rcases List.mem_append.1 hb with hb | hb
    · exact (h2.2 b hb).elim (nR b) (fun h => by omega)
    · exact (h3.2 b hb).elim (nE b) (fun h => by omega)
  · rcases h3.2 b he with h | h
    · exact hd2 b hb h
    · have := hR2 b hb; omega
/-- What sealed tells. -/
def ToldE (ps : List (List Int)) (w : World) (r : Ending) (w' : World) : Prop :=
  (∃ v ve, r = .returned (.tuple #[v, ve, .bool true]) ∧ (∀ p ∈ ps, p.length ≤ 131072) ∧ w'.ownsRow 0 5 1 v (framesOf ps).length ((framesOf ps).map (Value.int .u8)) ∧ w'.ownsRow 0 3 1 ve ps.length ((endsOf ps).map (Value.int .i64)) ∧ Step w w' [] (rowOf v ++ rowOf ve) ∧ (∀ b ∈ rowOf v, b ∉ rowOf ve)) ∨
  (r = .returned (.tuple #[.slice none 0 0, .slice none 0 0, .bool false]) ∧ Moved w w' [])
set_option maxRecDepth 100000 in
set_option maxHeartbeats 3000000 in
theorem sealed_any (F : FLaws) (A : Option Addr) (n c : Nat) (vs : List Value) (ps : List (List Int)) (w : World) (hA : BRows w A vs ps) (hn : ps.length = n) (hb : ∀ p ∈ ps, ByteList p) (hl : n ≤ 64) (hfl : ps.flatten.length ≤ 262144) (hld : Ld w) :
    Calls Tryd.prog 26 #[.slice A n c] w (ToldE ps w) := by
  subst hn
  obtain ⟨i0, hi, hz0, hz1, hz2⟩ := info_parts info_u8
  obtain ⟨i1, hj, hy0, hy1, hy2⟩ := info_parts info_i64
  have HLD := Lib.hid hld
  have HA := Lib.hid hA
  have HB := Lib.hid hb
  clear hld hA hb
  go_enter Tryd.func26, Tryd.ntmps26
  go_wp2
  go_loopw [5, 6, 7] (fun v ve i wr => ∃ (k : Nat) (bs es : List Int), i = .int .i64 k ∧ k ≤ ps.length ∧ bs.length ≤ 262656 ∧ es.length ≤ k ∧ Hid (es.length = k) ∧ Hid (bs = framesOf (ps.take k)) ∧ Hid (es = endsOf (ps.take k)) ∧ Hid (∀ p ∈ ps.take k, p.length ≤ 131072) ∧ wr.ownsRow 0 5 1 v bs.length (bs.map (Value.int .u8)) ∧ wr.ownsRow 0 3 1 ve es.length (es.map (Value.int .i64)) ∧ Step w wr [] (rowOf v ++ rowOf ve) ∧ Hid (∀ b ∈ rowOf v, b ∉ rowOf ve)) (fun _ _ i _ => ps.length - (intOf i).toNat)
  case atStart => exact ⟨0, [], [], rfl, by omega, by simp, by simp, rfl, rfl, rfl, (fun p hp => by simp at hp), World.ownsRow_nil _ _ _ _, World.ownsRow_nil _ _ _ _, Step.refl _ _, (fun b hb => by simp [mem_rowOf, Value.ownBlock] at hb)⟩
  case round =>
    obtain ⟨k, bs, es, rfl, hk, hbs, hes, HEL, HBS, HES, HFT, hO, hE, hS, HDJ⟩ := hrel
    obtain ⟨Ao, co, rfl, -⟩ := own_shape hO
    obtain ⟨Ae, ce, rfl, -⟩ := own_shape hE
    have HO := Lib.hid hO
    have HE := Lib.hid hE
    have HS := Lib.hid hS
    have HA1 := Lib.hid (HA.out.moved hS.1 (fun _ _ h => by cases h))
    clear hO hE hS
    by_cases hlt : k < ps.length
    · obtain ⟨b1, o1, B1, c1, p, rfl, hp1, hc1, hr1, hn1, hcp1, hcp2, -⟩ := HA1.out.at_ (i := k) hlt
      have hpf := part_le_flat (List.mem_of_getElem? hp1)
      have HBP := Lib.hid (HB.out p (List.mem_of_getElem? hp1))
      have HTK := Lib.hid (take_snoc hp1)
      have HR1 := Lib.hid hr1
      have HN1 := Lib.hid hn1
      clear hp1 hr1 hn1
      by_cases hbig : 131072 < p.length
      · go_wp2_with fail
        refine (F.seal_ B1 _ c1 p wr HR1.out rfl HBP.out HN1.out hcp1 hcp2 (by omega) (HLD.out.moved HS.out.1)).mono ?_
        rw [(seal_big hbig).1, (seal_big hbig).2]
        rintro e w1 ⟨v1, rfl, hO1, hS1⟩
        have HM1 := Lib.hid (HS.out.1.trans hS1.1 (fun _ h => by cases h))
        clear hO1 hS1
        go_wp2
        all_goals
          go_ret3
          exact .inr ⟨rfl, HM1.out⟩
      · go_wp2_with fail
        refine (F.seal_ B1 _ c1 p wr HR1.out rfl HBP.out HN1.out hcp1 hcp2 (by omega) (HLD.out.moved HS.out.1)).mono ?_
        rw [(seal_fits hbig).1, (seal_fits hbig).2]
        obtain ⟨q, hq⟩ : ∃ q, q = frameOf p := ⟨_, rfl⟩
        have HFB := Lib.hid (show bs ++ q = framesOf (ps.take (k + 1)) by rw [HTK.out, frames_snoc, HBS.out, hq])
        have hle : bs.length + q.length ≤ 262656 := by
          have h1 := congrArg List.length HFB.out
          rw [List.length_append, frames_len, List.length_take] at h1
          have h2 := flat_take_le (ps := ps) (k + 1)
          omega
        have HEB := Lib.hid (show es ++ [((bs.length + q.length : Nat) : Int)] = endsOf (ps.take (k + 1)) by
          have h1 := congrArg List.length HFB.out
          rw [List.length_append] at h1
          rw [HTK.out, ends_snoc, ← HTK.out, ← h1, HES.out])
        have HFT2 := Lib.hid (show ∀ r ∈ ps.take (k + 1), r.length ≤ 131072 by
          intro r hr
          rw [HTK.out] at hr
          rcases List.mem_append.1 hr with hr | hr
          · exact HFT.out r hr
          · simp at hr; subst hr; omega)
        rw [← hq]
        clear hq
        rintro e w1 ⟨v1, rfl, hO1, hS1⟩
        obtain ⟨A1, c1', rfl, hn1, -⟩ := own_shape hO1
        have HO1 := Lib.hid hO1
        have HN1' := Lib.hid hn1
        have HS1 := Lib.hid hS1
        have HO' := Lib.hid (own_moved HO.out hS1.1 (fun _ _ h => by cases h))
        have HE' := Lib.hid (own_moved HE.out hS1.1 (fun _ _ h => by cases h))
        have HELT := Lib.hid (fun b hb => own_lt HE.out b hb : ∀ b ∈ rowOf (.slice Ae es.length ce), b < wr.heap.size)
        clear hO1 hS1 hn1
        go_wp2_with (at_builtin; refine wpList_append_row rfl _ _ 25 rfl 5 i0 .u8 1 Tryd.underlying25 hi hz0 hz1 hz2 (.slice Ao bs.length co) _ _ rfl HO'.out A1 q.length c1' q rfl rfl (NRow.of_own HO1.out) HN1'.out (by unfold maxLen; omega) (by omega) ?_)
        intro v2 w2 hown hst
        have HO2 := Lib.hid hown
        have HT2 := Lib.hid hst
        clear hown hst
        obtain ⟨A2, c2, rfl, -⟩ := own_shape HO2.out
        have HE2 := Lib.hid (own_moved HE'.out HT2.out.1 (fun b hb h => HDJ.out b h hb))
        have HLT2 := Lib.hid (fun b hb => own_lt HO2.out b hb : ∀ b ∈ rowOf (.slice A2 (bs.length + q.length) c2), b < w2.heap.size)
        go_wp2_with (at_builtin; refine wpList_append_vals rfl _ _ 42 rfl 3 i1 (.int .i64 0) 8 Tryd.underlying42 hj hy0 rfl hy1 hy2 (.slice Ae es.length ce) es.length (es.map (Value.int .i64)) rfl (by exact HE2.out.alloc _) _ 1 1 [_] rfl rfl (vrow_lit _ _ _) (fun u hu => by simp at hu; subst hu; rfl) (fun h => by cases h) (by unfold maxLen; omega) (by omega) ?_)
        intro v3 w3 hown3 hst3
        have HO3 := Lib.hid hown3
        have HST := Lib.hid (step_two HS.out HS1.out HT2.out hst3 HDJ.out HELT.out HLT2.out)
        have HO4 := Lib.hid (own_moved (HO2.out.alloc _) hst3.1 HST.out.2.2)
        clear hown3 hst3
        obtain ⟨A3, c3, rfl, -⟩ := own_shape HO3.out
        go_wp2
        go_roundw
        case rel => exact ⟨k + 1, bs ++ q, es ++ [((bs.length + q.length : Nat) : Int)], by go_num, by omega, by simp; omega, by simp; omega, by have h := HEL.out; simp [Hid]; omega, HFB.out, HEB.out, HFT2.out, by rw [List.length_append, List.map_append]; exact HO4.out, by rw [List.length_append, List.map_append]; exact HO3.out, HST.out.1, HST.out.2.1⟩
        case measure => simp [intOf]; omega
    · have HTK := Lib.hid (show ps.take k = ps from List.take_of_length_le (by omega))
      go_wp2
      go_ret3
      exact .inl ⟨_, _, rfl, by rw [← HTK.out]; exact HFT.out, by rw [← HTK.out, ← HBS.out]; exact HO.out, by rw [← HTK.out, ← HES.out, HTK.out, show ps.length = es.length by rw [HES.out, HTK.out, ends_len]]; exact HE.out, HS.out, HDJ.out⟩
end Fr
end Go.Proofs.YtpcmkjmkaggfbaaDoor
