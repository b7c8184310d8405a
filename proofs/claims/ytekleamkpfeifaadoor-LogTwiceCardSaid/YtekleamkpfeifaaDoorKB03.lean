/-
  2 texts in one: LogParts, KeepSpoil.
-/
import Derived.Test.YtekleamkpfeifaaDoorKB01
import Derived.Test.YtekleamkpfeifaaDoorKB02
import Derived.Test.YtekleamkpfeifaaDoorKB00

/-
  CONTRACT of hanseref06.Parts.
-/
namespace Go.Proofs.YtekleamkpfeifaaDoor
namespace Lg
open Go.RowKit Fr
/-- A row of the call's own, of slices that read as bytes; fr are all the blocks. -/
def SRows (w : World) (v : Value) (ps : List (List Int)) (fr : List Nat) : Prop :=
  ∃ vs, w.ownsRow 0 27 1 v ps.length vs ∧ vs.length = ps.length ∧ (∀ (i : Nat) (u : Value) (p : List Int), vs[i]? = some u → ps[i]? = some p → Bites w u p ∧ ∀ b ∈ rowOf u, b ∈ fr ∧ b ∉ rowOf v) ∧ (∀ b ∈ rowOf v, b ∈ fr) ∧ ∀ b ∈ fr, b < w.heap.size
theorem bites_own {u : Value} {p : List Int} {b : Nat} (h : b ∈ bitesOf u p) : b ∈ rowOf u := by
  cases u with
  | slice A n c => exact rowX_rowOf h
  | _ => cases h
theorem SRows.nil (w : World) : SRows w (.slice none 0 0) [] [] := ⟨[], World.ownsRow_nil _ _ _ _, rfl, fun i u p hu => by simp at hu, by simp [rowOf, Value.ownBlock], fun b hb => by cases hb⟩
theorem SRows.lt {w : World} {v : Value} {ps : List (List Int)} {fr : List Nat} (h : SRows w v ps fr) : ∀ b ∈ fr, b < w.heap.size := by
  obtain ⟨_, _, _, _, _, h⟩ := h; exact h
theorem SRows.moved {w w' : World} {v : Value} {ps : List (List Int)} {fr S : List Nat} (h : SRows w v ps fr) (hM : Moved w w' S) (hS : ∀ k ∈ fr, k ∉ S) : SRows w' v ps fr := by
  obtain ⟨vs, ho, hl, he, hv, hlt⟩ := h
  exact ⟨vs, own_moved ho hM (fun b hb => hS b (hv b hb)), hl, fun i u p hu hp => ⟨(he i u p hu hp).1.stays (fun b hb => hM.block b ((he i u p hu hp).1.lt b hb) (hS b ((he i u p hu hp).2 b (bites_own hb)).1)), (he i u p hu hp).2⟩, hv, fun b hb => Nat.lt_of_lt_of_le (hlt b hb) hM.size⟩
/-- What such rows read as. -/
theorem SRows.reads {w : World} {v : Value} {ps : List (List Int)} {fr : List Nat} (h : SRows w v ps fr) : ∃ A c vs, v = .slice A ps.length c ∧ BRows w A vs ps ∧ (A = none → c = 0) ∧ (ps.length ≤ c ∧ c ≤ 9223372036854775807) ∧ ∀ b ∈ rowsOf A vs ps, b ∈ fr := by
  obtain ⟨vs, ho, hl, he, hv, hlt⟩ := h
  obtain ⟨A, c, rfl, h1, h2⟩ := own_shape ho
  refine ⟨A, c, vs, rfl, ⟨VRow.of_own ho, hl, fun i u p hu hp => (he i u p hu hp).1⟩, h1, h2, fun b hb => ?_⟩
  unfold rowsOf at hb
  rcases List.mem_append.1 hb with hb | hb
  · rcases A with _ | a
    · cases hb
    · rcases vs with _ | ⟨u, t⟩
      · cases hb
      · simp at hb
        exact hv b (by simp [mem_rowOf, Value.ownBlock, hb])
  · obtain ⟨x, hx, hb⟩ := List.mem_flatten.1 hb
    obtain ⟨i, hi, rfl⟩ := List.mem_iff_getElem.1 hx
    rw [List.length_zipWith] at hi
    rw [List.getElem_zipWith] at hb
    exact ((he i vs[i] ps[i] (List.getElem?_eq_getElem (by omega)) (List.getElem?_eq_getElem (by omega))).2 b (bites_own hb)).1
theorem SRows.more {w : World} {v : Value} {ps : List (List Int)} {fr gr : List Nat} (h : SRows w v ps fr) (hg : ∀ b ∈ gr, b < w.heap.size) : SRows w v ps (fr ++ gr) := by
  obtain ⟨vs, ho, hl, he, hv, hlt⟩ := h
  exact ⟨vs, ho, hl, fun i u p hu hp => ⟨(he i u p hu hp).1, fun b hb => ⟨List.mem_append.2 (.inl ((he i u p hu hp).2 b hb).1), ((he i u p hu hp).2 b hb).2⟩⟩, fun b hb => List.mem_append.2 (.inl (hv b hb)), fun b hb => (List.mem_append.1 hb).elim (hlt b) (hg b)⟩
/-- One more. -/
theorem SRows.push {w w1 : World} {v v' u : Value} {ps : List (List Int)} {t : List Int} {fr : List Nat} {vs : List Value} (hl : vs.length = ps.length) (he : ∀ (i : Nat) (u : Value) (p : List Int), vs[i]? = some u → ps[i]? = some p → Bites w u p ∧ ∀ b ∈ rowOf u, b ∈ fr ∧ b ∉ rowOf v) (hlt : ∀ b ∈ fr, b < w.heap.size)
    (hu : Bites w u t) (hul : ∀ b ∈ rowOf u, b < w.heap.size ∧ b ∉ rowOf v) (hown : w1.ownsRow 0 27 1 v' (ps.length + 1) (vs ++ [u])) (hS : Step w w1 (rowOf v) (rowOf v')) : SRows w1 v' (ps ++ [t]) (fr ++ (rowOf u ++ rowOf v')) := by
  have hnv : ∀ b, b < w.heap.size → b ∉ rowOf v → b ∉ rowOf v' := fun b h1 h2 h3 => (hS.2 b h3).elim h2 (fun h => by omega)
  have hst : ∀ {x : Value} {p : List Int}, Bites w x p → (∀ b ∈ rowOf x, b ∉ rowOf v) → Bites w1 x p := fun hx hd => hx.stays (fun b hb => hS.1.block b (hx.lt b hb) (hd b (bites_own hb)))
  refine ⟨vs ++ [u], by simpa using hown, by simp [hl], fun i x p hx hp => ?_, fun b hb => by simp [hb], fun b hb => ?_⟩
  · by_cases hi : i < vs.length
    · rw [List.getElem?_append_left hi] at hx
      rw [List.getElem?_append_left (by omega)] at hp
      have h := he i x p hx hp
      exact ⟨hst h.1 (fun b hb => (h.2 b hb).2), fun b hb => ⟨by simp [(h.2 b hb).1], hnv b (hlt b (h.2 b hb).1) (h.2 b hb).2⟩⟩
    · have hi2 : i = vs.length := by
        have := (List.getElem?_eq_some_iff.1 hx).1
        simp at this
        omega
      subst hi2
      rw [List.getElem?_append_right (by omega)] at hx
      rw [hl, List.getElem?_append_right (by omega)] at hp
      simp at hx hp
      subst hx hp
      exact ⟨hst hu (fun b hb => (hul b hb).2), fun b hb => ⟨by simp [hb], hnv b (hul b hb).1 (hul b hb).2⟩⟩
  · rcases List.mem_append.1 hb with hb | hb
    · exact Nat.lt_of_lt_of_le (hlt b hb) hS.1.size
    · rcases List.mem_append.1 hb with hb | hb
      · exact Nat.lt_of_lt_of_le (hul b hb).1 hS.1.size
      · exact own_lt hown b hb
/-- How far Parts has come. -/
def PartsIs (xs sn : List Int) (rs : List (List Int)) (k : Nat) : Prop := (k = 0 ∧ sn = [] ∧ rs = []) ∨ (0 < k ∧ logOf xs = (sn, rs ++ (recsOf (xs.drop k)).1, k + (recsOf (xs.drop k)).2))
theorem parts_stop {xs sn : List Int} {rs : List (List Int)} {k : Nat} (h : PartsIs xs sn rs k) (hf : laidOf 82 (xs.drop k) = none) (hs : k = 0 → laidOf 83 xs = none) : logOf xs = (sn, rs, k) := by
  rcases h with ⟨rfl, rfl, rfl⟩ | ⟨_, h⟩
  · rw [List.drop_zero] at hf
    unfold logOf
    rw [hs rfl, recs_none hf]
  · rw [h, recs_none hf]; simp
theorem parts_rec {xs sn t : List Int} {rs : List (List Int)} {k : Nat} (h : PartsIs xs sn rs k) (hf : firstOf (xs.drop k) = some (82 :: t)) : PartsIs xs sn (rs ++ [t]) (k + (9 + t.length)) := by
  have hr := recs_some (first_laid hf)
  rw [List.drop_drop] at hr
  refine .inr ⟨by omega, ?_⟩
  rcases h with ⟨rfl, rfl, rfl⟩ | ⟨_, h⟩
  · rw [List.drop_zero] at hf hr
    unfold logOf
    rw [laid_other hf (by decide), hr]
    simp
  · rw [h, hr]
    simp [Nat.add_assoc]
theorem parts_snap {xs sn t : List Int} {rs : List (List Int)} (h : PartsIs xs sn rs 0) (hf : firstOf xs = some (83 :: t)) : PartsIs xs t rs (9 + t.length) := by
  rcases h with ⟨_, rfl, rfl⟩ | ⟨h0, _⟩
  · refine .inr ⟨by omega, ?_⟩
    rw [log_some (first_laid hf), List.nil_append]
  · omega
/-- What Parts tells. -/
def PartsNow (sn : List Int) (rs : List (List Int)) (n : Nat) (w : World) (r : Ending) (w' : World) : Prop :=
  ∃ B c v fr, r = .returned (.tuple #[.slice B sn.length c, v, .int .i64 n]) ∧ NRow .u8 w' B sn ∧ (∀ b ∈ rowOf (.slice B sn.length c), b ∈ fr) ∧ SRows w' v rs fr ∧ (∀ b ∈ fr, w.heap.size ≤ b) ∧ Moved w w' []
set_option maxRecDepth 100000 in
set_option maxHeartbeats 4000000 in
theorem parts_any (A : Option Addr) (n c : Nat) (xs : List Int) (w : World) (hA : NRow .u8 w A xs) (hn : xs.length = n) (hb : ByteList xs) (hnil : A = none → c = 0) (hc : n ≤ c) (hc2 : c ≤ 9223372036854775807) (hlen : n ≤ 1099511627776) :
    Calls Tryd.prog 43 #[.slice A n c] w (PartsNow (logOf xs).1 (logOf xs).2.1 (logOf xs).2.2 w) := by
  subst hn
  obtain ⟨i0, hi, hz0, hz1, hz2⟩ := info_parts info_bytes
  have HA := Lib.hid hA
  have HB := Lib.hid hb
  have HNIL := Lib.hid hnil
  clear hA hb hnil
  go_enter Tryd.func43, Tryd.ntmps43
  go_wp2
  go_loopw [5, 6, 7] (fun sv v i wr => ∃ (k : Nat) (sn : List Int) (rs : List (List Int)) (fr : List Nat) (B : Option Addr) (c' : Nat), i = .int .i64 k ∧ sv = .slice B sn.length c' ∧ k ≤ xs.length ∧ rs.length ≤ k ∧ Hid (NRow .u8 wr B sn) ∧ Hid (∀ b ∈ rowOf (.slice B sn.length c'), b ∈ fr ∧ b ∉ rowOf v) ∧ SRows wr v rs fr ∧ Hid (∀ b ∈ fr, w.heap.size ≤ b) ∧ Moved w wr [] ∧ Hid (PartsIs xs sn rs k)) (fun _ _ i _ => xs.length - (intOf i).toNat)
  case atStart => exact ⟨0, [], [], [], none, 0, rfl, rfl, by omega, by simp, NRow.none_ _ _ _, (fun b hb => by simp [rowOf, Value.ownBlock] at hb), SRows.nil _, (fun b hb => by cases hb), Moved.refl _ _, .inl ⟨rfl, rfl, rfl⟩⟩
  case round =>
    obtain ⟨k, sn, rs, fr, B, c', rfl, rfl, hk, hrk, HN, HBF, hSR, HFR, hMW, H⟩ := hrel
    have HSR := Lib.hid hSR
    have HMW := Lib.hid hMW
    obtain ⟨vs, hown, hvl, hel, hvr, hlt⟩ := hSR
    obtain ⟨Ao, co, rfl, -⟩ := own_shape hown
    have HOWN := Lib.hid hown
    have HVL := Lib.hid hvl
    have HEL := Lib.hid hel
    have HLT := Lib.hid hlt
    have HA1 := Lib.hid (nrowx_moved HA.out hMW (fun _ _ h => by cases h))
    clear hown hvl hel hvr hlt hMW
    by_cases hck : c = k
    · have HD := Lib.hid (show xs.drop k = [] from List.drop_of_length_le (by omega))
      have hf : firstOf (xs.drop k) = none := by rw [HD.out, firstOf, if_pos (by simp)]
      have HE := Lib.hid (parts_stop H.out (laid_none hf) (fun h0 => by rw [h0, List.drop_zero] at hf; exact laid_none hf))
      have HF := Lib.hid (first_none hf)
      obtain rfl := hck
      clear hf
      go_wp2_with fail
      refine (reffirst_any A _ _ (xs.drop c) wr (by rw [HD.out]; exact NRow.none_ _ _ _) (by rw [HD.out]; simp; try omega) (HB.out.drop c) (fun _ => by omega) (by omega) (by omega) (by omega)).mono ?_
      rw [HF.out.1, HF.out.2.1, HF.out.2.2]
      rintro e w1 ⟨v1, rfl, hO1, hS1⟩
      obtain ⟨Av, cv, rfl, -⟩ := own_shape hO1
      have HM1 := Lib.hid hS1.1
      clear hO1 hS1
      go_wp2
      go_ret3
      exact ⟨B, c', _, fr, by rw [HE.out]; rfl, by rw [HE.out]; exact nrowx_moved HN.out HM1.out (fun _ _ h => by cases h), by rw [HE.out]; exact fun b hb => (HBF.out b hb).1, by rw [HE.out]; exact HSR.out.moved HM1.out (fun _ _ h => by cases h), HFR.out, HMW.out.trans HM1.out (fun _ h => by cases h)⟩
    · obtain ⟨ad, rfl⟩ : ∃ ad, A = some ad := by
        rcases A with _ | ad
        · exact absurd (HNIL.out rfl) (by omega)
        · exact ⟨ad, rfl⟩
      have hck2 : k < c := by omega
      have HA2 := Lib.hid (nrow_from HA1.out k)
      rcases hf : firstOf (xs.drop k) with _ | (_ | ⟨x, t⟩)
      · have HE := Lib.hid (parts_stop H.out (laid_none hf) (fun h0 => by rw [h0, List.drop_zero] at hf; exact laid_none hf))
        have HF := Lib.hid (first_none hf)
        clear hf
        go_wp2_with fail
        refine (reffirst_any (some (ad.add k)) _ _ (xs.drop k) wr HA2.out (by simp) (HB.out.drop k) (fun h => by cases h) (by omega) (by omega) (by omega)).mono ?_
        rw [HF.out.1, HF.out.2.1, HF.out.2.2]
        rintro e w1 ⟨v1, rfl, hO1, hS1⟩
        obtain ⟨Av, cv, rfl, -⟩ := own_shape hO1
        have HM1 := Lib.hid hS1.1
        clear hO1 hS1
        go_wp2
        go_ret3
        exact ⟨B, c', _, fr, by rw [HE.out]; rfl, by rw [HE.out]; exact nrowx_moved HN.out HM1.out (fun _ _ h => by cases h), by rw [HE.out]; exact fun b hb => (HBF.out b hb).1, by rw [HE.out]; exact HSR.out.moved HM1.out (fun _ _ h => by cases h), HFR.out, HMW.out.trans HM1.out (fun _ h => by cases h)⟩
      · have HE := Lib.hid (parts_stop H.out (laid_empty hf) (fun h0 => by rw [h0, List.drop_zero] at hf; exact laid_empty hf))
        have HF := Lib.hid (first_some hf)
        clear hf
        go_wp2_with fail
        refine (reffirst_any (some (ad.add k)) _ _ (xs.drop k) wr HA2.out (by simp) (HB.out.drop k) (fun h => by cases h) (by omega) (by omega) (by omega)).mono ?_
        rw [HF.out.1, HF.out.2.1, HF.out.2.2]
        rintro e w1 ⟨v1, rfl, hO1, hS1⟩
        obtain ⟨Av, cv, rfl, -⟩ := own_shape hO1
        have HM1 := Lib.hid hS1.1
        clear hO1 hS1
        go_wp2
        go_ret3
        exact ⟨B, c', _, fr, by rw [HE.out]; rfl, by rw [HE.out]; exact nrowx_moved HN.out HM1.out (fun _ _ h => by cases h), by rw [HE.out]; exact fun b hb => (HBF.out b hb).1, by rw [HE.out]; exact HSR.out.moved HM1.out (fun _ _ h => by cases h), HFR.out, HMW.out.trans HM1.out (fun _ h => by cases h)⟩
      · have HF := Lib.hid (first_some hf)
        have hpl : 9 + t.length ≤ xs.length - k := by
          have := first_len hf
          simp at this
          omega
        have HH := Lib.hid hf
        clear hf
        go_wp2_with fail
        refine (reffirst_any (some (ad.add k)) _ _ (xs.drop k) wr HA2.out (by simp) (HB.out.drop k) (fun h => by cases h) (by omega) (by omega) (by omega)).mono ?_
        rw [HF.out.1, HF.out.2.1, HF.out.2.2]
        rintro e w1 ⟨v1, rfl, hO1, hS1⟩
        obtain ⟨g, cap, rfl, hcap, hcap2, hg⟩ : ∃ g cap, v1 = .slice (some ⟨g, 0, none⟩) (x :: t).length cap ∧ (x :: t).length ≤ cap ∧ cap ≤ maxLen ∧ g < w1.heap.size := by
          rcases hO1.2 with ⟨_, h0⟩ | ⟨g, cap, cur, hv, hb, hh, h1, h2, _⟩
          · simp at h0
          · exact ⟨g, cap, hv, h1, h2, (Array.getElem?_eq_some_iff.1 hh).1⟩
        have hx0 : w1.cell? ⟨g, 0, none⟩ = some (.int .u8 x) := by
          rw [hO1.cellAt 0 (by simp)]; rfl
        have hcap3 : t.length + 1 ≤ cap := by simpa using hcap
        have hcap4 : cap ≤ 9223372036854775807 := by unfold maxLen at hcap2; omega
        have HM1 := Lib.hid hS1.1
        have HGN := Lib.hid (show wr.heap.size ≤ g from Step.new hS1 g (by simp [mem_rowOf, Value.ownBlock]))
        have HPR := Lib.hid (NRow.of_own hO1)
        have HSR1 := Lib.hid (HSR.out.moved hS1.1 (fun _ _ h => by cases h))
        clear hO1 hS1 hcap hcap2
        by_cases h82 : x = 82
        · obtain rfl := h82
          by_cases hc1 : cap = 1
          · have htl : t.length = 0 := by omega
            have htn : t = [] := List.eq_nil_of_length_eq_zero htl
            have HU := Lib.hid (show Bites w1 (.slice (some ⟨g, 0, none⟩) 0 0) t from ⟨_, 0, by rw [htl], by rw [htn]; exact NRow.none_ _ _ _, (fun h => by cases h), by omega, by omega⟩)
            have HUL := Lib.hid (fun b hb => by have hbg : g = b := (by simpa [mem_rowOf, Value.ownBlock] using hb); exact ⟨by rw [← hbg]; simp; omega, fun hm => by have := own_lt HOWN.out b hm; have := HGN.out; omega⟩ : ∀ b ∈ rowOf ((.slice (some ⟨g, 0, none⟩) 0 0) : Value), b < (w1.alloc (.cells #[.slice (some ⟨g, 0, none⟩) 0 0] 27)).heap.size ∧ b ∉ rowOf (.slice Ao rs.length co))
            obtain ⟨vs1, hown1, hvl1, hel1, hvr1, hlt1⟩ := HSR1.out.moved ((Moved.refl w1 []).alloc (.cells #[.slice (some ⟨g, 0, none⟩) 0 0] 27)) (fun _ _ h => by cases h)
            have HOWN1 := Lib.hid hown1
            have HVL1 := Lib.hid hvl1
            have HEL1 := Lib.hid hel1
            have HLT1 := Lib.hid hlt1
            have HVR1 := Lib.hid hvr1
            clear hown1 hvl1 hel1 hvr1 hlt1
            go_wp2_with (at_builtin; refine wpList_append_vals rfl _ _ 47 rfl 27 i0 (.slice none 0 0) 24 Tryd.underlying47 hi hz0 rfl hz1 hz2 (.slice Ao rs.length co) _ _ rfl (by exact HOWN1.out) _ 1 1 [.slice (some ⟨g, 0, none⟩) 0 0] rfl rfl (vrow_lit _ _ _) (fun u hu => by simp at hu; subst hu; rfl) (fun h => by cases h) (by unfold maxLen; omega) (by omega) ?_)
            intro v2 w2 hown2 hst2
            have HSR2 := Lib.hid (SRows.push HVL1.out HEL1.out HLT1.out (bites_alloc HU.out _) HUL.out hown2 hst2)
            have hma : Moved wr (w1.alloc (.cells #[.slice (some ⟨g, 0, none⟩) 0 0] 27)) [] := HM1.out.alloc _
            have HN2 := Lib.hid (nrowx_moved (nrowx_moved HN.out hma (fun _ _ h => by cases h)) hst2.1 (fun b hb hm => (HBF.out b (rowX_rowOf hb)).2 hm))
            have HBF2 := Lib.hid (fun b hb => ⟨List.mem_append.2 (.inl (HBF.out b hb).1), fun hm => (hst2.2 b hm).elim (HBF.out b hb).2 (fun h => by have := HLT1.out b (HBF.out b hb).1; omega)⟩ : ∀ b ∈ rowOf (.slice B sn.length c'), b ∈ fr ++ (rowOf ((.slice (some ⟨g, 0, none⟩) 0 0) : Value) ++ rowOf v2) ∧ b ∉ rowOf v2)
            have HFR2 := Lib.hid (fun b hb => by
              rcases List.mem_append.1 hb with hb | hb
              · exact HFR.out b hb
              · rcases List.mem_append.1 hb with hb | hb
                · have hbg : g = b := (by simpa [mem_rowOf, Value.ownBlock] using hb)
                  rw [← hbg]; exact Nat.le_trans HMW.out.size HGN.out
                · rcases hst2.2 b hb with h | h
                  · exact HFR.out b (HVR1.out b h)
                  · exact Nat.le_trans HMW.out.size (Nat.le_trans hma.size h) : ∀ b ∈ fr ++ (rowOf ((.slice (some ⟨g, 0, none⟩) 0 0) : Value) ++ rowOf v2), w.heap.size ≤ b)
            have HMW2 := Lib.hid ((HMW.out.trans hma (fun _ h => by cases h)).trans hst2.1 (fun b hb => .inr (HFR.out b (HVR1.out b hb))))
            have HIS := Lib.hid (parts_rec H.out HH.out)
            obtain ⟨A3, c3, rfl, -⟩ := own_shape hown2
            clear hown2 hst2 hma
            go_wp2
            go_roundw
            case rel => exact ⟨k + (9 + t.length), sn, rs ++ [t], _, B, c', by go_num, rfl, by omega, by simp; omega, HN2.out, HBF2.out, HSR2.out, HFR2.out, HMW2.out, HIS.out⟩
            case measure => simp [intOf]; omega
          · have hc1' : 1 < cap := by omega
            have HU := Lib.hid (show Bites w1 (.slice (some ⟨g, 1, none⟩) t.length (cap - 1)) t from ⟨_, cap - 1, rfl, by have h := HPR.out.drop 1; rw [Nat.zero_add] at h; exact h, (fun h => by cases h), by omega, by omega⟩)
            have HUL := Lib.hid (fun b hb => by have hbg : g = b := (by simpa [mem_rowOf, Value.ownBlock] using hb); exact ⟨by rw [← hbg]; simp; omega, fun hm => by have := own_lt HOWN.out b hm; have := HGN.out; omega⟩ : ∀ b ∈ rowOf ((.slice (some ⟨g, 1, none⟩) t.length (cap - 1)) : Value), b < (w1.alloc (.cells #[.slice (some ⟨g, 1, none⟩) t.length (cap - 1)] 27)).heap.size ∧ b ∉ rowOf (.slice Ao rs.length co))
            obtain ⟨vs1, hown1, hvl1, hel1, hvr1, hlt1⟩ := HSR1.out.moved ((Moved.refl w1 []).alloc (.cells #[.slice (some ⟨g, 1, none⟩) t.length (cap - 1)] 27)) (fun _ _ h => by cases h)
            have HOWN1 := Lib.hid hown1
            have HVL1 := Lib.hid hvl1
            have HEL1 := Lib.hid hel1
            have HLT1 := Lib.hid hlt1
            have HVR1 := Lib.hid hvr1
            clear hown1 hvl1 hel1 hvr1 hlt1
            go_wp2_with (at_builtin; refine wpList_append_vals rfl _ _ 47 rfl 27 i0 (.slice none 0 0) 24 Tryd.underlying47 hi hz0 rfl hz1 hz2 (.slice Ao rs.length co) _ _ rfl (by exact HOWN1.out) _ 1 1 [.slice (some ⟨g, 1, none⟩) t.length (cap - 1)] rfl rfl (vrow_lit _ _ _) (fun u hu => by simp at hu; subst hu; rfl) (fun h => by cases h) (by unfold maxLen; omega) (by omega) ?_)
            intro v2 w2 hown2 hst2
            have HSR2 := Lib.hid (SRows.push HVL1.out HEL1.out HLT1.out (bites_alloc HU.out _) HUL.out hown2 hst2)
            have hma : Moved wr (w1.alloc (.cells #[.slice (some ⟨g, 1, none⟩) t.length (cap - 1)] 27)) [] := HM1.out.alloc _
            have HN2 := Lib.hid (nrowx_moved (nrowx_moved HN.out hma (fun _ _ h => by cases h)) hst2.1 (fun b hb hm => (HBF.out b (rowX_rowOf hb)).2 hm))
            have HBF2 := Lib.hid (fun b hb => ⟨List.mem_append.2 (.inl (HBF.out b hb).1), fun hm => (hst2.2 b hm).elim (HBF.out b hb).2 (fun h => by have := HLT1.out b (HBF.out b hb).1; omega)⟩ : ∀ b ∈ rowOf (.slice B sn.length c'), b ∈ fr ++ (rowOf ((.slice (some ⟨g, 1, none⟩) t.length (cap - 1)) : Value) ++ rowOf v2) ∧ b ∉ rowOf v2)
            have HFR2 := Lib.hid (fun b hb => by
              rcases List.mem_append.1 hb with hb | hb
              · exact HFR.out b hb
              · rcases List.mem_append.1 hb with hb | hb
                · have hbg : g = b := (by simpa [mem_rowOf, Value.ownBlock] using hb)
                  rw [← hbg]; exact Nat.le_trans HMW.out.size HGN.out
                · rcases hst2.2 b hb with h | h
                  · exact HFR.out b (HVR1.out b h)
                  · exact Nat.le_trans HMW.out.size (Nat.le_trans hma.size h) : ∀ b ∈ fr ++ (rowOf ((.slice (some ⟨g, 1, none⟩) t.length (cap - 1)) : Value) ++ rowOf v2), w.heap.size ≤ b)
            have HMW2 := Lib.hid ((HMW.out.trans hma (fun _ h => by cases h)).trans hst2.1 (fun b hb => .inr (HFR.out b (HVR1.out b hb))))
            have HIS := Lib.hid (parts_rec H.out HH.out)
            obtain ⟨A3, c3, rfl, -⟩ := own_shape hown2
            clear hown2 hst2 hma
            go_wp2
            go_roundw
            case rel => exact ⟨k + (9 + t.length), sn, rs ++ [t], _, B, c', by go_num, rfl, by omega, by simp; omega, HN2.out, HBF2.out, HSR2.out, HFR2.out, HMW2.out, HIS.out⟩
            case measure => simp [intOf]; omega
        · have hx82 : (x == 82) = false := by rw [beq_eq_false_iff_ne]; exact h82
          have HX82 := Lib.hid h82
          by_cases h83 : x = 83 ∧ k = 0
          · obtain ⟨rfl, rfl⟩ := h83
            obtain rfl : rs = [] := by
              rcases H.out with ⟨_, _, h⟩ | ⟨h, _⟩
              · exact h
              · omega
            have HIS := Lib.hid (parts_snap H.out (by have h := HH.out; rw [List.drop_zero] at h; exact h))
            have HSR3 := Lib.hid (HSR1.out.more (gr := [g]) (fun b hb => by simp at hb; subst hb; exact hg))
            have HFG := Lib.hid (fun b hb => (List.mem_append.1 hb).elim (HFR.out b) (fun h => by simp at h; subst h; exact Nat.le_trans HMW.out.size HGN.out) : ∀ b ∈ fr ++ [g], w.heap.size ≤ b)
            have HGV := Lib.hid (fun hm => by have := own_lt HOWN.out g hm; have := HGN.out; omega : g ∉ rowOf (.slice Ao ([] : List (List Int)).length co))
            by_cases hc1 : cap = 1
            · have htl : t.length = 0 := by omega
              have htn : t = [] := List.eq_nil_of_length_eq_zero htl
              subst htn
              go_wp2
              go_roundw
              case rel => exact ⟨9, [], [], fr ++ [g], some ⟨g, 0, none⟩, 0, by go_num, rfl, by omega, by simp, NRow.none_ _ _ _, (fun b hb => by have hbg : g = b := (by simpa [mem_rowOf, Value.ownBlock] using hb); subst hbg; exact ⟨by simp, HGV.out⟩), HSR3.out, HFG.out, HMW.out.trans HM1.out (fun _ h => by cases h), HIS.out⟩
              case measure => simp [intOf]; omega
            · have hc1' : 1 < cap := by omega
              have HNT := Lib.hid (show NRow .u8 w1 (some ⟨g, 1, none⟩) t by have h := HPR.out.drop 1; rw [Nat.zero_add] at h; exact h)
              go_wp2
              go_roundw
              case rel => exact ⟨9 + t.length, t, [], fr ++ [g], some ⟨g, 1, none⟩, cap - 1, by go_num, rfl, by omega, by simp, HNT.out, (fun b hb => by have hbg : g = b := (by simpa [mem_rowOf, Value.ownBlock] using hb); subst hbg; exact ⟨by simp, HGV.out⟩), HSR3.out, HFG.out, HMW.out.trans HM1.out (fun _ h => by cases h), HIS.out⟩
              case measure => simp [intOf]; omega
          · have HE := Lib.hid (parts_stop H.out (laid_other HH.out HX82.out) (fun h0 => by
              have h := HH.out
              rw [h0, List.drop_zero] at h
              exact laid_other h (fun h' => h83 ⟨h', h0⟩)))
            by_cases hx83 : x = 83
            · have hk0 : 0 < k := by omega
              obtain rfl := hx83
              go_wp2
              go_ret3
              exact ⟨B, c', _, fr, by rw [HE.out]; rfl, by rw [HE.out]; exact nrowx_moved HN.out HM1.out (fun _ _ h => by cases h), by rw [HE.out]; exact fun b hb => (HBF.out b hb).1, by rw [HE.out]; exact HSR1.out, HFR.out, HMW.out.trans HM1.out (fun _ h => by cases h)⟩
            · have hx8 : (x != 83) = true := by rw [bne_iff_ne]; exact hx83
              have hx9 : (x != 82) = true := by rw [bne_iff_ne]; exact h82
              go_wp2
              go_ret3
              exact ⟨B, c', _, fr, by rw [HE.out]; rfl, by rw [HE.out]; exact nrowx_moved HN.out HM1.out (fun _ _ h => by cases h), by rw [HE.out]; exact fun b hb => (HBF.out b hb).1, by rw [HE.out]; exact HSR1.out, HFR.out, HMW.out.trans HM1.out (fun _ h => by cases h)⟩
end Lg
end Go.Proofs.YtekleamkpfeifaaDoor

/-
  CONTRACT of hansekeep.SpoilBytes: a row of the call's own is written over, nothing else.
-/
namespace Go.Proofs.YtekleamkpfeifaaDoor
open Go.RowKit
theorem own_set {k : IntKind} {w : World} {e : TypeId} {g n c : Nat} {xs : List Int} (h : w.ownsRow 0 e 1 (.slice (some ⟨g, 0, none⟩) n c) n (xs.map (Value.int k))) (j : Nat) (x : Int) :
    (w.setCell ⟨g, j, none⟩ (.int k x)).ownsRow 0 e 1 (.slice (some ⟨g, 0, none⟩) n c) n ((xs.set j x).map (Value.int k)) := by
  rw [List.map_set]
  exact (h.stored j (.int k x)).1
set_option maxRecDepth 100000 in
set_option maxHeartbeats 1000000 in
theorem spoil_any (v : Value) (xs : List Int) (w : World) (hown : w.ownsRow 0 5 1 v xs.length (xs.map (Value.int .u8))) (hlen : xs.length ≤ 70368744177664) :
    Calls Tryd.prog 27 #[v] w fun r w' => r = .returned (.tuple #[]) ∧ Moved w w' (rowOf v) := by
  rcases hown.2 with ⟨rfl, h0⟩ | ⟨g, cap, cur, rfl, _⟩
  · clear hown
    go_enter Tryd.func27, Tryd.ntmps27
    go_wp2
    refine wp_loop_rounds 1 ?_
    rw [rounds_succ]
    go_wp2
    go_end0
    exact ⟨rfl, Moved.refl _ _⟩
  · have HO := Lib.hid hown
    clear hown
    go_enter Tryd.func27, Tryd.ntmps27
    go_wp2
    go_loopw [2] (fun i wr => ∃ (k : Nat) (ys : List Int), i = .int .i64 k ∧ k ≤ xs.length ∧ Hid (ys.length = xs.length) ∧ wr.ownsRow 0 5 1 (.slice (some ⟨g, 0, none⟩) xs.length cap) xs.length (ys.map (Value.int .u8)) ∧ Moved w wr [g]) (fun i _ => xs.length - (intOf i).toNat)
    case atStart => exact ⟨0, xs, rfl, by omega, rfl, HO.out, Moved.refl _ _⟩
    case round =>
      obtain ⟨k, ys, rfl, hk, hl, hown, hM⟩ := hrel
      have HM := Lib.hid hM
      have HO2 := Lib.hid hown
      clear hM
      by_cases hlt : k < xs.length
      · obtain ⟨y, hy⟩ : ∃ y, ys[k]? = some y := ⟨ys[k]'(by rw [hl.out]; exact hlt), List.getElem?_eq_getElem _⟩
        have hc : wr.cell? ⟨g, k, none⟩ = some (.int .u8 y) := by
          rw [hown.cellAt k (by omega), List.getElem?_map, hy]; rfl
        have hf := hown.frozenAt k
        clear hown hy
        go_wp2
        go_roundw
        case rel => exact ⟨k + 1, _, by go_num, by omega, (List.length_set ..).trans hl.out, own_set HO2.out k _, HM.out.setCell (p := ⟨g, k, none⟩) (.inl (by simp)) _⟩
        case measure => simp [intOf]; omega
      · clear hown
        go_wp2
        go_end0
        exact ⟨rfl, HM.out.mono (fun k hk => by simp at hk; subst hk; simp [mem_rowOf, Value.ownBlock])⟩
end Go.Proofs.YtekleamkpfeifaaDoor
