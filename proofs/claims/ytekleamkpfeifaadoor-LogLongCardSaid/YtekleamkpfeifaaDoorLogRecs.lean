/-
  CONTRACT of (*journal.Log).Recs.
-/
import Derived.Test.YtekleamkpfeifaaDoorLogReverse
import Derived.Test.YtekleamkpfeifaaDoorDiskPc
namespace Go.Proofs.YtekleamkpfeifaaDoor
namespace Lg
open Go.RowKit Dk Fr
/-- A row of the call's own, of new rows of bytes, whatever marks they bear. -/
def TOwn (w : World) (v : Value) (vs : List Value) (ps : List (List Int)) : Prop :=
  w.ownsRow 0 27 1 v ps.length vs ∧ vs.length = ps.length ∧ (∀ (i : Nat) (u : Value) (p : List Int), vs[i]? = some u → ps[i]? = some p → TRow w u p.length p) ∧
    (∀ k ∈ rowOf v, k ∉ partsOf vs) ∧ ∀ (i j : Nat) (u x : Value), i ≠ j → vs[i]? = some u → vs[j]? = some x → ∀ k ∈ rowOf u, k ∉ rowOf x
theorem TOwn.parts_lt {w : World} {v : Value} {vs : List Value} {ps : List (List Int)} (h : TOwn w v vs ps) : ∀ k ∈ partsOf vs, k < w.heap.size := by
  obtain ⟨hr, hl, he, _, _⟩ := h
  intro k hk
  obtain ⟨i, u, hi, hk⟩ := mem_partsOf.1 hk
  obtain ⟨hi2, _⟩ := List.getElem?_eq_some_iff.1 hi
  exact t_lt (he i u ps[i] hi (List.getElem?_eq_getElem (by omega))) k hk
theorem TOwn.stays {w w' : World} {v : Value} {vs : List Value} {ps : List (List Int)} (h : TOwn w v vs ps) (hv : ∀ k ∈ rowOf v, w'.heap[k]? = w.heap[k]?) (hp : ∀ k ∈ partsOf vs, w'.heap[k]? = w.heap[k]?) : TOwn w' v vs ps := by
  obtain ⟨hr, hl, he, ha, hd⟩ := h
  exact ⟨own_stays hr hv, hl, fun i u p hu hq => t_stays (he i u p hu hq) (fun k hk => hp k (mem_partsOf.2 ⟨i, u, hu, hk⟩)), ha, hd⟩
theorem TOwn.nil (w : World) : TOwn w (.slice none 0 0) [] [] := ⟨World.ownsRow_nil _ _ _ _, rfl, fun i u p hu => by simp at hu, by simp [rowOf, Value.ownBlock], fun i j u x _ hu => by simp at hu⟩
theorem TOwn.slices {w : World} {v : Value} {vs : List Value} {ps : List (List Int)} (h : TOwn w v vs ps) : ∀ u ∈ vs, ∃ A m d, u = .slice A m d := by
  intro u hu
  obtain ⟨i, hi⟩ := List.mem_iff_getElem?.1 hu
  obtain ⟨hi2, _⟩ := List.getElem?_eq_some_iff.1 hi
  have hip : i < ps.length := by rw [← h.2.1]; exact hi2
  obtain ⟨A, d, h1, -⟩ := t_shape (h.2.2.1 i u ps[i] hi (List.getElem?_eq_getElem hip))
  exact ⟨A, _, d, h1⟩
/-- One row more. -/
theorem TOwn.push {w w1 : World} {v v' u : Value} {vs : List Value} {ps : List (List Int)} {p : List Int} (h : TOwn w v vs ps) (hu : TRow w u p.length p) (hua : ∀ k ∈ rowOf u, k ∉ rowOf v) (hup : ∀ k ∈ rowOf u, k ∉ partsOf vs) (hown : w1.ownsRow 0 27 1 v' (ps.length + 1) (vs ++ [u])) (hS : Step w w1 (rowOf v) (rowOf v')) :
    TOwn w1 v' (vs ++ [u]) (ps ++ [p]) := by
  have hplt := h.parts_lt
  obtain ⟨hr, hl, he, ha, hd⟩ := h
  have hparts : partsOf (vs ++ [u]) = partsOf vs ++ rowOf u := by simp [partsOf]
  refine ⟨by simpa using hown, by simp [hl], ?_, ?_, ?_⟩
  · intro i x q hx hq
    by_cases hi : i < vs.length
    · rw [List.getElem?_append_left hi] at hx
      rw [List.getElem?_append_left (by omega)] at hq
      have h1 := he i x q hx hq
      exact t_stays h1 (fun k hk => hS.1.block k (t_lt h1 k hk) (fun hm => ha k hm (mem_partsOf.2 ⟨i, x, hx, hk⟩)))
    · by_cases hi2 : i = vs.length
      · subst hi2
        rw [List.getElem?_append_right (by omega)] at hx
        rw [hl, List.getElem?_append_right (by omega)] at hq
        simp at hx hq
        subst hx hq
        exact t_stays hu (fun k hk => hS.1.block k (t_lt hu k hk) (hua k hk))
      · rw [List.getElem?_eq_none (by simp; omega)] at hx; cases hx
  · intro k hk hm
    rw [hparts] at hm
    rcases hS.2 k hk with h | h
    · rcases List.mem_append.1 hm with hm | hm
      · exact ha k h hm
      · exact hua k hm h
    · rcases List.mem_append.1 hm with hm | hm
      · have := hplt k hm; omega
      · have := t_lt hu k hm; omega
  · intro i j x y hij hx hy k hk hm
    rcases Nat.lt_trichotomy i vs.length with hi | hi | hi
    · rw [List.getElem?_append_left hi] at hx
      rcases Nat.lt_trichotomy j vs.length with hj | hj | hj
      · rw [List.getElem?_append_left hj] at hy
        exact hd i j x y hij hx hy k hk hm
      · subst hj
        rw [List.getElem?_append_right (by omega)] at hy
        simp at hy
        subst hy
        exact hup k hm (mem_partsOf.2 ⟨i, x, hx, hk⟩)
      · rw [List.getElem?_eq_none (by simp; omega)] at hy; cases hy
    · subst hi
      rw [List.getElem?_append_right (by omega)] at hx
      simp at hx
      subst hx
      rcases Nat.lt_trichotomy j vs.length with hj | hj | hj
      · rw [List.getElem?_append_left hj] at hy
        exact hup k hk (mem_partsOf.2 ⟨j, y, hy, hm⟩)
      · omega
      · rw [List.getElem?_eq_none (by simp; omega)] at hy; cases hy
    · rw [List.getElem?_eq_none (by simp; omega)] at hx; cases hx
/-- Turned about. -/
theorem TOwn.turned {w w1 : World} {v : Value} {vs : List Value} {ps : List (List Int)} (h : TOwn w v vs ps) (hown : w1.ownsRow 0 27 1 v ps.length vs.reverse) (hM : Moved w w1 (rowOf v)) : TOwn w1 v vs.reverse ps.reverse := by
  have hplt := h.parts_lt
  obtain ⟨hr, hl, he, ha, hd⟩ := h
  have hat : ∀ (i : Nat) (u : Value), vs.reverse[i]? = some u → i < vs.length ∧ vs[vs.length - 1 - i]? = some u := fun i u hu => by
    have hi : i < vs.length := by have := (List.getElem?_eq_some_iff.1 hu).1; simpa using this
    rw [List.getElem?_reverse hi] at hu
    exact ⟨hi, hu⟩
  have hpr : ∀ k, k ∈ partsOf vs.reverse ↔ k ∈ partsOf vs := fun k => by simp [partsOf]
  refine ⟨by simpa using hown, by simp [hl], fun i u p hu hp => ?_, fun k hk hm => ha k hk ((hpr k).1 hm), fun i j u x hij hu hx => ?_⟩
  · obtain ⟨hi, hu⟩ := hat i u hu
    rw [List.getElem?_reverse (by omega), ← hl] at hp
    have h1 := he _ u p hu hp
    exact t_stays h1 (fun k hk => hM.block k (t_lt h1 k hk) (fun hm => ha k hm (mem_partsOf.2 ⟨_, u, hu, hk⟩)))
  · obtain ⟨hi, hu⟩ := hat i u hu
    obtain ⟨hj, hx⟩ := hat j x hx
    exact hd _ _ u x (by omega) hu hx
theorem TOwn.trows {w : World} {v : Value} {vs : List Value} {ps : List (List Int)} (h : TOwn w v vs ps) : TRows w v ps (rowOf v ++ partsOf vs) := by
  have hplt := h.parts_lt
  obtain ⟨hr, hl, he, ha, hd⟩ := h
  have hlt := own_lt hr
  obtain ⟨A, c, rfl, hn, hc⟩ := own_shape hr
  exact ⟨A, c, vs, rfl, VRow.of_own hr, hl, hn, hc, he, fun b hb => List.mem_append.2 (.inl hb), fun b hb => List.mem_append.2 (.inr hb), fun b hb => (List.mem_append.1 hb).elim (hlt b) (hplt b), ha, hd⟩
theorem rtexts_rev : ∀ R : List Rc, rtexts R = (R.map fun c => Pk.nums c.t).reverse
  | [] => rfl
  | c :: r => by rw [rtexts, rtexts_rev r, List.map_cons, List.reverse_cons]
theorem rrank_lt {b : Nat} {r : List Rc} (h : ∀ k ∈ rblks r, k < b) : ptrRank (rptr r) < ptrRank (.pointer (some ⟨b, 0, none⟩)) := by
  cases r with
  | nil => exact Nat.succ_pos _
  | cons c r => exact Nat.succ_lt_succ (h c.b (by simp [rblks]))
set_option maxRecDepth 100000 in
theorem reverse_nil (A : Option Addr) (c : Nat) (w : World) : Calls Tryd.prog 57 #[.slice A 0 c] w fun r w' => r = .returned (.tuple #[]) ∧ w' = w := by
  go_enter Tryd.func57, Tryd.ntmps57
  go_wp2
  refine wp_loop_rounds 1 ?_
  rw [rounds_succ]
  go_wp2
  go_end0
  exact ⟨rfl, rfl⟩
/-- What a call of Recs has made so far. -/
structure Sofar (w wr : World) (v : Value) (vs : List Value) (ps : List (List Int)) : Prop where
  own : TOwn wr v vs ps
  old : Moved w wr []
  new : ∀ k ∈ rowOf v ++ partsOf vs, w.heap.size ≤ k
/-- One text more. -/
theorem Sofar.more {w wr W2 w3 : World} {v v2 v3 : Value} {vs : List Value} {ps : List (List Int)} {t : ByteArray} (h : Sofar w wr v vs ps) (ht : t.size ≤ 1099511627776)
    (hv : v2 = .slice (some ⟨wr.heap.size, 0, none⟩) t.size (grownCap wr t.size 0 5))
    (hW : W2 = (wr.drew.alloc (.cells (bytesRow t (grownCap wr t.size 0 5)) 5 ((bytesRow t (grownCap wr t.size 0 5)).size, (bytesRow t (grownCap wr t.size 0 5)).size + 1))))
    (hown : w3.ownsRow 0 27 1 v3 (ps.length + 1) (vs ++ [v2])) (hS : Step (W2.alloc (.cells #[v2] 27)) w3 (rowOf v) (rowOf v3)) :
    Sofar w w3 v3 (vs ++ [v2]) (ps ++ [Pk.nums t]) := by
  have hT := TRow.of_string wr t (by unfold maxLen; omega)
  rw [← hv, ← hW, show (t.data.toList.map fun b => (b.toNat : Int)) = Pk.nums t from rfl, ← Pk.nums_len] at hT
  have hM2 : Moved wr W2 [] := by rw [hW]; exact ((Moved.refl wr []).drew).alloc _
  have hM3 := hM2.alloc (.cells #[v2] 27)
  have hro : ∀ k ∈ rowOf v2, k = wr.heap.size := fun k hk => by subst hv; simpa [mem_rowOf, Value.ownBlock, eq_comm] using hk
  have hlt := own_lt h.own.1
  have hpl := h.own.parts_lt
  have hO3 := h.own.stays (w' := W2.alloc (.cells #[v2] 27)) (fun k hk => hM3.block k (hlt k hk) (fun h => by cases h)) (fun k hk => hM3.block k (hpl k hk) (fun h => by cases h))
  have z1 := h.old.size
  have z3 := hM3.size
  refine ⟨hO3.push (t_stays hT (fun k hk => Below.heap_alloc W2 _ k (t_lt hT k hk))) (fun k hk hm => by have := hro k hk; have := hlt k hm; omega) (fun k hk hm => by have := hro k hk; have := hpl k hm; omega) hown hS, (h.old.trans hM3 (fun _ h => by cases h)).trans hS.1 (fun k hk => .inr (h.new k (List.mem_append.2 (.inl hk)))), fun k hk => ?_⟩
  rcases List.mem_append.1 hk with hk | hk
  · rcases hS.2 k hk with h1 | h1
    · exact h.new k (List.mem_append.2 (.inl h1))
    · omega
  · rw [show partsOf (vs ++ [v2]) = partsOf vs ++ rowOf v2 by simp [partsOf]] at hk
    rcases List.mem_append.1 hk with hk | hk
    · exact h.new k (List.mem_append.2 (.inr hk))
    · have := hro k hk; omega
set_option maxRecDepth 100000 in
set_option maxHeartbeats 2000000 in
theorem grecs_any (l p : Nat) (fl : List Nat) (sn : List Int) (rs : List (List Int)) (m : Nat) (w : World) (hG : GObj w l p fl sn rs m) (hm : m ≤ 1073741824) :
    Calls Tryd.prog 35 #[.pointer (some ⟨l, 0, none⟩)] w fun r w' => ∃ v fl' fr, r = .returned v ∧ TRows w' v rs fr ∧ (∀ k ∈ fr, w.heap.size ≤ k ∧ k ∉ fl') ∧ GObj w' l p fl' sn rs m ∧ Step w w' fl fl' := by
  obtain ⟨i0, hi, hz0, hz1, hz2⟩ := info_parts info_bytes
  have HG := Lib.hid hG
  obtain ⟨S, R, hfl, hr, hs, hrs, hb⟩ := hG
  have c2 := cell_at hr.at_ 2 (v := rptr R) rfl
  have HR := Lib.hid hr
  have HRS := Lib.hid hrs
  have HLN := Lib.hid (show R.length ≤ m by have := rtexts_len R; rw [hrs] at this; omega)
  have HFLN := Lib.hid (show rs.flatten.length ≤ m by omega)
  clear hr hs hrs hfl hb
  go_enter Tryd.func35, Tryd.ntmps35
  go_wp2
  go_loopw [3, 4] (fun v r wr => ∃ (D T : List Rc) (vs : List Value) (ps : List (List Int)), Hid (R = D ++ T) ∧ r = rptr T ∧ Hid (ps = D.map fun c => Pk.nums c.t) ∧ ps.length ≤ 1073741824 ∧ Sofar w wr v vs ps) (fun _ r _ => ptrRank r)
  case atStart => exact ⟨[], R, [], [], rfl, rfl, rfl, by simp, TOwn.nil _, Moved.refl _ _, fun k hk => by simp [rowOf, Value.ownBlock, partsOf] at hk⟩
  case round =>
    obtain ⟨D, T, vs, ps, HD, rfl, HP, hpl, hSF⟩ := hrel
    obtain ⟨Ao, co, rfl, -⟩ := own_shape hSF.own.1
    have HSF := Lib.hid hSF
    clear hSF
    rcases T with _ | ⟨x, r⟩
    · obtain rfl : R = D := by rw [HD.out, List.append_nil]
      rw [show rptr [] = .pointer none from rfl]
      have HPR := Lib.hid (show ps.reverse = rs by rw [HP.out, ← rtexts_rev, HRS.out])
      by_cases h0 : ps.length = 0
      · obtain rfl := List.eq_nil_of_length_eq_zero h0
        clear h0
        go_wp2_with fail
        refine (reverse_nil Ao co wr).mono ?_
        rintro e w1 ⟨rfl, hw1⟩
        have HW := Lib.hid hw1
        clear hw1
        go_wp2
        go_ret
        rw [HW.out]
        refine ⟨_, fl, _, rfl, by rw [← HPR.out]; exact HSF.out.own.trows, fun k hk => ⟨HSF.out.new k hk, fun h => ?_⟩, HG.out.stays (fun k hk => HSF.out.old.block k (HG.out.lt k hk) (fun h => by cases h)), HSF.out.old.mono (fun _ h => by cases h), fun _ h => .inl h⟩
        have h1 := HG.out.lt k h
        have h2 := HSF.out.new k hk
        omega
      · obtain ⟨g, rfl⟩ : ∃ g, Ao = some ⟨g, 0, none⟩ := by
          rcases HSF.out.own.1.2 with ⟨_, h⟩ | ⟨g, cap, cur, hv, _⟩
          · exact absurd h h0
          · injection hv with hA
            exact ⟨g, hA⟩
        have h0' : 0 < ps.length := by omega
        go_wp2_with fail
        refine (reverse_any g ps.length co vs wr HSF.out.own.1 HSF.out.own.slices h0' (by omega)).mono ?_
        rintro e w1 ⟨rfl, hO1, hM1⟩
        have hro : rowOf (.slice (some ⟨g, 0, none⟩) ps.length co) = [g] := rfl
        have HT := Lib.hid (HSF.out.own.turned hO1 (by rw [hro]; exact hM1)).trows
        rw [HPR.out] at HT
        have HM := Lib.hid (HSF.out.old.trans hM1 (fun k hk => .inr (HSF.out.new k (List.mem_append.2 (.inl (by rw [hro]; exact hk))))))
        have HN := Lib.hid (show ∀ k ∈ rowOf (.slice (some ⟨g, 0, none⟩) ps.length co) ++ partsOf vs.reverse, w.heap.size ≤ k from fun k hk => HSF.out.new k (by
          rcases List.mem_append.1 hk with h | h
          · exact List.mem_append.2 (.inl h)
          · exact List.mem_append.2 (.inr (by simpa [partsOf] using h))))
        clear hO1 hM1
        go_wp2
        go_ret
        refine ⟨_, fl, _, rfl, HT.out, fun k hk => ⟨HN.out k hk, fun h => ?_⟩, HG.out.stays (fun k hk => HM.out.block k (HG.out.lt k hk) (fun h => by cases h)), HM.out.mono (fun _ h => by cases h), fun _ h => .inl h⟩
        have h1 := HG.out.lt k h
        have h2 := HN.out k hk
        omega
    · have hrx := HR.out.still HSF.out.old
      have hpx := RcAt.tail (a := D) (b := x :: r) (by rw [← HD.out]; exact hrx.rcs)
      have c1 := cell_at hpx.1 1 (v := .string x.t) rfl
      have HLOW := Lib.hid hpx.2.1
      have hxt : x.t.size ≤ 1073741824 := by
        have h1 : Pk.nums x.t ∈ rs := by
          rw [← HRS.out, rtexts_rev, List.mem_reverse]
          exact List.mem_map.2 ⟨x, by rw [HD.out]; simp, rfl⟩
        have h2 := part_le_flat h1
        rw [Pk.nums_len] at h2
        exact Nat.le_trans (Nat.le_trans h2 HFLN.out) hm
      have hpl2 : ps.length + 1 ≤ 1073741824 := by
        have h1 := congrArg List.length HD.out
        rw [List.length_append, List.length_cons] at h1
        have h2 := congrArg List.length HP.out
        rw [List.length_map] at h2
        have h3 := HLN.out
        omega
      have hcv := run_bytes_of_string (P := Tryd.prog) wr 9 27 5 x.t Tryd.underlying9 Tryd.underlying27 Tryd.underlying5
      obtain ⟨W2, hW2⟩ : ∃ W2, W2 = (wr.drew.alloc (.cells (bytesRow x.t (grownCap wr x.t.size 0 5)) 5 ((bytesRow x.t (grownCap wr x.t.size 0 5)).size, (bytesRow x.t (grownCap wr x.t.size 0 5)).size + 1))) := ⟨_, rfl⟩
      rw [← hW2] at hcv
      obtain ⟨cp, hcp⟩ : ∃ cp, cp = grownCap wr x.t.size 0 5 := ⟨_, rfl⟩
      rw [← hcp] at hcv
      have HW2 := Lib.hid hW2
      have HV2 : Hid (Value.slice (some ⟨wr.heap.size, 0, none⟩) x.t.size cp = Value.slice (some ⟨wr.heap.size, 0, none⟩) x.t.size (grownCap wr x.t.size 0 5)) := by show _ = _; rw [hcp]
      have HO2 : Hid ((W2.alloc (.cells #[.slice (some ⟨wr.heap.size, 0, none⟩) x.t.size cp] 27)).ownsRow 0 27 1 (.slice Ao ps.length co) ps.length vs) := own_stays HSF.out.own.1 (fun k hk => by
        have h1 := own_lt HSF.out.own.1 k hk
        rw [Below.heap_alloc W2 _ k (by rw [hW2]; simp; omega), hW2, Below.heap_alloc wr.drew _ k h1]
        rfl)
      rw [show rptr (x :: r) = .pointer (some ⟨x.b, 0, none⟩) from rfl]
      clear hW2 hcp hrx hpx
      go_wp2_with (at_builtin; refine wpList_append_vals rfl _ _ 47 rfl 27 i0 (.slice none 0 0) 24 Tryd.underlying47 hi hz0 rfl hz1 hz2 (.slice Ao ps.length co) _ _ rfl HO2.out _ 1 1 [.slice (some ⟨wr.heap.size, 0, none⟩) x.t.size cp] rfl rfl (vrow_lit _ _ _) (fun u hu => by simp at hu; subst hu; rfl) (fun h => by cases h) (by unfold maxLen; omega) (by omega) ?_)
      intro v3 w3 hown hst
      have hSF3 := HSF.out.more (by omega) HV2.out HW2.out hown hst
      have HSF3 := Lib.hid hSF3
      have d0 := cell_at (RcAt.tail (a := D) (b := x :: r) (by rw [← HD.out]; exact (HR.out.still hSF3.old).rcs)).1 0 (v := rptr r) rfl
      have HP3 := Lib.hid (show ps ++ [Pk.nums x.t] = (D ++ [x]).map fun c => Pk.nums c.t by rw [HP.out, List.map_append]; rfl)
      clear hown hst hSF3
      go_wp2
      go_roundw
      case rel => exact ⟨D ++ [x], r, _, ps ++ [Pk.nums x.t], by rw [HD.out, List.append_assoc]; rfl, rfl, HP3.out, by rw [List.length_append]; exact hpl2, HSF3.out⟩
      case measure => exact rrank_lt HLOW.out
end Lg
end Go.Proofs.YtekleamkpfeifaaDoor
