/-
  CONTRACTS of resv.fit and resv.Add: the developers' resv has what ResvLaws asks.
-/
import Derived.Test.YtnabnoaephjceaaResvInsert
namespace Go.Proofs.Ytnabnoaephjceaa
namespace Rv
open Go.RowKit Am Pf
set_option maxRecDepth 100000 in
set_option maxHeartbeats 2000000 in
theorem fit_any (cap : Nat) (hcap : cap ≤ 2) (A : Option Addr) (n c : Nat) (l : List R) (w : World) (hn : l.length = n) (hl : n ≤ 1048576) (hR : Row w A l) (hF : Fit cap (l.map R.b)) :
    Calls Try.prog 12 #[amt cap 0, .slice none 0 0, .slice A n c] w fun e w' => e = .returned (.bool true) ∧ Moved w w' [] := by
  obtain ⟨x, y, hx⟩ := amt_parts cap
  have HR := Lib.hid hR
  have HF := Lib.hid hF
  have HX := Lib.hid hx
  have HN := Lib.hid hn
  rw [hx]
  clear hR hF hx hn
  go_enter Try.func12, Try.ntmps12
  go_wp2_with fail
  refine (load_any A n c l _ HN.out hl (by exact HR.out)).mono ?_
  rintro e w1 ⟨v1, rfl, h1, h2⟩
  have hlm : (l.map R.b).length = n := by rw [List.length_map, HN.out]
  obtain ⟨B, d, rfl, hB0, hnd, hdm⟩ := bown_shape h1 hlm
  have HB := Lib.hid h1.row
  have HM1 := Lib.hid h2.1
  have HLM := Lib.hid hlm
  clear h1 h2 hlm
  go_wp2_with fail
  refine (concat_any w1.heap.size B n d 2 (l.map R.b) _ HLM.out hl (by exact HB.out.still ((Moved.refl w1 []).alloc _)) hB0 (by rw [cell_of_row _ _ _ _ _ _ (heap_alloc_new w1 _)]; rfl) (by rw [cell_of_row _ _ _ _ _ _ (heap_alloc_new w1 _)]; rfl)).mono ?_
  rintro e w2 ⟨v2, rfl, h1, h2⟩
  obtain ⟨C, f, rfl, hC0, hnf, hfm⟩ := bown_shape h1 HLM.out
  have HB2 := Lib.hid h1.row
  have HM2 := Lib.hid ((HM1.out.alloc _).trans h2.1 (fun _ h => by cases h) : Moved w w2 [])
  clear h1 h2
  have HNEW := Lib.hid (new_any cap hcap C n f (l.map R.b) w2 HLM.out hl HB2.out HF.out)
  rw [HX.out] at HNEW
  go_wp2_with fail
  refine HNEW.out.mono ?_
  rintro e w3 ⟨p, rfl, -, -, h3⟩
  have HM3 := Lib.hid (HM2.out.trans h3 (fun _ h => by cases h) : Moved w w3 [])
  clear h3
  go_wp2
  go_ret
  exact ⟨rfl, HM3.out⟩
theorem r_cells {W : World} {g : Nat} {v0 v1 v2 v3 v4 v5 v6 v7 : Value} {e : TypeId} (h : W.heap[g]? = some (.cells #[v0, v1, v2, v3, v4, v5, v6, v7] e (0, 0))) :
    W.cell? ⟨g, 0, none⟩ = some v0 ∧ W.cell? ⟨g, 1, none⟩ = some v1 ∧ W.cell? ⟨g, 2, none⟩ = some v2 ∧ W.cell? ⟨g, 3, none⟩ = some v3 ∧ W.cell? ⟨g, 4, none⟩ = some v4 ∧ W.cell? ⟨g, 5, none⟩ = some v5 ∧ W.cell? ⟨g, 6, none⟩ = some v6 ∧ W.cell? ⟨g, 7, none⟩ = some v7 :=
  ⟨cell_at h 0 rfl, cell_at h 1 rfl, cell_at h 2 rfl, cell_at h 3 rfl, cell_at h 4 rfl, cell_at h 5 rfl, cell_at h 6 rfl, cell_at h 7 rfl⟩
theorem eight_all {w w' : World} (h : Moved w w' []) {p0 p1 p2 p3 p4 p5 p6 p7 : Addr} {v0 v1 v2 v3 v4 v5 v6 v7 : Value} (hc : w.cell? p0 = some v0 ∧ w.cell? p1 = some v1 ∧ w.cell? p2 = some v2 ∧ w.cell? p3 = some v3 ∧ w.cell? p4 = some v4 ∧ w.cell? p5 = some v5 ∧ w.cell? p6 = some v6 ∧ w.cell? p7 = some v7) :
    w'.cell? p0 = some v0 ∧ w'.cell? p1 = some v1 ∧ w'.cell? p2 = some v2 ∧ w'.cell? p3 = some v3 ∧ w'.cell? p4 = some v4 ∧ w'.cell? p5 = some v5 ∧ w'.cell? p6 = some v6 ∧ w'.cell? p7 = some v7 :=
  eight_still h hc.1 hc.2.1 hc.2.2.1 hc.2.2.2.1 hc.2.2.2.2.1 hc.2.2.2.2.2.1 hc.2.2.2.2.2.2.1 hc.2.2.2.2.2.2.2
theorem place_of {l : List R} {r : R} (h : (∀ x ∈ l, Gt x r) ∨ (∀ x ∈ l, ¬ Gt x r)) : ∃ p, Place l r p := by
  rcases h with h | h
  · exact ⟨0, .inl ⟨h, rfl⟩⟩
  · exact ⟨_, .inr ⟨h, rfl⟩⟩
set_option maxRecDepth 100000 in
set_option maxHeartbeats 2000000 in
theorem full_any (cap : Nat) (A : Option Addr) (n c : Nat) (r : R) (w : World) (hn : 64 ≤ n) (hl : n ≤ 1048576) :
    Calls Try.prog 4 #[amt cap 0, .slice none 0 0, .slice A n c, .agg r.cells.toArray] w fun e w' => ∃ B c', e = .returned (.tuple #[.slice B 0 c', .int .i64 20]) ∧ Moved w w' [] := by
  obtain ⟨x, y, hx⟩ := amt_parts cap
  obtain ⟨z, t, hz⟩ := amt_parts r.b.n
  rw [hx]
  unfold R.cells
  rw [hz]
  clear hx hz
  go_enter Try.func4, Try.ntmps4
  go_wp2
  go_ret2
  exact ⟨none, 0, rfl, (Moved.refl w []).alloc _⟩
set_option maxRecDepth 100000 in
set_option maxHeartbeats 2000000 in
theorem add_any (cap : Nat) (A : Option Addr) (n c p : Nat) (l : List R) (r : R) (w : World) (hcap : cap ≤ 2) (hn : l.length = n) (hl : n < 64) (hR : Row w A l) (hnc : n ≤ c) (hA0 : A = none → c = 0) (hb : r.b.f < r.b.t ∧ r.b.t ≤ 1099511627776 ∧ r.b.n ≤ 2)
    (hp : Place l r p) (hF : Fit cap ((l.take p ++ r :: l.drop p).map R.b)) (hx : ∀ x ∈ l, ¬ (x.a = r.a ∧ x.i = r.i ∧ x.n = r.n)) :
    Calls Try.prog 4 #[amt cap 0, .slice none 0 0, .slice A n c, .agg r.cells.toArray] w fun e w' => ∃ B c' out, e = .returned (.tuple #[.slice B (n + 1) c', .int .i64 0]) ∧ Row w' B out ∧ out.length = n + 1 ∧ (l = [] → out = [r]) ∧ Moved w w' [] := by
  obtain ⟨X, Y, hX⟩ := amt_parts cap
  obtain ⟨Z, T, hZ⟩ := amt_parts r.b.n
  have HAR : Hid (∀ W, Calls Try.prog 7 #[.complex .f64 Z T] W fun e w' => e = .returned (.bool true) ∧ W = w') := fun W => by
    rw [← hZ]; exact Am.right_any (n := r.b.n) (l := 0) (by omega) (by omega) W
  rw [hX]
  unfold R.cells
  rw [hZ]
  have HR := Lib.hid hR
  have HF := Lib.hid hF
  have HN := Lib.hid hn
  have HP := Lib.hid hp
  have HX := Lib.hid hx
  clear hR hF hn hp hx
  obtain ⟨W, hW⟩ : ∃ W, W = w.alloc (.cells #[.int .i64 r.a, .int .i64 r.i, .int .i64 r.n, .int .i64 r.b.f, .int .i64 r.b.t, .complex .f64 Z T, .bool r.sure, .int .i64 r.til] 29) := ⟨_, rfl⟩
  have HMW : Hid (Moved w W []) := by rw [hW]; exact (Moved.refl w []).alloc _
  have hb2 : W.heap[w.heap.size]? = some (.cells #[.int .i64 r.a, .int .i64 r.i, .int .i64 r.n, .int .i64 r.b.f, .int .i64 r.b.t, .complex .f64 Z T, .bool r.sure, .int .i64 r.til] 29 (0, 0)) := by
    rw [hW]; exact heap_alloc_new w _
  have HBK := Lib.hid hb2
  obtain ⟨k0, k1, k2, k3, k4, k5, k6, k7⟩ := r_cells hb2
  have hge : decide ((64 : Int) ≤ (n : Int)) = false := by simp; omega
  go_enter Try.func4, Try.ntmps4
  go_wp2_with fail
  rw [← hW]
  have HW := Lib.hid hW
  clear hW hb2
  refine (right_true _ _ _ _ _ hb.1 hb.2.1).mono ?_
  rintro e w1 ⟨rfl, hm1⟩
  obtain ⟨j0, j1, j2, j3, j4, j5, j6, j7⟩ := eight_still hm1 k0 k1 k2 k3 k4 k5 k6 k7
  have HM1 := Lib.hid hm1
  clear hm1 k0 k1 k2 k3 k4 k5 k6 k7
  go_wp2_with fail
  refine (HAR.out _).mono ?_
  rintro e w2 ⟨rfl, rfl⟩
  go_wp2_with fail
  refine (find_none A n c l r.a r.i r.n _ HN.out (by omega) (by exact (HR.out.still HMW.out).still HM1.out) HX.out).mono ?_
  rintro e w2 ⟨rfl, hm2⟩
  obtain ⟨k0, k1, k2, k3, k4, k5, k6, k7⟩ := eight_still hm2 j0 j1 j2 j3 j4 j5 j6 j7
  have HM2 := Lib.hid (((HMW.out.trans HM1.out (fun _ h => by cases h)).trans hm2 (fun _ h => by cases h)) : Moved w w2 [])
  clear hm2 j0 j1 j2 j3 j4 j5 j6 j7
  have hc : w2.drew.cell? ⟨w.heap.size, 0, none⟩ = some (.int .i64 r.a) ∧ w2.drew.cell? ⟨w.heap.size, 1, none⟩ = some (.int .i64 r.i) ∧ w2.drew.cell? ⟨w.heap.size, 2, none⟩ = some (.int .i64 r.n) ∧ w2.drew.cell? ⟨w.heap.size, 3, none⟩ = some (.int .i64 r.b.f) ∧ w2.drew.cell? ⟨w.heap.size, 4, none⟩ = some (.int .i64 r.b.t) ∧ w2.drew.cell? ⟨w.heap.size, 5, none⟩ = some (.complex .f64 Z T) ∧ w2.drew.cell? ⟨w.heap.size, 6, none⟩ = some (.bool r.sure) ∧ w2.drew.cell? ⟨w.heap.size, 7, none⟩ = some (.int .i64 r.til) := ⟨k0, k1, k2, k3, k4, k5, k6, k7⟩
  clear k0 k1 k2 k3 k4 k5 k6 k7
  have HPL : Hid (∀ W, Moved w2 W [] → Calls Try.prog 11 #[.slice A n c, .agg #[.int .i64 r.a, .int .i64 r.i, .int .i64 r.n, .int .i64 r.b.f, .int .i64 r.b.t, .complex .f64 Z T, .bool r.sure, .int .i64 r.til]] W fun e w' => e = .returned (.int .i64 p) ∧ Moved W w' []) := by
    intro W hW
    rw [← hZ]
    exact place_any A n c l r p W HN.out (by omega) ((HR.out.still HM2.out).still hW) HP.out
  have HRB : Hid (#[.int .i64 r.a, .int .i64 r.i, .int .i64 r.n, .int .i64 r.b.f, .int .i64 r.b.t, .complex .f64 Z T, .bool r.sure, .int .i64 r.til] = r.cells.toArray) := by show _ = _; rw [← hZ]; rfl
  have HLEN : Hid ((l.take p ++ r :: l.drop p).length = n + 1) := by
    have := HN.out
    have : p ≤ n := by rcases HP.out with ⟨_, h⟩ | ⟨_, h⟩ <;> omega
    show _ = _
    rw [List.length_append, List.length_take, List.length_cons, List.length_drop]
    omega
  go_wp2_with fail
  refine wp_region_held (S := fun w' => w'.cell? ⟨w.heap.size, 0, none⟩ = some (.int .i64 r.a) ∧ w'.cell? ⟨w.heap.size, 1, none⟩ = some (.int .i64 r.i) ∧ w'.cell? ⟨w.heap.size, 2, none⟩ = some (.int .i64 r.n) ∧ w'.cell? ⟨w.heap.size, 3, none⟩ = some (.int .i64 r.b.f) ∧ w'.cell? ⟨w.heap.size, 4, none⟩ = some (.int .i64 r.b.t) ∧ w'.cell? ⟨w.heap.size, 5, none⟩ = some (.complex .f64 Z T) ∧ w'.cell? ⟨w.heap.size, 6, none⟩ = some (.bool r.sure) ∧ w'.cell? ⟨w.heap.size, 7, none⟩ = some (.int .i64 r.til)) (by kernel_rfl) ?_
  change wpAnyH _ _ _ _ _ _ _ _ (World.drew _)
  refine wpAnyH_take (i := 0) (v := .slice A n c) rfl (by kernel_rfl) (by kernel_rfl) (by kernel_rfl) (fun _ _ _ h => h) (Or.inl ⟨by rfl, ?ld⟩) hc ?_
  case ld => intro w' ⟨d0, d1, d2, d3, d4, d5, d6, d7⟩; go_simp
  refine wpAnyH_take (i := 2) (v := .slice A n c) rfl (by kernel_rfl) (by kernel_rfl) (by kernel_rfl) (fun _ _ _ h => h) (Or.inl ⟨by rfl, ?ld⟩) hc ?_
  case ld => intro w' ⟨d0, d1, d2, d3, d4, d5, d6, d7⟩; go_simp
  refine wpAnyH_take (i := 3) (v := .agg #[.int .i64 r.a, .int .i64 r.i, .int .i64 r.n, .int .i64 r.b.f, .int .i64 r.b.t, .complex .f64 Z T, .bool r.sure, .int .i64 r.til]) rfl (by kernel_rfl) (by kernel_rfl) (by kernel_rfl) (fun _ _ _ h => h) (Or.inl ⟨by rfl, ?ld⟩) hc ?_
  case ld => intro w' ⟨d0, d1, d2, d3, d4, d5, d6, d7⟩; go_simp
  refine wpAnyH_take (i := 5) (v := .agg #[.int .i64 r.a, .int .i64 r.i, .int .i64 r.n, .int .i64 r.b.f, .int .i64 r.b.t, .complex .f64 Z T, .bool r.sure, .int .i64 r.til]) rfl (by kernel_rfl) (by kernel_rfl) (by kernel_rfl) (fun _ _ _ h => h) (Or.inl ⟨by rfl, ?ld⟩) hc ?_
  case ld => intro w' ⟨d0, d1, d2, d3, d4, d5, d6, d7⟩; go_simp
  have HC0 := Lib.hid hc
  have HMD : Hid (Moved w2 w2.drew []) := (Moved.refl w2 []).drew
  clear hc
  refine wpAnyH_ready (rs := [1, 6]) (by kernel_rfl) (by simp) ?_
  refine AllReadyH.cons rfl (fun K hK => ?_) (AllReadyH.cons rfl (fun K hK => ?_) AllReadyH.nil)
  · rw [if_pos (by rfl)]
    go_simp
    refine (clone_any A n c l _ HN.out (by omega) (by exact (HR.out.still HM2.out).still HMD.out) (fun h => by have := hA0 h; omega)).mono ?_
    rintro e wc ⟨v1, rfl, hO, hS⟩
    obtain ⟨B1, c1, rfl, -, hnc1, hcm1⟩ := own_shape8 hO HN.out
    have HO := Lib.hid hO
    have HLT : Hid (∀ k ∈ rowOf (.slice B1 n c1), w2.heap.size ≤ k ∧ k < wc.heap.size) := fun k hk => ⟨Nat.le_trans HMD.out.size ((hS.2 k hk).elim (fun h => by cases h) id), own_lt hO k hk⟩
    have HNW := Lib.hid (fun k hk => (hS.2 k hk).elim (fun h => by cases h) id : ∀ k ∈ rowOf (.slice B1 n c1), _ ≤ k)
    have HMC := Lib.hid (HMD.out.trans hS.1 (fun _ h => by cases h))
    have HSC := Lib.hid hS.1
    clear hO hS
    refine hK.out _ _ (eight_all HMC.out HC0.out) (fun _ => ?_)
    clear hK K
    refine wpAnyH_ready (rs := [4, 6]) (by kernel_rfl) (by simp) ?_
    refine AllReadyH.cons rfl (fun K hK => ?_) (AllReadyH.cons rfl (fun K hK => ?_) AllReadyH.nil)
    · rw [if_pos (by rfl)]
      go_simp
      refine (HPL.out _ (by exact HMC.out)).mono ?_
      rintro e wp ⟨rfl, hmp⟩
      have HMP := Lib.hid (HMC.out.trans hmp (fun _ h => by cases h))
      have HSP := Lib.hid hmp
      clear hmp
      refine hK.out _ _ (eight_all HMP.out HC0.out) (fun _ => ?_)
      clear hK K
      refine wpAnyH_ready (rs := [6]) (by kernel_rfl) (by simp) ?_
      refine AllReadyH.cons rfl (fun K hK => ?_) AllReadyH.nil
      simp only [Act.put, List.setIfInBounds_toArray]
      go_simp
      obtain ⟨wb, hwb⟩ : ∃ wb, wb = (wp.alloc (.cells #[.int .i64 r.a, .int .i64 r.i, .int .i64 r.n, .int .i64 r.b.f, .int .i64 r.b.t, .complex .f64 Z T, .bool r.sure, .int .i64 r.til] 29)) := ⟨_, rfl⟩
      rw [← hwb]
      have hmb : Moved wp wb [] := by rw [hwb]; exact ((Moved.refl wp []).alloc _)
      have hbb : wb.heap[wp.heap.size]? = some (.cells #[.int .i64 r.a, .int .i64 r.i, .int .i64 r.n, .int .i64 r.b.f, .int .i64 r.b.t, .complex .f64 Z T, .bool r.sure, .int .i64 r.til] 29 (0, 0)) := by rw [hwb]; exact heap_alloc_new wp _
      obtain ⟨vb, hvb⟩ : ∃ vb, vb = wp.heap.size := ⟨_, rfl⟩
      rw [← hvb] at hbb ⊢
      have HMB := Lib.hid (HMP.out.trans hmb (fun _ h => by cases h))
      have HSB := Lib.hid hmb
      have HBB := Lib.hid hbb
      have HVB := Lib.hid hvb
      clear hwb hbb hvb hmb
      refine hK.out _ _ (eight_all HMB.out HC0.out) (fun _ => ?_)
      clear hK K
      have HOZ := Lib.hid (own_stays HO.out (fun k hk => (HSP.out.trans HSB.out (fun _ h => by cases h)).block k (HLT.out k hk).2 (fun h => by cases h)))
      have HBZ := Lib.hid HBB.out
      have HAP : Hid (vb ∉ rowOf (.slice B1 n c1)) := fun hm => by have := (HLT.out vb hm).2; have := HVB.out; have := HSP.out.size; omega
      refine wpAnyH_ready (rs := [7]) (by kernel_rfl) (by simp) ?_
      refine AllReadyH.cons rfl (fun K hK => ?_) AllReadyH.nil
      rw [if_pos (by rfl)]
      go_simp
      refine (insert_any B1 n c1 vb p l r _ HN.out (by omega) (by exact HOZ.out) (by rw [← HRB.out]; exact HBZ.out) HAP.out HP.out).mono ?_
      rintro e wi ⟨v2, rfl, hO2, hS2⟩
      obtain ⟨B2, c2, rfl, -, hnc2, hcm2⟩ := own_shape8 hO2 HLEN.out
      have HO2 := Lib.hid hO2
      have HMI := Lib.hid (HMB.out.trans hS2.1 (fun k hk => .inr (HLT.out k hk).1))
      clear hO2 hS2
      refine hK.out _ _ (eight_all HMI.out HC0.out) (fun _ => ?_)
      clear hK K
      refine wpAnyH_ready (rs := [8]) (by kernel_rfl) (by simp) ?_
      refine AllReadyH.cons rfl (fun K hK => ?_) AllReadyH.nil
      simp only [Act.put, List.setIfInBounds_toArray]
      go_simp
      refine hK.out _ _ (eight_all HMI.out HC0.out) (fun _ => ?_)
      clear hK K
      refine wpAnyH_done (by kernel_rfl) ?_ _
      have HF2 := fit_any cap hcap B2 (n + 1) c2 _ wi HLEN.out (by omega) HO2.out.row HF.out
      rw [hX] at HF2
      have HF3 := Lib.hid HF2
      clear HF2
      go_wp2_with fail
      refine HF3.out.mono ?_
      rintro e wf ⟨rfl, hmf⟩
      have HMF := Lib.hid (HM2.out.trans (HMI.out.trans hmf (fun _ h => by cases h)) (fun _ h => by cases h))
      have HRO := Lib.hid (HO2.out.row.still hmf)
      clear hmf
      go_wp2
      go_ret2
      exact ⟨B2, c2, _, rfl, HRO.out, HLEN.out, fun h => by rw [h]; simp, HMF.out⟩
    · simp only [Act.put, List.setIfInBounds_toArray]
      go_simp
      obtain ⟨wb, hwb⟩ : ∃ wb, wb = (wc.alloc (.cells #[.int .i64 r.a, .int .i64 r.i, .int .i64 r.n, .int .i64 r.b.f, .int .i64 r.b.t, .complex .f64 Z T, .bool r.sure, .int .i64 r.til] 29)) := ⟨_, rfl⟩
      rw [← hwb]
      have hmb : Moved wc wb [] := by rw [hwb]; exact ((Moved.refl wc []).alloc _)
      have hbb : wb.heap[wc.heap.size]? = some (.cells #[.int .i64 r.a, .int .i64 r.i, .int .i64 r.n, .int .i64 r.b.f, .int .i64 r.b.t, .complex .f64 Z T, .bool r.sure, .int .i64 r.til] 29 (0, 0)) := by rw [hwb]; exact heap_alloc_new wc _
      obtain ⟨vb, hvb⟩ : ∃ vb, vb = wc.heap.size := ⟨_, rfl⟩
      rw [← hvb] at hbb ⊢
      have HMB := Lib.hid (HMC.out.trans hmb (fun _ h => by cases h))
      have HSB := Lib.hid hmb
      have HBB := Lib.hid hbb
      have HVB := Lib.hid hvb
      clear hwb hbb hvb hmb
      refine hK.out _ _ (eight_all HMB.out HC0.out) (fun _ => ?_)
      clear hK K
      refine wpAnyH_ready (rs := [4]) (by kernel_rfl) (by simp) ?_
      refine AllReadyH.cons rfl (fun K hK => ?_) AllReadyH.nil
      rw [if_pos (by rfl)]
      go_simp
      refine (HPL.out _ (by exact HMB.out)).mono ?_
      rintro e wp ⟨rfl, hmp⟩
      have HMP := Lib.hid (HMB.out.trans hmp (fun _ h => by cases h))
      have HSP := Lib.hid hmp
      clear hmp
      refine hK.out _ _ (eight_all HMP.out HC0.out) (fun _ => ?_)
      clear hK K
      have HOZ := Lib.hid (own_stays HO.out (fun k hk => (HSB.out.trans HSP.out (fun _ h => by cases h)).block k (HLT.out k hk).2 (fun h => by cases h)))
      have HBZ := Lib.hid ((HSP.out.block vb (lt_of_block HBB.out) (fun h => by cases h)).trans HBB.out)
      have HAP : Hid (vb ∉ rowOf (.slice B1 n c1)) := fun hm => by have := (HLT.out vb hm).2; have := HVB.out; omega
      refine wpAnyH_ready (rs := [7]) (by kernel_rfl) (by simp) ?_
      refine AllReadyH.cons rfl (fun K hK => ?_) AllReadyH.nil
      rw [if_pos (by rfl)]
      go_simp
      refine (insert_any B1 n c1 vb p l r _ HN.out (by omega) (by exact HOZ.out) (by rw [← HRB.out]; exact HBZ.out) HAP.out HP.out).mono ?_
      rintro e wi ⟨v2, rfl, hO2, hS2⟩
      obtain ⟨B2, c2, rfl, -, hnc2, hcm2⟩ := own_shape8 hO2 HLEN.out
      have HO2 := Lib.hid hO2
      have HMI := Lib.hid (HMP.out.trans hS2.1 (fun k hk => .inr (HLT.out k hk).1))
      clear hO2 hS2
      refine hK.out _ _ (eight_all HMI.out HC0.out) (fun _ => ?_)
      clear hK K
      refine wpAnyH_ready (rs := [8]) (by kernel_rfl) (by simp) ?_
      refine AllReadyH.cons rfl (fun K hK => ?_) AllReadyH.nil
      simp only [Act.put, List.setIfInBounds_toArray]
      go_simp
      refine hK.out _ _ (eight_all HMI.out HC0.out) (fun _ => ?_)
      clear hK K
      refine wpAnyH_done (by kernel_rfl) ?_ _
      have HF2 := fit_any cap hcap B2 (n + 1) c2 _ wi HLEN.out (by omega) HO2.out.row HF.out
      rw [hX] at HF2
      have HF3 := Lib.hid HF2
      clear HF2
      go_wp2_with fail
      refine HF3.out.mono ?_
      rintro e wf ⟨rfl, hmf⟩
      have HMF := Lib.hid (HM2.out.trans (HMI.out.trans hmf (fun _ h => by cases h)) (fun _ h => by cases h))
      have HRO := Lib.hid (HO2.out.row.still hmf)
      clear hmf
      go_wp2
      go_ret2
      exact ⟨B2, c2, _, rfl, HRO.out, HLEN.out, fun h => by rw [h]; simp, HMF.out⟩
  · have HMD0 : Hid (Moved w2 w2 []) := Moved.refl w2 []
    simp only [Act.put, List.setIfInBounds_toArray]
    go_simp
    obtain ⟨wb, hwb⟩ : ∃ wb, wb = (w2.alloc (.cells #[.int .i64 r.a, .int .i64 r.i, .int .i64 r.n, .int .i64 r.b.f, .int .i64 r.b.t, .complex .f64 Z T, .bool r.sure, .int .i64 r.til] 29)).drew := ⟨_, rfl⟩
    rw [← hwb]
    have hmb : Moved w2 wb [] := by rw [hwb]; exact ((Moved.refl w2 []).alloc _).drew
    have hbb : wb.heap[w2.heap.size]? = some (.cells #[.int .i64 r.a, .int .i64 r.i, .int .i64 r.n, .int .i64 r.b.f, .int .i64 r.b.t, .complex .f64 Z T, .bool r.sure, .int .i64 r.til] 29 (0, 0)) := by rw [hwb]; exact heap_alloc_new w2 _
    obtain ⟨vb, hvb⟩ : ∃ vb, vb = w2.heap.size := ⟨_, rfl⟩
    rw [← hvb] at hbb ⊢
    have HMB := Lib.hid (HMD0.out.trans hmb (fun _ h => by cases h))
    have HSB := Lib.hid hmb
    have HBB := Lib.hid hbb
    have HVB := Lib.hid hvb
    clear hwb hbb hvb hmb
    refine hK.out _ _ (eight_all HMB.out HC0.out) (fun _ => ?_)
    clear hK K
    refine wpAnyH_ready (rs := [1]) (by kernel_rfl) (by simp) ?_
    refine AllReadyH.cons rfl (fun K hK => ?_) AllReadyH.nil
    rw [if_pos (by rfl)]
    go_simp
    refine (clone_any A n c l _ HN.out (by omega) (by exact (HR.out.still HM2.out).still HMB.out) (fun h => by have := hA0 h; omega)).mono ?_
    rintro e wc ⟨v1, rfl, hO, hS⟩
    obtain ⟨B1, c1, rfl, -, hnc1, hcm1⟩ := own_shape8 hO HN.out
    have HO := Lib.hid hO
    have HLT : Hid (∀ k ∈ rowOf (.slice B1 n c1), w2.heap.size ≤ k ∧ k < wc.heap.size) := fun k hk => ⟨Nat.le_trans HMB.out.size ((hS.2 k hk).elim (fun h => by cases h) id), own_lt hO k hk⟩
    have HNW := Lib.hid (fun k hk => (hS.2 k hk).elim (fun h => by cases h) id : ∀ k ∈ rowOf (.slice B1 n c1), _ ≤ k)
    have HMC := Lib.hid (HMB.out.trans hS.1 (fun _ h => by cases h))
    have HSC := Lib.hid hS.1
    clear hO hS
    refine hK.out _ _ (eight_all HMC.out HC0.out) (fun _ => ?_)
    clear hK K
    refine wpAnyH_ready (rs := [4]) (by kernel_rfl) (by simp) ?_
    refine AllReadyH.cons rfl (fun K hK => ?_) AllReadyH.nil
    rw [if_pos (by rfl)]
    go_simp
    refine (HPL.out _ (by exact HMC.out)).mono ?_
    rintro e wp ⟨rfl, hmp⟩
    have HMP := Lib.hid (HMC.out.trans hmp (fun _ h => by cases h))
    have HSP := Lib.hid hmp
    clear hmp
    refine hK.out _ _ (eight_all HMP.out HC0.out) (fun _ => ?_)
    clear hK K
    have HOZ := Lib.hid (own_stays HO.out (fun k hk => HSP.out.block k (HLT.out k hk).2 (fun h => by cases h)))
    have HBZ := Lib.hid (((HSC.out.trans HSP.out (fun _ h => by cases h)).block vb (lt_of_block HBB.out) (fun h => by cases h)).trans HBB.out)
    have HAP : Hid (vb ∉ rowOf (.slice B1 n c1)) := fun hm => by have := HNW.out vb hm; have := lt_of_block HBB.out; omega
    refine wpAnyH_ready (rs := [7]) (by kernel_rfl) (by simp) ?_
    refine AllReadyH.cons rfl (fun K hK => ?_) AllReadyH.nil
    rw [if_pos (by rfl)]
    go_simp
    refine (insert_any B1 n c1 vb p l r _ HN.out (by omega) (by exact HOZ.out) (by rw [← HRB.out]; exact HBZ.out) HAP.out HP.out).mono ?_
    rintro e wi ⟨v2, rfl, hO2, hS2⟩
    obtain ⟨B2, c2, rfl, -, hnc2, hcm2⟩ := own_shape8 hO2 HLEN.out
    have HO2 := Lib.hid hO2
    have HMI := Lib.hid (HMP.out.trans hS2.1 (fun k hk => .inr (HLT.out k hk).1))
    clear hO2 hS2
    refine hK.out _ _ (eight_all HMI.out HC0.out) (fun _ => ?_)
    clear hK K
    refine wpAnyH_ready (rs := [8]) (by kernel_rfl) (by simp) ?_
    refine AllReadyH.cons rfl (fun K hK => ?_) AllReadyH.nil
    simp only [Act.put, List.setIfInBounds_toArray]
    go_simp
    refine hK.out _ _ (eight_all HMI.out HC0.out) (fun _ => ?_)
    clear hK K
    refine wpAnyH_done (by kernel_rfl) ?_ _
    have HF2 := fit_any cap hcap B2 (n + 1) c2 _ wi HLEN.out (by omega) HO2.out.row HF.out
    rw [hX] at HF2
    have HF3 := Lib.hid HF2
    clear HF2
    go_wp2_with fail
    refine HF3.out.mono ?_
    rintro e wf ⟨rfl, hmf⟩
    have HMF := Lib.hid (HM2.out.trans (HMI.out.trans hmf (fun _ h => by cases h)) (fun _ h => by cases h))
    have HRO := Lib.hid (HO2.out.row.still hmf)
    clear hmf
    go_wp2
    go_ret2
    exact ⟨B2, c2, _, rfl, HRO.out, HLEN.out, fun h => by rw [h]; simp, HMF.out⟩
theorem laws : Laws where
  add := fun cap A n c l r w hcap hn hl hR hnc _ hA0 hb hp hx _ => by
    have hbr := hb r (by simp)
    rcases hp with ⟨h, hF⟩ | ⟨h, hF⟩
    · exact add_any cap A n c 0 l r w hcap hn hl hR hnc hA0 hbr (.inl ⟨h, rfl⟩) (by simpa using hF) hx
    · exact add_any cap A n c l.length l r w hcap hn hl hR hnc hA0 hbr (.inr ⟨h, rfl⟩) (by simpa using hF) hx
  full := fun cap A n c r w hn hl => full_any cap A n c r w hn hl
end Rv
end Go.Proofs.Ytnabnoaephjceaa
