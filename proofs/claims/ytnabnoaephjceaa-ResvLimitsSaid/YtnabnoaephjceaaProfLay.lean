/-
  CONTRACT of (*profile.Profile).lay where what is asked fits.
-/
import Derived.Test.YtnabnoaephjceaaProfCheck
import Derived.Lib.MinMax
namespace Go.Proofs.Ytnabnoaephjceaa
namespace Pf
open Go.RowKit Am
attribute [local go_sem] store_cplx'
/-- What a step becomes: ahead of the span, in it, behind it. -/
def stepL (acc : List Sp) (s : Sp) (e f t n : Nat) : List Sp :=
  putL (putL (putL acc s.t (min e f) s.n) (max s.t f) (min e t) (s.n - n)) (max s.t t) e s.n
/-- What is laid behind the first k steps. -/
def layR (L : List Sp) (f t n : Nat) : Nat → List Sp
  | 0 => []
  | k + 1 => match L[k]? with
    | some s => stepL (layR L f t n k) s (endOf L k) f t n
    | none => layR L f t n k
def layL (L : List Sp) (f t n : Nat) : List Sp := layR L f t n L.length
theorem putL_len (L : List Sp) (f t n : Nat) : (putL L f t n).length ≤ L.length + 1 := by
  unfold putL
  by_cases h : t ≤ f ∨ L ≠ [] ∧ (L.getLast?.map Sp.n) = some n
  · rw [if_pos h]; omega
  · rw [if_neg h]; simp
theorem putL_small {L : List Sp} (f t : Nat) {n : Nat} (h : ∀ s ∈ L, s.n ≤ 2) (hn : n ≤ 2) : ∀ s ∈ putL L f t n, s.n ≤ 2 := by
  unfold putL
  by_cases h' : t ≤ f ∨ L ≠ [] ∧ (L.getLast?.map Sp.n) = some n
  · rw [if_pos h']; exact h
  · rw [if_neg h']
    intro s hs
    rcases List.mem_append.1 hs with hs | hs
    · exact h s hs
    · simp at hs; subst hs; exact hn
theorem stepL_len (acc : List Sp) (s : Sp) (e f t n : Nat) : (stepL acc s e f t n).length ≤ acc.length + 3 := by
  unfold stepL
  have h1 := putL_len acc s.t (min e f) s.n
  have h2 := putL_len (putL acc s.t (min e f) s.n) (max s.t f) (min e t) (s.n - n)
  have h3 := putL_len (putL (putL acc s.t (min e f) s.n) (max s.t f) (min e t) (s.n - n)) (max s.t t) e s.n
  omega
theorem layR_len (L : List Sp) (f t n : Nat) : ∀ k, (layR L f t n k).length ≤ 3 * k
  | 0 => by simp [layR]
  | k + 1 => by
    have ih := layR_len L f t n k
    unfold layR
    cases hk : L[k]? with
    | none => simp only; omega
    | some s => simp only; have := stepL_len (layR L f t n k) s (endOf L k) f t n; omega
theorem layR_small {L : List Sp} (f t n : Nat) (h : ∀ s ∈ L, s.n ≤ 2) : ∀ k, ∀ s ∈ layR L f t n k, s.n ≤ 2
  | 0, s, hs => by simp [layR] at hs
  | k + 1, s, hs => by
    have ih := layR_small f t n h k
    unfold layR at hs
    cases hk : L[k]? with
    | none => rw [hk] at hs; exact ih s hs
    | some x =>
      rw [hk] at hs
      have hx := h x (List.mem_of_getElem? hk)
      exact putL_small _ _ (putL_small _ _ (putL_small _ _ ih hx) (by omega)) hx s hs
theorem layR_at {L : List Sp} {f t n k : Nat} {s : Sp} (h : L[k]? = some s) : layR L f t n (k + 1) = stepL (layR L f t n k) s (endOf L k) f t n := by rw [layR, h]
/-- Where the span meets a step, what is asked fits. -/
theorem May.meets {cap : Nat} {L : List Sp} {f t n : Nat} (h : May cap L f t n) {k : Nat} {s : Sp} (hs : L[k]? = some s) (hm : max s.t f < min (endOf L k) t) : n ≤ s.n := by
  obtain ⟨a, b, h1, h2, h3, h4⟩ := h.places
  have hka : a ≤ k := by
    apply Classical.byContradiction
    intro hlt
    have hk1 : k + 1 < L.length := by have := h1.1; omega
    have he : endOf L k = (L[k + 1]'hk1).t := by unfold endOf; rw [List.getElem?_eq_getElem hk1]; rfl
    have := (h1.2 (k + 1) _ (List.getElem?_eq_getElem hk1)).2 (by omega)
    omega
  have hkb : k < b := (h2.2 k s hs).1 (by omega)
  exact (h4 k s hka hkb hs).1
/-- In the midst of a round: the row that is made, the step's own copy at block g, and nothing that was there in w2 has moved. -/
structure LayJ (w2 : World) (g : Nat) (o : Obj) (W : World) (v : Value) (acc : List Sp) : Prop where
  own : Own W v acc
  low : ∀ b ∈ rowOf v, w2.heap.size ≤ b ∧ b ≠ g
  moved : Moved w2 W []
  obj : W.heap[g]? = some o
theorem LayJ.drew {w2 : World} {g : Nat} {o : Obj} {W : World} {v : Value} {acc : List Sp} (h : LayJ w2 g o W v acc) : LayJ w2 g o W.drew v acc := ⟨own_stays h.own fun _ _ => rfl, h.low, h.moved.drew, h.obj⟩
theorem LayJ.step {w2 : World} {g : Nat} {o : Obj} {W W' : World} {v v' : Value} {acc acc' : List Sp} (h : LayJ w2 g o W v acc) (hO : Own W' v' acc') (hS : Step W W' (rowOf v) (rowOf v')) : LayJ w2 g o W' v' acc' := by
  have hg := lt_of_block h.obj
  have hs := h.moved.size
  refine ⟨hO, fun b hb => ?_, h.moved.trans hS.1 (fun b hb => .inr (h.low b hb).1), (hS.1.block g hg (fun hm => (h.low g hm).2 rfl)).trans h.obj⟩
  rcases hS.2 b hb with h' | h'
  · exact h.low b h'
  · exact ⟨by omega, by omega⟩
theorem LayJ.begin {w2 W : World} {v : Value} {acc : List Sp} (cs : Array Value) (e : TypeId) (hO : Own W v acc) (hv : ∀ b ∈ rowOf v, w2.heap.size ≤ b) (hM : Moved w2 W []) : LayJ w2 W.heap.size (.cells cs e (0, 0)) (W.alloc (.cells cs e)) v acc :=
  ⟨own_stays hO (fun k hk => Below.heap_alloc W _ k (own_lt hO k hk)), fun b hb => ⟨hv b hb, by have := own_lt hO b hb; omega⟩, hM.alloc _, heap_alloc_new W _⟩
theorem LayJ.cells {w2 : World} {g : Nat} {x y : Value} {e : TypeId} {W : World} {v : Value} {acc : List Sp} (h : LayJ w2 g (.cells #[x, y] e (0, 0)) W v acc) {p q : Addr} {u z : Value} (hp : w2.cell? p = some u) (hq : w2.cell? q = some z) :
    W.cell? ⟨g, 0, none⟩ = some x ∧ W.cell? ⟨g, 1, none⟩ = some y ∧ W.cell? p = some u ∧ W.cell? q = some z :=
  ⟨cell_at h.obj 0 rfl, cell_at h.obj 1 rfl, (two_still h.moved hp hq).1, (two_still h.moved hp hq).2⟩
set_option maxRecDepth 100000 in
set_option maxHeartbeats 2000000 in
theorem lay_any (p cap : Nat) (L : List Sp) (f t n bc : Nat) (w : World) (hP : PAt w p cap L) (hl : L.length ≤ 100000) (hM : May cap (view cap L) f t n) (hb : w.cell? ⟨bc, 0, none⟩ = some (amt n 0)) :
    Calls Try.prog 34 #[.pointer (some ⟨p, 0, none⟩), .agg #[.int .i64 f, .int .i64 t, amt n 0], .func (.func 44) #[] #[.pointer (some ⟨bc, 0, none⟩)]] w fun e w' => e = .returned (.int .i64 0) ∧ PAt w' p cap (layL (view cap L) f t n) ∧ Moved w w' [p] := by
  obtain ⟨i0, hi, hz0, hz1, hz2⟩ := info_parts step_info
  have hlv := view_len cap L (by omega)
  have hlv : (view cap L).length ≤ 100001 := by
    unfold view
    by_cases hL : L = []
    · rw [if_pos hL]; simp
    · rw [if_neg hL]; omega
  obtain ⟨hft, ht⟩ := hM.span
  obtain ⟨hn, hcap, hsm⟩ := hM.small
  obtain ⟨x, y, hx⟩ := amt_parts n
  have HP := Lib.hid hP
  have HB := Lib.hid hb
  have HX := Lib.hid hx
  have HMAY := Lib.hid hM
  have HSM := Lib.hid hsm
  have HL := Lib.hid hl
  have HLV := Lib.hid hlv
  rw [hx]
  clear hP hb hx hsm hM hlv hl
  go_enter Try.func34, Try.ntmps34
  go_wp2_with fail
  rw [← HX.out]
  refine (check_any p cap L f t n bc _ (by exact HP.out.still ((Moved.refl w []).alloc _)) (by have := HL.out; omega) HMAY.out (by exact one_still ((Moved.refl w []).alloc _) HB.out)).mono ?_
  rw [HX.out]
  rintro e w1 ⟨rfl, hM1⟩
  have hM1' : Moved w w1 [] := ((Moved.refl w []).alloc _).trans hM1 (fun _ h => by cases h)
  obtain ⟨b1, b2⟩ := two_still hM1 (p := ⟨w.heap.size, 0, none⟩) (u := .int .i64 f) (q := ⟨w.heap.size, 1, none⟩) (v := .int .i64 t) (by rw [cell_of_row _ _ _ _ _ _ (heap_alloc_new w _)]; rfl) (by rw [cell_of_row _ _ _ _ _ _ (heap_alloc_new w _)]; rfl)
  have HM1 := Lib.hid hM1'
  clear hM1 hM1'
  go_wp2_with fail
  refine (look_any p cap L _ (by exact HP.out.still HM1.out) (by have := HL.out; omega)).mono ?_
  rintro e w2 ⟨⟨v, rfl, A, c, rfl, hS, hlc, hcm, hA0⟩, hM2⟩
  obtain ⟨b1, b2⟩ := two_still hM2 b1 b2
  have HM2 := Lib.hid (HM1.out.trans hM2 (fun _ h => by cases h) : Moved w w2 [])
  obtain ⟨V, hV⟩ : ∃ V, V = view cap L := ⟨_, rfl⟩
  rw [← hV] at hS hlc HSM HLV HMAY ⊢
  obtain ⟨N, hN⟩ : ∃ N, N = V.length := ⟨_, rfl⟩
  have hlv := HLV.out
  rw [← hN] at hlc hlv ⊢
  have HS := Lib.hid hS
  have HN := Lib.hid hN
  have HV := Lib.hid hV
  have HBX := Lib.hid (And.intro b1 b2)
  clear hS hM2 hV hN HM1
  go_wp2_with (first
    | refine wpList_make_own w2 rfl _ _ 61 rfl w2.heap.size 81 i0 _ 2 Try.underlying61 hi hz0 hz1 .i64 .i64 _ (N + 2) rfl rfl (by omega) (by rw [hz2]; omega) (by unfold maxLen; omega) (Nat.le_refl _) ?_)
  intro w3 ho hg
  have hM3 : Moved w2 w3 [] := (Moved.refl w2 []).grown hg (fun k h => by cases h)
  clear b1 b2
  have HO := Lib.hid (ownsRow_zero ho)
  have HG : Hid (∀ b ∈ rowOf (.slice (some ⟨w2.heap.size, 0, none⟩) 0 (N + 2)), w2.heap.size ≤ b) := fun b hb => (ho.lt b (mem_rowOf.1 hb)).1
  have HM3 := Lib.hid hM3
  clear ho hg hM3 hi hz0 hz1 hz2
  go_wp2
  go_loopw [9, 28] (fun v i wr => ∃ k : Nat, i = .int .i64 k ∧ k ≤ N ∧ Hid (Own wr v (layR V f t n k)) ∧ Hid (∀ b ∈ rowOf v, w2.heap.size ≤ b) ∧ Hid (Moved w2 wr [])) (fun _ i _ => N - (intOf i).toNat)
  case atStart => exact ⟨0, rfl, by omega, HO.out, HG.out, HM3.out⟩
  case round =>
    obtain ⟨k, rfl, hk, HOR, HGR, HMR⟩ := hrel
    by_cases hlt : k < N
    · obtain ⟨s, hs⟩ : ∃ s, V[k]? = some s := ⟨V[k]'(by have := HN.out; omega), List.getElem?_eq_getElem _⟩
      obtain ⟨B, O, rfl, c1, c2⟩ := (HS.out.still HMR.out) k s hs
      have hsn := HSM.out s (List.mem_of_getElem? hs)
      obtain ⟨x1, y1, hx1⟩ := amt_parts s.n
      obtain ⟨e, he⟩ : ∃ e, e = endOf V k := ⟨_, rfl⟩
      obtain ⟨T, hT⟩ : ∃ T, T = s.t := ⟨_, rfl⟩
      rw [← hT] at c1
      rw [hx1] at c2
      have HE : Hid (∀ W', Moved w2 W' [] → Calls Try.prog 42 #[.slice (some ⟨B, O, none⟩) N c, .int .i64 k] W' fun r w' => r = .returned (.int .i64 e) ∧ W' = w') := by
        intro W' hW
        rw [he]
        exact end_any _ N c V k W' HN.out.symm (by omega) hlt (HS.out.still hW)
      obtain ⟨d1, d2⟩ := two_still HMR.out HBX.out.1 HBX.out.2
      have hbl : w.heap.size < wr.heap.size := World.block_lt_of_cell? wr _ d1
      have hJ := LayJ.begin #[.int .i64 T, .complex .f64 x1 y1] 81 HOR.out HGR.out HMR.out
      have HSE := Lib.hid hs
      have HXE := Lib.hid hx1
      have HEE := Lib.hid he
      have HTE := Lib.hid hT
      have HSN := Lib.hid hsn
      have HJ := Lib.hid hJ
      obtain ⟨A1, hA1⟩ : ∃ A1, A1 = layR V f t n k := ⟨_, rfl⟩
      have hAl : A1.length ≤ 300003 := by rw [hA1]; have := layR_len V f t n k; omega
      have hAs : ∀ s ∈ A1, s.n ≤ 2 := by rw [hA1]; exact layR_small f t n HSM.out k
      rw [← hA1] at HJ
      have HA := Lib.hid hA1
      have HAS := Lib.hid hAs
      obtain ⟨A2, hA2⟩ : ∃ A2, A2 = putL A1 T (min e f) s.n := ⟨_, rfl⟩
      obtain ⟨A3, hA3⟩ : ∃ A3, A3 = putL A2 (max T f) (min e t) (s.n - n) := ⟨_, rfl⟩
      have hl2 : A2.length ≤ 300004 := by rw [hA2]; have := putL_len A1 T (min e f) s.n; omega
      have hl3 : A3.length ≤ 300005 := by rw [hA3]; have := putL_len A2 (max T f) (min e t) (s.n - n); omega
      have HS2 := Lib.hid (show ∀ s ∈ A2, s.n ≤ 2 by rw [hA2]; exact putL_small _ _ hAs hsn)
      have HS3 := Lib.hid (show ∀ s ∈ A3, s.n ≤ 2 by rw [hA3]; exact putL_small _ _ HS2.out (by omega))
      have HA2 := Lib.hid hA2
      have HA3 := Lib.hid hA3
      have HMEET := Lib.hid (show max T f < min e t → n ≤ s.n by rw [hT, he]; exact HMAY.out.meets hs)
      have HCG : Hid (∀ W', Moved w2 W' [] → Calls Try.prog 44 #[.complex .f64 x1 y1, .pointer (some ⟨bc, 0, none⟩)] W' fun e w' => ∃ z t, e = .returned (.complex .f64 z t) ∧ W' = w' ∧ (n ≤ s.n → amt (s.n - n : Nat) 0 = .complex .f64 z t)) := by
        intro W' hW
        rw [← hx1]
        exact change_any bc n s.n W' (one_still (HM2.out.trans hW (fun _ h => by cases h)) HB.out) hsn hn
      clear hs hx1 he hT hsn hJ hA1 hAs hA2 hA3
      go_wp2_with fail
      refine (HE.out _ (by exact HMR.out.alloc _)).mono ?_
      rintro r w4 ⟨rfl, rfl⟩
      go_wp2_with fail
      rw [show min (e : Int) (f : Int) = ((min e f : Nat) : Int) by omega]
      refine (put_any A1 T (min e f) s.n _ _ _ (by exact HJ.out.own) (by omega) HSN.out HAS.out ⟨x1, y1, rfl⟩ (fun _ => HXE.out.symm)).mono ?_
      rintro r w5 ⟨v1, rfl, hO1, hS1⟩
      rw [← HA2.out] at hO1
      have HJ1 := Lib.hid (HJ.out.step hO1 hS1)
      obtain ⟨q1, q2, q3, q4⟩ := HJ1.out.drew.cells HBX.out.1 HBX.out.2
      clear hO1 hS1
      go_wp2_with fail
      go_region_held3 (fun w' => w'.cell? ⟨wr.heap.size, 0, none⟩ = some (.int .i64 T) ∧ w'.cell? ⟨wr.heap.size, 1, none⟩ = some (.complex .f64 x1 y1) ∧ w'.cell? ⟨w.heap.size, 0, none⟩ = some (.int .i64 f) ∧ w'.cell? ⟨w.heap.size, 1, none⟩ = some (.int .i64 t)) (first | exact HJ2.out.cells HBX.out.1 HBX.out.2 | exact HJ1.out.drew.cells HBX.out.1 HBX.out.2 | go_keep) (first
        | (go_at_call 43; rw [show max (T : Int) (f : Int) = ((max T f : Nat) : Int) by omega, show min (e : Int) (t : Int) = ((min e t : Nat) : Int) by omega]; (with_reducible refine (put_any A2 (max T f) (min e t) (s.n - n) _ _ _ (by exact HJ1.out.drew.own) (by omega) (by have := HSN.out; omega) HS2.out ⟨z, zt, rfl⟩ (fun h => (HCH.out (HMEET.out h)).symm)).mono ?_); rintro r w7 ⟨v2, rfl, hO2, hS2⟩; rw [← HA3.out] at hO2; have HJ2 := Lib.hid (HJ1.out.drew.step hO2 hS2); clear hO2 hS2)
        | (go_at_call 44; (with_reducible refine (HCG.out _ (by exact HJ1.out.drew.moved)).mono ?_); rintro r w6 ⟨z, zt, rfl, rfl, hch⟩; have HCH := Lib.hid hch; clear hch))
      all_goals
        obtain ⟨q1, q2, q3, q4⟩ := HJ2.out.cells HBX.out.1 HBX.out.2
        go_wp2_with fail
        rw [show max (T : Int) (t : Int) = ((max T t : Nat) : Int) by omega]
        refine (put_any A3 (max T t) e s.n _ _ _ (by exact HJ2.out.own) (by omega) HSN.out HS3.out ⟨x1, y1, rfl⟩ (fun _ => HXE.out.symm)).mono ?_
        rintro r w8 ⟨v3, rfl, hO3, hS3⟩
        have HJ3 := Lib.hid (HJ2.out.step hO3 hS3)
        clear hO3 hS3
        go_wp2
        go_round
        case rel => exact ⟨k + 1, by go_num, by omega, by rw [layR_at HSE.out, ← HA.out, stepL, ← HTE.out, ← HEE.out, ← HA2.out, ← HA3.out]; exact HJ3.out.own, fun b hb => (HJ3.out.low b hb).1, HJ3.out.moved⟩
        case measure => simp [intOf]; omega
    · obtain rfl : k = N := by omega
      have hMW := HM2.out.trans HMR.out (fun _ h => by cases h)
      obtain ⟨A2, c2, hp1, hp2, hp3⟩ := HP.out.still hMW
      obtain ⟨x3, y3, hx3⟩ := amt_parts cap
      rw [hx3] at hp1
      have p1 := cell_at hp1 1 rfl
      have p2 := free_at hp1 1
      have HPB := Lib.hid hp1
      have HMW := Lib.hid hMW
      have HLAY : Hid (layR V f t n k = layL (view cap L) f t n) := by show _ = _; rw [← HV.out, layL, HN.out]
      obtain ⟨A9, c9, rfl, hn9, hl9, hc9⟩ := own_shape2 HOR.out
      clear hp1 hp2 hp3 hMW
      go_wp2
      go_ret
      have hpw : p < w.heap.size := HP.out.lt
      have hstay : ∀ b ∈ rowOf (.slice A9 (layR V f t n k).length c9), (wr.setCell ⟨p, 1, none⟩ (.slice A9 (layR V f t n k).length c9)).heap[b]? = wr.heap[b]? := fun b hb =>
        Below.heap_setCell _ _ _ _ (by have := HGR.out b hb; have := HM2.out.size; show b ≠ p; omega)
      have hrow := own_stays HOR.out hstay
      rw [← HLAY.out]
      refine ⟨rfl, ⟨A9, c9, ?_, Own.srow hrow, hl9, hc9, hn9⟩, (HMW.out.mono (fun _ h => by cases h)).setCell (.inl (by simp)) _⟩
      rw [hx3, heap_setCell_same wr p 1 _ _ _ HPB.out]
      rfl
end Pf
end Go.Proofs.Ytnabnoaephjceaa
