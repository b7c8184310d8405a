/-
  CONTRACT of (*profile.Profile).check where what is asked fits.
-/
import Derived.Test.YtnabnoaephjceaaProfPut
import Derived.Test.YtnabnoaephjceaaTickRight
import Derived.Deep.RegionHeld3
namespace Go.Proofs.Ytnabnoaephjceaa
namespace Pf
open Go.RowKit Am
/-- From the tick f to t, n nodes fit into what is free, and what is then free into cap. -/
structure May (cap : Nat) (L : List Sp) (f t n : Nat) : Prop where
  span : f < t ∧ t ≤ 1099511627776
  small : n ≤ 2 ∧ cap ≤ 2 ∧ ∀ s ∈ L, s.n ≤ 2
  places : ∃ a b, Upto L f (a + 1) ∧ Upto L (t - 1) b ∧ a ≤ b ∧ ∀ i s, a ≤ i → i < b → L[i]? = some s → n ≤ s.n ∧ s.n - n ≤ cap
theorem two_still {w w' : World} (h : Moved w w' []) {p q : Addr} {u v : Value} (hp : w.cell? p = some u) (hq : w.cell? q = some v) : w'.cell? p = some u ∧ w'.cell? q = some v :=
  ⟨(cell_still h p (World.block_lt_of_cell? w _ hp)).trans hp, (cell_still h q (World.block_lt_of_cell? w _ hq)).trans hq⟩
theorem one_still {w w' : World} (h : Moved w w' []) {p : Addr} {u : Value} (hp : w.cell? p = some u) : w'.cell? p = some u := (cell_still h p (World.block_lt_of_cell? w _ hp)).trans hp
theorem store_cplx' (P : Program) (w : World) (p : Addr) (md : Mode) (k : FloatKind) (re im : Nat) : (store p (.complex k re im) md).run P w = stored P w p (.complex k re im) md := run_store P w p _ md rfl
attribute [local go_sem] store_cplx'
theorem view_len (cap : Nat) (L : List Sp) (h : L.length ≤ 300000) : (view cap L).length ≤ 300001 := by
  unfold view
  by_cases hL : L = []
  · rw [if_pos hL]; simp
  · rw [if_neg hL]; omega
set_option maxRecDepth 100000 in
set_option maxHeartbeats 2000000 in
theorem check_any (p cap : Nat) (L : List Sp) (f t n bc : Nat) (w : World) (hP : PAt w p cap L) (hl : L.length ≤ 300000) (hM : May cap (view cap L) f t n) (hb : w.cell? ⟨bc, 0, none⟩ = some (amt n 0)) :
    Calls Try.prog 40 #[.pointer (some ⟨p, 0, none⟩), .agg #[.int .i64 f, .int .i64 t, amt n 0], .func (.func 44) #[] #[.pointer (some ⟨bc, 0, none⟩)]] w fun e w' => e = .returned (.int .i64 0) ∧ Moved w w' [] := by
  obtain ⟨hft, ht⟩ := hM.span
  obtain ⟨hn, hcap, hsm⟩ := hM.small
  obtain ⟨a, b, hua, hub, hab, hfits⟩ := hM.places
  have hlv := view_len cap L hl
  obtain ⟨x, y, hx⟩ := amt_parts n
  have HP := Lib.hid hP
  have HB := Lib.hid hb
  have HX := Lib.hid hx
  have HUA := Lib.hid hua
  have HUB := Lib.hid hub
  have HF := Lib.hid hfits
  have HSM := Lib.hid hsm
  have hr1 : Tk.rB f = true := Tk.rB_yes (by omega) (by omega)
  have hr2 : Tk.rB t = true := Tk.rB_yes (by omega) (by omega)
  have HR1 := Lib.hid hr1
  have HR2 := Lib.hid hr2
  have HRA := Lib.hid (fun w => right_any (n := n) (l := 0) (by omega) (by decide) w)
  have HL := Lib.hid hl
  have HLV := Lib.hid hlv
  rw [hx]
  clear hP hb hx hua hub hfits hsm hr1 hr2 hM hlv hl
  go_enter Try.func40, Try.ntmps40
  go_wp2_with fail
  refine (Tk.right_any _ _).mono ?_
  rw [HR1.out]
  rintro e w1 ⟨rfl, rfl⟩
  go_wp2_with fail
  refine (Tk.right_any _ _).mono ?_
  rw [HR2.out]
  rintro e w1 ⟨rfl, rfl⟩
  go_wp2_with fail
  rw [← HX.out]
  refine (HRA.out _).mono ?_
  rw [HX.out]
  rintro e w1 ⟨rfl, rfl⟩
  go_wp2_with fail
  refine (look_any p cap L _ (by exact HP.out.still ((Moved.refl w []).alloc _)) (by have := HL.out; omega)).mono ?_
  rintro e w1 ⟨⟨v, rfl, A, c, rfl, hS, hlc, hcm, hA0⟩, hM1⟩
  have hM1' : Moved w w1 [] := ((Moved.refl w []).alloc _).trans hM1 (fun _ h => by cases h)
  have b1 := one_still hM1 (p := ⟨w.heap.size, 0, none⟩) (u := .int .i64 f) (by rw [cell_of_row _ _ _ _ _ _ (heap_alloc_new w _)]; rfl)
  have b2 := one_still hM1 (p := ⟨w.heap.size, 1, none⟩) (u := .int .i64 t) (by rw [cell_of_row _ _ _ _ _ _ (heap_alloc_new w _)]; rfl)
  obtain ⟨V, hV⟩ : ∃ V, V = view cap L := ⟨_, rfl⟩
  rw [← hV] at hS hlc HUA HUB HF HSM HLV ⊢
  obtain ⟨N, hN⟩ : ∃ N, N = V.length := ⟨_, rfl⟩
  have hlv := HLV.out
  have haN : a + 1 ≤ N := hN ▸ HUA.out.1
  have hbN : b ≤ N := hN ▸ HUB.out.1
  obtain ⟨s0, hs0⟩ : ∃ s, V[a]? = some s := ⟨V[a]'(by omega), List.getElem?_eq_getElem _⟩
  have hab1 : a < b := (HUB.out.2 a s0 hs0).1 (by have := (HUA.out.2 a s0 hs0).2 (by omega); omega)
  obtain ⟨B, O, rfl, -⟩ := hS a s0 hs0
  rw [← hN] at hlc hlv ⊢
  obtain ⟨q, rfl⟩ : ∃ q, b = q + 1 := ⟨b - 1, by omega⟩
  have HPL1 : Hid (∀ W', Moved w1 W' [] → Calls Try.prog 45 #[.slice (some ⟨B, O, none⟩) N c, .int .i64 f] W' fun e w' => e = .returned (.int .i64 (a : Nat)) ∧ Moved w1 w' []) := by
    intro W' hW
    refine (place_any _ N c V f (a + 1) W' hN.symm (by omega) HUA.out (hS.still hW)).mono ?_
    rintro e w' ⟨rfl, hm⟩
    exact ⟨by rw [show ((a + 1 : Nat) : Int) - 1 = (a : Nat) by omega], hW.trans hm (fun _ h => by cases h)⟩
  have HPL2 : Hid (∀ W', Moved w1 W' [] → Calls Try.prog 45 #[.slice (some ⟨B, O, none⟩) N c, .int .i64 (IntKind.i64.wrap ((t : Int) - 1))] W' fun e w' => e = .returned (.int .i64 (q : Nat)) ∧ Moved w1 w' []) := by
    intro W' hW
    rw [IntWalk.i64_in _ (by omega), show (t : Int) - 1 = ((t - 1 : Nat) : Int) by omega]
    refine (place_any _ N c V (t - 1) (q + 1) W' hN.symm (by omega) HUB.out (hS.still hW)).mono ?_
    rintro e w' ⟨rfl, hm⟩
    exact ⟨by rw [show ((q + 1 : Nat) : Int) - 1 = (q : Nat) by omega], hW.trans hm (fun _ h => by cases h)⟩
  have HS := Lib.hid hS
  have HM1 := Lib.hid hM1'
  have HN := Lib.hid hN
  have hac : a < c := by omega
  obtain ⟨u, hu⟩ : ∃ u, u = q + 1 := ⟨_, rfl⟩
  have eq1 : IntKind.i64.wrap ((q : Int) + 1) = (u : Int) := by rw [IntWalk.i64_in _ (by omega)]; omega
  have k1 : (0 : Int) ≤ (a : Int) := by omega
  have k2 : (a : Int) ≤ (u : Int) := by omega
  have k3 : (u : Int) ≤ (c : Int) := by omega
  have k4 : (0 : Int) ≤ (u : Int) := by omega
  have k5 : a < u := by omega
  have k6 : u ≤ N := by omega
  have k7 : u ≤ c := by omega
  have HU := Lib.hid hu
  clear hS hM1 hM1' hV hN hs0 hu hbN hab hab1
  go_wp2_with fail
  go_region_held3 (fun w' => w'.cell? ⟨w.heap.size, 0, none⟩ = some (.int .i64 f) ∧ w'.cell? ⟨w.heap.size, 1, none⟩ = some (.int .i64 t)) (first | go_keep | exact two_still HM2.out b1 b2 | exact two_still HM3.out b1 b2) (first
    | (go_at_call 45; (with_reducible refine (HPL1.out _ (by first | exact HM3.out | exact (Moved.refl w1 []).drew)).mono ?_); rintro e w2 ⟨rfl, hM2⟩; have HM2 := Lib.hid hM2; clear hM2)
    | (go_at_call 45; (with_reducible refine (HPL2.out _ (by first | exact HM2.out | exact (Moved.refl w1 []).drew)).mono ?_); rintro e w3 ⟨rfl, hM3⟩; have HM3 := Lib.hid hM3; clear hM3))
  have hca : ¬ (c = a) := by omega
  simp only [if_neg hca]
  obtain ⟨m, hm⟩ : ∃ m, m = u - a := ⟨_, rfl⟩
  rw [← hm]
  have HMW := Lib.hid HM3.out
  have HM := Lib.hid hm
  have hmc : m ≤ c := by omega
  clear hm eq1 k1 k2 k3 k4 hca b1 b2 HPL1 HPL2
  go_wp2
  go_loopw [46] (fun i wr => ∃ k : Nat, i = .int .i64 k ∧ k ≤ m ∧ Hid (Moved w1 wr [])) (fun i _ => m - (intOf i).toNat)
  case atStart => exact ⟨0, rfl, by omega, HMW.out⟩
  case round =>
    obtain ⟨k, rfl, hk, HMR⟩ := hrel
    by_cases hlt : k < m
    · obtain ⟨s, hs⟩ : ∃ s, V[a + k]? = some s := ⟨V[a + k]'(by have := HM.out; have := HN.out; omega), List.getElem?_eq_getElem _⟩
      obtain ⟨B', O', e1, c1, c2⟩ := (HS.out.still HMR.out) (a + k) s hs
      injection e1 with e1
      injection e1 with e1 e2
      subst e1 e2
      rw [show O + (a + k) * 2 = O + a * 2 + k * 2 by omega] at c1 c2
      have hsn := HSM.out s (List.mem_of_getElem? hs)
      obtain ⟨hf1, hf2⟩ := HF.out (a + k) s (by omega) (by have := HM.out; have := HU.out; omega) hs
      obtain ⟨x1, y1, hx1⟩ := amt_parts s.n
      obtain ⟨T, hT⟩ : ∃ T : Int, T = s.t := ⟨_, rfl⟩
      rw [← hT] at c1
      rw [hx1] at c2
      have HCH : Hid (∀ W', Moved w1 W' [] → Calls Try.prog 44 #[.complex .f64 x1 y1, .pointer (some ⟨bc, 0, none⟩)] W' fun e w' => e = .returned (amt (s.n - n : Nat) 0) ∧ W' = w') := by
        intro W' hW
        rw [← hx1]
        refine (change_any bc n s.n W' (one_still (HM1.out.trans hW (fun _ h => by cases h)) HB.out) hsn hn).mono ?_
        rintro e w' ⟨z, t, rfl, rfl, h⟩
        exact ⟨by rw [h hf1], rfl⟩
      have HFI := Lib.hid (fun w => fits_any (s.n - n) cap w hcap hf2)
      obtain ⟨x2, y2, hx2⟩ := amt_parts (s.n - n : Nat)
      obtain ⟨x3, y3, hx3⟩ := amt_parts cap
      rw [hx2] at HCH HFI
      rw [hx3] at HFI
      have hP := HP.out.still (HM1.out.trans HMR.out (fun _ h => by cases h))
      obtain ⟨A2, c2', hp1, -⟩ := hP
      rw [hx3] at hp1
      have p0 := cell_at hp1 0 rfl
      simp only [List.getElem_toArray, List.getElem_cons_zero] at p0
      clear hs hT hx1 hx2 hx3 hsn hf1 hf2 hp1
      have hplt : p < wr.heap.size := World.block_lt_of_cell? wr _ p0
      go_wp2
      go_region_held3 (fun w' => w'.cell? ⟨wr.heap.size, 1, none⟩ = some (.complex .f64 x1 y1) ∧ w'.cell? ⟨p, 0, none⟩ = some (.complex .f64 x3 y3)) (go_keep) (first
        | (go_at_call 46; (with_reducible refine (HFI.out _).mono ?_); rintro e w5 ⟨rfl, rfl⟩)
        | (go_at_call 44; (with_reducible refine (HCH.out _ (by exact (HMR.out.alloc _).drew)).mono ?_); rintro e w4 ⟨rfl, rfl⟩))
      go_wp2
      go_round
      case rel => exact ⟨k + 1, by go_num, by omega, (HMR.out.alloc _).drew⟩
      case measure => simp [intOf]; omega
    · obtain rfl : k = m := by omega
      go_wp2
      go_ret
      exact ⟨rfl, HM1.out.trans HMR.out (fun _ h => by cases h)⟩
end Pf
end Go.Proofs.Ytnabnoaephjceaa
