/-
  THE WALK of the statement FrameScans, from what it asks of package frame.
-/
import Derived.Test.YtpcmkjmkaggfbaaDoorFrameFirsts
namespace Go.Proofs.YtpcmkjmkaggfbaaDoor
namespace Fr
open Go.RowKit
theorem partsOf_take {vs : List Value} {k : Nat} {u : Value} (h : vs[k]? = some u) : partsOf (vs.take (k + 1)) = partsOf (vs.take k) ++ rowOf u := by
  have h2 : vs.take (k + 1) = vs.take k ++ [u] := by rw [List.take_add_one, h]; rfl
  rw [h2]; simp [partsOf]
theorem partsOf_part {vs : List Value} {k b : Nat} (h : b ∈ partsOf (vs.take k)) : b ∈ partsOf vs := by
  obtain ⟨i, u, hi, hb⟩ := mem_partsOf.1 h
  rw [List.getElem?_take] at hi
  split at hi
  · exact mem_partsOf.2 ⟨i, u, hi, hb⟩
  · cases hi
theorem scan_parts : ∀ (n : Nat) (xs : List Int), xs.length ≤ n → ∀ p ∈ (scanOf xs).1, p.length ≤ xs.length := by
  intro n
  induction n with
  | zero =>
    intro xs hl p hp
    have : firstOf xs = none := by rw [firstOf, if_pos (by omega)]
    rw [scan_none this] at hp
    cases hp
  | succ n ih =>
    intro xs hl p hp
    cases hf : firstOf xs with
    | none => rw [scan_none hf] at hp; cases hp
    | some q =>
      rw [scan_some hf] at hp
      have hq := first_len hf
      rcases List.mem_cons.1 hp with rfl | hp
      · omega
      · have h1 := ih (xs.drop (8 + q.length)) (by simp; omega) p hp
        simp only [List.length_drop] at h1
        omega
set_option maxRecDepth 100000 in
set_option maxHeartbeats 3000000 in
theorem scans_any (F : FLaws) (A : Option Addr) (c : Nat) (xs : List Int) (w : World) (hA : NRow .u8 w A xs) (hb : ByteList xs) (hnil : A = none → c = 0) (hl0 : xs.length ≤ 9223372036854775807) (hc : xs.length ≤ c) (hc2 : c ≤ 9223372036854775807) (hld : Ld w) :
    Calls Tryd.prog 5 #[.slice A xs.length c] w fun e w' => e = .returned (.bool true) ∧ Below w.heap.size w w' := by
  by_cases hbig : 262144 < xs.length
  · go_enter Tryd.func5, Tryd.ntmps5
    go_wp2
    go_ret
    exact ⟨rfl, Below.refl _ _⟩
  have HLD := Lib.hid hld
  have HA := Lib.hid hA
  have HB := Lib.hid hb
  have HNIL := Lib.hid hnil
  clear hld hA hb hnil
  obtain ⟨ps, hps⟩ : ∃ ps, ps = (scanOf xs).1 := ⟨_, rfl⟩
  obtain ⟨pn, hpn⟩ : ∃ pn, pn = (scanOf xs).2 := ⟨_, rfl⟩
  have HPB := Lib.hid (show ∀ p ∈ ps, ByteList p by rw [hps]; exact scan_bytes _ xs (Nat.le_refl _) HB.out)
  have HPP := Lib.hid (show ∀ p ∈ ps, p.length ≤ xs.length by rw [hps]; exact scan_parts _ xs (Nat.le_refl _))
  have hpl : ps.length ≤ xs.length := by rw [hps]; exact (scan_small _ xs (Nat.le_refl _)).1
  have HPS := Lib.hid hps
  have HPN := Lib.hid hpn
  clear hps hpn
  go_enter Tryd.func5, Tryd.ntmps5
  go_wp2_with fail
  refine (twin_any A _ c xs w HA.out rfl HNIL.out (by omega)).mono ?_
  rintro e w1 ⟨vi, rfl, hO1, hS1⟩
  obtain ⟨Bi, di, rfl, hni, hdi, hdi2⟩ := own_shape hO1
  have HO1 := Lib.hid hO1
  have HS1 := Lib.hid hS1
  have HNI := Lib.hid hni
  clear hO1 hS1 hni
  go_wp2_with fail
  refine (F.scan Bi _ di xs w1 (NRow.of_own HO1.out) rfl HB.out HNI.out hdi hdi2 (by omega) (HLD.out.moved HS1.out.1)).mono ?_
  rw [← HPS.out, ← HPN.out]
  rintro e w2 ⟨vl, fl, rfl, hO2, hS2⟩
  have HO2 := Lib.hid hO2
  obtain ⟨us, hfl, hr2, hul, he2, ha2, hd2⟩ := hO2
  obtain ⟨Al, cl, rfl, -, hcl1, hcl2⟩ := own_shape hr2
  have HS2 := Lib.hid hS2
  have HM2 := Lib.hid (HS1.out.1.trans hS2.1 (fun _ h => by cases h))
  have HA2 := Lib.hid (nrowx_moved HA.out HM2.out (fun _ _ h => by cases h))
  have HR2 := Lib.hid hr2
  have HFL := Lib.hid hfl
  have HUL := Lib.hid hul
  have HE2 := Lib.hid he2
  have HAA := Lib.hid ha2
  have HDD := Lib.hid hd2
  clear hS2 hr2 hfl hul he2 ha2 hd2
  go_wp2_with fail
  refine (refscan_any A _ c xs w2 HA2.out rfl HB.out HNIL.out hc hc2 (by omega)).mono ?_
  rw [← HPS.out, ← HPN.out]
  rintro e w3 ⟨vw, fw, rfl, hO3, hS3⟩
  obtain ⟨Aw, cw, uw, rfl, -, -, hcw1, hcw2, -⟩ := hO3.reads
  have HO3 := Lib.hid hO3
  have HS3 := Lib.hid hS3
  have HM3 := Lib.hid (HM2.out.trans hS3.1 (fun _ h => by cases h))
  have HO1c := Lib.hid (own_moved HO1.out (HS2.out.1.trans hS3.1 (fun _ h => by cases h)) (fun _ _ h => by cases h))
  have HA3 := Lib.hid (nrowx_moved HA.out HM3.out (fun _ _ h => by cases h))
  obtain ⟨Al', cl', us', hval, hB2, -, -, -, -⟩ := (HO2.out.moved hS3.1 (fun _ _ h => by cases h)).reads
  injection hval with hv1 hv2 hv3
  subst hv1 hv3
  obtain ⟨Aw', cw', uw', hval, hB3, -, -, -, hwf⟩ := HO3.out.reads
  have HWF := Lib.hid hwf
  clear hwf
  injection hval with hv4 hv5 hv6
  subst hv4 hv6
  have HB2 := Lib.hid hB2
  have HB3 := Lib.hid hB3
  clear hO3 hS3 hv2 hv5 hB2 hB3
  go_wp2_with fail
  refine (rows_any _ _ _ _ _ _ us' uw' ps ps w3 HB2.out HB3.out rfl rfl HPB.out HPB.out (by omega) (by omega)).mono ?_
  rintro e w4 ⟨rfl, k4, rfl⟩
  rw [show decide (ps = ps) = true by simp]
  go_wp2_with fail
  refine (bytes_is _ _ _ _ _ _ _ _ _ ((NRow.of_own HO1c.out).drewN _) (HA3.out.drewN _) rfl rfl HB.out HB.out true (by simp)).mono ?_
  rintro e w4 ⟨rfl, rfl⟩
  go_wp2
  have HFLN := Lib.hid (fun b hb => Step.new HS2.out b hb : ∀ b ∈ fl, w1.heap.size ≤ b)
  have HFLT := Lib.hid (HO2.out.lt)
  have HFW := Lib.hid (fun b hb => Step.new HS3.out b hb : ∀ b ∈ fw, w2.heap.size ≤ b)
  have HM23 := Lib.hid (HS3.out.1.drewN k4)
  obtain ⟨w5, hw5⟩ : ∃ w5, w5 = w3.drewN k4 := ⟨_, rfl⟩
  have HW5 := Lib.hid hw5
  rw [← hw5] at HM23 ⊢
  clear hw5
  go_loopw [8] (fun i wr => ∃ k : Nat, i = .int .i64 k ∧ k ≤ ps.length ∧ Moved w5 wr (partsOf (us.take k))) (fun i _ => ps.length - (intOf i).toNat)
  case atStart => exact ⟨0, rfl, by omega, Moved.refl _ _⟩
  case round =>
    obtain ⟨k, rfl, hk, hM⟩ := hrel
    have HM := Lib.hid hM
    clear hM
    by_cases hlt : k < ps.length
    · obtain ⟨u, hu⟩ : ∃ u, us[k]? = some u := ⟨us[k]'(by rw [HUL.out]; exact hlt), List.getElem?_eq_getElem _⟩
      obtain ⟨p, hp⟩ : ∃ p, ps[k]? = some p := ⟨ps[k], List.getElem?_eq_getElem hlt⟩
      have hpx : p.length ≤ 70368744177664 := by have := HPP.out p (List.mem_of_getElem? hp); omega
      have hou := own_moved (own_moved (HE2.out k u p hu hp) HM23.out (fun _ _ h => by cases h)) HM.out (fun b hb h => by
        obtain ⟨i, x, hi, hbx⟩ := mem_partsOf.1 h
        rw [List.getElem?_take] at hi
        split at hi
        · rename_i hik
          exact HDD.out k i u x (by omega) hu hi b hb hbx
        · cases hi)
      obtain ⟨b, off, hal, hcell⟩ := (VRow.of_own HR2.out) k u hu
      subst hal
      have hblk : b ∈ rowOf (.slice (some ⟨b, off, none⟩) ps.length cl) := by simp [mem_rowOf, Value.ownBlock]
      have hcell2 : wr.cell? ⟨b, off + k, none⟩ = some u := by
        rw [World.cell?_of_block (w := w5) (HM.out.block b (Nat.lt_of_lt_of_le (own_lt HR2.out b hblk) HM23.out.size) (fun h => HAA.out b hblk (partsOf_part h))), World.cell?_of_block (w := w2) (HM23.out.block b (own_lt HR2.out b hblk) (fun h => by cases h))]
        exact hcell
      have HU := Lib.hid hou
      have HPT := Lib.hid (partsOf_take hu)
      clear hou hu hp hcell hblk
      go_wp2_with (go_at_call 21; refine (spoil_any u p wr HU.out hpx).mono ?_; rintro e w6 ⟨rfl, hM6⟩; have HM6 := Lib.hid hM6; clear hM6)
      go_roundw
      case rel => exact ⟨k + 1, by go_num, by omega, by rw [HPT.out]; exact (HM.out.mono (fun b hb => by simp [hb])).trans HM6.out (fun b hb => .inl (by simp [hb]))⟩
      case measure => simp [intOf]; omega
    · have HPF := Lib.hid (fun b hb => by rw [HFL.out]; exact List.mem_append.2 (.inr (partsOf_part hb)) : ∀ b ∈ partsOf (us.take k), b ∈ fl)
      have HOI := Lib.hid (own_moved (own_moved HO1.out ((HS2.out.1.trans HM23.out (fun _ h => by cases h))) (fun _ _ h => by cases h)) HM.out (fun b hb h => by have h1 := HFLN.out b (HPF.out b h); have h2 := own_lt HO1.out b hb; omega))
      have HMW := Lib.hid ((HM2.out.trans HM23.out (fun _ h => by cases h)).trans HM.out (fun b hb => .inr (Nat.le_trans HS1.out.1.size (HFLN.out b (HPF.out b hb)))))
      have HBW := Lib.hid ((HB3.out.moved (S := []) (w' := w5) (by rw [HW5.out]; exact (Moved.refl _ _).drewN _) (fun _ _ h => by cases h)).moved HM.out (fun b hb h => by have h1 := HFW.out b (HWF.out b hb); have h2 := HFLT.out b (HPF.out b h); omega))
      go_wp2_with fail
      refine (F.scan Bi _ di xs wr (NRow.of_own HOI.out) rfl HB.out HNI.out hdi hdi2 (by omega) (HLD.out.moved HMW.out)).mono ?_
      rw [← HPS.out, ← HPN.out]
      rintro e w6 ⟨vk, fk, rfl, hO6, hS6⟩
      obtain ⟨Ak, ck, uk, rfl, hBk, -, -, -, -⟩ := hO6.reads
      have HBK := Lib.hid hBk
      have HBW6 := Lib.hid (HBW.out.moved hS6.1 (fun _ _ h => by cases h))
      have HOI6 := Lib.hid (own_moved HOI.out hS6.1 (fun _ _ h => by cases h))
      have HM6 := Lib.hid (HMW.out.trans hS6.1 (fun _ h => by cases h))
      have HA6 := Lib.hid (nrowx_moved HA.out HM6.out (fun _ _ h => by cases h))
      clear hO6 hS6 hBk
      go_wp2_with (first
        | (go_at_call 15; refine (rows_any _ _ _ _ _ _ uk uw' ps ps w6 HBK.out HBW6.out rfl rfl HPB.out HPB.out (by omega) (by omega)).mono ?_; rintro e w7 ⟨rfl, k7, rfl⟩; rw [show decide (ps = ps) = true by simp])
        | (go_at_call 20; refine (bytes_is _ _ _ _ _ _ _ _ _ ((NRow.of_own HOI6.out).drewN _) (HA6.out.drewN _) rfl rfl HB.out HB.out true (by simp)).mono ?_; rintro e w7 ⟨rfl, rfl⟩)
        | (go_at_call 16; refine (frame_wakes F _ (by exact (HLD.out.moved HM6.out).drewN _)).mono ?_; rintro e w8 ⟨rfl, hM8⟩; have HM8 := Lib.hid hM8; clear hM8))
      go_ret
      exact ⟨rfl, ((HM6.out.drewN _).trans HM8.out (fun _ h => by cases h)).below (Nat.le_refl _) (fun _ h => by cases h)⟩
end Fr
end Go.Proofs.YtpcmkjmkaggfbaaDoor
