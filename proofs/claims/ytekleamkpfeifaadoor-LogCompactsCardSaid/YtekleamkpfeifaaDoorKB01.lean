/-
  7 texts in one: FrameRefSeal2, FrameRefFirst, RowPlain, FramePlain, DiskSt, LogSt, RowWords.
-/
import Derived.Test.YtekleamkpfeifaaDoorKB00
import Derived.Test.YtekleamkpfeifaaDoorProg
import Derived.Test.YtekleamkpfeifaaDoorChecked

/-
  CONTRACT of hanseref04.Seal.
-/
namespace Go.Proofs.YtekleamkpfeifaaDoor
namespace Fr
open Go.RowKit
/-- The frame of a payload. -/
def frameOf (p : List Int) : List Int := be4 p.length ++ be4 (sumOf (nats (be4 p.length ++ p))) ++ p
theorem sumOf_lt (bs : List Nat) : sumOf bs < 4294967296 := by unfold sumOf; omega
/-- New bytes and an error. -/
def ToldB (out : List Int) (e : Int) (w : World) (r : Ending) (w' : World) : Prop :=
  ∃ v, r = .returned (.tuple #[v, .int .i64 e]) ∧ w'.ownsRow 0 5 1 v out.length (out.map (Value.int .u8)) ∧ Step w w' [] (rowOf v)
def sealOut (p : List Int) : List Int := if 131072 < p.length then [] else frameOf p
def sealErr (p : List Int) : Int := if 131072 < p.length then 5 else 0
theorem Step.new {w w' : World} {T : List Nat} (h : Step w w' [] T) : ∀ k ∈ T, w.heap.size ≤ k := fun k hk => (h.2 k hk).elim (fun h => by cases h) id
set_option maxRecDepth 100000 in
set_option maxHeartbeats 2000000 in
theorem refseal_any (A : Option Addr) (n c : Nat) (xs : List Int) (w : World) (hA : NRow .u8 w A xs) (hn : xs.length = n) (hb : ByteList xs) (hnil : A = none → c = 0) (hlen : n ≤ 70368744177664) :
    Calls Tryd.prog 40 #[.slice A n c] w (ToldB (sealOut xs) (sealErr xs) w) := by
  subst hn
  obtain ⟨i0, hi, hz0, hz1, hz2⟩ := info_parts info_u8
  by_cases hbig : 131072 < xs.length
  · have ho : sealOut xs = [] := by rw [sealOut, if_pos hbig]
    have he : sealErr xs = 5 := by rw [sealErr, if_pos hbig]
    rw [ho, he]
    clear ho he
    go_enter Tryd.func40, Tryd.ntmps40
    go_wp2
    go_ret2
    exact ⟨.slice none 0 0, rfl, World.ownsRow_nil _ _ _ _, Step.refl _ _⟩
  · have ho : sealOut xs = frameOf xs := by rw [sealOut, if_neg hbig]
    have he : sealErr xs = 0 := by rw [sealErr, if_neg hbig]
    rw [ho, he]
    clear ho he
    have HA := Lib.hid hA
    have HB := Lib.hid hb
    have HNIL := Lib.hid hnil
    have HX := Lib.hid hA.ltX
    clear hA hb hnil
    go_enter Tryd.func40, Tryd.ntmps40
    go_wp2_with fail
    refine (reffour_any xs.length w (by omega)).mono ?_
    rintro e w1 ⟨v1, rfl, hO1, hS1⟩
    obtain ⟨A1, c1, rfl, hn1, -⟩ := own_shape hO1
    have HO1 := Lib.hid (show w1.ownsRow 0 5 1 (.slice A1 4 c1) 4 ((be4 xs.length).map (Value.int .u8)) from hO1)
    have HS1 := Lib.hid hS1
    have HN1 := Lib.hid hn1
    clear hO1 hS1 hn1
    rw [be4_len]
    go_wp2_with (at_builtin; refine wpList_append_row rfl (.tmp 14) (.tmp 15) 27 rfl 5 i0 .u8 1 Tryd.underlying27 hi hz0 hz1 hz2 (.slice none 0 0) 0 [] rfl (World.ownsRow_nil _ _ _ _) A1 4 c1 (be4 xs.length) rfl rfl (NRow.of_own HO1.out) HN1.out (by unfold maxLen; omega) (by omega) ?_)
    intro v2 w2 hO2 hS2
    have HO2 := Lib.hid (show w2.ownsRow 0 5 1 v2 4 ((be4 xs.length).map (Value.int .u8)) by simpa using hO2)
    have HS2 := Lib.hid (show Step w1 w2 [] (rowOf v2) from hS2)
    clear hO2 hS2
    have hM2 : Moved w w2 [] := HS1.out.1.trans HS2.out.1 (fun k hk => by cases hk)
    have HA2 := Lib.hid (nrowx_moved HA.out hM2 (fun b _ h => by cases h))
    clear hM2
    go_wp2_with (at_builtin; refine wpList_append_row rfl (.tmp 16) (.tmp 17) 27 rfl 5 i0 .u8 1 Tryd.underlying27 hi hz0 hz1 hz2 v2 4 _ rfl HO2.out A xs.length c xs rfl rfl HA2.out HNIL.out (by unfold maxLen; omega) (by omega) ?_)
    intro v3 w3 hO3 hS3
    have hO3 : w3.ownsRow 0 5 1 v3 (4 + xs.length) ((be4 xs.length ++ xs).map (Value.int .u8)) := by simpa using hO3
    have hS3 : Step w2 w3 (rowOf v2) (rowOf v3) := hS3
    obtain ⟨A3, c3, rfl, -⟩ := own_shape hO3
    have hM3 : Moved w1 w3 [] := HS2.out.1.trans hS3.1 (fun k hk => .inr (Step.new HS2.out k hk))
    have HO13 := Lib.hid (own_moved HO1.out hM3 (fun _ _ h => by cases h))
    have HM3 := Lib.hid (HS1.out.1.trans hM3 (fun _ h => by cases h))
    have HO3 := Lib.hid hO3
    have hall : (be4 xs.length ++ xs).length = 4 + xs.length := by rw [List.length_append, be4_len]
    have HALL := Lib.hid hall
    have HBL := Lib.hid (ByteList.append (be4_bytes (v := xs.length) (by omega)) HB.out)
    clear hO3 hS3 hM3 hall
    go_wp2_with fail
    refine (refsum_any A3 _ c3 (be4 xs.length ++ xs) w3 (NRow.of_own HO3.out) HALL.out HBL.out (by omega)).mono ?_
    rintro e w3' ⟨rfl, rfl⟩
    go_wp2_with fail
    obtain ⟨sm, hsm⟩ : ∃ sm, sm = sumOf (nats (be4 xs.length ++ xs)) := ⟨_, rfl⟩
    have hsm2 : sm < 4294967296 := by rw [hsm]; exact sumOf_lt _
    rw [← hsm]
    have HSM := Lib.hid hsm
    clear hsm
    refine (reffour_any sm w3 hsm2).mono ?_
    rintro e w4 ⟨v4, rfl, hO4, hS4⟩
    obtain ⟨A4, c4, rfl, hn4, -⟩ := own_shape hO4
    have HO4 := Lib.hid (show w4.ownsRow 0 5 1 (.slice A4 4 c4) 4 ((be4 sm).map (Value.int .u8)) from hO4)
    have HN4 := Lib.hid hn4
    have HO14 := Lib.hid (own_moved HO13.out hS4.1 (fun _ _ h => by cases h))
    have HM4 := Lib.hid (HM3.out.trans hS4.1 (fun _ h => by cases h))
    have HR1 := Lib.hid (fun k hk => ⟨Step.new HS1.out k hk, own_lt HO13.out k hk⟩ : ∀ k ∈ rowOf (.slice A1 4 c1), w.heap.size ≤ k ∧ k < w3.heap.size)
    clear hO4 hn4 hS4
    rw [be4_len]
    go_wp2_with (at_builtin; refine wpList_append_row rfl (.tmp 19) (.tmp 22) 27 rfl 5 i0 .u8 1 Tryd.underlying27 hi hz0 hz1 hz2 (.slice A1 4 c1) 4 _ rfl HO14.out A4 4 c4 (be4 sm) rfl rfl (NRow.of_own HO4.out) HN4.out (by unfold maxLen; omega) (by omega) ?_)
    intro v5 w5 hO5 hS5
    have HO5 := Lib.hid (show w5.ownsRow 0 5 1 v5 8 ((be4 xs.length ++ be4 sm).map (Value.int .u8)) by simpa using hO5)
    have hS5 : Step w4 w5 (rowOf (.slice A1 4 c1)) (rowOf v5) := hS5
    have HM5 := Lib.hid (HM4.out.trans hS5.1 (fun k hk => .inr (HR1.out k hk).1))
    have HV5 := Lib.hid (fun k hk => (hS5.2 k hk).elim (fun h => (HR1.out k h).1) (fun h => Nat.le_trans HM4.out.size h) : ∀ k ∈ rowOf v5, w.heap.size ≤ k)
    have HA5 := Lib.hid (nrowx_moved HA.out HM5.out (fun b _ h => by cases h))
    clear hO5 hS5
    go_wp2_with (at_builtin; refine wpList_append_row rfl (.tmp 24) (.tmp 25) 27 rfl 5 i0 .u8 1 Tryd.underlying27 hi hz0 hz1 hz2 v5 8 _ rfl HO5.out A xs.length c xs rfl rfl HA5.out HNIL.out (by unfold maxLen; omega) (by omega) ?_)
    intro v6 w6 hO6 hS6
    have hS6 : Step w5 w6 (rowOf v5) (rowOf v6) := hS6
    have hfr : frameOf xs = be4 xs.length ++ be4 sm ++ xs := by rw [frameOf, HSM.out]
    have hfl : (frameOf xs).length = 8 + xs.length := by rw [hfr, List.length_append, List.length_append, be4_len, be4_len]
    have HO6 := Lib.hid (show w6.ownsRow 0 5 1 v6 (frameOf xs).length ((frameOf xs).map (Value.int .u8)) by rw [hfl, hfr, List.map_append]; exact hO6)
    have HS6 := Lib.hid (show Step w w6 [] (rowOf v6) from ⟨HM5.out.trans hS6.1 (fun k hk => .inr (HV5.out k hk)), fun k hk => .inr ((hS6.2 k hk).elim (HV5.out k) (fun h => Nat.le_trans HM5.out.size h))⟩)
    clear hO6 hS6 hfr hfl
    go_wp2
    go_ret2
    exact ⟨v6, rfl, HO6.out, HS6.out⟩
end Fr
end Go.Proofs.YtekleamkpfeifaaDoor

/-
  CONTRACT of hanseref04.First.
-/
namespace Go.Proofs.YtekleamkpfeifaaDoor
namespace Fr
open Go.RowKit
/-- The payload of the frame at the beginning, if there is one. -/
def firstOf (xs : List Int) : Option (List Int) :=
  if xs.length < 8 then none
  else if 131072 < (numB xs).toNat ∨ xs.length - 8 < (numB xs).toNat then none
  else if frameOf ((xs.drop 8).take (numB xs).toNat) = xs.take (8 + (numB xs).toNat) then some ((xs.drop 8).take (numB xs).toNat) else none
def firstP (xs : List Int) : List Int := (firstOf xs).getD []
def firstN (xs : List Int) : Int := match firstOf xs with | some p => 8 + p.length | none => 0
def firstE (xs : List Int) : Int := match firstOf xs with | some _ => 0 | none => 4
/-- New bytes, a number and an error. -/
def ToldF (out : List Int) (n e : Int) (w : World) (r : Ending) (w' : World) : Prop :=
  ∃ v, r = .returned (.tuple #[v, .int .i64 n, .int .i64 e]) ∧ w'.ownsRow 0 5 1 v out.length (out.map (Value.int .u8)) ∧ Step w w' [] (rowOf v)
theorem first_none {xs : List Int} (h : firstOf xs = none) : firstP xs = [] ∧ firstN xs = 0 ∧ firstE xs = 4 := by simp [firstP, firstN, firstE, h]
theorem first_some {xs p : List Int} (h : firstOf xs = some p) : firstP xs = p ∧ firstN xs = 8 + p.length ∧ firstE xs = 0 := by simp [firstP, firstN, firstE, h]
theorem numB_bound {xs : List Int} (hb : ByteList xs) : 0 ≤ numB xs ∧ numB xs ≤ 4294967295 := by
  have h : ∀ i, 0 ≤ xs.getD i 0 ∧ xs.getD i 0 ≤ 255 := by
    intro i
    rw [List.getD_eq_getElem?_getD]
    cases hx : xs[i]? with
    | none => simp
    | some x => simpa using hb x (List.mem_of_getElem? hx)
  have h0 := h 0
  have h1 := h 1
  have h2 := h 2
  have h3 := h 3
  unfold numB
  omega
theorem str_ne {a b : List Int} (ha : ByteList a) (hb : ByteList b) (h : a ≠ b) : ((strOfNums a).toList == (strOfNums b).toList) = false := by
  rw [beq_eq_false_iff_ne]
  intro he
  rw [ByteArray.toList_eq, ByteArray.toList_eq] at he
  exact h (strOfNums_inj ha hb (ByteArray.ext (Array.toList_inj.1 he)))
theorem frameOf_bytes {p : List Int} (h : ByteList p) (hl : p.length < 4294967296) : ByteList (frameOf p) := ((be4_bytes hl).append (be4_bytes (sumOf_lt _))).append h
theorem toldf_none {w w' : World} (h : Moved w w' []) : ToldF [] 0 4 w (.returned (.tuple #[.slice none 0 0, .int .i64 0, .int .i64 4])) w' :=
  ⟨_, rfl, World.ownsRow_nil _ _ _ _, h, by simp [rowOf, Value.ownBlock]⟩
set_option maxRecDepth 100000 in
set_option maxHeartbeats 2000000 in
theorem reffirst_any (A : Option Addr) (n c : Nat) (xs : List Int) (w : World) (hA : NRow .u8 w A xs) (hn : xs.length = n) (hb : ByteList xs) (hnil : A = none → c = 0) (hc : n ≤ c) (hc2 : c ≤ 9223372036854775807) (hlen : n ≤ 70368744177664) :
    Calls Tryd.prog 62 #[.slice A n c] w (ToldF (firstP xs) (firstN xs) (firstE xs) w) := by
  subst hn
  obtain ⟨i0, hi, hz0, hz1, hz2⟩ := info_parts info_u8
  by_cases h8 : xs.length < 8
  · have HF := Lib.hid (first_none (xs := xs) (by rw [firstOf, if_pos h8]))
    rw [HF.out.1, HF.out.2.1, HF.out.2.2]
    go_enter Tryd.func62, Tryd.ntmps62
    go_wp2
    go_ret3
    exact toldf_none (Moved.refl _ _)
  have hbd := numB_bound hb
  obtain ⟨k, hk⟩ : ∃ k : Nat, numB xs = k := ⟨(numB xs).toNat, by omega⟩
  have hkt : (numB xs).toNat = k := by omega
  have HA := Lib.hid hA
  have HB := Lib.hid hb
  have HNIL := Lib.hid hnil
  have HK := Lib.hid hk
  have HKT := Lib.hid hkt
  clear hA hb hnil hk hbd hkt
  by_cases hbig : 131072 < k ∨ xs.length - 8 < k
  · have HF := Lib.hid (first_none (xs := xs) (by rw [firstOf, if_neg h8, HKT.out, if_pos hbig]))
    rw [HF.out.1, HF.out.2.1, HF.out.2.2]
    rcases hbig with h | h
    all_goals
      go_enter Tryd.func62, Tryd.ntmps62
      go_wp2_with (go_at_call 67; refine (refnumber_any A _ c xs w HA.out rfl HB.out (by omega) (by omega)).mono ?_; rintro e w1 ⟨rfl, m1, rfl⟩; rw [HK.out])
      all_goals
        go_ret3
        exact toldf_none ((Moved.refl _ _).drewN _)
  · have hk1 : k ≤ 131072 := by omega
    have hk2 : k ≤ xs.length - 8 := by omega
    obtain ⟨x0, hx0⟩ : ∃ x0, xs[0]? = some x0 := ⟨xs[0], List.getElem?_eq_getElem (by omega)⟩
    obtain ⟨b, off, rfl, -⟩ := HA.out 0 x0 hx0
    have HP := Lib.hid (((HA.out.drop 8).take k) : NRow .u8 w (some ⟨b, off + 8, none⟩) ((xs.drop 8).take k))
    have HPL := Lib.hid (show ((xs.drop 8).take k).length = k by simp; omega)
    have HBP := Lib.hid ((HB.out.drop 8).take k)
    have HP0 := Lib.hid (fun h : k = 0 => by subst h; exact NRow.none_ _ _ _ : k = 0 → NRow .u8 w (some ⟨b, off, none⟩) ((xs.drop 8).take k))
    have hbig2 := Lib.hid hbig
    clear hbig hx0
    obtain ⟨ps, hps⟩ : ∃ ps, ps = (xs.drop 8).take k := ⟨_, rfl⟩
    rw [← hps] at HP HPL HBP HP0
    have HPS := Lib.hid hps
    clear hps
    by_cases hc8 : c = 8
    · obtain rfl := hc8
      obtain rfl : k = 0 := by omega
      have HPX := Lib.hid (HP0.out rfl)
      go_enter Tryd.func62, Tryd.ntmps62
      go_wp2_with (first
        | (go_at_call 67; refine (refnumber_any _ _ _ xs w HA.out rfl HB.out (by omega) (by omega)).mono ?_; rintro e w1 ⟨rfl, m1, rfl⟩; rw [HK.out])
        | (at_builtin; refine wpList_append_row rfl (.tmp 23) (.tmp 27) 27 rfl 5 i0 .u8 1 Tryd.underlying27 hi hz0 hz1 hz2 (.slice none 0 0) 0 [] rfl (World.ownsRow_nil _ _ _ _) _ 0 _ ps rfl HPL.out HPX.out (fun h => by cases h) (by unfold maxLen; omega) (by omega) ?_))
      intro v2 w2 hO2 hS2
      have hO2 : w2.ownsRow 0 5 1 v2 0 (ps.map (Value.int .u8)) := by simpa using hO2
      obtain ⟨Av, cv, rfl, hvn, -⟩ := own_shape hO2
      have HO2 := Lib.hid hO2
      have HVN := Lib.hid hvn
      have HS2 := Lib.hid (show Step w w2 [] (rowOf (.slice Av 0 cv)) from ⟨((Moved.refl w []).drewN _).trans hS2.1 (fun _ h => by simp [rowOf, Value.ownBlock] at h), fun j hj => (hS2.2 j hj).elim (fun h => by simp [rowOf, Value.ownBlock] at h) .inr⟩)
      clear hO2 hvn hS2
      have hA3 : NRow .u8 w2 (some ⟨b, off, none⟩) xs := nrowx_moved HA.out HS2.out.1 (fun _ _ h => by cases h)
      have HA3 := Lib.hid hA3
      clear hA3
      go_wp2_with fail
      refine (refseal_any Av _ cv ps w2 (NRow.of_own HO2.out) HPL.out HBP.out HVN.out (by omega)).mono ?_
      rintro e w3 ⟨v3, rfl, hO3, hS3⟩
      have hso : sealOut ps = frameOf ps := by rw [sealOut, if_neg (by rw [HPL.out]; omega)]
      rw [hso] at hO3
      obtain ⟨A3, c3, rfl, -⟩ := own_shape hO3
      have hO23 := own_moved HO2.out hS3.1 (fun _ _ h => by cases h)
      have HO23 := Lib.hid hO23
      have HM3 := Lib.hid (HS2.out.1.trans hS3.1 (fun _ h => by cases h))
      have hA4 := nrowx_moved HA3.out hS3.1 (fun _ _ h => by cases h)
      have hv1 : ∀ m, (convert 27 9 (.slice A3 (frameOf ps).length c3)).run Tryd.prog (w3.drewN m) = .ok (.string (strOfNums (frameOf ps))) (w3.drewN m) := fun m =>
        run_convert_nrow _ _ _ 5 Tryd.underlying27 Tryd.underlying5 Tryd.underlying9 A3 _ c3 _ ((NRow.of_own hO3).drewN m) rfl
      have hv2 : ∀ m, (convert 27 9 (.slice (some ⟨b, off, none⟩) 8 8)).run Tryd.prog (w3.drewN m) = .ok (.string (strOfNums (xs.take 8))) (w3.drewN m) := fun m =>
        run_convert_nrow _ _ _ 5 Tryd.underlying27 Tryd.underlying5 Tryd.underlying9 _ _ 8 _ ((hA4.take 8).drewN m) (by simp; omega)
      by_cases heq : frameOf ps = xs.take 8
      · have HF := Lib.hid (first_some (xs := xs) (p := ps) (by rw [firstOf, if_neg h8, HKT.out, if_neg hbig2.out, ← HPS.out, if_pos heq]))
        have hne : ((strOfNums (frameOf ps)).toList == (strOfNums (xs.take 8)).toList) = true := by rw [heq]; simp
        clear hso hO3 hS3 hO23 hA4 heq
        go_wp2
        go_quiet (fail)
        go_wp2
        go_ret3
        rw [HF.out.1, HF.out.2.1, HF.out.2.2, HPL.out]
        exact ⟨_, rfl, by rw [HPL.out]; exact HO23.out, HM3.out.drewN _, HS2.out.2⟩
      · have HF := Lib.hid (first_none (xs := xs) (by rw [firstOf, if_neg h8, HKT.out, if_neg hbig2.out, ← HPS.out, if_neg heq]))
        have hne := str_ne (frameOf_bytes HBP.out (by rw [HPL.out]; omega)) (HB.out.take 8) heq
        clear hso hO3 hS3 hO23 hA4 heq
        go_wp2
        go_quiet (fail)
        go_wp2
        go_ret3
        rw [HF.out.1, HF.out.2.1, HF.out.2.2]
        exact toldf_none (HM3.out.drewN _)
    · have hc9 : 8 < c := by omega
      go_enter Tryd.func62, Tryd.ntmps62
      go_wp2_with (first
        | (go_at_call 67; refine (refnumber_any _ _ _ xs w HA.out rfl HB.out (by omega) (by omega)).mono ?_; rintro e w1 ⟨rfl, m1, rfl⟩; rw [HK.out])
        | (at_builtin; refine wpList_append_row rfl (.tmp 23) (.tmp 27) 27 rfl 5 i0 .u8 1 Tryd.underlying27 hi hz0 hz1 hz2 (.slice none 0 0) 0 [] rfl (World.ownsRow_nil _ _ _ _) _ _ _ ps rfl (by rw [HPL.out]; omega) HP.out (fun h => by cases h) (by unfold maxLen; omega) (by omega) ?_))
      intro v2 w2 hO2 hS2
      have hO2 : w2.ownsRow 0 5 1 v2 k (ps.map (Value.int .u8)) := by simpa using hO2
      obtain ⟨Av, cv, rfl, hvn, -⟩ := own_shape hO2
      have HO2 := Lib.hid hO2
      have HVN := Lib.hid hvn
      have HS2 := Lib.hid (show Step w w2 [] (rowOf (.slice Av k cv)) from ⟨((Moved.refl w []).drewN _).trans hS2.1 (fun _ h => by simp [rowOf, Value.ownBlock] at h), fun j hj => (hS2.2 j hj).elim (fun h => by simp [rowOf, Value.ownBlock] at h) .inr⟩)
      clear hO2 hvn hS2
      have hA3 : NRow .u8 w2 (some ⟨b, off, none⟩) xs := nrowx_moved HA.out HS2.out.1 (fun _ _ h => by cases h)
      have HA3 := Lib.hid hA3
      clear hA3
      go_wp2_with fail
      refine (refseal_any Av _ cv ps w2 (NRow.of_own HO2.out) HPL.out HBP.out HVN.out (by omega)).mono ?_
      rintro e w3 ⟨v3, rfl, hO3, hS3⟩
      have hso : sealOut ps = frameOf ps := by rw [sealOut, if_neg (by rw [HPL.out]; omega)]
      rw [hso] at hO3
      obtain ⟨A3, c3, rfl, -⟩ := own_shape hO3
      have hO23 := own_moved HO2.out hS3.1 (fun _ _ h => by cases h)
      have HO23 := Lib.hid hO23
      have HM3 := Lib.hid (HS2.out.1.trans hS3.1 (fun _ h => by cases h))
      have hA4 := nrowx_moved HA3.out hS3.1 (fun _ _ h => by cases h)
      have hv1 : ∀ m, (convert 27 9 (.slice A3 (frameOf ps).length c3)).run Tryd.prog (w3.drewN m) = .ok (.string (strOfNums (frameOf ps))) (w3.drewN m) := fun m =>
        run_convert_nrow _ _ _ 5 Tryd.underlying27 Tryd.underlying5 Tryd.underlying9 A3 _ c3 _ ((NRow.of_own hO3).drewN m) rfl
      have hv2 : ∀ m, (convert 27 9 (.slice (some ⟨b, off, none⟩) (8 + k) c)).run Tryd.prog (w3.drewN m) = .ok (.string (strOfNums (xs.take (8 + k)))) (w3.drewN m) := fun m =>
        run_convert_nrow _ _ _ 5 Tryd.underlying27 Tryd.underlying5 Tryd.underlying9 _ _ c _ ((hA4.take (8 + k)).drewN m) (by simp; omega)
      have s1 : IntKind.i64.wrap ((8 : Int) + (k : Nat)) = (8 : Int) + (k : Nat) := IntWalk.i64_in _ (by omega)
      have s2 : (0 : Int) ≤ (8 : Int) + (k : Nat) := by omega
      have s3 : ((8 : Int) + (k : Nat)).toNat = 8 + k := by omega
      have s4 : (8 : Int) + (k : Nat) ≤ (c : Nat) := by omega
      have s5 : 8 + k ≤ c := by omega
      by_cases heq : frameOf ps = xs.take (8 + k)
      · have HF := Lib.hid (first_some (xs := xs) (p := ps) (by rw [firstOf, if_neg h8, HKT.out, if_neg hbig2.out, ← HPS.out, if_pos heq]))
        have hne : ((strOfNums (frameOf ps)).toList == (strOfNums (xs.take (8 + k))).toList) = true := by rw [heq]; simp
        clear hso hO3 hS3 hO23 hA4 heq
        go_wp2
        go_quiet (fail)
        go_wp2
        go_ret3
        rw [HF.out.1, HF.out.2.1, HF.out.2.2, HPL.out]
        exact ⟨_, rfl, by rw [HPL.out]; exact HO23.out, HM3.out.drewN _, HS2.out.2⟩
      · have HF := Lib.hid (first_none (xs := xs) (by rw [firstOf, if_neg h8, HKT.out, if_neg hbig2.out, ← HPS.out, if_neg heq]))
        have hne := str_ne (frameOf_bytes HBP.out (by rw [HPL.out]; omega)) (HB.out.take (8 + k)) heq
        clear hso hO3 hS3 hO23 hA4 heq
        go_wp2
        go_quiet (fail)
        go_wp2
        go_ret3
        rw [HF.out.1, HF.out.2.1, HF.out.2.2]
        exact toldf_none (HM3.out.drewN _)
end Fr
end Go.Proofs.YtekleamkpfeifaaDoor

/-
  PLAIN: lists of lists.
-/
namespace Go.Proofs.YtekleamkpfeifaaDoor
namespace Fr
open Go.RowKit
theorem take_snoc {α : Type} {l : List α} {k : Nat} {x : α} (h : l[k]? = some x) : l.take (k + 1) = l.take k ++ [x] := by rw [List.take_add_one, h]; rfl
theorem flat_step {ps : List (List Int)} {k : Nat} {p : List Int} (h : ps[k]? = some p) : (ps.take (k + 1)).flatten = (ps.take k).flatten ++ p := by rw [take_snoc h]; simp
theorem flat_len_step {ps : List (List Int)} {k : Nat} {p : List Int} (h : ps[k]? = some p) : (ps.take (k + 1)).flatten.length = (ps.take k).flatten.length + p.length := by rw [flat_step h, List.length_append]
theorem part_le_flat {ps : List (List Int)} {p : List Int} (h : p ∈ ps) : p.length ≤ ps.flatten.length := by
  induction ps with
  | nil => cases h
  | cons q r ih =>
    rw [List.flatten_cons, List.length_append]
    rcases List.mem_cons.1 h with rfl | h
    · omega
    · have := ih h; omega
theorem flat_bytes {ps : List (List Int)} (h : ∀ p ∈ ps, ByteList p) : ByteList ps.flatten := by
  intro x hx
  obtain ⟨p, hp, hx⟩ := List.mem_flatten.1 hx
  exact h p hp x hx
theorem flat_take_le {ps : List (List Int)} (k : Nat) : (ps.take k).flatten.length ≤ ps.flatten.length := by
  conv => rhs; rw [← List.take_append_drop k ps, List.flatten_append, List.length_append]
  omega
theorem place_eq {at_ : Int} {n : Nat} (h0 : 0 < n) (hn : n ≤ 9223372036854775807) : ∃ k : Nat, k < n ∧ wrap64 ((IntKind.u64.wrap at_).tmod (n : Int)) = k := by
  have h : ∀ j, IntKind.u64.wrap j = j % 18446744073709551616 := by intro j; unfold IntKind.wrap; simp [IntKind.signed, IntKind.bits]
  rw [h, Int.tmod_eq_emod_of_nonneg (by omega)]
  have h1 := Int.emod_nonneg (at_ % 18446744073709551616) (b := (n : Int)) (by omega)
  have h2 := Int.emod_lt_of_pos (at_ % 18446744073709551616) (b := (n : Int)) (by omega)
  refine ⟨(at_ % 18446744073709551616 % n).toNat, by omega, ?_⟩
  rw [show ∀ n : Int, -9223372036854775808 ≤ n ∧ n ≤ 9223372036854775807 → wrap64 n = n from fun n h => by unfold wrap64; omega]
  rotate_left
  · omega
  omega
end Fr
end Go.Proofs.YtekleamkpfeifaaDoor

/-
  PLAIN: frames, one behind the other.
-/
namespace Go.Proofs.YtekleamkpfeifaaDoor
namespace Fr
open Go.RowKit
theorem frameOf_drop (p : List Int) : (frameOf p).drop 8 = p := by
  unfold frameOf
  rw [List.drop_append_of_le_length (by simp [be4_len])]
  simp [be4_len]
theorem frameOf_inj {a b : List Int} : frameOf a = frameOf b ↔ a = b :=
  ⟨fun h => by rw [← frameOf_drop a, ← frameOf_drop b, h], fun h => by rw [h]⟩
theorem frameOf_len (p : List Int) : (frameOf p).length = 8 + p.length := by unfold frameOf; simp [be4_len]; omega
theorem seal_big {p : List Int} (h : 131072 < p.length) : sealOut p = [] ∧ sealErr p = 5 := by simp [sealOut, sealErr, h]
theorem seal_fits {p : List Int} (h : ¬ 131072 < p.length) : sealOut p = frameOf p ∧ sealErr p = 0 := by simp [sealOut, sealErr, h]
theorem first_len {xs p : List Int} (h : firstOf xs = some p) : 8 + p.length ≤ xs.length := by
  unfold firstOf at h
  split at h
  · cases h
  · split at h
    · cases h
    · split at h
      · cases h; simp; omega
      · cases h
theorem sealOut_bytes {p : List Int} (h : ByteList p) (hl : p.length < 4294967296) : ByteList (sealOut p) := by
  unfold sealOut; split
  · exact ByteList.nil
  · exact frameOf_bytes h hl
theorem sealOut_len (p : List Int) : (sealOut p).length ≤ 131080 := by
  unfold sealOut; split
  · simp
  · rw [frameOf_len]; omega
theorem firstP_bytes {p : List Int} (h : ByteList p) : ByteList (firstP p) := by
  cases hf : firstOf p with
  | none => rw [(first_none hf).1]; exact ByteList.nil
  | some q =>
    rw [(first_some hf).1]
    unfold firstOf at hf
    split at hf
    · cases hf
    · split at hf
      · cases hf
      · split at hf
        · cases hf; exact (h.drop 8).take _
        · cases hf
theorem firstP_len (p : List Int) : (firstP p).length ≤ p.length := by
  cases hf : firstOf p with
  | none => rw [(first_none hf).1]; simp
  | some q => rw [(first_some hf).1]; have := first_len hf; omega
/-- New blocks are written over: what was there before stays. -/
theorem moved_spoil {w w1 w2 : World} {S : List Nat} (h : Moved w w1 []) (hM : Moved w1 w2 S) (hS : ∀ k ∈ S, w.heap.size ≤ k) : Moved w w2 [] := h.trans hM (fun k hk => .inr (hS k hk))
theorem first_bytes {xs p : List Int} (hb : ByteList xs) (h : firstOf xs = some p) : ByteList p := by
  have h1 := firstP_bytes hb
  rw [(first_some h).1] at h1
  exact h1
/-- The frames of some payloads, one behind the other. -/
def framesOf (ps : List (List Int)) : List Int := (ps.map frameOf).flatten
theorem frames_snoc (ps : List (List Int)) (p : List Int) : framesOf (ps ++ [p]) = framesOf ps ++ frameOf p := by simp [framesOf]
theorem frames_len (ps : List (List Int)) : (framesOf ps).length = 8 * ps.length + ps.flatten.length := by
  induction ps with
  | nil => rfl
  | cons p r ih =>
    have h : framesOf (p :: r) = frameOf p ++ framesOf r := rfl
    rw [h, List.length_append, ih, frameOf_len, List.flatten_cons, List.length_append, List.length_cons]
    omega
/-- A frame is found again, whatever stands behind it. -/
theorem first_frame {p zs : List Int} (h1 : p.length ≤ 131072) : firstOf (frameOf p ++ zs) = some p := by
  obtain ⟨s, hs⟩ : ∃ s, s = sumOf (nats (be4 p.length ++ p)) := ⟨_, rfl⟩
  have hf : frameOf p = be4 p.length ++ be4 s ++ p := by rw [frameOf, hs]
  have hn : numB (frameOf p ++ zs) = p.length := by
    rw [hf]
    unfold numB be4
    simp only [List.cons_append, List.nil_append, List.getD_cons_zero, List.getD_cons_succ]
    omega
  have hlen : (frameOf p ++ zs).length = 8 + p.length + zs.length := by rw [List.length_append, frameOf_len]
  have hd : (frameOf p ++ zs).drop 8 = p ++ zs := by rw [List.drop_append_of_le_length (by rw [frameOf_len]; omega), frameOf_drop]
  unfold firstOf
  rw [if_neg (by omega), hn, hd, Int.toNat_natCast, if_neg (by omega), List.take_left' rfl, List.take_left' (frameOf_len p), if_pos rfl]
theorem frames_append (a b : List (List Int)) : framesOf (a ++ b) = framesOf a ++ framesOf b := by simp [framesOf]
theorem frames_split (ps : List (List Int)) (k : Nat) : framesOf ps = framesOf (ps.take k) ++ framesOf (ps.drop k) := by rw [← frames_append, List.take_append_drop]
theorem frames_at {ps : List (List Int)} {k : Nat} {p : List Int} (h : ps[k]? = some p) : framesOf (ps.drop k) = frameOf p ++ framesOf (ps.drop (k + 1)) := by
  obtain ⟨hk, rfl⟩ := List.getElem?_eq_some_iff.1 h
  rw [List.drop_eq_getElem_cons hk]
  rfl
theorem frames_bytes {ps : List (List Int)} (hb : ∀ p ∈ ps, ByteList p) (hp : ∀ p ∈ ps, p.length ≤ 131072) : ByteList (framesOf ps) := by
  unfold framesOf
  refine flat_bytes fun q hq => ?_
  obtain ⟨p, hp2, rfl⟩ := List.mem_map.1 hq
  exact frameOf_bytes (hb p hp2) (by have := hp p hp2; omega)
/-- A frame that is cut off is none. -/
theorem first_cut {p : List Int} {j : Nat} (hj : j < 8 + p.length) : firstOf ((frameOf p).take j) = none := by
  have hlen : ((frameOf p).take j).length = j := by rw [List.length_take, frameOf_len]; omega
  unfold firstOf
  by_cases h8 : j < 8
  · rw [if_pos (by omega)]
  · obtain ⟨i, rfl⟩ : ∃ i, j = 8 + i := ⟨j - 8, by omega⟩
    have hn : numB ((frameOf p).take (8 + i)) = p.length := by
      obtain ⟨s, hs⟩ : ∃ s, s = sumOf (nats (be4 p.length ++ p)) := ⟨_, rfl⟩
      rw [frameOf, ← hs, show 8 + i = (be4 p.length ++ be4 s).length + i by rw [List.length_append, be4_len, be4_len], List.take_length_add_append]
      unfold numB be4
      simp only [List.cons_append, List.nil_append, List.getD_cons_zero, List.getD_cons_succ]
      omega
    rw [if_neg (by omega), hn, Int.toNat_natCast, if_pos (.inr (by omega))]
theorem frames_take_le (ps : List (List Int)) (k : Nat) : (framesOf (ps.take k)).length ≤ (framesOf ps).length := by
  rw [frames_split ps k, List.length_append]; omega
end Fr
end Go.Proofs.YtekleamkpfeifaaDoor

/-
  PLAIN: what a disk is, and what becomes of it by each call.
-/
namespace Go.Proofs.YtekleamkpfeifaaDoor
namespace Dk
/-- A disk: its bytes, how many of them are synced, is the power off, and with which keep the next stroke is tripped. -/
structure DSt where
  bs : List Int
  safe : Nat
  dead : Bool
  trip : Option Int
/-- The error of a call where the power is off. -/
def DSt.off (s : DSt) : Int := if s.dead then 7 else 0
def DSt.add (ys : List Int) (s : DSt) : DSt := if s.dead then s else { s with bs := s.bs ++ ys }
/-- The bytes that a crash leaves. -/
def left (bs : List Int) (safe : Nat) (keep : Int) : List Int := if keep.toNat < bs.length - safe then bs.take (safe + keep.toNat) else bs
def DSt.crash (keep : Int) (s : DSt) : DSt := if s.dead then s else ⟨left s.bs s.safe keep, s.safe, true, none⟩
/-- A stroke: its error, and what becomes of the disk where it does not go well; 'then_' where it does. -/
def DSt.stroke (s : DSt) (then_ : DSt) : Int × DSt := if s.dead then (7, s) else match s.trip with
  | some k => (7, s.crash k)
  | none => (0, then_)
def DSt.sync (s : DSt) : Int × DSt := s.stroke { s with safe := s.bs.length }
def DSt.cut (n : Int) (s : DSt) : Int × DSt := if s.dead then (7, s) else if n < 0 ∨ (s.bs.length : Int) < n then (9, s) else s.stroke { s with bs := s.bs.take n.toNat, safe := n.toNat }
def DSt.swap (ys : List Int) (s : DSt) : Int × DSt := s.stroke { s with bs := ys, safe := ys.length }
def DSt.read (s : DSt) : List Int := if s.dead then [] else s.bs
def DSt.arm (keep : Int) (s : DSt) : DSt := if s.dead then s else { s with trip := some keep }
def DSt.start (s : DSt) : DSt := if s.dead then { s with dead := false, safe := s.bs.length } else s
/-- What is always so. -/
structure DSt.Ok (s : DSt) : Prop where
  safe : s.safe ≤ s.bs.length
  calm : s.dead = true → s.trip = none
end Dk
end Go.Proofs.YtekleamkpfeifaaDoor

/-
  PLAIN: what bytes are a journal's.
-/
namespace Go.Proofs.YtekleamkpfeifaaDoor
namespace Lg
open Fr
/-- The bytes behind a letter, where a frame of that letter stands at the beginning. -/
def laidOf (c : Int) (xs : List Int) : Option (List Int) :=
  match firstOf xs with
  | some (x :: r) => if x = c then some r else none
  | _ => none
theorem laid_first {c : Int} {xs r : List Int} (h : laidOf c xs = some r) : firstOf xs = some (c :: r) := by
  unfold laidOf at h
  split at h
  · rename_i x t hf
    split at h
    · rename_i hx; injection h with h; subst hx h; exact hf
    · cases h
  · cases h
theorem first_laid {c : Int} {xs r : List Int} (h : firstOf xs = some (c :: r)) : laidOf c xs = some r := by
  unfold laidOf; rw [h]; simp
theorem laid_other {c d : Int} {xs r : List Int} (h : firstOf xs = some (d :: r)) (hd : d ≠ c) : laidOf c xs = none := by
  unfold laidOf; rw [h]; simp [hd]
theorem laid_none {c : Int} {xs : List Int} (h : firstOf xs = none) : laidOf c xs = none := by
  unfold laidOf; rw [h]
theorem laid_empty {c : Int} {xs : List Int} (h : firstOf xs = some []) : laidOf c xs = none := by
  unfold laidOf; rw [h]
theorem laid_len {c : Int} {xs r : List Int} (h : laidOf c xs = some r) : 9 + r.length ≤ xs.length := by
  have := first_len (laid_first h)
  simp at this
  omega
/-- The records that stand one behind the other, and where the last of them ends. -/
def recsOf (xs : List Int) : List (List Int) × Nat :=
  match h : laidOf 82 xs with
  | none => ([], 0)
  | some r => (r :: (recsOf (xs.drop (9 + r.length))).1, 9 + r.length + (recsOf (xs.drop (9 + r.length))).2)
termination_by xs.length
decreasing_by all_goals (have := laid_len h; simp; omega)
theorem recs_none {xs : List Int} (h : laidOf 82 xs = none) : recsOf xs = ([], 0) := by
  rw [recsOf]; split
  · rfl
  · rename_i r hr; rw [h] at hr; cases hr
theorem recs_some {xs r : List Int} (h : laidOf 82 xs = some r) : recsOf xs = (r :: (recsOf (xs.drop (9 + r.length))).1, 9 + r.length + (recsOf (xs.drop (9 + r.length))).2) := by
  rw [recsOf]; split
  · rename_i hr; rw [h] at hr; cases hr
  · rename_i q hr; rw [h] at hr; cases hr; rfl
/-- The snapshot, the records, and where the last of them ends. -/
def logOf (xs : List Int) : List Int × List (List Int) × Nat :=
  match laidOf 83 xs with
  | some s => (s, (recsOf (xs.drop (9 + s.length))).1, 9 + s.length + (recsOf (xs.drop (9 + s.length))).2)
  | none => ([], recsOf xs)
def recFrame (r : List Int) : List Int := frameOf (82 :: r)
def snapFrame (s : List Int) : List Int := frameOf (83 :: s)
def recFrames (rs : List (List Int)) : List Int := framesOf (rs.map (82 :: ·))
theorem recFrame_len (r : List Int) : (recFrame r).length = 9 + r.length := by unfold recFrame; rw [frameOf_len]; simp; omega
theorem snapFrame_len (r : List Int) : (snapFrame r).length = 9 + r.length := by unfold snapFrame; rw [frameOf_len]; simp; omega
theorem recFrames_snoc (rs : List (List Int)) (r : List Int) : recFrames (rs ++ [r]) = recFrames rs ++ recFrame r := by
  unfold recFrames; rw [List.map_append, List.map_singleton, frames_snoc]; rfl
theorem recFrames_cons (r : List Int) (rs : List (List Int)) : recFrames (r :: rs) = recFrame r ++ recFrames rs := rfl
theorem recFrames_len (rs : List (List Int)) : (recFrames rs).length = 9 * rs.length + rs.flatten.length := by
  induction rs with
  | nil => rfl
  | cons r t ih => rw [recFrames_cons, List.length_append, ih, recFrame_len, List.flatten_cons, List.length_append, List.length_cons]; omega
theorem recFrames_append (a b : List (List Int)) : recFrames (a ++ b) = recFrames a ++ recFrames b := by
  unfold recFrames; rw [List.map_append, frames_append]
theorem rec_frame {c : Int} {r zs : List Int} (h : r.length ≤ 131071) : laidOf c (frameOf (c :: r) ++ zs) = some r :=
  first_laid (first_frame (by simp; omega))
theorem recs_more {rs : List (List Int)} (h : ∀ r ∈ rs, r.length ≤ 131071) (zs : List Int) : recsOf (recFrames rs ++ zs) = (rs ++ (recsOf zs).1, (recFrames rs).length + (recsOf zs).2) := by
  induction rs with
  | nil => simp [recFrames, framesOf]
  | cons r t ih =>
    have hr := h r (by simp)
    have hl : laidOf 82 (recFrames (r :: t) ++ zs) = some r := by
      rw [recFrames_cons, List.append_assoc]; exact rec_frame hr
    rw [recs_some hl, show 9 + r.length = (recFrame r).length from (recFrame_len r).symm, recFrames_cons, List.append_assoc, List.drop_left, ih (fun q hq => h q (by simp [hq])), List.length_append]
    simp [Nat.add_assoc]
theorem recs_nil : recsOf [] = ([], 0) := recs_none (laid_none (by rw [firstOf, if_pos (by simp)]))
theorem recs_just {rs : List (List Int)} (h : ∀ r ∈ rs, r.length ≤ 131071) : recsOf (recFrames rs) = (rs, (recFrames rs).length) := by
  have h := recs_more h []
  rw [List.append_nil, recs_nil] at h
  simpa using h
/-- Records that are cut off somewhere: those are found that are whole. -/
theorem recs_cut : ∀ {rs : List (List Int)}, (∀ r ∈ rs, r.length ≤ 131071) → ∀ n, ∃ k, k ≤ rs.length ∧ recsOf ((recFrames rs).take n) = (rs.take k, (recFrames (rs.take k)).length) ∧ (recFrames (rs.take k)).length ≤ n ∧ (n < (recFrames rs).length → k < rs.length ∧ n < (recFrames (rs.take (k + 1))).length) ∧ ((recFrames rs).length ≤ n → k = rs.length) := by
  intro rs
  induction rs with
  | nil => intro _ n; exact ⟨0, by simp, by simp [recFrames, framesOf, recs_nil], by simp [recFrames, framesOf], by simp [recFrames, framesOf], by simp⟩
  | cons r t ih =>
    intro h n
    have hr := h r (by simp)
    by_cases hn : n < 9 + r.length
    · refine ⟨0, by simp, ?_, by simp [recFrames, framesOf], fun _ => ⟨by simp, ?_⟩, fun hle => ?_⟩
      · have hc : firstOf ((recFrames (r :: t)).take n) = none := by
          rw [recFrames_cons, List.take_append_of_le_length (by rw [recFrame_len]; omega)]
          exact first_cut (by simp; omega)
        rw [recs_none (laid_none hc)]
        simp [recFrames, framesOf]
      · simp [recFrames, framesOf]
        show n < (recFrame r).length
        rw [recFrame_len]; exact hn
      · rw [recFrames_cons, List.length_append, recFrame_len] at hle; omega
    · obtain ⟨k, hk, h1, h2, h3, h4⟩ := ih (fun q hq => h q (by simp [hq])) (n - (9 + r.length))
      have ht : (recFrames (r :: t)).take n = recFrame r ++ (recFrames t).take (n - (9 + r.length)) := by
        rw [recFrames_cons, List.take_append, recFrame_len, List.take_of_length_le (by rw [recFrame_len]; omega)]
      refine ⟨k + 1, by simp; omega, ?_, ?_, ?_, ?_⟩
      · rw [ht]
        have hl : laidOf 82 (recFrame r ++ (recFrames t).take (n - (9 + r.length))) = some r := rec_frame hr
        rw [recs_some hl, show 9 + r.length = (recFrame r).length from (recFrame_len r).symm, List.drop_left, recFrame_len, h1, List.take_succ_cons, recFrames_cons, List.length_append, recFrame_len]
      · rw [List.take_succ_cons, recFrames_cons, List.length_append, recFrame_len]; omega
      · intro hlt
        rw [recFrames_cons, List.length_append, recFrame_len] at hlt
        obtain ⟨h5, h6⟩ := h3 (by omega)
        refine ⟨by simp; omega, ?_⟩
        rw [List.take_succ_cons, recFrames_cons, List.length_append, recFrame_len]; omega
      · intro hle
        rw [recFrames_cons, List.length_append, recFrame_len] at hle
        rw [h4 (by omega)]; simp
theorem snap_not {rs : List (List Int)} (h : ∀ r ∈ rs, r.length ≤ 131071) (hne : rs ≠ []) (zs : List Int) : laidOf 83 (recFrames rs ++ zs) = none := by
  rcases rs with _ | ⟨r, t⟩
  · exact absurd rfl hne
  · rw [recFrames_cons, List.append_assoc]
    exact laid_other (d := 82) (first_frame (by have := h r (by simp); simp; omega)) (by decide)
theorem snap_nil : laidOf 83 [] = none := laid_none (by rw [firstOf, if_pos (by simp)])
theorem log_just {rs : List (List Int)} (h : ∀ r ∈ rs, r.length ≤ 131071) : logOf (recFrames rs) = ([], rs, (recFrames rs).length) := by
  have hs : laidOf 83 (recFrames rs) = none := by
    by_cases hne : rs = []
    · subst hne; exact snap_nil
    · have := snap_not h hne []; rwa [List.append_nil] at this
  unfold logOf
  rw [hs, recs_just h]
theorem log_nil : logOf [] = ([], [], 0) := by unfold logOf; rw [snap_nil, recs_nil]
theorem log_some {xs s : List Int} (h : laidOf 83 xs = some s) : logOf xs = (s, (recsOf (xs.drop (9 + s.length))).1, 9 + s.length + (recsOf (xs.drop (9 + s.length))).2) := by
  unfold logOf
  rw [h]
theorem drop_frame (s zs : List Int) : (snapFrame s ++ zs).drop (9 + s.length) = zs := by
  rw [← snapFrame_len s, List.drop_left]
theorem log_snap {s : List Int} {rs : List (List Int)} (hs : s.length ≤ 131071) (h : ∀ r ∈ rs, r.length ≤ 131071) : logOf (snapFrame s ++ recFrames rs) = (s, rs, (snapFrame s ++ recFrames rs).length) := by
  have h1 : laidOf 83 (snapFrame s ++ recFrames rs) = some s := by unfold snapFrame; exact rec_frame hs
  rw [log_some h1, drop_frame, recs_just h, List.length_append, snapFrame_len]
theorem log_cut {rs : List (List Int)} (h : ∀ r ∈ rs, r.length ≤ 131071) (n : Nat) : ∃ k, k ≤ rs.length ∧ logOf ((recFrames rs).take n) = ([], rs.take k, (recFrames (rs.take k)).length) ∧ (recFrames (rs.take k)).length ≤ n ∧ (n < (recFrames rs).length → k < rs.length ∧ n < (recFrames (rs.take (k + 1))).length) ∧ ((recFrames rs).length ≤ n → k = rs.length) := by
  obtain ⟨k, h1, h2, h3, h4, h5⟩ := recs_cut h n
  refine ⟨k, h1, ?_, h3, h4, h5⟩
  have hs : laidOf 83 ((recFrames rs).take n) = none := by
    rcases rs with _ | ⟨r, t⟩
    · simp [recFrames, framesOf]; exact snap_nil
    · rw [recFrames_cons]
      by_cases hn : n < 9 + r.length
      · rw [List.take_append_of_le_length (by rw [recFrame_len]; omega)]
        exact laid_none (first_cut (by simp; omega))
      · rw [List.take_append, List.take_of_length_le (by rw [recFrame_len]; omega)]
        exact laid_other (d := 82) (first_frame (by have := h r (by simp); simp; omega)) (by decide)
  unfold logOf
  rw [hs, h2]
theorem cut_take {rs : List (List Int)} (k : Nat) : (recFrames rs).take (recFrames (rs.take k)).length = recFrames (rs.take k) := by
  conv => lhs; rw [← List.take_append_drop k rs, recFrames_append]
  rw [List.take_append_of_le_length (by simp), List.take_of_length_le (by simp)]
/-- Behind records something stands that is none. -/
theorem log_other {rs : List (List Int)} (h : ∀ r ∈ rs, r.length ≤ 131071) {zs : List Int} (hz : laidOf 82 zs = none) (hs : rs = [] → laidOf 83 zs = none) : logOf (recFrames rs ++ zs) = ([], rs, (recFrames rs).length) := by
  have hn : laidOf 83 (recFrames rs ++ zs) = none := by
    by_cases hne : rs = []
    · subst hne; exact hs rfl
    · exact snap_not h hne zs
  unfold logOf
  rw [hn, recs_more h, recs_none hz]
  simp
theorem recFrames_bytes {rs : List (List Int)} (hb : ∀ r ∈ rs, ByteList r) (hl : ∀ r ∈ rs, r.length ≤ 131071) : ByteList (recFrames rs) := by
  refine frames_bytes (fun p hp => ?_) (fun p hp => ?_)
  · obtain ⟨r, hr, rfl⟩ := List.mem_map.1 hp
    intro x hx
    rcases List.mem_cons.1 hx with rfl | hx
    · omega
    · exact hb r hr x hx
  · obtain ⟨r, hr, rfl⟩ := List.mem_map.1 hp
    have := hl r hr; simp; omega
theorem logged_bytes {c : Int} (hc : 0 ≤ c ∧ c ≤ 255) {r : List Int} (hb : ByteList r) (hl : r.length ≤ 131071) : ByteList (frameOf (c :: r)) :=
  frameOf_bytes (fun x hx => by
    rcases List.mem_cons.1 hx with rfl | hx
    · exact hc
    · exact hb x hx) (by simp; omega)
/-- What Open answers of a disk, and what becomes of the disk. -/
def openSt (s : Dk.DSt) : Int × Dk.DSt := if s.dead then (7, s) else if (logOf s.bs).2.2 < s.bs.length then s.cut (logOf s.bs).2.2 else (0, s)
end Lg
end Go.Proofs.YtekleamkpfeifaaDoor

/-
  WORDS for slices of slices of bytes; append of values of one cell.
-/
namespace Go.Proofs.YtekleamkpfeifaaDoor
open Go.RowKit

/-! ### values of one cell in a row -/
def VRow (w : World) (A : Option Addr) (vs : List Value) : Prop :=
  ∀ (i : Nat) (v : Value), vs[i]? = some v → ∃ b off, A = some ⟨b, off, none⟩ ∧ w.cell? ⟨b, off + i, none⟩ = some v
theorem VRow.none_ (w : World) (A : Option Addr) : VRow w A [] := fun i x h => by simp at h
theorem VRow.stays {w w' : World} {A : Option Addr} {vs : List Value} (h : VRow w A vs) (hS : ∀ a, A = some a → vs ≠ [] → w'.heap[a.block]? = w.heap[a.block]?) : VRow w' A vs := by
  intro i v hv
  obtain ⟨b, off, rfl, hc⟩ := h i v hv
  refine ⟨b, off, rfl, ?_⟩
  rw [World.cell?_of_block (w := w) (a := ⟨b, off + i, none⟩) (hS ⟨b, off, none⟩ rfl (fun e => by subst e; simp at hv))]; exact hc
theorem VRow.of_own {w : World} {base : Nat} {e : TypeId} {A : Option Addr} {n c : Nat} {vs : List Value} (h : w.ownsRow base e 1 (.slice A n c) n vs) : VRow w A vs := by
  intro i x hx
  rcases h.2 with ⟨hv, hn⟩ | ⟨g, cap, cur, hv, _, hh, _, _, _, ht⟩
  · have := h.1
    subst hn
    simp at this
    subst this
    simp at hx
  · have hA : A = some ⟨g, 0, none⟩ := by injection hv
    refine ⟨g, 0, hA, ?_⟩
    have := h.cells (g := g) (by rw [hA]; rfl) i x hx
    rw [add_none_] at this
    exact this
theorem VRow.drop {w : World} {b off : Nat} {vs : List Value} (h : VRow w (some ⟨b, off, none⟩) vs) (n : Nat) : VRow w (some ⟨b, off + n, none⟩) (vs.drop n) := by
  intro i x hx
  rw [List.getElem?_drop] at hx
  obtain ⟨b', off', e, hc⟩ := h (n + i) x hx
  injection e with e
  injection e with e1 e2
  subst e1 e2
  exact ⟨b, off + n, rfl, by rw [Nat.add_assoc]; exact hc⟩
theorem VRow.take {w : World} {A : Option Addr} {vs : List Value} (h : VRow w A vs) (n : Nat) : VRow w A (vs.take n) := by
  intro i x hx
  rw [List.getElem?_take] at hx
  split at hx
  · exact h i x hx
  · cases hx
theorem vrow_news {w : World} {ad : Addr} {vs : List Value} (hA : VRow w (some ad) vs) : ∀ (j : Nat) (u : Value), vs[j]? = some u → w.cell? (ad.add j) = some u := by
  intro j u hu
  obtain ⟨b, off, e, hc⟩ := hA j u hu
  obtain rfl : ad = ⟨b, off, none⟩ := by injection e
  rw [add_none_, hc]
theorem vrow_lit (w : World) (x : Value) (e : TypeId) : VRow (w.alloc (.cells #[x] e)) (some ⟨w.heap.size, 0, none⟩) [x] := by
  intro i y hy
  rcases i with _ | i
  · simp at hy; subst hy
    exact ⟨w.heap.size, 0, rfl, by rw [cell_of_row _ _ _ _ _ _ (heap_alloc_new w _)]; rfl⟩
  · simp at hy
theorem run_append_vals {P : Program} (w : World) (t ty e : TypeId) (i : TypeInfo) (z : Value) (by_ : Nat) (ht : P.underlying t = some (.slice e)) (hi : P.info? e = some i) (hz : i.zero = some z) (hzc : z.cells.size = 1)
    (hsize : i.size = 1) (hby : i.bytes = by_) (v : Value) (n : Nat) (xs : List Value) (hown : w.ownsRow 0 e 1 v n xs) (A : Option Addr) (c : Nat) (ys : List Value) (hA : VRow w A ys) (h1 : ∀ u ∈ ys, u.oneCell' = true) (hc : A = none → c = 0)
    (h63 : n + ys.length ≤ maxLen) (hb : (n + ys.length) * by_ ≤ 140737488355328) :
    ∃ v' w', (Builtin.append_ #[t, t] ty #[v, .slice A ys.length c]).run P w = .ok v' w' ∧ w'.ownsRow 0 e 1 v' (n + ys.length) (xs ++ ys) ∧ Step w w' (rowOf v) (rowOf v') := by
  rcases A with _ | ad
  · have hys : ys = [] := by
      rcases ys with _ | ⟨y, r⟩
      · rfl
      · obtain ⟨_, _, h', _⟩ := hA 0 y (by simp)
        cases h'
    subst hys
    have hc0 := hc rfl
    subst hc0
    exact ⟨v, w, run_append_owned_none (P := P) w 0 t ty e i 1 ht hi v n xs hown, by simpa using hown, Step.refl _ _⟩
  · have hnews := vrow_news hA
    rcases hown.2 with ⟨rfl, rfl⟩ | ⟨g, cap, cur, rfl, hbg, hg, hnc, hcm, hcs, htake⟩
    · have hx : xs = [] := List.eq_nil_of_length_eq_zero (by simpa using hown.1)
      subst hx
      obtain ⟨v', w', hr, ho, hgr, _⟩ := run_append_own (P := P) w w.heap.size t ty e i z 1 by_ ht hi hz hsize hby hzc (by decide) (.slice none 0 0) 0 [] (World.ownsRow_nil _ _ _ _) ad ys.length c ys (by simp) hnews h1 h63 hb (Nat.le_refl _)
      exact ⟨v', w', hr, ownsRow_zero ho, (Moved.refl w _).grown hgr (fun k hk => .inl (mem_rowOf.2 hk)), fun k hk => .inr (ho.lt k (mem_rowOf.1 hk)).1⟩
    · by_cases hroom : n + ys.length ≤ cap
      · obtain ⟨w', hr, ho, hgr⟩ := run_append_fits (P := P) w 0 t ty e i 1 ht hi hsize g n cap xs hown ad ys.length c ys (by simp) hnews h1 hroom
        exact ⟨_, w', hr, ho, (Moved.refl w _).grown hgr (fun k hk => .inl (by rw [mem_rowOf]; exact hk)), fun k hk => .inl hk⟩
      · obtain ⟨v', w', hr, ho, hgr⟩ := run_append_arg_grows (P := P) w t ty e i z 1 by_ ht hi hz hsize hby hzc (by decide) ⟨g, 0, none⟩ n cap xs hown.1 (hown.cells (g := g) rfl) ad ys.length c ys (by simp) hnews (by omega) h63 hb
        exact ⟨v', w', hr, ownsRow_zero ho, (Moved.refl w _).grown hgr (fun k hk => by cases hk), fun k hk => .inr (ho.lt k (mem_rowOf.1 hk)).1⟩
/-- The walk's law: append of values of one cell onto a row of the call's own. -/
theorem wpList_append_vals {P : Program} {w : World} {ops : Array Oper} {rest : List Oper} {o : Oper} {a : Act} {Q : Exit → Act → World → Prop} (hgd : o.guard = none) (s x : Operand) (t : TypeId)
    (ho : o.op = .call { callee := .builtin .append, args := #[s, x], argTypes := #[t, t] })
    (e : TypeId) (i : TypeInfo) (z : Value) (by_ : Nat) (ht : P.underlying t = some (.slice e)) (hi : P.info? e = some i) (hz : i.zero = some z) (hzc : z.cells.size = 1) (hsize : i.size = 1) (hby : i.bytes = by_)
    (v : Value) (n : Nat) (xs : List Value) (hs : a.eval s = v) (hown : w.ownsRow 0 e 1 v n xs)
    (A : Option Addr) (m c : Nat) (ys : List Value) (hx : a.eval x = .slice A m c) (hm : ys.length = m) (hA : VRow w A ys) (h1 : ∀ u ∈ ys, u.oneCell' = true) (hc : A = none → c = 0)
    (h63 : n + m ≤ maxLen) (hb : (n + m) * by_ ≤ 140737488355328)
    (h : ∀ v' w', w'.ownsRow 0 e 1 v' (n + m) (xs ++ ys) → Step w w' (rowOf v) (rowOf v') → wpList P ops Q rest (a.put o.dst v') w') : wpList P ops Q (o :: rest) a w := by
  subst hm
  refine wpList_plain hgd fun K hK' => ?_
  obtain ⟨v', w', hrun, r1, r2⟩ := run_append_vals (P := P) w t o.type e i z by_ ht hi hz hzc hsize hby v n xs hown A c ys hA h1 hc h63 hb
  unfold Oper.wp
  simp [execOp, ho, resolve, invoke, builtin, hs, hx, hrun, Result.andThen]
  exact hK' _ _ (h v' w' r1 r2)

/-! ### a value that reads as bytes; a row of these -/
/-- The value v reads as the bytes p. -/
def Bites (w : World) (v : Value) (p : List Int) : Prop :=
  ∃ A c, v = .slice A p.length c ∧ NRow .u8 w A p ∧ (A = none → c = 0) ∧ p.length ≤ c ∧ c ≤ 9223372036854775807
theorem Bites.of_own {w : World} {base : Nat} {e : TypeId} {v : Value} {p : List Int} (h : w.ownsRow base e 1 v p.length (p.map (Value.int .u8))) : Bites w v p := by
  obtain ⟨A, c, rfl, hc, h1, h2⟩ := own_shape h
  exact ⟨A, c, rfl, NRow.of_own h, hc, h1, h2⟩
theorem Bites.one {w : World} {v : Value} {p : List Int} (h : Bites w v p) : v.oneCell' = true := by
  obtain ⟨A, c, rfl, _⟩ := h; rfl
/-- The blocks from which a value's bytes are read. -/
def bitesOf (v : Value) (p : List Int) : List Nat := match v with | .slice A _ _ => rowX A p | _ => []
theorem Bites.stays {w w' : World} {v : Value} {p : List Int} (h : Bites w v p) (hS : ∀ b ∈ bitesOf v p, w'.heap[b]? = w.heap[b]?) : Bites w' v p := by
  obtain ⟨A, c, rfl, hA, r⟩ := h
  exact ⟨A, c, rfl, nrowx_stays hA hS, r⟩
theorem Bites.lt {w : World} {v : Value} {p : List Int} (h : Bites w v p) : ∀ b ∈ bitesOf v p, b < w.heap.size := by
  obtain ⟨A, c, rfl, hA, r⟩ := h
  exact hA.ltX
/-- The slice that begins at A reads as the rows ps; vs are its elements. -/
def BRows (w : World) (A : Option Addr) (vs : List Value) (ps : List (List Int)) : Prop :=
  VRow w A vs ∧ vs.length = ps.length ∧ ∀ (i : Nat) (v : Value) (p : List Int), vs[i]? = some v → ps[i]? = some p → Bites w v p
/-- The blocks from which rows are read. -/
def rowsOf (A : Option Addr) (vs : List Value) (ps : List (List Int)) : List Nat := (match A, vs with | some a, _ :: _ => [a.block] | _, _ => []) ++ (List.zipWith bitesOf vs ps).flatten
theorem BRows.stays {w w' : World} {A : Option Addr} {vs : List Value} {ps : List (List Int)} (h : BRows w A vs ps) (hS : ∀ b ∈ rowsOf A vs ps, w'.heap[b]? = w.heap[b]?) : BRows w' A vs ps := by
  refine ⟨h.1.stays (fun a ha hv => hS _ ?_), h.2.1, fun i v p hv hp => (h.2.2 i v p hv hp).stays (fun b hb => hS b ?_)⟩
  · subst ha
    rcases vs with _ | ⟨v, r⟩
    · exact absurd rfl hv
    · exact List.mem_append.2 (.inl (by simp))
  · refine List.mem_append.2 (.inr (List.mem_flatten.2 ⟨bitesOf v p, ?_, hb⟩))
    rw [List.mem_iff_getElem?]
    exact ⟨i, by rw [List.getElem?_zipWith, hv, hp]⟩
theorem BRows.lt {w : World} {A : Option Addr} {vs : List Value} {ps : List (List Int)} (h : BRows w A vs ps) : ∀ b ∈ rowsOf A vs ps, b < w.heap.size := by
  intro b hb
  rcases List.mem_append.1 hb with hb | hb
  · rcases A with _ | a
    · simp at hb
    · rcases vs with _ | ⟨v, r⟩
      · simp at hb
      · obtain ⟨b', off, e, hc⟩ := h.1 0 v rfl
        injection e with e
        subst e
        simp at hb
        subst hb
        exact World.block_lt_of_cell? w _ hc
  · obtain ⟨l, hl, hb⟩ := List.mem_flatten.1 hb
    rw [List.mem_iff_getElem?] at hl
    obtain ⟨i, hi⟩ := hl
    rw [List.getElem?_zipWith] at hi
    rcases hv : vs[i]? with _ | v
    · rw [hv] at hi; simp at hi
    · rcases hp : ps[i]? with _ | p
      · rw [hv, hp] at hi; simp at hi
      · rw [hv, hp] at hi
        simp at hi
        subst hi
        exact (h.2.2 i v p hv hp).lt b hb
theorem BRows.moved {w w' : World} {A : Option Addr} {vs : List Value} {ps : List (List Int)} {S : List Nat} (h : BRows w A vs ps) (hM : Moved w w' S) (hS : ∀ b ∈ rowsOf A vs ps, b ∉ S) : BRows w' A vs ps :=
  h.stays fun b hb => hM.block b (h.lt b hb) (hS b hb)
theorem BRows.drewN {w : World} {A : Option Addr} {vs : List Value} {ps : List (List Int)} (h : BRows w A vs ps) (n : Nat) : BRows (w.drewN n) A vs ps := h
theorem BRows.at_ {w : World} {A : Option Addr} {vs : List Value} {ps : List (List Int)} (h : BRows w A vs ps) {i : Nat} (hi : i < ps.length) :
    ∃ b off B c p, A = some ⟨b, off, none⟩ ∧ ps[i]? = some p ∧ w.cell? ⟨b, off + i, none⟩ = some (.slice B p.length c) ∧ NRow .u8 w B p ∧ (B = none → c = 0) ∧ p.length ≤ c ∧ c ≤ 9223372036854775807 ∧ vs[i]? = some (.slice B p.length c) := by
  have hv : i < vs.length := by rw [h.2.1]; exact hi
  obtain ⟨b, off, rfl, hc⟩ := h.1 i vs[i] (List.getElem?_eq_getElem hv)
  obtain ⟨B, c, e, r1, r2, r3, r4⟩ := h.2.2 i vs[i] ps[i] (List.getElem?_eq_getElem hv) (List.getElem?_eq_getElem hi)
  refine ⟨b, off, B, c, ps[i], rfl, List.getElem?_eq_getElem hi, by rw [hc, e], r1, r2, r3, r4, by rw [List.getElem?_eq_getElem hv, e]⟩

/-- A call that leaves the world as it is, in a region of a loop whose rounds drew. -/
theorem calls_still {P : Program} {f : FuncId} {args : Array Value} {w : World} {k l : Nat} {v : Value} (h : Calls P f args (w.drewN (k + l)) fun e w' => e = .returned v ∧ w.drewN (k + l) = w') :
    Calls P f args (w.drewN (k + l)) fun e w' => e = .returned v ∧ ∃ m, w' = w.drewN (k + m) :=
  h.mono fun _ _ h => ⟨h.1, l, h.2.symm⟩
end Go.Proofs.YtekleamkpfeifaaDoor
