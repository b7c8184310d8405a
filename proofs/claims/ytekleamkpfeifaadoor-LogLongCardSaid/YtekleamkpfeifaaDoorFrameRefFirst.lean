/-
  CONTRACT of hanseref04.First.
-/
import Derived.Test.YtekleamkpfeifaaDoorFrameRefSeal2
namespace Go.Proofs.YtekleamkpfeifaaDoor
namespace Fr
open Go.RowKit
/-- The payload of the frame at the beginning, if there is one. -/
def firstOf (xs : List Int) : Option (List Int) :=
  if xs.length < 8 then none
  else if 131072 < (numB xs).toNat ∨ xs.length - 8 < (numB xs).toNat then none
  else if frameOf ((xs.drop 8).take (numB xs).toNat) = xs.take (8 + (numB xs).toNat) then some ((xs.drop 8).take (numB xs).toNat) else none
def firstP (xs : List Int) : List Int := (firstOf xs).getD []
def firstN (xs : List Int) : Int := match firstOf xs with | some p => 8 + p.length | none => 0
def firstE (xs : List Int) : Int := match firstOf xs with | some _ => 0 | none => 4
/-- New bytes, a number and an error. -/
def ToldF (out : List Int) (n e : Int) (w : World) (r : Ending) (w' : World) : Prop :=
  ∃ v, r = .returned (.tuple #[v, .int .i64 n, .int .i64 e]) ∧ w'.ownsRow 0 5 1 v out.length (out.map (Value.int .u8)) ∧ Step w w' [] (rowOf v)
theorem first_none {xs : List Int} (h : firstOf xs = none) : firstP xs = [] ∧ firstN xs = 0 ∧ firstE xs = 4 := by simp [firstP, firstN, firstE, h]
theorem first_some {xs p : List Int} (h : firstOf xs = some p) : firstP xs = p ∧ firstN xs = 8 + p.length ∧ firstE xs = 0 := by simp [firstP, firstN, firstE, h]
theorem numB_bound {xs : List Int} (hb : ByteList xs) : 0 ≤ numB xs ∧ numB xs ≤ 4294967295 := by
  have h : ∀ i, 0 ≤ xs.getD i 0 ∧ xs.getD i 0 ≤ 255 := by
    intro i
    rw [List.getD_eq_getElem?_getD]
    cases hx : xs[i]? with
    | none => simp
    | some x => simpa using hb x (List.mem_of_getElem? hx)
  have h0 := h 0
  have h1 := h 1
  have h2 := h 2
  have h3 := h 3
  unfold numB
  omega
theorem str_ne {a b : List Int} (ha : ByteList a) (hb : ByteList b) (h : a ≠ b) : ((strOfNums a).toList == (strOfNums b).toList) = false := by
  rw [beq_eq_false_iff_ne]
  intro he
  rw [ByteArray.toList_eq, ByteArray.toList_eq] at he
  exact h (strOfNums_inj ha hb (ByteArray.ext (Array.toList_inj.1 he)))
theorem frameOf_bytes {p : List Int} (h : ByteList p) (hl : p.length < 4294967296) : ByteList (frameOf p) := ((be4_bytes hl).append (be4_bytes (sumOf_lt _))).append h
theorem toldf_none {w w' : World} (h : Moved w w' []) : ToldF [] 0 4 w (.returned (.tuple #[.slice none 0 0, .int .i64 0, .int .i64 4])) w' :=
  ⟨_, rfl, World.ownsRow_nil _ _ _ _, h, by simp [rowOf, Value.ownBlock]⟩
set_option maxRecDepth 100000 in
set_option maxHeartbeats 2000000 in
theorem reffirst_any (A : Option Addr) (n c : Nat) (xs : List Int) (w : World) (hA : NRow .u8 w A xs) (hn : xs.length = n) (hb : ByteList xs) (hnil : A = none → c = 0) (hc : n ≤ c) (hc2 : c ≤ 9223372036854775807) (hlen : n ≤ 70368744177664) :
    Calls Tryd.prog 62 #[.slice A n c] w (ToldF (firstP xs) (firstN xs) (firstE xs) w) := by
  subst hn
  obtain ⟨i0, hi, hz0, hz1, hz2⟩ := info_parts info_u8
  by_cases h8 : xs.length < 8
  · have HF := Lib.hid (first_none (xs := xs) (by rw [firstOf, if_pos h8]))
    rw [HF.out.1, HF.out.2.1, HF.out.2.2]
    go_enter Tryd.func62, Tryd.ntmps62
    go_wp2
    go_ret3
    exact toldf_none (Moved.refl _ _)
  have hbd := numB_bound hb
  obtain ⟨k, hk⟩ : ∃ k : Nat, numB xs = k := ⟨(numB xs).toNat, by omega⟩
  have hkt : (numB xs).toNat = k := by omega
  have HA := Lib.hid hA
  have HB := Lib.hid hb
  have HNIL := Lib.hid hnil
  have HK := Lib.hid hk
  have HKT := Lib.hid hkt
  clear hA hb hnil hk hbd hkt
  by_cases hbig : 131072 < k ∨ xs.length - 8 < k
  · have HF := Lib.hid (first_none (xs := xs) (by rw [firstOf, if_neg h8, HKT.out, if_pos hbig]))
    rw [HF.out.1, HF.out.2.1, HF.out.2.2]
    rcases hbig with h | h
    all_goals
      go_enter Tryd.func62, Tryd.ntmps62
      go_wp2_with (go_at_call 67; refine (refnumber_any A _ c xs w HA.out rfl HB.out (by omega) (by omega)).mono ?_; rintro e w1 ⟨rfl, m1, rfl⟩; rw [HK.out])
      all_goals
        go_ret3
        exact toldf_none ((Moved.refl _ _).drewN _)
  · have hk1 : k ≤ 131072 := by omega
    have hk2 : k ≤ xs.length - 8 := by omega
    obtain ⟨x0, hx0⟩ : ∃ x0, xs[0]? = some x0 := ⟨xs[0], List.getElem?_eq_getElem (by omega)⟩
    obtain ⟨b, off, rfl, -⟩ := HA.out 0 x0 hx0
    have HP := Lib.hid (((HA.out.drop 8).take k) : NRow .u8 w (some ⟨b, off + 8, none⟩) ((xs.drop 8).take k))
    have HPL := Lib.hid (show ((xs.drop 8).take k).length = k by simp; omega)
    have HBP := Lib.hid ((HB.out.drop 8).take k)
    have HP0 := Lib.hid (fun h : k = 0 => by subst h; exact NRow.none_ _ _ _ : k = 0 → NRow .u8 w (some ⟨b, off, none⟩) ((xs.drop 8).take k))
    have hbig2 := Lib.hid hbig
    clear hbig hx0
    obtain ⟨ps, hps⟩ : ∃ ps, ps = (xs.drop 8).take k := ⟨_, rfl⟩
    rw [← hps] at HP HPL HBP HP0
    have HPS := Lib.hid hps
    clear hps
    by_cases hc8 : c = 8
    · obtain rfl := hc8
      obtain rfl : k = 0 := by omega
      have HPX := Lib.hid (HP0.out rfl)
      go_enter Tryd.func62, Tryd.ntmps62
      go_wp2_with (first
        | (go_at_call 67; refine (refnumber_any _ _ _ xs w HA.out rfl HB.out (by omega) (by omega)).mono ?_; rintro e w1 ⟨rfl, m1, rfl⟩; rw [HK.out])
        | (at_builtin; refine wpList_append_row rfl (.tmp 23) (.tmp 27) 27 rfl 5 i0 .u8 1 Tryd.underlying27 hi hz0 hz1 hz2 (.slice none 0 0) 0 [] rfl (World.ownsRow_nil _ _ _ _) _ 0 _ ps rfl HPL.out HPX.out (fun h => by cases h) (by unfold maxLen; omega) (by omega) ?_))
      intro v2 w2 hO2 hS2
      have hO2 : w2.ownsRow 0 5 1 v2 0 (ps.map (Value.int .u8)) := by simpa using hO2
      obtain ⟨Av, cv, rfl, hvn, -⟩ := own_shape hO2
      have HO2 := Lib.hid hO2
      have HVN := Lib.hid hvn
      have HS2 := Lib.hid (show Step w w2 [] (rowOf (.slice Av 0 cv)) from ⟨((Moved.refl w []).drewN _).trans hS2.1 (fun _ h => by simp [rowOf, Value.ownBlock] at h), fun j hj => (hS2.2 j hj).elim (fun h => by simp [rowOf, Value.ownBlock] at h) .inr⟩)
      clear hO2 hvn hS2
      have hA3 : NRow .u8 w2 (some ⟨b, off, none⟩) xs := nrowx_moved HA.out HS2.out.1 (fun _ _ h => by cases h)
      have HA3 := Lib.hid hA3
      clear hA3
      go_wp2_with fail
      refine (refseal_any Av _ cv ps w2 (NRow.of_own HO2.out) HPL.out HBP.out HVN.out (by omega)).mono ?_
      rintro e w3 ⟨v3, rfl, hO3, hS3⟩
      have hso : sealOut ps = frameOf ps := by rw [sealOut, if_neg (by rw [HPL.out]; omega)]
      rw [hso] at hO3
      obtain ⟨A3, c3, rfl, -⟩ := own_shape hO3
      have hO23 := own_moved HO2.out hS3.1 (fun _ _ h => by cases h)
      have HO23 := Lib.hid hO23
      have HM3 := Lib.hid (HS2.out.1.trans hS3.1 (fun _ h => by cases h))
      have hA4 := nrowx_moved HA3.out hS3.1 (fun _ _ h => by cases h)
      have hv1 : ∀ m, (convert 27 9 (.slice A3 (frameOf ps).length c3)).run Tryd.prog (w3.drewN m) = .ok (.string (strOfNums (frameOf ps))) (w3.drewN m) := fun m =>
        run_convert_nrow _ _ _ 5 Tryd.underlying27 Tryd.underlying5 Tryd.underlying9 A3 _ c3 _ ((NRow.of_own hO3).drewN m) rfl
      have hv2 : ∀ m, (convert 27 9 (.slice (some ⟨b, off, none⟩) 8 8)).run Tryd.prog (w3.drewN m) = .ok (.string (strOfNums (xs.take 8))) (w3.drewN m) := fun m =>
        run_convert_nrow _ _ _ 5 Tryd.underlying27 Tryd.underlying5 Tryd.underlying9 _ _ 8 _ ((hA4.take 8).drewN m) (by simp; omega)
      by_cases heq : frameOf ps = xs.take 8
      · have HF := Lib.hid (first_some (xs := xs) (p := ps) (by rw [firstOf, if_neg h8, HKT.out, if_neg hbig2.out, ← HPS.out, if_pos heq]))
        have hne : ((strOfNums (frameOf ps)).toList == (strOfNums (xs.take 8)).toList) = true := by rw [heq]; simp
        clear hso hO3 hS3 hO23 hA4 heq
        go_wp2
        go_quiet (fail)
        go_wp2
        go_ret3
        rw [HF.out.1, HF.out.2.1, HF.out.2.2, HPL.out]
        exact ⟨_, rfl, by rw [HPL.out]; exact HO23.out, HM3.out.drewN _, HS2.out.2⟩
      · have HF := Lib.hid (first_none (xs := xs) (by rw [firstOf, if_neg h8, HKT.out, if_neg hbig2.out, ← HPS.out, if_neg heq]))
        have hne := str_ne (frameOf_bytes HBP.out (by rw [HPL.out]; omega)) (HB.out.take 8) heq
        clear hso hO3 hS3 hO23 hA4 heq
        go_wp2
        go_quiet (fail)
        go_wp2
        go_ret3
        rw [HF.out.1, HF.out.2.1, HF.out.2.2]
        exact toldf_none (HM3.out.drewN _)
    · have hc9 : 8 < c := by omega
      go_enter Tryd.func62, Tryd.ntmps62
      go_wp2_with (first
        | (go_at_call 67; refine (refnumber_any _ _ _ xs w HA.out rfl HB.out (by omega) (by omega)).mono ?_; rintro e w1 ⟨rfl, m1, rfl⟩; rw [HK.out])
        | (at_builtin; refine wpList_append_row rfl (.tmp 23) (.tmp 27) 27 rfl 5 i0 .u8 1 Tryd.underlying27 hi hz0 hz1 hz2 (.slice none 0 0) 0 [] rfl (World.ownsRow_nil _ _ _ _) _ _ _ ps rfl (by rw [HPL.out]; omega) HP.out (fun h => by cases h) (by unfold maxLen; omega) (by omega) ?_))
      intro v2 w2 hO2 hS2
      have hO2 : w2.ownsRow 0 5 1 v2 k (ps.map (Value.int .u8)) := by simpa using hO2
      obtain ⟨Av, cv, rfl, hvn, -⟩ := own_shape hO2
      have HO2 := Lib.hid hO2
      have HVN := Lib.hid hvn
      have HS2 := Lib.hid (show Step w w2 [] (rowOf (.slice Av k cv)) from ⟨((Moved.refl w []).drewN _).trans hS2.1 (fun _ h => by simp [rowOf, Value.ownBlock] at h), fun j hj => (hS2.2 j hj).elim (fun h => by simp [rowOf, Value.ownBlock] at h) .inr⟩)
      clear hO2 hvn hS2
      have hA3 : NRow .u8 w2 (some ⟨b, off, none⟩) xs := nrowx_moved HA.out HS2.out.1 (fun _ _ h => by cases h)
      have HA3 := Lib.hid hA3
      clear hA3
      go_wp2_with fail
      refine (refseal_any Av _ cv ps w2 (NRow.of_own HO2.out) HPL.out HBP.out HVN.out (by omega)).mono ?_
      rintro e w3 ⟨v3, rfl, hO3, hS3⟩
      have hso : sealOut ps = frameOf ps := by rw [sealOut, if_neg (by rw [HPL.out]; omega)]
      rw [hso] at hO3
      obtain ⟨A3, c3, rfl, -⟩ := own_shape hO3
      have hO23 := own_moved HO2.out hS3.1 (fun _ _ h => by cases h)
      have HO23 := Lib.hid hO23
      have HM3 := Lib.hid (HS2.out.1.trans hS3.1 (fun _ h => by cases h))
      have hA4 := nrowx_moved HA3.out hS3.1 (fun _ _ h => by cases h)
      have hv1 : ∀ m, (convert 27 9 (.slice A3 (frameOf ps).length c3)).run Tryd.prog (w3.drewN m) = .ok (.string (strOfNums (frameOf ps))) (w3.drewN m) := fun m =>
        run_convert_nrow _ _ _ 5 Tryd.underlying27 Tryd.underlying5 Tryd.underlying9 A3 _ c3 _ ((NRow.of_own hO3).drewN m) rfl
      have hv2 : ∀ m, (convert 27 9 (.slice (some ⟨b, off, none⟩) (8 + k) c)).run Tryd.prog (w3.drewN m) = .ok (.string (strOfNums (xs.take (8 + k)))) (w3.drewN m) := fun m =>
        run_convert_nrow _ _ _ 5 Tryd.underlying27 Tryd.underlying5 Tryd.underlying9 _ _ c _ ((hA4.take (8 + k)).drewN m) (by simp; omega)
      have s1 : IntKind.i64.wrap ((8 : Int) + (k : Nat)) = (8 : Int) + (k : Nat) := IntWalk.i64_in _ (by omega)
      have s2 : (0 : Int) ≤ (8 : Int) + (k : Nat) := by omega
      have s3 : ((8 : Int) + (k : Nat)).toNat = 8 + k := by omega
      have s4 : (8 : Int) + (k : Nat) ≤ (c : Nat) := by omega
      have s5 : 8 + k ≤ c := by omega
      by_cases heq : frameOf ps = xs.take (8 + k)
      · have HF := Lib.hid (first_some (xs := xs) (p := ps) (by rw [firstOf, if_neg h8, HKT.out, if_neg hbig2.out, ← HPS.out, if_pos heq]))
        have hne : ((strOfNums (frameOf ps)).toList == (strOfNums (xs.take (8 + k))).toList) = true := by rw [heq]; simp
        clear hso hO3 hS3 hO23 hA4 heq
        go_wp2
        go_quiet (fail)
        go_wp2
        go_ret3
        rw [HF.out.1, HF.out.2.1, HF.out.2.2, HPL.out]
        exact ⟨_, rfl, by rw [HPL.out]; exact HO23.out, HM3.out.drewN _, HS2.out.2⟩
      · have HF := Lib.hid (first_none (xs := xs) (by rw [firstOf, if_neg h8, HKT.out, if_neg hbig2.out, ← HPS.out, if_neg heq]))
        have hne := str_ne (frameOf_bytes HBP.out (by rw [HPL.out]; omega)) (HB.out.take (8 + k)) heq
        clear hso hO3 hS3 hO23 hA4 heq
        go_wp2
        go_quiet (fail)
        go_wp2
        go_ret3
        rw [HF.out.1, HF.out.2.1, HF.out.2.2]
        exact toldf_none (HM3.out.drewN _)
end Fr
end Go.Proofs.YtekleamkpfeifaaDoor
