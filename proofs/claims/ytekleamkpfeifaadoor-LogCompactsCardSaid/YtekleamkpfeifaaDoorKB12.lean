/-
  1 texts in one: LogFind.
-/
import Derived.Test.YtekleamkpfeifaaDoorKB11

/-
  CONTRACTS of package journal's take, find.
-/
namespace Go.Proofs.YtekleamkpfeifaaDoor
namespace Lg
open Go.RowKit Dk Fr
set_option maxRecDepth 100000 in
set_option maxHeartbeats 1000000 in
theorem take_none (l : Nat) (A : Option Addr) (c : Nat) (f : Bool) (w : World) :
    Calls Tryd.prog 66 #[.pointer (some ⟨l, 0, none⟩), .slice A 0 c, .bool f] w fun r w' => r = .returned (.bool false) ∧ Moved w w' [] := by
  go_enter Tryd.func66, Tryd.ntmps66
  go_wp2
  go_ret
  exact ⟨rfl, Moved.refl _ _⟩
set_option maxRecDepth 100000 in
set_option maxHeartbeats 1000000 in
theorem take_rec (l p : Nat) (S : ByteArray) (R : List Rc) (g c : Nat) (t : List Int) (f : Bool) (w : World) (hG : GRaw w l p S R) (hA : NRow .u8 w (some ⟨g, 0, none⟩) (82 :: t)) (hc : t.length + 1 ≤ c) (hc2 : c ≤ 9223372036854775807) :
    Calls Tryd.prog 66 #[.pointer (some ⟨l, 0, none⟩), .slice (some ⟨g, 0, none⟩) (t.length + 1) c, .bool f] w fun r w' => r = .returned (.bool true) ∧ ∃ b, w.heap.size ≤ b ∧ GRaw w' l p S (⟨b, strOfNums t⟩ :: R) ∧ Moved w w' [l] := by
  have hx0 : w.cell? ⟨g, 0, none⟩ = some (.int .u8 82) := by
    obtain ⟨b, off, e, h⟩ := hA 0 82 rfl
    injection e with e
    injection e with e1 e2
    subst e1 e2
    exact h
  have HG := Lib.hid hG
  have HT := Lib.hid (show NRow .u8 w (some ⟨g, 0 + 1, none⟩) t from hA.drop 1)
  clear hG hA
  by_cases hc1 : c = 1
  · have htl : t.length = 0 := by omega
    obtain rfl : t = [] := List.eq_nil_of_length_eq_zero htl
    obtain rfl := hc1
    clear htl
    go_enter Tryd.func66, Tryd.ntmps66
    go_wp2
    go_quiet (fail)
    go_wp2_with fail
    refine (add_any l p S R _ 0 _ [] _ (HG.out.drewN _) (NRow.none_ _ _ _) rfl).mono ?_
    rintro e w3 ⟨rfl, b, hb3, hG3, hM3⟩
    have HG3 := Lib.hid hG3
    have HM3 := Lib.hid (show Moved w w3 [l] from ⟨hM3.os, hM3.tape, hM3.output, hM3.size, hM3.block⟩)
    have HB3 := Lib.hid (show w.heap.size ≤ b from hb3)
    clear hb3 hG3 hM3
    go_wp2
    go_ret
    exact ⟨rfl, b, HB3.out, HG3.out, HM3.out⟩
  · have hc3 : 1 < c := by omega
    go_enter Tryd.func66, Tryd.ntmps66
    go_wp2
    go_quiet (fail)
    go_wp2_with fail
    refine (add_any l p S R _ t.length _ t _ (HG.out.drewN _) (by exact HT.out.drewN _) rfl).mono ?_
    rintro e w3 ⟨rfl, b, hb3, hG3, hM3⟩
    have HG3 := Lib.hid hG3
    have HM3 := Lib.hid (show Moved w w3 [l] from ⟨hM3.os, hM3.tape, hM3.output, hM3.size, hM3.block⟩)
    have HB3 := Lib.hid (show w.heap.size ≤ b from hb3)
    clear hb3 hG3 hM3
    go_wp2
    go_ret
    exact ⟨rfl, b, HB3.out, HG3.out, HM3.out⟩
/-- The snapshot, where nothing stands ahead of it. -/
def Snapped (l p : Nat) (S : ByteArray) (R : List Rc) (w : World) (r : Ending) (w' : World) : Prop :=
  r = .returned (.bool true) ∧ GRaw w' l p S R ∧ Moved w w' [l]
set_option maxRecDepth 100000 in
set_option maxHeartbeats 1000000 in
theorem take_snap (l p : Nat) (S : ByteArray) (R : List Rc) (g c : Nat) (t : List Int) (w : World) (hG : GRaw w l p S R) (hA : NRow .u8 w (some ⟨g, 0, none⟩) (83 :: t)) (hc : t.length + 1 ≤ c) (hc2 : c ≤ 9223372036854775807) :
    Calls Tryd.prog 66 #[.pointer (some ⟨l, 0, none⟩), .slice (some ⟨g, 0, none⟩) (t.length + 1) c, .bool true] w (Snapped l p (strOfNums t) R w) := by
  have hx0 : w.cell? ⟨g, 0, none⟩ = some (.int .u8 83) := by
    obtain ⟨b, off, e, h⟩ := hA 0 83 rfl
    injection e with e
    injection e with e1 e2
    subst e1 e2
    exact h
  have HG := Lib.hid hG
  have d1 := cell_at hG.at_ 1 (v := .string S) rfl
  have g1 := free_at hG.at_ 1
  have hT := (show NRow .u8 w (some ⟨g, 0 + 1, none⟩) t from hA.drop 1)
  have hcv := fun k => run_convert_nrow (P := Tryd.prog) (w.drewN k) 27 9 5 Tryd.underlying27 Tryd.underlying5 Tryd.underlying9 (some ⟨g, 0 + 1, none⟩) t.length (c - 1) t (hT.drewN k) rfl
  have hcv0 := fun k => run_convert_nrow (P := Tryd.prog) (w.drewN k) 27 9 5 Tryd.underlying27 Tryd.underlying5 Tryd.underlying9 (some ⟨g, 0, none⟩) 0 0 [] (NRow.none_ _ _ _) rfl
  clear hG hA hT
  by_cases hc1 : c = 1
  · have htl : t.length = 0 := by omega
    obtain rfl : t = [] := List.eq_nil_of_length_eq_zero htl
    obtain rfl := hc1
    clear htl hcv
    go_enter Tryd.func66, Tryd.ntmps66
    go_wp2
    go_quiet (fail)
    go_wp2
    go_ret
    exact ⟨rfl, (HG.out.drewN _).set1 _, ((Moved.refl w [l]).drewN _).setCell (.inl (by simp)) _⟩
  · have hc3 : 1 < c := by omega
    clear hcv0
    go_enter Tryd.func66, Tryd.ntmps66
    go_wp2
    go_quiet (fail)
    go_wp2
    go_ret
    exact ⟨rfl, (HG.out.drewN _).set1 _, ((Moved.refl w [l]).drewN _).setCell (.inl (by simp)) _⟩
set_option maxRecDepth 100000 in
set_option maxHeartbeats 1000000 in
theorem take_other (l : Nat) (g c : Nat) (x : Int) (t : List Int) (f : Bool) (w : World) (hA : NRow .u8 w (some ⟨g, 0, none⟩) (x :: t)) (hc : t.length + 1 ≤ c) (hx : x ≠ 82) (hs : f = false ∨ x ≠ 83) :
    Calls Tryd.prog 66 #[.pointer (some ⟨l, 0, none⟩), .slice (some ⟨g, 0, none⟩) (t.length + 1) c, .bool f] w fun r w' => r = .returned (.bool false) ∧ Moved w w' [] := by
  have hx0 : w.cell? ⟨g, 0, none⟩ = some (.int .u8 x) := by
    obtain ⟨b, off, e, h⟩ := hA 0 x rfl
    injection e with e
    injection e with e1 e2
    subst e1 e2
    exact h
  clear hA
  have b1 : (x == 82) = false := by simpa using hx
  by_cases h83 : x = 83
  · obtain rfl := h83
    obtain rfl : f = false := by simpa using hs
    clear hs hx b1
    by_cases hc1 : c = 1
    · go_enter Tryd.func66, Tryd.ntmps66
      go_wp2
      go_quiet (fail)
      go_wp2
      go_ret
      exact ⟨rfl, (Moved.refl _ _).drewN _⟩
    · go_enter Tryd.func66, Tryd.ntmps66
      go_wp2
      go_quiet (fail)
      go_wp2
      go_ret
      exact ⟨rfl, (Moved.refl _ _).drewN _⟩
  · have b2 : (x == 83) = false := by simpa using h83
    clear hs hx h83
    by_cases hc1 : c = 1
    · go_enter Tryd.func66, Tryd.ntmps66
      go_wp2
      go_quiet (fail)
      go_wp2
      go_ret
      exact ⟨rfl, (Moved.refl _ _).drewN _⟩
    · go_enter Tryd.func66, Tryd.ntmps66
      go_wp2
      go_quiet (fail)
      go_wp2
      go_ret
      exact ⟨rfl, (Moved.refl _ _).drewN _⟩
/-- What find tells, and what the Log has then. -/
def Found (l p : Nat) (xs : List Int) (w : World) (r : Ending) (w' : World) : Prop :=
  ∃ S R, r = .returned (.int .i64 (logOf xs).2.2) ∧ GRaw w' l p S R ∧ Pk.nums S = (logOf xs).1 ∧ rtexts R = (logOf xs).2.1 ∧ (∀ k ∈ rblks R, w.heap.size ≤ k) ∧ Moved w w' [l]
set_option maxRecDepth 100000 in
set_option maxHeartbeats 4000000 in
theorem find_any (l p : Nat) (A : Option Addr) (n c : Nat) (xs : List Int) (w : World) (hG : GRaw w l p ByteArray.empty []) (hA : NRow .u8 w A xs) (hn : xs.length = n) (hb : ByteList xs) (hnil : A = none → c = 0) (hc : n ≤ c) (hc2 : c ≤ 9223372036854775807) (hlen : n ≤ 1099511627776) (hld : Ld w) (hgl : 0 ∉ [l]) (hal : ∀ b ∈ rowX A xs, b ∉ [l]) :
    Calls Tryd.prog 56 #[.pointer (some ⟨l, 0, none⟩), .slice A n c] w (Found l p xs w) := by
  subst hn
  have HA := Lib.hid hA
  have HB := Lib.hid hb
  have HNIL := Lib.hid hnil
  have HLD := Lib.hid hld
  have HGL := Lib.hid hgl
  have HAL := Lib.hid hal
  have HG := Lib.hid hG
  clear hA hb hnil hld hgl hal hG
  go_enter Tryd.func56, Tryd.ntmps56
  go_wp2
  go_loopw [5] (fun i wr => ∃ (k : Nat) (S : ByteArray) (R : List Rc), i = .int .i64 k ∧ k ≤ xs.length ∧ Hid (PartsIs xs (Pk.nums S) (rtexts R) k) ∧ GRaw wr l p S R ∧ Moved w wr [l] ∧ Hid (∀ k ∈ rblks R, w.heap.size ≤ k)) (fun i _ => xs.length - (intOf i).toNat)
  case atStart => exact ⟨0, _, [], rfl, by omega, .inl ⟨rfl, rfl, rfl⟩, HG.out, Moved.refl _ _, fun k hk => by cases hk⟩
  case round =>
    obtain ⟨k, S, R, rfl, hk, H, hG, hMW, HFR⟩ := hrel
    have HG1 := Lib.hid hG
    have HMW := Lib.hid hMW
    have HA1 := Lib.hid (nrowx_moved HA.out hMW HAL.out)
    have HL1 := Lib.hid (HLD.out.moves hMW HGL.out)
    clear hG hMW
    by_cases hck : c = k
    · have HD := Lib.hid (show xs.drop k = [] from List.drop_of_length_le (by omega))
      have hf : firstOf (xs.drop k) = none := by rw [HD.out, firstOf, if_pos (by simp)]
      have HE := Lib.hid (parts_stop H.out (laid_none hf) (fun h0 => by rw [h0, List.drop_zero] at hf; exact laid_none hf))
      have HF := Lib.hid (first_none hf)
      obtain rfl := hck
      clear hf
      go_wp2_with fail
      refine (first_any A _ _ (xs.drop c) wr (by rw [HD.out]; exact NRow.none_ _ _ _) (by rw [HD.out]; simp; try omega) (HB.out.drop c) (fun _ => by omega) (by omega) (by omega) (by omega) HL1.out).mono ?_
      rw [HF.out.1, HF.out.2.1, HF.out.2.2]
      rintro e w1 ⟨v1, rfl, hO1, hS1⟩
      obtain ⟨Av, cv, rfl, -⟩ := own_shape hO1
      have HM1 := Lib.hid hS1.1
      clear hO1 hS1
      go_wp2
      go_ret
      exact ⟨S, R, by rw [HE.out]; rfl, HG1.out.still HM1.out, by rw [HE.out], by rw [HE.out], HFR.out, HMW.out.trans HM1.out (fun _ h => by cases h)⟩
    · obtain ⟨ad, rfl⟩ : ∃ ad, A = some ad := by
        rcases A with _ | ad
        · exact absurd (HNIL.out rfl) (by omega)
        · exact ⟨ad, rfl⟩
      have hck2 : k < c := by omega
      have HA2 := Lib.hid (nrow_from HA1.out k)
      rcases hf : firstOf (xs.drop k) with _ | (_ | ⟨x, t⟩)
      · have HE := Lib.hid (parts_stop H.out (laid_none hf) (fun h0 => by rw [h0, List.drop_zero] at hf; exact laid_none hf))
        have HF := Lib.hid (first_none hf)
        clear hf
        go_wp2_with fail
        refine (first_any (some (ad.add k)) _ _ (xs.drop k) wr HA2.out (by simp) (HB.out.drop k) (fun h => by cases h) (by omega) (by omega) (by omega) HL1.out).mono ?_
        rw [HF.out.1, HF.out.2.1, HF.out.2.2]
        rintro e w1 ⟨v1, rfl, hO1, hS1⟩
        obtain ⟨Av, cv, rfl, -⟩ := own_shape hO1
        have HM1 := Lib.hid hS1.1
        clear hO1 hS1
        go_wp2
        go_ret
        exact ⟨S, R, by rw [HE.out]; rfl, HG1.out.still HM1.out, by rw [HE.out], by rw [HE.out], HFR.out, HMW.out.trans HM1.out (fun _ h => by cases h)⟩
      · have HE := Lib.hid (parts_stop H.out (laid_empty hf) (fun h0 => by rw [h0, List.drop_zero] at hf; exact laid_empty hf))
        have HF := Lib.hid (first_some hf)
        clear hf
        go_wp2_with fail
        refine (first_any (some (ad.add k)) _ _ (xs.drop k) wr HA2.out (by simp) (HB.out.drop k) (fun h => by cases h) (by omega) (by omega) (by omega) HL1.out).mono ?_
        rw [HF.out.1, HF.out.2.1, HF.out.2.2]
        rintro e w1 ⟨v1, rfl, hO1, hS1⟩
        obtain ⟨Av, cv, rfl, -⟩ := own_shape hO1
        have HM1 := Lib.hid hS1.1
        clear hO1 hS1
        go_wp2_with fail
        refine (take_none l Av cv _ w1).mono ?_
        rintro e w2 ⟨rfl, hM2⟩
        have HM2 := Lib.hid (HM1.out.trans hM2 (fun _ h => by cases h))
        clear hM2
        go_wp2
        go_ret
        exact ⟨S, R, by rw [HE.out]; rfl, HG1.out.still HM2.out, by rw [HE.out], by rw [HE.out], HFR.out, HMW.out.trans HM2.out (fun _ h => by cases h)⟩
      · have HF := Lib.hid (first_some hf)
        have hpl : 9 + t.length ≤ xs.length - k := by
          have := first_len hf
          simp at this
          omega
        have HTB := Lib.hid (show ByteList t from fun y hy => first_bytes (HB.out.drop k) hf y (by simp [hy]))
        have HH := Lib.hid hf
        clear hf
        go_wp2_with fail
        refine (first_any (some (ad.add k)) _ _ (xs.drop k) wr HA2.out (by simp) (HB.out.drop k) (fun h => by cases h) (by omega) (by omega) (by omega) HL1.out).mono ?_
        rw [HF.out.1, HF.out.2.1, HF.out.2.2]
        rintro e w1 ⟨v1, rfl, hO1, hS1⟩
        obtain ⟨g, cap, rfl, hcap, hcap2⟩ : ∃ g cap, v1 = .slice (some ⟨g, 0, none⟩) (t.length + 1) cap ∧ (t.length + 1) ≤ cap ∧ cap ≤ maxLen := by
          rcases hO1.2 with ⟨_, h0⟩ | ⟨g, cap, cur, hv, hb, hh, h1, h2, _⟩
          · simp at h0
          · exact ⟨g, cap, hv, h1, h2⟩
        have hcap4 : cap ≤ 9223372036854775807 := by unfold maxLen at hcap2; omega
        have HM1 := Lib.hid hS1.1
        have HPR := Lib.hid (NRow.of_own hO1)
        have HG2 := Lib.hid (HG1.out.still hS1.1)
        have HMW1 := Lib.hid (HMW.out.trans hS1.1 (fun _ h => by cases h))
        rw [List.length_cons]
        clear hO1 hS1 hcap2
        by_cases h82 : x = 82
        · obtain rfl := h82
          go_wp2_with fail
          refine (take_rec l p S R g cap t _ w1 HG2.out HPR.out hcap hcap4).mono ?_
          rintro e w2 ⟨rfl, b, hb2, hG3, hM2⟩
          have HG3 := Lib.hid hG3
          have HM3 := Lib.hid (HMW1.out.trans hM2 (fun k hk => .inl hk))
          have HFR3 := Lib.hid (show ∀ k ∈ rblks (⟨b, strOfNums t⟩ :: R), w.heap.size ≤ k from fun k hk => (List.mem_cons.1 hk).elim (fun h => by rw [h]; exact Nat.le_trans HMW1.out.size hb2) (HFR.out k))
          have HIS := Lib.hid (show PartsIs xs (Pk.nums S) (rtexts (⟨b, strOfNums t⟩ :: R)) (k + (9 + t.length)) by rw [rtexts, Pk.nums_str HTB.out]; exact parts_rec H.out HH.out)
          clear hb2 hG3 hM2
          go_wp2
          go_roundw
          case rel => exact ⟨k + (9 + t.length), S, _, by go_num, by omega, HIS.out, HG3.out, HM3.out, HFR3.out⟩
          case measure => simp [intOf]; omega
        · by_cases h83 : x = 83 ∧ k = 0
          · obtain ⟨rfl, rfl⟩ := h83
            have hR : R = [] := by
              rcases H.out with ⟨_, _, h⟩ | ⟨h, _⟩
              · have := congrArg List.length h
                rw [rtexts_len] at this
                exact List.eq_nil_of_length_eq_zero this
              · omega
            obtain rfl := hR
            go_wp2_with fail
            refine (take_snap l p S [] g cap t w1 HG2.out HPR.out hcap hcap4).mono ?_
            rintro e w2 ⟨rfl, hG3, hM2⟩
            have HG3 := Lib.hid hG3
            have HM3 := Lib.hid (HMW1.out.trans hM2 (fun k hk => .inl hk))
            have HIS := Lib.hid (show PartsIs xs (Pk.nums (strOfNums t)) (rtexts []) (9 + t.length) by rw [Pk.nums_str HTB.out]; exact parts_snap H.out (by have := HH.out; rwa [List.drop_zero] at this))
            clear hG3 hM2
            go_wp2
            go_roundw
            case rel => exact ⟨9 + t.length, _, [], by go_num, by omega, HIS.out, HG3.out, HM3.out, fun k hk => by cases hk⟩
            case measure => simp [intOf]; omega
          · have HE := Lib.hid (parts_stop H.out (laid_other HH.out h82) (fun h0 => laid_other (d := x) (r := t) (by have := HH.out; rwa [h0, List.drop_zero] at this) (fun h => h83 ⟨h, h0⟩)))
            have hs : ((k : Int) == 0) = false ∨ x ≠ 83 := by
              by_cases h0 : k = 0
              · exact .inr (fun h => h83 ⟨h, h0⟩)
              · exact .inl (by rw [beq_eq_false_iff_ne]; omega)
            have HHS := Lib.hid hs
            have H82 := Lib.hid h82
            clear hs h82 h83
            go_wp2_with fail
            refine (take_other l g cap x t _ w1 HPR.out hcap H82.out HHS.out).mono ?_
            rintro e w2 ⟨rfl, hM2⟩
            have HM2 := Lib.hid (HM1.out.trans hM2 (fun _ h => by cases h))
            clear hM2
            go_wp2
            go_ret
            exact ⟨S, R, by rw [HE.out]; rfl, HG1.out.still HM2.out, by rw [HE.out], by rw [HE.out], HFR.out, HMW.out.trans HM2.out (fun _ h => by cases h)⟩
end Lg
end Go.Proofs.YtekleamkpfeifaaDoor
