/-
  CONTRACT of hanseref04.Seal.
-/
import Derived.Test.YtekleamkpfeifaaDoorFrameRefSeal
namespace Go.Proofs.YtekleamkpfeifaaDoor
namespace Fr
open Go.RowKit
/-- The frame of a payload. -/
def frameOf (p : List Int) : List Int := be4 p.length ++ be4 (sumOf (nats (be4 p.length ++ p))) ++ p
theorem sumOf_lt (bs : List Nat) : sumOf bs < 4294967296 := by unfold sumOf; omega
/-- New bytes and an error. -/
def ToldB (out : List Int) (e : Int) (w : World) (r : Ending) (w' : World) : Prop :=
  ∃ v, r = .returned (.tuple #[v, .int .i64 e]) ∧ w'.ownsRow 0 5 1 v out.length (out.map (Value.int .u8)) ∧ Step w w' [] (rowOf v)
def sealOut (p : List Int) : List Int := if 131072 < p.length then [] else frameOf p
def sealErr (p : List Int) : Int := if 131072 < p.length then 5 else 0
theorem Step.new {w w' : World} {T : List Nat} (h : Step w w' [] T) : ∀ k ∈ T, w.heap.size ≤ k := fun k hk => (h.2 k hk).elim (fun h => by cases h) id
set_option maxRecDepth 100000 in
set_option maxHeartbeats 2000000 in
theorem refseal_any (A : Option Addr) (n c : Nat) (xs : List Int) (w : World) (hA : NRow .u8 w A xs) (hn : xs.length = n) (hb : ByteList xs) (hnil : A = none → c = 0) (hlen : n ≤ 70368744177664) :
    Calls Tryd.prog 40 #[.slice A n c] w (ToldB (sealOut xs) (sealErr xs) w) := by
  subst hn
  obtain ⟨i0, hi, hz0, hz1, hz2⟩ := info_parts info_u8
  by_cases hbig : 131072 < xs.length
  · have ho : sealOut xs = [] := by rw [sealOut, if_pos hbig]
    have he : sealErr xs = 5 := by rw [sealErr, if_pos hbig]
    rw [ho, he]
    clear ho he
    go_enter Tryd.func40, Tryd.ntmps40
    go_wp2
    go_ret2
    exact ⟨.slice none 0 0, rfl, World.ownsRow_nil _ _ _ _, Step.refl _ _⟩
  · have ho : sealOut xs = frameOf xs := by rw [sealOut, if_neg hbig]
    have he : sealErr xs = 0 := by rw [sealErr, if_neg hbig]
    rw [ho, he]
    clear ho he
    have HA := Lib.hid hA
    have HB := Lib.hid hb
    have HNIL := Lib.hid hnil
    have HX := Lib.hid hA.ltX
    clear hA hb hnil
    go_enter Tryd.func40, Tryd.ntmps40
    go_wp2_with fail
    refine (reffour_any xs.length w (by omega)).mono ?_
    rintro e w1 ⟨v1, rfl, hO1, hS1⟩
    obtain ⟨A1, c1, rfl, hn1, -⟩ := own_shape hO1
    have HO1 := Lib.hid (show w1.ownsRow 0 5 1 (.slice A1 4 c1) 4 ((be4 xs.length).map (Value.int .u8)) from hO1)
    have HS1 := Lib.hid hS1
    have HN1 := Lib.hid hn1
    clear hO1 hS1 hn1
    rw [be4_len]
    go_wp2_with (at_builtin; refine wpList_append_row rfl (.tmp 14) (.tmp 15) 27 rfl 5 i0 .u8 1 Tryd.underlying27 hi hz0 hz1 hz2 (.slice none 0 0) 0 [] rfl (World.ownsRow_nil _ _ _ _) A1 4 c1 (be4 xs.length) rfl rfl (NRow.of_own HO1.out) HN1.out (by unfold maxLen; omega) (by omega) ?_)
    intro v2 w2 hO2 hS2
    have HO2 := Lib.hid (show w2.ownsRow 0 5 1 v2 4 ((be4 xs.length).map (Value.int .u8)) by simpa using hO2)
    have HS2 := Lib.hid (show Step w1 w2 [] (rowOf v2) from hS2)
    clear hO2 hS2
    have hM2 : Moved w w2 [] := HS1.out.1.trans HS2.out.1 (fun k hk => by cases hk)
    have HA2 := Lib.hid (nrowx_moved HA.out hM2 (fun b _ h => by cases h))
    clear hM2
    go_wp2_with (at_builtin; refine wpList_append_row rfl (.tmp 16) (.tmp 17) 27 rfl 5 i0 .u8 1 Tryd.underlying27 hi hz0 hz1 hz2 v2 4 _ rfl HO2.out A xs.length c xs rfl rfl HA2.out HNIL.out (by unfold maxLen; omega) (by omega) ?_)
    intro v3 w3 hO3 hS3
    have hO3 : w3.ownsRow 0 5 1 v3 (4 + xs.length) ((be4 xs.length ++ xs).map (Value.int .u8)) := by simpa using hO3
    have hS3 : Step w2 w3 (rowOf v2) (rowOf v3) := hS3
    obtain ⟨A3, c3, rfl, -⟩ := own_shape hO3
    have hM3 : Moved w1 w3 [] := HS2.out.1.trans hS3.1 (fun k hk => .inr (Step.new HS2.out k hk))
    have HO13 := Lib.hid (own_moved HO1.out hM3 (fun _ _ h => by cases h))
    have HM3 := Lib.hid (HS1.out.1.trans hM3 (fun _ h => by cases h))
    have HO3 := Lib.hid hO3
    have hall : (be4 xs.length ++ xs).length = 4 + xs.length := by rw [List.length_append, be4_len]
    have HALL := Lib.hid hall
    have HBL := Lib.hid (ByteList.append (be4_bytes (v := xs.length) (by omega)) HB.out)
    clear hO3 hS3 hM3 hall
    go_wp2_with fail
    refine (refsum_any A3 _ c3 (be4 xs.length ++ xs) w3 (NRow.of_own HO3.out) HALL.out HBL.out (by omega)).mono ?_
    rintro e w3' ⟨rfl, rfl⟩
    go_wp2_with fail
    obtain ⟨sm, hsm⟩ : ∃ sm, sm = sumOf (nats (be4 xs.length ++ xs)) := ⟨_, rfl⟩
    have hsm2 : sm < 4294967296 := by rw [hsm]; exact sumOf_lt _
    rw [← hsm]
    have HSM := Lib.hid hsm
    clear hsm
    refine (reffour_any sm w3 hsm2).mono ?_
    rintro e w4 ⟨v4, rfl, hO4, hS4⟩
    obtain ⟨A4, c4, rfl, hn4, -⟩ := own_shape hO4
    have HO4 := Lib.hid (show w4.ownsRow 0 5 1 (.slice A4 4 c4) 4 ((be4 sm).map (Value.int .u8)) from hO4)
    have HN4 := Lib.hid hn4
    have HO14 := Lib.hid (own_moved HO13.out hS4.1 (fun _ _ h => by cases h))
    have HM4 := Lib.hid (HM3.out.trans hS4.1 (fun _ h => by cases h))
    have HR1 := Lib.hid (fun k hk => ⟨Step.new HS1.out k hk, own_lt HO13.out k hk⟩ : ∀ k ∈ rowOf (.slice A1 4 c1), w.heap.size ≤ k ∧ k < w3.heap.size)
    clear hO4 hn4 hS4
    rw [be4_len]
    go_wp2_with (at_builtin; refine wpList_append_row rfl (.tmp 19) (.tmp 22) 27 rfl 5 i0 .u8 1 Tryd.underlying27 hi hz0 hz1 hz2 (.slice A1 4 c1) 4 _ rfl HO14.out A4 4 c4 (be4 sm) rfl rfl (NRow.of_own HO4.out) HN4.out (by unfold maxLen; omega) (by omega) ?_)
    intro v5 w5 hO5 hS5
    have HO5 := Lib.hid (show w5.ownsRow 0 5 1 v5 8 ((be4 xs.length ++ be4 sm).map (Value.int .u8)) by simpa using hO5)
    have hS5 : Step w4 w5 (rowOf (.slice A1 4 c1)) (rowOf v5) := hS5
    have HM5 := Lib.hid (HM4.out.trans hS5.1 (fun k hk => .inr (HR1.out k hk).1))
    have HV5 := Lib.hid (fun k hk => (hS5.2 k hk).elim (fun h => (HR1.out k h).1) (fun h => Nat.le_trans HM4.out.size h) : ∀ k ∈ rowOf v5, w.heap.size ≤ k)
    have HA5 := Lib.hid (nrowx_moved HA.out HM5.out (fun b _ h => by cases h))
    clear hO5 hS5
    go_wp2_with (at_builtin; refine wpList_append_row rfl (.tmp 24) (.tmp 25) 27 rfl 5 i0 .u8 1 Tryd.underlying27 hi hz0 hz1 hz2 v5 8 _ rfl HO5.out A xs.length c xs rfl rfl HA5.out HNIL.out (by unfold maxLen; omega) (by omega) ?_)
    intro v6 w6 hO6 hS6
    have hS6 : Step w5 w6 (rowOf v5) (rowOf v6) := hS6
    have hfr : frameOf xs = be4 xs.length ++ be4 sm ++ xs := by rw [frameOf, HSM.out]
    have hfl : (frameOf xs).length = 8 + xs.length := by rw [hfr, List.length_append, List.length_append, be4_len, be4_len]
    have HO6 := Lib.hid (show w6.ownsRow 0 5 1 v6 (frameOf xs).length ((frameOf xs).map (Value.int .u8)) by rw [hfl, hfr, List.map_append]; exact hO6)
    have HS6 := Lib.hid (show Step w w6 [] (rowOf v6) from ⟨HM5.out.trans hS6.1 (fun k hk => .inr (HV5.out k hk)), fun k hk => .inr ((hS6.2 k hk).elim (HV5.out k) (fun h => Nat.le_trans HM5.out.size h))⟩)
    clear hO6 hS6 hfr hfl
    go_wp2
    go_ret2
    exact ⟨v6, rfl, HO6.out, HS6.out⟩
end Fr
end Go.Proofs.YtekleamkpfeifaaDoor
