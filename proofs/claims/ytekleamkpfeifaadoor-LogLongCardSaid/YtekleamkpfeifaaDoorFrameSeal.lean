/-
  CONTRACT of package frame's Seal.
-/
import Derived.Test.YtekleamkpfeifaaDoorFrameShift
import Derived.Test.YtekleamkpfeifaaDoorFrameWord
import Derived.Test.YtekleamkpfeifaaDoorFrameConcat
namespace Go.Proofs.YtekleamkpfeifaaDoor
namespace Fr
open Go.RowKit
set_option maxRecDepth 100000 in
set_option maxHeartbeats 2000000 in
theorem seal_any (A : Option Addr) (n c : Nat) (xs : List Int) (w : World) (hA : NRow .u8 w A xs) (hn : xs.length = n) (hb : ByteList xs) (hnil : A = none → c = 0) (hc : n ≤ c) (hc2 : c ≤ 9223372036854775807) (hlen : n ≤ 1099511627776) (hld : Ld w) :
    Calls Tryd.prog 63 #[.slice A n c] w (ToldB (sealOut xs) (sealErr xs) w) := by
  subst hn
  by_cases hbig : 131072 < xs.length
  · have ho : sealOut xs = [] := by rw [sealOut, if_pos hbig]
    have he : sealErr xs = 5 := by rw [sealErr, if_pos hbig]
    rw [ho, he]
    clear ho he
    go_enter Tryd.func63, Tryd.ntmps63
    go_wp2
    go_ret2
    exact ⟨.slice none 0 0, rfl, World.ownsRow_nil _ _ _ _, Step.refl _ _⟩
  · have ho : sealOut xs = frameOf xs := by rw [sealOut, if_neg hbig]
    have he : sealErr xs = 0 := by rw [sealErr, if_neg hbig]
    rw [ho, he]
    clear ho he
    have HBX := Lib.hid (show Bites w (.slice A xs.length c) xs from ⟨A, c, rfl, hA, hnil, hc, hc2⟩)
    have HB := Lib.hid hb
    have HLD := Lib.hid hld
    clear hA hb hnil hld
    go_enter Tryd.func63, Tryd.ntmps63
    go_wp2_with fail
    refine (word_any xs.length w (by omega)).mono ?_
    rintro e w1 ⟨v1, rfl, hO1, hS1⟩
    obtain ⟨A1, c1, rfl, -⟩ := own_shape hO1
    have HB1 := Lib.hid (Bites.of_own hO1)
    have HS1 := Lib.hid hS1
    have HX1 := Lib.hid (HBX.out.stays (fun b hb => hS1.1.block b (HBX.out.lt b hb) (fun h => by cases h)))
    have HBR := Lib.hid (brows_two 27 HB1.out HX1.out)
    have HL1 := Lib.hid ((HLD.out.moved hS1.1).alloc (.cells #[.slice A1 (be4 xs.length).length c1, .slice A xs.length c] 27))
    have HM2 := Lib.hid (hS1.1.alloc (.cells #[.slice A1 (be4 xs.length).length c1, .slice A xs.length c] 27))
    have HB12 := Lib.hid (bites_alloc HB1.out (.cells #[.slice A1 (be4 xs.length).length c1, .slice A xs.length c] 27))
    clear hO1 hS1
    go_wp2_with fail
    refine (sum_any _ 2 2 _ [be4 xs.length, xs] _ (by exact HBR.out) rfl (fun p hp => by
      rcases List.mem_cons.1 hp with rfl | hp
      · exact be4_bytes (by omega)
      · simp at hp; subst hp; exact HB.out) (by omega) (by exact HL1.out)).mono ?_
    rintro e w2 ⟨rfl, hw2⟩
    rw [hw2] at HM2 HB12
    clear hw2
    rw [show ([be4 xs.length, xs] : List (List Int)).flatten = be4 xs.length ++ xs by simp]
    obtain ⟨sm, hsm⟩ : ∃ sm, sm = sumOf (nats (be4 xs.length ++ xs)) := ⟨_, rfl⟩
    have hsm2 : sm < 4294967296 := by rw [hsm]; exact sumOf_lt _
    have HFR := Lib.hid (show [be4 xs.length, be4 sm, xs].flatten = frameOf xs by rw [frameOf, hsm]; simp)
    rw [← hsm]
    clear hsm
    go_wp2_with fail
    refine (word_any sm w2 hsm2).mono ?_
    rintro e w3 ⟨v3, rfl, hO3, hS3⟩
    obtain ⟨A3, c3, rfl, -⟩ := own_shape hO3
    have HM3 := Lib.hid (HM2.out.trans hS3.1 (fun _ h => by cases h))
    have HB13 := Lib.hid (HB12.out.stays (fun b hb => hS3.1.block b (HB12.out.lt b hb) (fun h => by cases h)))
    have HX3 := Lib.hid (HBX.out.stays (fun b hb => HM3.out.block b (HBX.out.lt b hb) (fun h => by cases h)))
    have HB3 := Lib.hid (brows_three 27 HB13.out (Bites.of_own hO3) HX3.out)
    have HM4 := Lib.hid (HM3.out.alloc (.cells #[.slice A1 (be4 xs.length).length c1, .slice A3 (be4 sm).length c3, .slice A xs.length c] 27))
    have hfl : [be4 xs.length, be4 sm, xs].flatten.length ≤ 1048576 := by simp [be4_len]; omega
    clear hO3 hS3
    go_wp2_with fail
    refine (concat_any _ 3 3 _ [be4 xs.length, be4 sm, xs] _ (by exact HB3.out) rfl (by omega) (Nat.le_trans hfl (by omega))).mono ?_
    rintro e w5 ⟨v5, rfl, hO5, hS5⟩
    rw [HFR.out] at hO5
    have HO5 := Lib.hid hO5
    have HS5 := Lib.hid (show Step w w5 [] (rowOf v5) from ⟨HM4.out.trans hS5.1 (fun _ h => by cases h), fun k hk => .inr (Nat.le_trans HM4.out.size (Step.new hS5 k hk))⟩)
    clear hO5 hS5
    go_wp2
    go_ret2
    exact ⟨v5, rfl, HO5.out, HS5.out⟩
end Fr
end Go.Proofs.YtekleamkpfeifaaDoor
