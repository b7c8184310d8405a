/-
  THE WALK of the statement DiskLasts, from what it asks of the program's Disk.
-/
import Derived.Test.YtcajljpdflginaaDiskWakes
import Derived.Test.YtcajljpdflginaaDiskAt
import Derived.Deep.RegionHeld3
namespace Go.Proofs.Ytcajljpdflginaa
namespace Dk
open Go.RowKit
/-- How many bytes stay is told: j. -/
theorem left_is {xs ys : List Int} {keep : Int} {j : Nat} (h : (keep ≤ 0 ∧ j = 0) ∨ (keep = j ∧ j ≤ ys.length) ∨ ((ys.length : Int) ≤ keep ∧ j = ys.length)) : left (xs ++ ys) xs.length keep = xs ++ ys.take j := by
  unfold left
  rw [List.length_append]
  rcases h with ⟨h1, rfl⟩ | ⟨rfl, h2⟩ | ⟨h1, rfl⟩
  · by_cases h0 : ys = []
    · subst h0; simp
    · have : 0 < ys.length := List.length_pos_iff.2 h0
      rw [if_pos (by omega), show keep.toNat = 0 by omega, Nat.add_zero, List.take_left', List.take_zero, List.append_nil]
      rfl
  · by_cases h3 : j < ys.length
    · rw [if_pos (by omega), Int.toNat_natCast, List.take_length_add_append]
    · rw [if_neg (by omega), List.take_of_length_le (by omega)]
  · rw [if_neg (by omega), List.take_length]
set_option maxRecDepth 100000 in
set_option maxHeartbeats 2000000 in
theorem lasts_any {D : World → Nat → List Nat → DSt → Nat → Prop} (L : DLaws D) (A B : Option Addr) (n k c d : Nat) (xs ys : List Int) (keep : Int) (w : World) (hA : Was w A n c xs) (hB : Was w B k d ys) (hk0 : -9223372036854775808 ≤ keep) (hk1 : keep ≤ 9223372036854775807) :
    Calls Try.prog 4 #[.slice A n c, .slice B k d, .int .i64 keep] w fun e w' => e = .returned (.bool true) ∧ Moved w w' [] := by
  have HA := Lib.hid hA
  have HB := Lib.hid hB
  have hnr := hA.room
  have hkr := hB.room
  clear hA hB
  by_cases hn : 65536 < n
  · go_enter Try.func4, Try.ntmps4
    go_wp2
    go_ret
    exact ⟨rfl, Moved.refl _ _⟩
  by_cases hk : 65536 < k
  · go_enter Try.func4, Try.ntmps4
    go_wp2
    go_ret
    exact ⟨rfl, Moved.refl _ _⟩
  have hdn : decide (65536 < n) = false := by simpa using hn
  have hdk : decide (65536 < k) = false := by simpa using hk
  have hyl : ys.length = k := HB.out.len
  have hxl : xs.length = n := HA.out.len
  rcases (by omega : keep < 0 ∨ (0 ≤ keep ∧ keep ≤ k) ∨ (k : Int) < keep) with hkp | hkp | hkp
  · obtain ⟨ls, hls⟩ : ∃ ls, ls = left (xs ++ ys) xs.length keep := ⟨_, rfl⟩
    have HLS := Lib.hid hls
    have HLE := Lib.hid (hls.trans (left_is (j := 0) (.inl ⟨by omega, rfl⟩)))
    clear hls
    go_enter Try.func4, Try.ntmps4
    go_wp2_with fail
    refine (At.new_ L w).mono ?_
    rintro e w1 ⟨p, f1, rfl, h1⟩
    have H1 := Lib.hid h1
    clear h1
    go_wp2_with fail
    refine (H1.out.append L HA.out (e := 0) (s' := ⟨xs, 0, false, none⟩) rfl rfl (by omega)).mono ?_
    rintro e w2 ⟨rfl, f2, h2⟩
    have H2 := Lib.hid h2
    clear h2 H1
    go_wp2_with fail
    refine (H2.out.sync L (e := 0) (s' := ⟨xs, xs.length, false, none⟩) rfl (by omega)).mono ?_
    rintro e w3 ⟨rfl, f3, h3⟩
    have H3 := Lib.hid h3
    clear h3 H2
    go_wp2_with fail
    refine (H3.out.append L HB.out (e := 0) (s' := ⟨xs ++ ys, xs.length, false, none⟩) rfl rfl (by omega)).mono ?_
    rintro e w4 ⟨rfl, f4, h4⟩
    have H4 := Lib.hid h4
    clear h4 H3
    go_wp2_with fail
    refine (H4.out.crash L (s' := ⟨ls, xs.length, true, none⟩) (by rw [HLS.out]; rfl) (by omega) (by omega) (by omega)).mono ?_
    rintro e w5 ⟨rfl, f5, h5⟩
    have H5 := Lib.hid h5
    clear h5 H4
    go_wp2_with fail
    refine (H5.out.read L (e := 7) (out := []) rfl rfl (by omega)).mono ?_
    rintro e w6 ⟨A6, c6, f6, rfl, -, -, -, -, h6⟩
    have H6 := Lib.hid h6
    clear h6 H5
    go_wp2_with fail
    refine (H6.out.off L (b := true) rfl).mono ?_
    rintro e w7 ⟨rfl, f7, h7⟩
    have H7 := Lib.hid h7
    clear h7 H6
    go_wp2_with fail
    refine (H7.out.append L HB.out (e := 7) (s' := ⟨ls, xs.length, true, none⟩) rfl rfl (by omega)).mono ?_
    rintro e w8 ⟨rfl, f8, h8⟩
    have H8 := Lib.hid h8
    clear h8 H7
    go_wp2_with fail
    refine (H8.out.sync L (e := 7) (s' := ⟨ls, xs.length, true, none⟩) rfl (by omega)).mono ?_
    rintro e w9 ⟨rfl, f9, h9⟩
    have H9 := Lib.hid h9
    clear h9 H8
    go_wp2_with fail
    refine (H9.out.swap L HA.out (e := 7) (s' := ⟨ls, xs.length, true, none⟩) rfl (by omega)).mono ?_
    rintro e w10 ⟨rfl, f10, h10⟩
    have H10 := Lib.hid h10
    clear h10 H9
    go_wp2_with fail
    refine (H10.out.cut L (n := 0) (e := 7) (s' := ⟨ls, xs.length, true, none⟩) rfl (by omega) (by omega) (by omega)).mono ?_
    rintro e w11 ⟨rfl, f11, h11⟩
    have H11 := Lib.hid h11
    clear h11 H10
    go_wp2_with fail
    refine (H11.out.synced L (k := n) HA.out.len (by omega)).mono ?_
    rintro e w12 ⟨rfl, f12, h12⟩
    have H12 := Lib.hid h12
    clear h12 H11
    go_wp2_with fail
    refine (H12.out.start L (s' := ⟨ls, ls.length, false, none⟩) rfl (by omega)).mono ?_
    rintro e w13 ⟨rfl, f13, h13⟩
    have H13 := Lib.hid h13
    clear h13 H12
    go_wp2_with fail
    refine (H13.out.read L (e := 0) (out := ls) rfl rfl (by omega)).mono ?_
    rintro e w14 ⟨A14, c14, f14, rfl, hT, hT1, hT2, hT3, h14⟩
    have H14 := Lib.hid h14
    have HT := Lib.hid hT
    clear h14 H13 hT
    go_wp2_with fail

    have hjd : ((0 : Nat) : Int) ≤ d := by omega
    obtain ⟨i0, hi, hz0, hz1, hz2⟩ := info_parts info_u8
    have HNA := Lib.hid (HA.out.now H14.out.old)
    have HNB := Lib.hid ((HB.out.now H14.out.old).take 0)
    have HTL := Lib.hid (show (ys.take 0).length = 0 by rw [List.length_take]; omega)
    have HLL := Lib.hid (show ls.length = n + 0 by rw [HLE.out]; simp; omega)
    have HBL := Lib.hid (show ByteList ls from L.bytes H14.out.on)
    go_region_held3 (fun _ => True) (trivial) (first
      | (go_at_call 24; refine (twin_any A n c xs _ (by exact HNA.out) HA.out.len HA.out.nil (by omega)).mono ?_; rintro e w15 ⟨v15, rfl, hO15, hS15⟩; have HO15 := Lib.hid hO15; have HS15 := Lib.hid hS15; have HB15 := Lib.hid (nrowx_moved (S := []) (by exact HNB.out) hS15.1 (fun _ _ h => by cases h)); clear hO15 hS15)
      | (refine step_append_guarded (by rfl) _ _ 27 rfl 5 i0 .u8 1 Try.underlying27 hi hz0 hz1 hz2 v15 xs.length _ (by rfl) (by exact HO15.out) B 0 d (ys.take 0) (by rfl) HTL.out HB15.out HB.out.nil (by unfold maxLen; omega) (by omega) ?_; intro v16 w16 hO16 hS16; rw [← List.map_append] at hO16; obtain ⟨A16, c16, rfl, -⟩ := own_shape hO16; have HO16 := Lib.hid hO16; have HT16 := Lib.hid (trow_beside (w := w14.drew) (t_stays HT.out (fun _ _ => rfl)) HS15.out hS16); have H16 := Lib.hid (At.beside L (H14.out.drew L) HS15.out hS16); clear hO16 hS16)
      | (go_at_call 23; refine (bytes_is _ _ _ _ _ _ ls (xs ++ ys.take 0) _ HT16.out.nrow (NRow.of_own HO16.out) rfl (by simp; omega) HBL.out (HLE.out ▸ HBL.out) true (by rw [← HLE.out]; simp)).mono ?_; rintro e w17 ⟨rfl, rfl⟩)
      | (go_at_call 21; refine (H16.out.synced L (k := ls.length) rfl (by omega)).mono ?_; rintro e w18 ⟨rfl, f18, h18⟩; have H18 := Lib.hid h18; clear h18)
      | (go_at_call 18; refine (H18.out.off L (b := false) rfl).mono ?_; rintro e w19 ⟨rfl, f19, h19⟩; have H19 := Lib.hid h19.old; clear h19)
      | (go_at_call 13; refine (wakes_any L _).mono ?_; rintro e w20 ⟨rfl, hM20⟩; have HM20 := Lib.hid (H19.out.trans hM20 (fun _ h => by cases h)); clear hM20))
    go_wp2
    go_ret
    exact ⟨rfl, HM20.out⟩
  · obtain ⟨j, rfl⟩ : ∃ j : Nat, keep = j := ⟨keep.toNat, by omega⟩
    obtain ⟨ls, hls⟩ : ∃ ls, ls = left (xs ++ ys) xs.length j := ⟨_, rfl⟩
    have HLS := Lib.hid hls
    have HLE := Lib.hid (hls.trans (left_is (.inr (.inl ⟨rfl, by omega⟩))))
    clear hls
    go_enter Try.func4, Try.ntmps4
    go_wp2_with fail
    refine (At.new_ L w).mono ?_
    rintro e w1 ⟨p, f1, rfl, h1⟩
    have H1 := Lib.hid h1
    clear h1
    go_wp2_with fail
    refine (H1.out.append L HA.out (e := 0) (s' := ⟨xs, 0, false, none⟩) rfl rfl (by omega)).mono ?_
    rintro e w2 ⟨rfl, f2, h2⟩
    have H2 := Lib.hid h2
    clear h2 H1
    go_wp2_with fail
    refine (H2.out.sync L (e := 0) (s' := ⟨xs, xs.length, false, none⟩) rfl (by omega)).mono ?_
    rintro e w3 ⟨rfl, f3, h3⟩
    have H3 := Lib.hid h3
    clear h3 H2
    go_wp2_with fail
    refine (H3.out.append L HB.out (e := 0) (s' := ⟨xs ++ ys, xs.length, false, none⟩) rfl rfl (by omega)).mono ?_
    rintro e w4 ⟨rfl, f4, h4⟩
    have H4 := Lib.hid h4
    clear h4 H3
    go_wp2_with fail
    refine (H4.out.crash L (s' := ⟨ls, xs.length, true, none⟩) (by rw [HLS.out]; rfl) (by omega) (by omega) (by omega)).mono ?_
    rintro e w5 ⟨rfl, f5, h5⟩
    have H5 := Lib.hid h5
    clear h5 H4
    go_wp2_with fail
    refine (H5.out.read L (e := 7) (out := []) rfl rfl (by omega)).mono ?_
    rintro e w6 ⟨A6, c6, f6, rfl, -, -, -, -, h6⟩
    have H6 := Lib.hid h6
    clear h6 H5
    go_wp2_with fail
    refine (H6.out.off L (b := true) rfl).mono ?_
    rintro e w7 ⟨rfl, f7, h7⟩
    have H7 := Lib.hid h7
    clear h7 H6
    go_wp2_with fail
    refine (H7.out.append L HB.out (e := 7) (s' := ⟨ls, xs.length, true, none⟩) rfl rfl (by omega)).mono ?_
    rintro e w8 ⟨rfl, f8, h8⟩
    have H8 := Lib.hid h8
    clear h8 H7
    go_wp2_with fail
    refine (H8.out.sync L (e := 7) (s' := ⟨ls, xs.length, true, none⟩) rfl (by omega)).mono ?_
    rintro e w9 ⟨rfl, f9, h9⟩
    have H9 := Lib.hid h9
    clear h9 H8
    go_wp2_with fail
    refine (H9.out.swap L HA.out (e := 7) (s' := ⟨ls, xs.length, true, none⟩) rfl (by omega)).mono ?_
    rintro e w10 ⟨rfl, f10, h10⟩
    have H10 := Lib.hid h10
    clear h10 H9
    go_wp2_with fail
    refine (H10.out.cut L (n := 0) (e := 7) (s' := ⟨ls, xs.length, true, none⟩) rfl (by omega) (by omega) (by omega)).mono ?_
    rintro e w11 ⟨rfl, f11, h11⟩
    have H11 := Lib.hid h11
    clear h11 H10
    go_wp2_with fail
    refine (H11.out.synced L (k := n) HA.out.len (by omega)).mono ?_
    rintro e w12 ⟨rfl, f12, h12⟩
    have H12 := Lib.hid h12
    clear h12 H11
    go_wp2_with fail
    refine (H12.out.start L (s' := ⟨ls, ls.length, false, none⟩) rfl (by omega)).mono ?_
    rintro e w13 ⟨rfl, f13, h13⟩
    have H13 := Lib.hid h13
    clear h13 H12
    go_wp2_with fail
    refine (H13.out.read L (e := 0) (out := ls) rfl rfl (by omega)).mono ?_
    rintro e w14 ⟨A14, c14, f14, rfl, hT, hT1, hT2, hT3, h14⟩
    have H14 := Lib.hid h14
    have HT := Lib.hid hT
    clear h14 H13 hT
    go_wp2_with fail

    have hjd : (j : Int) ≤ d := by omega
    obtain ⟨i0, hi, hz0, hz1, hz2⟩ := info_parts info_u8
    have HNA := Lib.hid (HA.out.now H14.out.old)
    have HNB := Lib.hid ((HB.out.now H14.out.old).take j)
    have HTL := Lib.hid (show (ys.take j).length = j by rw [List.length_take]; omega)
    have HLL := Lib.hid (show ls.length = n + j by rw [HLE.out]; simp; omega)
    have HBL := Lib.hid (show ByteList ls from L.bytes H14.out.on)
    go_region_held3 (fun _ => True) (trivial) (first
      | (go_at_call 24; refine (twin_any A n c xs _ (by exact HNA.out) HA.out.len HA.out.nil (by omega)).mono ?_; rintro e w15 ⟨v15, rfl, hO15, hS15⟩; have HO15 := Lib.hid hO15; have HS15 := Lib.hid hS15; have HB15 := Lib.hid (nrowx_moved (S := []) (by exact HNB.out) hS15.1 (fun _ _ h => by cases h)); clear hO15 hS15)
      | (refine step_append_guarded (by rfl) _ _ 27 rfl 5 i0 .u8 1 Try.underlying27 hi hz0 hz1 hz2 v15 xs.length _ (by rfl) (by exact HO15.out) B j d (ys.take j) (by rfl) HTL.out HB15.out HB.out.nil (by unfold maxLen; omega) (by omega) ?_; intro v16 w16 hO16 hS16; rw [← List.map_append] at hO16; obtain ⟨A16, c16, rfl, -⟩ := own_shape hO16; have HO16 := Lib.hid hO16; have HT16 := Lib.hid (trow_beside (w := w14.drew) (t_stays HT.out (fun _ _ => rfl)) HS15.out hS16); have H16 := Lib.hid (At.beside L (H14.out.drew L) HS15.out hS16); clear hO16 hS16)
      | (go_at_call 23; refine (bytes_is _ _ _ _ _ _ ls (xs ++ ys.take j) _ HT16.out.nrow (NRow.of_own HO16.out) rfl (by simp; omega) HBL.out (HLE.out ▸ HBL.out) true (by rw [← HLE.out]; simp)).mono ?_; rintro e w17 ⟨rfl, rfl⟩)
      | (go_at_call 21; refine (H16.out.synced L (k := ls.length) rfl (by omega)).mono ?_; rintro e w18 ⟨rfl, f18, h18⟩; have H18 := Lib.hid h18; clear h18)
      | (go_at_call 18; refine (H18.out.off L (b := false) rfl).mono ?_; rintro e w19 ⟨rfl, f19, h19⟩; have H19 := Lib.hid h19.old; clear h19)
      | (go_at_call 13; refine (wakes_any L _).mono ?_; rintro e w20 ⟨rfl, hM20⟩; have HM20 := Lib.hid (H19.out.trans hM20 (fun _ h => by cases h)); clear hM20))
    go_wp2
    go_ret
    exact ⟨rfl, HM20.out⟩
  · obtain ⟨ls, hls⟩ : ∃ ls, ls = left (xs ++ ys) xs.length keep := ⟨_, rfl⟩
    have HLS := Lib.hid hls
    have HLE := Lib.hid (hls.trans (left_is (j := k) (.inr (.inr ⟨by omega, by omega⟩))))
    clear hls
    go_enter Try.func4, Try.ntmps4
    go_wp2_with fail
    refine (At.new_ L w).mono ?_
    rintro e w1 ⟨p, f1, rfl, h1⟩
    have H1 := Lib.hid h1
    clear h1
    go_wp2_with fail
    refine (H1.out.append L HA.out (e := 0) (s' := ⟨xs, 0, false, none⟩) rfl rfl (by omega)).mono ?_
    rintro e w2 ⟨rfl, f2, h2⟩
    have H2 := Lib.hid h2
    clear h2 H1
    go_wp2_with fail
    refine (H2.out.sync L (e := 0) (s' := ⟨xs, xs.length, false, none⟩) rfl (by omega)).mono ?_
    rintro e w3 ⟨rfl, f3, h3⟩
    have H3 := Lib.hid h3
    clear h3 H2
    go_wp2_with fail
    refine (H3.out.append L HB.out (e := 0) (s' := ⟨xs ++ ys, xs.length, false, none⟩) rfl rfl (by omega)).mono ?_
    rintro e w4 ⟨rfl, f4, h4⟩
    have H4 := Lib.hid h4
    clear h4 H3
    go_wp2_with fail
    refine (H4.out.crash L (s' := ⟨ls, xs.length, true, none⟩) (by rw [HLS.out]; rfl) (by omega) (by omega) (by omega)).mono ?_
    rintro e w5 ⟨rfl, f5, h5⟩
    have H5 := Lib.hid h5
    clear h5 H4
    go_wp2_with fail
    refine (H5.out.read L (e := 7) (out := []) rfl rfl (by omega)).mono ?_
    rintro e w6 ⟨A6, c6, f6, rfl, -, -, -, -, h6⟩
    have H6 := Lib.hid h6
    clear h6 H5
    go_wp2_with fail
    refine (H6.out.off L (b := true) rfl).mono ?_
    rintro e w7 ⟨rfl, f7, h7⟩
    have H7 := Lib.hid h7
    clear h7 H6
    go_wp2_with fail
    refine (H7.out.append L HB.out (e := 7) (s' := ⟨ls, xs.length, true, none⟩) rfl rfl (by omega)).mono ?_
    rintro e w8 ⟨rfl, f8, h8⟩
    have H8 := Lib.hid h8
    clear h8 H7
    go_wp2_with fail
    refine (H8.out.sync L (e := 7) (s' := ⟨ls, xs.length, true, none⟩) rfl (by omega)).mono ?_
    rintro e w9 ⟨rfl, f9, h9⟩
    have H9 := Lib.hid h9
    clear h9 H8
    go_wp2_with fail
    refine (H9.out.swap L HA.out (e := 7) (s' := ⟨ls, xs.length, true, none⟩) rfl (by omega)).mono ?_
    rintro e w10 ⟨rfl, f10, h10⟩
    have H10 := Lib.hid h10
    clear h10 H9
    go_wp2_with fail
    refine (H10.out.cut L (n := 0) (e := 7) (s' := ⟨ls, xs.length, true, none⟩) rfl (by omega) (by omega) (by omega)).mono ?_
    rintro e w11 ⟨rfl, f11, h11⟩
    have H11 := Lib.hid h11
    clear h11 H10
    go_wp2_with fail
    refine (H11.out.synced L (k := n) HA.out.len (by omega)).mono ?_
    rintro e w12 ⟨rfl, f12, h12⟩
    have H12 := Lib.hid h12
    clear h12 H11
    go_wp2_with fail
    refine (H12.out.start L (s' := ⟨ls, ls.length, false, none⟩) rfl (by omega)).mono ?_
    rintro e w13 ⟨rfl, f13, h13⟩
    have H13 := Lib.hid h13
    clear h13 H12
    go_wp2_with fail
    refine (H13.out.read L (e := 0) (out := ls) rfl rfl (by omega)).mono ?_
    rintro e w14 ⟨A14, c14, f14, rfl, hT, hT1, hT2, hT3, h14⟩
    have H14 := Lib.hid h14
    have HT := Lib.hid hT
    clear h14 H13 hT
    go_wp2_with fail

    have hjd : ((k : Nat) : Int) ≤ d := by omega
    obtain ⟨i0, hi, hz0, hz1, hz2⟩ := info_parts info_u8
    have HNA := Lib.hid (HA.out.now H14.out.old)
    have HNB := Lib.hid ((HB.out.now H14.out.old).take k)
    have HTL := Lib.hid (show (ys.take k).length = k by rw [List.length_take]; omega)
    have HLL := Lib.hid (show ls.length = n + k by rw [HLE.out]; simp; omega)
    have HBL := Lib.hid (show ByteList ls from L.bytes H14.out.on)
    go_region_held3 (fun _ => True) (trivial) (first
      | (go_at_call 24; refine (twin_any A n c xs _ (by exact HNA.out) HA.out.len HA.out.nil (by omega)).mono ?_; rintro e w15 ⟨v15, rfl, hO15, hS15⟩; have HO15 := Lib.hid hO15; have HS15 := Lib.hid hS15; have HB15 := Lib.hid (nrowx_moved (S := []) (by exact HNB.out) hS15.1 (fun _ _ h => by cases h)); clear hO15 hS15)
      | (refine step_append_guarded (by rfl) _ _ 27 rfl 5 i0 .u8 1 Try.underlying27 hi hz0 hz1 hz2 v15 xs.length _ (by rfl) (by exact HO15.out) B k d (ys.take k) (by rfl) HTL.out HB15.out HB.out.nil (by unfold maxLen; omega) (by omega) ?_; intro v16 w16 hO16 hS16; rw [← List.map_append] at hO16; obtain ⟨A16, c16, rfl, -⟩ := own_shape hO16; have HO16 := Lib.hid hO16; have HT16 := Lib.hid (trow_beside (w := w14.drew) (t_stays HT.out (fun _ _ => rfl)) HS15.out hS16); have H16 := Lib.hid (At.beside L (H14.out.drew L) HS15.out hS16); clear hO16 hS16)
      | (go_at_call 23; refine (bytes_is _ _ _ _ _ _ ls (xs ++ ys.take k) _ HT16.out.nrow (NRow.of_own HO16.out) rfl (by simp; omega) HBL.out (HLE.out ▸ HBL.out) true (by rw [← HLE.out]; simp)).mono ?_; rintro e w17 ⟨rfl, rfl⟩)
      | (go_at_call 21; refine (H16.out.synced L (k := ls.length) rfl (by omega)).mono ?_; rintro e w18 ⟨rfl, f18, h18⟩; have H18 := Lib.hid h18; clear h18)
      | (go_at_call 18; refine (H18.out.off L (b := false) rfl).mono ?_; rintro e w19 ⟨rfl, f19, h19⟩; have H19 := Lib.hid h19.old; clear h19)
      | (go_at_call 13; refine (wakes_any L _).mono ?_; rintro e w20 ⟨rfl, hM20⟩; have HM20 := Lib.hid (H19.out.trans hM20 (fun _ h => by cases h)); clear hM20))
    go_wp2
    go_ret
    exact ⟨rfl, HM20.out⟩
end Dk
end Go.Proofs.Ytcajljpdflginaa
