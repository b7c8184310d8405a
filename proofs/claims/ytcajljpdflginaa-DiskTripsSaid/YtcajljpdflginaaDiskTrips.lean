/-
  THE WALK of the statement DiskTrips, from what it asks of the program's Disk.
-/
import Derived.Test.YtcajljpdflginaaDiskWakes
import Derived.Test.YtcajljpdflginaaDiskLasts
namespace Go.Proofs.Ytcajljpdflginaa
namespace Dk
open Go.RowKit
theorem u64_nat (n : Int) : ∃ u : Nat, IntKind.u64.wrap n = (u : Int) := ⟨(IntKind.u64.wrap n).toNat, by unfold IntKind.wrap; simp [IntKind.signed, IntKind.bits]; omega⟩
theorem cut_trip (bs : List Int) (safe : Nat) (k : Int) : (⟨bs, safe, false, some k⟩ : DSt).cut 0 = (7, ⟨left bs safe k, safe, true, none⟩) := by
  simp [DSt.cut, DSt.stroke, DSt.crash]
set_option maxRecDepth 100000 in
set_option maxHeartbeats 4000000 in
theorem trips_any {D : World → Nat → List Nat → DSt → Nat → Prop} (L : DLaws D) (A B C : Option Addr) (n k l c d b : Nat) (xs ys zs : List Int) (keep kind : Int) (w : World) (hA : Was w A n c xs) (hB : Was w B k d ys) (hC : Was w C l b zs) (hk0 : -9223372036854775808 ≤ keep) (hk1 : keep ≤ 9223372036854775807) :
    Calls Try.prog 5 #[.slice A n c, .slice B k d, .slice C l b, .int .i64 keep, .int .i64 kind] w fun e w' => e = .returned (.bool true) ∧ Moved w w' [] := by
  have HA := Lib.hid hA
  have HB := Lib.hid hB
  have HC := Lib.hid hC
  have hnr := hA.room
  have hkr := hB.room
  have hyl : ys.length = k := HB.out.len
  have hxl : xs.length = n := HA.out.len
  clear hA hB hC
  by_cases hn : 65536 < n
  · go_enter Try.func5, Try.ntmps5
    go_wp2
    go_ret
    exact ⟨rfl, Moved.refl _ _⟩
  by_cases hk : 65536 < k
  · go_enter Try.func5, Try.ntmps5
    go_wp2
    go_ret
    exact ⟨rfl, Moved.refl _ _⟩
  by_cases hl : 65536 < l
  · go_enter Try.func5, Try.ntmps5
    go_wp2
    go_ret
    exact ⟨rfl, Moved.refl _ _⟩
  have hdn : decide (65536 < n) = false := by simpa using hn
  have hdk : decide (65536 < k) = false := by simpa using hk
  have hdl : decide (65536 < l) = false := by simpa using hl
  obtain ⟨u, hu⟩ := u64_nat kind
  rcases (by omega : keep < 0 ∨ (0 ≤ keep ∧ keep ≤ k) ∨ (k : Int) < keep) with hkp | hkp | hkp
  · obtain ⟨ls, hls⟩ : ∃ ls, ls = left (xs ++ ys) xs.length keep := ⟨_, rfl⟩
    have HLS := Lib.hid hls
    have HLE := Lib.hid (hls.trans (left_is (j := 0) (.inl ⟨by omega, rfl⟩)))
    clear hls
    rcases (by omega : u % 3 = 0 ∨ u % 3 = 1 ∨ u % 3 = 2) with hum | hum | hum
    · have hu0 : ((u : Int) % 3 == 0) = true := by simp; omega
      have hu1 : ((u : Int) % 3 == 1) = false := by simp; omega
      go_enter Try.func5, Try.ntmps5
      go_wp2_with fail
      refine (At.new_ L w).mono ?_
      rintro e w1 ⟨p, f1, rfl, h1⟩
      have H1 := Lib.hid h1
      clear h1
      go_wp2_with fail
      refine (H1.out.append L HA.out (e := 0) (s' := ⟨xs, 0, false, none⟩) rfl rfl (by omega)).mono ?_
      rintro e w2 ⟨rfl, f2, h2⟩
      have H2 := Lib.hid h2
      clear h2 H1
      go_wp2_with fail
      refine (H2.out.sync L (e := 0) (s' := ⟨xs, xs.length, false, none⟩) rfl (by omega)).mono ?_
      rintro e w3 ⟨rfl, f3, h3⟩
      have H3 := Lib.hid h3
      clear h3 H2
      go_wp2_with fail
      refine (H3.out.trip L (s' := ⟨xs, xs.length, false, some 7⟩) rfl (by omega) (by omega)).mono ?_
      rintro e w4 ⟨rfl, f4, h4⟩
      have H4 := Lib.hid h4
      clear h4 H3
      go_wp2_with fail
      refine (H4.out.trip L (s' := ⟨xs, xs.length, false, some keep⟩) rfl (by omega) (by omega)).mono ?_
      rintro e w5 ⟨rfl, f5, h5⟩
      have H5 := Lib.hid h5
      clear h5 H4
      go_wp2_with fail
      refine (H5.out.append L HB.out (e := 0) (s' := ⟨xs ++ ys, xs.length, false, some keep⟩) rfl rfl (by omega)).mono ?_
      rintro e w6 ⟨rfl, f6, h6⟩
      have H6 := Lib.hid h6
      clear h6 H5
      go_wp2_with fail
      refine (H6.out.sync L (e := 7) (s' := ⟨ls, xs.length, true, none⟩) (by rw [HLS.out]; rfl) (by omega)).mono ?_
      rintro e w7 ⟨rfl, f7, h7⟩
      have H7 := Lib.hid h7
      clear h7 H6
      go_wp2_with fail
      refine (H7.out.off L (b := true) rfl).mono ?_
      rintro e w8 ⟨rfl, f8, h8⟩
      have H8 := Lib.hid h8
      clear h8 H7
      go_wp2_with fail
      refine (H8.out.start L (s' := ⟨ls, ls.length, false, none⟩) rfl (by omega)).mono ?_
      rintro e w9 ⟨rfl, f9, h9⟩
      have H9 := Lib.hid h9
      clear h9 H8
      go_wp2_with fail
      refine (H9.out.read L (e := 0) (out := ls) rfl rfl (by omega)).mono ?_
      rintro e w10 ⟨A10, c10, f10, rfl, hT10, hTa10, hTb10, hTc10, h10⟩
      have H10 := Lib.hid h10
      clear h10 H9
      have HT10 := Lib.hid hT10
      clear hT10
      go_wp2_with fail
      have hjd : ((0 : Nat) : Int) ≤ d := by omega
      obtain ⟨i0, hi, hz0, hz1, hz2⟩ := info_parts info_u8
      have HNA := Lib.hid (HA.out.now H10.out.old)
      have HNB := Lib.hid ((HB.out.now H10.out.old).take 0)
      have HTL := Lib.hid (show (ys.take 0).length = 0 by rw [List.length_take]; omega)
      have HLL := Lib.hid (show ls.length = n + 0 by rw [HLE.out]; simp; omega)
      have HBL := Lib.hid (show ByteList ls from L.bytes H10.out.on)
      go_region_held3 (fun _ => True) (trivial) (first
        | (go_at_call 24; refine (twin_any A n c xs _ (by exact HNA.out) HA.out.len HA.out.nil (by omega)).mono ?_; rintro e w15 ⟨v15, rfl, hO15, hS15⟩; have HO15 := Lib.hid hO15; have HS15 := Lib.hid hS15; have HB15 := Lib.hid (nrowx_moved (S := []) (by exact HNB.out) hS15.1 (fun _ _ h => by cases h)); clear hO15 hS15)
        | (refine step_append_guarded (by rfl) _ _ 27 rfl 5 i0 .u8 1 Try.underlying27 hi hz0 hz1 hz2 v15 xs.length _ (by rfl) (by exact HO15.out) B 0 d (ys.take 0) (by rfl) HTL.out HB15.out HB.out.nil (by unfold maxLen; omega) (by omega) ?_; intro v16 w16 hO16 hS16; rw [← List.map_append] at hO16; obtain ⟨A16, c16, rfl, -⟩ := own_shape hO16; have HO16 := Lib.hid hO16; have HT16 := Lib.hid (trow_beside (w := w10.drew) (t_stays HT10.out (fun _ _ => rfl)) HS15.out hS16); have H16 := Lib.hid (At.beside L (H10.out.drew L) HS15.out hS16); clear hO16 hS16)
        | (go_at_call 23; refine (bytes_is _ _ _ _ _ _ ls (xs ++ ys.take 0) _ HT16.out.nrow (NRow.of_own HO16.out) rfl (by simp; omega) HBL.out (HLE.out ▸ HBL.out) true (by rw [← HLE.out]; simp)).mono ?_; rintro e w17 ⟨rfl, rfl⟩)
        | (go_at_call 15; refine (H16.out.sync L (e := 0) (s' := ⟨ls, ls.length, false, none⟩) rfl (by omega)).mono ?_; rintro e w18 ⟨rfl, f18, h18⟩; have H18 := Lib.hid h18.old; clear h18)
        | (go_at_call 13; refine (wakes_any L _).mono ?_; rintro e w20 ⟨rfl, hM20⟩; have HM20 := Lib.hid (H18.out.trans hM20 (fun _ h => by cases h)); clear hM20))
      go_wp2
      go_ret
      exact ⟨rfl, HM20.out⟩
    · have hu0 : ((u : Int) % 3 == 0) = false := by simp; omega
      have hu1 : ((u : Int) % 3 == 1) = true := by simp; omega
      go_enter Try.func5, Try.ntmps5
      go_wp2_with fail
      refine (At.new_ L w).mono ?_
      rintro e w1 ⟨p, f1, rfl, h1⟩
      have H1 := Lib.hid h1
      clear h1
      go_wp2_with fail
      refine (H1.out.append L HA.out (e := 0) (s' := ⟨xs, 0, false, none⟩) rfl rfl (by omega)).mono ?_
      rintro e w2 ⟨rfl, f2, h2⟩
      have H2 := Lib.hid h2
      clear h2 H1
      go_wp2_with fail
      refine (H2.out.sync L (e := 0) (s' := ⟨xs, xs.length, false, none⟩) rfl (by omega)).mono ?_
      rintro e w3 ⟨rfl, f3, h3⟩
      have H3 := Lib.hid h3
      clear h3 H2
      go_wp2_with fail
      refine (H3.out.trip L (s' := ⟨xs, xs.length, false, some 7⟩) rfl (by omega) (by omega)).mono ?_
      rintro e w4 ⟨rfl, f4, h4⟩
      have H4 := Lib.hid h4
      clear h4 H3
      go_wp2_with fail
      refine (H4.out.trip L (s' := ⟨xs, xs.length, false, some keep⟩) rfl (by omega) (by omega)).mono ?_
      rintro e w5 ⟨rfl, f5, h5⟩
      have H5 := Lib.hid h5
      clear h5 H4
      go_wp2_with fail
      refine (H5.out.append L HB.out (e := 0) (s' := ⟨xs ++ ys, xs.length, false, some keep⟩) rfl rfl (by omega)).mono ?_
      rintro e w6 ⟨rfl, f6, h6⟩
      have H6 := Lib.hid h6
      clear h6 H5
      go_wp2_with fail
      refine (H6.out.cut L (n := 0) (e := 7) (s' := ⟨ls, xs.length, true, none⟩) (by rw [HLS.out]; exact cut_trip _ _ _) (by omega) (by omega) (by omega)).mono ?_
      rintro e w7 ⟨rfl, f7, h7⟩
      have H7 := Lib.hid h7
      clear h7 H6
      go_wp2_with fail
      refine (H7.out.off L (b := true) rfl).mono ?_
      rintro e w8 ⟨rfl, f8, h8⟩
      have H8 := Lib.hid h8
      clear h8 H7
      go_wp2_with fail
      refine (H8.out.start L (s' := ⟨ls, ls.length, false, none⟩) rfl (by omega)).mono ?_
      rintro e w9 ⟨rfl, f9, h9⟩
      have H9 := Lib.hid h9
      clear h9 H8
      go_wp2_with fail
      refine (H9.out.read L (e := 0) (out := ls) rfl rfl (by omega)).mono ?_
      rintro e w10 ⟨A10, c10, f10, rfl, hT10, hTa10, hTb10, hTc10, h10⟩
      have H10 := Lib.hid h10
      clear h10 H9
      have HT10 := Lib.hid hT10
      clear hT10
      go_wp2_with fail
      have hjd : ((0 : Nat) : Int) ≤ d := by omega
      obtain ⟨i0, hi, hz0, hz1, hz2⟩ := info_parts info_u8
      have HNA := Lib.hid (HA.out.now H10.out.old)
      have HNB := Lib.hid ((HB.out.now H10.out.old).take 0)
      have HTL := Lib.hid (show (ys.take 0).length = 0 by rw [List.length_take]; omega)
      have HLL := Lib.hid (show ls.length = n + 0 by rw [HLE.out]; simp; omega)
      have HBL := Lib.hid (show ByteList ls from L.bytes H10.out.on)
      go_region_held3 (fun _ => True) (trivial) (first
        | (go_at_call 24; refine (twin_any A n c xs _ (by exact HNA.out) HA.out.len HA.out.nil (by omega)).mono ?_; rintro e w15 ⟨v15, rfl, hO15, hS15⟩; have HO15 := Lib.hid hO15; have HS15 := Lib.hid hS15; have HB15 := Lib.hid (nrowx_moved (S := []) (by exact HNB.out) hS15.1 (fun _ _ h => by cases h)); clear hO15 hS15)
        | (refine step_append_guarded (by rfl) _ _ 27 rfl 5 i0 .u8 1 Try.underlying27 hi hz0 hz1 hz2 v15 xs.length _ (by rfl) (by exact HO15.out) B 0 d (ys.take 0) (by rfl) HTL.out HB15.out HB.out.nil (by unfold maxLen; omega) (by omega) ?_; intro v16 w16 hO16 hS16; rw [← List.map_append] at hO16; obtain ⟨A16, c16, rfl, -⟩ := own_shape hO16; have HO16 := Lib.hid hO16; have HT16 := Lib.hid (trow_beside (w := w10.drew) (t_stays HT10.out (fun _ _ => rfl)) HS15.out hS16); have H16 := Lib.hid (At.beside L (H10.out.drew L) HS15.out hS16); clear hO16 hS16)
        | (go_at_call 23; refine (bytes_is _ _ _ _ _ _ ls (xs ++ ys.take 0) _ HT16.out.nrow (NRow.of_own HO16.out) rfl (by simp; omega) HBL.out (HLE.out ▸ HBL.out) true (by rw [← HLE.out]; simp)).mono ?_; rintro e w17 ⟨rfl, rfl⟩)
        | (go_at_call 15; refine (H16.out.sync L (e := 0) (s' := ⟨ls, ls.length, false, none⟩) rfl (by omega)).mono ?_; rintro e w18 ⟨rfl, f18, h18⟩; have H18 := Lib.hid h18.old; clear h18)
        | (go_at_call 13; refine (wakes_any L _).mono ?_; rintro e w20 ⟨rfl, hM20⟩; have HM20 := Lib.hid (H18.out.trans hM20 (fun _ h => by cases h)); clear hM20))
      go_wp2
      go_ret
      exact ⟨rfl, HM20.out⟩
    · have hu0 : ((u : Int) % 3 == 0) = false := by simp; omega
      have hu1 : ((u : Int) % 3 == 1) = false := by simp; omega
      go_enter Try.func5, Try.ntmps5
      go_wp2_with fail
      refine (At.new_ L w).mono ?_
      rintro e w1 ⟨p, f1, rfl, h1⟩
      have H1 := Lib.hid h1
      clear h1
      go_wp2_with fail
      refine (H1.out.append L HA.out (e := 0) (s' := ⟨xs, 0, false, none⟩) rfl rfl (by omega)).mono ?_
      rintro e w2 ⟨rfl, f2, h2⟩
      have H2 := Lib.hid h2
      clear h2 H1
      go_wp2_with fail
      refine (H2.out.sync L (e := 0) (s' := ⟨xs, xs.length, false, none⟩) rfl (by omega)).mono ?_
      rintro e w3 ⟨rfl, f3, h3⟩
      have H3 := Lib.hid h3
      clear h3 H2
      go_wp2_with fail
      refine (H3.out.trip L (s' := ⟨xs, xs.length, false, some 7⟩) rfl (by omega) (by omega)).mono ?_
      rintro e w4 ⟨rfl, f4, h4⟩
      have H4 := Lib.hid h4
      clear h4 H3
      go_wp2_with fail
      refine (H4.out.trip L (s' := ⟨xs, xs.length, false, some keep⟩) rfl (by omega) (by omega)).mono ?_
      rintro e w5 ⟨rfl, f5, h5⟩
      have H5 := Lib.hid h5
      clear h5 H4
      go_wp2_with fail
      refine (H5.out.append L HB.out (e := 0) (s' := ⟨xs ++ ys, xs.length, false, some keep⟩) rfl rfl (by omega)).mono ?_
      rintro e w6 ⟨rfl, f6, h6⟩
      have H6 := Lib.hid h6
      clear h6 H5
      go_wp2_with fail
      refine (H6.out.swap L HC.out (e := 7) (s' := ⟨ls, xs.length, true, none⟩) (by rw [HLS.out]; rfl) (by omega)).mono ?_
      rintro e w7 ⟨rfl, f7, h7⟩
      have H7 := Lib.hid h7
      clear h7 H6
      go_wp2_with fail
      refine (H7.out.off L (b := true) rfl).mono ?_
      rintro e w8 ⟨rfl, f8, h8⟩
      have H8 := Lib.hid h8
      clear h8 H7
      go_wp2_with fail
      refine (H8.out.start L (s' := ⟨ls, ls.length, false, none⟩) rfl (by omega)).mono ?_
      rintro e w9 ⟨rfl, f9, h9⟩
      have H9 := Lib.hid h9
      clear h9 H8
      go_wp2_with fail
      refine (H9.out.read L (e := 0) (out := ls) rfl rfl (by omega)).mono ?_
      rintro e w10 ⟨A10, c10, f10, rfl, hT10, hTa10, hTb10, hTc10, h10⟩
      have H10 := Lib.hid h10
      clear h10 H9
      have HT10 := Lib.hid hT10
      clear hT10
      go_wp2_with fail
      have hjd : ((0 : Nat) : Int) ≤ d := by omega
      obtain ⟨i0, hi, hz0, hz1, hz2⟩ := info_parts info_u8
      have HNA := Lib.hid (HA.out.now H10.out.old)
      have HNB := Lib.hid ((HB.out.now H10.out.old).take 0)
      have HTL := Lib.hid (show (ys.take 0).length = 0 by rw [List.length_take]; omega)
      have HLL := Lib.hid (show ls.length = n + 0 by rw [HLE.out]; simp; omega)
      have HBL := Lib.hid (show ByteList ls from L.bytes H10.out.on)
      go_region_held3 (fun _ => True) (trivial) (first
        | (go_at_call 24; refine (twin_any A n c xs _ (by exact HNA.out) HA.out.len HA.out.nil (by omega)).mono ?_; rintro e w15 ⟨v15, rfl, hO15, hS15⟩; have HO15 := Lib.hid hO15; have HS15 := Lib.hid hS15; have HB15 := Lib.hid (nrowx_moved (S := []) (by exact HNB.out) hS15.1 (fun _ _ h => by cases h)); clear hO15 hS15)
        | (refine step_append_guarded (by rfl) _ _ 27 rfl 5 i0 .u8 1 Try.underlying27 hi hz0 hz1 hz2 v15 xs.length _ (by rfl) (by exact HO15.out) B 0 d (ys.take 0) (by rfl) HTL.out HB15.out HB.out.nil (by unfold maxLen; omega) (by omega) ?_; intro v16 w16 hO16 hS16; rw [← List.map_append] at hO16; obtain ⟨A16, c16, rfl, -⟩ := own_shape hO16; have HO16 := Lib.hid hO16; have HT16 := Lib.hid (trow_beside (w := w10.drew) (t_stays HT10.out (fun _ _ => rfl)) HS15.out hS16); have H16 := Lib.hid (At.beside L (H10.out.drew L) HS15.out hS16); clear hO16 hS16)
        | (go_at_call 23; refine (bytes_is _ _ _ _ _ _ ls (xs ++ ys.take 0) _ HT16.out.nrow (NRow.of_own HO16.out) rfl (by simp; omega) HBL.out (HLE.out ▸ HBL.out) true (by rw [← HLE.out]; simp)).mono ?_; rintro e w17 ⟨rfl, rfl⟩)
        | (go_at_call 15; refine (H16.out.sync L (e := 0) (s' := ⟨ls, ls.length, false, none⟩) rfl (by omega)).mono ?_; rintro e w18 ⟨rfl, f18, h18⟩; have H18 := Lib.hid h18.old; clear h18)
        | (go_at_call 13; refine (wakes_any L _).mono ?_; rintro e w20 ⟨rfl, hM20⟩; have HM20 := Lib.hid (H18.out.trans hM20 (fun _ h => by cases h)); clear hM20))
      go_wp2
      go_ret
      exact ⟨rfl, HM20.out⟩
  · obtain ⟨j, rfl⟩ : ∃ j : Nat, keep = j := ⟨keep.toNat, by omega⟩
    obtain ⟨ls, hls⟩ : ∃ ls, ls = left (xs ++ ys) xs.length j := ⟨_, rfl⟩
    have HLS := Lib.hid hls
    have HLE := Lib.hid (hls.trans (left_is (j := j) (.inr (.inl ⟨rfl, by omega⟩))))
    clear hls
    rcases (by omega : u % 3 = 0 ∨ u % 3 = 1 ∨ u % 3 = 2) with hum | hum | hum
    · have hu0 : ((u : Int) % 3 == 0) = true := by simp; omega
      have hu1 : ((u : Int) % 3 == 1) = false := by simp; omega
      go_enter Try.func5, Try.ntmps5
      go_wp2_with fail
      refine (At.new_ L w).mono ?_
      rintro e w1 ⟨p, f1, rfl, h1⟩
      have H1 := Lib.hid h1
      clear h1
      go_wp2_with fail
      refine (H1.out.append L HA.out (e := 0) (s' := ⟨xs, 0, false, none⟩) rfl rfl (by omega)).mono ?_
      rintro e w2 ⟨rfl, f2, h2⟩
      have H2 := Lib.hid h2
      clear h2 H1
      go_wp2_with fail
      refine (H2.out.sync L (e := 0) (s' := ⟨xs, xs.length, false, none⟩) rfl (by omega)).mono ?_
      rintro e w3 ⟨rfl, f3, h3⟩
      have H3 := Lib.hid h3
      clear h3 H2
      go_wp2_with fail
      refine (H3.out.trip L (s' := ⟨xs, xs.length, false, some 7⟩) rfl (by omega) (by omega)).mono ?_
      rintro e w4 ⟨rfl, f4, h4⟩
      have H4 := Lib.hid h4
      clear h4 H3
      go_wp2_with fail
      refine (H4.out.trip L (s' := ⟨xs, xs.length, false, some j⟩) rfl (by omega) (by omega)).mono ?_
      rintro e w5 ⟨rfl, f5, h5⟩
      have H5 := Lib.hid h5
      clear h5 H4
      go_wp2_with fail
      refine (H5.out.append L HB.out (e := 0) (s' := ⟨xs ++ ys, xs.length, false, some j⟩) rfl rfl (by omega)).mono ?_
      rintro e w6 ⟨rfl, f6, h6⟩
      have H6 := Lib.hid h6
      clear h6 H5
      go_wp2_with fail
      refine (H6.out.sync L (e := 7) (s' := ⟨ls, xs.length, true, none⟩) (by rw [HLS.out]; rfl) (by omega)).mono ?_
      rintro e w7 ⟨rfl, f7, h7⟩
      have H7 := Lib.hid h7
      clear h7 H6
      go_wp2_with fail
      refine (H7.out.off L (b := true) rfl).mono ?_
      rintro e w8 ⟨rfl, f8, h8⟩
      have H8 := Lib.hid h8
      clear h8 H7
      go_wp2_with fail
      refine (H8.out.start L (s' := ⟨ls, ls.length, false, none⟩) rfl (by omega)).mono ?_
      rintro e w9 ⟨rfl, f9, h9⟩
      have H9 := Lib.hid h9
      clear h9 H8
      go_wp2_with fail
      refine (H9.out.read L (e := 0) (out := ls) rfl rfl (by omega)).mono ?_
      rintro e w10 ⟨A10, c10, f10, rfl, hT10, hTa10, hTb10, hTc10, h10⟩
      have H10 := Lib.hid h10
      clear h10 H9
      have HT10 := Lib.hid hT10
      clear hT10
      go_wp2_with fail
      have hjd : ((j : Nat) : Int) ≤ d := by omega
      obtain ⟨i0, hi, hz0, hz1, hz2⟩ := info_parts info_u8
      have HNA := Lib.hid (HA.out.now H10.out.old)
      have HNB := Lib.hid ((HB.out.now H10.out.old).take j)
      have HTL := Lib.hid (show (ys.take j).length = j by rw [List.length_take]; omega)
      have HLL := Lib.hid (show ls.length = n + j by rw [HLE.out]; simp; omega)
      have HBL := Lib.hid (show ByteList ls from L.bytes H10.out.on)
      go_region_held3 (fun _ => True) (trivial) (first
        | (go_at_call 24; refine (twin_any A n c xs _ (by exact HNA.out) HA.out.len HA.out.nil (by omega)).mono ?_; rintro e w15 ⟨v15, rfl, hO15, hS15⟩; have HO15 := Lib.hid hO15; have HS15 := Lib.hid hS15; have HB15 := Lib.hid (nrowx_moved (S := []) (by exact HNB.out) hS15.1 (fun _ _ h => by cases h)); clear hO15 hS15)
        | (refine step_append_guarded (by rfl) _ _ 27 rfl 5 i0 .u8 1 Try.underlying27 hi hz0 hz1 hz2 v15 xs.length _ (by rfl) (by exact HO15.out) B j d (ys.take j) (by rfl) HTL.out HB15.out HB.out.nil (by unfold maxLen; omega) (by omega) ?_; intro v16 w16 hO16 hS16; rw [← List.map_append] at hO16; obtain ⟨A16, c16, rfl, -⟩ := own_shape hO16; have HO16 := Lib.hid hO16; have HT16 := Lib.hid (trow_beside (w := w10.drew) (t_stays HT10.out (fun _ _ => rfl)) HS15.out hS16); have H16 := Lib.hid (At.beside L (H10.out.drew L) HS15.out hS16); clear hO16 hS16)
        | (go_at_call 23; refine (bytes_is _ _ _ _ _ _ ls (xs ++ ys.take j) _ HT16.out.nrow (NRow.of_own HO16.out) rfl (by simp; omega) HBL.out (HLE.out ▸ HBL.out) true (by rw [← HLE.out]; simp)).mono ?_; rintro e w17 ⟨rfl, rfl⟩)
        | (go_at_call 15; refine (H16.out.sync L (e := 0) (s' := ⟨ls, ls.length, false, none⟩) rfl (by omega)).mono ?_; rintro e w18 ⟨rfl, f18, h18⟩; have H18 := Lib.hid h18.old; clear h18)
        | (go_at_call 13; refine (wakes_any L _).mono ?_; rintro e w20 ⟨rfl, hM20⟩; have HM20 := Lib.hid (H18.out.trans hM20 (fun _ h => by cases h)); clear hM20))
      go_wp2
      go_ret
      exact ⟨rfl, HM20.out⟩
    · have hu0 : ((u : Int) % 3 == 0) = false := by simp; omega
      have hu1 : ((u : Int) % 3 == 1) = true := by simp; omega
      go_enter Try.func5, Try.ntmps5
      go_wp2_with fail
      refine (At.new_ L w).mono ?_
      rintro e w1 ⟨p, f1, rfl, h1⟩
      have H1 := Lib.hid h1
      clear h1
      go_wp2_with fail
      refine (H1.out.append L HA.out (e := 0) (s' := ⟨xs, 0, false, none⟩) rfl rfl (by omega)).mono ?_
      rintro e w2 ⟨rfl, f2, h2⟩
      have H2 := Lib.hid h2
      clear h2 H1
      go_wp2_with fail
      refine (H2.out.sync L (e := 0) (s' := ⟨xs, xs.length, false, none⟩) rfl (by omega)).mono ?_
      rintro e w3 ⟨rfl, f3, h3⟩
      have H3 := Lib.hid h3
      clear h3 H2
      go_wp2_with fail
      refine (H3.out.trip L (s' := ⟨xs, xs.length, false, some 7⟩) rfl (by omega) (by omega)).mono ?_
      rintro e w4 ⟨rfl, f4, h4⟩
      have H4 := Lib.hid h4
      clear h4 H3
      go_wp2_with fail
      refine (H4.out.trip L (s' := ⟨xs, xs.length, false, some j⟩) rfl (by omega) (by omega)).mono ?_
      rintro e w5 ⟨rfl, f5, h5⟩
      have H5 := Lib.hid h5
      clear h5 H4
      go_wp2_with fail
      refine (H5.out.append L HB.out (e := 0) (s' := ⟨xs ++ ys, xs.length, false, some j⟩) rfl rfl (by omega)).mono ?_
      rintro e w6 ⟨rfl, f6, h6⟩
      have H6 := Lib.hid h6
      clear h6 H5
      go_wp2_with fail
      refine (H6.out.cut L (n := 0) (e := 7) (s' := ⟨ls, xs.length, true, none⟩) (by rw [HLS.out]; exact cut_trip _ _ _) (by omega) (by omega) (by omega)).mono ?_
      rintro e w7 ⟨rfl, f7, h7⟩
      have H7 := Lib.hid h7
      clear h7 H6
      go_wp2_with fail
      refine (H7.out.off L (b := true) rfl).mono ?_
      rintro e w8 ⟨rfl, f8, h8⟩
      have H8 := Lib.hid h8
      clear h8 H7
      go_wp2_with fail
      refine (H8.out.start L (s' := ⟨ls, ls.length, false, none⟩) rfl (by omega)).mono ?_
      rintro e w9 ⟨rfl, f9, h9⟩
      have H9 := Lib.hid h9
      clear h9 H8
      go_wp2_with fail
      refine (H9.out.read L (e := 0) (out := ls) rfl rfl (by omega)).mono ?_
      rintro e w10 ⟨A10, c10, f10, rfl, hT10, hTa10, hTb10, hTc10, h10⟩
      have H10 := Lib.hid h10
      clear h10 H9
      have HT10 := Lib.hid hT10
      clear hT10
      go_wp2_with fail
      have hjd : ((j : Nat) : Int) ≤ d := by omega
      obtain ⟨i0, hi, hz0, hz1, hz2⟩ := info_parts info_u8
      have HNA := Lib.hid (HA.out.now H10.out.old)
      have HNB := Lib.hid ((HB.out.now H10.out.old).take j)
      have HTL := Lib.hid (show (ys.take j).length = j by rw [List.length_take]; omega)
      have HLL := Lib.hid (show ls.length = n + j by rw [HLE.out]; simp; omega)
      have HBL := Lib.hid (show ByteList ls from L.bytes H10.out.on)
      go_region_held3 (fun _ => True) (trivial) (first
        | (go_at_call 24; refine (twin_any A n c xs _ (by exact HNA.out) HA.out.len HA.out.nil (by omega)).mono ?_; rintro e w15 ⟨v15, rfl, hO15, hS15⟩; have HO15 := Lib.hid hO15; have HS15 := Lib.hid hS15; have HB15 := Lib.hid (nrowx_moved (S := []) (by exact HNB.out) hS15.1 (fun _ _ h => by cases h)); clear hO15 hS15)
        | (refine step_append_guarded (by rfl) _ _ 27 rfl 5 i0 .u8 1 Try.underlying27 hi hz0 hz1 hz2 v15 xs.length _ (by rfl) (by exact HO15.out) B j d (ys.take j) (by rfl) HTL.out HB15.out HB.out.nil (by unfold maxLen; omega) (by omega) ?_; intro v16 w16 hO16 hS16; rw [← List.map_append] at hO16; obtain ⟨A16, c16, rfl, -⟩ := own_shape hO16; have HO16 := Lib.hid hO16; have HT16 := Lib.hid (trow_beside (w := w10.drew) (t_stays HT10.out (fun _ _ => rfl)) HS15.out hS16); have H16 := Lib.hid (At.beside L (H10.out.drew L) HS15.out hS16); clear hO16 hS16)
        | (go_at_call 23; refine (bytes_is _ _ _ _ _ _ ls (xs ++ ys.take j) _ HT16.out.nrow (NRow.of_own HO16.out) rfl (by simp; omega) HBL.out (HLE.out ▸ HBL.out) true (by rw [← HLE.out]; simp)).mono ?_; rintro e w17 ⟨rfl, rfl⟩)
        | (go_at_call 15; refine (H16.out.sync L (e := 0) (s' := ⟨ls, ls.length, false, none⟩) rfl (by omega)).mono ?_; rintro e w18 ⟨rfl, f18, h18⟩; have H18 := Lib.hid h18.old; clear h18)
        | (go_at_call 13; refine (wakes_any L _).mono ?_; rintro e w20 ⟨rfl, hM20⟩; have HM20 := Lib.hid (H18.out.trans hM20 (fun _ h => by cases h)); clear hM20))
      go_wp2
      go_ret
      exact ⟨rfl, HM20.out⟩
    · have hu0 : ((u : Int) % 3 == 0) = false := by simp; omega
      have hu1 : ((u : Int) % 3 == 1) = false := by simp; omega
      go_enter Try.func5, Try.ntmps5
      go_wp2_with fail
      refine (At.new_ L w).mono ?_
      rintro e w1 ⟨p, f1, rfl, h1⟩
      have H1 := Lib.hid h1
      clear h1
      go_wp2_with fail
      refine (H1.out.append L HA.out (e := 0) (s' := ⟨xs, 0, false, none⟩) rfl rfl (by omega)).mono ?_
      rintro e w2 ⟨rfl, f2, h2⟩
      have H2 := Lib.hid h2
      clear h2 H1
      go_wp2_with fail
      refine (H2.out.sync L (e := 0) (s' := ⟨xs, xs.length, false, none⟩) rfl (by omega)).mono ?_
      rintro e w3 ⟨rfl, f3, h3⟩
      have H3 := Lib.hid h3
      clear h3 H2
      go_wp2_with fail
      refine (H3.out.trip L (s' := ⟨xs, xs.length, false, some 7⟩) rfl (by omega) (by omega)).mono ?_
      rintro e w4 ⟨rfl, f4, h4⟩
      have H4 := Lib.hid h4
      clear h4 H3
      go_wp2_with fail
      refine (H4.out.trip L (s' := ⟨xs, xs.length, false, some j⟩) rfl (by omega) (by omega)).mono ?_
      rintro e w5 ⟨rfl, f5, h5⟩
      have H5 := Lib.hid h5
      clear h5 H4
      go_wp2_with fail
      refine (H5.out.append L HB.out (e := 0) (s' := ⟨xs ++ ys, xs.length, false, some j⟩) rfl rfl (by omega)).mono ?_
      rintro e w6 ⟨rfl, f6, h6⟩
      have H6 := Lib.hid h6
      clear h6 H5
      go_wp2_with fail
      refine (H6.out.swap L HC.out (e := 7) (s' := ⟨ls, xs.length, true, none⟩) (by rw [HLS.out]; rfl) (by omega)).mono ?_
      rintro e w7 ⟨rfl, f7, h7⟩
      have H7 := Lib.hid h7
      clear h7 H6
      go_wp2_with fail
      refine (H7.out.off L (b := true) rfl).mono ?_
      rintro e w8 ⟨rfl, f8, h8⟩
      have H8 := Lib.hid h8
      clear h8 H7
      go_wp2_with fail
      refine (H8.out.start L (s' := ⟨ls, ls.length, false, none⟩) rfl (by omega)).mono ?_
      rintro e w9 ⟨rfl, f9, h9⟩
      have H9 := Lib.hid h9
      clear h9 H8
      go_wp2_with fail
      refine (H9.out.read L (e := 0) (out := ls) rfl rfl (by omega)).mono ?_
      rintro e w10 ⟨A10, c10, f10, rfl, hT10, hTa10, hTb10, hTc10, h10⟩
      have H10 := Lib.hid h10
      clear h10 H9
      have HT10 := Lib.hid hT10
      clear hT10
      go_wp2_with fail
      have hjd : ((j : Nat) : Int) ≤ d := by omega
      obtain ⟨i0, hi, hz0, hz1, hz2⟩ := info_parts info_u8
      have HNA := Lib.hid (HA.out.now H10.out.old)
      have HNB := Lib.hid ((HB.out.now H10.out.old).take j)
      have HTL := Lib.hid (show (ys.take j).length = j by rw [List.length_take]; omega)
      have HLL := Lib.hid (show ls.length = n + j by rw [HLE.out]; simp; omega)
      have HBL := Lib.hid (show ByteList ls from L.bytes H10.out.on)
      go_region_held3 (fun _ => True) (trivial) (first
        | (go_at_call 24; refine (twin_any A n c xs _ (by exact HNA.out) HA.out.len HA.out.nil (by omega)).mono ?_; rintro e w15 ⟨v15, rfl, hO15, hS15⟩; have HO15 := Lib.hid hO15; have HS15 := Lib.hid hS15; have HB15 := Lib.hid (nrowx_moved (S := []) (by exact HNB.out) hS15.1 (fun _ _ h => by cases h)); clear hO15 hS15)
        | (refine step_append_guarded (by rfl) _ _ 27 rfl 5 i0 .u8 1 Try.underlying27 hi hz0 hz1 hz2 v15 xs.length _ (by rfl) (by exact HO15.out) B j d (ys.take j) (by rfl) HTL.out HB15.out HB.out.nil (by unfold maxLen; omega) (by omega) ?_; intro v16 w16 hO16 hS16; rw [← List.map_append] at hO16; obtain ⟨A16, c16, rfl, -⟩ := own_shape hO16; have HO16 := Lib.hid hO16; have HT16 := Lib.hid (trow_beside (w := w10.drew) (t_stays HT10.out (fun _ _ => rfl)) HS15.out hS16); have H16 := Lib.hid (At.beside L (H10.out.drew L) HS15.out hS16); clear hO16 hS16)
        | (go_at_call 23; refine (bytes_is _ _ _ _ _ _ ls (xs ++ ys.take j) _ HT16.out.nrow (NRow.of_own HO16.out) rfl (by simp; omega) HBL.out (HLE.out ▸ HBL.out) true (by rw [← HLE.out]; simp)).mono ?_; rintro e w17 ⟨rfl, rfl⟩)
        | (go_at_call 15; refine (H16.out.sync L (e := 0) (s' := ⟨ls, ls.length, false, none⟩) rfl (by omega)).mono ?_; rintro e w18 ⟨rfl, f18, h18⟩; have H18 := Lib.hid h18.old; clear h18)
        | (go_at_call 13; refine (wakes_any L _).mono ?_; rintro e w20 ⟨rfl, hM20⟩; have HM20 := Lib.hid (H18.out.trans hM20 (fun _ h => by cases h)); clear hM20))
      go_wp2
      go_ret
      exact ⟨rfl, HM20.out⟩
  · obtain ⟨ls, hls⟩ : ∃ ls, ls = left (xs ++ ys) xs.length keep := ⟨_, rfl⟩
    have HLS := Lib.hid hls
    have HLE := Lib.hid (hls.trans (left_is (j := k) (.inr (.inr ⟨by omega, by omega⟩))))
    clear hls
    rcases (by omega : u % 3 = 0 ∨ u % 3 = 1 ∨ u % 3 = 2) with hum | hum | hum
    · have hu0 : ((u : Int) % 3 == 0) = true := by simp; omega
      have hu1 : ((u : Int) % 3 == 1) = false := by simp; omega
      go_enter Try.func5, Try.ntmps5
      go_wp2_with fail
      refine (At.new_ L w).mono ?_
      rintro e w1 ⟨p, f1, rfl, h1⟩
      have H1 := Lib.hid h1
      clear h1
      go_wp2_with fail
      refine (H1.out.append L HA.out (e := 0) (s' := ⟨xs, 0, false, none⟩) rfl rfl (by omega)).mono ?_
      rintro e w2 ⟨rfl, f2, h2⟩
      have H2 := Lib.hid h2
      clear h2 H1
      go_wp2_with fail
      refine (H2.out.sync L (e := 0) (s' := ⟨xs, xs.length, false, none⟩) rfl (by omega)).mono ?_
      rintro e w3 ⟨rfl, f3, h3⟩
      have H3 := Lib.hid h3
      clear h3 H2
      go_wp2_with fail
      refine (H3.out.trip L (s' := ⟨xs, xs.length, false, some 7⟩) rfl (by omega) (by omega)).mono ?_
      rintro e w4 ⟨rfl, f4, h4⟩
      have H4 := Lib.hid h4
      clear h4 H3
      go_wp2_with fail
      refine (H4.out.trip L (s' := ⟨xs, xs.length, false, some keep⟩) rfl (by omega) (by omega)).mono ?_
      rintro e w5 ⟨rfl, f5, h5⟩
      have H5 := Lib.hid h5
      clear h5 H4
      go_wp2_with fail
      refine (H5.out.append L HB.out (e := 0) (s' := ⟨xs ++ ys, xs.length, false, some keep⟩) rfl rfl (by omega)).mono ?_
      rintro e w6 ⟨rfl, f6, h6⟩
      have H6 := Lib.hid h6
      clear h6 H5
      go_wp2_with fail
      refine (H6.out.sync L (e := 7) (s' := ⟨ls, xs.length, true, none⟩) (by rw [HLS.out]; rfl) (by omega)).mono ?_
      rintro e w7 ⟨rfl, f7, h7⟩
      have H7 := Lib.hid h7
      clear h7 H6
      go_wp2_with fail
      refine (H7.out.off L (b := true) rfl).mono ?_
      rintro e w8 ⟨rfl, f8, h8⟩
      have H8 := Lib.hid h8
      clear h8 H7
      go_wp2_with fail
      refine (H8.out.start L (s' := ⟨ls, ls.length, false, none⟩) rfl (by omega)).mono ?_
      rintro e w9 ⟨rfl, f9, h9⟩
      have H9 := Lib.hid h9
      clear h9 H8
      go_wp2_with fail
      refine (H9.out.read L (e := 0) (out := ls) rfl rfl (by omega)).mono ?_
      rintro e w10 ⟨A10, c10, f10, rfl, hT10, hTa10, hTb10, hTc10, h10⟩
      have H10 := Lib.hid h10
      clear h10 H9
      have HT10 := Lib.hid hT10
      clear hT10
      go_wp2_with fail
      have hjd : ((k : Nat) : Int) ≤ d := by omega
      obtain ⟨i0, hi, hz0, hz1, hz2⟩ := info_parts info_u8
      have HNA := Lib.hid (HA.out.now H10.out.old)
      have HNB := Lib.hid ((HB.out.now H10.out.old).take k)
      have HTL := Lib.hid (show (ys.take k).length = k by rw [List.length_take]; omega)
      have HLL := Lib.hid (show ls.length = n + k by rw [HLE.out]; simp; omega)
      have HBL := Lib.hid (show ByteList ls from L.bytes H10.out.on)
      go_region_held3 (fun _ => True) (trivial) (first
        | (go_at_call 24; refine (twin_any A n c xs _ (by exact HNA.out) HA.out.len HA.out.nil (by omega)).mono ?_; rintro e w15 ⟨v15, rfl, hO15, hS15⟩; have HO15 := Lib.hid hO15; have HS15 := Lib.hid hS15; have HB15 := Lib.hid (nrowx_moved (S := []) (by exact HNB.out) hS15.1 (fun _ _ h => by cases h)); clear hO15 hS15)
        | (refine step_append_guarded (by rfl) _ _ 27 rfl 5 i0 .u8 1 Try.underlying27 hi hz0 hz1 hz2 v15 xs.length _ (by rfl) (by exact HO15.out) B k d (ys.take k) (by rfl) HTL.out HB15.out HB.out.nil (by unfold maxLen; omega) (by omega) ?_; intro v16 w16 hO16 hS16; rw [← List.map_append] at hO16; obtain ⟨A16, c16, rfl, -⟩ := own_shape hO16; have HO16 := Lib.hid hO16; have HT16 := Lib.hid (trow_beside (w := w10.drew) (t_stays HT10.out (fun _ _ => rfl)) HS15.out hS16); have H16 := Lib.hid (At.beside L (H10.out.drew L) HS15.out hS16); clear hO16 hS16)
        | (go_at_call 23; refine (bytes_is _ _ _ _ _ _ ls (xs ++ ys.take k) _ HT16.out.nrow (NRow.of_own HO16.out) rfl (by simp; omega) HBL.out (HLE.out ▸ HBL.out) true (by rw [← HLE.out]; simp)).mono ?_; rintro e w17 ⟨rfl, rfl⟩)
        | (go_at_call 15; refine (H16.out.sync L (e := 0) (s' := ⟨ls, ls.length, false, none⟩) rfl (by omega)).mono ?_; rintro e w18 ⟨rfl, f18, h18⟩; have H18 := Lib.hid h18.old; clear h18)
        | (go_at_call 13; refine (wakes_any L _).mono ?_; rintro e w20 ⟨rfl, hM20⟩; have HM20 := Lib.hid (H18.out.trans hM20 (fun _ h => by cases h)); clear hM20))
      go_wp2
      go_ret
      exact ⟨rfl, HM20.out⟩
    · have hu0 : ((u : Int) % 3 == 0) = false := by simp; omega
      have hu1 : ((u : Int) % 3 == 1) = true := by simp; omega
      go_enter Try.func5, Try.ntmps5
      go_wp2_with fail
      refine (At.new_ L w).mono ?_
      rintro e w1 ⟨p, f1, rfl, h1⟩
      have H1 := Lib.hid h1
      clear h1
      go_wp2_with fail
      refine (H1.out.append L HA.out (e := 0) (s' := ⟨xs, 0, false, none⟩) rfl rfl (by omega)).mono ?_
      rintro e w2 ⟨rfl, f2, h2⟩
      have H2 := Lib.hid h2
      clear h2 H1
      go_wp2_with fail
      refine (H2.out.sync L (e := 0) (s' := ⟨xs, xs.length, false, none⟩) rfl (by omega)).mono ?_
      rintro e w3 ⟨rfl, f3, h3⟩
      have H3 := Lib.hid h3
      clear h3 H2
      go_wp2_with fail
      refine (H3.out.trip L (s' := ⟨xs, xs.length, false, some 7⟩) rfl (by omega) (by omega)).mono ?_
      rintro e w4 ⟨rfl, f4, h4⟩
      have H4 := Lib.hid h4
      clear h4 H3
      go_wp2_with fail
      refine (H4.out.trip L (s' := ⟨xs, xs.length, false, some keep⟩) rfl (by omega) (by omega)).mono ?_
      rintro e w5 ⟨rfl, f5, h5⟩
      have H5 := Lib.hid h5
      clear h5 H4
      go_wp2_with fail
      refine (H5.out.append L HB.out (e := 0) (s' := ⟨xs ++ ys, xs.length, false, some keep⟩) rfl rfl (by omega)).mono ?_
      rintro e w6 ⟨rfl, f6, h6⟩
      have H6 := Lib.hid h6
      clear h6 H5
      go_wp2_with fail
      refine (H6.out.cut L (n := 0) (e := 7) (s' := ⟨ls, xs.length, true, none⟩) (by rw [HLS.out]; exact cut_trip _ _ _) (by omega) (by omega) (by omega)).mono ?_
      rintro e w7 ⟨rfl, f7, h7⟩
      have H7 := Lib.hid h7
      clear h7 H6
      go_wp2_with fail
      refine (H7.out.off L (b := true) rfl).mono ?_
      rintro e w8 ⟨rfl, f8, h8⟩
      have H8 := Lib.hid h8
      clear h8 H7
      go_wp2_with fail
      refine (H8.out.start L (s' := ⟨ls, ls.length, false, none⟩) rfl (by omega)).mono ?_
      rintro e w9 ⟨rfl, f9, h9⟩
      have H9 := Lib.hid h9
      clear h9 H8
      go_wp2_with fail
      refine (H9.out.read L (e := 0) (out := ls) rfl rfl (by omega)).mono ?_
      rintro e w10 ⟨A10, c10, f10, rfl, hT10, hTa10, hTb10, hTc10, h10⟩
      have H10 := Lib.hid h10
      clear h10 H9
      have HT10 := Lib.hid hT10
      clear hT10
      go_wp2_with fail
      have hjd : ((k : Nat) : Int) ≤ d := by omega
      obtain ⟨i0, hi, hz0, hz1, hz2⟩ := info_parts info_u8
      have HNA := Lib.hid (HA.out.now H10.out.old)
      have HNB := Lib.hid ((HB.out.now H10.out.old).take k)
      have HTL := Lib.hid (show (ys.take k).length = k by rw [List.length_take]; omega)
      have HLL := Lib.hid (show ls.length = n + k by rw [HLE.out]; simp; omega)
      have HBL := Lib.hid (show ByteList ls from L.bytes H10.out.on)
      go_region_held3 (fun _ => True) (trivial) (first
        | (go_at_call 24; refine (twin_any A n c xs _ (by exact HNA.out) HA.out.len HA.out.nil (by omega)).mono ?_; rintro e w15 ⟨v15, rfl, hO15, hS15⟩; have HO15 := Lib.hid hO15; have HS15 := Lib.hid hS15; have HB15 := Lib.hid (nrowx_moved (S := []) (by exact HNB.out) hS15.1 (fun _ _ h => by cases h)); clear hO15 hS15)
        | (refine step_append_guarded (by rfl) _ _ 27 rfl 5 i0 .u8 1 Try.underlying27 hi hz0 hz1 hz2 v15 xs.length _ (by rfl) (by exact HO15.out) B k d (ys.take k) (by rfl) HTL.out HB15.out HB.out.nil (by unfold maxLen; omega) (by omega) ?_; intro v16 w16 hO16 hS16; rw [← List.map_append] at hO16; obtain ⟨A16, c16, rfl, -⟩ := own_shape hO16; have HO16 := Lib.hid hO16; have HT16 := Lib.hid (trow_beside (w := w10.drew) (t_stays HT10.out (fun _ _ => rfl)) HS15.out hS16); have H16 := Lib.hid (At.beside L (H10.out.drew L) HS15.out hS16); clear hO16 hS16)
        | (go_at_call 23; refine (bytes_is _ _ _ _ _ _ ls (xs ++ ys.take k) _ HT16.out.nrow (NRow.of_own HO16.out) rfl (by simp; omega) HBL.out (HLE.out ▸ HBL.out) true (by rw [← HLE.out]; simp)).mono ?_; rintro e w17 ⟨rfl, rfl⟩)
        | (go_at_call 15; refine (H16.out.sync L (e := 0) (s' := ⟨ls, ls.length, false, none⟩) rfl (by omega)).mono ?_; rintro e w18 ⟨rfl, f18, h18⟩; have H18 := Lib.hid h18.old; clear h18)
        | (go_at_call 13; refine (wakes_any L _).mono ?_; rintro e w20 ⟨rfl, hM20⟩; have HM20 := Lib.hid (H18.out.trans hM20 (fun _ h => by cases h)); clear hM20))
      go_wp2
      go_ret
      exact ⟨rfl, HM20.out⟩
    · have hu0 : ((u : Int) % 3 == 0) = false := by simp; omega
      have hu1 : ((u : Int) % 3 == 1) = false := by simp; omega
      go_enter Try.func5, Try.ntmps5
      go_wp2_with fail
      refine (At.new_ L w).mono ?_
      rintro e w1 ⟨p, f1, rfl, h1⟩
      have H1 := Lib.hid h1
      clear h1
      go_wp2_with fail
      refine (H1.out.append L HA.out (e := 0) (s' := ⟨xs, 0, false, none⟩) rfl rfl (by omega)).mono ?_
      rintro e w2 ⟨rfl, f2, h2⟩
      have H2 := Lib.hid h2
      clear h2 H1
      go_wp2_with fail
      refine (H2.out.sync L (e := 0) (s' := ⟨xs, xs.length, false, none⟩) rfl (by omega)).mono ?_
      rintro e w3 ⟨rfl, f3, h3⟩
      have H3 := Lib.hid h3
      clear h3 H2
      go_wp2_with fail
      refine (H3.out.trip L (s' := ⟨xs, xs.length, false, some 7⟩) rfl (by omega) (by omega)).mono ?_
      rintro e w4 ⟨rfl, f4, h4⟩
      have H4 := Lib.hid h4
      clear h4 H3
      go_wp2_with fail
      refine (H4.out.trip L (s' := ⟨xs, xs.length, false, some keep⟩) rfl (by omega) (by omega)).mono ?_
      rintro e w5 ⟨rfl, f5, h5⟩
      have H5 := Lib.hid h5
      clear h5 H4
      go_wp2_with fail
      refine (H5.out.append L HB.out (e := 0) (s' := ⟨xs ++ ys, xs.length, false, some keep⟩) rfl rfl (by omega)).mono ?_
      rintro e w6 ⟨rfl, f6, h6⟩
      have H6 := Lib.hid h6
      clear h6 H5
      go_wp2_with fail
      refine (H6.out.swap L HC.out (e := 7) (s' := ⟨ls, xs.length, true, none⟩) (by rw [HLS.out]; rfl) (by omega)).mono ?_
      rintro e w7 ⟨rfl, f7, h7⟩
      have H7 := Lib.hid h7
      clear h7 H6
      go_wp2_with fail
      refine (H7.out.off L (b := true) rfl).mono ?_
      rintro e w8 ⟨rfl, f8, h8⟩
      have H8 := Lib.hid h8
      clear h8 H7
      go_wp2_with fail
      refine (H8.out.start L (s' := ⟨ls, ls.length, false, none⟩) rfl (by omega)).mono ?_
      rintro e w9 ⟨rfl, f9, h9⟩
      have H9 := Lib.hid h9
      clear h9 H8
      go_wp2_with fail
      refine (H9.out.read L (e := 0) (out := ls) rfl rfl (by omega)).mono ?_
      rintro e w10 ⟨A10, c10, f10, rfl, hT10, hTa10, hTb10, hTc10, h10⟩
      have H10 := Lib.hid h10
      clear h10 H9
      have HT10 := Lib.hid hT10
      clear hT10
      go_wp2_with fail
      have hjd : ((k : Nat) : Int) ≤ d := by omega
      obtain ⟨i0, hi, hz0, hz1, hz2⟩ := info_parts info_u8
      have HNA := Lib.hid (HA.out.now H10.out.old)
      have HNB := Lib.hid ((HB.out.now H10.out.old).take k)
      have HTL := Lib.hid (show (ys.take k).length = k by rw [List.length_take]; omega)
      have HLL := Lib.hid (show ls.length = n + k by rw [HLE.out]; simp; omega)
      have HBL := Lib.hid (show ByteList ls from L.bytes H10.out.on)
      go_region_held3 (fun _ => True) (trivial) (first
        | (go_at_call 24; refine (twin_any A n c xs _ (by exact HNA.out) HA.out.len HA.out.nil (by omega)).mono ?_; rintro e w15 ⟨v15, rfl, hO15, hS15⟩; have HO15 := Lib.hid hO15; have HS15 := Lib.hid hS15; have HB15 := Lib.hid (nrowx_moved (S := []) (by exact HNB.out) hS15.1 (fun _ _ h => by cases h)); clear hO15 hS15)
        | (refine step_append_guarded (by rfl) _ _ 27 rfl 5 i0 .u8 1 Try.underlying27 hi hz0 hz1 hz2 v15 xs.length _ (by rfl) (by exact HO15.out) B k d (ys.take k) (by rfl) HTL.out HB15.out HB.out.nil (by unfold maxLen; omega) (by omega) ?_; intro v16 w16 hO16 hS16; rw [← List.map_append] at hO16; obtain ⟨A16, c16, rfl, -⟩ := own_shape hO16; have HO16 := Lib.hid hO16; have HT16 := Lib.hid (trow_beside (w := w10.drew) (t_stays HT10.out (fun _ _ => rfl)) HS15.out hS16); have H16 := Lib.hid (At.beside L (H10.out.drew L) HS15.out hS16); clear hO16 hS16)
        | (go_at_call 23; refine (bytes_is _ _ _ _ _ _ ls (xs ++ ys.take k) _ HT16.out.nrow (NRow.of_own HO16.out) rfl (by simp; omega) HBL.out (HLE.out ▸ HBL.out) true (by rw [← HLE.out]; simp)).mono ?_; rintro e w17 ⟨rfl, rfl⟩)
        | (go_at_call 15; refine (H16.out.sync L (e := 0) (s' := ⟨ls, ls.length, false, none⟩) rfl (by omega)).mono ?_; rintro e w18 ⟨rfl, f18, h18⟩; have H18 := Lib.hid h18.old; clear h18)
        | (go_at_call 13; refine (wakes_any L _).mono ?_; rintro e w20 ⟨rfl, hM20⟩; have HM20 := Lib.hid (H18.out.trans hM20 (fun _ h => by cases h)); clear hM20))
      go_wp2
      go_ret
      exact ⟨rfl, HM20.out⟩
end Dk
end Go.Proofs.Ytcajljpdflginaa
