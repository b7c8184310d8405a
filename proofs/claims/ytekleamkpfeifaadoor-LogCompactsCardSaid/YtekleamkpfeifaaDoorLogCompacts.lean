/-
  THE WALK of the statement LogCompacts, from what it asks of the program's Log.
-/
import Derived.Test.YtekleamkpfeifaaDoorLogMore
namespace Go.Proofs.YtekleamkpfeifaaDoor
namespace Lg
open Go.RowKit Dk Fr
theorem swap_ok (xs : List Int) (k : Nat) (ys : List Int) : DSt.swap ys ⟨xs, k, false, none⟩ = (0, ⟨ys, ys.length, false, none⟩) := rfl
theorem swap_trip (xs ys : List Int) (k : Int) : DSt.swap ys ⟨xs, xs.length, false, some k⟩ = (7, ⟨xs, xs.length, true, none⟩) := by
  show (_, DSt.crash k _) = _
  unfold DSt.crash
  rw [if_neg (by simp), left_all]
theorem crash_all (xs : List Int) (k : Int) : DSt.crash k ⟨xs, xs.length, false, none⟩ = ⟨xs, xs.length, true, none⟩ := by
  unfold DSt.crash
  rw [if_neg (by simp), left_all]
set_option maxRecDepth 100000 in
set_option maxHeartbeats 4000000 in
theorem compacts_any {D : World → Nat → List Nat → DSt → Nat → Prop} {G : World → Nat → Nat → List Nat → List Int → List (List Int) → Nat → Prop} (L : LLaws D G) (A : Option Addr) (n c : Nat) (vs : List Value) (ps : List (List Int)) (B : Option Addr) (n2 c2 : Nat) (us : List Value) (qs : List (List Int)) (E : Option Addr) (n3 c3 : Nat) (ss : List Int) (t : Bool) (W : World)
    (hA : BRows W A vs ps) (hn : ps.length = n) (hb : ∀ p ∈ ps, ByteList p) (hB : BRows W B us qs) (hn2 : qs.length = n2) (hb2 : ∀ p ∈ qs, ByteList p) (hE : Was W E n3 c3 ss) (hld : Ld W) :
    Calls Tryd.prog 5 #[.slice A n c, .slice B n2 c2, .slice E n3 c3, .bool t] W fun e w' => e = .returned (.bool true) ∧ Moved W w' [] := by
  subst hn
  subst hn2
  by_cases hbig : 50 < ps.length
  · go_enter Tryd.func5, Tryd.ntmps5
    go_wp2
    go_ret
    exact ⟨rfl, Moved.refl _ _⟩
  by_cases hbig2 : 50 < qs.length
  · go_enter Tryd.func5, Tryd.ntmps5
    go_wp2
    go_ret
    exact ⟨rfl, Moved.refl _ _⟩
  by_cases hbig3 : 4096 < n3
  · go_enter Tryd.func5, Tryd.ntmps5
    go_wp2
    go_ret
    exact ⟨rfl, Moved.refl _ _⟩
  have HA := Lib.hid hA
  have HB := Lib.hid hb
  have HA2 := Lib.hid hB
  have HB2 := Lib.hid hb2
  have HE := Lib.hid hE
  have HLD := Lib.hid hld
  have HSL := Lib.hid hE.len
  clear hA hb hB hb2 hE hld
  go_enter Tryd.func5, Tryd.ntmps5
  go_wp2_with fail
  refine (At.new_ L.disk W).mono ?_
  rintro e w1 ⟨p, f1, rfl, h1⟩
  have H1 := Lib.hid h1
  clear h1
  go_wp2_with fail
  refine (LAt.open_ L H1.out HLD.out (open_new 0) log_nil (by omega)).mono ?_
  rintro e w2 ⟨l, d2, l2, rfl, h2, -⟩
  have H2 := Lib.hid h2
  clear h2
  go_wp2
  go_loopw [12] (fun i wr => ∃ (k m : Nat) (fd fl : List Nat), i = .int .i64 k ∧ k ≤ ps.length ∧ m ≤ k * 4105 ∧ LAt D G W wr p l fd fl ⟨recFrames (ps.take k), 0, false, none⟩ [] (ps.take k) m ∧ Hid (∀ r ∈ ps.take k, r.length ≤ 4096)) (fun i _ => ps.length - (intOf i).toNat)
  case atStart => exact ⟨0, 0, d2, l2, rfl, by omega, by omega, H2.out, fun r hr => by simp at hr⟩
  case round =>
    obtain ⟨k, m, fd, fl, rfl, hk, hm, hL, HS⟩ := hrel
    have HL := Lib.hid hL
    have hm2 : m ≤ 205250 := by omega
    by_cases hlt : k < ps.length
    · obtain ⟨b1, o1, B1, c1, q, rfl, hq, hc1, hW, -⟩ := elem_was HA.out hL.old HB.out hlt
      have HW := Lib.hid hW
      have HTK := Lib.hid (take_snoc hq)
      clear hL hq hW
      by_cases hlong : 4096 < q.length
      · go_wp2
        go_ret
        exact ⟨rfl, HL.out.old⟩
      go_wp2_with fail
      refine (HL.out.append L HLD.out HW.out rfl (by omega) (s' := ⟨recFrames (ps.take (k + 1)), 0, false, none⟩) (by rw [HTK.out, recFrames_snoc]; rfl) (by omega)).mono ?_
      rintro e w3 ⟨rfl, fd', fl', h3, -⟩
      have H3 := Lib.hid (show LAt D G W w3 p l fd' fl' ⟨recFrames (ps.take (k + 1)), 0, false, none⟩ [] (ps.take (k + 1)) (m + q.length + 9) by rw [HTK.out] at h3 ⊢; exact h3)
      clear h3
      go_wp2
      go_roundw
      case rel => exact ⟨k + 1, m + q.length + 9, fd', fl', by go_num, by omega, by omega, H3.out, by
        intro r hr
        rw [HTK.out] at hr
        rcases List.mem_append.1 hr with h | h
        · exact HS.out r h
        · simp at h; subst h; omega⟩
      case measure => simp [intOf]; omega
    · have HTK := Lib.hid (show ps.take k = ps from List.take_of_length_le (by omega))
      obtain ⟨xs, hxs⟩ : ∃ xs, xs = recFrames ps := ⟨_, rfl⟩
      have HXS := Lib.hid hxs
      have H3 := Lib.hid (show LAt D G W wr p l fd fl ⟨xs, 0, false, none⟩ [] ps m by rw [hxs]; rw [HTK.out] at hL; exact hL)
      have HS2 := Lib.hid (show ∀ r ∈ ps, r.length ≤ 131071 from fun r hr => by have := HS.out r (by rw [HTK.out]; exact hr); omega)
      have hxl : xs.length ≤ 205250 := by have h := L.disk.fits H3.out.disk; have h : xs.length ≤ m := h; omega
      clear hL hxs HL HS
      go_wp2_with fail
      refine (H3.out.sync L rfl (s' := ⟨xs, xs.length, false, none⟩) rfl (by omega)).mono ?_
      rintro e w4 ⟨rfl, d4, l4, h4, -⟩
      have H4 := Lib.hid h4
      clear h4
      cases t
      · go_wp2_with fail
        refine (H4.out.compact_ L HLD.out (H4.out.lent HE.out) rfl (by omega) (s' := ⟨snapFrame ss, (snapFrame ss).length, false, none⟩) rfl (by omega)).mono ?_
        rintro e w5 ⟨rfl, d5, l5, h5, -⟩
        have H5 := Lib.hid h5
        clear h5
        go_wp2_with fail
        refine (H5.out.recs L (by omega)).mono ?_
        rintro e w6 ⟨A6, c6, vs6, l6, f6, rfl, -, -, -, -, -, -, h6, -⟩
        have H6 := Lib.hid h6
        clear h6
        go_wp2_with fail
        refine (H6.out.snap L (by omega)).mono ?_
        rintro e w7 ⟨A7, c7, l7, rfl, hT7, -, -, -, h7, -⟩
        have H7 := Lib.hid h7
        have HT7 := Lib.hid hT7.nrow
        clear h7 hT7
        go_wp2_with fail
        refine (bytes_is A7 E _ _ _ _ ss ss _ HT7.out (HE.out.now H7.out.old) rfl HE.out.len HE.out.bytes HE.out.bytes true (by simp)).mono ?_
        rintro e w8 ⟨rfl, rfl⟩
        obtain ⟨fs, hfs⟩ : ∃ fs, fs = snapFrame ss := ⟨_, rfl⟩
        have HFS := Lib.hid hfs
        have H8 := Lib.hid (show LAt D G W w7 p l d5 l7 ⟨fs ++ recFrames (qs.take 0), fs.length, false, none⟩ ss (qs.take 0) (m + n3 + 9) by rw [hfs, List.take_zero, show recFrames [] = [] from rfl, List.append_nil]; exact H7.out)
        clear hfs
        go_wp2
        go_loopw [13] (fun i wr => ∃ (k m : Nat) (fd fl : List Nat), i = .int .i64 k ∧ k ≤ qs.length ∧ m ≤ 209355 + k * 4105 ∧ LAt D G W wr p l fd fl ⟨fs ++ recFrames (qs.take k), fs.length, false, none⟩ ss (qs.take k) m ∧ Hid (∀ r ∈ qs.take k, r.length ≤ 4096)) (fun i _ => qs.length - (intOf i).toNat)
        case atStart => exact ⟨0, m + n3 + 9, d5, l7, rfl, by omega, by omega, H8.out, fun r hr => by simp at hr⟩
        case round =>
          obtain ⟨k, m, fd, fl, rfl, hk, hm, hL, HS⟩ := hrel
          have HL := Lib.hid hL
          have hm2 : m ≤ 414605 := by omega
          by_cases hlt : k < qs.length
          · obtain ⟨b1, o1, B1, c1, q, rfl, hq, hc1, hW, -⟩ := elem_was HA2.out hL.old HB2.out hlt
            have HW := Lib.hid hW
            have HTK := Lib.hid (take_snoc hq)
            clear hL hq hW
            by_cases hlong : 4096 < q.length
            · go_wp2
              go_ret
              exact ⟨rfl, HL.out.old⟩
            go_wp2_with fail
            refine (HL.out.append L HLD.out HW.out rfl (by omega) (s' := ⟨fs ++ recFrames (qs.take (k + 1)), fs.length, false, none⟩) (by rw [HTK.out, recFrames_snoc, ← List.append_assoc]; rfl) (by omega)).mono ?_
            rintro e w3 ⟨rfl, fd', fl', h3, -⟩
            have H9 := Lib.hid (show LAt D G W w3 p l fd' fl' ⟨fs ++ recFrames (qs.take (k + 1)), fs.length, false, none⟩ ss (qs.take (k + 1)) (m + q.length + 9) by rw [HTK.out] at h3 ⊢; exact h3)
            clear h3
            go_wp2
            go_roundw
            case rel => exact ⟨k + 1, m + q.length + 9, fd', fl', by go_num, by omega, by omega, H9.out, by
              intro r hr
              rw [HTK.out] at hr
              rcases List.mem_append.1 hr with h | h
              · exact HS.out r h
              · simp at h; subst h; omega⟩
            case measure => simp [intOf]; omega
          · have HTK := Lib.hid (show qs.take k = qs from List.take_of_length_le (by omega))
            obtain ⟨ys, hys⟩ : ∃ ys, ys = fs ++ recFrames qs := ⟨_, rfl⟩
            have H9 := Lib.hid (show LAt D G W wr p l fd fl ⟨ys, fs.length, false, none⟩ ss qs m by rw [hys]; rw [HTK.out] at hL; exact hL)
            have HLOG := Lib.hid (show logOf ys = (ss, qs, ys.length) by rw [hys, HFS.out]; exact log_snap (by rw [HSL.out]; omega) (fun r hr => by have := HS.out r (by rw [HTK.out]; exact hr); omega))
            have hyl : ys.length ≤ 414605 := by have h := L.disk.fits H9.out.disk; have h : ys.length ≤ m := h; omega
            clear hL hys HL HS
            go_wp2_with fail
            refine (H9.out.sync L rfl (s' := ⟨ys, ys.length, false, none⟩) rfl (by omega)).mono ?_
            rintro e w10 ⟨rfl, d10, l10, h10, -⟩
            have H10 := Lib.hid h10
            clear h10
            go_wp2_with fail
            refine (H10.out.at_.crash L.disk (k := 0) (s' := ⟨ys, ys.length, true, none⟩) (crash_all ys 0) (by omega) (by omega) (by omega)).mono ?_
            rintro e w11 ⟨rfl, f11, h11⟩
            have H11 := Lib.hid h11
            clear h11
            go_wp2_with fail
            refine (H11.out.start L.disk (s' := ⟨ys, ys.length, false, none⟩) rfl (by omega)).mono ?_
            rintro e w12 ⟨rfl, f12, h12⟩
            have H12 := Lib.hid h12
            clear h12
            go_wp2_with fail
            refine (LAt.open_ L H12.out HLD.out (s' := ⟨ys, ys.length, false, none⟩) (sn := ss) (rs := qs) (k := ys.length) (open_log HLOG.out _) HLOG.out (by omega)).mono ?_
            rintro e w13 ⟨l13, d13, g13, rfl, h13, -⟩
            have H13 := Lib.hid h13
            clear h13
            go_wp2_with fail
            refine (H13.out.snap L (by omega)).mono ?_
            rintro e w14 ⟨A14, c14, l14, rfl, hT14, -, -, -, h14, -⟩
            have H14 := Lib.hid h14
            have HT14 := Lib.hid hT14.nrow
            clear h14 hT14
            go_wp2_with fail
            refine (bytes_is A14 E _ _ _ _ ss ss _ HT14.out (HE.out.now H14.out.old) rfl HE.out.len HE.out.bytes HE.out.bytes true (by simp)).mono ?_
            rintro e w15 ⟨rfl, rfl⟩
            go_wp2_with fail
            refine (H14.out.recs L (by omega)).mono ?_
            rintro e w15 ⟨A15, c15, vs15, l15, f15, rfl, -, hB15, -, -, -, -, h15, -⟩
            have H15 := Lib.hid h15.old
            have HB15 := Lib.hid hB15
            clear h15 hB15
            go_wp2_with fail
            refine (rows_any A15 B qs.length qs.length c15 _ vs15 us qs qs _ HB15.out (HA2.out.moved H15.out (fun _ _ h => by cases h)) rfl rfl HB2.out HB2.out (by omega) (by omega)).mono ?_
            rintro e w16 ⟨rfl, k16, rfl⟩
            rw [show decide (qs = qs) = true by simp]
            go_wp2_with fail
            refine (wakes_any L _ (by exact HLD.out.moved (H15.out.drewN k16))).mono ?_
            rintro e w17 ⟨rfl, hM17⟩
            have HM17 := Lib.hid ((H15.out.drewN k16).trans hM17 (fun _ h => by cases h))
            clear hM17
            go_wp2
            go_ret
            exact ⟨rfl, HM17.out⟩
      · go_wp2_with fail
        refine (tripL L H4.out (k := 3) (s' := ⟨xs, xs.length, false, some 3⟩) rfl (by omega) (by omega)).mono ?_
        rintro e w5 ⟨rfl, d5, h5, -⟩
        have H5 := Lib.hid h5
        clear h5
        go_wp2_with fail
        refine (H5.out.compact_no L HLD.out (H5.out.lent HE.out) rfl (by omega) (swap_trip xs (snapFrame ss) 3) (by omega)).mono ?_
        rintro e w6 ⟨rfl, d6, h6⟩
        have H6 := Lib.hid h6
        clear h6
        go_wp2_with fail
        refine (H6.out.start L.disk (s' := ⟨xs, xs.length, false, none⟩) rfl (by omega)).mono ?_
        rintro e w7 ⟨rfl, f7, h7⟩
        have H7 := Lib.hid h7
        clear h7
        have HLOG := Lib.hid (show logOf xs = ([], ps, xs.length) by rw [HXS.out]; exact log_just HS2.out)
        go_wp2_with fail
        refine (LAt.open_ L H7.out HLD.out (s' := ⟨xs, xs.length, false, none⟩) (sn := []) (rs := ps) (k := xs.length) (open_log HLOG.out _) HLOG.out (by omega)).mono ?_
        rintro e w8 ⟨l8, d8, g8, rfl, h8, -⟩
        have H8 := Lib.hid h8
        clear h8
        go_wp2_with fail
        refine (H8.out.snap L (by omega)).mono ?_
        rintro e w9 ⟨A9, c9, l9, rfl, -, -, -, -, h9, -⟩
        have H9 := Lib.hid h9
        clear h9
        go_wp2_with fail
        refine (H9.out.recs L (by omega)).mono ?_
        rintro e w15 ⟨A15, c15, vs15, l15, f15, rfl, -, hB15, -, -, -, -, h15, -⟩
        have H15 := Lib.hid h15.old
        have HB15 := Lib.hid hB15
        clear h15 hB15
        go_wp2_with fail
        refine (rows_any A15 A ps.length ps.length c15 _ vs15 vs ps ps _ HB15.out (HA.out.moved H15.out (fun _ _ h => by cases h)) rfl rfl HB.out HB.out (by omega) (by omega)).mono ?_
        rintro e w16 ⟨rfl, k16, rfl⟩
        rw [show decide (ps = ps) = true by simp]
        go_wp2_with fail
        refine (wakes_any L _ (by exact HLD.out.moved (H15.out.drewN k16))).mono ?_
        rintro e w17 ⟨rfl, hM17⟩
        have HM17 := Lib.hid ((H15.out.drewN k16).trans hM17 (fun _ h => by cases h))
        clear hM17
        go_wp2
        go_ret
        exact ⟨rfl, HM17.out⟩
end Lg
end Go.Proofs.YtekleamkpfeifaaDoor
