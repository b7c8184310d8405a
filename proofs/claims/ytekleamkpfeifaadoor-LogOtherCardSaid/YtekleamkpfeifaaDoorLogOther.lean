/-
  THE WALK of the statement LogOther, from what it asks of the program's Log.
-/
import Derived.Test.YtekleamkpfeifaaDoorLogMore
import Derived.Lib.SlBytesConst
namespace Go.Proofs.YtekleamkpfeifaaDoor
namespace Lg
open Go.RowKit Dk Fr
/-- Behind records stand frames of which the first is no record: they are cut away. -/
theorem open_other {rs : List (List Int)} (h : ∀ r ∈ rs, r.length ≤ 131071) {x : Int} {o zs : List Int} (hx : x ≠ 82) (hs : rs = [] → x ≠ 83) (ho : o.length ≤ 131071) {xs : List Int} (hxs : xs = recFrames rs) :
    logOf (xs ++ frameOf (x :: o) ++ zs) = ([], rs, xs.length) ∧ openSt ⟨xs ++ frameOf (x :: o) ++ zs, 0, false, none⟩ = (0, ⟨xs, xs.length, false, none⟩) := by
  subst hxs
  have hf : firstOf (frameOf (x :: o) ++ zs) = some (x :: o) := first_frame (by simp; omega)
  have hl : logOf (recFrames rs ++ frameOf (x :: o) ++ zs) = ([], rs, (recFrames rs).length) := by
    rw [List.append_assoc]
    exact log_other h (laid_other hf hx) (fun e => laid_other hf (hs e))
  refine ⟨hl, ?_⟩
  have hlen : (recFrames rs).length < (recFrames rs ++ frameOf (x :: o) ++ zs).length := by
    rw [List.length_append, List.length_append, frameOf_len]; omega
  unfold openSt
  rw [if_neg (by simp)]
  dsimp only
  rw [hl]
  dsimp only
  rw [if_pos hlen, cut_ok (Nat.le_of_lt hlen), List.append_assoc, List.take_left]
set_option maxRecDepth 100000 in
set_option maxHeartbeats 4000000 in
theorem other_any {D : World → Nat → List Nat → DSt → Nat → Prop} {G : World → Nat → Nat → List Nat → List Int → List (List Int) → Nat → Prop} (L : LLaws D G) (A : Option Addr) (n c : Nat) (vs : List Value) (ps : List (List Int)) (x : Int) (E : Option Addr) (n3 c3 : Nat) (os : List Int) (W : World)
    (hA : BRows W A vs ps) (hn : ps.length = n) (hb : ∀ p ∈ ps, ByteList p) (hx : 0 ≤ x ∧ x ≤ 255) (hE : Was W E n3 c3 os) (hld : Ld W) :
    Calls Tryd.prog 8 #[.slice A n c, .int .u8 x, .slice E n3 c3] W fun e w' => e = .returned (.bool true) ∧ Moved W w' [] := by
  subst hn
  by_cases hbig : 50 < ps.length
  · go_enter Tryd.func8, Tryd.ntmps8
    go_wp2
    go_ret
    exact ⟨rfl, Moved.refl _ _⟩
  by_cases hbig3 : 4096 < n3
  · go_enter Tryd.func8, Tryd.ntmps8
    go_wp2
    go_ret
    exact ⟨rfl, Moved.refl _ _⟩
  by_cases h82 : x = 82
  · obtain rfl := h82
    go_enter Tryd.func8, Tryd.ntmps8
    go_wp2
    go_ret
    exact ⟨rfl, Moved.refl _ _⟩
  have hx82 : (x == 82) = false := by rw [beq_eq_false_iff_ne]; exact h82
  obtain ⟨i0, hi, hz0, hz1, hz2⟩ := info_parts info_u8
  have kc := fun (w : World) (C : Array Value) (n c : Nat) => Lib.run_convert_bytes_const (P := Tryd.prog) w 27 5 C n c Tryd.underlying27 Tryd.underlying5
  have HA := Lib.hid hA
  have HB := Lib.hid hb
  have HE := Lib.hid hE
  have HX := Lib.hid hx
  have HX82 := Lib.hid h82
  have HLD := Lib.hid hld
  have HSL := Lib.hid hE.len
  clear hA hb hE hld hx h82
  go_enter Tryd.func8, Tryd.ntmps8
  go_wp2_with fail
  refine (At.new_ L.disk W).mono ?_
  rintro e w1 ⟨p, f1, rfl, h1⟩
  have H1 := Lib.hid h1
  clear h1
  go_wp2_with fail
  refine (LAt.open_ L H1.out HLD.out (open_new 0) log_nil (by omega)).mono ?_
  rintro e w2 ⟨l, d2, l2, rfl, h2, -⟩
  have H2 := Lib.hid h2
  clear h2
  go_wp2
  go_loopw [10] (fun i wr => ∃ (k m : Nat) (fd fl : List Nat), i = .int .i64 k ∧ k ≤ ps.length ∧ m ≤ k * 4105 ∧ LAt D G W wr p l fd fl ⟨recFrames (ps.take k), 0, false, none⟩ [] (ps.take k) m ∧ Hid (∀ r ∈ ps.take k, r.length ≤ 4096)) (fun i _ => ps.length - (intOf i).toNat)
  case atStart => exact ⟨0, 0, d2, l2, rfl, by omega, by omega, H2.out, fun r hr => by simp at hr⟩
  case round =>
    obtain ⟨k, m, fd, fl, rfl, hk, hm, hL, HS⟩ := hrel
    have HL := Lib.hid hL
    have hm2 : m ≤ 205250 := by omega
    by_cases hlt : k < ps.length
    · obtain ⟨b1, o1, B1, c1, q, rfl, hq, hc1, hW, -⟩ := elem_was HA.out hL.old HB.out hlt
      have HW := Lib.hid hW
      have HTK := Lib.hid (take_snoc hq)
      clear hL hq hW
      by_cases hlong : 4096 < q.length
      · go_wp2
        go_ret
        exact ⟨rfl, HL.out.old⟩
      go_wp2_with fail
      refine (HL.out.append L HLD.out HW.out rfl (by omega) (s' := ⟨recFrames (ps.take (k + 1)), 0, false, none⟩) (by rw [HTK.out, recFrames_snoc]; rfl) (by omega)).mono ?_
      rintro e w3 ⟨rfl, fd', fl', h3, -⟩
      have H3 := Lib.hid (show LAt D G W w3 p l fd' fl' ⟨recFrames (ps.take (k + 1)), 0, false, none⟩ [] (ps.take (k + 1)) (m + q.length + 9) by rw [HTK.out] at h3 ⊢; exact h3)
      clear h3
      go_wp2
      go_roundw
      case rel => exact ⟨k + 1, m + q.length + 9, fd', fl', by go_num, by omega, by omega, H3.out, by
        intro r hr
        rw [HTK.out] at hr
        rcases List.mem_append.1 hr with h | h
        · exact HS.out r h
        · simp at h; subst h; omega⟩
      case measure => simp [intOf]; omega
    · have HTK := Lib.hid (show ps.take k = ps from List.take_of_length_le (by omega))
      obtain ⟨xs, hxs⟩ : ∃ xs, xs = recFrames ps := ⟨_, rfl⟩
      have HXS := Lib.hid hxs
      have H3 := Lib.hid (show LAt D G W wr p l fd fl ⟨xs, 0, false, none⟩ [] ps m by rw [hxs]; rw [HTK.out] at hL; exact hL)
      have HS2 := Lib.hid (show ∀ r ∈ ps, r.length ≤ 131071 from fun r hr => by have := HS.out r (by rw [HTK.out]; exact hr); omega)
      have hxl : xs.length ≤ 205250 := by have h := L.disk.fits H3.out.disk; have h : xs.length ≤ m := h; omega
      clear hL hxs HL
      by_cases hs : ps.length = 0 ∧ x = 83
      · obtain ⟨hz, rfl⟩ := hs
        have hz2 : ((ps.length : Int) == 0) = true := by rw [beq_iff_eq]; omega
        go_wp2_with fail
        refine (wakes_any L _ (by exact HLD.out.moved H3.out.old)).mono ?_
        rintro e w17 ⟨rfl, hM17⟩
        have HM17 := Lib.hid (H3.out.old.trans hM17 (fun _ h => by cases h))
        clear hM17
        go_wp2
        go_ret
        exact ⟨rfl, HM17.out⟩
      have HSN := Lib.hid (fun h h' => hs ⟨by rw [h]; rfl, h'⟩ : ps = [] → x ≠ 83)
      obtain ⟨tt, htt⟩ : ∃ tt, tt = ((ps.length : Int) == 0) := ⟨_, rfl⟩
      have hcase : ((ps.length : Int) == 0) = false ∨ (((ps.length : Int) == 0) = true ∧ (x == 83) = false) := by
        rcases Nat.eq_zero_or_pos ps.length with h0 | h0
        · exact .inr ⟨by rw [beq_iff_eq]; omega, by rw [beq_eq_false_iff_ne]; exact fun h' => hs ⟨h0, h'⟩⟩
        · exact .inl (by rw [beq_eq_false_iff_ne]; omega)
      clear hs htt
      obtain ⟨fo, hfo⟩ : ∃ fo, fo = frameOf (x :: os) := ⟨_, rfl⟩
      obtain ⟨fl8, hfl8⟩ : ∃ fl8, fl8 = frameOf [82, 108, 97, 116, 101] := ⟨_, rfl⟩
      have HFO := Lib.hid hfo
      have HFL := Lib.hid hfl8
      clear hfo hfl8
      rcases hcase with hcase | ⟨hcase, hcase2⟩
      all_goals
        go_wp2_with fail
        refine (readS L H3.out.at_ (e := 0) (out := xs) rfl rfl (by omega)).mono ?_
        rintro e w4 ⟨A4, c4, f4, rfl, hT4, -, -, -, hF4, h4, -⟩
        have H4 := Lib.hid h4
        have HT4 := Lib.hid hT4.nrow
        have HF4 := Lib.hid hF4
        have HO4 := Lib.hid (own_lit (w := w4) (e := 5) [x] (by unfold maxLen; simp) #[.int .u8 x] rfl)
        have HE4 := Lib.hid ((HE.out.now h4.old).alloc (.cells #[.int .u8 x] 5))
        clear h4 hT4 hF4
        go_wp2_with (at_builtin; refine wpList_append_row rfl _ _ 27 rfl 5 i0 .u8 1 Tryd.underlying27 hi hz0 hz1 hz2 (.slice (some ⟨w4.heap.size, 0, none⟩) 1 1) 1 _ rfl (by exact HO4.out.1) E n3 c3 os rfl HE.out.len HE4.out HE.out.nil (by unfold maxLen; omega) (by omega) ?_)
        intro v5 w5 hown hst
        have HO5 := Lib.hid (show w5.ownsRow 0 5 1 v5 (1 + n3) ((x :: os).map (Value.int .u8)) from hown)
        have HS5 := Lib.hid (show Step w4 w5 [] (rowOf v5) from ⟨HO4.out.2.1.trans hst.1 (fun b hb => .inr (Step.new HO4.out.2 b hb)), fun b hb => .inr ((hst.2 b hb).elim (Step.new HO4.out.2 b) (fun h => Nat.le_trans HO4.out.2.1.size h))⟩)
        clear hown hst
        obtain ⟨A5, c5, rfl, hn5, hc5a, hc5b⟩ := own_shape HO5.out
        have HN5 := Lib.hid hn5
        have hol : (x :: os).length = 1 + n3 := by rw [List.length_cons, HSL.out]; omega
        have HOL := Lib.hid hol
        have HOB := Lib.hid (show ByteList (x :: os) from fun y hy => (List.mem_cons.1 hy).elim (fun h => by rw [h]; exact HX.out) (HE.out.bytes y))
        clear hn5 hol
        have H5 := Lib.hid (at_on L H4.out HS5.out)
        have HT5 := Lib.hid (nrowx_moved HT4.out HS5.out.1 (fun _ _ h => by cases h))
        have HF5 := Lib.hid (HF4.out.on HS5.out)
        have hso := seal_fits (p := x :: os) (by rw [HOL.out]; omega)
        rw [← HFO.out] at hso
        have HSO := Lib.hid hso
        clear hso
        go_wp2_with fail
        refine (refseal_any A5 _ c5 (x :: os) w5 (NRow.of_own HO5.out) HOL.out HOB.out HN5.out (by omega)).mono ?_
        rw [HSO.out.1, HSO.out.2]
        rintro e w6 ⟨v6, rfl, hO6, hS6⟩
        obtain ⟨A6, c6, rfl, hn6, hc6⟩ := own_shape hO6
        have HFR6 := Lib.hid (free_new (L.disk.lt H5.out.on) hS6 (own_lt hO6))
        have HR6 := Lib.hid (NRow.of_own hO6)
        have HN6 := Lib.hid hn6
        have HC6 := Lib.hid hc6
        have HSA : Hid (Step w5 (w6.alloc (.cells #[.int .u8 82, .int .u8 108, .int .u8 97, .int .u8 116, .int .u8 101] 5 (5, 6))) [] []) := ⟨hS6.1.alloc _, fun _ h => (by cases h)⟩
        have HSB : Hid (Step w6 (w6.alloc (.cells #[.int .u8 82, .int .u8 108, .int .u8 97, .int .u8 116, .int .u8 101] 5 (5, 6))) [] []) := ⟨(Moved.refl w6 []).alloc _, fun _ h => (by cases h)⟩
        have HRC := Lib.hid (row_const w6 [82, 108, 97, 116, 101] #[.int .u8 82, .int .u8 108, .int .u8 97, .int .u8 116, .int .u8 101] 5 (5, 6) rfl)
        have hbl : ByteList [82, 108, 97, 116, 101] := fun y hy => by simp at hy; omega
        have hsl := seal_fits (p := [82, 108, 97, 116, 101]) (by simp)
        rw [← HFL.out] at hsl
        have HSL8 := Lib.hid hsl
        clear hsl hO6 hS6 hn6 hc6
        go_wp2_with fail
        refine (refseal_any (some ⟨w6.heap.size, 0, none⟩) 5 5 [82, 108, 97, 116, 101] _ (by exact HRC.out) rfl hbl (fun h => by cases h) (by omega)).mono ?_
        rw [HSL8.out.1, HSL8.out.2]
        rintro e w7 ⟨v7, rfl, hO7, hS7⟩
        obtain ⟨A7, c7, rfl, hn7, hc7⟩ := own_shape hO7
        have H6 := Lib.hid (at_on L H5.out HSA.out)
        have HFR7 := Lib.hid (free_new (L.disk.lt H6.out.on) hS7 (own_lt hO7))
        have HR7 := Lib.hid (NRow.of_own hO7)
        have HN7 := Lib.hid hn7
        have HC7 := Lib.hid hc7
        have H7 := Lib.hid (at_on L H6.out hS7)
        have HT7 := Lib.hid (nrowx_moved (nrowx_moved HT5.out HSA.out.1 (fun _ _ h => by cases h)) hS7.1 (fun _ _ h => by cases h))
        have HF7 := Lib.hid ((HF5.out.on HSA.out).on hS7)
        have HR67 := Lib.hid (nrowx_moved (nrowx_moved HR6.out HSB.out.1 (fun _ _ h => by cases h)) hS7.1 (fun _ _ h => by cases h))
        have HFR67 := Lib.hid ((HFR6.out.on HSB.out).on hS7)
        have hfol : fo.length ≤ 4105 := by rw [HFO.out, frameOf_len, HOL.out]; omega
        have hfll : fl8.length ≤ 13 := by rw [HFL.out, frameOf_len]; simp
        have HFOB := Lib.hid (show ByteList fo by rw [HFO.out]; exact frameOf_bytes HOB.out (by rw [HOL.out]; omega))
        have HFLB := Lib.hid (show ByteList fl8 by rw [HFL.out]; exact frameOf_bytes hbl (by simp))
        clear hO7 hS7 hn7 hc7 hbl
        go_wp2_with fail
        refine (appendS L H7.out (HFR67.out.lent HR67.out rfl HN6.out HC6.out HFOB.out) (e := 0) (s' := ⟨xs ++ fo, 0, false, none⟩) rfl rfl (by omega)).mono ?_
        rintro e w8 ⟨rfl, f8, h8, hS8⟩
        have H8 := Lib.hid h8
        have HT8 := Lib.hid (HF7.out.nrow HT7.out hS8)
        have HF8 := Lib.hid (HF7.out.step hS8)
        have HR8 := Lib.hid (HFR7.out.nrow HR7.out hS8)
        have HFR8 := Lib.hid (HFR7.out.step hS8)
        clear h8 hS8
        go_wp2_with fail
        refine (appendS L H8.out (HFR8.out.lent HR8.out rfl HN7.out HC7.out HFLB.out) (e := 0) (s' := ⟨xs ++ fo ++ fl8, 0, false, none⟩) rfl rfl (by omega)).mono ?_
        rintro e w9 ⟨rfl, f9, h9, hS9⟩
        have H9 := Lib.hid h9
        have HT9 := Lib.hid (HF8.out.nrow HT8.out hS9)
        have HF9 := Lib.hid (HF8.out.step hS9)
        have hop := open_other HS2.out (o := os) (zs := fl8) HX82.out HSN.out (by rw [HSL.out]; omega) HXS.out
        rw [← HFO.out] at hop
        have HOP := Lib.hid hop
        clear h9 hS9 hop
        go_wp2_with fail
        refine (LAt.open_ L H9.out HLD.out HOP.out.2 HOP.out.1 (by omega)).mono ?_
        rintro e w10 ⟨l10, d10, g10, rfl, h10, hS10⟩
        have H10 := Lib.hid h10
        have HT10 := Lib.hid (HF9.out.nrow HT9.out hS10)
        have HF10 := Lib.hid (HF9.out.step hS10)
        clear h10 hS10
        go_wp2_with fail
        refine (readL L H10.out (e := 0) (out := xs) rfl rfl (by omega)).mono ?_
        rintro e w11 ⟨A11, c11, d11, rfl, hT11, -, -, -, -, h11, hS11⟩
        have H11 := Lib.hid h11
        have HR11 := Lib.hid hT11.nrow
        have HT11 := Lib.hid ((HF10.out.mono (T := d10) (fun k hk => List.mem_append.2 (.inl hk))).nrow HT10.out hS11)
        have HXB := Lib.hid (show ByteList xs from L.disk.bytes h11.disk)
        clear h11 hT11 hS11
        go_wp2_with fail
        refine (bytes_is A11 A4 _ _ _ _ xs xs _ HR11.out HT11.out rfl rfl HXB.out HXB.out true (by simp)).mono ?_
        rintro e w12 ⟨rfl, rfl⟩
        go_wp2_with fail
        refine (H11.out.recs L (by omega)).mono ?_
        rintro e w12 ⟨A12, c12, vs12, l12, f12, rfl, -, hB12, -, -, -, -, h12, -⟩
        have H12 := Lib.hid h12
        have HB12 := Lib.hid hB12
        clear h12 hB12
        go_wp2_with fail
        refine (rows_any A12 A ps.length ps.length c12 _ vs12 vs ps ps _ HB12.out (HA.out.moved H12.out.old (fun _ _ h => by cases h)) rfl rfl HB.out HB.out (by omega) (by omega)).mono ?_
        rintro e w13 ⟨rfl, k13, rfl⟩
        rw [show decide (ps = ps) = true by simp]
        have H13 := Lib.hid (H12.out.drewN L k13)
        go_wp2_with fail
        refine (H13.out.snap L (by omega)).mono ?_
        rintro e w14 ⟨A14, c14, l14, rfl, -, -, -, -, h14, -⟩
        have H14 := Lib.hid h14
        clear h14
        go_wp2_with fail
        refine (syncedL L H14.out (k := xs.length) rfl (by omega)).mono ?_
        rintro e w15 ⟨rfl, f15, h15, -⟩
        have H15 := Lib.hid h15.old
        clear h15
        go_wp2_with fail
        refine (wakes_any L _ (by exact HLD.out.moved H15.out)).mono ?_
        rintro e w17 ⟨rfl, hM17⟩
        have HM17 := Lib.hid (H15.out.trans hM17 (fun _ h => by cases h))
        clear hM17
        go_wp2
        go_ret
        exact ⟨rfl, HM17.out⟩
end Lg
end Go.Proofs.YtekleamkpfeifaaDoor
