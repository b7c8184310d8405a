/-
  THE WALK of the statement LogTorn, from what it asks of the program's Log.
-/
import Derived.Test.YtekleamkpfeifaaDoorLogMore
namespace Go.Proofs.YtekleamkpfeifaaDoor
namespace Lg
open Go.RowKit Dk Fr
/-- A disk of records that was cut somewhere, opened. -/
theorem open_cut {rs : List (List Int)} (h : ∀ r ∈ rs, r.length ≤ 131071) {n : Nat} (hn : n ≤ (recFrames rs).length) : ∃ k, k ≤ rs.length ∧ logOf ((recFrames rs).take n) = ([], rs.take k, (recFrames (rs.take k)).length) ∧ openSt ⟨(recFrames rs).take n, n, false, none⟩ = (0, ⟨recFrames (rs.take k), (recFrames (rs.take k)).length, false, none⟩) := by
  obtain ⟨k, hk, h1, h2, -, -⟩ := log_cut h n
  refine ⟨k, hk, h1, ?_⟩
  have hl : ((recFrames rs).take n).length = n := by rw [List.length_take]; omega
  have ht : ((recFrames rs).take n).take (recFrames (rs.take k)).length = recFrames (rs.take k) := by
    rw [List.take_take, Nat.min_eq_left h2, cut_take]
  unfold openSt
  rw [if_neg (by simp)]
  dsimp only
  rw [h1, hl]
  dsimp only
  by_cases hlt : (recFrames (rs.take k)).length < n
  · rw [if_pos hlt]
    unfold DSt.cut
    rw [if_neg (by simp), if_neg (by dsimp only; rw [hl]; omega)]
    unfold DSt.stroke
    simp only [Bool.false_eq_true, if_false, Int.toNat_natCast]
    rw [ht]
  · rw [if_neg hlt]
    have he : n = (recFrames (rs.take k)).length := by omega
    rw [← he] at ht ⊢
    rw [List.take_take, Nat.min_self] at ht
    rw [ht]
set_option maxRecDepth 100000 in
set_option maxHeartbeats 2000000 in
theorem torn_any {D : World → Nat → List Nat → DSt → Nat → Prop} {G : World → Nat → Nat → List Nat → List Int → List (List Int) → Nat → Prop} (L : LLaws D G) (A : Option Addr) (n c : Nat) (vs : List Value) (ps : List (List Int)) (at_ : Int) (W : World) (hA : BRows W A vs ps) (hn : ps.length = n) (hb : ∀ p ∈ ps, ByteList p) (hnc : n ≤ c) (hld : Ld W) :
    Calls Tryd.prog 6 #[.slice A n c, .int .i64 at_] W fun e w' => e = .returned (.bool true) ∧ Moved W w' [] := by
  subst hn
  by_cases hbig : 50 < ps.length
  · go_enter Tryd.func6, Tryd.ntmps6
    go_wp2
    go_ret
    exact ⟨rfl, Moved.refl _ _⟩
  have HA := Lib.hid hA
  have HB := Lib.hid hb
  have HLD := Lib.hid hld
  clear hA hb hld
  go_enter Tryd.func6, Tryd.ntmps6
  go_wp2_with fail
  refine (At.new_ L.disk W).mono ?_
  rintro e w1 ⟨p, f1, rfl, h1⟩
  have H1 := Lib.hid h1
  clear h1
  go_wp2_with fail
  refine (LAt.open_ L H1.out HLD.out (open_new 0) log_nil (by omega)).mono ?_
  rintro e w2 ⟨l, d2, l2, rfl, h2, -⟩
  have H2 := Lib.hid h2
  clear h2
  go_wp2
  go_loopw [8] (fun i wr => ∃ (k m : Nat) (fd fl : List Nat), i = .int .i64 k ∧ k ≤ ps.length ∧ m ≤ k * 4105 ∧ LAt D G W wr p l fd fl ⟨recFrames (ps.take k), 0, false, none⟩ [] (ps.take k) m ∧ Hid (∀ r ∈ ps.take k, r.length ≤ 4096)) (fun i _ => ps.length - (intOf i).toNat)
  case atStart => exact ⟨0, 0, d2, l2, rfl, by omega, by omega, H2.out, fun r hr => by simp at hr⟩
  case round =>
    obtain ⟨k, m, fd, fl, rfl, hk, hm, hL, HS⟩ := hrel
    have HL := Lib.hid hL
    have hm2 : m ≤ 205250 := by omega
    by_cases hlt : k < ps.length
    · obtain ⟨b1, o1, B1, c1, q, rfl, hq, hc1, hW, -⟩ := elem_was HA.out hL.old HB.out hlt
      have HW := Lib.hid hW
      have HTK := Lib.hid (take_snoc hq)
      clear hL hq hW
      by_cases hlong : 4096 < q.length
      · go_wp2
        go_ret
        exact ⟨rfl, HL.out.old⟩
      go_wp2_with fail
      refine (HL.out.append L HLD.out HW.out rfl (by omega) (s' := ⟨recFrames (ps.take (k + 1)), 0, false, none⟩) (by rw [HTK.out, recFrames_snoc]; rfl) (by omega)).mono ?_
      rintro e w3 ⟨rfl, fd', fl', h3, -⟩
      have H3 := Lib.hid (show LAt D G W w3 p l fd' fl' ⟨recFrames (ps.take (k + 1)), 0, false, none⟩ [] (ps.take (k + 1)) (m + q.length + 9) by rw [HTK.out] at h3 ⊢; exact h3)
      clear h3
      go_wp2
      go_roundw
      case rel => exact ⟨k + 1, m + q.length + 9, fd', fl', by go_num, by omega, by omega, H3.out, by
        intro r hr
        rw [HTK.out] at hr
        rcases List.mem_append.1 hr with h | h
        · exact HS.out r h
        · simp at h; subst h; omega⟩
      case measure => simp [intOf]; omega
    · have HTK := Lib.hid (show ps.take k = ps from List.take_of_length_le (by omega))
      obtain ⟨xs, hxs⟩ : ∃ xs, xs = recFrames ps := ⟨_, rfl⟩
      have HXS := Lib.hid hxs
      have H3 := Lib.hid (show LAt D G W wr p l fd fl ⟨xs, 0, false, none⟩ [] ps m by rw [hxs]; rw [HTK.out] at hL; exact hL)
      have HS2 := Lib.hid (show ∀ r ∈ ps, r.length ≤ 131071 from fun r hr => by have := HS.out r (by rw [HTK.out]; exact hr); omega)
      have hxl : xs.length ≤ 205250 := by have h := L.disk.fits H3.out.disk; have h : xs.length ≤ m := h; omega
      clear hL hxs HL
      go_wp2_with fail
      refine (readS L H3.out.at_ (e := 0) (out := xs) rfl rfl (by omega)).mono ?_
      rintro e w4 ⟨A4, c4, f4, rfl, -, -, -, -, -, h4, -⟩
      have H4 := Lib.hid h4
      clear h4
      obtain ⟨j, hj, hjj⟩ := place_eq (at_ := at_) (n := xs.length + 1) (by omega) (by omega)
      have hj2 : j ≤ xs.length := by omega
      have hjj2 : wrap64 ((IntKind.u64.wrap at_).tmod ((xs.length : Int) + 1)) = j := by rw [← hjj]; push_cast; rfl
      clear hjj
      go_wp2_with fail
      refine (H4.out.cut L.disk (n := j) (e := 0) (s' := ⟨xs.take j, j, false, none⟩) (cut_ok hj2) (by omega) (by omega) (by omega)).mono ?_
      rintro e w5 ⟨rfl, f5, h5⟩
      have H5 := Lib.hid h5
      obtain ⟨kk, hkk, hlog, hop⟩ := open_cut HS2.out (n := j) (by rw [← HXS.out]; exact hj2)
      rw [← HXS.out] at hlog hop
      obtain ⟨qs, hqs⟩ : ∃ qs, qs = ps.take kk := ⟨_, rfl⟩
      have HQB := Lib.hid (show ∀ r ∈ qs, ByteList r by rw [hqs]; exact fun r hr => HB.out r (List.mem_of_mem_take hr))
      have HQL := Lib.hid (show ∀ r ∈ qs, r.length ≤ 131071 by rw [hqs]; exact fun r hr => HS2.out r (List.mem_of_mem_take hr))
      have hql : qs.length ≤ ps.length := by rw [hqs, List.length_take]; omega
      have HQT := Lib.hid (show ps.take qs.length = qs by rw [hqs, List.length_take, List.take_eq_take_iff]; omega)
      rw [← hqs] at hlog hop
      obtain ⟨zs, hzs⟩ : ∃ zs, zs = recFrames qs := ⟨_, rfl⟩
      have HZS := Lib.hid hzs
      rw [← hzs] at hlog hop
      have HLOG := Lib.hid hlog
      have HOP := Lib.hid hop
      clear h5 hlog hop hqs hzs hkk hjj2
      go_wp2_with fail
      refine (LAt.open_ L H5.out HLD.out HOP.out HLOG.out (by omega)).mono ?_
      rintro e w6 ⟨l6, d6, g6, rfl, h6, -⟩
      have H6 := Lib.hid h6
      clear h6
      go_wp2_with fail
      refine (recsS L H6.out (by omega)).mono ?_
      rintro e w7 ⟨A7, c7, vs7, g7, fr7, rfl, -, hB7, hn7, hc7, hr7, -, hF7, h7, -⟩
      have hcq : qs.length ≤ c7 := hc7.1
      have H7 := Lib.hid h7
      have HB7 := Lib.hid hB7
      have HR7 := Lib.hid hr7
      have HF7 := Lib.hid (hF7.mono (T := d6) (fun k hk => List.mem_append.2 (.inl hk)))
      clear h7 hB7 hr7 hF7 hn7
      go_wp2_with fail
      refine (readS L H7.out.at_ (e := 0) (out := zs) rfl rfl (by omega)).mono ?_
      rintro e w8 ⟨A8, c8, f8, rfl, hT8, -, -, -, hF8, h8, hS8⟩
      have H8 := Lib.hid h8
      have HT8 := Lib.hid hT8.nrow
      have HF8 := Lib.hid hF8
      have HB8 := Lib.hid (HF7.out.brows HR7.out HB7.out hS8)
      have HG8 := Lib.hid (HF7.out.step hS8)
      clear h8 hT8 hF8 hS8
      go_wp2_with fail
      refine (LAt.open_ L H8.out HLD.out (s' := ⟨zs, zs.length, false, none⟩) (sn := []) (rs := qs) (k := zs.length) (by rw [HZS.out]; exact open_just HQL.out _) (by show logOf zs = _; rw [HZS.out]; exact log_just HQL.out) (by omega)).mono ?_
      rintro e w9 ⟨l9, d9, g9, rfl, h9, hS9⟩
      have H9 := Lib.hid h9
      have HT9 := Lib.hid (HF8.out.nrow HT8.out hS9)
      have HF9 := Lib.hid (HF8.out.step hS9)
      have HB9 := Lib.hid (HG8.out.brows HR7.out HB8.out hS9)
      have HG9 := Lib.hid (HG8.out.step hS9)
      clear h9 hS9
      go_wp2_with fail
      refine (readL L H9.out (e := 0) (out := zs) rfl rfl (by omega)).mono ?_
      rintro e w10 ⟨A10, c10, d10, rfl, hT10, -, -, -, hF10, h10, hS10⟩
      have H10 := Lib.hid h10
      have HT10 := Lib.hid hT10.nrow
      have HF10 := Lib.hid hF10
      have HL10 := Lib.hid ((HF9.out.mono (T := d9) (fun k hk => List.mem_append.2 (.inl hk))).nrow HT9.out hS10)
      have HG10 := Lib.hid ((HG9.out.mono (T := d9) (fun k hk => List.mem_append.2 (.inl hk))).brows HR7.out HB9.out hS10)
      have HGF := Lib.hid (fun k hk => ⟨Nat.lt_of_lt_of_le (HG9.out k hk).1 hS10.1.size, fun h' => (HG9.out k hk).2 (List.mem_append.2 (.inr h'))⟩ : Free w10 fr7 g9)
      have HLF := Lib.hid (fun k hk => ⟨Nat.lt_of_lt_of_le (HF9.out k hk).1 hS10.1.size, fun h' => (HF9.out k hk).2 (List.mem_append.2 (.inr h'))⟩ : Free w10 (rowOf (.slice A8 zs.length c8)) g9)
      have HSF := Lib.hid (HF10.out.mono (T := g9) (fun k hk => List.mem_append.2 (.inr hk)))
      have HAW := Lib.hid (HA.out.moved H10.out.old (fun _ _ h => by cases h))
      have HPT := Lib.hid (show BRows w10 A (vs.take qs.length) qs by have h := brows_take HAW.out qs.length; rw [HQT.out] at h; exact h)
      have HZB := Lib.hid (show ByteList zs from L.disk.bytes H10.out.disk)
      have hq64 : qs.length ≤ 50 := by omega
      clear h10 hT10 hF10 hS10
      go_wp2_with fail
      refine (rows_any A7 A qs.length qs.length c7 _ vs7 _ qs qs _ HG10.out HPT.out rfl rfl HQB.out HQB.out (by omega) (by omega)).mono ?_
      rintro e w11 ⟨rfl, k11, hw11⟩
      rw [show decide (qs = qs) = true by simp]
      have H11 := Lib.hid (show LAt D G W w11 p l9 d10 g9 ⟨zs, zs.length, false, none⟩ [] qs m by rw [hw11]; exact H10.out.drewN L _)
      have HG11 := Lib.hid (show BRows w11 A7 vs7 qs by rw [hw11]; exact HG10.out.drewN _)
      have HL11 := Lib.hid (show NRow .u8 w11 A8 zs by rw [hw11]; exact HL10.out.drewN _)
      have HT11 := Lib.hid (show NRow .u8 w11 A10 zs by rw [hw11]; exact HT10.out.drewN _)
      have HX11 := Lib.hid (show Free w11 fr7 g9 ∧ Free w11 (rowOf (.slice A8 zs.length c8)) g9 ∧ Free w11 (rowOf (.slice A10 zs.length c10)) g9 by rw [hw11]; exact ⟨HGF.out, HLF.out, HSF.out⟩)
      clear hw11
      go_wp2_with fail
      refine (recsS L H11.out (by omega)).mono ?_
      rintro e w12 ⟨A12, c12, vs12, g12, fr12, rfl, -, hB12, -, -, -, -, -, h12, hS12⟩
      have H12 := Lib.hid h12
      have HB12 := Lib.hid hB12
      have HG12 := Lib.hid (HX11.out.1.brows HR7.out HG11.out hS12)
      have HL12 := Lib.hid (HX11.out.2.1.nrow HL11.out hS12)
      have HT12 := Lib.hid (HX11.out.2.2.nrow HT11.out hS12)
      clear h12 hB12 hS12
      go_wp2_with fail
      refine (rows_any A12 A7 qs.length qs.length c12 _ vs12 _ qs qs _ HB12.out HG12.out rfl rfl HQB.out HQB.out (by omega) (by omega)).mono ?_
      rintro e w13 ⟨rfl, k13, hw13⟩
      rw [show decide (qs = qs) = true by simp]
      have H13 := Lib.hid (show LAt D G W w13 p l9 d10 g12 ⟨zs, zs.length, false, none⟩ [] qs m by rw [hw13]; exact H12.out.drewN L _)
      have HL13 := Lib.hid (show NRow .u8 w13 A8 zs by rw [hw13]; exact HL12.out.drewN _)
      have HT13 := Lib.hid (show NRow .u8 w13 A10 zs by rw [hw13]; exact HT12.out.drewN _)
      clear hw13
      go_wp2_with fail
      refine (bytes_is A8 A10 _ _ _ _ zs zs _ HL13.out HT13.out rfl rfl HZB.out HZB.out true (by simp)).mono ?_
      rintro e w14 ⟨rfl, rfl⟩
      go_wp2_with fail
      refine (syncedL L H13.out (k := zs.length) rfl (by omega)).mono ?_
      rintro e w14 ⟨rfl, f14, h14, -⟩
      have H14 := Lib.hid h14.old
      clear h14
      go_wp2_with fail
      refine (wakes_any L _ (by exact HLD.out.moved H14.out)).mono ?_
      rintro e w15 ⟨rfl, hM15⟩
      have HM15 := Lib.hid (H14.out.trans hM15 (fun _ h => by cases h))
      clear hM15
      go_wp2
      go_ret
      exact ⟨rfl, HM15.out⟩
end Lg
end Go.Proofs.YtekleamkpfeifaaDoor
