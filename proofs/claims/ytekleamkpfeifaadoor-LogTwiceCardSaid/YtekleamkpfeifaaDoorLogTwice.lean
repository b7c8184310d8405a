/-
  THE WALK of the statement LogTwice, from what it asks of the program's Log.
-/
import Derived.Test.YtekleamkpfeifaaDoorLogMore
import Derived.Test.YtekleamkpfeifaaDoorKB02
namespace Go.Proofs.YtekleamkpfeifaaDoor
namespace Lg
open Go.RowKit Dk Fr
theorem apart_step {w w1 : World} {S S' T : List Nat} (h : ∀ k ∈ S, k ∉ T) (hS : Step w w1 S S') (hT : ∀ k ∈ T, k < w.heap.size) : ∀ k ∈ S', k ∉ T := fun k hk ht =>
  (hS.2 k hk).elim (fun h' => h k h' ht) (fun h' => by have := hT k ht; omega)
theorem apart_flip {S T : List Nat} (h : ∀ k ∈ S, k ∉ T) : ∀ k ∈ T, k ∉ S := fun k hk hs => h k hs hk
theorem VRow.moved {W w : World} {A : Option Addr} {vs : List Value} (h : VRow W A vs) (hM : Moved W w []) : VRow w A vs := h.stays (fun a ha hne => by
  rcases vs with _ | ⟨u, t⟩
  · exact absurd rfl hne
  · obtain ⟨b, off, ha2, hc⟩ := h 0 u rfl
    rw [ha] at ha2
    injection ha2 with ha2
    subst ha2
    exact hM.block b (World.block_lt_of_cell? W _ hc) (fun h => by cases h))
theorem brows_one_cell {W : World} {A : Option Addr} {vs : List Value} {ps : List (List Int)} (h : BRows W A vs ps) : ∀ u ∈ vs, u.oneCell' = true := fun u hu => by
  obtain ⟨i, hi, rfl⟩ := List.mem_iff_getElem.1 hu
  have hl := h.2.1
  exact (h.2.2 i _ ps[i] (List.getElem?_eq_getElem hi) (List.getElem?_eq_getElem (by omega))).one
/-- Two lots of rows that came in, one behind the other: the k-th. -/
theorem elem_two {W : World} {A B : Option Addr} {vs us : List Value} {ps qs : List (List Int)} (hA : BRows W A vs ps) (hB : BRows W B us qs) (ha : ∀ p ∈ ps, ByteList p) (hb : ∀ p ∈ qs, ByteList p) {k : Nat} (hk : k < ps.length + qs.length) :
    ∃ E c q, (vs ++ us)[k]? = some (.slice E q.length c) ∧ (ps ++ qs)[k]? = some q ∧ Was W E q.length c q := by
  by_cases h : k < ps.length
  · obtain ⟨_, _, E, c, q, _, hq, _, hr, hn, h1, h2, hv⟩ := hA.at_ h
    exact ⟨E, c, q, by rw [List.getElem?_append_left (by rw [hA.2.1]; exact h)]; exact hv, by rw [List.getElem?_append_left h]; exact hq, hr, rfl, hn, ⟨h1, h2⟩, ha q (List.mem_of_getElem? hq)⟩
  · obtain ⟨_, _, E, c, q, _, hq, _, hr, hn, h1, h2, hv⟩ := hB.at_ (i := k - ps.length) (by omega)
    exact ⟨E, c, q, by rw [List.getElem?_append_right (by rw [hA.2.1]; omega), hA.2.1]; exact hv, by rw [List.getElem?_append_right (by omega)]; exact hq, hr, rfl, hn, ⟨h1, h2⟩, hb q (List.mem_of_getElem? hq)⟩
set_option maxRecDepth 100000 in
set_option maxHeartbeats 4000000 in
theorem twice_any {D : World → Nat → List Nat → DSt → Nat → Prop} {G : World → Nat → Nat → List Nat → List Int → List (List Int) → Nat → Prop} (L : LLaws D G) (A : Option Addr) (n c : Nat) (vs : List Value) (ps : List (List Int)) (B : Option Addr) (n2 c2 : Nat) (us : List Value) (qs : List (List Int)) (W : World)
    (hA : BRows W A vs ps) (hn : ps.length = n) (hb : ∀ p ∈ ps, ByteList p) (hnil : A = none → c = 0) (hB : BRows W B us qs) (hn2 : qs.length = n2) (hb2 : ∀ p ∈ qs, ByteList p) (hnil2 : B = none → c2 = 0) (hld : Ld W) :
    Calls Tryd.prog 9 #[.slice A n c, .slice B n2 c2] W fun e w' => e = .returned (.bool true) ∧ Moved W w' [] := by
  subst hn
  subst hn2
  by_cases hbig : 50 < ps.length
  · go_enter Tryd.func9, Tryd.ntmps9
    go_wp2
    go_ret
    exact ⟨rfl, Moved.refl _ _⟩
  by_cases hbig2 : 50 < qs.length
  · go_enter Tryd.func9, Tryd.ntmps9
    go_wp2
    go_ret
    exact ⟨rfl, Moved.refl _ _⟩
  obtain ⟨i0, hi, hz0, hz1, hz2⟩ := info_parts info_bytes
  have HA := Lib.hid hA
  have HB := Lib.hid hb
  have HA2 := Lib.hid hB
  have HB2 := Lib.hid hb2
  have HLD := Lib.hid hld
  have HNL := Lib.hid hnil
  have HNL2 := Lib.hid hnil2
  have HVL := Lib.hid hA.2.1
  have HUL := Lib.hid hB.2.1
  have HPB := Lib.hid (show ∀ r ∈ ps ++ qs, ByteList r from fun r hr => (List.mem_append.1 hr).elim (hb r) (hb2 r))
  clear hA hb hB hb2 hld hnil hnil2
  go_enter Tryd.func9, Tryd.ntmps9
  go_wp2_with fail
  refine (At.new_ L.disk W).mono ?_
  rintro e w1 ⟨p, f1, rfl, h1⟩
  have H1 := Lib.hid h1
  clear h1
  go_wp2_with fail
  refine (At.second L.disk L.disk.still H1.out).mono ?_
  rintro e w2 ⟨p2, f2, rfl, h2⟩
  have H2 := Lib.hid h2
  clear h2
  go_wp2_with fail
  refine (LAt.open_ L H2.out.b HLD.out (open_new 0) log_nil (by omega)).mono ?_
  rintro e w3 ⟨l, d3, l3, rfl, h3, hS3⟩
  have hap3 := apart_step (fun k hk => apart_flip H2.out.apart k hk) hS3 (L.disk.lt H2.out.a.on)
  have HQ3 := Lib.hid (H2.out.a.keeps L.disk.still hS3 H2.out.b.new (fun k hk => apart_flip H2.out.apart k hk))
  have H3 := Lib.hid h3
  have HAP3 := Lib.hid hap3
  clear h3 hS3 hap3
  go_wp2_with fail
  refine (LAt.open_ L HQ3.out HLD.out (open_new 0) log_nil (by omega)).mono ?_
  rintro e w4 ⟨k4, e4, g4, rfl, h4, hS4⟩
  have hap4 := apart_step (apart_flip HAP3.out) hS4 (H3.out.below L)
  have hX4 := H3.out.keeps L hS4 HQ3.out.new (fun k hk => ⟨fun h => HAP3.out k (List.mem_append.2 (.inl h)) hk, fun h => HAP3.out k (List.mem_append.2 (.inr h)) hk⟩)
  have HX4 := Lib.hid hX4
  have HY4 := Lib.hid h4
  have HAP4 := Lib.hid (apart_flip hap4)
  clear hX4 h4 hS4 hap4
  go_wp2
  go_loopw [7, 11] (fun v i wr => ∃ (k m l m2 sf sf2 : Nat) (fd fl gd gl : List Nat), i = .int .i64 k ∧ v = .pointer (some ⟨l, 0, none⟩) ∧ k ≤ ps.length + qs.length ∧ m ≤ k * 4105 ∧ m2 ≤ k * 4105 ∧ LAt D G W wr p l fd fl ⟨recFrames ((ps ++ qs).take k), sf, false, none⟩ [] ((ps ++ qs).take k) m ∧ LAt D G W wr p2 k4 gd gl ⟨recFrames ((ps ++ qs).take k), sf2, false, none⟩ [] ((ps ++ qs).take k) m2 ∧ Hid (∀ k ∈ fd ++ fl, k ∉ gd ++ gl) ∧ Hid (∀ r ∈ (ps ++ qs).take k, r.length ≤ 4096)) (fun _ i _ => ps.length + qs.length - (intOf i).toNat)
  case atStart => exact ⟨0, 0, l, 0, 0, 0, d3, l3, e4, g4, rfl, rfl, by omega, by omega, by omega, HX4.out, HY4.out, HAP4.out, fun r hr => by simp at hr⟩
  case round =>
    obtain ⟨k, m, l, m2, sf, sf2, fd, fl, gd, gl, rfl, rfl, hk, hm, hm2, hX, hY, HAP, HS⟩ := hrel
    have HX := Lib.hid hX
    have HY := Lib.hid hY
    have hm3 : m ≤ 410500 := by omega
    have hm4 : m2 ≤ 410500 := by omega
    clear hX hY
    by_cases hlt : k < ps.length + qs.length
    · obtain ⟨E, ce, q, hv, hq, hW⟩ := elem_two HA.out HA2.out HB.out HB2.out hlt
      have HW := Lib.hid hW
      have HTK := Lib.hid (take_snoc hq)
      have HV := Lib.hid hv
      clear hq hW hv
      by_cases hsy : k = ps.length
      · have hke : ((k : Int) == (ps.length : Int)) = true := by rw [beq_iff_eq]; omega
        clear hsy
        obtain ⟨xs, hxs⟩ : ∃ xs, xs = recFrames ((ps ++ qs).take k) := ⟨_, rfl⟩
        have HXS := Lib.hid hxs
        have HLOG := Lib.hid (show logOf xs = ([], (ps ++ qs).take k, xs.length) by rw [hxs]; exact log_just (fun r hr => by have := HS.out r hr; omega))
        have HX0 := Lib.hid (show LAt D G W wr p l fd fl ⟨xs, sf, false, none⟩ [] ((ps ++ qs).take k) m by rw [hxs]; exact HX.out)
        clear hxs
        go_wp2_with fail
        refine (HX0.out.sync L rfl (s' := ⟨xs, xs.length, false, none⟩) rfl (by omega)).mono ?_
        rintro e w5 ⟨rfl, d5, l5, h5, hS5⟩
        have HX5 := Lib.hid h5
        have HY5 := Lib.hid (HY.out.keeps L hS5 HX0.out.all (fun k hk => ⟨fun h => HAP.out k hk (List.mem_append.2 (.inl h)), fun h => HAP.out k hk (List.mem_append.2 (.inr h))⟩))
        have HAP5 := Lib.hid (apart_step HAP.out hS5 (HY.out.below L))
        clear h5 hS5
        go_wp2_with fail
        refine (LAt.open_ L HX5.out.at_ HLD.out (s' := ⟨xs, xs.length, false, none⟩) (sn := []) (rs := (ps ++ qs).take k) (k := xs.length) (open_log HLOG.out _) HLOG.out (by omega)).mono ?_
        rintro e w6 ⟨l6, d6, g6, rfl, h6, hS6⟩
        have HX6 := Lib.hid (show LAt D G W w6 p l6 d6 g6 ⟨recFrames ((ps ++ qs).take k), xs.length, false, none⟩ [] ((ps ++ qs).take k) m by rw [← HXS.out]; exact h6)
        have HY6 := Lib.hid (HY5.out.keeps L hS6 HX5.out.newd (fun k hk => ⟨fun h => HAP5.out k (List.mem_append.2 (.inl hk)) (List.mem_append.2 (.inl h)), fun h => HAP5.out k (List.mem_append.2 (.inl hk)) (List.mem_append.2 (.inr h))⟩))
        have HAP6 := Lib.hid (apart_step (fun k hk => HAP5.out k (List.mem_append.2 (.inl hk))) hS6 (HY5.out.below L))
        clear h6 hS6
        have HO := Lib.hid (World.ownsRow_lit (e := 27) (size := 1) (base := 0) w6 #[] 0 (by omega) (by unfold maxLen; omega) rfl)
        have HMA : Hid (Moved W (w6.alloc (.cells #[] 27)) []) := HX6.out.old.alloc _
        go_wp2_with (at_builtin; refine wpList_append_vals rfl _ _ 47 rfl 27 i0 (.slice none 0 0) 24 Tryd.underlying47 hi hz0 rfl hz1 hz2 (.slice (some ⟨w6.heap.size, 0, none⟩) 0 0) 0 [] rfl (by exact HO.out) A ps.length c vs rfl HVL.out (VRow.moved HA.out.1 HMA.out) (brows_one_cell HA.out) HNL.out (by unfold maxLen; omega) (by omega) ?_)
        intro v7 w7 hown7 hst7
        have hown7 : w7.ownsRow 0 27 1 v7 ps.length vs := by first | exact hown7 | simpa using hown7
        have hm7 : Moved w6 w7 [] := ((Moved.refl w6 []).alloc _).trans hst7.1 (fun b hb => .inr (by have : w6.heap.size = b := (by simpa [mem_rowOf, Value.ownBlock] using hb); omega))
        have hn7 : ∀ b ∈ rowOf v7, w6.heap.size ≤ b := fun b hb => (hst7.2 b hb).elim (fun h => by have : w6.heap.size = b := (by simpa [mem_rowOf, Value.ownBlock] using h); omega) (fun h => by simp at h; omega)
        obtain ⟨A7, c7, rfl, -⟩ := own_shape hown7
        have HO7 := Lib.hid hown7
        have HM7 := Lib.hid hm7
        have HN7 := Lib.hid hn7
        clear hown7 hst7 hm7 hn7
        go_wp2_with (at_builtin; refine wpList_append_vals rfl _ _ 47 rfl 27 i0 (.slice none 0 0) 24 Tryd.underlying47 hi hz0 rfl hz1 hz2 (.slice A7 ps.length c7) _ _ rfl (by exact HO7.out) B qs.length c2 us rfl HUL.out (VRow.moved HA2.out.1 (HX6.out.old.trans HM7.out (fun _ h => by cases h))) (brows_one_cell HA2.out) HNL2.out (by unfold maxLen; omega) (by omega) ?_)
        intro v8 w8 hown8 hst8
        have HM8 := Lib.hid (HM7.out.trans hst8.1 (fun b hb => .inr (HN7.out b hb)))
        obtain ⟨A8, c8, rfl, -⟩ := own_shape hown8
        obtain ⟨b8, o8, rfl, hc8⟩ := VRow.of_own hown8 k (.slice E q.length ce) (by exact HV.out)
        have hk8 : k < ps.length + qs.length := hlt
        have HX8 := Lib.hid (HX6.out.keeps L (S := []) (T := []) ⟨HM8.out, fun _ h => (by cases h)⟩ (fun _ h => by cases h) (fun _ h => by cases h))
        have HY8 := Lib.hid (HY6.out.keeps L (S := []) (T := []) ⟨HM8.out, fun _ h => (by cases h)⟩ (fun _ h => by cases h) (fun _ h => by cases h))
        clear hown8 hst8
        by_cases hlong : 4096 < q.length
        · go_wp2
          go_ret
          exact ⟨rfl, HX8.out.old⟩
        go_wp2_with fail
        refine (HX8.out.append L HLD.out HW.out rfl (by omega) (s' := ⟨recFrames ((ps ++ qs).take (k + 1)), xs.length, false, none⟩) (by rw [HTK.out, recFrames_snoc]; rfl) (by omega)).mono ?_
        rintro e w9 ⟨rfl, d9, l9, h9, hS9⟩
        have HX9 := Lib.hid (show LAt D G W w9 p l6 d9 l9 ⟨recFrames ((ps ++ qs).take (k + 1)), xs.length, false, none⟩ [] ((ps ++ qs).take (k + 1)) (m + q.length + 9) by rw [HTK.out] at h9 ⊢; exact h9)
        have HY9 := Lib.hid (HY8.out.keeps L hS9 HX8.out.all (fun k hk => ⟨fun h => HAP6.out k hk (List.mem_append.2 (.inl h)), fun h => HAP6.out k hk (List.mem_append.2 (.inr h))⟩))
        have HAP9 := Lib.hid (apart_step HAP6.out hS9 (HY8.out.below L))
        clear h9 hS9
        go_wp2_with fail
        refine (HY9.out.append L HLD.out HW.out rfl (by omega) (s' := ⟨recFrames ((ps ++ qs).take (k + 1)), sf2, false, none⟩) (by rw [HTK.out, recFrames_snoc]; rfl) (by omega)).mono ?_
        rintro e w10 ⟨rfl, d10, l10, h10, hS10⟩
        have HY10 := Lib.hid (show LAt D G W w10 p2 k4 d10 l10 ⟨recFrames ((ps ++ qs).take (k + 1)), sf2, false, none⟩ [] ((ps ++ qs).take (k + 1)) (m2 + q.length + 9) by rw [HTK.out] at h10 ⊢; exact h10)
        have HX10 := Lib.hid (HX9.out.keeps L hS10 HY9.out.all (fun k hk => ⟨fun h => HAP9.out k (List.mem_append.2 (.inl h)) hk, fun h => HAP9.out k (List.mem_append.2 (.inr h)) hk⟩))
        have HAP10 := Lib.hid (apart_flip (apart_step (apart_flip HAP9.out) hS10 (HX9.out.below L)))
        clear h10 hS10
        go_wp2
        go_roundw
        case rel => exact ⟨k + 1, m + q.length + 9, l6, m2 + q.length + 9, xs.length, sf2, d9, l9, d10, l10, by go_num, rfl, by omega, by omega, by omega, HX10.out, HY10.out, HAP10.out, by
          intro r hr
          rw [HTK.out] at hr
          rcases List.mem_append.1 hr with h | h
          · exact HS.out r h
          · simp at h; subst h; omega⟩
        case measure => simp [intOf]; omega
      · have hke : ((k : Int) == (ps.length : Int)) = false := by rw [beq_eq_false_iff_ne]; omega
        have HO := Lib.hid (World.ownsRow_lit (e := 27) (size := 1) (base := 0) wr #[] 0 (by omega) (by unfold maxLen; omega) rfl)
        have HMA : Hid (Moved W (wr.alloc (.cells #[] 27)) []) := HX.out.old.alloc _
        go_wp2_with (at_builtin; refine wpList_append_vals rfl _ _ 47 rfl 27 i0 (.slice none 0 0) 24 Tryd.underlying47 hi hz0 rfl hz1 hz2 (.slice (some ⟨wr.heap.size, 0, none⟩) 0 0) 0 [] rfl (by exact HO.out) A ps.length c vs rfl HVL.out (VRow.moved HA.out.1 HMA.out) (brows_one_cell HA.out) HNL.out (by unfold maxLen; omega) (by omega) ?_)
        intro v7 w7 hown7 hst7
        have hown7 : w7.ownsRow 0 27 1 v7 ps.length vs := by first | exact hown7 | simpa using hown7
        have hm7 : Moved wr w7 [] := ((Moved.refl wr []).alloc _).trans hst7.1 (fun b hb => .inr (by have : wr.heap.size = b := (by simpa [mem_rowOf, Value.ownBlock] using hb); omega))
        have hn7 : ∀ b ∈ rowOf v7, wr.heap.size ≤ b := fun b hb => (hst7.2 b hb).elim (fun h => by have : wr.heap.size = b := (by simpa [mem_rowOf, Value.ownBlock] using h); omega) (fun h => by simp at h; omega)
        obtain ⟨A7, c7, rfl, -⟩ := own_shape hown7
        have HO7 := Lib.hid hown7
        have HM7 := Lib.hid hm7
        have HN7 := Lib.hid hn7
        clear hown7 hst7 hm7 hn7
        go_wp2_with (at_builtin; refine wpList_append_vals rfl _ _ 47 rfl 27 i0 (.slice none 0 0) 24 Tryd.underlying47 hi hz0 rfl hz1 hz2 (.slice A7 ps.length c7) _ _ rfl (by exact HO7.out) B qs.length c2 us rfl HUL.out (VRow.moved HA2.out.1 (HX.out.old.trans HM7.out (fun _ h => by cases h))) (brows_one_cell HA2.out) HNL2.out (by unfold maxLen; omega) (by omega) ?_)
        intro v8 w8 hown8 hst8
        have HM8 := Lib.hid (HM7.out.trans hst8.1 (fun b hb => .inr (HN7.out b hb)))
        obtain ⟨A8, c8, rfl, -⟩ := own_shape hown8
        obtain ⟨b8, o8, rfl, hc8⟩ := VRow.of_own hown8 k (.slice E q.length ce) (by exact HV.out)
        have hk8 : k < ps.length + qs.length := hlt
        have HX8 := Lib.hid (HX.out.keeps L (S := []) (T := []) ⟨HM8.out, fun _ h => (by cases h)⟩ (fun _ h => by cases h) (fun _ h => by cases h))
        have HY8 := Lib.hid (HY.out.keeps L (S := []) (T := []) ⟨HM8.out, fun _ h => (by cases h)⟩ (fun _ h => by cases h) (fun _ h => by cases h))
        clear hown8 hst8
        by_cases hlong : 4096 < q.length
        · go_wp2
          go_ret
          exact ⟨rfl, HX8.out.old⟩
        go_wp2_with fail
        refine (HX8.out.append L HLD.out HW.out rfl (by omega) (s' := ⟨recFrames ((ps ++ qs).take (k + 1)), sf, false, none⟩) (by rw [HTK.out, recFrames_snoc]; rfl) (by omega)).mono ?_
        rintro e w9 ⟨rfl, d9, l9, h9, hS9⟩
        have HX9 := Lib.hid (show LAt D G W w9 p l d9 l9 ⟨recFrames ((ps ++ qs).take (k + 1)), sf, false, none⟩ [] ((ps ++ qs).take (k + 1)) (m + q.length + 9) by rw [HTK.out] at h9 ⊢; exact h9)
        have HY9 := Lib.hid (HY8.out.keeps L hS9 HX8.out.all (fun k hk => ⟨fun h => HAP.out k hk (List.mem_append.2 (.inl h)), fun h => HAP.out k hk (List.mem_append.2 (.inr h))⟩))
        have HAP9 := Lib.hid (apart_step HAP.out hS9 (HY8.out.below L))
        clear h9 hS9
        go_wp2_with fail
        refine (HY9.out.append L HLD.out HW.out rfl (by omega) (s' := ⟨recFrames ((ps ++ qs).take (k + 1)), sf2, false, none⟩) (by rw [HTK.out, recFrames_snoc]; rfl) (by omega)).mono ?_
        rintro e w10 ⟨rfl, d10, l10, h10, hS10⟩
        have HY10 := Lib.hid (show LAt D G W w10 p2 k4 d10 l10 ⟨recFrames ((ps ++ qs).take (k + 1)), sf2, false, none⟩ [] ((ps ++ qs).take (k + 1)) (m2 + q.length + 9) by rw [HTK.out] at h10 ⊢; exact h10)
        have HX10 := Lib.hid (HX9.out.keeps L hS10 HY9.out.all (fun k hk => ⟨fun h => HAP9.out k (List.mem_append.2 (.inl h)) hk, fun h => HAP9.out k (List.mem_append.2 (.inr h)) hk⟩))
        have HAP10 := Lib.hid (apart_flip (apart_step (apart_flip HAP9.out) hS10 (HX9.out.below L)))
        clear h10 hS10
        go_wp2
        go_roundw
        case rel => exact ⟨k + 1, m + q.length + 9, l, m2 + q.length + 9, sf, sf2, d9, l9, d10, l10, by go_num, rfl, by omega, by omega, by omega, HX10.out, HY10.out, HAP10.out, by
          intro r hr
          rw [HTK.out] at hr
          rcases List.mem_append.1 hr with h | h
          · exact HS.out r h
          · simp at h; subst h; omega⟩
        case measure => simp [intOf]; omega
    · have HTK := Lib.hid (show (ps ++ qs).take k = ps ++ qs from List.take_of_length_le (by rw [List.length_append]; omega))
      obtain ⟨xs, hxs⟩ : ∃ xs, xs = recFrames (ps ++ qs) := ⟨_, rfl⟩
      obtain ⟨al, hal⟩ : ∃ al, al = ps ++ qs := ⟨_, rfl⟩
      have HX0 := Lib.hid (show LAt D G W wr p l fd fl ⟨xs, sf, false, none⟩ [] al m by have h := HX.out; rw [HTK.out, ← hxs, ← hal] at h; exact h)
      have HY0 := Lib.hid (show LAt D G W wr p2 k4 gd gl ⟨xs, sf2, false, none⟩ [] al m2 by have h := HY.out; rw [HTK.out, ← hxs, ← hal] at h; exact h)
      have HALB := Lib.hid (show ∀ r ∈ al, ByteList r by rw [hal]; exact HPB.out)
      have hall : al.length ≤ 100 := by rw [hal, List.length_append]; omega
      clear hxs hal
      go_wp2_with fail
      refine (readL L HX0.out (e := 0) (out := xs) rfl rfl (by omega)).mono ?_
      rintro e w5 ⟨A5, c5, d5, rfl, hT5, -, -, hF5, -, h5, hS5⟩
      have HX5 := Lib.hid h5
      have hfy := fun k hk => HAP.out k (List.mem_append.2 (.inl hk))
      have HY5 := Lib.hid (HY0.out.keeps L hS5 HX0.out.newd (fun k hk => ⟨fun h => hfy k hk (List.mem_append.2 (.inl h)), fun h => hfy k hk (List.mem_append.2 (.inr h))⟩))
      have HAP5 := Lib.hid (apart_step hfy hS5 (HY0.out.below L))
      have HAL5 := Lib.hid (fun k hk => HAP.out k (List.mem_append.2 (.inr hk)) : ∀ k ∈ fl, k ∉ gd ++ gl)
      have HT5 := Lib.hid hT5.nrow
      have HF5 := Lib.hid (fun k hk => ⟨t_lt hT5 k hk, fun h => by have := HY0.out.below L k (List.mem_append.2 (.inl h)); have := hF5 k hk; omega⟩ : Free w5 (rowOf (.slice A5 xs.length c5)) gd)
      have HXB := Lib.hid (show ByteList xs from L.disk.bytes h5.disk)
      clear h5 hS5 hT5 hF5 hfy
      go_wp2_with fail
      refine (readL L HY5.out (e := 0) (out := xs) rfl rfl (by omega)).mono ?_
      rintro e w6 ⟨A6, c6, d6, rfl, hT6, -, -, -, -, h6, hS6⟩
      have HY6 := Lib.hid h6
      have hxy := apart_flip HAP5.out
      have hal := apart_flip HAL5.out
      have HX6 := Lib.hid (HX5.out.keeps L hS6 HY5.out.newd (fun k hk => ⟨hxy k (List.mem_append.2 (.inl hk)), hal k (List.mem_append.2 (.inl hk))⟩))
      have HT56 := Lib.hid (Free.nrow (n := xs.length) (c := c5) (S := gd) HF5.out HT5.out hS6)
      have HT6 := Lib.hid hT6.nrow
      have HAL6 := Lib.hid (apart_step (fun k hk => hal k (List.mem_append.2 (.inl hk))) hS6 (L.lt HX5.out.log))
      have HAG6 := Lib.hid (fun k hk => hal k (List.mem_append.2 (.inr hk)) : ∀ k ∈ gl, k ∉ fl)
      clear h6 hS6 hT6 hxy hal
      go_wp2_with fail
      refine (bytes_is A5 A6 _ _ _ _ xs xs _ HT56.out HT6.out rfl rfl HXB.out HXB.out true (by simp)).mono ?_
      rintro e w7 ⟨rfl, rfl⟩
      go_wp2_with fail
      refine (recsS L HX6.out (by omega)).mono ?_
      rintro e w7 ⟨A7, c7, vs7, g7, fr7, rfl, -, hB7, -, -, hr7, hn7, hF7, h7, hS7⟩
      have HY7 := Lib.hid (HY6.out.keeps L hS7 HX6.out.newl (fun k hk => ⟨fun h => HAL6.out k h hk, fun h => HAG6.out k h hk⟩))
      have HB7 := Lib.hid hB7
      have HR7 := Lib.hid hr7
      have HF7 := Lib.hid (fun k hk => ⟨(hF7 k hk).1, fun h => by have := L.lt HY6.out.log k h; have := hn7 k hk; omega⟩ : Free w7 fr7 gl)
      clear h7 hS7 hB7 hr7 hn7 hF7
      go_wp2_with fail
      refine (recsS L HY7.out (by omega)).mono ?_
      rintro e w8 ⟨A8, c8, vs8, g8, fr8, rfl, -, hB8, -, -, -, -, -, h8, hS8⟩
      have HB8 := Lib.hid hB8
      have HB78 := Lib.hid (Free.brows (fr := fr7) (S := gl) HF7.out HR7.out HB7.out hS8)
      have H8 := Lib.hid h8.old
      clear h8 hS8 hB8
      go_wp2_with fail
      refine (rows_any A7 A8 al.length al.length _ _ vs7 vs8 al al _ HB78.out HB8.out rfl rfl HALB.out HALB.out (by omega) (by omega)).mono ?_
      rintro e w9 ⟨rfl, k9, rfl⟩
      rw [show decide (al = al) = true by simp]
      go_wp2_with fail
      refine (wakes_any L _ (by exact HLD.out.moved (H8.out.drewN k9))).mono ?_
      rintro e w17 ⟨rfl, hM17⟩
      have HM17 := Lib.hid ((H8.out.drewN k9).trans hM17 (fun _ h => by cases h))
      clear hM17
      go_wp2
      go_ret
      exact ⟨rfl, HM17.out⟩
end Lg
end Go.Proofs.YtekleamkpfeifaaDoor
