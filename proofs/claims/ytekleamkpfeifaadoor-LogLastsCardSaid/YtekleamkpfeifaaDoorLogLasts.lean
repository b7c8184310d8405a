/-
  THE WALK of the statement LogLasts, from what it asks of the program's Log.
-/
import Derived.Test.YtekleamkpfeifaaDoorLogTwice
import Derived.Test.YtekleamkpfeifaaDoorLogTorn
namespace Go.Proofs.YtekleamkpfeifaaDoor
namespace Lg
open Go.RowKit Dk Fr
theorem recFrames_take_le (rs : List (List Int)) (i j : Nat) (h : i ≤ j) : (recFrames (rs.take i)).length ≤ (recFrames (rs.take j)).length := by
  have h1 : rs.take i = (rs.take j).take i := by rw [List.take_take, Nat.min_eq_left h]
  have h2 := List.take_append_drop i (rs.take j)
  rw [← h1] at h2
  rw [← h2, recFrames_append, List.length_append]
  omega
/-- A disk of records that was cut somewhere, opened: no record is missing that was there whole. -/
theorem open_least {rs : List (List Int)} (h : ∀ r ∈ rs, r.length ≤ 131071) {n : Nat} (hn : n ≤ (recFrames rs).length) {i : Nat} (hi : i ≤ rs.length) (hin : (recFrames (rs.take i)).length ≤ n) : ∃ k, i ≤ k ∧ k ≤ rs.length ∧ logOf ((recFrames rs).take n) = ([], rs.take k, (recFrames (rs.take k)).length) ∧ openSt ⟨(recFrames rs).take n, n, false, none⟩ = (0, ⟨recFrames (rs.take k), (recFrames (rs.take k)).length, false, none⟩) := by
  obtain ⟨k, hk, h1, h2⟩ := open_cut h hn
  obtain ⟨k', hk', h1', h3, h4, h5⟩ := log_cut h n
  rw [h1] at h1'
  have he : rs.take k = rs.take k' := by simpa using congrArg (fun t => t.2.1) h1'
  have hkk : k = k' := by
    have := congrArg List.length he
    rw [List.length_take, List.length_take] at this
    omega
  subst hkk
  refine ⟨k, ?_, hk, h1, h2⟩
  by_cases hlt : n < (recFrames rs).length
  · obtain ⟨h6, h7⟩ := h4 hlt
    by_cases hik : i ≤ k
    · exact hik
    · have := recFrames_take_le rs (k + 1) i (by omega); omega
  · rw [h5 (by omega)]; exact hi
/-- What a crash leaves begins with all that was synced. -/
theorem left_take (bs : List Int) (safe : Nat) (keep : Int) (hs : safe ≤ bs.length) : ∃ j, safe ≤ j ∧ j ≤ bs.length ∧ left bs safe keep = bs.take j := by
  unfold left
  by_cases h : keep.toNat < bs.length - safe
  · rw [if_pos h]; exact ⟨safe + keep.toNat, by omega, by omega, rfl⟩
  · rw [if_neg h]; exact ⟨bs.length, hs, Nat.le_refl _, by rw [List.take_length]⟩
/-- The slices of rows that came in, in a row of the call's own. -/
theorem brows_join {W w : World} {A B E : Option Addr} {vs us : List Value} {ps qs : List (List Int)} {n c : Nat} (hA : BRows W A vs ps) (hB : BRows W B us qs) (hM : Moved W w []) (hown : w.ownsRow 0 27 1 (.slice E n c) n (vs ++ us)) : BRows w E (vs ++ us) (ps ++ qs) :=
  ⟨VRow.of_own hown, by rw [List.length_append, List.length_append, hA.2.1, hB.2.1], fun i v p hv hp => by
    have hl := hA.2.1
    have hb : Bites W v p := by
      by_cases h : i < ps.length
      · rw [List.getElem?_append_left (by omega)] at hv
        rw [List.getElem?_append_left h] at hp
        exact hA.2.2 i v p hv hp
      · rw [List.getElem?_append_right (by omega)] at hv
        rw [List.getElem?_append_right (by omega), ← hl] at hp
        exact hB.2.2 _ v p hv hp
    exact hb.stays (fun b hm => hM.block b (hb.lt b hm) (fun h => by cases h))⟩
set_option maxRecDepth 100000 in
set_option maxHeartbeats 4000000 in
theorem lasts_any {D : World → Nat → List Nat → DSt → Nat → Prop} {G : World → Nat → Nat → List Nat → List Int → List (List Int) → Nat → Prop} (L : LLaws D G) (A : Option Addr) (n c : Nat) (vs : List Value) (ps : List (List Int)) (B : Option Addr) (n2 c2 : Nat) (us : List Value) (qs : List (List Int)) (keep : Int) (W : World)
    (hA : BRows W A vs ps) (hn : ps.length = n) (hb : ∀ p ∈ ps, ByteList p) (hB : BRows W B us qs) (hn2 : qs.length = n2) (hb2 : ∀ p ∈ qs, ByteList p) (hk0 : -9223372036854775808 ≤ keep) (hk1 : keep ≤ 9223372036854775807) (hld : Ld W) :
    Calls Tryd.prog 4 #[.slice A n c, .slice B n2 c2, .int .i64 keep] W fun e w' => e = .returned (.bool true) ∧ Moved W w' [] := by
  subst hn
  subst hn2
  by_cases hbig : 50 < ps.length
  · go_enter Tryd.func4, Tryd.ntmps4
    go_wp2
    go_ret
    exact ⟨rfl, Moved.refl _ _⟩
  by_cases hbig2 : 50 < qs.length
  · go_enter Tryd.func4, Tryd.ntmps4
    go_wp2
    go_ret
    exact ⟨rfl, Moved.refl _ _⟩
  obtain ⟨i0, hi, hz0, hz1, hz2⟩ := info_parts info_bytes
  have HA := Lib.hid hA
  have HB := Lib.hid hb
  have HA2 := Lib.hid hB
  have HB2 := Lib.hid hb2
  have HLD := Lib.hid hld
  have HPB := Lib.hid (show ∀ r ∈ ps ++ qs, ByteList r from fun r hr => (List.mem_append.1 hr).elim (hb r) (hb2 r))
  clear hA hb hB hb2 hld
  go_enter Tryd.func4, Tryd.ntmps4
  go_wp2_with fail
  refine (At.new_ L.disk W).mono ?_
  rintro e w1 ⟨p, f1, rfl, h1⟩
  have H1 := Lib.hid h1
  clear h1
  go_wp2_with fail
  refine (LAt.open_ L H1.out HLD.out (open_new 0) log_nil (by omega)).mono ?_
  rintro e w2 ⟨l, d2, l2, rfl, h2, -⟩
  have H2 := Lib.hid h2
  clear h2
  go_wp2
  go_loopw [10, 11, 12] (fun v nv i wr => ∃ (k m nn sf : Nat) (fd fl : List Nat), i = .int .i64 k ∧ nv = .int .i64 nn ∧ k ≤ ps.length + qs.length ∧ m ≤ k * 4105 ∧ LAt D G W wr p l fd fl ⟨recFrames ((ps ++ qs).take k), sf, false, none⟩ [] ((ps ++ qs).take k) m ∧ Hid ((k ≤ ps.length → nn = 0) ∧ (ps.length < k → nn = ps.length ∧ sf = (recFrames ps).length)) ∧ wr.ownsRow 0 27 1 v k ((vs ++ us).take k) ∧ Hid (∀ b ∈ rowOf v, W.heap.size ≤ b ∧ b ∉ fd ∧ b ∉ fl) ∧ Hid (∀ r ∈ (ps ++ qs).take k, r.length ≤ 4096)) (fun _ _ i _ => ps.length + qs.length - (intOf i).toNat)
  case atStart => exact ⟨0, 0, 0, 0, d2, l2, rfl, rfl, by omega, by omega, H2.out, ⟨fun _ => rfl, fun h => by omega⟩, World.ownsRow_nil _ _ _ _, fun b hb => by simp [rowOf, Value.ownBlock] at hb, fun r hr => by simp at hr⟩
  case round =>
    obtain ⟨k, m, nn, sf, fd, fl, rfl, rfl, hk, hm, hX, HN, hO, HO2, HS⟩ := hrel
    obtain ⟨Ao, co, rfl, hno, hco⟩ := own_shape hO
    have hco1 : k ≤ co := hco.1
    have HX := Lib.hid hX
    have HO := Lib.hid hO
    have hm3 : m ≤ 410500 := by omega
    clear hO hno
    by_cases hlt : k < ps.length + qs.length
    · obtain ⟨E, ce, q, hv, hq, hW⟩ := elem_two HA.out HA2.out HB.out HB2.out hlt
      have HW := Lib.hid hW
      have HTK := Lib.hid (take_snoc hq)
      have HV := Lib.hid hv
      have HVT := Lib.hid (take_snoc hv)
      rcases (by omega : k < ps.length ∨ k = ps.length ∨ ps.length < k) with hcs | hcs | hcs
      · have hke : ((k : Int) == (ps.length : Int)) = false := by rw [beq_eq_false_iff_ne]; omega
        obtain ⟨b1, o1, E', c1', q', rfl, hq', hc1, -, hv'⟩ := elem_was HA.out hX.old HB.out hcs
        have hvv : (Value.slice E' q'.length c1' : Value) = .slice E q.length ce := by
          rw [List.getElem?_append_left (by rw [HA.out.2.1]; exact hcs), hv'] at hv
          exact Option.some.inj hv
        rw [hvv] at hc1
        have HNX := Lib.hid (show nn = 0 from HN.out.1 (by omega))
        clear hX hq hv hW hq' hv' hvv
        by_cases hlong : 4096 < q.length
        · go_wp2
          go_ret
          exact ⟨rfl, HX.out.old⟩
        go_wp2_with fail
        refine (HX.out.append L HLD.out HW.out rfl (by omega) (s' := ⟨recFrames ((ps ++ qs).take (k + 1)), sf, false, none⟩) (by rw [HTK.out, recFrames_snoc]; rfl) (by omega)).mono ?_
        rintro e w9 ⟨rfl, d9, l9, h9, hS9⟩
        have HX9 := Lib.hid (show LAt D G W w9 p l d9 l9 ⟨recFrames ((ps ++ qs).take (k + 1)), sf, false, none⟩ [] ((ps ++ qs).take (k + 1)) (m + q.length + 9) by rw [HTK.out] at h9 ⊢; exact h9)
        have HO9 := Lib.hid (own_moved HO.out hS9.1 (fun b hb h => (List.mem_append.1 h).elim (HO2.out b hb).2.1 (HO2.out b hb).2.2))
        have HO29 := Lib.hid (fun b hb => ⟨(HO2.out b hb).1, fun h => (hS9.2 b (List.mem_append.2 (.inl h))).elim (fun h' => (List.mem_append.1 h').elim (HO2.out b hb).2.1 (HO2.out b hb).2.2) (fun h' => by have := own_lt HO.out b hb; omega), fun h => (hS9.2 b (List.mem_append.2 (.inr h))).elim (fun h' => (List.mem_append.1 h').elim (HO2.out b hb).2.1 (HO2.out b hb).2.2) (fun h' => by have := own_lt HO.out b hb; omega)⟩ : ∀ b ∈ rowOf (.slice Ao k co), W.heap.size ≤ b ∧ b ∉ d9 ∧ b ∉ l9)
        have HX10 := Lib.hid (HX9.out.again L (.cells #[.slice E q.length ce] 27))
        have HO10 := Lib.hid (HO9.out.alloc (.cells #[.slice E q.length ce] 27))
        clear h9 hS9
        go_wp2_with (at_builtin; refine wpList_append_vals rfl _ _ 47 rfl 27 i0 (.slice none 0 0) 24 Tryd.underlying47 hi hz0 rfl hz1 hz2 (.slice Ao k co) _ _ rfl (by exact HO10.out) _ 1 1 [.slice E q.length ce] rfl rfl (vrow_lit _ _ _) (fun u hu => by simp at hu; subst hu; rfl) (fun h => by cases h) (by unfold maxLen; omega) (by omega) ?_)
        intro v11 w11 hown hst
        have HX11 := Lib.hid (HX10.out.keeps L hst (fun b hb => (HO29.out b hb).1) (fun b hb => (HO29.out b hb).2))
        have HO11 := Lib.hid (show w11.ownsRow 0 27 1 v11 (k + 1) ((vs ++ us).take (k + 1)) by rw [HVT.out]; exact hown)
        have HO211 := Lib.hid (fun b hb => (hst.2 b hb).elim (HO29.out b) (fun h => ⟨Nat.le_trans HX10.out.old.size h, fun h' => by have := HX10.out.below L b (List.mem_append.2 (.inl h')); omega, fun h' => by have := HX10.out.below L b (List.mem_append.2 (.inr h')); omega⟩) : ∀ b ∈ rowOf v11, W.heap.size ≤ b ∧ b ∉ d9 ∧ b ∉ l9)
        clear hown hst
        obtain ⟨A11, c11, rfl, -⟩ := own_shape HO11.out
        go_wp2
        go_roundw
        case rel => exact ⟨k + 1, m + q.length + 9, nn, sf, d9, l9, by go_num, rfl, by omega, by omega, HX11.out, ⟨fun _ => HNX.out, fun h => by omega⟩, HO11.out, HO211.out, by
          intro r hr
          rw [HTK.out] at hr
          rcases List.mem_append.1 hr with h | h
          · exact HS.out r h
          · simp at h; subst h; omega⟩
        case measure => simp [intOf]; omega
      · have hke : ((k : Int) == (ps.length : Int)) = true := by rw [beq_iff_eq]; omega
        have hkk : ¬ k < ps.length := by omega
        have hcq : 0 < qs.length := by omega
        obtain ⟨xs, hxs⟩ : ∃ xs, xs = recFrames ((ps ++ qs).take k) := ⟨_, rfl⟩
        have HXL := Lib.hid (show xs.length = (recFrames ps).length by rw [hxs, hcs, List.take_left' rfl])
        have HXS := Lib.hid hxs
        have HX0 := Lib.hid (show LAt D G W wr p l fd fl ⟨xs, sf, false, none⟩ [] ((ps ++ qs).take k) m by rw [hxs]; exact hX)
        have hsub : IntKind.i64.wrap ((k : Int) - (ps.length : Int)) = ((0 : Nat) : Int) := by rw [IntWalk.i64_in _ (by omega)]; omega
        have HCS := Lib.hid hcs
        clear hxs hX hq hW hcs
        go_wp2_with fail
        refine (HX0.out.sync L rfl (s' := ⟨xs, xs.length, false, none⟩) rfl (by omega)).mono ?_
        rintro e w5 ⟨rfl, d5, l5, h5, hS5⟩
        have HX5 := Lib.hid (show LAt D G W w5 p l d5 l5 ⟨recFrames ((ps ++ qs).take k), xs.length, false, none⟩ [] ((ps ++ qs).take k) m by rw [← HXS.out]; exact h5)
        have HO5 := Lib.hid (own_moved HO.out hS5.1 (fun b hb h => (List.mem_append.1 h).elim (HO2.out b hb).2.1 (HO2.out b hb).2.2))
        have HO25 := Lib.hid (fun b hb => ⟨(HO2.out b hb).1, fun h => (hS5.2 b (List.mem_append.2 (.inl h))).elim (fun h' => (List.mem_append.1 h').elim (HO2.out b hb).2.1 (HO2.out b hb).2.2) (fun h' => by have := own_lt HO.out b hb; omega), fun h => (hS5.2 b (List.mem_append.2 (.inr h))).elim (fun h' => (List.mem_append.1 h').elim (HO2.out b hb).2.1 (HO2.out b hb).2.2) (fun h' => by have := own_lt HO.out b hb; omega)⟩ : ∀ b ∈ rowOf (.slice Ao k co), W.heap.size ≤ b ∧ b ∉ d5 ∧ b ∉ l5)
        obtain ⟨b1, o1, E', c1', q', rfl, hq', hc1, -, hv'⟩ := elem_was HA2.out h5.old HB2.out (k := 0) hcq
        have hvv : (Value.slice E' q'.length c1' : Value) = .slice E q.length ce := by
          rw [List.getElem?_append_right (by rw [HA.out.2.1, HCS.out]; omega), HA.out.2.1, HCS.out, Nat.sub_self, hv'] at hv
          exact Option.some.inj hv
        rw [hvv, Nat.add_zero] at hc1
        clear h5 hS5 hv hq' hv' hvv
        by_cases hlong : 4096 < q.length
        · go_wp2
          go_ret
          exact ⟨rfl, HX5.out.old⟩
        go_wp2_with fail
        refine (HX5.out.append L HLD.out HW.out rfl (by omega) (s' := ⟨recFrames ((ps ++ qs).take (k + 1)), xs.length, false, none⟩) (by rw [HTK.out, recFrames_snoc]; rfl) (by omega)).mono ?_
        rintro e w9 ⟨rfl, d9, l9, h9, hS9⟩
        have HX9 := Lib.hid (show LAt D G W w9 p l d9 l9 ⟨recFrames ((ps ++ qs).take (k + 1)), xs.length, false, none⟩ [] ((ps ++ qs).take (k + 1)) (m + q.length + 9) by rw [HTK.out] at h9 ⊢; exact h9)
        have HO9 := Lib.hid (own_moved HO5.out hS9.1 (fun b hb h => (List.mem_append.1 h).elim (HO25.out b hb).2.1 (HO25.out b hb).2.2))
        have HO29 := Lib.hid (fun b hb => ⟨(HO25.out b hb).1, fun h => (hS9.2 b (List.mem_append.2 (.inl h))).elim (fun h' => (List.mem_append.1 h').elim (HO25.out b hb).2.1 (HO25.out b hb).2.2) (fun h' => by have := own_lt HO5.out b hb; omega), fun h => (hS9.2 b (List.mem_append.2 (.inr h))).elim (fun h' => (List.mem_append.1 h').elim (HO25.out b hb).2.1 (HO25.out b hb).2.2) (fun h' => by have := own_lt HO5.out b hb; omega)⟩ : ∀ b ∈ rowOf (.slice Ao k co), W.heap.size ≤ b ∧ b ∉ d9 ∧ b ∉ l9)
        have HX10 := Lib.hid (HX9.out.again L (.cells #[.slice E q.length ce] 27))
        have HO10 := Lib.hid (HO9.out.alloc (.cells #[.slice E q.length ce] 27))
        clear h9 hS9
        go_wp2_with (at_builtin; refine wpList_append_vals rfl _ _ 47 rfl 27 i0 (.slice none 0 0) 24 Tryd.underlying47 hi hz0 rfl hz1 hz2 (.slice Ao k co) _ _ rfl (by exact HO10.out) _ 1 1 [.slice E q.length ce] rfl rfl (vrow_lit _ _ _) (fun u hu => by simp at hu; subst hu; rfl) (fun h => by cases h) (by unfold maxLen; omega) (by omega) ?_)
        intro v11 w11 hown hst
        have HX11 := Lib.hid (HX10.out.keeps L hst (fun b hb => (HO29.out b hb).1) (fun b hb => (HO29.out b hb).2))
        have HO11 := Lib.hid (show w11.ownsRow 0 27 1 v11 (k + 1) ((vs ++ us).take (k + 1)) by rw [HVT.out]; exact hown)
        have HO211 := Lib.hid (fun b hb => (hst.2 b hb).elim (HO29.out b) (fun h => ⟨Nat.le_trans HX10.out.old.size h, fun h' => by have := HX10.out.below L b (List.mem_append.2 (.inl h')); omega, fun h' => by have := HX10.out.below L b (List.mem_append.2 (.inr h')); omega⟩) : ∀ b ∈ rowOf v11, W.heap.size ≤ b ∧ b ∉ d9 ∧ b ∉ l9)
        clear hown hst
        obtain ⟨A11, c11, rfl, -⟩ := own_shape HO11.out
        go_wp2
        go_roundw
        case rel => exact ⟨k + 1, m + q.length + 9, k, xs.length, d9, l9, by go_num, rfl, by omega, by omega, HX11.out, ⟨fun h => by have := HCS.out; omega, fun _ => ⟨HCS.out, HXL.out⟩⟩, HO11.out, HO211.out, by
          intro r hr
          rw [HTK.out] at hr
          rcases List.mem_append.1 hr with h | h
          · exact HS.out r h
          · simp at h; subst h; omega⟩
        case measure => simp [intOf]; omega
      · have hke : ((k : Int) == (ps.length : Int)) = false := by rw [beq_eq_false_iff_ne]; omega
        have hkk : ¬ k < ps.length := by omega
        obtain ⟨j, hj⟩ : ∃ j, k = ps.length + j := ⟨k - ps.length, by omega⟩
        have hjq : j < qs.length := by omega
        have hsub : IntKind.i64.wrap ((k : Int) - (ps.length : Int)) = ((j : Nat) : Int) := by rw [IntWalk.i64_in _ (by omega)]; omega
        obtain ⟨b1, o1, E', c1', q', rfl, hq', hc1, -, hv'⟩ := elem_was HA2.out hX.old HB2.out hjq
        have hvv : (Value.slice E' q'.length c1' : Value) = .slice E q.length ce := by
          rw [hj, List.getElem?_append_right (by rw [HA.out.2.1]; omega), HA.out.2.1, Nat.add_sub_cancel_left, hv'] at hv
          exact Option.some.inj hv
        rw [hvv] at hc1
        have HNX := Lib.hid (HN.out.2 hcs)
        clear hX hq hv hW hq' hv' hvv hj
        by_cases hlong : 4096 < q.length
        · go_wp2
          go_ret
          exact ⟨rfl, HX.out.old⟩
        go_wp2_with fail
        refine (HX.out.append L HLD.out HW.out rfl (by omega) (s' := ⟨recFrames ((ps ++ qs).take (k + 1)), sf, false, none⟩) (by rw [HTK.out, recFrames_snoc]; rfl) (by omega)).mono ?_
        rintro e w9 ⟨rfl, d9, l9, h9, hS9⟩
        have HX9 := Lib.hid (show LAt D G W w9 p l d9 l9 ⟨recFrames ((ps ++ qs).take (k + 1)), sf, false, none⟩ [] ((ps ++ qs).take (k + 1)) (m + q.length + 9) by rw [HTK.out] at h9 ⊢; exact h9)
        have HO9 := Lib.hid (own_moved HO.out hS9.1 (fun b hb h => (List.mem_append.1 h).elim (HO2.out b hb).2.1 (HO2.out b hb).2.2))
        have HO29 := Lib.hid (fun b hb => ⟨(HO2.out b hb).1, fun h => (hS9.2 b (List.mem_append.2 (.inl h))).elim (fun h' => (List.mem_append.1 h').elim (HO2.out b hb).2.1 (HO2.out b hb).2.2) (fun h' => by have := own_lt HO.out b hb; omega), fun h => (hS9.2 b (List.mem_append.2 (.inr h))).elim (fun h' => (List.mem_append.1 h').elim (HO2.out b hb).2.1 (HO2.out b hb).2.2) (fun h' => by have := own_lt HO.out b hb; omega)⟩ : ∀ b ∈ rowOf (.slice Ao k co), W.heap.size ≤ b ∧ b ∉ d9 ∧ b ∉ l9)
        have HX10 := Lib.hid (HX9.out.again L (.cells #[.slice E q.length ce] 27))
        have HO10 := Lib.hid (HO9.out.alloc (.cells #[.slice E q.length ce] 27))
        clear h9 hS9
        go_wp2_with (at_builtin; refine wpList_append_vals rfl _ _ 47 rfl 27 i0 (.slice none 0 0) 24 Tryd.underlying47 hi hz0 rfl hz1 hz2 (.slice Ao k co) _ _ rfl (by exact HO10.out) _ 1 1 [.slice E q.length ce] rfl rfl (vrow_lit _ _ _) (fun u hu => by simp at hu; subst hu; rfl) (fun h => by cases h) (by unfold maxLen; omega) (by omega) ?_)
        intro v11 w11 hown hst
        have HX11 := Lib.hid (HX10.out.keeps L hst (fun b hb => (HO29.out b hb).1) (fun b hb => (HO29.out b hb).2))
        have HO11 := Lib.hid (show w11.ownsRow 0 27 1 v11 (k + 1) ((vs ++ us).take (k + 1)) by rw [HVT.out]; exact hown)
        have HO211 := Lib.hid (fun b hb => (hst.2 b hb).elim (HO29.out b) (fun h => ⟨Nat.le_trans HX10.out.old.size h, fun h' => by have := HX10.out.below L b (List.mem_append.2 (.inl h')); omega, fun h' => by have := HX10.out.below L b (List.mem_append.2 (.inr h')); omega⟩) : ∀ b ∈ rowOf v11, W.heap.size ≤ b ∧ b ∉ d9 ∧ b ∉ l9)
        clear hown hst
        obtain ⟨A11, c11, rfl, -⟩ := own_shape HO11.out
        go_wp2
        go_roundw
        case rel => exact ⟨k + 1, m + q.length + 9, nn, sf, d9, l9, by go_num, rfl, by omega, by omega, HX11.out, ⟨fun h => by omega, fun _ => HNX.out⟩, HO11.out, HO211.out, by
          intro r hr
          rw [HTK.out] at hr
          rcases List.mem_append.1 hr with h | h
          · exact HS.out r h
          · simp at h; subst h; omega⟩
        case measure => simp [intOf]; omega
    · have HTK := Lib.hid (show (ps ++ qs).take k = ps ++ qs from List.take_of_length_le (by rw [List.length_append]; omega))
      have HVT := Lib.hid (show (vs ++ us).take k = vs ++ us from List.take_of_length_le (by rw [List.length_append, HA.out.2.1, HA2.out.2.1]; omega))
      have hk2 : k = ps.length + qs.length := by omega
      obtain ⟨al, hal⟩ : ∃ al, al = ps ++ qs := ⟨_, rfl⟩
      have hall : al.length = k := by rw [hal, List.length_append]; omega
      have HALL := Lib.hid hall
      have HAL := Lib.hid hal
      have HALB := Lib.hid (show ∀ r ∈ al, ByteList r by rw [hal]; exact HPB.out)
      have HAS := Lib.hid (show ∀ r ∈ al, r.length ≤ 131071 from fun r hr => by have := HS.out r (by rw [HTK.out, ← hal]; exact hr); omega)
      obtain ⟨xs, hxs⟩ : ∃ xs, xs = recFrames al := ⟨_, rfl⟩
      have HXS := Lib.hid hxs
      have HX0 := Lib.hid (show LAt D G W wr p l fd fl ⟨xs, sf, false, none⟩ [] al m by have h := HX.out; rw [HTK.out, ← hal, ← hxs] at h; exact h)
      have HO0 := Lib.hid (show wr.ownsRow 0 27 1 (.slice Ao k co) k (vs ++ us) by have h := HO.out; rw [HVT.out] at h; exact h)
      have HPX := Lib.hid (show recFrames (al.take ps.length) = recFrames ps by rw [hal, List.take_left' rfl])
      have hpal : ps.length ≤ al.length := by omega
      have hxl : xs.length ≤ 410500 := by have h := L.disk.fits HX0.out.disk; have h : xs.length ≤ m := h; omega
      have HK2 := Lib.hid hk2
      clear hX hal hxs hall hk2
      by_cases hq0 : qs.length = 0
      · have hqe : ((qs.length : Int) == 0) = true := by rw [beq_iff_eq]; omega
        have HKP := Lib.hid (show k = ps.length by rw [HK2.out, hq0, Nat.add_zero])
        have HXP := Lib.hid (show xs.length = (recFrames (al.take ps.length)).length by rw [HXS.out, List.take_of_length_le (by rw [HALL.out, HKP.out]; exact Nat.le_refl _)])
        clear hq0
        go_wp2_with fail
        refine (HX0.out.sync L rfl (s' := ⟨xs, xs.length, false, none⟩) rfl (by omega)).mono ?_
        rintro e w5 ⟨rfl, d5, l5, h5, hS5⟩
        have HX5 := Lib.hid h5
        have HO5 := Lib.hid (own_moved HO0.out hS5.1 (fun b hb h => (List.mem_append.1 h).elim (HO2.out b hb).2.1 (HO2.out b hb).2.2))
        have HF5 := Lib.hid (Free.step (S := fd ++ fl) (fun b hb => ⟨own_lt HO0.out b hb, fun h => (List.mem_append.1 h).elim (HO2.out b hb).2.1 (HO2.out b hb).2.2⟩ : Free wr (rowOf (.slice Ao k co)) (fd ++ fl)) hS5)
        clear h5 hS5
        have hsx : xs.length ≤ xs.length := (L.disk.ok HX5.out.disk).safe
        obtain ⟨j, hj1, hj2, hj3⟩ := left_take xs xs.length keep hsx
        have hjl : (xs.take j).length = j := by rw [List.length_take]; omega
        obtain ⟨kk, hkk1, hkk2, hlog, hop⟩ := open_least HAS.out (n := j) (i := ps.length) (by rw [← HXS.out]; exact hj2) hpal (by rw [← HXP.out]; exact hj1)
        rw [← HXS.out] at hlog hop
        obtain ⟨gs, hgs⟩ : ∃ gs, gs = al.take kk := ⟨_, rfl⟩
        have hgl : gs.length = kk := by rw [hgs, List.length_take]; omega
        have HGB := Lib.hid (show ∀ r ∈ gs, ByteList r by rw [hgs]; exact fun r hr => HALB.out r (List.mem_of_mem_take hr))
        have HGS := Lib.hid (show ∀ r ∈ gs, r.length ≤ 131071 by rw [hgs]; exact fun r hr => HAS.out r (List.mem_of_mem_take hr))
        have HGT := Lib.hid (show al.take gs.length = gs by rw [hgl, hgs])
        have hg1 : k ≤ gs.length := by have := HKP.out; omega
        have hg2 : gs.length ≤ k := by rw [← HALL.out]; omega
        have hg3 : gs.length ≤ co := by omega
        have hg4 : gs.length ≤ 100 := by omega
        rw [← hgs] at hlog hop
        obtain ⟨zs, hzs⟩ : ∃ zs, zs = recFrames gs := ⟨_, rfl⟩
        have HZS := Lib.hid hzs
        rw [← hzs] at hlog hop
        have HLOG := Lib.hid hlog
        have HOP := Lib.hid hop
        have HJ3 := Lib.hid hj3
        have HJL := Lib.hid hjl
        have HZL := Lib.hid (show logOf zs = ([], gs, zs.length) by rw [hzs]; exact log_just HGS.out)
        have HFD := Lib.hid (Free.mono (T := d5) HF5.out (fun b hb => List.mem_append.2 (.inl hb)))
        clear hlog hop hzs hgs hgl hkk1 hkk2 hj3 hjl
        go_wp2_with fail
        refine (crashS L (HX5.out.at_) (k := keep) (s' := ⟨xs.take j, xs.length, true, none⟩) (by rw [← HJ3.out]; rfl) (by omega) hk0 hk1).mono ?_
        rintro e w6 ⟨rfl, f6, h6, hS6⟩
        have H6 := Lib.hid h6
        have HO6 := Lib.hid (Free.own HFD.out HO5.out hS6)
        have HF6 := Lib.hid (Free.step HFD.out hS6)
        clear h6 hS6
        go_wp2_with fail
        refine (startS L H6.out (s' := ⟨xs.take j, j, false, none⟩) (by show (⟨xs.take j, (xs.take j).length, false, none⟩ : DSt) = _; rw [HJL.out]) (by omega)).mono ?_
        rintro e w7 ⟨rfl, f7, h7, hS7⟩
        have H7 := Lib.hid h7
        have HO7 := Lib.hid (Free.own HF6.out HO6.out hS7)
        have HF7 := Lib.hid (Free.step HF6.out hS7)
        clear h7 hS7
        go_wp2_with fail
        refine (LAt.open_ L H7.out HLD.out HOP.out HLOG.out (by omega)).mono ?_
        rintro e w8 ⟨l8, d8, g8, rfl, h8, hS8⟩
        have H8 := Lib.hid h8
        have HO8 := Lib.hid (Free.own HF7.out HO7.out hS8)
        have HF8 := Lib.hid (Free.mono (T := g8) (Free.step HF7.out hS8) (fun b hb => List.mem_append.2 (.inr hb)))
        clear h8 hS8
        go_wp2_with fail
        refine (recsS L H8.out (by omega)).mono ?_
        rintro e w9 ⟨A9, c9, vs9, g9, fr9, rfl, -, hB9, -, hc9, hr9, -, hF9, h9, hS9⟩
        have H9 := Lib.hid h9
        have HB9 := Lib.hid hB9
        have HR9 := Lib.hid hr9
        have HFD9 := Lib.hid (hF9.mono (T := d8) (fun b hb => List.mem_append.2 (.inl hb)))
        have HFG9 := Lib.hid (hF9.mono (T := g9) (fun b hb => List.mem_append.2 (.inr hb)))
        have HO9 := Lib.hid (Free.own HF8.out HO8.out hS9)
        have HJ9 := Lib.hid (show BRows w9 Ao ((vs ++ us).take gs.length) gs by
          have h := brows_take (brows_join HA.out HA2.out h9.old HO9.out) gs.length
          rw [← HAL.out, HGT.out] at h
          exact h)
        clear h9 hB9 hr9 hF9 hS9 hc9
        go_wp2_with fail
        refine (rows_any A9 Ao gs.length gs.length c9 _ vs9 _ gs gs _ HB9.out HJ9.out rfl rfl HGB.out HGB.out (by omega) (by omega)).mono ?_
        rintro e w10 ⟨rfl, k10, hw10⟩
        rw [show decide (gs = gs) = true by simp]
        have H10 := Lib.hid (show LAt D G W w10 p l8 d8 g9 ⟨zs, zs.length, false, none⟩ [] gs m by rw [hw10]; exact H9.out.drewN L _)
        have HB10 := Lib.hid (show BRows w10 A9 vs9 gs by rw [hw10]; exact HB9.out.drewN _)
        have HFD10 := Lib.hid (show Free w10 fr9 d8 by rw [hw10]; exact HFD9.out)
        have HFG10 := Lib.hid (show Free w10 fr9 g9 by rw [hw10]; exact HFG9.out)
        clear hw10
        go_wp2_with fail
        refine (H10.out.snap L (by omega)).mono ?_
        rintro e w11 ⟨A11, c11, g11, rfl, -, -, -, -, h11, hS11⟩
        have H11 := Lib.hid h11
        have HB11 := Lib.hid (Free.brows HFG10.out HR9.out HB10.out hS11)
        have HFD11 := Lib.hid (Free.grow HFD10.out hS11.1.size)
        clear h11 hS11
        go_wp2_with fail
        refine (LAt.open_ L H11.out.at_ HLD.out (s' := ⟨zs, zs.length, false, none⟩) (sn := []) (rs := gs) (k := zs.length) (open_log HZL.out _) HZL.out (by omega)).mono ?_
        rintro e w12 ⟨l12, d12, g12, rfl, h12, hS12⟩
        have H12 := Lib.hid h12
        have HB12 := Lib.hid (Free.brows HFD11.out HR9.out HB11.out hS12)
        have HFG12 := Lib.hid (Free.mono (T := g12) (Free.step HFD11.out hS12) (fun b hb => List.mem_append.2 (.inr hb)))
        clear h12 hS12
        go_wp2_with fail
        refine (recsS L H12.out (by omega)).mono ?_
        rintro e w13 ⟨A13, c13, vs13, g13, fr13, rfl, -, hB13, -, -, -, -, -, h13, hS13⟩
        have H13 := Lib.hid h13.old
        have HB13 := Lib.hid hB13
        have HBX13 := Lib.hid (Free.brows HFG12.out HR9.out HB12.out hS13)
        clear h13 hB13 hS13
        go_wp2_with fail
        refine (rows_any A13 A9 gs.length gs.length _ _ vs13 vs9 gs gs _ HB13.out HBX13.out rfl rfl HGB.out HGB.out (by omega) (by omega)).mono ?_
        rintro e w14 ⟨rfl, k14, rfl⟩
        rw [show decide (gs = gs) = true by simp]
        go_wp2_with fail
        refine (wakes_any L _ (by exact HLD.out.moved (H13.out.drewN k14))).mono ?_
        rintro e w17 ⟨rfl, hM17⟩
        have HM17 := Lib.hid ((H13.out.drewN k14).trans hM17 (fun _ h => by cases h))
        clear hM17
        go_wp2
        go_ret
        exact ⟨rfl, HM17.out⟩
      · have hqe : ((qs.length : Int) == 0) = false := by rw [beq_eq_false_iff_ne]; omega
        have HNX := Lib.hid (HN.out.2 (by rw [HK2.out]; omega))
        have HXP := Lib.hid (show sf = (recFrames (al.take ps.length)).length by rw [HNX.out.2, HPX.out])
        have HF5 := Lib.hid (fun b hb => ⟨own_lt HO0.out b hb, fun h => (List.mem_append.1 h).elim (HO2.out b hb).2.1 (HO2.out b hb).2.2⟩ : Free wr (rowOf (.slice Ao k co)) (fd ++ fl))
        obtain rfl : nn = ps.length := HNX.out.1
        have hsx : sf ≤ xs.length := (L.disk.ok HX0.out.disk).safe
        obtain ⟨j, hj1, hj2, hj3⟩ := left_take xs sf keep hsx
        have hjl : (xs.take j).length = j := by rw [List.length_take]; omega
        obtain ⟨kk, hkk1, hkk2, hlog, hop⟩ := open_least HAS.out (n := j) (i := ps.length) (by rw [← HXS.out]; exact hj2) hpal (by rw [← HXP.out]; exact hj1)
        rw [← HXS.out] at hlog hop
        obtain ⟨gs, hgs⟩ : ∃ gs, gs = al.take kk := ⟨_, rfl⟩
        have hgl : gs.length = kk := by rw [hgs, List.length_take]; omega
        have HGB := Lib.hid (show ∀ r ∈ gs, ByteList r by rw [hgs]; exact fun r hr => HALB.out r (List.mem_of_mem_take hr))
        have HGS := Lib.hid (show ∀ r ∈ gs, r.length ≤ 131071 by rw [hgs]; exact fun r hr => HAS.out r (List.mem_of_mem_take hr))
        have HGT := Lib.hid (show al.take gs.length = gs by rw [hgl, hgs])
        have hg1 : ps.length ≤ gs.length := by omega
        have hg2 : gs.length ≤ k := by rw [← HALL.out]; omega
        have hg3 : gs.length ≤ co := by omega
        have hg4 : gs.length ≤ 100 := by omega
        rw [← hgs] at hlog hop
        obtain ⟨zs, hzs⟩ : ∃ zs, zs = recFrames gs := ⟨_, rfl⟩
        have HZS := Lib.hid hzs
        rw [← hzs] at hlog hop
        have HLOG := Lib.hid hlog
        have HOP := Lib.hid hop
        have HJ3 := Lib.hid hj3
        have HJL := Lib.hid hjl
        have HZL := Lib.hid (show logOf zs = ([], gs, zs.length) by rw [hzs]; exact log_just HGS.out)
        have HFD := Lib.hid (Free.mono (T := fd) HF5.out (fun b hb => List.mem_append.2 (.inl hb)))
        clear hlog hop hzs hgs hgl hkk1 hkk2 hj3 hjl
        go_wp2_with fail
        refine (crashS L (HX0.out.at_) (k := keep) (s' := ⟨xs.take j, sf, true, none⟩) (by rw [← HJ3.out]; rfl) (by omega) hk0 hk1).mono ?_
        rintro e w6 ⟨rfl, f6, h6, hS6⟩
        have H6 := Lib.hid h6
        have HO6 := Lib.hid (Free.own HFD.out HO0.out hS6)
        have HF6 := Lib.hid (Free.step HFD.out hS6)
        clear h6 hS6
        go_wp2_with fail
        refine (startS L H6.out (s' := ⟨xs.take j, j, false, none⟩) (by show (⟨xs.take j, (xs.take j).length, false, none⟩ : DSt) = _; rw [HJL.out]) (by omega)).mono ?_
        rintro e w7 ⟨rfl, f7, h7, hS7⟩
        have H7 := Lib.hid h7
        have HO7 := Lib.hid (Free.own HF6.out HO6.out hS7)
        have HF7 := Lib.hid (Free.step HF6.out hS7)
        clear h7 hS7
        go_wp2_with fail
        refine (LAt.open_ L H7.out HLD.out HOP.out HLOG.out (by omega)).mono ?_
        rintro e w8 ⟨l8, d8, g8, rfl, h8, hS8⟩
        have H8 := Lib.hid h8
        have HO8 := Lib.hid (Free.own HF7.out HO7.out hS8)
        have HF8 := Lib.hid (Free.mono (T := g8) (Free.step HF7.out hS8) (fun b hb => List.mem_append.2 (.inr hb)))
        clear h8 hS8
        go_wp2_with fail
        refine (recsS L H8.out (by omega)).mono ?_
        rintro e w9 ⟨A9, c9, vs9, g9, fr9, rfl, -, hB9, -, hc9, hr9, -, hF9, h9, hS9⟩
        have H9 := Lib.hid h9
        have HB9 := Lib.hid hB9
        have HR9 := Lib.hid hr9
        have HFD9 := Lib.hid (hF9.mono (T := d8) (fun b hb => List.mem_append.2 (.inl hb)))
        have HFG9 := Lib.hid (hF9.mono (T := g9) (fun b hb => List.mem_append.2 (.inr hb)))
        have HO9 := Lib.hid (Free.own HF8.out HO8.out hS9)
        have HJ9 := Lib.hid (show BRows w9 Ao ((vs ++ us).take gs.length) gs by
          have h := brows_take (brows_join HA.out HA2.out h9.old HO9.out) gs.length
          rw [← HAL.out, HGT.out] at h
          exact h)
        clear h9 hB9 hr9 hF9 hS9 hc9
        go_wp2_with fail
        refine (rows_any A9 Ao gs.length gs.length c9 _ vs9 _ gs gs _ HB9.out HJ9.out rfl rfl HGB.out HGB.out (by omega) (by omega)).mono ?_
        rintro e w10 ⟨rfl, k10, hw10⟩
        rw [show decide (gs = gs) = true by simp]
        have H10 := Lib.hid (show LAt D G W w10 p l8 d8 g9 ⟨zs, zs.length, false, none⟩ [] gs m by rw [hw10]; exact H9.out.drewN L _)
        have HB10 := Lib.hid (show BRows w10 A9 vs9 gs by rw [hw10]; exact HB9.out.drewN _)
        have HFD10 := Lib.hid (show Free w10 fr9 d8 by rw [hw10]; exact HFD9.out)
        have HFG10 := Lib.hid (show Free w10 fr9 g9 by rw [hw10]; exact HFG9.out)
        clear hw10
        go_wp2_with fail
        refine (H10.out.snap L (by omega)).mono ?_
        rintro e w11 ⟨A11, c11, g11, rfl, -, -, -, -, h11, hS11⟩
        have H11 := Lib.hid h11
        have HB11 := Lib.hid (Free.brows HFG10.out HR9.out HB10.out hS11)
        have HFD11 := Lib.hid (Free.grow HFD10.out hS11.1.size)
        clear h11 hS11
        go_wp2_with fail
        refine (LAt.open_ L H11.out.at_ HLD.out (s' := ⟨zs, zs.length, false, none⟩) (sn := []) (rs := gs) (k := zs.length) (open_log HZL.out _) HZL.out (by omega)).mono ?_
        rintro e w12 ⟨l12, d12, g12, rfl, h12, hS12⟩
        have H12 := Lib.hid h12
        have HB12 := Lib.hid (Free.brows HFD11.out HR9.out HB11.out hS12)
        have HFG12 := Lib.hid (Free.mono (T := g12) (Free.step HFD11.out hS12) (fun b hb => List.mem_append.2 (.inr hb)))
        clear h12 hS12
        go_wp2_with fail
        refine (recsS L H12.out (by omega)).mono ?_
        rintro e w13 ⟨A13, c13, vs13, g13, fr13, rfl, -, hB13, -, -, -, -, -, h13, hS13⟩
        have H13 := Lib.hid h13.old
        have HB13 := Lib.hid hB13
        have HBX13 := Lib.hid (Free.brows HFG12.out HR9.out HB12.out hS13)
        clear h13 hB13 hS13
        go_wp2_with fail
        refine (rows_any A13 A9 gs.length gs.length _ _ vs13 vs9 gs gs _ HB13.out HBX13.out rfl rfl HGB.out HGB.out (by omega) (by omega)).mono ?_
        rintro e w14 ⟨rfl, k14, rfl⟩
        rw [show decide (gs = gs) = true by simp]
        go_wp2_with fail
        refine (wakes_any L _ (by exact HLD.out.moved (H13.out.drewN k14))).mono ?_
        rintro e w17 ⟨rfl, hM17⟩
        have HM17 := Lib.hid ((H13.out.drewN k14).trans hM17 (fun _ h => by cases h))
        clear hM17
        go_wp2
        go_ret
        exact ⟨rfl, HM17.out⟩
end Lg
end Go.Proofs.YtekleamkpfeifaaDoor
