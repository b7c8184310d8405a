/-
  CONTRACT of (*hanseref03.Reader).Text.
-/
import Derived.Test.YtgifinilgieonaaPackQInt
import Derived.Test.YtgifinilgieonaaMemStep
namespace Go.Proofs.Ytgifinilgieonaa
namespace Pk
open Go.RowKit
/-- New bytes are answered, and the Reader at q goes on. -/
def QTold (q : Nat) (A : Option Addr) (c : Nat) (xs out : List Int) (st : St) (w : World) (r : Ending) (w' : World) : Prop :=
  ∃ v, r = .returned v ∧ w'.ownsRow 0 5 1 v out.length (out.map (Value.int .u8)) ∧ (∀ k ∈ rowOf v, w.heap.size ≤ k) ∧ QObj w' q A c xs st ∧ Moved w w' [q]
theorem uint_split (s : St) : (∃ e, s.uint = (0, .bad e)) ∨ ∃ n bs, s.uint = (n, .ok bs) := by
  unfold St.uint
  cases s with
  | bad e => exact .inl ⟨e, rfl⟩
  | ok bs =>
    simp only
    cases rdG 0 bs with
    | none => exact .inl ⟨4, rfl⟩
    | some p => exact .inr ⟨p.1, p.2, rfl⟩
theorem text_bad {st : St} {e : Int} (h : st.uint = (0, .bad e)) : st.text = ([], .bad e) := by rw [St.text, h]
theorem text_long {st : St} {n : Nat} {bs : List Int} (h : st.uint = (n, .ok bs)) (h5 : 131072 < n) : st.text = ([], .bad 5) := by rw [St.text, h]; simp only; rw [if_pos h5]
theorem text_short {st : St} {n : Nat} {bs : List Int} (h : st.uint = (n, .ok bs)) (h5 : ¬ 131072 < n) (h4 : bs.length < n) : st.text = ([], .bad 4) := by rw [St.text, h]; simp only; rw [if_neg h5, if_pos h4]
theorem text_fine {st : St} {n : Nat} {bs : List Int} (h : st.uint = (n, .ok bs)) (h5 : ¬ 131072 < n) (h4 : ¬ bs.length < n) : st.text = (bs.take n, .ok (bs.drop n)) := by rw [St.text, h]; simp only; rw [if_neg h5, if_neg h4]
theorem qtold_none {q : Nat} {A : Option Addr} {c : Nat} {xs : List Int} {st : St} {w w' : World} (h : QObj w' q A c xs st) (hM : Moved w w' [q]) : QTold q A c xs [] st w (.returned (.slice none 0 0)) w' :=
  ⟨_, rfl, World.ownsRow_nil _ _ _ _, by simp [rowOf, Value.ownBlock], h, hM⟩
theorem qtold_some {q : Nat} {A : Option Addr} {c : Nat} {xs : List Int} {w w1 w2 : World} {nq k n : Nat} {v : Value}
    (hq2 : w2.heap[q]? = some (.cells #[.slice A xs.length c, .int .i64 k, .int .i64 0] 31 (0, 0))) (hA : NRow .u8 w1 A xs) (hnq : q ∉ rowX A xs) (hM : Moved w w1 [q])
    (hst : Step (w1.drewN nq) w2 (rowOf (.slice none 0 0)) (rowOf v)) (hown : w2.ownsRow 0 5 1 v (0 + n) ([] ++ ((xs.drop k).take n).map (Value.int .u8))) (hkn : k + n ≤ xs.length) (hq1 : q < w1.heap.size) :
    QTold q A c xs ((xs.drop k).take n) (.ok ((xs.drop k).drop n)) w (.returned v) (w2.setCell ⟨q, 1, none⟩ (.int .i64 ((k : Int) + n))) := by
  have hnew : ∀ b ∈ rowOf v, w1.heap.size ≤ b := fun b hb => by
    rcases hst.2 b hb with h | h
    · simp [rowOf, Value.ownBlock] at h
    · exact h
  have hM1 : Moved w1 w2 [q] := (((Moved.refl w1 []).drewN nq).trans hst.1 (fun _ h => by simp [rowOf, Value.ownBlock] at h)).mono (fun _ h => by cases h)
  have hM2 := hM1.setCell (p := ⟨q, 1, none⟩) (.inl (by simp)) (.int .i64 ((k : Int) + n))
  have hne : v.ownBlock ≠ some q := fun h => by have := hnew q (mem_rowOf.2 h); omega
  have hl : ((xs.drop k).take n).length = n := by simp; omega
  refine ⟨v, rfl, ?_, fun b hb => Nat.le_trans hM.size (hnew b hb), ?_, hM.trans hM2 (fun _ h => .inl h)⟩
  · rw [hl]
    have h := ownsRow_setCell_other hown (a := ⟨q, 1, none⟩) hne (.int .i64 ((k : Int) + n))
    simpa using h
  · rw [List.drop_drop]
    exact qobj_ok (w := w1) (m := k + n) (by exact q_next hq2) hA hnq hM2 (by omega)
set_option maxRecDepth 100000 in
set_option maxHeartbeats 2000000 in
theorem qtext_any (q : Nat) (A : Option Addr) (c : Nat) (xs : List Int) (st : St) (w : World) (hQ : QObj w q A c xs st) (hb : ByteList xs) (hlen : xs.length ≤ 70368744177664) (hc : xs.length ≤ c) (hc2 : c ≤ 9223372036854775807) (hnil : A = none → c = 0) :
    Calls Try.prog 32 #[.pointer (some ⟨q, 0, none⟩)] w (QTold q A c xs st.text.1 st.text.2 w) := by
  obtain ⟨i0, hi, hz0, hz1, hz2⟩ := info_parts info_u8
  have HB := Lib.hid hb
  have HNIL := Lib.hid hnil
  clear hb hnil
  go_enter Try.func32, Try.ntmps32
  go_wp2_with fail
  refine (quint_any q A c xs st _ hQ HB.out hlen).mono ?_
  rintro e1 w1 ⟨rfl, hQ1, hM1⟩
  rcases uint_split st with ⟨e, hu⟩ | ⟨n, bs, hu⟩
  · have HT := Lib.hid (text_bad hu)
    rw [hu] at hQ1 ⊢
    have HQ1 := Lib.hid hQ1
    obtain ⟨m1, e1, hq1, hA1, hn1, he1, he2⟩ := hQ1
    have he3 : (e1 != 0) = true := by rw [he1]; simpa using he2
    have c2 := cell_at hq1 2 (v := .int .i64 e1) rfl
    clear hu hq1 hA1 hn1 he1 he2 hQ
    go_wp2
    go_ret
    rw [HT.out]
    exact qtold_none HQ1.out hM1
  · have HU := Lib.hid hu
    rw [hu] at hQ1 ⊢
    obtain ⟨m1, e1, hq1, hA1, hn1, rfl, k, rfl, hk, rfl⟩ := hQ1
    have c0 := cell_at hq1 0 (v := .slice A xs.length c) rfl
    have c1 := cell_at hq1 1 (v := .int .i64 k) rfl
    have c2 := cell_at hq1 2 (v := .int .i64 0) rfl
    have f1 := free_at hq1 1
    have HQ1 := Lib.hid hq1
    have HA1 := Lib.hid hA1
    have HN1 := Lib.hid hn1
    have HM1 := Lib.hid hM1
    clear hu hq1 hA1 hn1 hM1 hQ
    by_cases h5 : 131072 < n
    · have HT := Lib.hid (text_long HU.out h5)
      go_wp2_with (go_at_call 43; refine (fail_any q _ _ 5 _ (by exact HQ1.out)).mono ?_; rintro e2 w2 ⟨rfl, rfl⟩)
      go_ret
      rw [HT.out]
      have R := qobj_fail (e := 5) HQ1.out HA1.out HN1.out (Moved.refl _ _) (by omega)
      exact qtold_none R.1 (HM1.out.trans R.2 (fun k hk => .inl hk))
    · by_cases h4 : xs.length - k < n
      · have HT := Lib.hid (text_short HU.out h5 (by simpa using h4))
        go_wp2
        go_quiet (fail)
        go_wp2_with (go_at_call 43; refine (fail_any q _ _ 4 _ (by exact HQ1.out)).mono ?_; rintro e2 w2 ⟨rfl, rfl⟩)
        go_ret
        rw [HT.out]
        have R := qobj_fail (e := 4) HQ1.out HA1.out HN1.out (Moved.refl _ _) (by omega)
        exact qtold_none R.1 ((HM1.out.drewN _).trans (Moved.setCell (Moved.refl _ _) (.inl (by simp)) _) (fun k hk => .inl hk))
      · have HT := Lib.hid (text_fine HU.out h5 (by simpa using h4))
        go_wp2
        go_quiet (fail)
        go_wp2
        obtain ⟨A2, hA2, hn2, hz2'⟩ := HA1.out.piece (i := k) (n := n) (by omega) hc HNIL.out
        have e1 : IntKind.i64.wrap (n : Int) = n := IntWalk.i64_in _ (by omega)
        have e2 : IntKind.i64.wrap ((k : Int) + n) = (k : Int) + n := IntWalk.i64_in _ (by omega)
        have e3 : (0 : Int) ≤ (k : Int) + n := by omega
        have e4 : ((k : Int) + n).toNat = k + n := by omega
        have e5 : (k : Int) + n ≤ c := by omega
        have e6 : k ≤ k + n := by omega
        have e7 : k + n - k = n := by omega
        clear c2
        go_region_law (refine step_append_row rfl (.tmp 31) (.tmp 47) 22 rfl 5 i0 .u8 1 Try.underlying22 hi hz0 hz1 hz2 (.slice none 0 0) 0 [] (by simp [Act.eval, Act.put]) (World.ownsRow_nil _ _ _ _) A2 n (c - k) ((xs.drop k).take n) (by simp [Act.eval, Act.put]) (by simp; omega) hn2 hz2' (by unfold maxLen; omega) (by omega) ?_; intro v' w2 hown hst; have HO := Lib.hid hown; have HST := Lib.hid hst; clear hown hst)
        all_goals
          clear e1 e2 e3 e4 e5 e6 e7 c0 c1 f1 hA2 hn2 hz2'
          have hq2 : w2.heap[q]? = some (.cells #[.slice A xs.length c, .int .i64 k, .int .i64 0] 31 (0, 0)) :=
            (HST.out.1.block q (lt_of_block HQ1.out) (by simp [rowOf, Value.ownBlock])).trans HQ1.out
          have d1 := cell_at hq2 1 (v := .int .i64 k) rfl
          have g1 := free_at hq2 1
          have HQ2 := Lib.hid hq2
          clear hq2
          go_wp2
          go_ret
          rw [HT.out]
          exact qtold_some HQ2.out HA1.out HN1.out HM1.out HST.out HO.out (by omega) (lt_of_block HQ1.out)
end Pk
end Go.Proofs.Ytgifinilgieonaa
