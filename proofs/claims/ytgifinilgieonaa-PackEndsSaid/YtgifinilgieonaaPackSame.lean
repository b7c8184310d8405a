/-
  CONTRACT of the statements' helper same: both Readers read the same.
-/
import Derived.Test.YtgifinilgieonaaPackLaws
namespace Go.Proofs.Ytgifinilgieonaa
namespace Pk
open Go.RowKit Am

theorem QObj.stays {w w' : World} {q : Nat} {A : Option Addr} {c : Nat} {xs : List Int} {st : St} (h : QObj w q A c xs st) (hq : w'.heap[q]? = w.heap[q]?) (hA : ∀ b ∈ rowX A xs, w'.heap[b]? = w.heap[b]?) : QObj w' q A c xs st := by
  obtain ⟨a, e, h1, h2, h3, h4⟩ := h
  exact ⟨a, e, by rw [hq]; exact h1, nrowx_stays h2 hA, h3, h4⟩
theorem QObj.lt {w : World} {q : Nat} {A : Option Addr} {c : Nat} {xs : List Int} {st : St} (h : QObj w q A c xs st) : q < w.heap.size := by
  obtain ⟨a, e, h1, _⟩ := h
  exact lt_of_block h1

/-- Two Readers in the same state: the program's at p, the page's at q; their blocks apart, what the page's reads in old memory. -/
structure Pair (R : World → Nat → List Nat → St → Prop) (w : World) (p : Nat) (fp : List Nat) (q : Nat) (A : Option Addr) (c : Nat) (xs : List Int) (st : St) : Prop where
  mine : R w p fp st
  page : QObj w q A c xs st
  apart : q ∉ fp
  far : ∀ b ∈ rowX A xs, b ∉ fp ∧ b < w.heap.size
theorem Pair.left {R : World → Nat → List Nat → St → Prop} {w w' : World} {p : Nat} {fp fp' : List Nat} {q : Nat} {A : Option Addr} {c : Nat} {xs : List Int} {st : St} (h : Pair R w p fp q A c xs st) (hS : Step w w' fp fp') :
    QObj w' q A c xs st ∧ q ∉ fp' ∧ ∀ b ∈ rowX A xs, b ∉ fp' ∧ b < w'.heap.size := by
  have hq := h.page.lt
  refine ⟨h.page.stays (hS.1.block q hq h.apart) (fun b hb => hS.1.block b (h.far b hb).2 (h.far b hb).1), ?_, ?_⟩
  · intro hm
    rcases hS.2 q hm with h' | h'
    · exact h.apart h'
    · omega
  · intro b hb
    have hf := h.far b hb
    refine ⟨fun hm => ?_, Nat.lt_of_lt_of_le hf.2 hS.1.size⟩
    rcases hS.2 b hm with h' | h'
    · exact hf.1 h'
    · omega
/-- The program's Reader went on first, then the page's. -/
theorem Pair.both {R : World → Nat → List Nat → St → Prop} (L : RLaws R) {w w1 w2 : World} {p : Nat} {fp fp1 : List Nat} {q : Nat} {A : Option Addr} {c : Nat} {xs : List Int} {st st1 st2 : St}
    (h : Pair R w p fp q A c xs st) (h1 : R w1 p fp1 st1) (hS : Step w w1 fp fp1) (h2 : QObj w2 q A c xs st2) (hM : Moved w1 w2 [q]) (he : st1 = st2) :
    Pair R w2 p fp1 q A c xs st2 ∧ Step w w2 (q :: fp) (q :: fp1) := by
  subst he
  obtain ⟨_, ha, hf⟩ := h.left hS
  refine ⟨⟨L.stays h1 (fun k hk => hM.block k (L.lt h1 k hk) (fun hm => by simp at hm; subst hm; exact ha hk)), h2, ha, fun b hb => ⟨(hf b hb).1, Nat.lt_of_lt_of_le (hf b hb).2 hM.size⟩⟩, ?_, ?_⟩
  · exact (hS.1.mono (fun k hk => by simp [hk])).trans hM (fun k hk => .inl (by simp at hk; simp [hk]))
  · intro k hk
    rcases List.mem_cons.1 hk with rfl | hk
    · exact .inl (by simp)
    · rcases hS.2 k hk with h' | h'
      · exact .inl (by simp [h'])
      · exact .inr h'

/-- Rows that belong to neither are written over. -/
theorem Pair.spoilt {R : World → Nat → List Nat → St → Prop} (L : RLaws R) {w w' : World} {p : Nat} {fp : List Nat} {q : Nat} {A : Option Addr} {c : Nat} {xs : List Int} {st : St} {S : List Nat}
    (h : Pair R w p fp q A c xs st) (hM : Moved w w' S) (hS : ∀ k ∈ S, k ≠ q ∧ k ∉ fp ∧ k ∉ rowX A xs) : Pair R w' p fp q A c xs st :=
  ⟨L.stays h.mine (fun k hk => hM.block k (L.lt h.mine k hk) (fun hm => (hS k hm).2.1 hk)),
    h.page.stays (hM.block q h.page.lt (fun hm => (hS q hm).1 rfl)) (fun b hb => hM.block b (h.far b hb).2 (fun hm => (hS b hm).2.2 hb)), h.apart,
    fun b hb => ⟨(h.far b hb).1, Nat.lt_of_lt_of_le (h.far b hb).2 hM.size⟩⟩
/-- A step, and then new blocks alone are written over. -/
theorem Step.later {w w1 w2 : World} {S T U : List Nat} (h : Step w w1 S T) (hM : Moved w1 w2 U) (hU : ∀ k ∈ U, w.heap.size ≤ k) : Step w w2 S T :=
  ⟨h.1.trans hM (fun k hk => .inr (hU k hk)), h.2⟩
theorem rdG_part : ∀ (bs : List Int) (i v : Nat) (r : List Int), rdG i bs = some (v, r) → (∀ x ∈ r, x ∈ bs) ∧ r.length ≤ bs.length := by
  intro bs
  induction bs with
  | nil => intro i v r h; cases h
  | cons x bs ih =>
    intro i v r h
    rw [rdG] at h
    split at h
    · cases h
    · split at h
      · split at h
        · cases h
        · cases h; exact ⟨fun y hy => by simp [hy], by simp⟩
      · rcases hr : rdG (i + 1) bs with _ | ⟨v', r'⟩
        · rw [hr] at h; cases h
        · rw [hr] at h
          cases h
          obtain ⟨h1, h2⟩ := ih (i + 1) v' r' hr
          exact ⟨fun y hy => by simp [h1 y hy], by simp; omega⟩
theorem uint_bytes {st : St} (h : ∀ bs, st = .ok bs → ByteList bs) : ∀ bs, st.uint.2 = .ok bs → ByteList bs := by
  intro bs e
  unfold St.uint at e
  cases st with
  | bad e' => cases e
  | ok cs =>
    simp only at e
    cases hr : rdG 0 cs with
    | none => rw [hr] at e; cases e
    | some p =>
      rw [hr] at e
      cases e
      exact fun x hx => h cs rfl x ((rdG_part cs 0 p.1 p.2 hr).1 x hx)
theorem text_bytes {st : St} (h : ∀ bs, st = .ok bs → ByteList bs) : ByteList st.text.1 := by
  have h2 := uint_bytes h
  rcases uint_split st with ⟨e, hu⟩ | ⟨n, bs, hu⟩
  · rw [text_bad hu]; exact ByteList.nil
  · by_cases h5 : 131072 < n
    · rw [text_long hu h5]; exact ByteList.nil
    · by_cases h4 : bs.length < n
      · rw [text_short hu h5 h4]; exact ByteList.nil
      · rw [text_fine hu h5 h4]; exact (h2 bs (by rw [hu])).take n
theorem text_len (st : St) : st.text.1.length ≤ 131072 := by
  rcases uint_split st with ⟨e, hu⟩ | ⟨n, bs, hu⟩
  · rw [text_bad hu]; simp
  · by_cases h5 : 131072 < n
    · rw [text_long hu h5]; simp
    · by_cases h4 : bs.length < n
      · rw [text_short hu h5 h4]; simp
      · rw [text_fine hu h5 h4]; simp; omega
theorem amount_small {s : St} : s.amount.1.1 ≤ 1048576 ∧ s.amount.1.2 ≤ 1048576 := by
  rcases uint_split s.uint.2 with ⟨e, hu⟩ | ⟨k, bs, hu⟩
  · rw [amount_bad hu]; simp
  · by_cases h5 : 1048576 < s.uint.1 ∨ 1048576 < k
    · rw [amount_big rfl hu h5]; simp
    · rw [amount_fine rfl hu h5]; simp; omega
def SameEnd (R : World → Nat → List Nat → St → Prop) (p : Nat) (fp : List Nat) (q : Nat) (A : Option Addr) (c : Nat) (xs : List Int) (st : St) (w : World) (r : Ending) (w' : World) : Prop :=
  r = .returned (.bool true) ∧ ∃ fp', Pair R w' p fp' q A c xs st ∧ Step w w' (q :: fp) (q :: fp')

set_option maxRecDepth 100000 in
set_option maxHeartbeats 4000000 in
theorem same_any {R : World → Nat → List Nat → St → Prop} (L : RLaws R) (p : Nat) (fp : List Nat) (q : Nat) (A : Option Addr) (c : Nat) (xs : List Int) (st : St) (j : Int) (w : World) (hP : Pair R w p fp q A c xs st)
    (hb : ByteList xs) (hlen : xs.length ≤ 70368744177664) (hc : xs.length ≤ c) (hc2 : c ≤ 9223372036854775807) (hnil : A = none → c = 0) :
    Calls Try.prog 11 #[.pointer (some ⟨p, 0, none⟩), .pointer (some ⟨q, 0, none⟩), .int .i64 j] w (SameEnd R p fp q A c xs (stepK (kindOf j) st) w) := by
  have HB := Lib.hid hb
  have HNIL := Lib.hid hnil
  have HP := Lib.hid hP
  obtain ⟨k, hk⟩ : ∃ k, k = kindOf j := ⟨_, rfl⟩
  have hr := kindOf_range j
  rw [← hk] at hr ⊢
  obtain ⟨hr0, hr4⟩ := hr
  have HK := Lib.hid hk
  clear hb hnil hP hk
  by_cases h0 : k = 0
  · have HT : Hid (stepK k st = st.uint.2) := by show _ = _; rw [stepK, if_pos h0]
    obtain rfl := h0
    go_enter Try.func11, Try.ntmps11
    go_wp2_with (first
      | (go_at_call 15; refine (kind_any _ _).mono ?_; rintro e w1 ⟨rfl, rfl⟩; rw [← HK.out])
      | (go_at_call 17; refine (L.uint p fp st _ HP.out.mine).mono ?_; rintro e w1 ⟨rfl, fp1, hR1, hS1⟩; have HR1 := Lib.hid hR1; have HS1 := Lib.hid hS1; have HL := Lib.hid (HP.out.left hS1); clear hR1 hS1)
      | (go_at_call 29; refine (quint_any q A c xs st _ HL.out.1 HB.out hlen).mono ?_; rintro e w2 ⟨rfl, hQ2, hM2⟩; have HQ2 := Lib.hid hQ2; have HM2 := Lib.hid hM2; clear hQ2 hM2))
    go_ret
    have E := HP.out.both L HR1.out HS1.out HQ2.out HM2.out rfl
    exact ⟨rfl, fp1, by rw [HT.out]; exact E.1, E.2⟩
  by_cases h1 : k = 1
  · have HT : Hid (stepK k st = st.int.2) := by show _ = _; rw [stepK, if_neg h0, if_pos h1]
    obtain rfl := h1
    go_enter Try.func11, Try.ntmps11
    go_wp2_with (first
      | (go_at_call 15; refine (kind_any _ _).mono ?_; rintro e w1 ⟨rfl, rfl⟩; rw [← HK.out])
      | (go_at_call 19; refine (L.int p fp st _ HP.out.mine).mono ?_; rintro e w1 ⟨rfl, fp1, hR1, hS1⟩; have HR1 := Lib.hid hR1; have HS1 := Lib.hid hS1; have HL := Lib.hid (HP.out.left hS1); clear hR1 hS1)
      | (go_at_call 30; refine (qint_any q A c xs st _ HL.out.1 HB.out hlen).mono ?_; rintro e w2 ⟨rfl, hQ2, hM2⟩; have HQ2 := Lib.hid hQ2; have HM2 := Lib.hid hM2; clear hQ2 hM2))
    go_ret
    have E := HP.out.both L HR1.out HS1.out HQ2.out HM2.out rfl
    exact ⟨rfl, fp1, by rw [HT.out]; exact E.1, E.2⟩
  by_cases h2 : k = 2
  · have HT : Hid (stepK k st = st.mark.2) := by show _ = _; rw [stepK, if_neg h0, if_neg h1, if_pos h2]
    obtain rfl := h2
    go_enter Try.func11, Try.ntmps11
    go_wp2_with (first
      | (go_at_call 15; refine (kind_any _ _).mono ?_; rintro e w1 ⟨rfl, rfl⟩; rw [← HK.out])
      | (go_at_call 21; refine (L.mark p fp st _ HP.out.mine).mono ?_; rintro e w1 ⟨rfl, fp1, hR1, hS1⟩; have HR1 := Lib.hid hR1; have HS1 := Lib.hid hS1; have HL := Lib.hid (HP.out.left hS1); clear hR1 hS1)
      | (go_at_call 31; refine (qmark_any q A c xs st _ HL.out.1 HB.out hlen).mono ?_; rintro e w2 ⟨rfl, hQ2, hM2⟩; have HQ2 := Lib.hid hQ2; have HM2 := Lib.hid hM2; clear hQ2 hM2))
    go_ret
    have E := HP.out.both L HR1.out HS1.out HQ2.out HM2.out rfl
    exact ⟨rfl, fp1, by rw [HT.out]; exact E.1, E.2⟩
  by_cases h3 : k = 3
  · have HT : Hid (stepK k st = st.text.2) := by show _ = _; rw [stepK, if_neg h0, if_neg h1, if_neg h2, if_pos h3]
    obtain rfl := h3
    go_enter Try.func11, Try.ntmps11
    go_wp2_with (go_at_call 15; refine (kind_any _ _).mono ?_; rintro e w1 ⟨rfl, rfl⟩; rw [← HK.out])
    go_wp2_with fail
    refine (L.text p fp st _ HP.out.mine).mono ?_
    rintro e w1 ⟨v1, fp1, rfl, hO1, hF1, hR1, hS1⟩
    obtain ⟨A1, c1, rfl, -⟩ := t_shape hO1
    have HO1 := Lib.hid hO1
    have HF1 := Lib.hid hF1
    have HR1 := Lib.hid hR1
    have HS1 := Lib.hid hS1
    have HL := Lib.hid (HP.out.left hS1)
    clear hO1 hF1 hR1 hS1
    have HTB := Lib.hid (text_bytes (st := st) (fun bs e => L.bytes (e ▸ HP.out.mine)))
    have htl : st.text.1.length ≤ 131072 := text_len st
    go_wp2_with fail
    refine (qtext_any q A c xs st _ HL.out.1 HB.out hlen hc hc2 HNIL.out).mono ?_
    rintro e w2 ⟨v2, rfl, hO2, hF2, hQ2, hM2⟩
    obtain ⟨A2, c2, rfl, -⟩ := own_shape hO2
    have hO12 : TRow w2 (.slice A1 st.text.1.length c1) st.text.1.length st.text.1 :=
      t_stays HO1.out (fun k hk => hM2.block k (t_lt HO1.out k hk) (fun hm => by have h1 := HF1.out k hk; have h2 := HP.out.page.lt; simp at hm; omega))
    have HO2 := Lib.hid hO2
    have HO12 := Lib.hid hO12
    have HQ2 := Lib.hid hQ2
    have HM2 := Lib.hid hM2
    clear hO2 hF2 hQ2 hM2 hO12
    go_wp2_with (first
      | (go_at_call 27; refine (bytes_is _ _ _ _ _ _ _ _ _ HO12.out.nrow (NRow.of_own HO2.out) rfl rfl HTB.out HTB.out true (by simp)).mono ?_; rintro e w3 ⟨rfl, rfl⟩)
      | (go_at_call 10; refine (tspoil_any _ _ _ _ HO12.out (by omega)).mono ?_; rintro e w3 ⟨rfl, hM3⟩; have HM3 := Lib.hid hM3; clear hM3))
    go_ret
    have E := HP.out.both L HR1.out HS1.out HQ2.out HM2.out rfl
    have E2 := E.1.spoilt L HM3.out (fun k hk => ⟨fun h => by have h1 := (HF1.out k hk).1; have h2 := HP.out.page.lt; omega, (HF1.out k hk).2, fun h => by have h1 := (HF1.out k hk).1; have h2 := (HP.out.far k h).2; omega⟩)
    exact ⟨rfl, fp1, by rw [HT.out]; exact E2, Step.later E.2 HM3.out (fun k hk => by have h1 := (HF1.out k hk).1; exact h1)⟩
  · have HT : Hid (stepK k st = st.amount.2) := by show _ = _; rw [stepK, if_neg h0, if_neg h1, if_neg h2, if_neg h3]
    obtain rfl : k = 4 := by omega
    have hn := amount_small (s := st)
    obtain ⟨n, l, hnl⟩ : ∃ n l : Nat, st.amount.1 = (n, l) := ⟨_, _, rfl⟩
    rw [hnl] at hn
    have e1 : (FloatKind.f64.format.order (floatOfInt .f64 n) (floatOfInt .f64 n) == some Ordering.eq) = true := by show Op.floatEq .f64 _ _ = true; rw [Fl.eq_std (Fl.std_nat (n := n) (by have := hn.1; omega)) (Fl.std_nat (n := n) (by have := hn.1; omega))]; simp
    have e2 : (FloatKind.f64.format.order (floatOfInt .f64 l) (floatOfInt .f64 l) == some Ordering.eq) = true := by show Op.floatEq .f64 _ _ = true; rw [Fl.eq_std (Fl.std_nat (n := l) (by have := hn.2; omega)) (Fl.std_nat (n := l) (by have := hn.2; omega))]; simp
    have HNL := Lib.hid hnl
    clear hn hnl
    go_enter Try.func11, Try.ntmps11
    go_wp2_with (first
      | (go_at_call 15; refine (kind_any _ _).mono ?_; rintro e w1 ⟨rfl, rfl⟩; rw [← HK.out])
      | (go_at_call 25; refine (L.amount p fp st _ HP.out.mine).mono ?_; rintro e w1 ⟨rfl, fp1, hR1, hS1⟩; have HR1 := Lib.hid hR1; have HS1 := Lib.hid hS1; have HL := Lib.hid (HP.out.left hS1); clear hR1 hS1; rw [HNL.out, amt])
      | (go_at_call 33; refine (qamount_any q A c xs st _ HL.out.1 HB.out hlen).mono ?_; rintro e w2 ⟨rfl, hQ2, hM2⟩; have HQ2 := Lib.hid hQ2; have HM2 := Lib.hid hM2; clear hQ2 hM2; rw [HNL.out, amt]))
    go_ret
    have E := HP.out.both L HR1.out HS1.out HQ2.out HM2.out rfl
    exact ⟨rfl, fp1, by rw [HT.out]; exact E.1, E.2⟩
end Pk
end Go.Proofs.Ytgifinilgieonaa
