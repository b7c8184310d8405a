/-
  CONTRACTS of amount.Make and of (*pack.Reader).Amount; what the statements' walks ask of the Reader is had.
-/
import Derived.Test.YtgifinilgieonaaPackRText
namespace Go.Proofs.Ytgifinilgieonaa
namespace Pk
open Go.RowKit Am
theorem count_any (n : Int) (w : World) (b : Bool) (hb : cnt n = b) :
    Calls Try.prog 46 #[.int .i64 n] w fun e w' => e = .returned (.bool b) ∧ w = w' := by
  by_cases h : cnt n = true
  · obtain rfl : b = true := by rw [← hb, h]
    obtain ⟨h1, h2⟩ := cnt_yes h
    clear hb h
    go_enter Try.func46, Try.ntmps46
    go_wp2
    go_ret
    exact ⟨rfl, rfl⟩
  · obtain rfl : b = false := by rw [← hb]; simpa using h
    have h' := cnt_no h
    clear hb h
    rcases h' with h | h
    · go_enter Try.func46, Try.ntmps46
      go_wp2
      go_ret
      exact ⟨rfl, rfl⟩
    · have hd : decide (n ≤ 1048576) = false := by simp; omega
      have h0 : 0 ≤ n := by omega
      go_enter Try.func46, Try.ntmps46
      go_wp2
      go_ret
      exact ⟨rfl, rfl⟩
set_option maxRecDepth 100000 in
theorem make_ok (n l : Int) (w : World) (hn : 0 ≤ n ∧ n ≤ 1048576) (hl : 0 ≤ l ∧ l ≤ 1048576) :
    Calls Try.prog 41 #[.int .i64 n, .int .i64 l] w fun e w' => e = .returned (.tuple #[amt n l, .int .i64 0]) ∧ w = w' := by
  have HN : Hid (cnt n = true) := by show cnt n = true; simp [cnt, hn]
  have HL : Hid (cnt l = true) := by show cnt l = true; simp [cnt, hl]
  obtain ⟨h1, h2⟩ := hn
  obtain ⟨h3, h4⟩ := hl
  go_enter Try.func41, Try.ntmps41
  go_wp2_with fail
  refine (count_any n _ true HN.out).mono ?_
  rintro e1 w1 ⟨rfl, rfl⟩
  go_wp2_with fail
  refine (count_any l _ true HL.out).mono ?_
  rintro e1 w1 ⟨rfl, rfl⟩
  go_wp2
  go_ret2
  exact ⟨rfl, rfl⟩
set_option maxRecDepth 100000 in
theorem make_no (n l : Int) (w : World) (h : cnt n = false ∨ cnt l = false) :
    Calls Try.prog 41 #[.int .i64 n, .int .i64 l] w fun e w' => e = .returned (.tuple #[.complex .f64 0 0, .int .i64 2]) ∧ w = w' := by
  by_cases hn : cnt n = false
  · have HN := Lib.hid hn
    clear h hn
    go_enter Try.func41, Try.ntmps41
    go_wp2_with fail
    refine (count_any n _ false HN.out).mono ?_
    rintro e1 w1 ⟨rfl, rfl⟩
    go_wp2
    go_ret2
    exact ⟨rfl, rfl⟩
  · have HN : Hid (cnt n = true) := by show cnt n = true; simpa using hn
    have HL : Hid (cnt l = false) := by rcases h with h | h; exact absurd h hn; exact h
    clear h hn
    go_enter Try.func41, Try.ntmps41
    go_wp2_with fail
    refine (count_any n _ true HN.out).mono ?_
    rintro e1 w1 ⟨rfl, rfl⟩
    go_wp2_with fail
    refine (count_any l _ false HL.out).mono ?_
    rintro e1 w1 ⟨rfl, rfl⟩
    go_wp2
    go_ret2
    exact ⟨rfl, rfl⟩
theorem cnt_big {n : Nat} (h64 : n < 18446744073709551616) (h : 1048576 < n) : cnt (wrap64 (n : Int)) = false := by
  unfold cnt wrap64
  simp only [decide_eq_false_iff_not]
  omega
set_option maxRecDepth 100000 in
set_option maxHeartbeats 2000000 in
theorem ramount_any (p : Nat) (fp : List Nat) (st : St) (w : World) (hR : RObj w p fp st) :
    Calls Try.prog 25 #[.pointer (some ⟨p, 0, none⟩)] w (Goes RObj p fp st.amount.2 (amt st.amount.1.1 st.amount.1.2) w) := by
  obtain rfl : fp = [p] := hR.1
  have HB := Lib.hid (robj_bound hR)
  have HR := Lib.hid hR
  clear hR
  obtain ⟨n, hn⟩ : ∃ n, st.uint.1 = n := ⟨_, rfl⟩
  obtain ⟨s1, hs1⟩ : ∃ s1, st.uint.2 = s1 := ⟨_, rfl⟩
  have HN := Lib.hid hn
  have HS := Lib.hid hs1
  clear hn hs1
  go_enter Try.func25, Try.ntmps25
  go_wp2_with fail
  refine (ruint_any p _ st _ HR.out).mono ?_
  rintro e1 w1 ⟨rfl, fp1, hR1, hS1⟩
  rw [HS.out] at hR1
  rw [HN.out]
  have HR1 := Lib.hid hR1
  have HS1 := Lib.hid hS1
  clear hS1 hR1
  go_wp2_with fail
  refine (ruint_any p _ s1 _ HR1.out).mono ?_
  rintro e2 w2 ⟨rfl, fp2, hR2, hS2⟩
  have HS2 := Lib.hid (HS1.out.trans hS2)
  clear hS2
  rcases uint_split s1 with ⟨e, hu⟩ | ⟨k, bs, hu⟩
  · have HT := Lib.hid (amount_bad (s := st) (by rw [HS.out]; exact hu))
    rw [hu] at hR2 ⊢
    have HR2 := Lib.hid hR2
    obtain ⟨rfl, s, e1, hp, hs, he1, he2, rfl⟩ := hR2
    have c1 := cell_at hp 1 (v := .int .i64 e1) rfl
    have he3 : (e1 != 0) = true := by rw [he1]; simpa using he2
    clear hu hp he1 he2
    go_wp2
    go_ret
    rw [HT.out]
    exact ⟨by rw [← amt_zero]; rfl, _, HR2.out, HS2.out⟩
  · have HU := Lib.hid hu
    have HB2 := Lib.hid (robj_bound HR1.out)
    rw [hu] at hR2 HB2 ⊢
    have HR2 := Lib.hid hR2
    obtain ⟨rfl, s, e1, hp, hs, rfl, hbs⟩ := hR2
    have c1 := cell_at hp 1 (v := .int .i64 0) rfl
    have HP := Lib.hid hp
    clear hu hp hbs hs
    by_cases h5 : 1048576 < n ∨ 1048576 < k
    · have HT := Lib.hid (amount_big HN.out (by rw [HS.out]; exact HU.out) h5)
      have HC : Hid (cnt (wrap64 (n : Int)) = false ∨ cnt (wrap64 (k : Int)) = false) := by
        rcases h5 with h5 | h5
        · exact .inl (cnt_big (by rw [← HN.out]; exact HB.out) h5)
        · exact .inr (cnt_big HB2.out h5)
      clear h5
      go_wp2_with (first
        | (go_at_call 41; refine (make_no _ _ _ HC.out).mono ?_; rintro e3 w3 ⟨rfl, rfl⟩)
        | (go_at_call 36; refine (rfail_new p _ 2 _ HP.out (by omega)).mono ?_; rintro e3 w3 ⟨rfl, hR3, hS3⟩; have HR3 := Lib.hid hR3; have HS3 := Lib.hid (HS2.out.trans hS3); clear hR3 hS3))
      go_ret
      rw [HT.out]
      exact ⟨by rw [← amt_zero]; rfl, _, HR3.out, HS3.out⟩
    · have HT := Lib.hid (amount_fine HN.out (by rw [HS.out]; exact HU.out) h5)
      have h6 : n ≤ 1048576 := by omega
      have h7 : k ≤ 1048576 := by omega
      clear h5
      go_wp2_with (go_at_call 41; refine (make_ok _ _ _ (by omega) (by omega)).mono ?_; rintro e3 w3 ⟨rfl, rfl⟩)
      go_ret
      rw [HT.out]
      exact ⟨rfl, _, HR2.out, HS2.out⟩
theorem rlaws : RLaws RObj where
  stays := RObj.stays
  lt := RObj.lt
  bytes := fun h => by obtain ⟨_, s, _, _, _, _, rfl⟩ := h; exact nums_bytes s
  len := fun h => by obtain ⟨_, s, _, _, hs, _, rfl⟩ := h; rw [nums_len]; exact hs
  fine := fun h => by obtain ⟨_, s, _, _, _, rfl, he, _⟩ := h; exact he
  new := fun A n c xs w hA hn hb _ hlen => rnew_any A n c xs w hA hn hb hlen
  uint := ruint_any
  int := rint_any
  mark := rmark_any
  text := rtext_any
  amount := ramount_any
  done := rdone_any
end Pk
end Go.Proofs.Ytgifinilgieonaa
