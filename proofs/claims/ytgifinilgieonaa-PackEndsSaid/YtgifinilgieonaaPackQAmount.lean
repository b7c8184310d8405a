/-
  CONTRACT of (*hanseref03.Reader).Amount.
-/
import Derived.Test.YtgifinilgieonaaPackQText
import Derived.Test.YtgifinilgieonaaAmtRef
namespace Go.Proofs.Ytgifinilgieonaa
namespace Pk
open Go.RowKit Am
theorem amt_zero : amt 0 0 = .complex .f64 0 0 := by
  have h : floatOfInt .f64 0 = 0 := by decide +kernel
  rw [amt, h]
theorem amount_bad {s : St} {e : Int} (h : s.uint.2.uint = (0, .bad e)) : s.amount = ((0, 0), .bad e) := by rw [St.amount, h]
theorem amount_big {s : St} {n k : Nat} {bs : List Int} (h1 : s.uint.1 = n) (h : s.uint.2.uint = (k, .ok bs)) (hb : 1048576 < n ∨ 1048576 < k) : s.amount = ((0, 0), .bad 2) := by
  subst h1; rw [St.amount, h]; simp only; rw [if_pos hb]
theorem amount_fine {s : St} {n k : Nat} {bs : List Int} (h1 : s.uint.1 = n) (h : s.uint.2.uint = (k, .ok bs)) (hb : ¬ (1048576 < n ∨ 1048576 < k)) : s.amount = ((n, k), .ok bs) := by
  subst h1; rw [St.amount, h]; simp only; rw [if_neg hb]
set_option maxRecDepth 100000 in
set_option maxHeartbeats 2000000 in
theorem qamount_any (q : Nat) (A : Option Addr) (c : Nat) (xs : List Int) (st : St) (w : World) (hQ : QObj w q A c xs st) (hb : ByteList xs) (hlen : xs.length ≤ 70368744177664) :
    Calls Try.prog 33 #[.pointer (some ⟨q, 0, none⟩)] w fun r w' => r = .returned (amt st.amount.1.1 st.amount.1.2) ∧ QObj w' q A c xs st.amount.2 ∧ Moved w w' [q] := by
  have HB := Lib.hid hb
  clear hb
  obtain ⟨n, hn⟩ : ∃ n, st.uint.1 = n := ⟨_, rfl⟩
  obtain ⟨s1, hs1⟩ : ∃ s1, st.uint.2 = s1 := ⟨_, rfl⟩
  have HN := Lib.hid hn
  have HS := Lib.hid hs1
  clear hn hs1
  go_enter Try.func33, Try.ntmps33
  go_wp2_with fail
  refine (quint_any q A c xs st _ hQ HB.out hlen).mono ?_
  rintro e1 w1 ⟨rfl, hQ1, hM1⟩
  rw [HS.out] at hQ1
  rw [HN.out]
  have HM1 := Lib.hid hM1
  clear hM1 hQ
  go_wp2_with fail
  refine (quint_any q A c xs s1 _ hQ1 HB.out hlen).mono ?_
  rintro e2 w2 ⟨rfl, hQ2, hM2⟩
  have HM2 := Lib.hid (HM1.out.trans hM2 (fun _ h => .inl h))
  clear hM2 hQ1 HM1
  rcases uint_split s1 with ⟨e, hu⟩ | ⟨k, bs, hu⟩
  · have HT := Lib.hid (amount_bad (s := st) (by rw [HS.out]; exact hu))
    rw [hu] at hQ2 ⊢
    have HQ2 := Lib.hid hQ2
    obtain ⟨m1, e1, hq1, hA1, hn1, he1, he2⟩ := hQ2
    have he3 : (e1 != 0) = true := by rw [he1]; simpa using he2
    have c2 := cell_at hq1 2 (v := .int .i64 e1) rfl
    clear hu hq1 hA1 hn1 he1 he2
    go_wp2
    go_ret
    rw [HT.out]
    exact ⟨by rw [← amt_zero]; rfl, HQ2.out, HM2.out⟩
  · have HU := Lib.hid hu
    rw [hu] at hQ2 ⊢
    have HQ2 := Lib.hid hQ2
    obtain ⟨m1, e1, hq1, hA1, hn1, rfl, -⟩ := hQ2
    have c2 := cell_at hq1 2 (v := .int .i64 0) rfl
    have HQ1 := Lib.hid hq1
    have HA1 := Lib.hid hA1
    have HN1 := Lib.hid hn1
    clear hu hq1 hA1 hn1
    by_cases h5 : 1048576 < n ∨ 1048576 < k
    · have HT := Lib.hid (amount_big HN.out (by rw [HS.out]; exact HU.out) h5)
      rcases h5 with h5 | h5
      all_goals
        go_wp2_with (go_at_call 43; refine (fail_any q _ _ 2 _ (by exact HQ1.out)).mono ?_; rintro e2 w3 ⟨rfl, rfl⟩)
        all_goals
          go_ret
          rw [HT.out]
          have R := qobj_fail (e := 2) HQ1.out HA1.out HN1.out (Moved.refl _ _) (by omega)
          exact ⟨by rw [← amt_zero]; rfl, R.1, HM2.out.trans R.2 (fun k hk => .inl hk)⟩
    · have HT := Lib.hid (amount_fine HN.out (by rw [HS.out]; exact HU.out) h5)
      have h6 : n ≤ 1048576 := by omega
      have h7 : k ≤ 1048576 := by omega
      clear h5
      go_wp2_with (go_at_call 44; refine (refmake_ok _ _ _ (by omega) (by omega)).mono ?_; rintro e3 w3 ⟨rfl, rfl⟩)
      go_ret
      rw [HT.out]
      exact ⟨rfl, HQ2.out, HM2.out⟩
end Pk
end Go.Proofs.Ytgifinilgieonaa
