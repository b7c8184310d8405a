/-
  CONTRACTS of (*hanseref03.Reader).Int, Mark, Done.
-/
import Derived.Test.YtgifinilgieonaaPackQUint
namespace Go.Proofs.Ytgifinilgieonaa
namespace Pk
open Go.RowKit
theorem qst_bytes {w : World} {q : Nat} {A : Option Addr} {c : Nat} {xs : List Int} {st : St} (h : QObj w q A c xs st) (hb : ByteList xs) : ∀ bs, st = .ok bs → ∀ x ∈ bs, 0 ≤ x ∧ x ≤ 255 := by
  intro bs e
  subst e
  obtain ⟨_, _, _, _, _, _, k, _, _, rfl⟩ := h
  exact hb.drop k
theorem wrap64_small {n : Int} (h1 : -9223372036854775808 ≤ n) (h2 : n ≤ 9223372036854775807) : wrap64 n = n := by
  unfold wrap64; omega
theorem half_u64 {v : Nat} (h : v < 18446744073709551616) : IntKind.u64.wrap ((v : Int) / 2) = ((v / 2 : Nat) : Int) := by
  rw [show ((v : Int) / 2) = ((v / 2 : Nat) : Int) by omega]; exact wrap_nat (by omega)
theorem zig_even {v : Nat} (h : v < 18446744073709551616) (h2 : v % 2 = 0) : wrap64 (IntKind.u64.wrap ((v : Int) / 2)) = unzig v := by
  rw [half_u64 h, wrap64_small (by omega) (by omega), unzig, if_pos h2]
theorem zig_odd {v : Nat} (h : v < 18446744073709551616) (h2 : ¬ v % 2 = 0) : wrap64 (wrap64 (-wrap64 (IntKind.u64.wrap ((v : Int) / 2))) - 1) = unzig v := by
  rw [half_u64 h, wrap64_small (n := ((v / 2 : Nat) : Int)) (by omega) (by omega), wrap64_small (n := -((v / 2 : Nat) : Int)) (by omega) (by omega), wrap64_small (by omega) (by omega), unzig, if_neg h2]
theorem ret_i64 {a b : Int} (h : a = b) : Ending.returned (.int .i64 a) = .returned (.int .i64 b) := by rw [h]
set_option maxRecDepth 100000 in
set_option maxHeartbeats 1000000 in
theorem qint_any (q : Nat) (A : Option Addr) (c : Nat) (xs : List Int) (st : St) (w : World) (hQ : QObj w q A c xs st) (hb : ByteList xs) (hlen : xs.length ≤ 70368744177664) :
    Calls Try.prog 30 #[.pointer (some ⟨q, 0, none⟩)] w fun r w' => r = .returned (.int .i64 st.int.1) ∧ QObj w' q A c xs st.int.2 ∧ Moved w w' [q] := by
  have hv := uint_bound (qst_bytes hQ hb)
  obtain ⟨v, hv1⟩ : ∃ v, v = st.uint.1 := ⟨_, rfl⟩
  have HE := Lib.hid hv1
  rw [← hv1] at hv
  have HV := Lib.hid hv
  have HB := Lib.hid hb
  clear hv hv1 hb
  by_cases h2 : v % 2 = 0
  · go_enter Try.func30, Try.ntmps30
    go_wp2_with (go_at_call 29; refine (quint_any q A c xs st _ hQ HB.out hlen).mono ?_; rintro e w1 ⟨rfl, hQ1, hM1⟩; rw [← HE.out])
    go_ret
    exact ⟨ret_i64 ((zig_even HV.out h2).trans (by rw [HE.out]; rfl)), hQ1, hM1⟩
  · go_enter Try.func30, Try.ntmps30
    go_wp2_with (go_at_call 29; refine (quint_any q A c xs st _ hQ HB.out hlen).mono ?_; rintro e w1 ⟨rfl, hQ1, hM1⟩; rw [← HE.out])
    go_ret
    exact ⟨ret_i64 ((zig_odd HV.out h2).trans (by rw [HE.out]; rfl)), hQ1, hM1⟩
theorem uint_pos {s : St} (h : 0 < s.uint.1) : ∃ bs, s.uint.2 = .ok bs := by
  unfold St.uint at *
  cases s with
  | bad e => simp at h
  | ok bs =>
    simp only at h ⊢
    cases hr : rdG 0 bs with
    | none => rw [hr] at h; simp at h
    | some p => exact ⟨p.2, rfl⟩
theorem qobj_raw {w : World} {q : Nat} {A : Option Addr} {c : Nat} {xs : List Int} {st : St} (h : QObj w q A c xs st) (hs : ∃ bs, st = .ok bs) :
    ∃ m : Int, w.heap[q]? = some (.cells #[.slice A xs.length c, .int .i64 m, .int .i64 0] 31 (0, 0)) ∧ NRow .u8 w A xs ∧ q ∉ rowX A xs := by
  obtain ⟨bs, rfl⟩ := hs
  obtain ⟨m, e, hq, hA, hn, rfl, _⟩ := h
  exact ⟨m, hq, hA, hn⟩
set_option maxRecDepth 100000 in
set_option maxHeartbeats 1000000 in
theorem qmark_any (q : Nat) (A : Option Addr) (c : Nat) (xs : List Int) (st : St) (w : World) (hQ : QObj w q A c xs st) (hb : ByteList xs) (hlen : xs.length ≤ 70368744177664) :
    Calls Try.prog 31 #[.pointer (some ⟨q, 0, none⟩)] w fun r w' => r = .returned (.bool st.mark.1) ∧ QObj w' q A c xs st.mark.2 ∧ Moved w w' [q] := by
  obtain ⟨v, hv1⟩ : ∃ v, v = st.uint.1 := ⟨_, rfl⟩
  have HE := Lib.hid hv1
  have HB := Lib.hid hb
  clear hv1 hb
  by_cases h1 : 1 < v
  · have HS : Hid (st.mark = (false, .bad 4)) := by show _ = _; rw [St.mark, ← HE.out, if_pos h1]
    have HX : Hid (∃ bs, st.uint.2 = .ok bs) := uint_pos (by rw [← HE.out]; omega)
    go_enter Try.func31, Try.ntmps31
    go_wp2_with (first
      | (go_at_call 29; refine (quint_any q A c xs st _ hQ HB.out hlen).mono ?_; rintro e w1 ⟨rfl, hQ1, hM1⟩; rw [← HE.out]; obtain ⟨m, hq1, hA1, hn1⟩ := qobj_raw hQ1 HX.out; have HQ1 := Lib.hid hq1; have HA1 := Lib.hid hA1; clear hq1 hA1)
      | (go_at_call 43; refine (fail_any q _ _ 4 _ (by exact HQ1.out)).mono ?_; rintro e w2 ⟨rfl, rfl⟩))
    have R := qobj_fail (e := 4) HQ1.out HA1.out hn1 (Moved.refl w1 [q]) (by omega)
    go_ret
    exact ⟨by rw [HS.out]; rfl, by rw [HS.out]; exact R.1, hM1.trans R.2 (fun k hk => .inl hk)⟩
  · have HS : Hid (st.mark = (decide (st.uint.1 = 1), st.uint.2)) := by show _ = _; rw [St.mark, ← HE.out, if_neg h1]
    by_cases hv1 : v = 1
    · obtain rfl := hv1
      go_enter Try.func31, Try.ntmps31
      go_wp2_with (first
        | (go_at_call 29; refine (quint_any q A c xs st _ hQ HB.out hlen).mono ?_; rintro e w1 ⟨rfl, hQ1, hM1⟩; rw [← HE.out]))
      go_ret
      exact ⟨by rw [HS.out, ← HE.out]; rfl, by rw [HS.out]; exact hQ1, hM1⟩
    · obtain rfl : v = 0 := by omega
      go_enter Try.func31, Try.ntmps31
      go_wp2_with (first
        | (go_at_call 29; refine (quint_any q A c xs st _ hQ HB.out hlen).mono ?_; rintro e w1 ⟨rfl, hQ1, hM1⟩; rw [← HE.out]))
      go_ret
      exact ⟨by rw [HS.out, ← HE.out]; rfl, by rw [HS.out]; exact hQ1, hM1⟩
set_option maxRecDepth 100000 in
set_option maxHeartbeats 1000000 in
theorem qdone_any (q : Nat) (A : Option Addr) (c : Nat) (xs : List Int) (st : St) (w : World) (hQ : QObj w q A c xs st) :
    Calls Try.prog 13 #[.pointer (some ⟨q, 0, none⟩)] w fun r w' => r = .returned (.int .i64 st.done) ∧ ∃ n, w' = w.drewN n := by
  obtain ⟨at_, e, hq, hA, hnq, hst⟩ := hQ
  have c0 := cell_at hq 0 (v := .slice A xs.length c) rfl
  have c1 := cell_at hq 1 (v := .int .i64 at_) rfl
  have c2 := cell_at hq 2 (v := .int .i64 e) rfl
  have HQ := Lib.hid hq
  clear hq hA hnq
  cases st with
  | bad e' =>
    obtain ⟨rfl, he⟩ := hst
    have he2 : (e == 0) = false := by simpa using he
    go_enter Try.func13, Try.ntmps13
    go_wp2
    go_quiet (fail)
    go_wp2
    go_ret
    exact ⟨rfl, _, rfl⟩
  | ok bs =>
    obtain ⟨rfl, k, rfl, hk, rfl⟩ := hst
    by_cases hlt : k < xs.length
    · go_enter Try.func13, Try.ntmps13
      go_wp2
      go_quiet (fail)
      go_wp2
      go_ret
      exact ⟨by rw [List.drop_eq_getElem_cons hlt]; rfl, _, rfl⟩
    · go_enter Try.func13, Try.ntmps13
      go_wp2
      go_quiet (fail)
      go_wp2
      go_ret
      exact ⟨by rw [List.drop_of_length_le (by omega)]; rfl, _, rfl⟩
end Pk
end Go.Proofs.Ytgifinilgieonaa
