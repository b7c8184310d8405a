/-
  CONTRACTS of (*pack.Reader).Int, Mark, Done, and pack.unfolded.
-/
import Derived.Test.YtgifinilgieonaaPackRObj
import Derived.Deep.QuietTactic
import Derived.BigQuiet
import Derived.Laws.DeepNot64
namespace Go.Proofs.Ytgifinilgieonaa
namespace Pk
open Go.RowKit
theorem robj_bound {w : World} {p : Nat} {fp : List Nat} {st : St} (h : RObj w p fp st) : st.uint.1 < 18446744073709551616 := by
  refine uint_bound fun bs e x hx => ?_
  subst e
  obtain ⟨_, s, _, _, _, _, rfl⟩ := h
  exact nums_bytes s x hx
theorem zig_yes {v : Nat} (h : v < 18446744073709551616) (h2 : v % 2 = 1) : bits BinOp.xor IntKind.i64 (-1) (wrap64 ((v : Int) / 2)) = unzig v := by
  rw [show ((v : Int) / 2) = ((v / 2 : Nat) : Int) by omega, wrap64_small (by omega) (by omega), i64_not _ (by omega), unzig, if_neg (by omega)]
  omega
theorem zig_no {v : Nat} (h : v < 18446744073709551616) (h2 : ¬ v % 2 = 1) : wrap64 ((v : Int) / 2) = unzig v := by
  rw [show ((v : Int) / 2) = ((v / 2 : Nat) : Int) by omega, wrap64_small (by omega) (by omega), unzig, if_pos (by omega)]
set_option maxRecDepth 100000 in
theorem unfolded_any (v : Nat) (w : World) (hv : v < 18446744073709551616) :
    Calls Try.prog 38 #[.int .u64 v] w fun r w' => r = .returned (.int .i64 (unzig v)) ∧ w = w' := by
  have HV := Lib.hid hv
  clear hv
  by_cases h2 : v % 2 = 1
  · go_enter Try.func38, Try.ntmps38
    go_wp2
    go_ret
    exact ⟨ret_i64 (zig_yes HV.out h2), rfl⟩
  · have hd : ((v : Int) % 2 == 1) = false := by simp; omega
    go_enter Try.func38, Try.ntmps38
    go_wp2
    go_ret
    exact ⟨ret_i64 (zig_no HV.out h2), rfl⟩
set_option maxRecDepth 100000 in
set_option maxHeartbeats 1000000 in
theorem rint_any (p : Nat) (fp : List Nat) (st : St) (w : World) (hR : RObj w p fp st) :
    Calls Try.prog 19 #[.pointer (some ⟨p, 0, none⟩)] w (Goes RObj p fp st.int.2 (.int .i64 st.int.1) w) := by
  have HB := Lib.hid (robj_bound hR)
  have HR := Lib.hid hR
  clear hR
  go_enter Try.func19, Try.ntmps19
  go_wp2_with (first
    | (go_at_call 17; refine (ruint_any p fp st _ HR.out).mono ?_; rintro e1 w1 ⟨rfl, fp1, hR1, hS1⟩; have HR1 := Lib.hid hR1; have HS1 := Lib.hid hS1; clear hR1 hS1)
    | (go_at_call 38; refine (unfolded_any _ _ HB.out).mono ?_; rintro e1 w1 ⟨rfl, rfl⟩))
  go_ret
  exact ⟨rfl, fp1, HR1.out, HS1.out⟩
theorem mark_pos {st : St} {v : Nat} (hv : v = st.uint.1) (h : 1 < v) : ∃ bs, st.uint.2 = .ok bs := by
  subst hv
  rcases uint_split st with ⟨e, hu⟩ | ⟨n, bs, hu⟩
  · rw [hu] at h; simp at h
  · exact ⟨bs, by rw [hu]⟩
set_option maxRecDepth 100000 in
set_option maxHeartbeats 1000000 in
theorem rmark_any (p : Nat) (fp : List Nat) (st : St) (w : World) (hR : RObj w p fp st) :
    Calls Try.prog 21 #[.pointer (some ⟨p, 0, none⟩)] w (Goes RObj p fp st.mark.2 (.bool st.mark.1) w) := by
  have HR := Lib.hid hR
  clear hR
  obtain ⟨v, hv1⟩ : ∃ v, v = st.uint.1 := ⟨_, rfl⟩
  have HE := Lib.hid hv1
  clear hv1
  by_cases h1 : 1 < v
  · have HS : Hid (st.mark = (false, .bad 4)) := by show _ = _; rw [St.mark, ← HE.out, if_pos h1]
    have HX := Lib.hid (mark_pos HE.out h1)
    go_enter Try.func21, Try.ntmps21
    go_wp2_with (first
      | (go_at_call 17; refine (ruint_any p fp st _ HR.out).mono ?_; rintro e1 w1 ⟨rfl, fp1, hR1, hS1⟩; rw [← HE.out]; obtain ⟨bs, hb⟩ := HX.out; rw [hb] at hR1; obtain ⟨rfl, s1, e1, hp1, hs1, rfl, -⟩ := hR1; have HP1 := Lib.hid hp1; have HS1 := Lib.hid hS1; clear hp1 hS1 hs1 hb)
      | (go_at_call 36; refine (rfail_new p _ 4 _ HP1.out (by omega)).mono ?_; rintro e2 w2 ⟨rfl, hR2, hS2⟩; have HR2 := Lib.hid hR2; have HS2 := Lib.hid (HS1.out.trans hS2); clear hR2 hS2))
    go_ret
    exact ⟨by rw [HS.out]; rfl, [p], by rw [HS.out]; exact HR2.out, HS2.out⟩
  · have HS : Hid (st.mark = (decide (st.uint.1 = 1), st.uint.2)) := by show _ = _; rw [St.mark, ← HE.out, if_neg h1]
    by_cases hv1 : v = 1
    · obtain rfl := hv1
      go_enter Try.func21, Try.ntmps21
      go_wp2_with (first
        | (go_at_call 17; refine (ruint_any p fp st _ HR.out).mono ?_; rintro e1 w1 ⟨rfl, fp1, hR1, hS1⟩; rw [← HE.out]; have HR1 := Lib.hid hR1; have HS1 := Lib.hid hS1; clear hR1 hS1))
      go_ret
      exact ⟨by rw [HS.out, ← HE.out]; rfl, fp1, by rw [HS.out]; exact HR1.out, HS1.out⟩
    · obtain rfl : v = 0 := by omega
      go_enter Try.func21, Try.ntmps21
      go_wp2_with (first
        | (go_at_call 17; refine (ruint_any p fp st _ HR.out).mono ?_; rintro e1 w1 ⟨rfl, fp1, hR1, hS1⟩; rw [← HE.out]; have HR1 := Lib.hid hR1; have HS1 := Lib.hid hS1; clear hR1 hS1))
      go_ret
      exact ⟨by rw [HS.out, ← HE.out]; rfl, fp1, by rw [HS.out]; exact HR1.out, HS1.out⟩
theorem done_some {s : ByteArray} (h : 0 < s.size) : (St.ok (nums s)).done = 4 := by
  have := nums_len s
  cases hn : nums s with
  | nil => rw [hn] at this; simp at this; omega
  | cons x r => rfl
set_option maxRecDepth 100000 in
set_option maxHeartbeats 1000000 in
theorem rdone_any (p : Nat) (fp : List Nat) (st : St) (w : World) (hR : RObj w p fp st) :
    Calls Try.prog 12 #[.pointer (some ⟨p, 0, none⟩)] w (Goes RObj p fp st (.int .i64 st.done) w) := by
  have HR := Lib.hid hR
  obtain ⟨rfl, s, e, hp, hs, hst⟩ := hR
  have c0 := cell_at hp 0 (v := .string s) rfl
  have c1 := cell_at hp 1 (v := .int .i64 e) rfl
  clear hp
  cases st with
  | bad e' =>
    obtain ⟨rfl, he, rfl⟩ := hst
    have hd : (e == 0) = false := by simpa using he
    clear he
    go_enter Try.func12, Try.ntmps12
    go_wp2
    go_ret
    exact ⟨rfl, _, HR.out, Step.refl _ _⟩
  | ok bs =>
    obtain ⟨rfl, rfl⟩ := hst
    by_cases hz : s.size = 0
    · obtain rfl : s = ByteArray.empty := ByteArray.ext (Array.eq_empty_of_size_eq_zero hz)
      go_enter Try.func12, Try.ntmps12
      go_wp2
      go_ret
      exact ⟨rfl, _, HR.out, Step.refl _ _⟩
    · have HD := Lib.hid (done_some (s := s) (by omega))
      have hE : s.toList.isEmpty = false := by
        rw [ByteArray.toList_eq]
        cases h : s.data.toList with
        | nil => exact absurd (by have := congrArg List.length h; simpa using this) hz
        | cons x r => rfl
      go_enter Try.func12, Try.ntmps12
      go_wp2
      go_ret
      exact ⟨by rw [HD.out]; rfl, _, HR.out, Step.refl _ _⟩
end Pk
end Go.Proofs.Ytgifinilgieonaa
