/-
  CONTRACTS of the library's cmp.isNaN and cmp.Compare over ints; of rank.rightSum, rank.right, rank.Decayed.
-/
import Derived.Test.YtpaklljcbmimfaaRankLaws
import Derived.Test.YtpaklljcbmimfaaTickRight
import Derived.Deep.LoopGhost
import Derived.Lib.MinMax
namespace Go.Proofs.Ytpaklljcbmimfaa
namespace Rk
open Go.RowKit
def cmpN (x y : Int) : Int := if x < y then -1 else if y < x then 1 else 0
theorem isNaN_any (x : Int) (w : World) : Calls Try.prog 21 #[.int .i64 x] w fun e w' => e = .returned (.bool false) ∧ w = w' := by
  go_enter Try.func21, Try.ntmps21
  go_wp2
  go_ret
  exact ⟨rfl, rfl⟩
theorem compare_any (x y : Int) (w : World) : Calls Try.prog 17 #[.int .i64 x, .int .i64 y] w fun e w' => e = .returned (.int .i64 (cmpN x y)) ∧ w = w' := by
  unfold cmpN
  rcases (by omega : x < y ∨ y < x ∨ x = y) with h | h | h
  case' inl => rw [if_pos h]
  case' inr.inl => rw [if_neg (by omega), if_pos h]
  case' inr.inr => rw [if_neg (by omega), if_neg (by omega)]
  case' inr.inr => subst h
  all_goals
    go_enter Try.func17, Try.ntmps17
    go_wp2_with fail
    refine (isNaN_any _ _).mono ?_
    rintro e w' ⟨rfl, rfl⟩
    go_wp2_with fail
    refine (isNaN_any _ _).mono ?_
    rintro e w' ⟨rfl, rfl⟩
    go_wp2
    go_ret
    exact ⟨rfl, rfl⟩
def sumB (s : Int) : Bool := decide (0 ≤ s) && decide (s ≤ 1152921504606846976)
theorem sum_yes {s : Int} (h0 : 0 ≤ s) (h1 : s ≤ 1152921504606846976) : sumB s = true := by unfold sumB; simp [h0, h1]
theorem sum_fits {s : Int} (h : sumB s = true) : 0 ≤ s ∧ s ≤ 1152921504606846976 := by unfold sumB at h; simpa using h
theorem rightSum_any (s : Int) (w : World) : Calls Try.prog 8 #[.int .i64 s] w fun e w' => e = .returned (.bool (sumB s)) ∧ w = w' := by
  by_cases h1 : 0 ≤ s
  · by_cases h2 : s ≤ 1152921504606846976
    · have H := Lib.hid (sum_yes h1 h2)
      go_enter Try.func8, Try.ntmps8
      go_wp2
      go_ret
      exact ⟨by rw [H.out]; rfl, rfl⟩
    · have H := Lib.hid (show sumB s = false by unfold sumB; simp [h1, h2])
      go_enter Try.func8, Try.ntmps8
      go_wp2
      go_ret
      exact ⟨by rw [H.out]; rfl, rfl⟩
  · have H := Lib.hid (show sumB s = false by unfold sumB; simp [h1])
    go_enter Try.func8, Try.ntmps8
    go_wp2
    go_ret
    exact ⟨by rw [H.out]; rfl, rfl⟩
set_option maxRecDepth 100000 in
set_option maxHeartbeats 2000000 in
theorem right_any (A : Option Addr) (n c : Nat) (l : List U) (w : World) (hn : l.length = n) (hA : Row w A l) (hl : Right l) : Calls Try.prog 7 #[.slice A n c] w fun e w' => e = .returned (.bool true) ∧ Moved w w' [] := by
  have hlen := hl.len
  have HA := Lib.hid hA
  have HL := Lib.hid hl
  subst hn
  obtain ⟨n, hn⟩ : ∃ n, n = l.length := ⟨_, rfl⟩
  rw [← hn] at hlen ⊢
  have HN := Lib.hid hn
  clear hA hl hn
  go_enter Try.func7, Try.ntmps7
  go_wp2
  go_loopw [3, 8] (fun a i wr => ∃ (k : Nat) (z : Int), a = .int .i64 z ∧ i = .int .i64 k ∧ k ≤ n ∧ Hid (Rises z (l.drop k)) ∧ Hid (Moved w wr [])) (fun _ i _ => n - (intOf i).toNat)
  case atStart => exact ⟨0, -1, rfl, rfl, by omega, HL.out, Moved.refl w []⟩
  case round =>
    obtain ⟨k, z, rfl, rfl, hk, HZ, HM⟩ := hrel
    by_cases hlt : k < n
    · have hkl : k < l.length := by have := HN.out; omega
      obtain ⟨x, hx⟩ : ∃ x, l[k]? = some x := ⟨l[k], List.getElem?_eq_getElem hkl⟩
      have hd : l.drop k = x :: l.drop (k + 1) := by rw [List.drop_eq_getElem_cons hkl]; congr 1; exact (List.getElem?_eq_some_iff.1 hx).2
      have hz := HZ.out
      rw [hd] at hz
      obtain ⟨h1, h2, h3, h4, h5, h6, h7⟩ := hz
      obtain ⟨g, off, rfl, c1, c2, c3⟩ := (HA.out.still HM.out) k x hx
      have H7 := Lib.hid h7
      have HT := Lib.hid (Tk.rB_yes h5 h6)
      have HS := Lib.hid (sum_yes h3 h4)
      obtain ⟨a, ha⟩ : ∃ a, a = x.u := ⟨_, rfl⟩
      obtain ⟨b, hb⟩ : ∃ b, b = x.s := ⟨_, rfl⟩
      obtain ⟨e, he⟩ : ∃ e, e = x.t := ⟨_, rfl⟩
      rw [← ha] at c1 h1 h2 H7
      rw [← hb] at c2 h3 h4 HS
      rw [← he] at c3 HT
      have D1 : decide (a ≤ z) = false := decide_eq_false (by omega)
      have D2 : decide (16 ≤ a) = false := decide_eq_false (by omega)
      have z1 : (k : Int) < (n : Int) := by omega
      have HMA := Lib.hid (HM.out.alloc (.cells #[.int .i64 a, .int .i64 b, .int .i64 e] 27))
      clear hx hd hkl ha hb he h3 h4 h5 h6 h7 HZ
      go_wp2_with fail
      refine (rightSum_any _ _).mono ?_
      rw [HS.out]
      rintro r w' ⟨rfl, rfl⟩
      go_wp2_with fail
      refine (Tk.right_any _ _).mono ?_
      rw [HT.out]
      rintro r w' ⟨rfl, rfl⟩
      go_wp2
      go_round
      case rel => exact ⟨k + 1, a, rfl, by go_num, by omega, H7.out, HMA.out⟩
      case measure => simp [intOf]; omega
    · go_wp2
      go_ret
      exact ⟨rfl, HM.out⟩
end Rk
end Go.Proofs.Ytpaklljcbmimfaa
