/-
  CONTRACTS of slices.BinarySearchFunc at rank's own question, of rank.place and rank.Decayed.
-/
import Derived.Test.YtpaklljcbmimfaaRankOrder
namespace Go.Proofs.Ytpaklljcbmimfaa
namespace Rk
open Go.RowKit
theorem cmp_below (x y : Int) : cmpN x y < 0 ↔ x < y := by
  unfold cmpN
  repeat' split
  all_goals omega
theorem cmp_same (x y : Int) : cmpN x y = 0 ↔ x = y := by
  unfold cmpN
  repeat' split
  all_goals omega
/-- Where a user stands: the first of l that is not ahead of it. -/
theorem lo_at {a : Int} (n : Int) : ∀ {l : List U} {k : Nat} {x : U}, Rises a l → l[k]? = some x → (x.u < n ↔ k < (lo l n).length)
  | [], k, x, _, h => by simp at h
  | y :: r, k, x, hr, h => by
    have h2 := hr.2.2.2.2.2.2
    by_cases h1 : y.u < n
    · have a1 : lo (y :: r) n = y :: lo r n := by simp [lo, h1]
      rw [a1]
      rcases k with _ | k
      · simp at h; subst h; simp [h1]
      · have := lo_at n (k := k) (x := x) h2 (by simpa using h)
        rw [this]; simp
    · have a1 : lo (y :: r) n = lo r n := by simp [lo, h1]
      rw [a1, lo_none h2 (by omega)]
      rcases k with _ | k
      · simp at h; subst h; simp; omega
      · have := h2.above x (List.mem_of_getElem? (i := k) (by simpa using h))
        simp; omega
theorem lo_le (l : List U) (n : Int) : (lo l n).length ≤ l.length := List.length_filter_le _ _
/-- Is the user there? -/
def has (l : List U) (n : Int) : Bool := decide (0 < (own l n).length)
theorem asks_any (x : U) (n : Int) (w : World) : Calls Try.prog 16 #[.agg #[.int .i64 x.u, .int .i64 x.s, .int .i64 x.t], .int .i64 n] w fun e w' => e = .returned (.int .i64 (cmpN x.u n)) ∧ Moved w w' [] := by
  have HM := Lib.hid ((Moved.refl w []).alloc (.cells #[.int .i64 x.u, .int .i64 x.s, .int .i64 x.t] 27))
  go_enter Try.func16, Try.ntmps16
  go_wp2_with fail
  refine (compare_any _ _ _).mono ?_
  rintro r w' ⟨rfl, rfl⟩
  go_wp2
  go_ret
  exact ⟨rfl, HM.out⟩
set_option maxRecDepth 100000 in
set_option maxHeartbeats 2000000 in
theorem search_any (A : Option Addr) (n c : Nat) (l : List U) (u : Int) (m : Nat) (w : World) (hn : l.length = n) (hl : n ≤ 16) (hA : Row w A l) (hm : m ≤ n) (hq : ∀ k x, l[k]? = some x → (x.u < u ↔ k < m)) (b : Bool) (hb : b = true ↔ ∃ x, l[m]? = some x ∧ x.u = u) :
    Calls Try.prog 15 #[.slice A n c, .int .i64 u, .func (.func 16) #[] #[]] w fun e w' => e = .returned (.tuple #[.int .i64 m, .bool b]) ∧ Moved w w' [] := by
  have HA := Lib.hid hA
  have HN := Lib.hid hn
  have HQ := Lib.hid hq
  have HB := Lib.hid hb
  clear hA hn hq hb
  go_enter Try.func15, Try.ntmps15
  go_wp2
  go_loopw [9, 10] (fun x y wr => ∃ i j : Nat, x = .int .i64 i ∧ y = .int .i64 j ∧ i ≤ m ∧ m ≤ j ∧ j ≤ n ∧ Hid (Moved w wr [])) (fun x y _ => (intOf y).toNat - (intOf x).toNat)
  case atStart => exact ⟨0, n, rfl, rfl, by omega, by omega, by omega, Moved.refl w []⟩
  case round =>
    obtain ⟨i, j, rfl, rfl, hi, hj, hjn, HM⟩ := hrel
    by_cases hlt : i < j
    · obtain ⟨h, hh⟩ : ∃ h, h = (i + j) / 2 := ⟨_, rfl⟩
      have hh1 : h < j := by omega
      have hh2 : i ≤ h := by omega
      have e1 : IntKind.i64.wrap ((i : Int) + (j : Int)) = ((i + j : Nat) : Int) := by rw [IntWalk.i64_in _ (by omega)]; omega
      obtain ⟨x, hx⟩ : ∃ x, l[h]? = some x := ⟨l[h]'(by have := HN.out; omega), List.getElem?_eq_getElem _⟩
      have hd : x.u < u ↔ h < m := HQ.out h x hx
      obtain ⟨g, off, rfl, c1, c2, c3⟩ := (HA.out.still HM.out) h x hx
      have HC := Lib.hid (fun W => asks_any x u W)
      obtain ⟨a, ha⟩ : ∃ a, a = x.u := ⟨_, rfl⟩
      obtain ⟨b2, hb2⟩ : ∃ b, b = x.s := ⟨_, rfl⟩
      obtain ⟨e, he⟩ : ∃ e, e = x.t := ⟨_, rfl⟩
      rw [← ha] at c1 hd HC
      rw [← hb2] at c2 HC
      rw [← he] at c3 HC
      have eh : (h : Int) = ((i : Int) + (j : Int)) / 2 := by omega
      rw [hh] at c1 c2 c3
      by_cases hcm : h < m
      · have hlt2 : cmpN a u < 0 := (cmp_below a u).2 (hd.2 hcm)
        obtain ⟨q, hq⟩ : ∃ q, q = cmpN a u := ⟨_, rfl⟩
        rw [← hq] at hlt2 HC
        clear hx ha hb2 he hd hq
        go_wp2_with fail
        refine (HC.out _).mono ?_
        rintro r w2 ⟨rfl, hm2⟩
        have HM2 := Lib.hid (HM.out.trans hm2 (fun _ h => by cases h))
        clear hm2
        go_wp2
        go_round
        case rel => exact ⟨h + 1, j, by rw [← eh]; rfl, rfl, by omega, by omega, by omega, HM2.out⟩
        case measure => simp [intOf]; omega
      · have hlt2 : ¬ cmpN a u < 0 := fun hx => hcm (hd.1 ((cmp_below a u).1 hx))
        obtain ⟨q, hq⟩ : ∃ q, q = cmpN a u := ⟨_, rfl⟩
        rw [← hq] at hlt2 HC
        clear hx ha hb2 he hd hq
        go_wp2_with fail
        refine (HC.out _).mono ?_
        rintro r w2 ⟨rfl, hm2⟩
        have HM2 := Lib.hid (HM.out.trans hm2 (fun _ h => by cases h))
        clear hm2
        go_wp2
        go_round
        case rel => exact ⟨i, h, rfl, by rw [← eh], by omega, by omega, by omega, HM2.out⟩
        case measure => simp [intOf]; omega
    · obtain rfl : i = m := by omega
      by_cases hin : i < n
      · obtain ⟨x, hx⟩ : ∃ x, l[i]? = some x := ⟨l[i]'(by have := HN.out; omega), List.getElem?_eq_getElem _⟩
        obtain ⟨g, off, rfl, c1, c2, c3⟩ := (HA.out.still HM.out) i x hx
        have HC := Lib.hid (fun W => asks_any x u W)
        have HBX : Hid (b = decide (cmpN x.u u = 0)) := by
          show _ = _
          have h1 := HB.out
          rw [hx] at h1
          rw [Bool.eq_iff_iff, h1, decide_eq_true_iff, cmp_same]
          simp
        obtain ⟨a, ha⟩ : ∃ a, a = x.u := ⟨_, rfl⟩
        obtain ⟨b2, hb2⟩ : ∃ b, b = x.s := ⟨_, rfl⟩
        obtain ⟨e, he⟩ : ∃ e, e = x.t := ⟨_, rfl⟩
        rw [← ha] at c1 HC HBX
        rw [← hb2] at c2 HC
        rw [← he] at c3 HC
        obtain ⟨q, hq⟩ : ∃ q, q = cmpN a u := ⟨_, rfl⟩
        rw [← hq] at HC HBX
        clear hx ha hb2 he hq
        have hin2 : (i : Int) < (n : Int) := by omega
        go_wp2_with fail
        refine (HC.out _).mono ?_
        rintro r w2 ⟨rfl, hm2⟩
        have HM2 := Lib.hid (HM.out.trans hm2 (fun _ h => by cases h))
        clear hm2
        go_wp2
        go_ret2
        exact ⟨by rw [HBX.out]; rfl, HM2.out⟩
      · have HBX : Hid (b = false) := by
          show _ = _
          have h1 := HB.out
          rw [List.getElem?_eq_none (by have := HN.out; omega)] at h1
          simpa using h1
        go_wp2
        go_ret2
        exact ⟨by rw [HBX.out]; rfl, HM.out⟩
end Rk
end Go.Proofs.Ytpaklljcbmimfaa
