/-
  CONTRACTS of rank.Charge over right uses, and of rank.Of at the statement's own wakes: all that hanselaw11's RankCharges asks.
-/
import Derived.Test.YtpaklljcbmimfaaRankDecayed
import Derived.Test.YtpaklljcbmimfaaRankConcat
namespace Go.Proofs.Ytpaklljcbmimfaa
namespace Rk
open Go.RowKit
theorem age_wakes (w : World) : Calls Try.prog 19 #[.int .i64 5, .int .i64 15] w fun e w' => e = .returned (.int .i64 10) ∧ w = w' := by
  have HT := Lib.hid (show Tk.rB 5 = true by decide)
  have HT2 := Lib.hid (show Tk.rB 15 = true by decide)
  go_enter Try.func19, Try.ntmps19
  go_wp2_with fail
  refine (Tk.right_any _ _).mono ?_
  rw [HT.out]
  rintro r w' ⟨rfl, rfl⟩
  go_wp2_with fail
  refine (Tk.right_any _ _).mono ?_
  rw [HT2.out]
  rintro r w' ⟨rfl, rfl⟩
  go_wp2
  go_ret
  exact ⟨rfl, rfl⟩
theorem share_none (t : Int) (w : World) : Calls Try.prog 20 #[.int .i64 0, .slice none 0 0, .int .i64 t] w fun e w' => e = .returned (.int .i64 0) ∧ Moved w w' [] := by
  have HR : ∀ W, Row W none [] := fun W k x h => by simp at h
  have H1 := Lib.hid (fun W => right_any none 0 0 [] W rfl (HR W) trivial)
  have H2 := Lib.hid (fun W => place_any none 0 0 [] 0 W rfl (HR W) trivial)
  clear HR
  go_enter Try.func20, Try.ntmps20
  go_wp2_with fail
  refine (H1.out _).mono ?_
  rintro r w1 ⟨rfl, h⟩
  have HM := Lib.hid h
  clear h
  go_wp2_with fail
  refine (H2.out _).mono ?_
  rintro r w2 ⟨rfl, h⟩
  have HM2 := Lib.hid (HM.out.trans h (fun _ h => by cases h))
  clear h
  go_wp2
  go_ret
  exact ⟨rfl, HM2.out⟩
/-- The copy that the statement asks about. -/
def copyW : Value := .agg #[.int .i64 0, .int .i64 0, .int .i64 0, .complex .f64 0 0, .int .i64 0, .int .i64 0, .int .i64 2, .int .i64 0, .slice none 0 0, .bool false, .int .i64 0, .int .i64 5, .int .i64 0, .int .i64 0, .int .i64 0, .int .i64 0, .int .i64 0]
set_option maxRecDepth 100000 in
set_option maxHeartbeats 2000000 in
theorem of_any (w : World) : Calls Try.prog 14 #[copyW, .slice none 0 0, .int .i64 15] w fun e w' => e = .returned (.int .i64 8202) ∧ Moved w w' [] := by
  unfold copyW
  go_enter Try.func14, Try.ntmps14
  go_wp2_with fail
  obtain ⟨W, hW⟩ : ∃ W, W = w.alloc (.cells #[.int .i64 0, .int .i64 0, .int .i64 0, .complex .f64 0 0, .int .i64 0, .int .i64 0, .int .i64 2, .int .i64 0, .slice none 0 0, .bool false, .int .i64 0, .int .i64 5, .int .i64 0, .int .i64 0, .int .i64 0, .int .i64 0, .int .i64 0] 45) := ⟨_, rfl⟩
  rw [← hW]
  have hb : W.heap[w.heap.size]? = some (.cells #[.int .i64 0, .int .i64 0, .int .i64 0, .complex .f64 0 0, .int .i64 0, .int .i64 0, .int .i64 2, .int .i64 0, .slice none 0 0, .bool false, .int .i64 0, .int .i64 5, .int .i64 0, .int .i64 0, .int .i64 0, .int .i64 0, .int .i64 0] 45 (0, 0)) := by rw [hW]; exact heap_alloc_new w _
  have HM : Hid (Moved w W []) := by rw [hW]; exact (Moved.refl w []).alloc _
  have c0 := cell_at hb 2 rfl
  have c1 := cell_at hb 11 rfl
  clear hW hb
  go_region_held3 (fun w' => w'.cell? ⟨w.heap.size, 2, none⟩ = some (.int .i64 0) ∧ w'.cell? ⟨w.heap.size, 11, none⟩ = some (.int .i64 5)) (go_keep) (first
    | (go_at_call 19; refine (age_wakes _).mono ?_; rintro e w' ⟨rfl, rfl⟩)
    | (go_at_call 20; refine (share_none _ _).mono ?_; rintro e w' ⟨rfl, hm⟩; have q0 := cell_same (w := W.drew) hm c0; have q1 := cell_same (w := W.drew) hm c1; have HM2 := Lib.hid (HM.out.drew.trans hm (fun _ h => by cases h)); clear hm))
  go_wp2
  go_ret
  exact ⟨rfl, HM2.out⟩
set_option maxRecDepth 100000 in
set_option maxHeartbeats 2000000 in
theorem wakes_any (w : World) : Calls Try.prog 6 #[] w fun e w' => e = .returned (.bool true) ∧ Moved w w' [] := by
  have H := Lib.hid (fun W => of_any W)
  unfold copyW at H
  go_enter Try.func6, Try.ntmps6
  go_wp2_with fail
  refine (H.out _).mono ?_
  rintro r w' ⟨rfl, h⟩
  have HM := Lib.hid h
  clear h
  go_wp2
  go_ret
  exact ⟨rfl, HM.out⟩
/-- A use that stands in right uses is right by itself. -/
theorem right_at {a : Int} : ∀ {l : List U} {k : Nat} {x : U}, Rises a l → -1 ≤ a → l[k]? = some x → Rises (-1) [x]
  | [], k, x, _, _, h => by simp at h
  | y :: r, k, x, hr, ha, h => by
    have h1 := hr.1
    rcases k with _ | k
    · simp at h; subst h; exact ⟨by omega, hr.2.1, hr.2.2.1, hr.2.2.2.1, hr.2.2.2.2.1, hr.2.2.2.2.2.1, trivial⟩
    · exact right_at hr.2.2.2.2.2.2 (by omega) (by simpa using h)
theorem lo_take {a : Int} (n : Int) {l : List U} (h : Rises a l) : l.take (lo l n).length = lo l n := by
  obtain ⟨h1, -⟩ := parts n h
  rw [List.append_assoc] at h1
  have h2 := congrArg (fun z : List U => z.take (lo l n).length) h1
  simp only [List.take_left] at h2
  exact h2
theorem hi_drop {a : Int} (n : Int) {l : List U} (h : Rises a l) : l.drop ((lo l n).length + (own l n).length) = hi l n := by
  obtain ⟨h1, -⟩ := parts n h
  have h2 := congrArg (fun z : List U => z.drop ((lo l n).length + (own l n).length)) h1
  simp only [← List.length_append, List.drop_left] at h2 ⊢
  exact h2
theorem Row.take {w : World} {A : Option Addr} {l : List U} (h : Row w A l) (p : Nat) : Row w A (l.take p) := by
  intro k x hx
  rw [List.getElem?_take] at hx
  split at hx
  · exact h k x hx
  · cases hx
theorem Row.drop {w : World} {ad : Addr} {l : List U} (h : Row w (some ad) l) (q : Nat) : Row w (some (ad.add (q * 3))) (l.drop q) := by
  intro k x hx
  rw [List.getElem?_drop] at hx
  obtain ⟨g, off, e, c1, c2, c3⟩ := h (q + k) x hx
  injection e with e
  subst e
  refine ⟨g, off + q * 3, by rw [add_none_], ?_⟩
  rw [show off + q * 3 + k * 3 = off + (q + k) * 3 by omega]
  exact ⟨c1, c2, c3⟩
theorem Row.empty (w : World) (A : Option Addr) : Row w A [] := fun k x h => by simp at h
set_option maxRecDepth 100000 in
set_option maxHeartbeats 4000000 in
theorem charge_any (v : Value) (l : List U) (n s t : Int) (w : World) (hR : Reads w v l) (hl : Right l) : Calls Try.prog 4 #[v, .int .i64 n, .int .i64 s, .int .i64 t] w (Charged l n s t w) := by
  obtain ⟨A, c, rfl, hA, hlc, hcm, hA0⟩ := hR.is
  obtain ⟨m, hm⟩ : ∃ m, m = l.length := ⟨_, rfl⟩
  have HRT := Lib.hid (fun W (hW : Row W A l) => right_any A m c l W hm.symm hW hl)
  have HPL := Lib.hid (fun W (hW : Row W A l) => place_any A m c l n W hm.symm hW hl)
  have HA := Lib.hid hA
  have HL := Lib.hid hl
  have hm16 : m ≤ 16 := by rw [hm]; exact hl.len
  rw [← hm] at hlc ⊢
  have HN := Lib.hid hm
  clear hA hl hm hR
  by_cases n0 : 0 ≤ n
  case neg =>
    go_enter Try.func4, Try.ntmps4
    go_wp2_with fail
    refine (HRT.out _ HA.out).mono ?_
    rintro r w1 ⟨rfl, h⟩
    have HM1 := Lib.hid h
    clear h
    go_wp2
    go_ret2
    exact ⟨_, _, rfl, HM1.out, .inl ⟨by decide, none, 0, rfl⟩⟩
  by_cases n1 : n < 16
  case neg =>
    go_enter Try.func4, Try.ntmps4
    go_wp2_with fail
    refine (HRT.out _ HA.out).mono ?_
    rintro r w1 ⟨rfl, h⟩
    have HM1 := Lib.hid h
    clear h
    go_wp2
    go_ret2
    exact ⟨_, _, rfl, HM1.out, .inl ⟨by decide, none, 0, rfl⟩⟩
  by_cases hs : sumB s = true
  case neg =>
    have HS := Lib.hid (show sumB s = false by simpa using hs)
    clear hs
    go_enter Try.func4, Try.ntmps4
    go_wp2_with fail
    refine (HRT.out _ HA.out).mono ?_
    rintro r w1 ⟨rfl, h⟩
    have HM1 := Lib.hid h
    clear h
    go_wp2_with fail
    refine (rightSum_any _ _).mono ?_
    rw [HS.out]
    rintro r w' ⟨rfl, rfl⟩
    go_wp2
    go_ret2
    exact ⟨_, _, rfl, HM1.out, .inl ⟨by decide, none, 0, rfl⟩⟩
  by_cases ht : Tk.rB t = true
  case neg =>
    have HS := Lib.hid hs
    have HT := Lib.hid (show Tk.rB t = false by simpa using ht)
    clear hs ht
    go_enter Try.func4, Try.ntmps4
    go_wp2_with fail
    refine (HRT.out _ HA.out).mono ?_
    rintro r w1 ⟨rfl, h⟩
    have HM1 := Lib.hid h
    clear h
    go_wp2_with fail
    refine (rightSum_any _ _).mono ?_
    rw [HS.out]
    rintro r w' ⟨rfl, rfl⟩
    go_wp2_with fail
    refine (Tk.right_any _ _).mono ?_
    rw [HT.out]
    rintro r w' ⟨rfl, rfl⟩
    go_wp2
    go_ret2
    exact ⟨_, _, rfl, HM1.out, .inl ⟨by decide, none, 0, rfl⟩⟩
  have HS := Lib.hid hs
  have HT := Lib.hid ht
  obtain ⟨s0, s1⟩ := sum_fits hs
  have t0 := Tk.rB_lo ht
  have t1 := Tk.rB_hi ht
  clear hs ht
  obtain ⟨p, hp⟩ : ∃ p, p = (lo l n).length := ⟨_, rfl⟩
  have hpm : p ≤ m := by rw [hp, HN.out]; exact lo_le l n
  rw [← hp] at HPL
  have HP := Lib.hid hp
  clear hp
  have hpc : (p : Int) ≤ (c : Int) := by omega
  by_cases hh : has l n = true
  · have HH := Lib.hid hh
    rw [hh] at HPL
    clear hh
    go_enter Try.func4, Try.ntmps4
    go_wp2_with fail
    refine (HRT.out _ HA.out).mono ?_
    rintro r w1 ⟨rfl, h⟩
    have HM1 := Lib.hid h
    clear h
    go_wp2_with fail
    refine (rightSum_any _ _).mono ?_
    rw [HS.out]
    rintro r w' ⟨rfl, rfl⟩
    go_wp2_with fail
    refine (Tk.right_any _ _).mono ?_
    rw [HT.out]
    rintro r w' ⟨rfl, rfl⟩
    go_wp2_with fail
    refine (HPL.out _ (HA.out.still HM1.out)).mono ?_
    rintro r w2 ⟨rfl, h⟩
    have HM2 := Lib.hid (HM1.out.trans h (fun _ h => by cases h))
    clear h
    obtain ⟨x, hx, hxu⟩ := (has_iff n HL.out).1 HH.out
    rw [← HP.out] at hx
    have hpm2 : (p : Int) < (m : Int) := by have := (List.getElem?_eq_some_iff.1 hx).1; have := HN.out; omega
    obtain ⟨g, off, rfl, c1, c2, c3⟩ := (HA.out.still HM2.out) p x hx
    have HXR := Lib.hid (right_at HL.out (by omega) hx)
    have HD := Lib.hid (fun W => decayed_any x t W HXR.out t0 t1)
    obtain ⟨a, ha⟩ : ∃ a, a = x.u := ⟨_, rfl⟩
    obtain ⟨b, hb⟩ : ∃ b, b = x.s := ⟨_, rfl⟩
    obtain ⟨e, he⟩ : ∃ e, e = x.t := ⟨_, rfl⟩
    have b1 : b ≤ 1152921504606846976 := by rw [hb]; exact HXR.out.2.2.2.1
    rw [← ha] at c1 HD
    rw [← hb] at c2 HD
    rw [← he] at c3 HD
    have HX := Lib.hid hx
    clear hx ha hb he hxu
    go_wp2_with fail
    refine (HD.out _).mono ?_
    rintro r w3 ⟨D, rfl, d0, d1, h⟩
    have HM3 := Lib.hid (HM2.out.trans h (fun _ h => by cases h))
    clear h c1 c2 c3
    have HBND : Hid (s ≤ min (D + s) 1152921504606846976 ∧ min (D + s) 1152921504606846976 ≤ 1152921504606846976) := ⟨by omega, by omega⟩
    have HPUT : Hid (∀ S, l.take p ++ [⟨n, S, t⟩] ++ l.drop (p + 1) = put l ⟨n, S, t⟩) := by
      intro S
      have h1 := lo_take n HL.out
      have h2 := hi_drop n HL.out
      have h3 : (own l n).length = 1 := by have h4 := (parts n HL.out).2; have h5 := HH.out; unfold has at h5; simp at h5; omega
      rw [← HP.out, h3] at h2
      rw [← HP.out] at h1
      rw [h1, h2]; unfold put; simp
    go_wp2_with fail
    obtain ⟨S, hS⟩ : ∃ S, S = min (D + s) 1152921504606846976 := ⟨_, rfl⟩
    rw [← hS] at HBND ⊢
    clear hS
    obtain ⟨q, hq⟩ : ∃ q, q = p + 1 := ⟨_, rfl⟩
    rw [← hq] at HPUT
    have eq : (p : Int) + 1 = (q : Int) := by omega
    rw [eq]
    have HPUT := Lib.hid (HPUT.out S)
    have q1 : q ≤ m := by omega
    have q2 : (0 : Int) ≤ (q : Int) := by omega
    have q3 : (q : Int) ≤ (m : Int) := by omega
    clear hq eq
    obtain ⟨W, hW⟩ : ∃ W, W = w3.alloc (.cells #[.int .i64 n, .int .i64 S, .int .i64 t] 27) := ⟨_, rfl⟩
    rw [← hW]
    have HMW : Hid (Moved w W []) := by rw [hW]; exact HM3.out.alloc _
    have HR2 : Hid (Row W (some ⟨w3.heap.size, 0, none⟩) [⟨n, S, t⟩]) := by rw [hW]; exact row_one w3 ⟨n, S, t⟩ _
    obtain ⟨h, hh⟩ : ∃ h, h = w3.heap.size := ⟨_, rfl⟩
    rw [← hh] at HR2 ⊢
    clear hW hh
    have HR1 : Hid (Row W (some ⟨g, off, none⟩) (l.take p)) := (HA.out.still HMW.out).take p
    have hlt : (l.take p).length = p := by rw [List.length_take, ← HN.out]; omega
    have hld : (l.drop q).length = m - q := by rw [List.length_drop, ← HN.out]
    have HLT := Lib.hid hlt
    have HLD := Lib.hid hld
    clear hlt hld
    by_cases hcq : c = q
    · subst hcq
      have HLD : Hid ((l.drop c).length = 0) := by show _ = _; rw [HLD.out]; omega
      have HR3 : Hid (Row W (some ⟨g, off, none⟩) (l.drop c)) := by
        show Row _ _ _
        rw [List.drop_eq_nil_of_le (by have := HN.out; omega)]
        exact Row.empty _ _
      go_region_held3 (fun _ => True) (trivial) ((go_at_call 12; refine (concat_any _ _ _ _ _ _ _ _ _ _ _ (l.take p) [⟨n, S, t⟩] (l.drop c) _ (by exact HLT.out) (show _ = 1 from rfl) (by exact HLD.out) (by omega) (by exact HR1.out.still (((Moved.refl W []).alloc _).drew)) (by exact HR2.out.still (((Moved.refl W []).alloc _).drew)) (by exact HR3.out.still (((Moved.refl W []).alloc _).drew)) (by exact fun h => by cases h) (by exact fun h => by cases h) (by exact fun h => by cases h) (by exact cell_at (heap_alloc_new W _) 0 rfl) (by exact cell_at (heap_alloc_new W _) 1 rfl) (by exact cell_at (heap_alloc_new W _) 2 rfl)).mono ?_; rintro e w4 ⟨v4, rfl, hO, hSt⟩; have HO := Lib.hid hO; have HM4 := Lib.hid ((HMW.out.alloc _).drew.trans hSt.1 (fun _ h => by cases h)); clear hO hSt))
      go_wp2
      go_ret2
      exact ⟨_, _, rfl, HM4.out, .inr ⟨rfl, n0, n1, s0, t0, t1, S, HBND.out.1, HBND.out.2, by rw [← HPUT.out]; exact HO.out.reads⟩⟩
    · have HR3 : Hid (Row W (some ((⟨g, off, none⟩ : Addr).add (q * 3))) (l.drop q)) := (HA.out.still HMW.out).drop q
      rw [add_none_] at HR3
      go_region_held3 (fun _ => True) (trivial) ((go_at_call 12; refine (concat_any _ _ _ _ _ _ _ _ _ _ _ (l.take p) [⟨n, S, t⟩] (l.drop q) _ (by exact HLT.out) (show _ = 1 from rfl) (by exact HLD.out) (by omega) (by exact HR1.out.still (((Moved.refl W []).alloc _).drew)) (by exact HR2.out.still (((Moved.refl W []).alloc _).drew)) (by exact HR3.out.still (((Moved.refl W []).alloc _).drew)) (by exact fun h => by cases h) (by exact fun h => by cases h) (by exact fun h => by cases h) (by exact cell_at (heap_alloc_new W _) 0 rfl) (by exact cell_at (heap_alloc_new W _) 1 rfl) (by exact cell_at (heap_alloc_new W _) 2 rfl)).mono ?_; rintro e w4 ⟨v4, rfl, hO, hSt⟩; have HO := Lib.hid hO; have HM4 := Lib.hid ((HMW.out.alloc _).drew.trans hSt.1 (fun _ h => by cases h)); clear hO hSt))
      go_wp2
      go_ret2
      exact ⟨_, _, rfl, HM4.out, .inr ⟨rfl, n0, n1, s0, t0, t1, S, HBND.out.1, HBND.out.2, by rw [← HPUT.out]; exact HO.out.reads⟩⟩
  · have HH := Lib.hid (show has l n = false by simpa using hh)
    rw [HH.out] at HPL
    clear hh
    go_enter Try.func4, Try.ntmps4
    go_wp2_with fail
    refine (HRT.out _ HA.out).mono ?_
    rintro r w1 ⟨rfl, h⟩
    have HM1 := Lib.hid h
    clear h
    go_wp2_with fail
    refine (rightSum_any _ _).mono ?_
    rw [HS.out]
    rintro r w' ⟨rfl, rfl⟩
    go_wp2_with fail
    refine (Tk.right_any _ _).mono ?_
    rw [HT.out]
    rintro r w' ⟨rfl, rfl⟩
    go_wp2_with fail
    refine (HPL.out _ (HA.out.still HM1.out)).mono ?_
    rintro r w2 ⟨rfl, h⟩
    have HM2 := Lib.hid (HM1.out.trans h (fun _ h => by cases h))
    clear h
    have HPUT : Hid (l.take p ++ [⟨n, s, t⟩] ++ l.drop p = put l ⟨n, s, t⟩) := by
      show _ = _
      have h1 := lo_take n HL.out
      have h2 := hi_drop n HL.out
      have h3 : (own l n).length = 0 := by have h5 := HH.out; unfold has at h5; simpa using h5
      rw [← HP.out, h3] at h2
      rw [← HP.out] at h1
      rw [Nat.add_zero] at h2
      rw [h1, h2]; unfold put; simp
    have q3 : (p : Int) ≤ (m : Int) := by omega
    go_wp2_with fail
    obtain ⟨W, hW⟩ : ∃ W, W = w2.alloc (.cells #[.int .i64 n, .int .i64 s, .int .i64 t] 27) := ⟨_, rfl⟩
    rw [← hW]
    have HMW : Hid (Moved w W []) := by rw [hW]; exact HM2.out.alloc _
    have HR2 : Hid (Row W (some ⟨w2.heap.size, 0, none⟩) [⟨n, s, t⟩]) := by rw [hW]; exact row_one w2 ⟨n, s, t⟩ _
    obtain ⟨h, hh⟩ : ∃ h, h = w2.heap.size := ⟨_, rfl⟩
    rw [← hh] at HR2 ⊢
    clear hW hh
    have HR1 : Hid (Row W A (l.take p)) := (HA.out.still HMW.out).take p
    have hlt : (l.take p).length = p := by rw [List.length_take, ← HN.out]; omega
    have hld : (l.drop p).length = m - p := by rw [List.length_drop, ← HN.out]
    have HLT := Lib.hid hlt
    have HLD := Lib.hid hld
    clear hlt hld
    by_cases hcq : c = p
    · subst hcq
      have HLD : Hid ((l.drop c).length = 0) := by show _ = _; rw [HLD.out]; omega
      have HR3 : Hid (Row W A (l.drop c)) := by
        show Row _ _ _
        rw [List.drop_eq_nil_of_le (by have := HN.out; omega)]
        exact Row.empty _ _
      go_region_held3 (fun _ => True) (trivial) ((go_at_call 12; refine (concat_any _ _ _ _ _ _ _ _ _ _ _ (l.take c) [⟨n, s, t⟩] (l.drop c) _ (by exact HLT.out) (show _ = 1 from rfl) (by exact HLD.out) (by omega) (by exact HR1.out.still (((Moved.refl W []).alloc _).drew)) (by exact HR2.out.still (((Moved.refl W []).alloc _).drew)) (by exact HR3.out.still (((Moved.refl W []).alloc _).drew)) (by exact hA0) (by exact fun h => by cases h) (by exact fun _ => rfl) (by exact cell_at (heap_alloc_new W _) 0 rfl) (by exact cell_at (heap_alloc_new W _) 1 rfl) (by exact cell_at (heap_alloc_new W _) 2 rfl)).mono ?_; rintro e w4 ⟨v4, rfl, hO, hSt⟩; have HO := Lib.hid hO; have HM4 := Lib.hid ((HMW.out.alloc _).drew.trans hSt.1 (fun _ h => by cases h)); clear hO hSt))
      go_wp2
      go_ret2
      exact ⟨_, _, rfl, HM4.out, .inr ⟨rfl, n0, n1, s0, t0, t1, s, Int.le_refl _, s1, by rw [← HPUT.out]; exact HO.out.reads⟩⟩
    · obtain ⟨ad, rfl⟩ : ∃ ad, A = some ad := by
        rcases A with _ | ad
        · exact absurd (hA0 rfl) (by omega)
        · exact ⟨ad, rfl⟩
      have HR3 : Hid (Row W (some (ad.add (p * 3))) (l.drop p)) := (HA.out.still HMW.out).drop p
      go_region_held3 (fun _ => True) (trivial) ((go_at_call 12; refine (concat_any _ _ _ _ _ _ _ _ _ _ _ (l.take p) [⟨n, s, t⟩] (l.drop p) _ (by exact HLT.out) (show _ = 1 from rfl) (by exact HLD.out) (by omega) (by exact HR1.out.still (((Moved.refl W []).alloc _).drew)) (by exact HR2.out.still (((Moved.refl W []).alloc _).drew)) (by exact HR3.out.still (((Moved.refl W []).alloc _).drew)) (by exact fun h => by cases h) (by exact fun h => by cases h) (by exact fun h => by cases h) (by exact cell_at (heap_alloc_new W _) 0 rfl) (by exact cell_at (heap_alloc_new W _) 1 rfl) (by exact cell_at (heap_alloc_new W _) 2 rfl)).mono ?_; rintro e w4 ⟨v4, rfl, hO, hSt⟩; have HO := Lib.hid hO; have HM4 := Lib.hid ((HMW.out.alloc _).drew.trans hSt.1 (fun _ h => by cases h)); clear hO hSt))
      go_wp2
      go_ret2
      exact ⟨_, _, rfl, HM4.out, .inr ⟨rfl, n0, n1, s0, t0, t1, s, Int.le_refl _, s1, by rw [← HPUT.out]; exact HO.out.reads⟩⟩
theorem laws : Laws := ⟨charge_any, wakes_any⟩
end Rk
end Go.Proofs.Ytpaklljcbmimfaa
