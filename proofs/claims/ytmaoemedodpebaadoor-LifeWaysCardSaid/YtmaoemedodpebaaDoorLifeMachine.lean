/-
  CONTRACT of life.machine: the labels are the states (written by wip/gen_machine.py).
-/
import Derived.Test.YtmaoemedodpebaaDoorLifeAsks
import Derived.Test.YtmaoemedodpebaaDoorScopeMany
namespace Go.Proofs.YtmaoemedodpebaaDoor
namespace Lf
open Go.RowKit
/-- What is left to be walked from the state S on, j events being gone, ends at T behind m. -/
def Lft (F : List Int) (S : Int) (j : Nat) (T : Int) (m : Nat) : Prop := walkL S (F.drop j) = (T, m - j) ∧ j ≤ m
theorem nxt_zero (S : Int) : nxt S 0 = none := by
  cases h : nxt S 0 with
  | none => rfl
  | some t => have := (nxt_st h).2.2.1; omega
theorem Lft.stop {F : List Int} {S T : Int} {j m : Nat} (h : Lft F S j T m) (hn : nxt S (F.getD j 0) = none) : T = S ∧ m = j := by
  obtain ⟨h1, h2⟩ := h
  by_cases hj : j < F.length
  · rw [List.drop_eq_getElem_cons hj, walk_stop (by rw [List.getD_eq_getElem?_getD, List.getElem?_eq_getElem hj] at hn; exact hn)] at h1
    injection h1 with h3 h4
    exact ⟨h3.symm, by omega⟩
  · rw [List.drop_of_length_le (by omega), walk_nil] at h1
    injection h1 with h3 h4
    exact ⟨h3.symm, by omega⟩
theorem Lft.go {F : List Int} {S T t : Int} {j m : Nat} (h : Lft F S j T m) (hn : nxt S (F.getD j 0) = some t) : Lft F t (j + 1) T m := by
  obtain ⟨h1, h2⟩ := h
  by_cases hj : j < F.length
  · rw [List.drop_eq_getElem_cons hj, walk_on (t := t) (by rw [List.getD_eq_getElem?_getD, List.getElem?_eq_getElem hj] at hn; exact hn)] at h1
    injection h1 with h3 h4
    exact ⟨Prod.ext h3 (by show _ = m - (j + 1); omega), by omega⟩
  · rw [List.getD_eq_getElem?_getD, List.getElem?_eq_none (by omega)] at hn
    rw [show (none : Option Int).getD 0 = 0 from rfl, nxt_zero] at hn
    cases hn
theorem nxt_no0 {e : Int} : e ≠ 1 → nxt 0 e = none := by
  intro n1
  cases h : nxt 0 e with
  | none => rfl
  | some t =>
    have hm := nxt_mem h
    simp [table] at hm
    omega
theorem nxt_no1 {e : Int} : e ≠ 2 → e ≠ 5 → e ≠ 9 → e ≠ 10 → nxt 1 e = none := by
  intro n2 n5 n9 n10
  cases h : nxt 1 e with
  | none => rfl
  | some t =>
    have hm := nxt_mem h
    simp [table] at hm
    omega
theorem nxt_no2 {e : Int} : e ≠ 3 → e ≠ 8 → e ≠ 9 → nxt 2 e = none := by
  intro n3 n8 n9
  cases h : nxt 2 e with
  | none => rfl
  | some t =>
    have hm := nxt_mem h
    simp [table] at hm
    omega
theorem nxt_no3 {e : Int} : e ≠ 4 → nxt 3 e = none := by
  intro n4
  cases h : nxt 3 e with
  | none => rfl
  | some t =>
    have hm := nxt_mem h
    simp [table] at hm
    omega
theorem nxt_no4 {e : Int} : e ≠ 6 → e ≠ 7 → nxt 4 e = none := by
  intro n6 n7
  cases h : nxt 4 e with
  | none => rfl
  | some t =>
    have hm := nxt_mem h
    simp [table] at hm
    omega
theorem nxt_no5 {e : Int} : e ≠ 8 → e ≠ 9 → nxt 5 e = none := by
  intro n8 n9
  cases h : nxt 5 e with
  | none => rfl
  | some t =>
    have hm := nxt_mem h
    simp [table] at hm
    omega
theorem nxt_no6 {e : Int} : e ≠ 9 → nxt 6 e = none := by
  intro n9
  cases h : nxt 6 e with
  | none => rfl
  | some t =>
    have hm := nxt_mem h
    simp [table] at hm
    omega
theorem nxt_no7 {e : Int} : e ≠ 10 → nxt 7 e = none := by
  intro n10
  cases h : nxt 7 e with
  | none => rfl
  | some t =>
    have hm := nxt_mem h
    simp [table] at hm
    omega
section
variable (w0 : World) (A6 A3 : Option Addr) (n6 c6 n3 c3 p7 p6 p3 : Nat) (F : List Int) (T : Int) (m : Nat)
/-- What holds at a label. -/
def MAt (l : Nat) (a : Act) (wr : World) : Prop :=
  ∃ (j : Nat) (u1 u2 u3 u4 u5 u6 u7 u8 u9 u10 u11 u12 u13 u14 u15 u16 u17 u18 u19 u20 u21 u22 u23 u24 u25 u26 u27 u28 u29 u30 u31 u32 u33 u34 u35 u36 u37 u38 u39 u40 u41 u42 u43 u44 : Value), a = { tmps := #[.func (.func 21) #[] #[.pointer (some ⟨p7, 0, none⟩), .pointer (some ⟨p6, 0, none⟩), .pointer (some ⟨p3, 0, none⟩)], u1, u2, u3, u4, u5, u6, u7, u8, u9, u10, u11, u12, u13, u14, u15, u16, u17, u18, u19, u20, u21, u22, u23, u24, u25, u26, u27, u28, u29, u30, u31, u32, u33, u34, u35, u36, u37, u38, u39, u40, u41, u42, u43, u44], defers := [] } ∧ j ≤ m ∧ Hid (Cl w0 wr A6 n6 c6 A3 n3 c3 p7 p6 p3 j) ∧ l < 8 ∧ Hid (Lft F ([0, 1, 2, 4, 7, 3, 6, 5].getD l 0) j T m)
def mMu (w : World) : Nat := m + 1 - (match w.cell? ⟨p7, 0, none⟩ with | some v => (intOf v).toNat | none => 0)
end
theorem mMu_is {w0 w : World} {A6 A3 : Option Addr} {n6 c6 n3 c3 p7 p6 p3 j : Nat} (m : Nat) (h : Cl w0 w A6 n6 c6 A3 n3 c3 p7 p6 p3 j) : mMu p7 m w = m + 1 - j := by
  unfold mMu
  rw [cell_at h.at7 0 (v := .int .i64 j) rfl]
  simp [intOf]
theorem MAt.told (w0 : World) (A6 A3 : Option Addr) (n6 c6 n3 c3 p7 p6 p3 : Nat) (F : List Int) (T : Int) (m : Nat) (l : Nat) (S : Int) (hl : l < 8) (hS : ([0, 1, 2, 4, 7, 3, 6, 5] : List Int).getD l 0 = S) (j : Nat) (hj : j ≤ m) {w1 : World} (hC : Cl w0 w1 A6 n6 c6 A3 n3 c3 p7 p6 p3 j) (hL : Lft F S j T m) {u1 u2 u3 u4 u5 u6 u7 u8 u9 u10 u11 u12 u13 u14 u15 u16 u17 u18 u19 u20 u21 u22 u23 u24 u25 u26 u27 u28 u29 u30 u31 u32 u33 u34 u35 u36 u37 u38 u39 u40 u41 u42 u43 u44 : Value} :
    MAt w0 A6 A3 n6 c6 n3 c3 p7 p6 p3 F T m l { tmps := #[.func (.func 21) #[] #[.pointer (some ⟨p7, 0, none⟩), .pointer (some ⟨p6, 0, none⟩), .pointer (some ⟨p3, 0, none⟩)], u1, u2, u3, u4, u5, u6, u7, u8, u9, u10, u11, u12, u13, u14, u15, u16, u17, u18, u19, u20, u21, u22, u23, u24, u25, u26, u27, u28, u29, u30, u31, u32, u33, u34, u35, u36, u37, u38, u39, u40, u41, u42, u43, u44], defers := [] } w1 :=
  ⟨j, _, _, _, _, _, _, _, _, _, _, _, _, _, _, _, _, _, _, _, _, _, _, _, _, _, _, _, _, _, _, _, _, _, _, _, _, _, _, _, _, _, _, _, _, rfl, hj, hC, hl, by rw [hS]; exact hL⟩
set_option maxRecDepth 100000 in
set_option maxHeartbeats 8000000 in
theorem machine_any (w0 w : World) (A6 A3 : Option Addr) (n6 c6 n3 c3 p7 p6 p3 : Nat) (F : List Int) (T : Int) (m : Nat) (hC : Cl w0 w A6 n6 c6 A3 n3 c3 p7 p6 p3 0) (hL : Lft F 0 0 T m) (hm : m ≤ 1048600)
    (hQ : ∀ (j : Nat) (wr : World), Cl w0 wr A6 n6 c6 A3 n3 c3 p7 p6 p3 j → j ≤ 2000000 → Calls Tryd.prog 21 #[.pointer (some ⟨p7, 0, none⟩), .pointer (some ⟨p6, 0, none⟩), .pointer (some ⟨p3, 0, none⟩)] wr fun r w' => r = .returned (.int .i64 (F.getD j 0)) ∧ Cl w0 w' A6 n6 c6 A3 n3 c3 p7 p6 p3 (j + 1)) :
    Calls Tryd.prog 22 #[.func (.func 21) #[] #[.pointer (some ⟨p7, 0, none⟩), .pointer (some ⟨p6, 0, none⟩), .pointer (some ⟨p3, 0, none⟩)]] w fun e w' => e = .returned (.int .i64 T) ∧ Cl w0 w' A6 n6 c6 A3 n3 c3 p7 p6 p3 (m + 1) := by
  have HC := Lib.hid hC
  have HL := Lib.hid hL
  have HQ := Lib.hid hQ
  clear hC hL hQ
  go_enter Tryd.func22, Tryd.ntmps22
  go_wp2
  refine wp_scope_many (MAt w0 A6 A3 n6 c6 n3 c3 p7 p6 p3 F T m) (fun _ w => mMu p7 m w) ?_ ?_
  · obtain ⟨j, hj0⟩ : ∃ j : Nat, j = 0 := ⟨0, rfl⟩
    rw [← hj0] at HC HL
    have hj : j ≤ m := by omega
    obtain ⟨wr, hwr⟩ : ∃ wr, wr = w := ⟨w, rfl⟩
    rw [← hwr] at HC ⊢
    clear hj0 hwr
    go_wp2
    go_step3
    obtain ⟨e, he⟩ : ∃ e, e = F.getD j 0 := ⟨_, rfl⟩
    have HA : Hid (Calls Tryd.prog 21 #[.pointer (some ⟨p7, 0, none⟩), .pointer (some ⟨p6, 0, none⟩), .pointer (some ⟨p3, 0, none⟩)] wr fun r w' => r = .returned (.int .i64 e) ∧ Cl w0 w' A6 n6 c6 A3 n3 c3 p7 p6 p3 (j + 1)) := by rw [he]; exact HQ.out j wr HC.out (by omega)
    have HEE := Lib.hid he
    clear he
    by_cases k1 : e = 1
    · obtain rfl := k1
      have HN := Lib.hid (HL.out.go (t := 1) (by rw [← HEE.out]; rfl))
      have hjm : j + 1 ≤ m := HN.out.2
      go_wp2_with (go_at_call 21; refine HA.out.mono ?_; rintro r w1 ⟨rfl, hC1⟩; have HC1 := Lib.hid hC1; clear hC1)
      go_step3
      exact MAt.told w0 A6 A3 n6 c6 n3 c3 p7 p6 p3 F T m 1 1 (by omega) rfl (j + 1) hjm HC1.out HN.out
    · have d1 : decide (e = 1) = false := by simpa using k1
      obtain ⟨hT, hm⟩ := HL.out.stop (by rw [← HEE.out]; exact nxt_no0 k1)
      go_wp2_with (go_at_call 21; refine HA.out.mono ?_; rintro r w1 ⟨rfl, hC1⟩; have HC1 := Lib.hid hC1; clear hC1)
      simp only [jumps]
      go_ret
      exact ⟨by rw [hT]; rfl, by rw [hm]; exact HC1.out⟩
  · rintro l a wr ⟨j, u1, u2, u3, u4, u5, u6, u7, u8, u9, u10, u11, u12, u13, u14, u15, u16, u17, u18, u19, u20, u21, u22, u23, u24, u25, u26, u27, u28, u29, u30, u31, u32, u33, u34, u35, u36, u37, u38, u39, u40, u41, u42, u43, u44, rfl, hj, HC, hl, HL⟩
    rcases (by omega : l = 0 ∨ l = 1 ∨ l = 2 ∨ l = 3 ∨ l = 4 ∨ l = 5 ∨ l = 6 ∨ l = 7) with rfl | rfl | rfl | rfl | rfl | rfl | rfl | rfl
    · refine ⟨_, rfl, ?_⟩
      have HL : Hid (Lft F 0 j T m) := HL
      obtain ⟨e, he⟩ : ∃ e, e = F.getD j 0 := ⟨_, rfl⟩
      have HA : Hid (Calls Tryd.prog 21 #[.pointer (some ⟨p7, 0, none⟩), .pointer (some ⟨p6, 0, none⟩), .pointer (some ⟨p3, 0, none⟩)] wr fun r w' => r = .returned (.int .i64 e) ∧ Cl w0 w' A6 n6 c6 A3 n3 c3 p7 p6 p3 (j + 1)) := by rw [he]; exact HQ.out j wr HC.out (by omega)
      have HEE := Lib.hid he
      clear he
      by_cases k1 : e = 1
      · obtain rfl := k1
        have HN := Lib.hid (HL.out.go (t := 1) (by rw [← HEE.out]; rfl))
        have hjm : j + 1 ≤ m := HN.out.2
        go_wp2_with (go_at_call 21; refine HA.out.mono ?_; rintro r w1 ⟨rfl, hC1⟩; have HC1 := Lib.hid hC1; clear hC1)
        go_step3
        exact ⟨MAt.told w0 A6 A3 n6 c6 n3 c3 p7 p6 p3 F T m 1 1 (by omega) rfl (j + 1) hjm HC1.out HN.out, by rw [mMu_is m HC1.out, mMu_is m HC.out]; omega⟩
      · have d1 : decide (e = 1) = false := by simpa using k1
        obtain ⟨hT, hm⟩ := HL.out.stop (by rw [← HEE.out]; exact nxt_no0 k1)
        go_wp2_with (go_at_call 21; refine HA.out.mono ?_; rintro r w1 ⟨rfl, hC1⟩; have HC1 := Lib.hid hC1; clear hC1)
        simp only [jumps]
        go_ret
        exact ⟨by rw [hT]; rfl, by rw [hm]; exact HC1.out⟩
    · refine ⟨_, rfl, ?_⟩
      have HL : Hid (Lft F 1 j T m) := HL
      obtain ⟨e, he⟩ : ∃ e, e = F.getD j 0 := ⟨_, rfl⟩
      have HA : Hid (Calls Tryd.prog 21 #[.pointer (some ⟨p7, 0, none⟩), .pointer (some ⟨p6, 0, none⟩), .pointer (some ⟨p3, 0, none⟩)] wr fun r w' => r = .returned (.int .i64 e) ∧ Cl w0 w' A6 n6 c6 A3 n3 c3 p7 p6 p3 (j + 1)) := by rw [he]; exact HQ.out j wr HC.out (by omega)
      have HEE := Lib.hid he
      clear he
      by_cases k2 : e = 2
      · obtain rfl := k2
        have HN := Lib.hid (HL.out.go (t := 2) (by rw [← HEE.out]; rfl))
        have hjm : j + 1 ≤ m := HN.out.2
        go_wp2_with (go_at_call 21; refine HA.out.mono ?_; rintro r w1 ⟨rfl, hC1⟩; have HC1 := Lib.hid hC1; clear hC1)
        go_step3
        exact ⟨MAt.told w0 A6 A3 n6 c6 n3 c3 p7 p6 p3 F T m 2 2 (by omega) rfl (j + 1) hjm HC1.out HN.out, by rw [mMu_is m HC1.out, mMu_is m HC.out]; omega⟩
      · have d2 : decide (e = 2) = false := by simpa using k2
        by_cases k5 : e = 5
        · obtain rfl := k5
          have HN := Lib.hid (HL.out.go (t := 4) (by rw [← HEE.out]; rfl))
          have hjm : j + 1 ≤ m := HN.out.2
          go_wp2_with (go_at_call 21; refine HA.out.mono ?_; rintro r w1 ⟨rfl, hC1⟩; have HC1 := Lib.hid hC1; clear hC1)
          go_step3
          exact ⟨MAt.told w0 A6 A3 n6 c6 n3 c3 p7 p6 p3 F T m 3 4 (by omega) rfl (j + 1) hjm HC1.out HN.out, by rw [mMu_is m HC1.out, mMu_is m HC.out]; omega⟩
        · have d5 : decide (e = 5) = false := by simpa using k5
          by_cases k9 : e = 9
          · obtain rfl := k9
            have HN := Lib.hid (HL.out.go (t := 7) (by rw [← HEE.out]; rfl))
            have hjm : j + 1 ≤ m := HN.out.2
            go_wp2_with (go_at_call 21; refine HA.out.mono ?_; rintro r w1 ⟨rfl, hC1⟩; have HC1 := Lib.hid hC1; clear hC1)
            go_step3
            exact ⟨MAt.told w0 A6 A3 n6 c6 n3 c3 p7 p6 p3 F T m 4 7 (by omega) rfl (j + 1) hjm HC1.out HN.out, by rw [mMu_is m HC1.out, mMu_is m HC.out]; omega⟩
          · have d9 : decide (e = 9) = false := by simpa using k9
            by_cases k10 : e = 10
            · obtain rfl := k10
              have HN := Lib.hid (HL.out.go (t := 0) (by rw [← HEE.out]; rfl))
              have hjm : j + 1 ≤ m := HN.out.2
              go_wp2_with (go_at_call 21; refine HA.out.mono ?_; rintro r w1 ⟨rfl, hC1⟩; have HC1 := Lib.hid hC1; clear hC1)
              go_step3
              exact ⟨MAt.told w0 A6 A3 n6 c6 n3 c3 p7 p6 p3 F T m 0 0 (by omega) rfl (j + 1) hjm HC1.out HN.out, by rw [mMu_is m HC1.out, mMu_is m HC.out]; omega⟩
            · have d10 : decide (e = 10) = false := by simpa using k10
              obtain ⟨hT, hm⟩ := HL.out.stop (by rw [← HEE.out]; exact nxt_no1 k2 k5 k9 k10)
              go_wp2_with (go_at_call 21; refine HA.out.mono ?_; rintro r w1 ⟨rfl, hC1⟩; have HC1 := Lib.hid hC1; clear hC1)
              simp only [jumps]
              go_ret
              exact ⟨by rw [hT]; rfl, by rw [hm]; exact HC1.out⟩
    · refine ⟨_, rfl, ?_⟩
      have HL : Hid (Lft F 2 j T m) := HL
      obtain ⟨e, he⟩ : ∃ e, e = F.getD j 0 := ⟨_, rfl⟩
      have HA : Hid (Calls Tryd.prog 21 #[.pointer (some ⟨p7, 0, none⟩), .pointer (some ⟨p6, 0, none⟩), .pointer (some ⟨p3, 0, none⟩)] wr fun r w' => r = .returned (.int .i64 e) ∧ Cl w0 w' A6 n6 c6 A3 n3 c3 p7 p6 p3 (j + 1)) := by rw [he]; exact HQ.out j wr HC.out (by omega)
      have HEE := Lib.hid he
      clear he
      by_cases k3 : e = 3
      · obtain rfl := k3
        have HN := Lib.hid (HL.out.go (t := 3) (by rw [← HEE.out]; rfl))
        have hjm : j + 1 ≤ m := HN.out.2
        go_wp2_with (go_at_call 21; refine HA.out.mono ?_; rintro r w1 ⟨rfl, hC1⟩; have HC1 := Lib.hid hC1; clear hC1)
        go_step3
        exact ⟨MAt.told w0 A6 A3 n6 c6 n3 c3 p7 p6 p3 F T m 5 3 (by omega) rfl (j + 1) hjm HC1.out HN.out, by rw [mMu_is m HC1.out, mMu_is m HC.out]; omega⟩
      · have d3 : decide (e = 3) = false := by simpa using k3
        by_cases k8 : e = 8
        · obtain rfl := k8
          have HN := Lib.hid (HL.out.go (t := 6) (by rw [← HEE.out]; rfl))
          have hjm : j + 1 ≤ m := HN.out.2
          go_wp2_with (go_at_call 21; refine HA.out.mono ?_; rintro r w1 ⟨rfl, hC1⟩; have HC1 := Lib.hid hC1; clear hC1)
          go_step3
          exact ⟨MAt.told w0 A6 A3 n6 c6 n3 c3 p7 p6 p3 F T m 6 6 (by omega) rfl (j + 1) hjm HC1.out HN.out, by rw [mMu_is m HC1.out, mMu_is m HC.out]; omega⟩
        · have d8 : decide (e = 8) = false := by simpa using k8
          by_cases k9 : e = 9
          · obtain rfl := k9
            have HN := Lib.hid (HL.out.go (t := 7) (by rw [← HEE.out]; rfl))
            have hjm : j + 1 ≤ m := HN.out.2
            go_wp2_with (go_at_call 21; refine HA.out.mono ?_; rintro r w1 ⟨rfl, hC1⟩; have HC1 := Lib.hid hC1; clear hC1)
            go_step3
            exact ⟨MAt.told w0 A6 A3 n6 c6 n3 c3 p7 p6 p3 F T m 4 7 (by omega) rfl (j + 1) hjm HC1.out HN.out, by rw [mMu_is m HC1.out, mMu_is m HC.out]; omega⟩
          · have d9 : decide (e = 9) = false := by simpa using k9
            obtain ⟨hT, hm⟩ := HL.out.stop (by rw [← HEE.out]; exact nxt_no2 k3 k8 k9)
            go_wp2_with (go_at_call 21; refine HA.out.mono ?_; rintro r w1 ⟨rfl, hC1⟩; have HC1 := Lib.hid hC1; clear hC1)
            simp only [jumps]
            go_ret
            exact ⟨by rw [hT]; rfl, by rw [hm]; exact HC1.out⟩
    · refine ⟨_, rfl, ?_⟩
      have HL : Hid (Lft F 4 j T m) := HL
      obtain ⟨e, he⟩ : ∃ e, e = F.getD j 0 := ⟨_, rfl⟩
      have HA : Hid (Calls Tryd.prog 21 #[.pointer (some ⟨p7, 0, none⟩), .pointer (some ⟨p6, 0, none⟩), .pointer (some ⟨p3, 0, none⟩)] wr fun r w' => r = .returned (.int .i64 e) ∧ Cl w0 w' A6 n6 c6 A3 n3 c3 p7 p6 p3 (j + 1)) := by rw [he]; exact HQ.out j wr HC.out (by omega)
      have HEE := Lib.hid he
      clear he
      by_cases k6 : e = 6
      · obtain rfl := k6
        have HN := Lib.hid (HL.out.go (t := 1) (by rw [← HEE.out]; rfl))
        have hjm : j + 1 ≤ m := HN.out.2
        go_wp2_with (go_at_call 21; refine HA.out.mono ?_; rintro r w1 ⟨rfl, hC1⟩; have HC1 := Lib.hid hC1; clear hC1)
        go_step3
        exact ⟨MAt.told w0 A6 A3 n6 c6 n3 c3 p7 p6 p3 F T m 1 1 (by omega) rfl (j + 1) hjm HC1.out HN.out, by rw [mMu_is m HC1.out, mMu_is m HC.out]; omega⟩
      · have d6 : decide (e = 6) = false := by simpa using k6
        by_cases k7 : e = 7
        · obtain rfl := k7
          have HN := Lib.hid (HL.out.go (t := 5) (by rw [← HEE.out]; rfl))
          have hjm : j + 1 ≤ m := HN.out.2
          go_wp2_with (go_at_call 21; refine HA.out.mono ?_; rintro r w1 ⟨rfl, hC1⟩; have HC1 := Lib.hid hC1; clear hC1)
          go_step3
          exact ⟨MAt.told w0 A6 A3 n6 c6 n3 c3 p7 p6 p3 F T m 7 5 (by omega) rfl (j + 1) hjm HC1.out HN.out, by rw [mMu_is m HC1.out, mMu_is m HC.out]; omega⟩
        · have d7 : decide (e = 7) = false := by simpa using k7
          obtain ⟨hT, hm⟩ := HL.out.stop (by rw [← HEE.out]; exact nxt_no4 k6 k7)
          go_wp2_with (go_at_call 21; refine HA.out.mono ?_; rintro r w1 ⟨rfl, hC1⟩; have HC1 := Lib.hid hC1; clear hC1)
          simp only [jumps]
          go_ret
          exact ⟨by rw [hT]; rfl, by rw [hm]; exact HC1.out⟩
    · refine ⟨_, rfl, ?_⟩
      have HL : Hid (Lft F 7 j T m) := HL
      obtain ⟨e, he⟩ : ∃ e, e = F.getD j 0 := ⟨_, rfl⟩
      have HA : Hid (Calls Tryd.prog 21 #[.pointer (some ⟨p7, 0, none⟩), .pointer (some ⟨p6, 0, none⟩), .pointer (some ⟨p3, 0, none⟩)] wr fun r w' => r = .returned (.int .i64 e) ∧ Cl w0 w' A6 n6 c6 A3 n3 c3 p7 p6 p3 (j + 1)) := by rw [he]; exact HQ.out j wr HC.out (by omega)
      have HEE := Lib.hid he
      clear he
      by_cases k10 : e = 10
      · obtain rfl := k10
        have HN := Lib.hid (HL.out.go (t := 0) (by rw [← HEE.out]; rfl))
        have hjm : j + 1 ≤ m := HN.out.2
        go_wp2_with (go_at_call 21; refine HA.out.mono ?_; rintro r w1 ⟨rfl, hC1⟩; have HC1 := Lib.hid hC1; clear hC1)
        go_step3
        exact ⟨MAt.told w0 A6 A3 n6 c6 n3 c3 p7 p6 p3 F T m 0 0 (by omega) rfl (j + 1) hjm HC1.out HN.out, by rw [mMu_is m HC1.out, mMu_is m HC.out]; omega⟩
      · have d10 : decide (e = 10) = false := by simpa using k10
        obtain ⟨hT, hm⟩ := HL.out.stop (by rw [← HEE.out]; exact nxt_no7 k10)
        go_wp2_with (go_at_call 21; refine HA.out.mono ?_; rintro r w1 ⟨rfl, hC1⟩; have HC1 := Lib.hid hC1; clear hC1)
        simp only [jumps]
        go_ret
        exact ⟨by rw [hT]; rfl, by rw [hm]; exact HC1.out⟩
    · refine ⟨_, rfl, ?_⟩
      have HL : Hid (Lft F 3 j T m) := HL
      obtain ⟨e, he⟩ : ∃ e, e = F.getD j 0 := ⟨_, rfl⟩
      have HA : Hid (Calls Tryd.prog 21 #[.pointer (some ⟨p7, 0, none⟩), .pointer (some ⟨p6, 0, none⟩), .pointer (some ⟨p3, 0, none⟩)] wr fun r w' => r = .returned (.int .i64 e) ∧ Cl w0 w' A6 n6 c6 A3 n3 c3 p7 p6 p3 (j + 1)) := by rw [he]; exact HQ.out j wr HC.out (by omega)
      have HEE := Lib.hid he
      clear he
      by_cases k4 : e = 4
      · obtain rfl := k4
        have HN := Lib.hid (HL.out.go (t := 1) (by rw [← HEE.out]; rfl))
        have hjm : j + 1 ≤ m := HN.out.2
        go_wp2_with (go_at_call 21; refine HA.out.mono ?_; rintro r w1 ⟨rfl, hC1⟩; have HC1 := Lib.hid hC1; clear hC1)
        go_step3
        exact ⟨MAt.told w0 A6 A3 n6 c6 n3 c3 p7 p6 p3 F T m 1 1 (by omega) rfl (j + 1) hjm HC1.out HN.out, by rw [mMu_is m HC1.out, mMu_is m HC.out]; omega⟩
      · have d4 : decide (e = 4) = false := by simpa using k4
        obtain ⟨hT, hm⟩ := HL.out.stop (by rw [← HEE.out]; exact nxt_no3 k4)
        go_wp2_with (go_at_call 21; refine HA.out.mono ?_; rintro r w1 ⟨rfl, hC1⟩; have HC1 := Lib.hid hC1; clear hC1)
        simp only [jumps]
        go_ret
        exact ⟨by rw [hT]; rfl, by rw [hm]; exact HC1.out⟩
    · refine ⟨_, rfl, ?_⟩
      have HL : Hid (Lft F 6 j T m) := HL
      obtain ⟨e, he⟩ : ∃ e, e = F.getD j 0 := ⟨_, rfl⟩
      have HA : Hid (Calls Tryd.prog 21 #[.pointer (some ⟨p7, 0, none⟩), .pointer (some ⟨p6, 0, none⟩), .pointer (some ⟨p3, 0, none⟩)] wr fun r w' => r = .returned (.int .i64 e) ∧ Cl w0 w' A6 n6 c6 A3 n3 c3 p7 p6 p3 (j + 1)) := by rw [he]; exact HQ.out j wr HC.out (by omega)
      have HEE := Lib.hid he
      clear he
      by_cases k9 : e = 9
      · obtain rfl := k9
        have HN := Lib.hid (HL.out.go (t := 7) (by rw [← HEE.out]; rfl))
        have hjm : j + 1 ≤ m := HN.out.2
        go_wp2_with (go_at_call 21; refine HA.out.mono ?_; rintro r w1 ⟨rfl, hC1⟩; have HC1 := Lib.hid hC1; clear hC1)
        go_step3
        exact ⟨MAt.told w0 A6 A3 n6 c6 n3 c3 p7 p6 p3 F T m 4 7 (by omega) rfl (j + 1) hjm HC1.out HN.out, by rw [mMu_is m HC1.out, mMu_is m HC.out]; omega⟩
      · have d9 : decide (e = 9) = false := by simpa using k9
        obtain ⟨hT, hm⟩ := HL.out.stop (by rw [← HEE.out]; exact nxt_no6 k9)
        go_wp2_with (go_at_call 21; refine HA.out.mono ?_; rintro r w1 ⟨rfl, hC1⟩; have HC1 := Lib.hid hC1; clear hC1)
        simp only [jumps]
        go_ret
        exact ⟨by rw [hT]; rfl, by rw [hm]; exact HC1.out⟩
    · refine ⟨_, rfl, ?_⟩
      have HL : Hid (Lft F 5 j T m) := HL
      obtain ⟨e, he⟩ : ∃ e, e = F.getD j 0 := ⟨_, rfl⟩
      have HA : Hid (Calls Tryd.prog 21 #[.pointer (some ⟨p7, 0, none⟩), .pointer (some ⟨p6, 0, none⟩), .pointer (some ⟨p3, 0, none⟩)] wr fun r w' => r = .returned (.int .i64 e) ∧ Cl w0 w' A6 n6 c6 A3 n3 c3 p7 p6 p3 (j + 1)) := by rw [he]; exact HQ.out j wr HC.out (by omega)
      have HEE := Lib.hid he
      clear he
      by_cases k8 : e = 8
      · obtain rfl := k8
        have HN := Lib.hid (HL.out.go (t := 6) (by rw [← HEE.out]; rfl))
        have hjm : j + 1 ≤ m := HN.out.2
        go_wp2_with (go_at_call 21; refine HA.out.mono ?_; rintro r w1 ⟨rfl, hC1⟩; have HC1 := Lib.hid hC1; clear hC1)
        go_step3
        exact ⟨MAt.told w0 A6 A3 n6 c6 n3 c3 p7 p6 p3 F T m 6 6 (by omega) rfl (j + 1) hjm HC1.out HN.out, by rw [mMu_is m HC1.out, mMu_is m HC.out]; omega⟩
      · have d8 : decide (e = 8) = false := by simpa using k8
        by_cases k9 : e = 9
        · obtain rfl := k9
          have HN := Lib.hid (HL.out.go (t := 7) (by rw [← HEE.out]; rfl))
          have hjm : j + 1 ≤ m := HN.out.2
          go_wp2_with (go_at_call 21; refine HA.out.mono ?_; rintro r w1 ⟨rfl, hC1⟩; have HC1 := Lib.hid hC1; clear hC1)
          go_step3
          exact ⟨MAt.told w0 A6 A3 n6 c6 n3 c3 p7 p6 p3 F T m 4 7 (by omega) rfl (j + 1) hjm HC1.out HN.out, by rw [mMu_is m HC1.out, mMu_is m HC.out]; omega⟩
        · have d9 : decide (e = 9) = false := by simpa using k9
          obtain ⟨hT, hm⟩ := HL.out.stop (by rw [← HEE.out]; exact nxt_no5 k8 k9)
          go_wp2_with (go_at_call 21; refine HA.out.mono ?_; rintro r w1 ⟨rfl, hC1⟩; have HC1 := Lib.hid hC1; clear hC1)
          simp only [jumps]
          go_ret
          exact ⟨by rw [hT]; rfl, by rw [hm]; exact HC1.out⟩
end Lf
end Go.Proofs.YtmaoemedodpebaaDoor
