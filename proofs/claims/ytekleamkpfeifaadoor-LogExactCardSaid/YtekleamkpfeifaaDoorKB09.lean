/-
  1 texts in one: DiskOwn2.
-/
import Derived.Test.YtekleamkpfeifaaDoorKB08

/-
  CONTRACTS of the program's Disk: Crash, trips.
-/
namespace Go.Proofs.YtekleamkpfeifaaDoor
namespace Dk
open Go.RowKit
theorem dcrash_dead (q : Nat) (fq : List Nat) (s : DSt) (m : Nat) (k : Int) (w : World) (hQ : DObj w q fq s m) (hd : s.dead = true) :
    Calls Tryd.prog 21 #[.pointer (some ⟨q, 0, none⟩), .int .i64 k] w (Does DObj q fq (s.crash k) m (.tuple #[]) w) := by
  have HQ := Lib.hid hQ
  obtain ⟨L, ar, kp, rfl, hr, hf⟩ := hQ
  obtain ⟨bs, safe, dead, trip⟩ := s
  obtain rfl : dead = true := hd
  have c2 := cell_at hr.at_ 2 (v := .bool true) rfl
  clear hr hf
  go_enter Tryd.func21, Tryd.ntmps21
  go_wp2
  go_end0
  exact ⟨rfl, _, HQ.out, Step.refl _ _⟩
theorem pcleft_low {bs : List Int} {safe : Nat} {k : Int} (h : k < 0) : left bs safe k = bs.take safe := by
  rw [left, show k.toNat = 0 by omega]
  split
  · rw [Nat.add_zero]
  · rw [List.take_of_length_le (by omega)]
theorem pcleft_mid {bs : List Int} {safe j : Nat} : left bs safe (j : Int) = bs.take (safe + j) := by
  rw [left, Int.toNat_natCast]
  split
  · rfl
  · rw [List.take_of_length_le (by omega)]
theorem pcleft_all {bs : List Int} {safe e : Nat} {k : Int} (he : e = bs.length) (h : e - safe ≤ k.toNat) : left bs safe k = bs.take e := by
  rw [left, if_neg (by omega), he, List.take_length]
set_option maxRecDepth 100000 in
set_option maxHeartbeats 2000000 in
theorem dcrash_live (q : Nat) (fq : List Nat) (bs : List Int) (safe : Nat) (trip : Option Int) (m : Nat) (k : Int) (w : World) (hQ : DObj w q fq ⟨bs, safe, false, trip⟩ m) (hm : m ≤ 35184372088832) :
    Calls Tryd.prog 21 #[.pointer (some ⟨q, 0, none⟩), .int .i64 k] w (Does DObj q fq ⟨left bs safe k, safe, true, none⟩ m (.tuple #[]) w) := by
  obtain ⟨L, ar, kp, rfl, hr, hf⟩ := hQ
  have hbm : bs.length ≤ m := hf.len
  have hsf : safe ≤ bs.length := hf.ok.safe
  have hpl : pcBytes L = bs := hf.bs
  obtain ⟨e, he⟩ : ∃ e, e = bs.length := ⟨_, rfl⟩
  rw [← he] at hbm hsf
  have c0 := cell_at hr.at_ 0 (v := ptr L) rfl
  have c1 := cell_at hr.at_ 1 (v := .int .i64 safe) rfl
  have c2 := cell_at hr.at_ 2 (v := .bool false) rfl
  have HEND : Hid (∀ j, Calls Tryd.prog 50 #[ptr L] (w.drewN j) fun r w' => r = .returned (.int .i64 e) ∧ ∃ k, w' = (w.drewN j).drewN k) := by
    intro j
    have h := pend_any L _ (hr.pcs.drewN j) (by rw [hpl, ← he]; omega)
    rw [hpl, ← he] at h
    exact h
  have HFIRST : Hid (∀ n j, n ≤ e → Calls Tryd.prog 51 #[ptr L, .int .i64 n] (w.drewN j) (Told (bs.take n) (pcBlks L) w)) := by
    intro n j hn
    have h := pfirst_any L n (w.drewN j) (hr.pcs.drewN j) (by rw [hpl, ← he]; exact hn) (by rw [hpl, ← he]; omega)
    rw [hpl] at h
    exact h.mono fun q w' ⟨L', h1, h2, h3, h4, h5⟩ => ⟨L', h1, h2, h3, ⟨h4.os, h4.tape, h4.output, h4.size, h4.block⟩, h5⟩
  have HR := Lib.hid hr
  have HF := Lib.hid hf
  have HE := Lib.hid he
  have hem : e ≤ 35184372088832 := by omega
  clear hr hf he hpl
  have e1 : IntKind.i64.wrap ((e : Int) - safe) = (e : Int) - safe := IntWalk.i64_in _ (by omega)
  suffices hall : ∀ n : Nat, safe ≤ n → n ≤ e → ∀ t : Int, t = (n : Int) - safe → Hid (left bs safe k = bs.take n) → (k < 0 ∧ ¬ (e : Int) - safe < 0 ∧ t = 0 ∨ ¬ k < 0 ∧ ¬ (e : Int) - safe < k ∧ t = k ∨ ¬ k < 0 ∧ (e : Int) - safe < k ∧ t = (e : Int) - safe) → Calls Tryd.prog 21 #[.pointer (some ⟨q, 0, none⟩), .int .i64 k] w (Does DObj q (q :: pcBlks L) ⟨left bs safe k, safe, true, none⟩ m (.tuple #[]) w) by
    by_cases hneg : k < 0
    · exact hall safe (Nat.le_refl _) hsf 0 (by omega) (pcleft_low hneg) (.inl ⟨hneg, by omega, rfl⟩)
    · by_cases hlt : (e : Int) - safe < k
      · exact hall e hsf (Nat.le_refl _) ((e : Int) - safe) rfl (pcleft_all HE.out (by omega)) (.inr (.inr ⟨hneg, hlt, rfl⟩))
      · obtain ⟨j, rfl⟩ : ∃ j : Nat, k = j := ⟨k.toNat, by omega⟩
        exact hall (safe + j) (by omega) (by omega) j (by omega) pcleft_mid (.inr (.inl ⟨hneg, hlt, rfl⟩))
  intro n hn1 hn2 t ht HLEFT hcase
  have e2 : IntKind.i64.wrap ((safe : Int) + t) = (n : Int) := by rw [IntWalk.i64_in _ (by omega)]; omega
  have e3 : IntKind.i64.wrap (safe : Int) = (safe : Int) := IntWalk.i64_in _ (by omega)
  have e4 : IntKind.i64.wrap (n : Int) = (n : Int) := IntWalk.i64_in _ (by omega)
  have HT := Lib.hid ht
  have HFN := Lib.hid (fun j => HFIRST.out n j hn2)
  clear ht
  rcases hcase with ⟨h1, h2, rfl⟩ | ⟨h1, h2, rfl⟩ | ⟨h1, h2, rfl⟩
  case' inl => obtain rfl : safe = n := by (have := HT.out; omega)
  case' inr.inr => obtain rfl : e = n := by (have := HT.out; omega)
  all_goals
    go_enter Tryd.func21, Tryd.ntmps21
    go_wp2
    go_quiet ((go_at_call 50; exact Calls.quiet_of (HEND.out _)))
    go_wp2
    go_region_with ((go_at_call 51; (with_reducible refine (HFN.out _).mono ?_); rintro r w4 ⟨L4, rfl, hP4, hB4, hM4, hK4⟩; have HA4 := Lib.hid (HR.out.still hM4); have d0 := cell_at (HR.out.still hM4).at_ 0 (v := ptr L) rfl; have g0 := free_at (HR.out.still hM4).at_ 0; have d1 := cell_at (HR.out.still hM4).at_ 1 (v := .int .i64 safe) rfl; have HP4 := Lib.hid hP4; have HB4 := Lib.hid hB4; have HM4 := Lib.hid hM4; have HK4 := Lib.hid hK4; clear hP4 hB4 hM4 hK4; obtain ⟨a4, ha4⟩ := ptr_is L4; rw [ha4]; have HPT := Lib.hid ha4; clear ha4))
    all_goals
      have d2 := cell_at HA4.out.at_ 2 (v := .bool false) rfl
      have d3 := cell_at HA4.out.at_ 3 (v := .bool ar) rfl
      have d4 := cell_at HA4.out.at_ 4 (v := .int .i64 kp) rfl
      have g2 := free_at HA4.out.at_ 2
      have g3 := free_at HA4.out.at_ 3
      have g4 := free_at HA4.out.at_ 4
      go_wp2
      go_end0
      refine ⟨rfl, _, ⟨L4, false, 0, rfl, ((((DRaw.put HA4.out.at_ HPT.out HP4.out (HR.out.new_ne (fun _ h => h) HK4.out)).set2 true).set3 false).set4 0), ⟨by rw [HB4.out, HLEFT.out], rfl, ?_, by rw [HLEFT.out]; exact HF.out.bytes.take _, ⟨?_, fun _ => rfl⟩, by omega, by omega⟩⟩, ?_⟩
      · have h9 := HE.out
        rw [HLEFT.out, List.length_take]; omega
      · have h9 := HE.out
        rw [HLEFT.out]; show safe ≤ (List.take _ bs).length; rw [List.length_take]; omega
      · exact (((dput HM4.out (fun _ h => h) HK4.out q 0 _).trans (dstep _ q 2 _ _)).trans (dstep _ q 3 _ _)).trans (dstep _ q 4 _ _)
theorem dcrash_any (q : Nat) (fq : List Nat) (s : DSt) (m : Nat) (k : Int) (w : World) (hQ : DObj w q fq s m) (hm : m ≤ 35184372088832) :
    Calls Tryd.prog 21 #[.pointer (some ⟨q, 0, none⟩), .int .i64 k] w (Does DObj q fq (s.crash k) m (.tuple #[]) w) := by
  obtain ⟨bs, safe, dead, trip⟩ := s
  cases dead
  · exact dcrash_live q fq bs safe trip m k w hQ hm
  · exact dcrash_dead q fq _ m k w hQ rfl
set_option maxRecDepth 100000 in
theorem dtrips_no (q : Nat) (fq : List Nat) (bs : List Int) (safe : Nat) (dead : Bool) (m : Nat) (w : World) (hQ : DObj w q fq ⟨bs, safe, dead, none⟩ m) :
    Calls Tryd.prog 58 #[.pointer (some ⟨q, 0, none⟩)] w fun r w' => r = .returned (.bool false) ∧ w = w' := by
  obtain ⟨L, ar, kp, rfl, hr, hf⟩ := hQ
  obtain rfl : ar = false := by
    have := hf.trip
    cases ar
    · rfl
    · simp at this
  have c3 := cell_at hr.at_ 3 (v := .bool false) rfl
  clear hr hf
  go_enter Tryd.func58, Tryd.ntmps58
  go_wp2
  go_ret
  exact ⟨rfl, rfl⟩
set_option maxRecDepth 100000 in
theorem dtrips_yes (q : Nat) (fq : List Nat) (bs : List Int) (safe : Nat) (k : Int) (m : Nat) (w : World) (hQ : DObj w q fq ⟨bs, safe, false, some k⟩ m) (hm : m ≤ 35184372088832) :
    Calls Tryd.prog 58 #[.pointer (some ⟨q, 0, none⟩)] w (Does DObj q fq ⟨left bs safe k, safe, true, none⟩ m (.bool true) w) := by
  have HQ := Lib.hid hQ
  obtain ⟨L, ar, kp, rfl, hr, hf⟩ := hQ
  have htr := hf.trip
  cases ar
  · simp at htr
  · obtain rfl : k = kp := by simpa using htr
    have c3 := cell_at hr.at_ 3 (v := .bool true) rfl
    have c4 := cell_at hr.at_ 4 (v := .int .i64 k) rfl
    clear hr hf htr
    go_enter Tryd.func58, Tryd.ntmps58
    go_wp2_with fail
    refine (dcrash_live q _ bs safe _ m k _ HQ.out hm).mono ?_
    rintro r w1 ⟨rfl, f1, h1, hS1⟩
    have H1 := Lib.hid h1
    have HS1 := Lib.hid hS1
    clear h1 hS1
    go_wp2
    go_ret
    exact ⟨rfl, f1, H1.out, HS1.out⟩
end Dk
end Go.Proofs.YtekleamkpfeifaaDoor
