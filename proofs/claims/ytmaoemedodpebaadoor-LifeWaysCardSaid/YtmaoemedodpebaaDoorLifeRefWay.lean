/-
  CONTRACT of the document's own Way.
-/
import Derived.Test.YtmaoemedodpebaaDoorLifeRefNext
import Derived.Test.YtmaoemedodpebaaDoorKeepInts
namespace Go.Proofs.YtmaoemedodpebaaDoor
namespace Lf
open Go.RowKit
theorem own_ilit {w : World} {e : TypeId} (xs : List Int) (hm : xs.length ≤ maxLen) (cs : Array Value) (hcs : cs.toList = xs.map (Value.int .i64)) :
    (w.alloc (.cells cs e)).ownsRow 0 e 1 (.slice (some ⟨w.heap.size, 0, none⟩) xs.length xs.length) xs.length (xs.map (Value.int .i64)) ∧ Step w (w.alloc (.cells cs e)) [] (rowOf (.slice (some ⟨w.heap.size, 0, none⟩) xs.length xs.length)) := by
  have hs : cs.size = xs.length * 1 := by rw [← Array.length_toList, hcs]; simp
  refine ⟨?_, (Moved.refl w []).alloc _, fun k hk => .inr (by have h1 : w.heap.size = k := (by simpa [mem_rowOf, Value.ownBlock] using hk); omega)⟩
  have h := World.ownsRow_lit (e := e) (size := 1) (base := 0) w cs xs.length (by omega) hm hs
  rw [← hcs]; exact h
theorem own_still {w w' : World} {base : Nat} {e : TypeId} {size : Nat} {v : Value} {n : Nat} {xs : List Value} (h : w.ownsRow base e size v n xs) (hM : Moved w w' []) : w'.ownsRow base e size v n xs :=
  own_stays h (fun k hk => hM.block k (own_lt h k hk) (fun h => by cases h))
def evs : List Int := [1, 2, 3, 4, 5, 6, 7, 8, 9, 10]
def stepOf (n : Nat) (a b ev : Int) : Option (List Int) := match nxt a ev with
  | none => none
  | some c => (wayN n c b).map (ev :: ·)
theorem way_succ (n : Nat) (a b : Int) : wayN (n + 1) a b = evs.findSome? (stepOf n a b) := rfl
theorem evs_at (k : Nat) (h : k < 10) : evs[k]? = some ((k : Int) + 1) := by
  rcases (by omega : k = 0 ∨ k = 1 ∨ k = 2 ∨ k = 3 ∨ k = 4 ∨ k = 5 ∨ k = 6 ∨ k = 7 ∨ k = 8 ∨ k = 9) with rfl | rfl | rfl | rfl | rfl | rfl | rfl | rfl | rfl | rfl <;> rfl
theorem find_on {n k : Nat} {a b : Int} (hk : k < 10) (h : stepOf n a b ((k : Int) + 1) = none) : (evs.drop k).findSome? (stepOf n a b) = (evs.drop (k + 1)).findSome? (stepOf n a b) := by
  rw [drop_at (evs_at k hk), List.findSome?_cons, h]
theorem find_got {n k : Nat} {a b : Int} {l : List Int} (hk : k < 10) (h : stepOf n a b ((k : Int) + 1) = some l) : (evs.drop k).findSome? (stepOf n a b) = some l := by
  rw [drop_at (evs_at k hk), List.findSome?_cons, h]
theorem told_none (w w' : World) (hM : Moved w w' []) : WayTold none w (.returned (.tuple #[.slice none 0 0, .bool false])) w' :=
  ⟨_, rfl, World.ownsRow_nil _ _ _ _, fun k hk => by simp [rowOf, Value.ownBlock] at hk, hM⟩
set_option maxRecDepth 100000 in
set_option maxHeartbeats 4000000 in
theorem refway_any (n : Nat) : ∀ (a b : Int) (w : World), n ≤ 8 →
    Calls Tryd.prog 24 #[.int .i64 a, .int .i64 b, .int .i64 n] w (WayTold (wayN n a b) w) := by
  induction n with
  | zero =>
    intro a b w _
    go_enter Tryd.func24, Tryd.ntmps24
    go_wp2
    go_ret2
    by_cases hab : a = b
    · subst hab
      exact ⟨.slice none 0 0, by simp [wayN], by simp only [wayN]; exact World.ownsRow_nil _ _ _ _, fun k hk => by simp [rowOf, Value.ownBlock] at hk, Moved.refl _ _⟩
    · have hb : (a == b) = false := by simpa using hab
      exact ⟨.slice none 0 0, by simp [wayN, hab], by simp only [wayN, if_neg hab]; exact World.ownsRow_nil _ _ _ _, fun k hk => by simp [rowOf, Value.ownBlock] at hk, Moved.refl _ _⟩
  | succ n ih =>
    intro a b w hn8
    obtain ⟨N, hN⟩ : ∃ N : Int, N = ((n + 1 : Nat) : Int) := ⟨_, rfl⟩
    have HI := Lib.hid (show ∀ (a b : Int) (w : World), Calls Tryd.prog 24 #[.int .i64 a, .int .i64 b, .int .i64 (N - 1)] w (WayTold (wayN n a b) w) from fun a b w => by rw [show N - 1 = (n : Int) by omega]; exact ih a b w (by omega))
    rw [← hN]
    have hN1 : 1 ≤ N := by omega
    have hN8 : N ≤ 8 := by omega
    clear ih hN
    have hz : (N == 0) = false := by simp; omega
    obtain ⟨i0, hi, hz0, hz1, hz2⟩ := info_parts info_int
    go_enter Tryd.func24, Tryd.ntmps24
    go_wp2
    go_loopw [8] (fun i wr => ∃ k : Nat, i = .int .i64 ((k : Int) + 1) ∧ k ≤ 10 ∧ Hid (wayN (n + 1) a b = (evs.drop k).findSome? (stepOf n a b)) ∧ Moved w wr []) (fun i _ => 11 - (intOf i).toNat)
    case atStart => exact ⟨0, rfl, by omega, rfl, Moved.refl _ _⟩
    case round =>
      obtain ⟨k, rfl, hk, HF, hM⟩ := hrel
      have HM := Lib.hid hM
      clear hM
      by_cases hlt : k < 10
      · have hd : decide ((k : Int) + 1 ≤ 10) = true := by simp; omega
        cases hn : nxt a ((k : Int) + 1) with
        | none =>
          have HN := Lib.hid hn
          have HR : Hid (wayN (n + 1) a b = (evs.drop (k + 1)).findSome? (stepOf n a b)) := HF.out.trans (find_on hlt (by unfold stepOf; rw [hn]))
          clear hn
          go_wp2_with (go_at_call 10; refine (refNext_no _ HN.out).mono ?_; rintro e w1 ⟨rfl, hM1⟩; have HM1 := Lib.hid (HM.out.trans hM1 (fun _ h => by cases h)); clear hM1)
          go_roundw
          case rel => exact ⟨k + 1, by go_num, by omega, HR.out, HM1.out⟩
          case measure => simp [intOf]; omega
        | some t =>
          have HN := Lib.hid hn
          cases hw : wayN n t b with
          | none =>
            have HW := Lib.hid hw
            have HR : Hid (wayN (n + 1) a b = (evs.drop (k + 1)).findSome? (stepOf n a b)) := HF.out.trans (find_on hlt (by unfold stepOf; rw [hn]; dsimp only; rw [hw]; rfl))
            clear hn hw
            go_wp2_with fail
            refine (refNext_yes _ HN.out).mono ?_
            rintro e w1 ⟨rfl, hM1⟩
            have HM1 := Lib.hid (HM.out.trans hM1 (fun _ h => by cases h))
            clear hM1
            go_wp2_with fail
            refine (HI.out t b w1).mono ?_
            rw [HW.out]
            rintro e w2 ⟨v2, rfl, hO2, hf2, hM2⟩
            have HM2 := Lib.hid (HM1.out.trans hM2 (fun _ h => by cases h))
            clear hO2 hf2 hM2
            go_wp2
            go_roundw
            case rel => exact ⟨k + 1, by go_num, by omega, HR.out, HM2.out⟩
            case measure => simp [intOf]; omega
          | some l =>
            have HW := Lib.hid hw
            have HR : Hid (wayN (n + 1) a b = some (((k : Int) + 1) :: l)) := HF.out.trans (find_got hlt (by unfold stepOf; rw [hn]; dsimp only; rw [hw]; rfl))
            have hl8 : l.length ≤ 8 := by have := (way_leads n t b l hw).2; omega
            clear hn hw
            go_wp2_with fail
            refine (refNext_yes _ HN.out).mono ?_
            rintro e w1 ⟨rfl, hM1⟩
            have HM1 := Lib.hid (HM.out.trans hM1 (fun _ h => by cases h))
            clear hM1
            go_wp2_with fail
            refine (HI.out t b w1).mono ?_
            rw [HW.out]
            rintro e w2 ⟨v2, rfl, hO2, hf2, hM2⟩
            have HM2 := Lib.hid (HM1.out.trans hM2 (fun _ h => by cases h))
            obtain ⟨A2, c2, rfl, hA2n, hA2c⟩ := own_shape hO2
            have HO2 := Lib.hid (show w2.ownsRow 0 3 1 (.slice A2 l.length c2) l.length (l.map (Value.int .i64)) from hO2)
            clear hO2 hf2 hM2
            go_wp2_with (at_builtin; refine wpList_append_row rfl _ _ 22 rfl 3 i0 .i64 8 Tryd.underlying22 hi hz0 hz1 hz2 (.slice (some ⟨w2.heap.size, 0, none⟩) 1 1) 1 [.int .i64 ((k : Int) + 1)] rfl (by exact (own_ilit [(k : Int) + 1] (by unfold maxLen; simp) #[.int .i64 ((k : Int) + 1)] rfl).1) A2 l.length c2 l rfl rfl (by exact NRow.of_own (own_still HO2.out ((Moved.refl w2 []).alloc _))) hA2n (by unfold maxLen; omega) (by omega) ?_)
            · intro v3 w3 hO3 hS3
              have HO3 := Lib.hid hO3
              have HS3 := Lib.hid hS3
              clear hO3 hS3
              go_wp2
              go_ret2
              show WayTold (wayN (n + 1) a b) _ _ _
              rw [HR.out]
              have hlit : ∀ j ∈ rowOf (.slice (some ⟨w2.heap.size, 0, none⟩) 1 1), w.heap.size ≤ j := fun j hj => by
                have h1 : w2.heap.size = j := by simpa [mem_rowOf, Value.ownBlock] using hj
                have := HM2.out.size
                omega
              have hal : w2.heap.size ≤ (w2.alloc (.cells #[.int .i64 ((k : Int) + 1)] 3)).heap.size := ((Moved.refl w2 []).alloc _).size
              exact ⟨v3, rfl, by have h := HO3.out; rw [Nat.add_comm 1 l.length] at h; exact h, fun j hj => (HS3.out.2 j hj).elim (hlit j) (fun h' => by have := HM2.out.size; omega),
                (HM2.out.alloc _).trans HS3.out.1 (fun j hj => .inr (hlit j hj))⟩
      · have HR : Hid (wayN (n + 1) a b = none) := HF.out.trans (by rw [List.drop_of_length_le (by show 10 ≤ k; omega)]; rfl)
        have hd : decide ((k : Int) + 1 ≤ 10) = false := by simp; omega
        go_wp2
        go_ret2
        show WayTold (wayN (n + 1) a b) _ _ _
        rw [HR.out]
        exact told_none w _ HM.out
def ns : List Nat := [0, 1, 2, 3, 4, 5, 6, 7, 8]
theorem ns_at (k : Nat) (h : k < 9) : ns[k]? = some k := by
  rcases (by omega : k = 0 ∨ k = 1 ∨ k = 2 ∨ k = 3 ∨ k = 4 ∨ k = 5 ∨ k = 6 ∨ k = 7 ∨ k = 8) with rfl | rfl | rfl | rfl | rfl | rfl | rfl | rfl | rfl <;> rfl
theorem drop_nat {xs : List Nat} {k : Nat} {x : Nat} (h : xs[k]? = some x) : xs.drop k = x :: xs.drop (k + 1) := by
  rw [List.drop_eq_getElem_cons (List.getElem?_eq_some_iff.1 h).1, (List.getElem?_eq_some_iff.1 h).2]
theorem ways_at {k : Nat} (a b : Int) (h : k < 9) : (ns.drop k).findSome? (fun n => wayN n a b) = match wayN k a b with | some l => some l | none => (ns.drop (k + 1)).findSome? (fun n => wayN n a b) := by
  rw [drop_nat (ns_at k h), List.findSome?_cons]
  cases wayN k a b <;> rfl
set_option maxRecDepth 100000 in
set_option maxHeartbeats 4000000 in
theorem refWay_any (a b : Int) (w : World) :
    Calls Tryd.prog 17 #[.int .i64 a, .int .i64 b] w (WayTold (wayL a b) w) := by
  by_cases hst : isSt a ∧ isSt b
  · have h0 : wayL a b = ns.findSome? (fun n => wayN n a b) := by unfold wayL; rw [if_pos hst]; rfl
    obtain ⟨⟨ha0, ha7⟩, ⟨hb0, hb7⟩⟩ := hst
    have da0 : decide (a < 0) = false := by simp; omega
    have da7 : decide (7 < a) = false := by simp; omega
    have db0 : decide (b < 0) = false := by simp; omega
    have db7 : decide (7 < b) = false := by simp; omega
    have H0 := Lib.hid h0
    clear h0
    go_enter Tryd.func17, Tryd.ntmps17
    go_wp2
    go_loopw [6] (fun i wr => ∃ k : Nat, i = .int .i64 k ∧ k ≤ 9 ∧ Hid (wayL a b = (ns.drop k).findSome? (fun n => wayN n a b)) ∧ Moved w wr []) (fun i _ => 10 - (intOf i).toNat)
    case atStart => exact ⟨0, rfl, by omega, H0.out, Moved.refl _ _⟩
    case round =>
      obtain ⟨k, rfl, hk, HF, hM⟩ := hrel
      have HM := Lib.hid hM
      clear hM
      by_cases hlt : k < 9
      · have hd : decide ((k : Int) ≤ 8) = true := by simp; omega
        cases hw : wayN k a b with
        | none =>
          have HW := Lib.hid hw
          have HR : Hid (wayL a b = (ns.drop (k + 1)).findSome? (fun n => wayN n a b)) := HF.out.trans (by rw [ways_at a b hlt, hw])
          clear hw
          go_wp2_with fail
          refine (refway_any k a b wr (by omega)).mono ?_
          rw [HW.out]
          rintro e w2 ⟨v2, rfl, hO2, hf2, hM2⟩
          have HM2 := Lib.hid (HM.out.trans hM2 (fun _ h => by cases h))
          clear hO2 hf2 hM2
          go_wp2
          go_roundw
          case rel => exact ⟨k + 1, by go_num, by omega, HR.out, HM2.out⟩
          case measure => simp [intOf]; omega
        | some l =>
          have HW := Lib.hid hw
          have HR : Hid (wayL a b = some l) := HF.out.trans (by rw [ways_at a b hlt, hw])
          clear hw
          go_wp2_with fail
          refine (refway_any k a b wr (by omega)).mono ?_
          rw [HW.out]
          rintro e w2 ⟨v2, rfl, hO2, hf2, hM2⟩
          have HM2 := Lib.hid (HM.out.trans hM2 (fun _ h => by cases h))
          have HO2 := Lib.hid hO2
          have HF2 := Lib.hid (fun j hj => Nat.le_trans HM.out.size (hf2 j hj) : ∀ j ∈ rowOf v2, w.heap.size ≤ j)
          clear hO2 hf2 hM2
          go_wp2
          go_ret2
          show WayTold (wayL a b) _ _ _
          rw [HR.out]
          exact ⟨v2, rfl, HO2.out, HF2.out, HM2.out⟩
      · have HR : Hid (wayL a b = none) := HF.out.trans (by rw [List.drop_of_length_le (by show 9 ≤ k; omega)]; rfl)
        have hd : decide ((k : Int) ≤ 8) = false := by simp; omega
        go_wp2
        go_ret2
        show WayTold (wayL a b) _ _ _
        rw [HR.out]
        exact told_none w _ HM.out
  · have HN : Hid (wayL a b = none) := by show _ = _; unfold wayL; rw [if_neg hst]
    have hcase : a < 0 ∨ 7 < a ∨ b < 0 ∨ 7 < b := by unfold isSt at hst; omega
    clear hst
    by_cases h1 : a < 0
    · go_enter Tryd.func17, Tryd.ntmps17
      go_wp2
      go_ret2
      show WayTold (wayL a b) _ _ _
      rw [HN.out]
      exact told_none w _ (Moved.refl _ _)
    · have d1 : decide (a < 0) = false := by simpa using h1
      by_cases h2 : 7 < a
      · go_enter Tryd.func17, Tryd.ntmps17
        go_wp2
        go_ret2
        show WayTold (wayL a b) _ _ _
        rw [HN.out]
        exact told_none w _ (Moved.refl _ _)
      · have d2 : decide (7 < a) = false := by simpa using h2
        by_cases h3 : b < 0
        · go_enter Tryd.func17, Tryd.ntmps17
          go_wp2
          go_ret2
          show WayTold (wayL a b) _ _ _
          rw [HN.out]
          exact told_none w _ (Moved.refl _ _)
        · have d3 : decide (b < 0) = false := by simpa using h3
          have h4 : 7 < b := by omega
          go_enter Tryd.func17, Tryd.ntmps17
          go_wp2
          go_ret2
          show WayTold (wayL a b) _ _ _
          rw [HN.out]
          exact told_none w _ (Moved.refl _ _)
end Lf
end Go.Proofs.YtmaoemedodpebaaDoor
