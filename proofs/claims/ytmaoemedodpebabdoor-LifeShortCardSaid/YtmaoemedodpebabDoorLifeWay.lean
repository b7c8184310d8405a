/-
  CONTRACT of life.Way.
-/
import Derived.Test.YtmaoemedodpebabDoorLifePlaces
import Derived.Test.YtmaoemedodpebabDoorLifeLaws
import Derived.BigQuiet
namespace Go.Proofs.YtmaoemedodpebabDoor
namespace Lf
open Go.RowKit
set_option maxRecDepth 100000 in
set_option maxHeartbeats 4000000 in
theorem way_some_any (α : Nat) (b : Int) (w : World) (hα : isSt (α : Int)) (hb : isSt b) (hld : Ld w) :
    Calls Tryd.prog 5 #[.int .i64 α, .int .i64 b] w (WayTold (wayL α b) w) := by
  obtain ⟨k0, l, hk0, hw, hfound, hbefore⟩ := found hα hb
  have HRA := Lib.hid (right_yes hα)
  have HRB := Lib.hid (right_yes hb)
  have hα8 : α < 8 := by have := hα.2; omega
  have hα8i : (α : Int) < 8 := by omega
  have HST := Lib.hid hα
  have HF := Lib.hid hfound
  have HB := Lib.hid hbefore
  have HLD := Lib.hid hld
  rw [hw]
  clear hα hb hfound hbefore hld hw
  go_enter Tryd.func5, Tryd.ntmps5
  go_wp2_with (first
    | (go_at_call 7; with_reducible refine (HRA.out _).mono ?_; rintro r w1 ⟨rfl, rfl⟩)
    | (go_at_call 7; with_reducible refine (HRB.out _).mono ?_; rintro r w1 ⟨rfl, rfl⟩))
  obtain ⟨i0, hi, hz0, hz1, hz2⟩ := info_parts info_ints
  obtain ⟨j0, hj, hy0, hy1, hy2⟩ := info_parts info_place
  go_loopw [7, 8] (fun v i wr => ∃ k : Nat, i = .int .i64 k ∧ k ≤ k0 ∧ ∃ us, Hid (Here w wr v w.heap.size (bfs α k) us)) (fun _ i _ => k0 - (intOf i).toNat)
  case atStart => exact ⟨0, rfl, by omega, _, here_start w α⟩
  case round =>
    obtain ⟨wo, rfl⟩ : ∃ wo, wo = wr := ⟨_, rfl⟩
    obtain ⟨k, rfl, hk, us, HH⟩ := hrel
    by_cases hlt : k < k0
    · obtain ⟨p, hp, hne⟩ := HB.out k hlt
      obtain ⟨u, hu⟩ := HH.out.some_at hp
      have hlen := (List.getElem?_eq_some_iff.1 hp).1
      obtain ⟨g, c, rfl, hg, hlc, hcm⟩ := HH.out.shape (by omega)
      obtain ⟨c1, c2⟩ := HH.out.cells hp hu
      have HE := Lib.hid (HH.out.evs k p u hp hu)
      have HP := Lib.hid hp
      have hgood := mid_good' HST.out (k := k) (m := 0) (by omega) (by omega)
      rw [mid_zero] at hgood
      have hfew := hgood.few.2
      have hpl := (hgood.st k p hp).2
      obtain ⟨n, hn⟩ : ∃ n, n = (bfs α k).2.length := ⟨_, rfl⟩
      obtain ⟨st, hst⟩ : ∃ st, st = p.1 := ⟨_, rfl⟩
      obtain ⟨l0, hl0⟩ : ∃ l0, l0 = p.2 := ⟨_, rfl⟩
      rw [← hl0] at HE hpl
      obtain ⟨Au, cu, rfl, -⟩ := own_shape HE.out.own
      obtain ⟨q, hq⟩ : ∃ q, q = l0.length := ⟨_, rfl⟩
      rw [← hq] at c2 hpl
      rw [← hst] at c1 hne
      rw [← hn] at hlen hlc hfew HH HE ⊢
      have HNN := Lib.hid hn
      have HST1 := Lib.hid hst
      have HL0 := Lib.hid hl0
      have hkn : (k : Int) < (n : Int) := by omega
      have dne : decide (st = b) = false := by simpa using hne
      have dne2 : (st == b) = false := by simpa using hne
      have HQ := Lib.hid hq
      clear hp hu hgood hn hst hl0 hq
      go_wp2_with fail
      have hpk : w.heap.size < wo.heap.size := blk_lt HH.out.known
      have HMA : Hid (Moved wo (wo.alloc (.cells #[.int .i64 st, .slice Au q cu] 35)) []) := (Moved.refl wo []).alloc _
      go_loopw [7, 10] (fun v i w2 => ∃ m : Nat, i = .int .i64 ((m : Int) + 1) ∧ m ≤ 10 ∧ ∃ us, Hid (Here w w2 v w.heap.size (mid α k m) us) ∧ Hid (Ev w w2 w.heap.size v l0 (.slice Au q cu)) ∧ Hid (w2.heap[wo.heap.size]? = some (.cells #[.int .i64 st, .slice Au q cu] 35 (0, 0)) ∧ wo.heap.size ∉ rowOf v)) (fun _ i _ => 11 - (intOf i).toNat)
      case atStart =>
        refine ⟨0, rfl, by omega, us, ?_, ?_, ?_⟩
        · rw [mid_zero]; exact HH.out.go HMA.out
        · have hE := HE.out.moved HMA.out
          rw [← HQ.out] at hE
          exact hE
        · exact ⟨heap_alloc_new wo _, fun h => by have : g = wo.heap.size := (by simpa [mem_rowOf, Value.ownBlock] using h); omega⟩
      case round =>
        obtain ⟨m, rfl, hm, us2, HH2, HE2, HN9⟩ := hrel
        by_cases hlt2 : m < 10
        · have hsucc := mid_succ (m := m) HP.out
          rw [← HST1.out, ← HL0.out] at hsucc
          have hg2 := mid_good' HST.out (k := k) (m := m) (by omega) (by omega)
          obtain ⟨s, hs⟩ : ∃ s, s = mid α k m := ⟨_, rfl⟩
          rw [← hs] at HH2 hsucc hg2
          have h8 := hg2.eight
          have hsm := hg2.few.2
          have HLD2 := Lib.hid (HLD.out.moved HH2.out.moved)
          have c90 := cell_at HN9.out.1 0 (v := .int .i64 st) rfl
          have dle : decide ((m : Int) + 1 ≤ 10) = true := by simp; omega
          cases hn : nxt st ((m : Int) + 1) with
          | none =>
            have HSC := Lib.hid (hsucc.trans (seen_none hn))
            have HNX := Lib.hid (show ∀ W, Ld W → Calls Tryd.prog 10 #[.int .i64 st, .int .i64 ((m : Int) + 1)] W fun r w' => r = .returned (.tuple #[.int .i64 0, .bool false]) ∧ Moved W w' [] from fun W h => by have := next_any st ((m : Int) + 1) W h; rw [hn] at this; exact this)
            clear hn hsucc hs hg2 h8 hsm
            go_wp2_with (go_at_call 10; refine (HNX.out _ HLD2.out).mono ?_; rintro r w3 ⟨rfl, hM3⟩; have HM3 := Lib.hid hM3; clear hM3)
            go_roundw
            case rel => exact ⟨m + 1, by go_num, by omega, us2, by rw [HSC.out]; exact HH2.out.go HM3.out, HE2.out.moved HM3.out, blk_kept HN9.out.1 HM3.out, HN9.out.2⟩
            case measure => simp [intOf]; omega
          | some t0 =>
            obtain ⟨t, rfl⟩ : ∃ t : Nat, t0 = t := ⟨t0.toNat, by have := (nxt_st hn).2.1.1; omega⟩
            have ht8 : t < 8 := by have := (nxt_st hn).2.1.2; omega
            have ht8i : (t : Int) < 8 := by omega
            have HNX := Lib.hid (show ∀ W, Ld W → Calls Tryd.prog 10 #[.int .i64 st, .int .i64 ((m : Int) + 1)] W fun r w' => r = .returned (.tuple #[.int .i64 t, .bool true]) ∧ Moved W w' [] from fun W h => by have := next_any st ((m : Int) + 1) W h; rw [hn] at this; exact this)
            obtain ⟨o, ho⟩ : ∃ o, s.1[t]? = some o := ⟨s.1[t]'(by omega), List.getElem?_eq_getElem _⟩
            cases o
            · have HSC := Lib.hid (hsucc.trans (seen_new hn ho))
              have HO := Lib.hid ho
              clear hn hsucc hs hg2 h8 ho
              go_wp2_with (go_at_call 10; refine (HNX.out _ HLD2.out).mono ?_; rintro r w3 ⟨rfl, hM3⟩; have HH3 := Lib.hid (HH2.out.go hM3); have HE3 := Lib.hid (HE2.out.moved hM3); have HN3 := Lib.hid (blk_kept HN9.out.1 hM3); have ck := HH3.out.bit HO.out; have fk := free_at HH3.out.known t; have HH4 := Lib.hid (HH3.out.mark t); have HE4 := Lib.hid (HE3.out.mark t (.bool true)); have HN4 := Lib.hid ((Below.heap_setCell w3 ⟨w.heap.size, t, none⟩ (.bool true) wo.heap.size (Nat.ne_of_gt hpk)).trans HN3.out); have c91 := cell_at HN4.out 1 (v := .slice Au q cu) rfl; clear hM3)
              refine (iclone_any _ l0 _ HE4.out.own (by rw [← HQ.out]; omega)).mono ?_
              rintro r w5 ⟨v5, rfl, hO5, hS5⟩
              have HO5 := Lib.hid (hO5.alloc (.cells #[.int .i64 ((m : Int) + 1)] 3))
              have HS5 := Lib.hid hS5
              have hl07 : l0.length ≤ 7 := by rw [← HQ.out]; exact hpl
              clear hO5 hS5
              go_wp2_with (at_builtin; refine wpList_append_row rfl (.tmp 66) (.tmp 68) 22 rfl 3 i0 .i64 8 Tryd.underlying22 hi hz0 hz1 hz2 v5 l0.length (l0.map (Value.int .i64)) rfl (by exact HO5.out) (some ⟨w5.heap.size, 0, none⟩) 1 1 [(m : Int) + 1] rfl rfl (by exact nrow_lit .i64 w5 _ _) (fun h => by cases h) (by unfold maxLen; omega) (by omega) ?_)
              intro v7 w7 hO7 hS7
              obtain ⟨A7, c7, rfl, -⟩ := own_shape hO7
              have hgr := grow_step (o2 := .cells #[.int .i64 t, .slice A7 (l0.length + 1) c7] 35) HS5.out hS7
              have HGR := Lib.hid hgr.1
              have HH8 := Lib.hid (HH4.out.go hgr.1)
              have HE8 := Lib.hid (HH4.out.ev (l := l0 ++ [(m : Int) + 1]) (w8 := w7.alloc (.cells #[.int .i64 t, .slice A7 (l0.length + 1) c7] 35)) (by rw [List.length_append, List.map_append]; exact hO7.alloc _) hgr.2)
              clear hO7 hS7 hgr
              go_wp2_with (at_builtin; refine wpList_append_roww rfl (.tmp 62) (.tmp 71) 36 rfl 35 j0 _ 2 32 Tryd.underlying36 hj hy0 hy1 hy2 rfl (by decide) _ s.2.length (pcs s.2 us2) rfl (by exact HH8.out.row) ⟨w7.heap.size, 0, none⟩ 1 1 [.int .i64 t, .slice A7 (l0.length + 1) c7] rfl rfl (by exact place_news w7 _ _ _) (place_one _ _ _ _) (by unfold maxLen; omega) (by omega) ?_)
              intro v9 w9 hO9 hS9
              have HH9 := Lib.hid (HH8.out.push (t : Int) HE8.out hO9 hS9)
              have HE9 := Lib.hid ((HE4.out.moved HGR.out).step hS9)
              have hblk := blk_kept HN4.out HGR.out
              have HN99 := Lib.hid (show w9.heap[wo.heap.size]? = some (.cells #[.int .i64 st, .slice Au q cu] 35 (0, 0)) ∧ wo.heap.size ∉ rowOf v9 from ⟨(hS9.1.block _ (blk_lt hblk) HN9.out.2).trans hblk, fun h => (hS9.2 _ h).elim HN9.out.2 (fun h2 => by have := blk_lt hblk; omega)⟩)
              clear hO9 hS9 hblk
              go_wp2
              go_roundw
              case rel => exact ⟨m + 1, by go_num, by omega, _, by rw [HSC.out]; exact HH9.out, HE9.out, HN99.out⟩
              case measure => simp [intOf]; omega
            · have HSC := Lib.hid (hsucc.trans (seen_old hn ho))
              have HO := Lib.hid ho
              clear hn hsucc hs hg2 h8 hsm ho
              go_wp2_with (go_at_call 10; refine (HNX.out _ HLD2.out).mono ?_; rintro r w3 ⟨rfl, hM3⟩; have HM3 := Lib.hid hM3; have ck := (HH2.out.go hM3).bit HO.out; clear hM3)
              go_roundw
              case rel => exact ⟨m + 1, by go_num, by omega, us2, by rw [HSC.out]; exact HH2.out.go HM3.out, HE2.out.moved HM3.out, blk_kept HN9.out.1 HM3.out, HN9.out.2⟩
              case measure => simp [intOf]; omega
        · obtain rfl : m = 10 := by omega
          rw [mid_ten] at HH2
          go_wp2
          go_roundw
          case rel => exact ⟨k + 1, by go_num, by omega, us2, HH2.out⟩
          case measure => simp [intOf]; omega
    · obtain rfl : k = k0 := by omega
      have hp := HF.out
      obtain ⟨u, hu⟩ := HH.out.some_at hp
      have hlen := (List.getElem?_eq_some_iff.1 hp).1
      obtain ⟨g, c, rfl, hg, hlc, hcm⟩ := HH.out.shape (by omega)
      obtain ⟨c1, c2⟩ := HH.out.cells hp hu
      have HE := Lib.hid (HH.out.evs k _ u hp hu)
      obtain ⟨Au, cu, rfl, -⟩ := own_shape HE.out.own
      obtain ⟨n, hn⟩ : ∃ n, n = (bfs α k).2.length := ⟨_, rfl⟩
      rw [← hn] at hlen hlc HH ⊢
      have hkn : (k : Int) < (n : Int) := by omega
      clear hp hu hn
      go_wp2
      go_ret2
      exact ⟨_, rfl, HE.out.own.alloc _, fun b hb => (HE.out.apart b hb).1, HH.out.moved.alloc _⟩
set_option maxRecDepth 100000 in
theorem way_any (a b : Int) (w : World) (hld : Ld w) : Calls Tryd.prog 5 #[.int .i64 a, .int .i64 b] w (WayTold (wayL a b) w) := by
  by_cases ha : isSt a
  · by_cases hb : isSt b
    · obtain ⟨α, rfl⟩ : ∃ α : Nat, a = α := ⟨a.toNat, by have := ha.1; omega⟩
      exact way_some_any α b w ha hb hld
    · have hw : wayL a b = none := by unfold wayL; rw [if_neg (fun h => hb h.2)]
      have HRA := Lib.hid (right_yes ha)
      have HRB := Lib.hid (right_no hb)
      rw [hw]
      have hne : a ≠ b := fun h => hb (h ▸ ha)
      clear ha hb hld hw
      go_enter Tryd.func5, Tryd.ntmps5
      go_wp2_with fail
      refine (HRA.out _).mono ?_
      rintro r w1 ⟨rfl, rfl⟩
      go_wp2_with fail
      refine (HRB.out _).mono ?_
      rintro r w1 ⟨rfl, rfl⟩
      go_wp2
      go_ret2
      exact ⟨.slice none 0 0, rfl, World.ownsRow_nil _ _ _ _, fun k hk => by simp [rowOf, Value.ownBlock] at hk, Moved.refl _ _⟩
  · have hw : wayL a b = none := by unfold wayL; rw [if_neg (fun h => ha h.1)]
    have HRA := Lib.hid (right_no ha)
    rw [hw]
    clear ha hld hw
    go_enter Tryd.func5, Tryd.ntmps5
    go_wp2_with fail
    refine (HRA.out _).mono ?_
    rintro r w1 ⟨rfl, rfl⟩
    go_wp2
    go_ret2
    exact ⟨.slice none 0 0, rfl, World.ownsRow_nil _ _ _ _, fun k hk => by simp [rowOf, Value.ownBlock] at hk, Moved.refl _ _⟩
end Lf
end Go.Proofs.YtmaoemedodpebabDoor
