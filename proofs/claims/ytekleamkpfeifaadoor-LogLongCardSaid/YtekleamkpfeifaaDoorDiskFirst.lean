/-
  CONTRACT of (*disk.piece).first.
-/
import Derived.Test.YtekleamkpfeifaaDoorDiskWith
import Derived.Deep.RegionHeld3
namespace Go.Proofs.YtekleamkpfeifaaDoor
namespace Dk
open Go.RowKit
theorem cell_moved {w w1 : World} {a : Addr} {v : Value} (hM : Moved w w1 []) (h : w.cell? a = some v) : w1.cell? a = some v := by
  rw [World.cell?_of_block (w := w) (hM.block _ (World.block_lt_of_cell? w a h) (fun h => by cases h))]; exact h
theorem Told.from_tail {bs : List Int} {D T : List Pc} {w w0 w' : World} {r : Ending} (h : Told bs (pcBlks T) w r w') (hM : Moved w0 w []) : Told bs (pcBlks (D ++ T)) w0 r w' := by
  obtain ⟨L, h1, h2, h3, h4, h5⟩ := h
  exact ⟨L, h1, h2, h3, hM.trans h4 (fun _ h => by cases h), fun k hk => (h5 k hk).imp (fun h => by rw [pcBlks_append]; exact List.mem_append.2 (.inr h)) (fun h => Nat.le_trans hM.size h)⟩
set_option maxRecDepth 100000 in
set_option maxHeartbeats 1000000 in
theorem pfirst_any (L : List Pc) (n : Nat) (w : World) (hP : PcAt w L) (hn : n ≤ (pcBytes L).length) (hm : (pcBytes L).length ≤ 35184372088832) :
    Calls Tryd.prog 51 #[ptr L, .int .i64 n] w (Told ((pcBytes L).take n) (pcBlks L) w) := by
  obtain ⟨e, he⟩ : ∃ e, e = (pcBytes L).length := ⟨_, rfl⟩
  have hn63 : n ≤ 35184372088832 := by omega
  rw [← he] at hm
  have HN := Lib.hid hn
  have HE := Lib.hid he
  have HP := Lib.hid hP
  clear he hP hn
  go_enter Tryd.func51, Tryd.ntmps51
  go_wp2
  go_loop [0] (fun p => ∃ D T : List Pc, Hid (L = D ++ T) ∧ p = ptr T ∧ Hid (n ≤ (pcBytes T).length ∧ (pcBytes T).take n = (pcBytes L).take n)) (fun p => ptrRank p)
  case atStart => exact ⟨[], L, rfl, rfl, HN.out, rfl⟩
  case round =>
    obtain ⟨D, T, HD, rfl, HT⟩ := hrel
    rcases T with _ | ⟨x, r⟩
    · obtain rfl : n = 0 := by have := HT.out.1; simpa [pcBytes] using this
      rw [show ptr [] = .pointer none from rfl]
      go_wp2_with fail
      refine (pend_nil _).mono ?_
      rintro x1 w3 ⟨rfl, k3, rfl⟩
      go_wp2
      go_ret
      exact ⟨[], rfl, trivial, by simp [pcBytes], (Moved.refl _ _).drewN _, fun _ h => by cases h⟩
    · have hpx := PcAt.tail (a := D) (b := x :: r) (by rw [← HD.out]; exact HP.out)
      have HPX := Lib.hid hpx
      obtain ⟨hat, hrow, -, hxpos, hlow, hrest⟩ := hpx
      obtain ⟨a, ha⟩ : ∃ a, a = (pcBytes r).length := ⟨_, rfl⟩
      obtain ⟨m, hm2⟩ : ∃ m, m = x.ys.length := ⟨_, rfl⟩
      have hlen : a + m ≤ e := by
        have h1 := congrArg (fun l => (pcBytes l).length) HD.out
        simp only [pcBytes_append, pcBytes, List.length_append] at h1
        rw [← HE.out, ← ha, ← hm2] at h1
        omega
      obtain ⟨u, hu⟩ : ∃ u, u = a + m := ⟨_, rfl⟩
      have HU := Lib.hid (show (pcBytes (x :: r)).length = u by rw [pcBytes, List.length_append, ← ha, ← hm2, hu])
      have hnu : n ≤ u := by rw [← HU.out]; exact HT.out.1
      have c0 := cell_at hat 0 (v := ptr r) rfl
      have c1 := cell_at hat 1 (v := .int .i64 a) (by rw [ha]; rfl)
      have c2 := cell_at hat 2 (v := .slice (some ⟨x.g, 0, none⟩) m m) (by rw [hm2]; rfl)
      have HLOW := Lib.hid hlow
      have HA := Lib.hid ha
      have HM := Lib.hid hm2
      have HROW := Lib.hid hrow
      have HREST := Lib.hid hrest
      have b3 : u ≤ e := by omega
      have HEND : Hid (∀ j, Calls Tryd.prog 50 #[.pointer (some ⟨x.p, 0, none⟩)] (w.drewN j) fun e w' => e = .returned (.int .i64 u) ∧ ∃ i, w' = (w.drewN j).drewN i) := by
        intro j
        have h9 := pend_any (x :: r) _ (HPX.out.drewN j) (by rw [HU.out]; omega)
        rw [HU.out] at h9
        exact h9
      rw [show ptr (x :: r) = .pointer (some ⟨x.p, 0, none⟩) from rfl]
      by_cases hge : n ≤ a
      · have HT2 : Hid (n ≤ (pcBytes r).length ∧ (pcBytes r).take n = (pcBytes L).take n) := by
          refine ⟨by rw [← ha]; exact hge, ?_⟩
          rw [← HT.out.2, pcBytes, List.take_append_of_le_length (by rw [← ha]; exact hge)]
        clear hat hrow hxpos hlow hrest ha hm2 hu hlen
        go_wp2
        go_round
        case rel => exact ⟨D ++ [x], r, by rw [HD.out, List.append_assoc]; rfl, rfl, HT2.out⟩
        case measure => exact rank_lt HLOW.out
      · have hgt : a < n := by omega
        have HAU := Lib.hid hu
        clear hge hat hrow hxpos hlow hrest ha hm2 hlen
        by_cases hun : u ≤ n
        · clear hu
          go_wp2_with fail
          refine (HEND.out 0).mono ?_
          rintro x1 w3 ⟨rfl, k3, rfl⟩
          go_wp2
          go_ret
          refine ⟨x :: r, rfl, HPX.out.drewN _, ?_, (Moved.refl _ _).drewN _, fun k hk => .inl (by rw [HD.out, pcBlks_append]; exact List.mem_append.2 (.inr hk))⟩
          rw [← HT.out.2, List.take_of_length_le (by rw [HU.out]; exact hun)]
        · have hun2 : n < u := by omega
          obtain ⟨v, hv⟩ : ∃ v, v = n - a := ⟨_, rfl⟩
          have e3 : IntKind.i64.wrap ((n : Int) - (a : Int)) = (v : Int) := by rw [IntWalk.i64_in _ (by omega)]; omega
          have b4 : (0 : Int) ≤ (v : Int) := by omega
          have b5 : (v : Int) ≤ (m : Int) := by omega
          have HV := Lib.hid hv
          have HTOLD : Hid (∀ j, Calls Tryd.prog 52 #[ptr r, .slice (some ⟨x.g, 0, none⟩) v m] ((w.drewN j).drew) (Told ((pcBytes L).take n) (pcBlks r) w)) := by
            intro j
            have h := pwith_any r (some ⟨x.g, 0, none⟩) v m (x.ys.take v) ((w.drewN j).drew) (HREST.out.stays (fun _ _ => rfl)) (NRow.drew ((HROW.out.drewN j).take v)) (by rw [List.length_take, ← HM.out]; omega) (fun h => by cases h) (by omega) (by omega) (by rw [← HA.out]; omega)
            rw [show pcBytes r ++ x.ys.take v = (pcBytes L).take n by
              rw [← HT.out.2, pcBytes, List.take_append, ← HA.out, ← HV.out, List.take_of_length_le (l := pcBytes r) (by rw [← HA.out]; omega)]] at h
            exact h.mono fun q w' ⟨L', h1, h2, h3, h4, h5⟩ => ⟨L', h1, h2, h3, ⟨h4.os, h4.tape, h4.output, h4.size, h4.block⟩, h5⟩
          clear hun hu hv
          go_wp2_with fail
          refine (HEND.out 0).mono ?_
          rintro x1 w3 ⟨rfl, k3, rfl⟩
          go_wp2
          go_region_held3 (fun w' => w'.cell? ⟨x.p, 0, none⟩ = some (ptr r) ∧ w'.cell? ⟨x.p, 1, none⟩ = some (.int .i64 a) ∧ w'.cell? ⟨x.p, 2, none⟩ = some (.slice (some ⟨x.g, 0, none⟩) m m)) (first | go_keep | exact ⟨cell_moved HM4.out c0, cell_moved HM4.out c1, cell_moved HM4.out c2⟩) ((go_at_call 52; refine (HTOLD.out _).mono ?_; rintro q w4 ⟨L4, rfl, hP4, hB4, hM4, hK4⟩; have HP4 := Lib.hid hP4; have HB4 := Lib.hid hB4; have HM4 := Lib.hid hM4; have HK4 := Lib.hid hK4; clear hP4 hB4 hM4 hK4))
          go_wp2
          go_ret
          exact ⟨L4, rfl, HP4.out, HB4.out, HM4.out, fun k hk => (HK4.out k hk).imp (fun h => by rw [HD.out, pcBlks_append]; simp [pcBlks, h]) id⟩
end Dk
end Go.Proofs.YtekleamkpfeifaaDoor
