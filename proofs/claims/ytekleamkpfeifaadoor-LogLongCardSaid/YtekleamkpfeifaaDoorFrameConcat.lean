/-
  CONTRACTS of the library's bytes.Clone, slices.Grow (of nil) and slices.Concat, over bytes.
-/
import Derived.Test.YtekleamkpfeifaaDoorFramePlain
import Derived.Test.YtekleamkpfeifaaDoorRowLit
import Derived.Lib.SliceRun
import Derived.Lib.AppendZeros
namespace Go.Proofs.YtekleamkpfeifaaDoor
namespace Fr
open Go.RowKit
set_option maxRecDepth 100000 in
set_option maxHeartbeats 1000000 in
theorem clone_any (ad : Addr) (n c : Nat) (xs : List Int) (w : World) (hA : NRow .u8 w (some ad) xs) (hn : xs.length = n) (hlen : n ≤ 70368744177664) :
    Calls Tryd.prog 72 #[.slice (some ad) n c] w (NewBytes xs w) := by
  subst hn
  obtain ⟨i0, hi, hz0, hz1, hz2⟩ := info_parts info_u8
  have q : ∀ (w : World) (a : Option Addr) (n c n' c' : Nat), (binOp .eql 27 (.slice a n c) (.slice none n' c')).run Tryd.prog w = .ok (.bool a.isNone) w := fun w a n c n' c' => Lib.run_eql_slice_nil w _ _ a n c n' c' Tryd.underlying27
  have HA := Lib.hid (hA.alloc (.cells #[] 5))
  have HE := Lib.hid (own_lit (w := w) (e := 5) [] (by decide) #[] rfl)
  clear hA
  go_enter Tryd.func72, Tryd.ntmps72
  go_wp2_with (at_builtin; refine wpList_append_row rfl _ _ 27 rfl 5 i0 .u8 1 Tryd.underlying27 hi hz0 hz1 hz2 (.slice (some ⟨w.heap.size, 0, none⟩) 0 0) 0 [] rfl HE.out.1 _ _ _ _ rfl rfl HA.out (fun h => by cases h) (by unfold maxLen; omega) (by omega) ?_)
  intro v' w1 hown hst
  have HO := Lib.hid hown
  have HST := Lib.hid (show Step w w1 [] (rowOf v') from ⟨HE.out.2.1.trans hst.1 (fun k hk => .inr ((HE.out.2.2 k hk).elim (fun h => by cases h) id)), fun k hk => .inr ((hst.2 k hk).elim (fun h => (HE.out.2.2 k h).elim (fun h => by cases h) id) (fun h => by simp at h; omega))⟩)
  clear hown hst
  go_wp2
  go_ret
  exact ⟨v', rfl, by simpa using HO.out, HST.out⟩
set_option maxRecDepth 100000 in
set_option maxHeartbeats 1000000 in
theorem grow_nil (k : Nat) (w : World) (hk : k ≤ 70368744177664) :
    Calls Tryd.prog 70 #[.slice none 0 0, .int .i64 k] w (NewBytes [] w) := by
  obtain ⟨i0, hi, hz0, hz1, hz2⟩ := info_parts info_u8
  by_cases h0 : k = 0
  · subst h0
    go_enter Tryd.func70, Tryd.ntmps70
    go_wp2
    go_ret
    exact ⟨_, rfl, World.ownsRow_nil _ _ _ _, Step.refl _ _⟩
  · have hpos : 0 < k := by omega
    have hr := fun ty => Lib.run_append_nil_zeros (P := Tryd.prog) w 27 3 ty 5 i0 (.int .u8 0) .i64 .i64 Tryd.underlying27 Tryd.underlying3 hi hz0 k hpos (by omega) (by omega) (by rw [hz2]; omega)
    have hge := grownCap_ge w k 0 5
    have hle := grownCap_le_maxLen w k 0 5 (by unfold maxLen; omega)
    obtain ⟨G, hG⟩ : ∃ G, G = grownCap w k 0 5 := ⟨_, rfl⟩
    rw [← hG] at hr hge hle
    obtain ⟨cs, hcs⟩ : ∃ cs, cs = Builtin.zeroCells (Value.int .u8 0).cells k ++ Builtin.zeroCells (Value.int .u8 0).cells (G - k) := ⟨_, rfl⟩
    have HCS := Lib.hid (show cs.size = G by rw [hcs]; simp [Builtin.zeroCells, Value.cells]; omega)
    rw [← hcs] at hr
    have hG63 : G ≤ 9223372036854775807 := by unfold maxLen at hle; omega
    have HLE := Lib.hid hle
    clear hcs hG hle
    go_enter Tryd.func70, Tryd.ntmps70
    go_wp2_with (at_builtin; refine Lib.wpList_append_run _ rfl _ _ _ _ rfl _ _ rfl rfl _ _ (hr _) ?_)
    all_goals
      go_ret
      exact ⟨_, rfl, ⟨rfl, .inr ⟨w.heap.size, G, cs, rfl, Nat.zero_le _, heap_alloc_new w.drew _, Nat.zero_le _, HLE.out, by simpa using HCS.out, rfl⟩⟩, (Moved.refl w []).drew.alloc _, fun j hj => .inr (by have h1 : w.heap.size = j := (by simpa [mem_rowOf, Value.ownBlock] using hj); omega)⟩
theorem flat_take_len {ps : List (List Int)} {k : Nat} {p : List Int} (hp : ps[k]? = some p) : (ps.take (k + 1)).flatten.length = (ps.take k).flatten.length + p.length := by
  rw [flat_step hp, List.length_append]
set_option maxRecDepth 100000 in
set_option maxHeartbeats 2000000 in
theorem concat_any (A : Option Addr) (n c : Nat) (vs : List Value) (ps : List (List Int)) (w : World) (hA : BRows w A vs ps) (hn : ps.length = n) (hl : n ≤ 1099511627776) (hfl : ps.flatten.length ≤ 1099511627776) :
    Calls Tryd.prog 64 #[.slice A n c] w (NewBytes ps.flatten w) := by
  subst hn
  obtain ⟨i0, hi, hz0, hz1, hz2⟩ := info_parts info_u8
  have HA := Lib.hid hA
  clear hA
  go_enter Tryd.func64, Tryd.ntmps64
  go_wp2
  go_loop [3, 11] (fun s i => ∃ (k sz : Nat), s = .int .i64 sz ∧ i = .int .i64 k ∧ k ≤ ps.length ∧ sz ≤ 1099511627776 ∧ Hid (sz = (ps.take k).flatten.length)) (fun _ i => ps.length - (intOf i).toNat)
  case atStart => exact ⟨0, 0, rfl, rfl, by omega, by omega, by simp [Hid]⟩
  case round =>
    obtain ⟨k, sz, rfl, rfl, hk, hsz, HSZ⟩ := hrel
    by_cases hlt : k < ps.length
    · obtain ⟨b1, o1, B1, c1, p, rfl, hp1, hc1, hr1, hn1, hcp⟩ := HA.out.at_ (i := k) hlt
      have HT := Lib.hid (flat_take_len hp1)
      have hle : sz + p.length ≤ 1099511627776 := by
        have h1 := HT.out
        rw [← HSZ.out] at h1
        have h2 := flat_take_le (ps := ps) (k + 1)
        omega
      clear hp1 hr1 hn1 hcp
      go_wp2
      go_round
      case rel => exact ⟨k + 1, sz + p.length, by go_num, by go_num, by omega, hle, by show _ = _; rw [HT.out, HSZ.out]⟩
      case measure => simp [intOf]; omega
    · have hkl : ps.take k = ps := List.take_of_length_le (by omega)
      clear HSZ hkl
      go_wp2_with fail
      refine (grow_nil sz w (by omega)).mono ?_
      rintro e w1 ⟨v1, rfl, hO1, hS1⟩
      have HO1 := Lib.hid hO1
      have HS1 := Lib.hid hS1
      clear hO1 hS1
      go_wp2
      go_loopw [6, 27] (fun v i wr => ∃ (k : Nat) (al : List Int), i = .int .i64 k ∧ k ≤ ps.length ∧ al.length ≤ 1099511627776 ∧ Hid (al = (ps.take k).flatten) ∧ wr.ownsRow 0 5 1 v al.length (al.map (Value.int .u8)) ∧ Step w wr [] (rowOf v)) (fun _ i _ => ps.length - (intOf i).toNat)
      case atStart => exact ⟨0, [], rfl, by omega, by simp, by simp [Hid], HO1.out, HS1.out⟩
      case round =>
        obtain ⟨k, al, rfl, hk, has, HAS, hO, hS⟩ := hrel
        obtain ⟨Ao, co, rfl, -⟩ := own_shape hO
        have HO := Lib.hid hO
        have HS := Lib.hid hS
        have HA3 := Lib.hid (HA.out.moved hS.1 (fun _ _ h => by cases h))
        clear hO hS
        by_cases hlt : k < ps.length
        · obtain ⟨b1, o1, B1, c1, p, rfl, hp1, hc1, hr1, hn1, -⟩ := HA3.out.at_ (i := k) hlt
          have HT := Lib.hid (show al ++ p = (ps.take (k + 1)).flatten by rw [HAS.out, flat_step hp1])
          have hle : al.length + p.length ≤ 1099511627776 := by
            have h1 := congrArg List.length HT.out
            rw [List.length_append] at h1
            have h2 := flat_take_le (ps := ps) (k + 1)
            omega
          have HR1 := Lib.hid hr1
          have HN1 := Lib.hid hn1
          clear hp1 hr1 hn1
          go_wp2_with (at_builtin; refine wpList_append_row rfl _ _ 27 rfl 5 i0 .u8 1 Tryd.underlying27 hi hz0 hz1 hz2 (.slice Ao al.length co) _ _ rfl HO.out B1 p.length c1 p rfl rfl HR1.out HN1.out (by unfold maxLen; omega) (by omega) ?_)
          intro v2 w3 hown hst
          have HO3 := Lib.hid (show w3.ownsRow 0 5 1 v2 (al ++ p).length ((al ++ p).map (Value.int .u8)) by rw [List.length_append, List.map_append]; exact hown)
          have HS3 := Lib.hid (show Step w w3 [] (rowOf v2) from ⟨HS.out.1.trans hst.1 (fun b hb => .inr (Step.new HS.out b hb)), fun b hb => .inr ((hst.2 b hb).elim (Step.new HS.out b) (fun h => Nat.le_trans HS.out.1.size h))⟩)
          clear hown hst
          obtain ⟨A3, c3, rfl, -⟩ := own_shape HO3.out
          go_wp2
          go_roundw
          case rel => exact ⟨k + 1, al ++ p, by go_num, by omega, by simp; omega, HT.out, HO3.out, HS3.out⟩
          case measure => simp [intOf]; omega
        · have HAS2 := Lib.hid (show al = ps.flatten by rw [HAS.out, List.take_of_length_le (by omega)])
          go_wp2
          go_ret
          exact ⟨_, rfl, by rw [← HAS2.out]; exact HO.out, HS.out⟩
end Fr
end Go.Proofs.YtekleamkpfeifaaDoor
