/-
  CONTRACT of (*disk.piece).with.
-/
import Derived.Test.YtekleamkpfeifaaDoorDiskJoin
namespace Go.Proofs.YtekleamkpfeifaaDoor
namespace Dk
open Go.RowKit
/-- Pieces are answered that hold these bytes: those that were there, and new ones; all that was there stays. -/
def Told (bs : List Int) (S : List Nat) (w : World) (r : Ending) (w' : World) : Prop :=
  ∃ L, r = .returned (ptr L) ∧ PcAt w' L ∧ pcBytes L = bs ∧ Moved w w' [] ∧ ∀ k ∈ pcBlks L, k ∈ S ∨ w.heap.size ≤ k
theorem row_nrow {w : World} {g : Nat} {xs : List Int} {e : TypeId} (h : w.heap[g]? = some (.cells (xs.map (Value.int .u8)).toArray e (0, 0))) : NRow .u8 w (some ⟨g, 0, none⟩) xs := by
  intro i x hx
  refine ⟨g, 0, rfl, ?_⟩
  rw [cell_of_row _ _ _ _ _ _ h, ← Array.getElem?_toList, Nat.zero_add, List.getElem?_map, hx]
  rfl
theorem told_new {w w5 : World} {D T : List Pc} {ys : List Int} {g M : Nat} (hP : PcAt w (D ++ T)) (hMl : (pcBytes D ++ ys).length = M) (hpos : 0 < ys.length) (hrow : w5.heap[g]? = some (.cells ((pcBytes D ++ ys).map (Value.int .u8)).toArray 5 (0, 0))) (hg : w.heap.size ≤ g) (hM : Moved w w5 []) :
    Told (pcBytes (D ++ T) ++ ys) (pcBlks (D ++ T)) w (.returned (.pointer (some ⟨w5.heap.size, 0, none⟩))) (w5.alloc (.cells #[ptr T, .int .i64 (pcBytes T).length, .slice (some ⟨g, 0, none⟩) M M] 85)) := by
  subst hMl
  have hT := PcAt.tail hP
  have hlt := lt_of_block hrow
  refine ⟨⟨w5.heap.size, g, pcBytes D ++ ys⟩ :: T, rfl, ⟨heap_alloc_new _ _, (row_nrow hrow).alloc _, by simp; omega, by rw [List.length_append]; omega, ?_, (hT.still hM).stays ?_⟩, ?_, hM.alloc _, ?_⟩
  · intro k hk
    exact Nat.lt_of_lt_of_le (hT.lt k hk) hM.size
  · intro k hk
    exact Below.heap_alloc w5 _ k (Nat.lt_of_lt_of_le (hT.lt k hk) hM.size)
  · rw [pcBytes, pcBytes_append, List.append_assoc]
  · intro k hk
    rcases List.mem_cons.1 hk with rfl | hk
    · exact .inr hM.size
    · rcases List.mem_cons.1 hk with rfl | hk
      · exact .inr hg
      · exact .inl (by rw [pcBlks_append]; exact List.mem_append.2 (.inr hk))
/-- The same, the bytes' number named. -/
def FreshN (M : Nat) (xs : List Int) (w : World) (r : Ending) (w' : World) : Prop :=
  ∃ g, r = .returned (.slice (some ⟨g, 0, none⟩) M M) ∧ w.heap.size ≤ g ∧ w'.heap[g]? = some (.cells (xs.map (Value.int .u8)).toArray 5 (0, 0)) ∧ Moved w w' []
theorem Fresh.named {M : Nat} {xs : List Int} {w w' : World} {r : Ending} (h : Fresh xs w r w') (hM : xs.length = M) : FreshN M xs w r w' := by
  subst hM; exact h
theorem calls_more {P : Program} {f : FuncId} {args : Array Value} {w : World} {k l : Nat} {v : Value} (h : Calls P f args (w.drewN (k + l)) fun e w' => e = .returned v ∧ ∃ j, w' = (w.drewN (k + l)).drewN j) :
    Calls P f args (w.drewN (k + l)) fun e w' => e = .returned v ∧ ∃ m, w' = w.drewN (k + m) :=
  h.mono fun _ _ ⟨he, j, hj⟩ => ⟨he, l + j, by rw [hj, World.drewN_drewN, Nat.add_assoc]⟩
set_option maxRecDepth 100000 in
theorem pwith_none (L : List Pc) (A : Option Addr) (c : Nat) (w : World) (hP : PcAt w L) :
    Calls Tryd.prog 52 #[ptr L, .slice A 0 c] w (Told (pcBytes L) (pcBlks L) w) := by
  have HP := Lib.hid hP
  clear hP
  go_enter Tryd.func52, Tryd.ntmps52
  go_wp2
  go_ret
  exact ⟨L, rfl, HP.out, rfl, Moved.refl _ _, fun _ h => .inl h⟩
set_option maxRecDepth 100000 in
set_option maxHeartbeats 1000000 in
theorem pwith_some (L : List Pc) (A : Option Addr) (n c : Nat) (ys : List Int) (w : World) (hP : PcAt w L) (hY : NRow .u8 w A ys) (hl : ys.length = n) (hpos : 0 < n) (hnil : A = none → c = 0) (hc : n ≤ c) (hc2 : c ≤ 9223372036854775807) (hm : (pcBytes L).length + n ≤ 35184372088832) :
    Calls Tryd.prog 52 #[ptr L, .slice A n c] w (Told (pcBytes L ++ ys) (pcBlks L) w) := by
  obtain ⟨e, he⟩ : ∃ e, e = (pcBytes L).length := ⟨_, rfl⟩
  obtain ⟨N, hN⟩ : ∃ N, N = e + n := ⟨_, rfl⟩
  rw [← he] at hm
  have HE := Lib.hid he
  have HP := Lib.hid hP
  have HY := Lib.hid hY
  have HL := Lib.hid hl
  have HNIL := Lib.hid hnil
  have e1 : (e : Int) + (n : Int) = (N : Int) := by omega
  have b1 : N ≤ 35184372088832 := by omega
  have b2 : e ≤ N := by omega
  clear he hP hY hl hnil hN
  go_enter Tryd.func52, Tryd.ntmps52
  go_wp2_with fail
  refine (pend_any L _ (by exact HP.out) (by rw [← HE.out]; omega)).mono ?_
  rw [← HE.out]
  rintro r w1 ⟨rfl, k1, rfl⟩
  go_wp2
  go_loopw [6] (fun p wr => ∃ (D T : List Pc) (k : Nat), Hid (L = D ++ T) ∧ p = ptr T ∧ wr = w.drewN k) (fun p _ => ptrRank p)
  case atStart => exact ⟨[], L, k1, rfl, rfl, rfl⟩
  case round =>
    obtain ⟨D, T, k, HD, rfl, rfl⟩ := hrel
    rcases T with _ | ⟨x, r⟩
    · obtain rfl : L = D := by rw [HD.out, List.append_nil]
      obtain ⟨M, hM2⟩ : ∃ M, (pcBytes L ++ ys).length = M := ⟨_, rfl⟩
      have HM2 := Lib.hid hM2
      clear hM2
      have HJ : Hid (∀ k, Calls Tryd.prog 55 #[ptr L, .int .i64 0, .slice A n c] (w.drewN k) (FreshN M (pcBytes L ++ ys) (w.drewN k))) := by
        intro k
        have h := pjoin_any L [] A n c ys (w.drewN k) (by rw [List.append_nil]; exact HP.out.drewN k) (by exact HY.out) HL.out HNIL.out hc hc2 (by rw [List.append_nil, ← HE.out]; exact hm)
        rw [List.append_nil] at h
        exact h.mono fun r w' h => h.named HM2.out
      rw [show ptr [] = .pointer none from rfl]
      go_wp2
      go_quiet (fail)
      go_wp2_with fail
      refine (pend_nil _).mono ?_
      rintro x1 w3 ⟨rfl, k3, rfl⟩
      go_wp2_with fail
      refine (HJ.out _).mono ?_
      rintro x5 w5 ⟨g, rfl, hg, hrow, hM⟩
      have HT := Lib.hid (told_new (w := w) (w5 := w5) (D := L) (T := []) (ys := ys) (M := M) (by rw [List.append_nil]; exact HP.out) HM2.out (by rw [HL.out]; exact hpos) hrow hg ⟨hM.os, hM.tape, hM.output, hM.size, hM.block⟩)
      rw [List.append_nil] at HT
      clear hg hrow hM
      go_wp2
      go_ret
      exact HT.out
    · obtain ⟨hat, hrow, -, hxpos, hlow, hrest⟩ := PcAt.tail (a := D) (b := x :: r) (by rw [← HD.out]; exact HP.out)
      obtain ⟨a, ha⟩ : ∃ a, a = (pcBytes r).length := ⟨_, rfl⟩
      obtain ⟨m, hm2⟩ : ∃ m, m = x.ys.length := ⟨_, rfl⟩
      have hlen : a + m ≤ e := by
        have h1 := congrArg (fun l => (pcBytes l).length) HD.out
        simp only [pcBytes_append, pcBytes, List.length_append] at h1
        rw [← HE.out, ← ha, ← hm2] at h1
        omega
      obtain ⟨u, hu⟩ : ∃ u, u = a + m := ⟨_, rfl⟩
      obtain ⟨v, hv⟩ : ∃ v, v = N - u := ⟨_, rfl⟩
      have HU := Lib.hid (show (pcBytes (x :: r)).length = u by rw [pcBytes, List.length_append, ← ha, ← hm2, hu])
      have HPX := Lib.hid (PcAt.tail (a := D) (b := x :: r) (by rw [← HD.out]; exact HP.out))
      have c0 := cell_at hat 0 rfl
      have c2 := cell_at hat 2 rfl
      rw [← hm2] at c2
      have HLOW := Lib.hid hlow
      have e3 : IntKind.i64.wrap ((N : Int) - (u : Int)) = (v : Int) := by rw [IntWalk.i64_in _ (by omega)]; omega
      have b3 : u ≤ e := by omega
      have HEND : Hid (∀ j, Calls Tryd.prog 50 #[.pointer (some ⟨x.p, 0, none⟩)] (w.drewN j) fun e w' => e = .returned (.int .i64 u) ∧ ∃ i, w' = (w.drewN j).drewN i) := by
        intro j
        have h9 := pend_any (x :: r) _ (HPX.out.drewN j) (by rw [HU.out]; omega)
        rw [HU.out] at h9
        exact h9
      rw [show ptr (x :: r) = .pointer (some ⟨x.p, 0, none⟩) from rfl]
      clear hat hrow hxpos hlow hrest ha hm2 hu hv hlen
      by_cases hlt : m ≤ v
      · go_wp2
        go_quiet ((go_at_call 50; exact calls_more (HEND.out _)))
        go_wp2
        go_roundw
        case rel => exact ⟨D ++ [x], r, _, by rw [HD.out, List.append_assoc]; rfl, rfl, rfl⟩
        case measure => exact rank_lt HLOW.out
      · obtain ⟨M, hM2⟩ : ∃ M, (pcBytes D ++ ys).length = M := ⟨_, rfl⟩
        have HM2 := Lib.hid hM2
        have HDX := Lib.hid (show PcAt w (D ++ x :: r) by rw [← HD.out]; exact HP.out)
        have HJ : Hid (∀ k, Calls Tryd.prog 55 #[ptr L, .int .i64 u, .slice A n c] (w.drewN k) (FreshN M (pcBytes D ++ ys) (w.drewN k))) := by
          intro k
          have h := pjoin_any D (x :: r) A n c ys (w.drewN k) (HDX.out.drewN k) (by exact HY.out) HL.out HNIL.out hc hc2 (by rw [← HD.out, ← HE.out]; exact hm)
          rw [HU.out, ← HD.out] at h
          exact h.mono fun r w' h => h.named HM2.out
        clear hM2
        have hvm : v < m := by omega
        clear hlt
        go_wp2
        go_quiet ((go_at_call 50; exact calls_more (HEND.out _)))
        go_wp2_with fail
        refine (HEND.out _).mono ?_
        rintro x1 w3 ⟨rfl, k3, rfl⟩
        go_wp2_with fail
        refine (HJ.out _).mono ?_
        rintro x5 w5 ⟨g, rfl, hg, hrow, hM⟩
        have HT := Lib.hid (told_new (w := w) (w5 := w5) (D := D) (T := x :: r) (ys := ys) (M := M) HDX.out HM2.out (by rw [HL.out]; exact hpos) hrow hg ⟨hM.os, hM.tape, hM.output, hM.size, hM.block⟩)
        rw [HU.out, ← HD.out] at HT
        clear hg hrow hM
        go_wp2
        go_ret
        exact HT.out
theorem pwith_any (L : List Pc) (A : Option Addr) (n c : Nat) (ys : List Int) (w : World) (hP : PcAt w L) (hY : NRow .u8 w A ys) (hl : ys.length = n) (hnil : A = none → c = 0) (hc : n ≤ c) (hc2 : c ≤ 9223372036854775807) (hm : (pcBytes L).length + n ≤ 35184372088832) :
    Calls Tryd.prog 52 #[ptr L, .slice A n c] w (Told (pcBytes L ++ ys) (pcBlks L) w) := by
  rcases Nat.eq_zero_or_pos n with rfl | h
  · rw [List.eq_nil_of_length_eq_zero hl, List.append_nil]
    exact pwith_none L A c w hP
  · exact pwith_some L A n c ys w hP hY hl h hnil hc hc2 hm
end Dk
end Go.Proofs.YtekleamkpfeifaaDoor
