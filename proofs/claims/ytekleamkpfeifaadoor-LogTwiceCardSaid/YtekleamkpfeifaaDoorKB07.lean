/-
  2 texts in one: DiskJoin, DiskWith.
-/
import Derived.Test.YtekleamkpfeifaaDoorKB06
import Derived.Deep.OwnRows
import Derived.Laws.CopyOwn

/-
  CONTRACT of (*disk.piece).joined.
-/
namespace Go.Proofs.YtekleamkpfeifaaDoor
namespace Dk
open Go.RowKit
/-- New bytes are answered, with room for just these; all that was there stays. -/
def Fresh (xs : List Int) (w : World) (r : Ending) (w' : World) : Prop :=
  ∃ g, r = .returned (.slice (some ⟨g, 0, none⟩) xs.length xs.length) ∧ w.heap.size ≤ g ∧ w'.heap[g]? = some (.cells (xs.map (Value.int .u8)).toArray 5 (0, 0)) ∧ Moved w w' []
/-- Room whose end is filled. -/
def half (z : Nat) (xs : List Int) : List Value := List.replicate z (.int .u8 0) ++ xs.map (Value.int .u8)
theorem half_length (z : Nat) (xs : List Int) : (half z xs).length = z + xs.length := by simp [half]
theorem half_splice (a b : Nat) (xs ys : List Int) (h : ys.length = b) : splice (half (a + b) xs) a (ys.map (Value.int .u8)) = half a (ys ++ xs) := by
  subst h
  unfold splice half
  rw [List.take_append_of_le_length (by simp), List.take_replicate, Nat.min_eq_left (by omega), List.map_append]
  congr 1
  rw [List.drop_append, List.length_map, List.drop_replicate]
  simp
theorem half_new (z n : Nat) (ys : List Int) (h : ys.length = n) : splice (List.replicate (z + n) (Value.int .u8 0)) z (ys.map (Value.int .u8)) = half z ys := by
  have := half_splice z n [] ys h
  simpa [half] using this
theorem src_of {w : World} {A : Option Addr} {ys : List Int} (h : NRow .u8 w A ys) (hn : 0 < (ys.map (Value.int .u8)).length) : ∃ ad, A = some ad ∧ ∀ (j : Nat) (v : Value), (ys.map (Value.int .u8))[j]? = some v → w.cell? (ad.add j) = some v := by
  rcases ys with _ | ⟨y, r⟩
  · simp at hn
  · obtain ⟨b, off, rfl, _⟩ := h 0 y (by simp)
    exact ⟨_, rfl, nrow_news h⟩
theorem made_zero (w : World) (N : Nat) : (w.alloc (.cells (madeCells #[Value.int .u8 0] N) 5)).heap[w.heap.size]? = some (.cells (List.replicate N (Value.int .u8 0)).toArray 5 (0, 0)) := by
  rw [heap_alloc_new, ← toList_madeCells_one]
theorem rank_lt {L : List Pc} {p : Nat} (h : ∀ k ∈ pcBlks L, k < p) : ptrRank (ptr L) < p + 1 := by
  rcases L with _ | ⟨c, r⟩
  · simp [ptr, ptrRank]
  · have := h c.p (by simp [pcBlks])
    simp [ptr, ptrRank]; omega
theorem below_made (w : World) (k : Nat) (o : Obj) : Below w.heap.size w ((w.drewN k).alloc o) := (((Moved.refl w []).drewN k).alloc o).below (Nat.le_refl _) (fun _ h => by cases h)
set_option maxRecDepth 100000 in
set_option maxHeartbeats 1000000 in
theorem pjoin_any (L1 L2 : List Pc) (A : Option Addr) (n c : Nat) (ys : List Int) (w : World) (hP : PcAt w (L1 ++ L2)) (hY : NRow .u8 w A ys) (hl : ys.length = n) (hnil : A = none → c = 0) (hc : n ≤ c) (hc2 : c ≤ 9223372036854775807) (hm : (pcBytes (L1 ++ L2)).length + n ≤ 35184372088832) :
    Calls Tryd.prog 55 #[ptr (L1 ++ L2), .int .i64 (pcBytes L2).length, .slice A n c] w (Fresh (pcBytes L1 ++ ys) w) := by
  obtain ⟨i0, hi, hz0, hz1, hz2⟩ := info_parts info_u8
  have hE : (pcBytes (L1 ++ L2)).length = (pcBytes L2).length + (pcBytes L1).length := by rw [pcBytes_append, List.length_append]
  obtain ⟨f, hf⟩ : ∃ f, f = (pcBytes L2).length := ⟨_, rfl⟩
  obtain ⟨z, hz⟩ : ∃ z, z = (pcBytes L1).length := ⟨_, rfl⟩
  obtain ⟨e, he⟩ : ∃ e, e = f + z := ⟨_, rfl⟩
  obtain ⟨N, hN⟩ : ∃ N, N = z + n := ⟨_, rfl⟩
  rw [← hf, ← hz, ← he] at hE
  rw [hE] at hm
  rw [← hf]
  have HE := Lib.hid hE
  have HP := Lib.hid hP
  have HY := Lib.hid hY
  have HL := Lib.hid hl
  have HNIL := Lib.hid hnil
  have HF := Lib.hid hf
  have HZ := Lib.hid hz
  have HN := Lib.hid hN
  have e1 : (e : Int) - (f : Int) = (z : Int) := by omega
  have e2 : (z : Int) + (n : Int) = (N : Int) := by omega
  have b1 : e ≤ 35184372088832 := by omega
  have b2 : N ≤ 35184372088832 := by omega
  have b3 : z ≤ N := by omega
  have b4 : f ≤ e := by omega
  have HN2 : Hid (N - z = n) := by show _ = _; omega
  have HG : Hid (∀ k, ((w.drewN k).alloc (.cells (madeCells #[Value.int .u8 0] N) 5)).heap[w.heap.size]? = some (.cells (List.replicate (z + n) (Value.int .u8 0)).toArray 5 (0, 0))) := by
    intro k
    rw [← hN]
    exact made_zero (w.drewN k) N
  have HLEN := Lib.hid (show (pcBytes L1 ++ ys).length = N by rw [List.length_append, hl]; omega)
  clear hE hP hY hl hnil hf hz he hm
  by_cases h0 : n = 0
  case' pos => obtain rfl : z = N := by omega
  case' neg => have b5 : z < N := by omega
  all_goals
    clear hN
    go_enter Tryd.func55, Tryd.ntmps55
    go_wp2_with fail
    refine (pend_any _ _ (by exact HP.out) (by rw [HE.out]; exact b1)).mono ?_
    rw [HE.out]
    rintro r w1 ⟨rfl, k1, rfl⟩
    go_wp2_with (first
      | (at_make; refine wpList_make_row _ rfl _ _ 27 rfl 5 i0 (.int .u8 0) Tryd.underlying27 hi hz0 hz1 rfl .i64 .i64 _ rfl rfl (by rw [hz2]; omega) (by omega) ?_)
      | (with_reducible refine wpList_copy_splice rfl (.tmp 20) (.tmp 21) 27 27 rfl 5 Tryd.underlying27 (by kernel_rfl) _ _ _ _ _ _ rfl rfl w.heap.size z (List.replicate (z + n) (.int .u8 0)) 5 (by exact HG.out k1) (ys.map (Value.int .u8)) (by have h1 := HN2.out; rw [List.length_map, HL.out]; simp only [Nat.min_def]; split <;> omega) (by exact fun h => ⟨by first | rfl | (exfalso; have h1 := HN.out; have h2 := HL.out; rw [List.length_map] at h; omega), src_of ((HY.out.drewN k1).alloc _) h⟩) (by rw [List.length_map, HL.out, List.length_replicate]; exact Nat.le_refl _) (nums_one .u8 ys) w.heap.size w (by exact below_made w k1 _) (Nat.le_refl _) ?_))
    intro w2 HG2 hB2
    have HR2 := Lib.hid (show w2.heap[w.heap.size]? = some (.cells (half z ys).toArray 5 (0, 0)) by rw [← half_new z n ys HL.out]; first | exact HG2.out | (rw [h0]; exact HG2.out))
    have HB2 := Lib.hid hB2
    clear HG2 hB2
    go_wp2
    go_loopw [0] (fun p wr => ∃ D T : List Pc, Hid (L1 = D ++ T) ∧ p = ptr (T ++ L2) ∧ Hid (wr.heap[w.heap.size]? = some (.cells (half (pcBytes T).length (pcBytes D ++ ys)).toArray 5 (0, 0))) ∧ Hid (Below w.heap.size w wr)) (fun p _ => ptrRank p)
    case atStart => exact ⟨[], L1, rfl, rfl, by rw [← HZ.out]; exact HR2.out, HB2.out⟩
    case round =>
      obtain ⟨D, T, HD, rfl, HR, HB⟩ := hrel
      rcases T with _ | ⟨c, r⟩
      · have HP2 := Lib.hid ((PcAt.tail (a := L1) HP.out).still (Moved.of_below HB.out []))
        have HD1 := Lib.hid (show L1 = D by rw [HD.out, List.append_nil])
        go_wp2_with fail
        refine (pend_any L2 _ (by exact HP2.out) (by rw [← HF.out]; omega)).mono ?_
        rw [← HF.out]
        rintro r w3 ⟨rfl, k3, rfl⟩
        go_wp2
        go_ret
        exact ⟨w.heap.size, by rw [HLEN.out]; rfl, Nat.le_refl _, by rw [HD1.out]; exact HR.out, (Moved.of_below HB.out []).drewN k3⟩
      · have hpc : PcAt wr (c :: (r ++ L2)) := (PcAt.tail (a := D) (b := c :: (r ++ L2)) (by rw [← List.cons_append, ← List.append_assoc, ← HD.out]; exact HP.out)).still (Moved.of_below HB.out [])
        have HPC := Lib.hid hpc
        obtain ⟨hat, hrow, -, hpos, hlow, hrest⟩ := hpc
        obtain ⟨q, hq⟩ : ∃ q, q = (pcBytes r).length := ⟨_, rfl⟩
        obtain ⟨a, ha⟩ : ∃ a, a = (pcBytes (r ++ L2)).length := ⟨_, rfl⟩
        obtain ⟨m, hm⟩ : ∃ m, m = c.ys.length := ⟨_, rfl⟩
        have ha2 : a = f + q := by rw [ha, pcBytes_append, List.length_append, ← HF.out, ← hq]
        have c1 := cell_at hat 1 rfl
        have c2 := cell_at hat 2 rfl
        rw [← ha] at c1
        rw [← hm] at c2 hpos
        have hzq : q + m ≤ z := by
          have h1 := HD.out
          have h2 := congrArg (fun l => (pcBytes l).length) h1
          simp only [pcBytes_append, pcBytes, List.length_append] at h2
          rw [← HZ.out, ← hq, ← hm] at h2
          omega
        obtain ⟨u, hu⟩ : ∃ u, u = a + m := ⟨_, rfl⟩
        have HU := Lib.hid (show (pcBytes (c :: (r ++ L2))).length = u by rw [pcBytes, List.length_append, ← ha, ← hm, hu])
        have HRQ := Lib.hid (show wr.heap[w.heap.size]? = some (.cells (half (q + m) (pcBytes D ++ ys)).toArray 5 (0, 0)) by rw [hq, hm, ← List.length_append]; exact HR.out)
        have HM := Lib.hid hm
        have HQ := Lib.hid hq
        have HROW := Lib.hid hrow
        have HLOW := Lib.hid hlow
        have HREST := Lib.hid hrest
        have HAT := Lib.hid hat
        have hlt : f < u := by omega
        have b11 : u ≤ 35184372088832 := by omega
        have e3 : IntKind.i64.wrap ((a : Int) - (f : Int)) = (q : Int) := by rw [IntWalk.i64_in _ (by omega)]; omega
        have b6 : (0 : Int) ≤ (q : Int) := by omega
        have b7 : (q : Int) ≤ (z : Int) := by omega
        have b9 : q < z := by omega
        try have b8 : (q : Int) ≤ (N : Int) := by omega
        try have b10 : q < N := by omega
        rw [show ptr (c :: r ++ L2) = .pointer (some ⟨c.p, 0, none⟩) from rfl]
        clear hq ha ha2 hm hrow hlow hrest hat hu HR
        go_wp2_with fail
        refine (pend_any (c :: (r ++ L2)) _ (by exact HPC.out) (by rw [HU.out]; exact b11)).mono ?_
        rw [HU.out]
        rintro x w3 ⟨rfl, k3, rfl⟩
        go_wp2
        go_region_law (refine step_copy_splice rfl (.tmp 38) (.tmp 42) 27 27 rfl 5 Tryd.underlying27 (by kernel_rfl) _ _ _ _ _ _ rfl rfl w.heap.size q (half (q + m) (pcBytes D ++ ys)) 5 (by exact HRQ.out) (c.ys.map (Value.int .u8)) (by rw [List.length_map, ← HM.out]; simp only [Nat.min_def]; split <;> omega) (by exact fun h => ⟨by rw [if_neg (by omega)], src_of (by exact HROW.out) h⟩) (by rw [List.length_map, ← HM.out, half_length]; omega) (nums_one .u8 c.ys) w.heap.size w (by exact ⟨HB.out.os, HB.out.tape, HB.out.output, HB.out.size, HB.out.block⟩) (Nat.le_refl _) ?_; intro w4 HG4 hB4)
        all_goals
          have hp4 := PcAt.still (show PcAt w (c :: (r ++ L2)) from PcAt.tail (a := D) (b := c :: (r ++ L2)) (by rw [← List.cons_append, ← List.append_assoc, ← HD.out]; exact HP.out)) (Moved.of_below hB4 [])
          have c0 := cell_at hp4.1 0 rfl
          have HG4b := Lib.hid (show w4.heap[w.heap.size]? = some (.cells (half (pcBytes r).length (pcBytes (D ++ [c]) ++ ys)).toArray 5 (0, 0)) by rw [← HQ.out, pcBytes_append, show pcBytes [c] = c.ys from rfl, List.append_assoc, ← half_splice q m _ _ HM.out.symm]; exact HG4.out)
          have HB4 := Lib.hid hB4
          have HD4 := Lib.hid (show L1 = (D ++ [c]) ++ r by rw [HD.out, List.append_assoc]; rfl)
          clear hp4 HG4 hB4 c1 c2
          go_wp2
          go_roundw
          case rel => exact ⟨D ++ [c], r, HD4.out, rfl, HG4b.out, HB4.out⟩
          case measure => exact rank_lt HLOW.out
end Dk
end Go.Proofs.YtekleamkpfeifaaDoor

/-
  CONTRACT of (*disk.piece).with.
-/
namespace Go.Proofs.YtekleamkpfeifaaDoor
namespace Dk
open Go.RowKit
/-- Pieces are answered that hold these bytes: those that were there, and new ones; all that was there stays. -/
def Told (bs : List Int) (S : List Nat) (w : World) (r : Ending) (w' : World) : Prop :=
  ∃ L, r = .returned (ptr L) ∧ PcAt w' L ∧ pcBytes L = bs ∧ Moved w w' [] ∧ ∀ k ∈ pcBlks L, k ∈ S ∨ w.heap.size ≤ k
theorem row_nrow {w : World} {g : Nat} {xs : List Int} {e : TypeId} (h : w.heap[g]? = some (.cells (xs.map (Value.int .u8)).toArray e (0, 0))) : NRow .u8 w (some ⟨g, 0, none⟩) xs := by
  intro i x hx
  refine ⟨g, 0, rfl, ?_⟩
  rw [cell_of_row _ _ _ _ _ _ h, ← Array.getElem?_toList, Nat.zero_add, List.getElem?_map, hx]
  rfl
theorem told_new {w w5 : World} {D T : List Pc} {ys : List Int} {g M : Nat} (hP : PcAt w (D ++ T)) (hMl : (pcBytes D ++ ys).length = M) (hpos : 0 < ys.length) (hrow : w5.heap[g]? = some (.cells ((pcBytes D ++ ys).map (Value.int .u8)).toArray 5 (0, 0))) (hg : w.heap.size ≤ g) (hM : Moved w w5 []) :
    Told (pcBytes (D ++ T) ++ ys) (pcBlks (D ++ T)) w (.returned (.pointer (some ⟨w5.heap.size, 0, none⟩))) (w5.alloc (.cells #[ptr T, .int .i64 (pcBytes T).length, .slice (some ⟨g, 0, none⟩) M M] 85)) := by
  subst hMl
  have hT := PcAt.tail hP
  have hlt := lt_of_block hrow
  refine ⟨⟨w5.heap.size, g, pcBytes D ++ ys⟩ :: T, rfl, ⟨heap_alloc_new _ _, (row_nrow hrow).alloc _, by simp; omega, by rw [List.length_append]; omega, ?_, (hT.still hM).stays ?_⟩, ?_, hM.alloc _, ?_⟩
  · intro k hk
    exact Nat.lt_of_lt_of_le (hT.lt k hk) hM.size
  · intro k hk
    exact Below.heap_alloc w5 _ k (Nat.lt_of_lt_of_le (hT.lt k hk) hM.size)
  · rw [pcBytes, pcBytes_append, List.append_assoc]
  · intro k hk
    rcases List.mem_cons.1 hk with rfl | hk
    · exact .inr hM.size
    · rcases List.mem_cons.1 hk with rfl | hk
      · exact .inr hg
      · exact .inl (by rw [pcBlks_append]; exact List.mem_append.2 (.inr hk))
/-- The same, the bytes' number named. -/
def FreshN (M : Nat) (xs : List Int) (w : World) (r : Ending) (w' : World) : Prop :=
  ∃ g, r = .returned (.slice (some ⟨g, 0, none⟩) M M) ∧ w.heap.size ≤ g ∧ w'.heap[g]? = some (.cells (xs.map (Value.int .u8)).toArray 5 (0, 0)) ∧ Moved w w' []
theorem Fresh.named {M : Nat} {xs : List Int} {w w' : World} {r : Ending} (h : Fresh xs w r w') (hM : xs.length = M) : FreshN M xs w r w' := by
  subst hM; exact h
theorem calls_more {P : Program} {f : FuncId} {args : Array Value} {w : World} {k l : Nat} {v : Value} (h : Calls P f args (w.drewN (k + l)) fun e w' => e = .returned v ∧ ∃ j, w' = (w.drewN (k + l)).drewN j) :
    Calls P f args (w.drewN (k + l)) fun e w' => e = .returned v ∧ ∃ m, w' = w.drewN (k + m) :=
  h.mono fun _ _ ⟨he, j, hj⟩ => ⟨he, l + j, by rw [hj, World.drewN_drewN, Nat.add_assoc]⟩
set_option maxRecDepth 100000 in
theorem pwith_none (L : List Pc) (A : Option Addr) (c : Nat) (w : World) (hP : PcAt w L) :
    Calls Tryd.prog 52 #[ptr L, .slice A 0 c] w (Told (pcBytes L) (pcBlks L) w) := by
  have HP := Lib.hid hP
  clear hP
  go_enter Tryd.func52, Tryd.ntmps52
  go_wp2
  go_ret
  exact ⟨L, rfl, HP.out, rfl, Moved.refl _ _, fun _ h => .inl h⟩
set_option maxRecDepth 100000 in
set_option maxHeartbeats 1000000 in
theorem pwith_some (L : List Pc) (A : Option Addr) (n c : Nat) (ys : List Int) (w : World) (hP : PcAt w L) (hY : NRow .u8 w A ys) (hl : ys.length = n) (hpos : 0 < n) (hnil : A = none → c = 0) (hc : n ≤ c) (hc2 : c ≤ 9223372036854775807) (hm : (pcBytes L).length + n ≤ 35184372088832) :
    Calls Tryd.prog 52 #[ptr L, .slice A n c] w (Told (pcBytes L ++ ys) (pcBlks L) w) := by
  obtain ⟨e, he⟩ : ∃ e, e = (pcBytes L).length := ⟨_, rfl⟩
  obtain ⟨N, hN⟩ : ∃ N, N = e + n := ⟨_, rfl⟩
  rw [← he] at hm
  have HE := Lib.hid he
  have HP := Lib.hid hP
  have HY := Lib.hid hY
  have HL := Lib.hid hl
  have HNIL := Lib.hid hnil
  have e1 : (e : Int) + (n : Int) = (N : Int) := by omega
  have b1 : N ≤ 35184372088832 := by omega
  have b2 : e ≤ N := by omega
  clear he hP hY hl hnil hN
  go_enter Tryd.func52, Tryd.ntmps52
  go_wp2_with fail
  refine (pend_any L _ (by exact HP.out) (by rw [← HE.out]; omega)).mono ?_
  rw [← HE.out]
  rintro r w1 ⟨rfl, k1, rfl⟩
  go_wp2
  go_loopw [6] (fun p wr => ∃ (D T : List Pc) (k : Nat), Hid (L = D ++ T) ∧ p = ptr T ∧ wr = w.drewN k) (fun p _ => ptrRank p)
  case atStart => exact ⟨[], L, k1, rfl, rfl, rfl⟩
  case round =>
    obtain ⟨D, T, k, HD, rfl, rfl⟩ := hrel
    rcases T with _ | ⟨x, r⟩
    · obtain rfl : L = D := by rw [HD.out, List.append_nil]
      obtain ⟨M, hM2⟩ : ∃ M, (pcBytes L ++ ys).length = M := ⟨_, rfl⟩
      have HM2 := Lib.hid hM2
      clear hM2
      have HJ : Hid (∀ k, Calls Tryd.prog 55 #[ptr L, .int .i64 0, .slice A n c] (w.drewN k) (FreshN M (pcBytes L ++ ys) (w.drewN k))) := by
        intro k
        have h := pjoin_any L [] A n c ys (w.drewN k) (by rw [List.append_nil]; exact HP.out.drewN k) (by exact HY.out) HL.out HNIL.out hc hc2 (by rw [List.append_nil, ← HE.out]; exact hm)
        rw [List.append_nil] at h
        exact h.mono fun r w' h => h.named HM2.out
      rw [show ptr [] = .pointer none from rfl]
      go_wp2
      go_quiet (fail)
      go_wp2_with fail
      refine (pend_nil _).mono ?_
      rintro x1 w3 ⟨rfl, k3, rfl⟩
      go_wp2_with fail
      refine (HJ.out _).mono ?_
      rintro x5 w5 ⟨g, rfl, hg, hrow, hM⟩
      have HT := Lib.hid (told_new (w := w) (w5 := w5) (D := L) (T := []) (ys := ys) (M := M) (by rw [List.append_nil]; exact HP.out) HM2.out (by rw [HL.out]; exact hpos) hrow hg ⟨hM.os, hM.tape, hM.output, hM.size, hM.block⟩)
      rw [List.append_nil] at HT
      clear hg hrow hM
      go_wp2
      go_ret
      exact HT.out
    · obtain ⟨hat, hrow, -, hxpos, hlow, hrest⟩ := PcAt.tail (a := D) (b := x :: r) (by rw [← HD.out]; exact HP.out)
      obtain ⟨a, ha⟩ : ∃ a, a = (pcBytes r).length := ⟨_, rfl⟩
      obtain ⟨m, hm2⟩ : ∃ m, m = x.ys.length := ⟨_, rfl⟩
      have hlen : a + m ≤ e := by
        have h1 := congrArg (fun l => (pcBytes l).length) HD.out
        simp only [pcBytes_append, pcBytes, List.length_append] at h1
        rw [← HE.out, ← ha, ← hm2] at h1
        omega
      obtain ⟨u, hu⟩ : ∃ u, u = a + m := ⟨_, rfl⟩
      obtain ⟨v, hv⟩ : ∃ v, v = N - u := ⟨_, rfl⟩
      have HU := Lib.hid (show (pcBytes (x :: r)).length = u by rw [pcBytes, List.length_append, ← ha, ← hm2, hu])
      have HPX := Lib.hid (PcAt.tail (a := D) (b := x :: r) (by rw [← HD.out]; exact HP.out))
      have c0 := cell_at hat 0 rfl
      have c2 := cell_at hat 2 rfl
      rw [← hm2] at c2
      have HLOW := Lib.hid hlow
      have e3 : IntKind.i64.wrap ((N : Int) - (u : Int)) = (v : Int) := by rw [IntWalk.i64_in _ (by omega)]; omega
      have b3 : u ≤ e := by omega
      have HEND : Hid (∀ j, Calls Tryd.prog 50 #[.pointer (some ⟨x.p, 0, none⟩)] (w.drewN j) fun e w' => e = .returned (.int .i64 u) ∧ ∃ i, w' = (w.drewN j).drewN i) := by
        intro j
        have h9 := pend_any (x :: r) _ (HPX.out.drewN j) (by rw [HU.out]; omega)
        rw [HU.out] at h9
        exact h9
      rw [show ptr (x :: r) = .pointer (some ⟨x.p, 0, none⟩) from rfl]
      clear hat hrow hxpos hlow hrest ha hm2 hu hv hlen
      by_cases hlt : m ≤ v
      · go_wp2
        go_quiet ((go_at_call 50; exact calls_more (HEND.out _)))
        go_wp2
        go_roundw
        case rel => exact ⟨D ++ [x], r, _, by rw [HD.out, List.append_assoc]; rfl, rfl, rfl⟩
        case measure => exact rank_lt HLOW.out
      · obtain ⟨M, hM2⟩ : ∃ M, (pcBytes D ++ ys).length = M := ⟨_, rfl⟩
        have HM2 := Lib.hid hM2
        have HDX := Lib.hid (show PcAt w (D ++ x :: r) by rw [← HD.out]; exact HP.out)
        have HJ : Hid (∀ k, Calls Tryd.prog 55 #[ptr L, .int .i64 u, .slice A n c] (w.drewN k) (FreshN M (pcBytes D ++ ys) (w.drewN k))) := by
          intro k
          have h := pjoin_any D (x :: r) A n c ys (w.drewN k) (HDX.out.drewN k) (by exact HY.out) HL.out HNIL.out hc hc2 (by rw [← HD.out, ← HE.out]; exact hm)
          rw [HU.out, ← HD.out] at h
          exact h.mono fun r w' h => h.named HM2.out
        clear hM2
        have hvm : v < m := by omega
        clear hlt
        go_wp2
        go_quiet ((go_at_call 50; exact calls_more (HEND.out _)))
        go_wp2_with fail
        refine (HEND.out _).mono ?_
        rintro x1 w3 ⟨rfl, k3, rfl⟩
        go_wp2_with fail
        refine (HJ.out _).mono ?_
        rintro x5 w5 ⟨g, rfl, hg, hrow, hM⟩
        have HT := Lib.hid (told_new (w := w) (w5 := w5) (D := D) (T := x :: r) (ys := ys) (M := M) HDX.out HM2.out (by rw [HL.out]; exact hpos) hrow hg ⟨hM.os, hM.tape, hM.output, hM.size, hM.block⟩)
        rw [HU.out, ← HD.out] at HT
        clear hg hrow hM
        go_wp2
        go_ret
        exact HT.out
theorem pwith_any (L : List Pc) (A : Option Addr) (n c : Nat) (ys : List Int) (w : World) (hP : PcAt w L) (hY : NRow .u8 w A ys) (hl : ys.length = n) (hnil : A = none → c = 0) (hc : n ≤ c) (hc2 : c ≤ 9223372036854775807) (hm : (pcBytes L).length + n ≤ 35184372088832) :
    Calls Tryd.prog 52 #[ptr L, .slice A n c] w (Told (pcBytes L ++ ys) (pcBlks L) w) := by
  rcases Nat.eq_zero_or_pos n with rfl | h
  · rw [List.eq_nil_of_length_eq_zero hl, List.append_nil]
    exact pwith_none L A c w hP
  · exact pwith_some L A n c ys w hP hY hl h hnil hc hc2 hm
end Dk
end Go.Proofs.YtekleamkpfeifaaDoor
