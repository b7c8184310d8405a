/-
  THE WALK of the statement FrameSpoilt, from what it asks of package frame.
-/
import Derived.Test.YtpcmkjmkaggfbaaDoorFrameSpoil
import Derived.BigRegion
import Derived.IntWalk
namespace Go.Proofs.YtpcmkjmkaggfbaaDoor
namespace Fr
open Go.RowKit
def anyOf (ws : List Int) : Bool := ws.any fun w => decide (w ≠ 0)
theorem anyOf_snoc (ws : List Int) (w : Int) : anyOf (ws ++ [w]) = (anyOf ws || decide (w ≠ 0)) := by simp [anyOf]
theorem anyOf_false {ws : List Int} : anyOf ws = false ↔ ∀ w ∈ ws, w = 0 := by simp [anyOf]
theorem place_eq {at_ : Int} {n : Nat} (h0 : 0 < n) (hn : n ≤ 9223372036854775807) : ∃ k : Nat, k < n ∧ wrap64 ((IntKind.u64.wrap at_).tmod (n : Int)) = k := by
  have h : ∀ j, IntKind.u64.wrap j = j % 18446744073709551616 := by intro j; unfold IntKind.wrap; simp [IntKind.signed, IntKind.bits]
  rw [h, Int.tmod_eq_emod_of_nonneg (by omega)]
  have h1 := Int.emod_nonneg (at_ % 18446744073709551616) (b := (n : Int)) (by omega)
  have h2 := Int.emod_lt_of_pos (at_ % 18446744073709551616) (b := (n : Int)) (by omega)
  refine ⟨(at_ % 18446744073709551616 % n).toNat, by omega, ?_⟩
  rw [show ∀ n : Int, -9223372036854775808 ≤ n ∧ n ≤ 9223372036854775807 → wrap64 n = n from fun n h => by unfold wrap64; omega]
  rotate_left
  · omega
  omega
/-- The head of the frame of xs. -/
def headOf (xs : List Int) : List Int := be4 xs.length ++ be4 (sumOf (nats (be4 xs.length ++ xs)))
theorem headOf_len (xs : List Int) : (headOf xs).length = 8 := rfl
theorem frameOf_head (xs : List Int) : frameOf xs = headOf xs ++ xs := rfl
theorem headOf_bytes {xs : List Int} (h : xs.length ≤ 131072) : ByteList (headOf xs) := (be4_bytes (by omega)).append (be4_bytes (sumOf_lt _))
/-- What First tells of a frame whose payload was changed so. -/
theorem spoilt_first {xs us : List Int} {k : Nat} (h : k + us.length ≤ xs.length) (h4 : us.length ≤ 4) (hx : ByteList xs) (hu : ByteList us) (hl : xs.length ≤ 131072) :
    firstE (headOf xs ++ spoilt xs k us) = if anyOf us = true then 4 else 0 := by
  have h1 := first_other (xs := xs) (ys := spoilt xs k us) (spoilt_len _ _ _) hl
  obtain ⟨zs, hz⟩ : ∃ zs, zs = be4 xs.length ++ be4 (sumOf (nats (be4 xs.length ++ xs))) ++ spoilt xs k us := ⟨_, rfl⟩
  have hz2 : headOf xs ++ spoilt xs k us = zs := by rw [hz, headOf]
  rw [← hz] at h1
  rw [hz2]
  clear hz hz2
  by_cases hs : sumOf (nats (be4 xs.length ++ xs)) = sumOf (nats (be4 xs.length ++ spoilt xs k us))
  · have h2 := h1.trans (if_pos hs)
    have h3 := anyOf_false.2 (spoilt_sum (pre := be4 xs.length) h h4 (be4_bytes (by omega)) hx hu hs)
    rw [h3, if_neg (by simp)]
    exact (first_some h2).2.2
  · have h2 := h1.trans (if_neg hs)
    have h3 : anyOf us = true := by
      cases h3 : anyOf us with
      | true => rfl
      | false =>
        rw [spoilt_none us xs k hx (anyOf_false.1 h3)] at hs
        exact absurd rfl hs
    rw [h3, if_pos rfl]
    exact (first_none h2).2.2
theorem bne_any (u : Int) : (u != 0) = decide (u ≠ 0) := by by_cases h : u = 0 <;> simp [h]
theorem take_bytes {xs : List Int} (h : ByteList xs) (n : Nat) : ByteList (xs.take n) := h.take n
/-- One byte more. -/
theorem spoilt_step {xs ws : List Int} {k j : Nat} {y u : Int} (hy : (headOf xs ++ spoilt xs k (ws.take j))[8 + (k + j)]? = some y) (hu : ws[j]? = some u) (hj : j < ws.length) :
    (headOf xs ++ spoilt xs k (ws.take j)).set (8 + (k + j)) (xorB y u) = headOf xs ++ spoilt xs k (ws.take (j + 1)) := by
  have ht : ws.take (j + 1) = ws.take j ++ [u] := by rw [List.take_add_one, hu]; rfl
  have hl : (ws.take j).length = j := by rw [List.length_take]; omega
  have hh : (headOf xs).length = 8 := headOf_len xs
  rw [List.getElem?_append_right (by omega), hh, show 8 + (k + j) - 8 = k + j by omega] at hy
  rw [ht, spoilt_snoc, hl, List.set_append_right _ _ (by omega), hh, show 8 + (k + j) - 8 = k + j by omega, List.getD_eq_getElem?_getD, hy]
  rfl
theorem any_step {ws : List Int} {j : Nat} {u : Int} (hu : ws[j]? = some u) : anyOf (ws.take (j + 1)) = (anyOf (ws.take j) || decide (u ≠ 0)) := by
  rw [List.take_add_one, hu]
  exact anyOf_snoc _ _
set_option maxRecDepth 100000 in
set_option maxHeartbeats 3000000 in
theorem spoilt_any (F : FLaws) (A : Option Addr) (c : Nat) (xs : List Int) (at_ w0 w1 w2 w3 : Int) (w : World) (hA : NRow .u8 w A xs) (hb : ByteList xs) (hnil : A = none → c = 0) (hl0 : xs.length ≤ 9223372036854775807) (hw : ByteList [w0, w1, w2, w3]) (hc : xs.length ≤ c) (hc2 : c ≤ 9223372036854775807) (hld : Ld w) :
    Calls Tryd.prog 8 #[.slice A xs.length c, .int .i64 at_, .agg #[.int .u8 w0, .int .u8 w1, .int .u8 w2, .int .u8 w3]] w fun e w' => e = .returned (.bool true) ∧ Below w.heap.size w w' := by
  by_cases hz : xs.length = 0
  · have hz2 : ((xs.length : Int) == 0) = true := by rw [hz]; rfl
    go_enter Tryd.func8, Tryd.ntmps8
    go_wp2
    all_goals
      go_ret
      exact ⟨rfl, (Below.refl _ _).alloc (Nat.le_refl _) _⟩
  by_cases hbig : 131072 < xs.length
  · have hz2 : ((xs.length : Int) == 0) = false := by rw [beq_eq_false_iff_ne]; omega
    go_enter Tryd.func8, Tryd.ntmps8
    go_wp2
    all_goals
      go_ret
      exact ⟨rfl, (Below.refl _ _).alloc (Nat.le_refl _) _⟩
  have hz2 : ((xs.length : Int) == 0) = false := by rw [beq_eq_false_iff_ne]; omega
  have hpos : 0 < xs.length := by omega
  obtain ⟨k, hk, hkk⟩ := place_eq (at_ := at_) hpos hl0
  have HA := Lib.hid (hA.alloc (.cells #[.int .u8 w0, .int .u8 w1, .int .u8 w2, .int .u8 w3] 48))
  have HLD := Lib.hid hld
  have HB := Lib.hid hb
  have HNIL := Lib.hid hnil
  have HW := Lib.hid hw
  have hb0 := heap_alloc_new w (.cells #[.int .u8 w0, .int .u8 w1, .int .u8 w2, .int .u8 w3] 48)
  have HB0 := Lib.hid hb0
  clear hld hA hb hnil hw hz hb0
  go_enter Tryd.func8, Tryd.ntmps8
  go_wp2_with fail
  refine (F.seal_ A _ c xs _ HA.out rfl HB.out HNIL.out hc hc2 (by omega) (by exact HLD.out.alloc _)).mono ?_
  rw [(seal_fits hbig).1, (seal_fits hbig).2]
  rintro e w4 ⟨v1, rfl, hO1, hS1⟩
  rw [frameOf_len] at hO1
  obtain ⟨g, cap, rfl, -, hcap, hcap2, -⟩ : ∃ g cap, v1 = .slice (some ⟨g, 0, none⟩) (8 + xs.length) cap ∧ 0 ≤ g ∧ 8 + xs.length ≤ cap ∧ cap ≤ maxLen ∧ g < w4.heap.size := by
    rcases hO1.2 with ⟨_, h0⟩ | ⟨g, cap, cur, hv, hb, hh, h1, h2, _⟩
    · omega
    · exact ⟨g, cap, hv, hb, h1, h2, (Array.getElem?_eq_some_iff.1 hh).1⟩
  have HO1 := Lib.hid hO1
  have HS1 := Lib.hid hS1
  clear hO1 hS1
  have hlen2 : ((8 + xs.length : Nat) : Int) = (xs.length : Int) + 8 := by omega
  have hg : g ≠ w.heap.size := by
    have h := Step.new HS1.out g (by simp [mem_rowOf, Value.ownBlock])
    simp at h
    omega
  have hB4 : w4.heap[w.heap.size]? = some (.cells #[.int .u8 w0, .int .u8 w1, .int .u8 w2, .int .u8 w3] 48) := by
    rw [HS1.out.1.block _ (by simp) (fun h => by cases h)]; exact HB0.out
  have HB4 := Lib.hid hB4
  clear hB4
  go_wp2
  rw [hkk]
  obtain ⟨ws, hws⟩ : ∃ ws : List Int, ws = [w0, w1, w2, w3] := ⟨_, rfl⟩
  have hw4 : ws.length = 4 := by rw [hws]; rfl
  have HWS := Lib.hid hws
  go_loopw [10, 11] (fun ch i wr => ∃ j : Nat, i = .int .i64 j ∧ j ≤ 4 ∧ k + j ≤ xs.length ∧ ch = .bool (anyOf (ws.take j)) ∧ wr.ownsRow 0 5 1 (.slice (some ⟨g, 0, none⟩) (8 + xs.length) cap) (8 + xs.length) ((headOf xs ++ spoilt xs k (ws.take j)).map (Value.int .u8)) ∧ Moved w4 wr [g]) (fun _ i _ => 4 - (intOf i).toNat)
  case atStart => exact ⟨0, rfl, by omega, by omega, rfl, by exact HO1.out, Moved.refl _ _⟩
  case round =>
    obtain ⟨j, rfl, hj, hkj, rfl, hown, hM⟩ := hrel
    have HM := Lib.hid hM
    clear hM hws
    have HWB := Lib.hid (show ByteList ws by rw [HWS.out]; exact HW.out)
    by_cases hj4 : j < 4
    · by_cases hin : k + j < xs.length
      · obtain ⟨y, hy⟩ : ∃ y, (headOf xs ++ spoilt xs k (ws.take j))[8 + (k + j)]? = some y := ⟨_, List.getElem?_eq_getElem (by rw [List.length_append, headOf_len, spoilt_len]; omega)⟩
        obtain ⟨u, hu⟩ : ∃ u, ws[j]? = some u := ⟨ws[j], List.getElem?_eq_getElem _⟩
        have hc : wr.cell? ⟨g, 8 + (k + j), none⟩ = some (.int .u8 y) := by
          rw [hown.cellAt (8 + (k + j)) (by omega), List.getElem?_map, hy]; rfl
        have hf := hown.frozenAt (8 + (k + j))
        have hc2 : wr.cell? ⟨w.heap.size, j, none⟩ = some (.int .u8 u) := by
          rw [World.cell?_of_block (w := w4) (HM.out.block w.heap.size (Array.getElem?_eq_some_iff.1 HB4.out).1 (fun h => hg (by simp at h; exact h.symm))), cell_of_row _ _ _ _ _ _ HB4.out, ← Array.getElem?_toList]
          rw [HWS.out] at hu
          show ([w0, w1, w2, w3].map (Value.int .u8))[j]? = _
          rw [List.getElem?_map, hu]
          rfl
        have hyb : 0 ≤ y ∧ y ≤ 255 := ((headOf_bytes (by omega)).append (spoilt_bytes (by rw [List.length_take]; omega) HB.out (take_bytes (by rw [HWS.out]; exact HW.out) j))) y (List.mem_of_getElem? hy)
        have hub : 0 ≤ u ∧ u ≤ 255 := (show ByteList ws by rw [HWS.out]; exact HW.out) u (List.mem_of_getElem? hu)
        have hxor : bits .xor .u8 y u = xorB y u := u8_xor y u (by omega) (by omega) (by omega) (by omega)
        have HO := Lib.hid hown
        have HY := Lib.hid hy
        have HU := Lib.hid hu
        have HST := Lib.hid (spoilt_step hy hu (by omega))
        have HAN := Lib.hid (any_step hu)
        have q1 : IntKind.i64.wrap (8 + ↑k) = 8 + ↑k := IntWalk.i64_in _ (by omega)
        have q2 : IntKind.i64.wrap (8 + ↑k + ↑j) = 8 + ↑k + ↑j := IntWalk.i64_in _ (by omega)
        have q3 : (8 + (k : Int) + ↑j).toNat = 8 + (k + j) := by omega
        have q4 : (0 : Int) ≤ 8 + ↑k + ↑j := by omega
        have q5 : (8 + (k : Int) + ↑j) < ↑(8 + xs.length) := by omega
        clear hown hy hu
        go_wp2
        go_region
        go_wp2
        all_goals
          go_roundw
          case rel => exact ⟨j + 1, by go_num, by omega, by omega, by first
            | (have ha := ‹anyOf (List.take j ws) = true›; rw [HAN.out, ha]; rfl)
            | (have ha := ‹¬ anyOf (List.take j ws) = true›; rw [HAN.out, show anyOf (List.take j ws) = false by simpa using ha, bne_any]; rfl), by rw [← HST.out]; exact own_set HO.out _ _, (HM.out.setCell (p := ⟨g, _, none⟩) (.inl (by simp)) _).drew⟩
          case measure => simp [intOf]; omega
      · have hin2 : k + j = xs.length := by omega
        have HO := Lib.hid hown
        have hle : k + (ws.take j).length ≤ xs.length := by rw [List.length_take]; omega
        have hle2 : (ws.take j).length ≤ 4 := by rw [List.length_take]; omega
        have hfe := spoilt_first hle hle2 HB.out (take_bytes HWB.out j) (by omega)
        have hzl : (headOf xs ++ spoilt xs k (ws.take j)).length = 8 + xs.length := by rw [List.length_append, headOf_len, spoilt_len]
        have hzb : ByteList (headOf xs ++ spoilt xs k (ws.take j)) := (headOf_bytes (by omega)).append (spoilt_bytes hle HB.out (take_bytes HWB.out j))
        have HMA := Lib.hid (((Moved.refl w []).alloc _).trans (HS1.out.1.trans HM.out (fun b hb => .inr (Step.new HS1.out b (by simp at hb; subst hb; simp [mem_rowOf, Value.ownBlock])))) (fun _ h => by cases h))
        obtain ⟨zs, hzs⟩ : ∃ zs, zs = headOf xs ++ spoilt xs k (ws.take j) := ⟨_, rfl⟩
        rw [← hzs] at hfe hzl hzb HO
        have HZL := Lib.hid hzl
        have HZB := Lib.hid hzb
        obtain ⟨ch, hch⟩ : ∃ ch, ch = anyOf (ws.take j) := ⟨_, rfl⟩
        rw [← hch] at hfe ⊢
        clear hown hzl hzb hzs hch hle hle2
        cases ch
        · have HE := Lib.hid (show firstE zs = 0 from hfe)
          clear hfe
          go_wp2_with (first
            | (go_at_call 22; refine (F.first _ _ cap zs wr (NRow.of_own HO.out) HZL.out HZB.out (fun h => by cases h) (by omega) (by unfold maxLen at hcap2; omega) (by omega) (HLD.out.moved HMA.out)).mono ?_; rw [HE.out]; rintro e w9 ⟨v9, rfl, -, hS9⟩; have HS9 := Lib.hid hS9; clear hS9)
            | (go_at_call 16; refine (frame_wakes F _ (by exact (HLD.out.moved HMA.out).moved HS9.out.1)).mono ?_; rintro e w8 ⟨rfl, hM8⟩; have HM8 := Lib.hid hM8; clear hM8))
          all_goals
            go_ret
            exact ⟨rfl, (HMA.out.trans (HS9.out.1.trans HM8.out (fun _ h => by cases h)) (fun _ h => by cases h)).below (Nat.le_refl _) (fun _ h => by cases h)⟩
        · have HE := Lib.hid (show firstE zs = 4 from hfe)
          clear hfe
          go_wp2_with (first
            | (go_at_call 22; refine (F.first _ _ cap zs wr (NRow.of_own HO.out) HZL.out HZB.out (fun h => by cases h) (by omega) (by unfold maxLen at hcap2; omega) (by omega) (HLD.out.moved HMA.out)).mono ?_; rw [HE.out]; rintro e w9 ⟨v9, rfl, -, hS9⟩; have HS9 := Lib.hid hS9; clear hS9)
            | (go_at_call 16; refine (frame_wakes F _ (by exact (HLD.out.moved HMA.out).moved HS9.out.1)).mono ?_; rintro e w8 ⟨rfl, hM8⟩; have HM8 := Lib.hid hM8; clear hM8))
          all_goals
            go_ret
            exact ⟨rfl, (HMA.out.trans (HS9.out.1.trans HM8.out (fun _ h => by cases h)) (fun _ h => by cases h)).below (Nat.le_refl _) (fun _ h => by cases h)⟩
    · have hj5 : j = 4 := by omega
      have HO := Lib.hid hown
      have hle : k + (ws.take j).length ≤ xs.length := by rw [List.length_take]; omega
      have hle2 : (ws.take j).length ≤ 4 := by rw [List.length_take]; omega
      have hfe := spoilt_first hle hle2 HB.out (take_bytes HWB.out j) (by omega)
      have hzl : (headOf xs ++ spoilt xs k (ws.take j)).length = 8 + xs.length := by rw [List.length_append, headOf_len, spoilt_len]
      have hzb : ByteList (headOf xs ++ spoilt xs k (ws.take j)) := (headOf_bytes (by omega)).append (spoilt_bytes hle HB.out (take_bytes HWB.out j))
      have HMA := Lib.hid (((Moved.refl w []).alloc _).trans (HS1.out.1.trans HM.out (fun b hb => .inr (Step.new HS1.out b (by simp at hb; subst hb; simp [mem_rowOf, Value.ownBlock])))) (fun _ h => by cases h))
      obtain ⟨zs, hzs⟩ : ∃ zs, zs = headOf xs ++ spoilt xs k (ws.take j) := ⟨_, rfl⟩
      rw [← hzs] at hfe hzl hzb HO
      have HZL := Lib.hid hzl
      have HZB := Lib.hid hzb
      obtain ⟨ch, hch⟩ : ∃ ch, ch = anyOf (ws.take j) := ⟨_, rfl⟩
      rw [← hch] at hfe ⊢
      clear hown hzl hzb hzs hch hle hle2
      cases ch
      · have HE := Lib.hid (show firstE zs = 0 from hfe)
        clear hfe
        go_wp2_with (first
          | (go_at_call 22; refine (F.first _ _ cap zs wr (NRow.of_own HO.out) HZL.out HZB.out (fun h => by cases h) (by omega) (by unfold maxLen at hcap2; omega) (by omega) (HLD.out.moved HMA.out)).mono ?_; rw [HE.out]; rintro e w9 ⟨v9, rfl, -, hS9⟩; have HS9 := Lib.hid hS9; clear hS9)
          | (go_at_call 16; refine (frame_wakes F _ (by exact (HLD.out.moved HMA.out).moved HS9.out.1)).mono ?_; rintro e w8 ⟨rfl, hM8⟩; have HM8 := Lib.hid hM8; clear hM8))
        all_goals
          go_ret
          exact ⟨rfl, (HMA.out.trans (HS9.out.1.trans HM8.out (fun _ h => by cases h)) (fun _ h => by cases h)).below (Nat.le_refl _) (fun _ h => by cases h)⟩
      · have HE := Lib.hid (show firstE zs = 4 from hfe)
        clear hfe
        go_wp2_with (first
          | (go_at_call 22; refine (F.first _ _ cap zs wr (NRow.of_own HO.out) HZL.out HZB.out (fun h => by cases h) (by omega) (by unfold maxLen at hcap2; omega) (by omega) (HLD.out.moved HMA.out)).mono ?_; rw [HE.out]; rintro e w9 ⟨v9, rfl, -, hS9⟩; have HS9 := Lib.hid hS9; clear hS9)
          | (go_at_call 16; refine (frame_wakes F _ (by exact (HLD.out.moved HMA.out).moved HS9.out.1)).mono ?_; rintro e w8 ⟨rfl, hM8⟩; have HM8 := Lib.hid hM8; clear hM8))
        all_goals
          go_ret
          exact ⟨rfl, (HMA.out.trans (HS9.out.1.trans HM8.out (fun _ h => by cases h)) (fun _ h => by cases h)).below (Nat.le_refl _) (fun _ h => by cases h)⟩
end Fr
end Go.Proofs.YtpcmkjmkaggfbaaDoor
