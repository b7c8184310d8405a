/-
  THE WALK of the statement LogLong, from what it asks of the program's Log.
-/
import Derived.Test.YtekleamkpfeifaaDoorLogWakes
namespace Go.Proofs.YtekleamkpfeifaaDoor
namespace Lg
open Go.RowKit Dk Fr
theorem mark_row2 {w : World} {fp : List Nat} {x : Int} (hl : ∀ k ∈ fp, k < w.heap.size) (e : TypeId) (hx : 0 ≤ x ∧ x ≤ 255) :
    Lent (w.alloc (.cells #[.int .u8 x] e)) fp (some ⟨w.heap.size, 0, none⟩) 1 1 [x] := by
  refine ⟨fun i y hy => ?_, rfl, fun h => (by cases h), by omega, fun y hy => by simp at hy; omega, fun k hk hf => ?_⟩
  · rcases i with _ | i
    · simp at hy
      subst hy
      exact ⟨w.heap.size, 0, rfl, by rw [cell_of_row _ _ _ _ _ _ (heap_alloc_new w _)]; rfl⟩
    · simp at hy
  · have := hl k hf
    have : k = w.heap.size := by simpa [rowX, eq_comm] using hk
    omega
/-- A new row of zeros whose last byte is laid. -/
theorem long_row {w4 : World} {g M N : Nat} {x : Int} (hN : N = M + 1) (h : w4.ownsRow 0 5 1 (.slice (some ⟨g, 0, none⟩) N N) N (madeCells (Value.int .u8 0).cells (N * 1)).toList) (hx : 0 ≤ x ∧ x ≤ 255) :
    ∃ ys : List Int, Hid (ys.length = N) ∧ Hid (ByteList ys) ∧ (w4.setCell ⟨g, M, none⟩ (.int .u8 x)).ownsRow 0 5 1 (.slice (some ⟨g, 0, none⟩) N N) N (ys.map (Value.int .u8)) ∧ w4.cell? ⟨g, M, none⟩ = some (.int .u8 0) ∧ w4.frozen? ⟨g, M, none⟩ = false := by
  have hown : w4.ownsRow 0 5 1 (.slice (some ⟨g, 0, none⟩) N N) N ((List.replicate N 0).map (Value.int .u8)) := by
    rw [Nat.mul_one, show (Value.int .u8 0).cells = #[.int .u8 0] from rfl, toList_madeCells_one] at h
    rw [List.map_replicate]
    exact h
  refine ⟨(List.replicate N 0).set M x, ?_, ?_, own_set hown M x, ?_, hown.frozenAt M⟩
  · show _ = _; rw [List.length_set, List.length_replicate]
  · intro y hy
    rcases List.mem_or_eq_of_mem_set hy with h | h
    · have := List.eq_of_mem_replicate h; omega
    · rw [h]; exact hx
  · rw [hown.cellAt M (by omega), List.getElem?_map, List.getElem?_replicate, if_pos (by omega)]; rfl
set_option maxRecDepth 100000 in
set_option maxHeartbeats 2000000 in
theorem long_any {D : World → Nat → List Nat → DSt → Nat → Prop} {G : World → Nat → Nat → List Nat → List Int → List (List Int) → Nat → Prop} (L : LLaws D G) (n x : Int) (W : World) (hx : 0 ≤ x ∧ x ≤ 255) (hn0 : -9223372036854775808 ≤ n) (hn1 : n ≤ 9223372036854775807) (hld : Ld W) :
    Calls Tryd.prog 7 #[.int .i64 n, .int .u8 x] W fun e w' => e = .returned (.bool true) ∧ Moved W w' [] := by
  by_cases h0 : n < 0
  · go_enter Tryd.func7, Tryd.ntmps7
    go_wp2
    go_ret
    exact ⟨rfl, Moved.refl _ _⟩
  by_cases h2 : 2 < n
  · go_enter Tryd.func7, Tryd.ntmps7
    go_wp2
    go_ret
    exact ⟨rfl, Moved.refl _ _⟩
  obtain ⟨k, rfl⟩ : ∃ k : Nat, n = k := ⟨n.toNat, by omega⟩
  have hk : k ≤ 2 := by omega
  have HLD := Lib.hid hld
  have HX := Lib.hid hx
  clear hld hx
  go_enter Tryd.func7, Tryd.ntmps7
  go_wp2_with fail
  refine (At.new_ L.disk W).mono ?_
  rintro e w1 ⟨p, f1, rfl, h1⟩
  have H1 := Lib.hid h1
  clear h1
  go_wp2_with fail
  refine (LAt.open_ L H1.out HLD.out (open_new 0) log_nil (by omega)).mono ?_
  rintro e w2 ⟨l, d2, l2, rfl, h2, -⟩
  have H2 := Lib.hid h2
  clear h2
  go_wp2_with fail
  refine ((H2.out.again L _).append_ L HLD.out (mark_row2 (by exact H2.out.below L) _ HX.out) rfl (by omega) (s' := ⟨recFrame [x], 0, false, none⟩) rfl (by omega)).mono ?_
  rintro e w3 ⟨rfl, d3, l3, h3, -⟩
  have H3 := Lib.hid h3
  clear h3
  obtain ⟨i0, hi, hz0, hz1, hz2⟩ := info_parts info_u8
  obtain ⟨M, hM⟩ : ∃ M : Nat, M = 131070 + k := ⟨_, rfl⟩
  obtain ⟨N, hN⟩ : ∃ N : Nat, N = M + 1 := ⟨_, rfl⟩
  have hM2 : M ≤ 131072 := by omega
  obtain ⟨w4, hr, hown, hgr⟩ := run_make_full (P := Tryd.prog) w3 0 27 5 i0 (.int .u8 0) 1 Tryd.underlying27 hi hz0 hz1 .i64 .i64 N (by rw [hz2]; omega) (by unfold maxLen; omega) (Nat.zero_le _)
  obtain ⟨ys, HYL, HYB, hown, hc, hf⟩ := long_row hN hown HX.out
  have HOW := Lib.hid hown
  have HST := Lib.hid (show Step w3 (w4.setCell ⟨w3.heap.size, M, none⟩ (.int .u8 x)) [] [] from ⟨((Moved.refl w3 []).grown hgr (fun k h => by cases h)).setCell (p := ⟨w3.heap.size, M, none⟩) (.inr (Nat.le_refl _)) _, fun _ h => (by cases h)⟩)
  have H4 := Lib.hid (H3.out.keeps L HST.out (fun _ h => by cases h) (fun _ h => by cases h))
  have HLN := Lib.hid (show Lent (w4.setCell ⟨w3.heap.size, M, none⟩ (.int .u8 x)) (d3 ++ l3) (some ⟨w3.heap.size, 0, none⟩) N N ys from ⟨NRow.of_own HOW.out, HYL.out, (fun h => by cases h), by omega, HYB.out, fun b hb h => by
    have h3 := H3.out.below L b h
    obtain ⟨a, ha, -, hab⟩ := mem_rowX.1 hb
    injection ha with ha
    subst ha
    have : w3.heap.size = b := hab
    omega⟩)
  have e1 : IntKind.i64.wrap (131071 + (k : Int)) = (N : Int) := by rw [IntWalk.i64_in _ (by omega)]; omega
  have e3 : IntKind.i64.wrap ((N : Int) - 1) = (M : Int) := by rw [IntWalk.i64_in _ (by omega)]; omega
  have e4 : (131071 + (k : Int)) = (N : Int) := by omega
  have HMK := Lib.hid hM
  have HNM := Lib.hid hN
  have hN2 : N = 131071 + k := by omega
  have HN2 := Lib.hid hN2
  have hN3 : N ≤ 131073 := by omega
  have q1 : (0 : Int) ≤ M := by omega
  have q2 : (M : Int) < N := by omega
  clear hown hgr hM hN hN2
  by_cases hk0 : k = 0
  · obtain rfl := hk0
    have hN4 : N ≤ 131071 := by have := HN2.out; omega
    have e5 : (131071 : Int) = (N : Int) := by have := HN2.out; omega
    clear e4 e1
    go_wp2_with fail
    refine (H4.out.append_ L HLD.out HLN.out rfl hN4 (s' := ⟨recFrame [x] ++ recFrame ys, 0, false, none⟩) rfl (by omega)).mono ?_
    rintro e w5 ⟨rfl, d5, l5, h5, hS5⟩
    have HYR := Lib.hid (nrowx_moved HLN.out.row hS5.1 HLN.out.far)
    have HYF := Lib.hid (fun b hb h => by
      rcases hS5.2 b h with h' | h'
      · exact HLN.out.far b hb h'
      · have := HLN.out.row.ltX b hb; omega : ∀ b ∈ rowX (some ⟨w3.heap.size, 0, none⟩) ys, b ∉ d5 ++ l5)
    have H5 := Lib.hid h5
    clear h5 hS5
    go_wp2_with fail
    refine (H5.out.recs L (by omega)).mono ?_
    rintro e w6 ⟨A6, c6, vs6, l6, f6, rfl, -, -, -, -, -, -, h6, hS6⟩
    have HYR6 := Lib.hid (nrowx_moved HYR.out hS6.1 (fun b hb h => HYF.out b hb (List.mem_append.2 (.inr h))))
    have HYF6 := Lib.hid (fun b hb h => by
      rcases List.mem_append.1 h with h | h
      · exact HYF.out b hb (List.mem_append.2 (.inl h))
      · rcases hS6.2 b h with h' | h'
        · exact HYF.out b hb (List.mem_append.2 (.inr h'))
        · have := HYR.out.ltX b hb; omega : ∀ b ∈ rowX (some ⟨w3.heap.size, 0, none⟩) ys, b ∉ d5 ++ l6)
    have H6 := Lib.hid h6
    clear h6 hS6
    go_wp2_with fail
    refine (H6.out.compact_ L HLD.out ⟨HYR6.out, HYL.out, (fun h => by cases h), by omega, HYB.out, HYF6.out⟩ rfl hN4 (s' := ⟨snapFrame ys, (snapFrame ys).length, false, none⟩) rfl (by omega)).mono ?_
    rintro e w7 ⟨rfl, d7, l7, h7, -⟩
    have H7 := Lib.hid h7
    clear h7
    go_wp2_with fail
    refine (H7.out.recs L (by omega)).mono ?_
    rintro e w8 ⟨A8, c8, vs8, l8, f8, rfl, -, -, -, -, -, -, h8, -⟩
    have H8 := Lib.hid h8.old
    clear h8
    go_wp2_with fail
    refine (wakes_any L _ (by exact HLD.out.moved H8.out)).mono ?_
    rintro e w9 ⟨rfl, hM9⟩
    have HM9 := Lib.hid (H8.out.trans hM9 (fun _ h => by cases h))
    clear hM9
    go_wp2
    go_ret
    exact ⟨rfl, HM9.out⟩
  · have hk1 : 0 < k := by omega
    have hN4 : 131071 < N := by have := HN2.out; omega
    go_wp2_with fail
    refine (H4.out.long L HLD.out HLN.out rfl hN4 (by omega)).mono ?_
    rintro e w5 ⟨rfl, d5, l5, h5, hS5⟩
    have HYR := Lib.hid (nrowx_moved HLN.out.row hS5.1 HLN.out.far)
    have HYF := Lib.hid (fun b hb h => by
      rcases hS5.2 b h with h' | h'
      · exact HLN.out.far b hb h'
      · have := HLN.out.row.ltX b hb; omega : ∀ b ∈ rowX (some ⟨w3.heap.size, 0, none⟩) ys, b ∉ d5 ++ l5)
    have H5 := Lib.hid h5
    clear h5 hS5
    go_wp2_with fail
    refine (H5.out.recs L (by omega)).mono ?_
    rintro e w6 ⟨A6, c6, vs6, l6, f6, rfl, -, -, -, -, -, -, h6, hS6⟩
    have HYR6 := Lib.hid (nrowx_moved HYR.out hS6.1 (fun b hb h => HYF.out b hb (List.mem_append.2 (.inr h))))
    have HYF6 := Lib.hid (fun b hb h => by
      rcases List.mem_append.1 h with h | h
      · exact HYF.out b hb (List.mem_append.2 (.inl h))
      · rcases hS6.2 b h with h' | h'
        · exact HYF.out b hb (List.mem_append.2 (.inr h'))
        · have := HYR.out.ltX b hb; omega : ∀ b ∈ rowX (some ⟨w3.heap.size, 0, none⟩) ys, b ∉ d5 ++ l6)
    have H6 := Lib.hid h6
    clear h6 hS6
    have hmin : (if (1 : Int) < k then (1 : Int) else k) = 1 := by split <;> omega
    have hkz : ((k : Int) == 0) = false := by rw [beq_eq_false_iff_ne]; omega
    go_wp2_with fail
    refine (H6.out.compact_long L HLD.out ⟨HYR6.out, HYL.out, (fun h => by cases h), by omega, HYB.out, HYF6.out⟩ rfl hN4 (by omega)).mono ?_
    rintro e w7 ⟨rfl, d7, l7, h7, -⟩
    have H7 := Lib.hid h7
    clear h7
    go_wp2_with fail
    refine (H7.out.recs L (by omega)).mono ?_
    rintro e w8 ⟨A8, c8, vs8, l8, f8, rfl, -, -, -, -, -, -, h8, -⟩
    have H8 := Lib.hid h8.old
    clear h8
    go_wp2_with fail
    refine (wakes_any L _ (by exact HLD.out.moved H8.out)).mono ?_
    rintro e w9 ⟨rfl, hM9⟩
    have HM9 := Lib.hid (H8.out.trans hM9 (fun _ h => by cases h))
    clear hM9
    go_wp2
    go_ret
    exact ⟨rfl, HM9.out⟩
end Lg
end Go.Proofs.YtekleamkpfeifaaDoor
