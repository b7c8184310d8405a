/-
  CONTRACT of slices.Insert of one reservation, at the beginning or at the end of a row of the call's own.
-/
import Derived.Test.YtnabnoaephjceaaResvConcat
import Derived.Lib.AppendZerosOnto
import Derived.Lib.Overlaps
import Derived.Test.YtnabnoaephjceaaCopyWide
namespace Go.Proofs.Ytnabnoaephjceaa
namespace Rv
open Go.RowKit Am Pf
set_option maxRecDepth 100000 in
set_option maxHeartbeats 2000000 in
theorem insert_end (A : Option Addr) (n c vb : Nat) (l : List R) (r : R) (w : World) (hn : l.length = n) (hl : n ≤ 1048576) (hO : Own w (.slice A n c) l) (hv : w.heap[vb]? = some (.cells r.cells.toArray 29 (0, 0))) :
    Calls Try.prog 9 #[.slice A n c, .int .i64 n, .slice (some ⟨vb, 0, none⟩) 1 1] w fun e w' => ∃ v', e = .returned v' ∧ Own w' v' (l ++ [r]) ∧ Step w w' (rowOf (.slice A n c)) (rowOf v') := by
  obtain ⟨i0, hi, hz0, hz1, hz2⟩ := info_parts info_resv
  obtain ⟨A', c', he, hA0, hnc, hc⟩ := own_shape8 hO hn
  injection he with he1 _ he2
  subst he1 he2
  have HO := Lib.hid (show w.ownsRow 0 29 8 (.slice A n c) n (allCells l) by unfold Own at hO; rw [hn] at hO; exact hO)
  have HNEWS : Hid (∀ (j : Nat) u, (allCells [r])[j]? = some u → w.cell? ((⟨vb, 0, none⟩ : Addr).add j) = some u) := fun j u hu => by
    rw [add_none_, cell_of_row _ _ _ _ _ _ hv, Nat.zero_add]; simpa [allCells] using hu
  have HN := Lib.hid hn
  clear hO hn hv
  by_cases hcn : c = n
  case' pos => subst hcn
  all_goals
    rcases A with _ | ad
    case' none => obtain rfl := hA0 rfl
    all_goals
      go_enter Try.func9, Try.ntmps9
      go_wp2_with (first
        | refine wpList_append_roww rfl (.tmp 23) (.tmp 24) 24 rfl 29 i0 _ 8 72 Try.underlying24 hi hz0 hz1 hz2 rfl (by decide) _ _ (allCells l) rfl (by exact HO.out) ⟨vb, 0, none⟩ 1 1 (allCells [r]) rfl rfl (by exact HNEWS.out) (cells_one8 _) (by unfold maxLen; omega) (by omega) ?_)
      intro v' w' h1 h2
      have H1 := Lib.hid (show Own w' v' (l ++ [r]) by unfold Own; rw [List.length_append, HN.out, allCells_append]; exact h1)
      have H2 := Lib.hid h2
      clear h1 h2
      go_wp2
      go_ret
      exact ⟨v', rfl, H1.out, H2.out⟩
theorem splice_two {L a b : List Value} : (splice (splice L 0 a) a.length b).take (a.length + b.length) = a ++ b := by
  have e1 : splice L 0 a = a ++ L.drop a.length := by simp [splice]
  rw [e1]
  unfold splice
  rw [List.take_append_of_le_length (Nat.le_refl _), List.take_length, ← List.append_assoc, List.take_append_of_le_length (by rw [List.length_append]; exact Nat.le_refl _), List.take_of_length_le (by rw [List.length_append]; exact Nat.le_refl _)]
theorem splice_back {L a b : List Value} (h : a.length ≤ L.length) : (splice (splice L a.length b) 0 a).take (a.length + b.length) = a ++ b := by
  unfold splice
  rw [List.take_zero, List.nil_append, Nat.zero_add, List.drop_append_of_le_length (by rw [List.length_take]; omega), List.drop_eq_nil_of_le (by rw [List.length_take]; omega), List.nil_append, ← List.append_assoc, List.take_append_of_le_length (by rw [List.length_append]; exact Nat.le_refl _), List.take_of_length_le (by rw [List.length_append]; exact Nat.le_refl _)]
theorem row_news {w : World} {g : Nat} {L : List Value} {e : TypeId} (h : w.heap[g]? = some (.cells L.toArray e (0, 0))) {xs : List Value} {k : Nat} (hx : ∀ j u, xs[j]? = some u → L[k + j]? = some u) : ∀ (j : Nat) u, xs[j]? = some u → w.cell? ((⟨g, k, none⟩ : Addr).add j) = some u := by
  intro j u hu
  rw [add_none_, cell_of_row _ _ _ _ _ _ h]
  simpa using hx j u hu
theorem Own.block {w : World} {A : Option Addr} {n c : Nat} {l : List R} (h : Own w (.slice A n c) l) (hn : l.length = n) (hn0 : 0 < n) : ∃ g cur, A = some ⟨g, 0, none⟩ ∧ w.heap[g]? = some (.cells cur 29 (0, 0)) ∧ n ≤ c ∧ c ≤ maxLen ∧ cur.size = c * 8 ∧ cur.toList.take (n * 8) = allCells l := by
  subst hn
  rcases h.2 with ⟨_, h0⟩ | ⟨g, cap, cur, hv, _, h1, h2, h3, h4, h5⟩
  · omega
  · injection hv with e1 _ e2
    subst e1 e2
    exact ⟨g, cur, rfl, h1, h2, h3, h4, h5⟩
set_option maxRecDepth 100000 in
set_option maxHeartbeats 2000000 in
theorem insert_grow (g n vb : Nat) (l : List R) (r : R) (w : World) (hn : l.length = n) (hl : n ≤ 1048576) (hg : w.heap[g]? = some (.cells (allCells l).toArray 29 (0, 0))) (hv : w.heap[vb]? = some (.cells r.cells.toArray 29 (0, 0))) (hn0 : 0 < n) :
    Calls Try.prog 9 #[.slice (some ⟨g, 0, none⟩) n n, .int .i64 0, .slice (some ⟨vb, 0, none⟩) 1 1] w fun e w' => ∃ v', e = .returned v' ∧ Own w' v' (r :: l) ∧ Step w w' [] (rowOf v') := by
  obtain ⟨i0, hi, hz0, hz1, hz2⟩ := info_parts info_resv
  have hr := fun ty => Lib.run_append_grow_zeros (P := Try.prog) w 24 3 ty 29 i0 _ .i64 .i64 Try.underlying24 Try.underlying3 hi hz0 (some ⟨g, 0, none⟩) 0 n [] (by simp [Builtin.firstCells, loadCells, loadCellsFrom]) (n + 1) (by omega) (by omega) (by omega) (by omega) (by rw [hz2]; omega) (by rw [hz2]; exact growslice_fits (by omega) (by omega))
  have hge := grownCap_ge w (0 + (n + 1)) n 29
  have hle := grownCap_le_maxLen w (0 + (n + 1)) n 29 (by unfold maxLen; omega)
  obtain ⟨G, hG⟩ : ∃ G, G = grownCap w (0 + (n + 1)) n 29 := ⟨_, rfl⟩
  rw [← hG] at hr hge hle
  simp only [Nat.zero_add] at hr hge
  rw [show ((n + 1 : Nat) : Int) = (n : Int) + 1 by omega] at hr
  obtain ⟨Z, hZ⟩ : ∃ Z : Value, Z = .agg #[.int .i64 0, .int .i64 0, .int .i64 0, .int .i64 0, .int .i64 0, .complex .f64 0 0, .bool false, .int .i64 0] := ⟨_, rfl⟩
  obtain ⟨cs, hcs⟩ : ∃ cs, cs = #[] ++ Builtin.zeroCells Z.cells (n + 1) ++ Builtin.zeroCells Z.cells (G - (n + 1)) := ⟨_, rfl⟩
  have HCS := Lib.hid (show cs.size = G * 8 by rw [hcs, hZ]; simp [Builtin.zeroCells, Value.cells]; omega)
  obtain ⟨L, rfl⟩ : ∃ L : List Value, cs = L.toArray := ⟨cs.toList, by simp⟩
  have HLL : Hid (L.length = G * 8) := by show L.length = G * 8; simpa using HCS.out
  rw [← hZ, ← hcs] at hr
  have hG63 : G ≤ 9223372036854775807 := by unfold maxLen at hle; omega
  have hG1 : n + 1 ≤ G := hge
  have HLE := Lib.hid hle
  have HG := Lib.hid hg
  have HV := Lib.hid hv
  have HN := Lib.hid hn
  have HA : Hid ((w.alloc (.cells L.toArray 29)).drew.heap[w.heap.size]? = some (.cells L.toArray 29 (0, 0))) := heap_alloc_new w _
  have HMA : Hid (Moved w (w.alloc (.cells L.toArray 29)).drew []) := ((Moved.refl w []).alloc _).drew
  have HVA : Hid (∀ (j : Nat) u, r.cells[j]? = some u → (w.alloc (.cells L.toArray 29)).drew.cell? ((⟨vb, 0, none⟩ : Addr).add j) = some u) :=
    row_news ((HMA.out.block vb (lt_of_block hv) (fun h => by cases h)).trans hv) (fun j u hu => by rw [Nat.zero_add]; exact hu)
  have HONE : Hid (∀ v ∈ r.cells, v.oneCell' = true) := fun v hv => cells_one8 [r] v (by simpa [allCells] using hv)
  clear hcs hG hle hZ hge hg hv hn HCS
  have H0 : ((0 : Int) == (n : Int)) = false := by simp; omega
  go_enter Try.func9, Try.ntmps9
  go_wp2_with (first
    | (at_builtin; refine Lib.wpList_append_run _ rfl _ _ _ _ rfl _ _ rfl rfl _ _ (hr _) ?_)
    | (refine wpList_copy_roww rfl (.tmp 43) (.tmp 44) 24 24 rfl 29 8 1 Try.underlying24 (by kernel_rfl) w.heap.size 0 (n + 1) G ⟨vb, 0, none⟩ 1 1 rfl rfl L 29 (by exact HA.out) r.cells (by simp only [Nat.min_def]; split <;> omega) rfl (by exact HVA.out) (by rw [HLL.out, cells_len]; omega) (by exact HONE.out) ?_))
  intro w2 h2 hm2
  have H2 := Lib.hid h2
  have HM2 := Lib.hid (HMA.out.trans hm2 (fun k hk => .inr (by simp at hk; omega)) : Moved w w2 [])
  have HSRC : Hid (∀ (j : Nat) u, (allCells l)[j]? = some u → w2.drew.cell? ((⟨g, 0, none⟩ : Addr).add j) = some u) := row_news ((HM2.out.block g (lt_of_block HG.out) (fun h => by cases h)).trans HG.out) (fun j u hu => by rw [Nat.zero_add]; exact hu)
  have hw1 : IntKind.i64.wrap 1 = 1 := by decide
  have hn1 : (1 : Int) ≤ (n : Int) + 1 := by omega
  have hg1 : ¬ G = 1 := by omega
  clear h2 hm2
  go_wp2_with fail
  go_region_law (refine step_copy_roww rfl (.tmp 50) (.tmp 53) 24 24 rfl 29 8 n Try.underlying24 (by kernel_rfl) w.heap.size 8 n (G - 1) ⟨g, 0, none⟩ n n (by simp [Act.eval, Act.put]) (by simp [Act.eval, Act.put]) (splice L 0 r.cells) 29 (by exact H2.out) (allCells l) (by simp only [Nat.min_def]; split <;> omega) (by rw [allCells_len, HN.out]) (by exact HSRC.out) (by rw [length_splice _ _ _ (by rw [cells_len, HLL.out]; omega), allCells_len, HN.out, HLL.out]; omega) (cells_one8 _) ?_; intro w3 h3 hm3; have H3 := Lib.hid h3; have HM3 := Lib.hid (HM2.out.drew.trans hm3 (fun k hk => .inr (by simp at hk; omega)) : Moved w w3 []); clear h3 hm3)
  have HTK : Hid ((splice (splice L 0 r.cells) 8 (allCells l)).take ((n + 1) * 8) = allCells (r :: l)) := by
    show _ = _
    have h1 := splice_two (L := L) (a := r.cells) (b := allCells l)
    rw [cells_len, allCells_len, HN.out] at h1
    rw [show (n + 1) * 8 = 8 + n * 8 by omega, h1]
    rfl
  have HSZ : Hid ((splice (splice L 0 r.cells) 8 (allCells l)).length = G * 8) := by
    show _ = _
    have h1 : (splice L 0 r.cells).length = L.length := length_splice _ _ _ (by rw [cells_len, HLL.out]; omega)
    rw [length_splice _ _ _ (by rw [h1, allCells_len, HN.out, HLL.out]; omega), h1, HLL.out]
  go_wp2
  go_ret
  exact ⟨_, rfl, ⟨by rw [allCells_len, List.length_cons, HN.out], .inr ⟨w.heap.size, G, _, by rw [List.length_cons, HN.out]; rfl, Nat.zero_le _, H3.out, by rw [List.length_cons, HN.out]; exact hG1, HLE.out, by simpa using HSZ.out, by rw [List.length_cons, HN.out]; exact HTK.out⟩⟩, HM3.out, fun j hj => .inr (by have h1 : w.heap.size = j := (by simpa [mem_rowOf, Value.ownBlock] using hj); omega)⟩
set_option maxRecDepth 100000 in
set_option maxHeartbeats 2000000 in
theorem insert_room (g n c vb : Nat) (cur : Array Value) (l : List R) (r : R) (w : World) (hn : l.length = n) (hl : n ≤ 1048576) (hg : w.heap[g]? = some (.cells cur 29 (0, 0))) (hv : w.heap[vb]? = some (.cells r.cells.toArray 29 (0, 0))) (hvg : vb ≠ g)
    (hn0 : 0 < n) (hroom : n + 1 ≤ c) (hc : c ≤ maxLen) (hcs : cur.size = c * 8) (htk : cur.toList.take (n * 8) = allCells l) :
    Calls Try.prog 9 #[.slice (some ⟨g, 0, none⟩) n c, .int .i64 0, .slice (some ⟨vb, 0, none⟩) 1 1] w fun e w' => ∃ v', e = .returned v' ∧ Own w' v' (r :: l) ∧ Step w w' [g] (rowOf v') := by
  obtain ⟨i0, hi, hz0, hz1, hz2⟩ := info_parts info_resv
  have hov : (callFunc 17 #[.slice (some ⟨vb, 0, none⟩) 1 1, .slice (some ⟨g, 8, none⟩) n (c - 1)]).run Try.prog w = .ok (.value (.bool false)) w := by
    rw [run_callFunc_extern (fn := Try.f17) (e := Extern.SlicesOverlaps.overlaps #[24, 24] #[4]) Try.func17 (by kernel_rfl) (by kernel_rfl) (by kernel_rfl) (by kernel_rfl),
      Lib.run_overlaps_apart w 24 4 29 Try.underlying24 8 (fun w => by simp [sizeOf, typeInfo, hi, hz1]) ⟨vb, 0, none⟩ ⟨g, 8, none⟩ 1 1 n (c - 1) hvg 29 29 8 cur.size (by simp [World.shape?, hv, R.cells]) (by simp [World.shape?, hg]) (by omega) (by simp [World.frozen?, hv]) (by simp [World.frozen?, hv])]
    rfl
  obtain ⟨L, rfl⟩ : ∃ L : List Value, cur = L.toArray := ⟨cur.toList, by simp⟩
  have HLL : Hid (L.length = c * 8) := by show L.length = c * 8; simpa using hcs
  have HTK := Lib.hid (show L.take (n * 8) = allCells l by simpa using htk)
  have HG := Lib.hid hg
  have HV := Lib.hid hv
  have HN := Lib.hid hn
  have HC := Lib.hid hc
  have hc63 : c ≤ 9223372036854775807 := by unfold maxLen at hc; omega
  have HONE : Hid (∀ v ∈ r.cells, v.oneCell' = true) := fun v hv => cells_one8 [r] v (by simpa [allCells] using hv)
  clear hcs htk hg hv hn hc
  have H0 : ((0 : Int) == (n : Int)) = false := by simp; omega
  have hw1 : IntKind.i64.wrap 1 = 1 := by decide
  have hlt : ¬ ((c : Int) < (n : Int) + 1) := by omega
  have hc1 : ¬ c = 1 := by omega
  go_enter Try.func9, Try.ntmps9
  have HSRC : Hid (∀ (j : Nat) u, (allCells l)[j]? = some u → w.drew.cell? ((⟨g, 0, none⟩ : Addr).add j) = some u) := row_news (w := w.drew) HG.out (fun j u hu => by
    rw [Nat.zero_add]
    rw [← HTK.out, List.getElem?_take] at hu
    split at hu
    · exact hu
    · cases hu)
  have hn1 : (1 : Int) ≤ (n : Int) + 1 := by omega
  have hn2 : (0 : Int) ≤ (n : Int) + 1 := by omega
  have hc0 : ¬ c = 0 := by omega
  go_wp2_with fail
  go_region_law (refine step_copy_roww rfl (.tmp 73) (.tmp 76) 24 24 rfl 29 8 n Try.underlying24 (by kernel_rfl) g 8 n (c - 1) ⟨g, 0, none⟩ (n + 1) c (by simp [Act.eval, Act.put]) (by simp [Act.eval, Act.put]) L 29 (by exact HG.out) (allCells l) (by simp only [Nat.min_def]; split <;> omega) (by rw [allCells_len, HN.out]) (by exact HSRC.out) (by rw [allCells_len, HN.out, HLL.out]; omega) (cells_one8 _) ?_; intro w2 h2 hm2; have H2 := Lib.hid h2; have HM2 := Lib.hid ((Moved.refl w [g]).drew.trans hm2 (fun k hk => .inl hk) : Moved w w2 [g]); clear h2 hm2)
  have HVA : Hid (∀ (j : Nat) u, r.cells[j]? = some u → w2.cell? ((⟨vb, 0, none⟩ : Addr).add j) = some u) :=
    row_news ((HM2.out.block vb (lt_of_block HV.out) (by simpa using hvg)).trans HV.out) (fun j u hu => by rw [Nat.zero_add]; exact hu)
  have HSL : Hid ((splice L 8 (allCells l)).length = c * 8) := by
    show _ = _
    rw [length_splice _ _ _ (by rw [allCells_len, HN.out, HLL.out]; omega), HLL.out]
  go_wp2_with (refine wpList_copy_roww rfl (.tmp 80) (.tmp 81) 24 24 rfl 29 8 1 Try.underlying24 (by kernel_rfl) g 0 (n + 1) c ⟨vb, 0, none⟩ 1 1 rfl rfl (splice L 8 (allCells l)) 29 (by exact H2.out) r.cells (by simp only [Nat.min_def]; split <;> omega) rfl (by exact HVA.out) (by rw [HSL.out, cells_len]; omega) (by exact HONE.out) ?_)
  intro w3 h3 hm3
  have H3 := Lib.hid h3
  have HM3 := Lib.hid (HM2.out.trans hm3 (fun k hk => .inl hk) : Moved w w3 [g])
  clear h3 hm3
  have HTK3 : Hid ((splice (splice L 8 (allCells l)) 0 r.cells).take ((n + 1) * 8) = allCells (r :: l)) := by
    show _ = _
    have h1 := splice_back (L := L) (a := r.cells) (b := allCells l) (by rw [cells_len, HLL.out]; omega)
    rw [cells_len, allCells_len, HN.out] at h1
    rw [show (n + 1) * 8 = 8 + n * 8 by omega, h1]
    rfl
  have HSZ : Hid ((splice (splice L 8 (allCells l)) 0 r.cells).length = c * 8) := by
    show _ = _
    rw [length_splice _ _ _ (by rw [cells_len, HSL.out]; omega), HSL.out]
  go_wp2
  go_ret
  exact ⟨_, rfl, ⟨by rw [allCells_len, List.length_cons, HN.out], .inr ⟨g, c, _, by rw [List.length_cons, HN.out]; rfl, Nat.zero_le _, H3.out, by rw [List.length_cons, HN.out]; exact hroom, HC.out, by simpa using HSZ.out, by rw [List.length_cons, HN.out]; exact HTK3.out⟩⟩, HM3.out, fun j hj => .inl (by have h1 : g = j := (by simpa [mem_rowOf, Value.ownBlock] using hj); simp [h1])⟩
/-- Where the list goes, with r in it. -/
theorem insert_any (A : Option Addr) (n c vb p : Nat) (l : List R) (r : R) (w : World) (hn : l.length = n) (hl : n ≤ 1048576) (hO : Own w (.slice A n c) l) (hv : w.heap[vb]? = some (.cells r.cells.toArray 29 (0, 0))) (hvb : vb ∉ rowOf (.slice A n c)) (hp : Place l r p) :
    Calls Try.prog 9 #[.slice A n c, .int .i64 p, .slice (some ⟨vb, 0, none⟩) 1 1] w fun e w' => ∃ v', e = .returned v' ∧ Own w' v' (l.take p ++ r :: l.drop p) ∧ Step w w' (rowOf (.slice A n c)) (rowOf v') := by
  by_cases h0 : n = 0
  · obtain rfl : l = [] := List.eq_nil_of_length_eq_zero (by omega)
    obtain rfl : p = n := by rcases hp with ⟨_, h⟩ | ⟨_, h⟩ <;> simp_all
    have := insert_end A p c vb [] r w hn hl hO hv
    simpa using this
  · rcases hp with ⟨_, rfl⟩ | ⟨_, rfl⟩
    · obtain ⟨g, cur, rfl, h1, h2, h3, h4, h5⟩ := Own.block hO hn (by omega)
      have hr : rowOf (.slice (some ⟨g, 0, none⟩) n c) = [g] := rfl
      by_cases hc : n + 1 ≤ c
      · rw [hr]
        have := insert_room g n c vb cur l r w hn hl h1 hv (by rw [hr] at hvb; simpa using hvb) (by omega) hc h3 h4 h5
        simpa using this
      · obtain rfl : c = n := by omega
        have he : cur = (allCells l).toArray := by
          rw [← h5, List.take_of_length_le (by simp; omega)]
        subst he
        have := insert_grow g c vb l r w hn hl h1 hv (by omega)
        exact this.mono fun e w' ⟨v', h1, h2, h3⟩ => ⟨v', h1, by simpa using h2, h3.1.mono (fun _ h => by cases h), fun k hk => (h3.2 k hk).elim (fun h => by cases h) .inr⟩
    · rw [hn]
      have := insert_end A n c vb l r w hn hl hO hv
      rw [List.take_of_length_le (by omega), List.drop_eq_nil_of_le (by omega)]
      exact this
end Rv
end Go.Proofs.Ytnabnoaephjceaa
