/-
  CONTRACTS of slices.Clone over reservations, of resv.Load.
-/
import Derived.Test.YtnabnoaephjceaaResvFind
import Derived.Test.YtnabnoaephjceaaResvLimits
namespace Go.Proofs.Ytnabnoaephjceaa
namespace Rv
open Go.RowKit Am Pf
theorem Row.news {w : World} {ad : Addr} {l : List R} (h : Row w (some ad) l) : ∀ (j : Nat) u, (allCells l)[j]? = some u → w.cell? (ad.add j) = some u := by
  intro j u hu
  have hj : j < l.length * 8 := by rw [← allCells_len]; exact (List.getElem?_eq_some_iff.1 hu).1
  obtain ⟨r, hr⟩ : ∃ r, l[j / 8]? = some r := ⟨l[j / 8]'(by omega), List.getElem?_eq_getElem _⟩
  obtain ⟨g, off, e, hc⟩ := h (j / 8) r hr
  injection e with e
  subst e
  rw [add_none_]
  have h8 : r.cells[j % 8]? = some (r.cells[j % 8]'(by rw [cells_len]; omega)) := List.getElem?_eq_getElem _
  have h1 := allCells_at hr (j % 8) _ h8
  rw [show j / 8 * 8 + j % 8 = j by omega, hu] at h1
  have h2 := hc (j % 8) _ h8
  rw [show off + j / 8 * 8 + j % 8 = off + j by omega] at h2
  rw [h2, h1]
/-- A row that is made without anything in it. -/
theorem own_made0 (w : World) (e : TypeId) (size : Nat) : (w.alloc (.cells #[] e)).ownsRow 0 e size (.slice (some ⟨w.heap.size, 0, none⟩) 0 0) 0 [] :=
  ⟨by simp, .inr ⟨w.heap.size, 0, #[], rfl, Nat.zero_le _, heap_alloc_new w _, Nat.le_refl _, Nat.zero_le _, by simp, by simp⟩⟩
set_option maxHeartbeats 1000000 in
theorem clone_any (A : Option Addr) (n c : Nat) (l : List R) (w : World) (hn : l.length = n) (hl : n ≤ 1048576) (hR : Row w A l) (hA0 : A = none → n = 0) :
    Calls Try.prog 10 #[.slice A n c] w fun e w' => ∃ v', e = .returned v' ∧ Own w' v' l ∧ Step w w' [] (rowOf v') := by
  obtain ⟨i0, hi, hz0, hz1, hz2⟩ := info_parts info_resv
  have q : ∀ (w : World) (a : Option Addr) (n c n' c' : Nat), (binOp .eql 24 (.slice a n c) (.slice none n' c')).run Try.prog w = .ok (.bool a.isNone) w := fun w a n c n' c' => Lib.run_eql_slice_nil w _ _ a n c n' c' Try.underlying24
  have HR := Lib.hid hR
  have HN := Lib.hid hn
  clear hR hn
  rcases A with _ | ad
  · obtain rfl := hA0 rfl
    have HL : Hid (l = []) := List.eq_nil_of_length_eq_zero HN.out
    go_enter Try.func10, Try.ntmps10
    go_wp2
    go_ret
    exact ⟨_, rfl, by rw [HL.out]; exact World.ownsRow_nil _ _ _ _, Step.refl _ _⟩
  · have HO := Lib.hid (own_made0 w 29 8)
    have HNEWS := Lib.hid ((HR.out.still ((Moved.refl w []).alloc (.cells #[] 29))).news)
    go_enter Try.func10, Try.ntmps10
    go_wp2_with (first
      | refine wpList_append_roww rfl (.tmp 5) (.tmp 6) 24 rfl 29 i0 _ 8 72 Try.underlying24 hi hz0 hz1 hz2 rfl (by decide) _ 0 [] rfl (by exact HO.out) ad n c (allCells l) rfl (by rw [allCells_len, HN.out]) (by exact HNEWS.out) (cells_one8 _) (by unfold maxLen; omega) (by omega) ?_)
    intro v' w' h1 h2
    have H1 := Lib.hid (show Own w' v' l by unfold Own; rw [HN.out]; simpa using h1)
    have H2 := Lib.hid (show Step w w' [] (rowOf v') from ⟨((Moved.refl w []).alloc _).trans h2.1 (fun k hk => .inr (by simp [rowOf, Value.ownBlock] at hk; omega)), fun k hk => .inr ((h2.2 k hk).elim (fun h => by simp [rowOf, Value.ownBlock] at h; omega) (fun h => by simp at h; omega))⟩)
    clear h1 h2
    go_wp2
    go_ret
    exact ⟨v', rfl, H1.out, H2.out⟩
def bCells (b : Bu) : List Value := [.int .i64 b.f, .int .i64 b.t, amt b.n 0]
def buCells (bs : List Bu) : List Value := bs.flatMap bCells
theorem buCells_append (a b : List Bu) : buCells (a ++ b) = buCells a ++ buCells b := List.flatMap_append
theorem buCells_len (l : List Bu) : (buCells l).length = l.length * 3 := by
  induction l with
  | nil => rfl
  | cons a r ih => rw [buCells, List.flatMap_cons, List.length_append, show (r.flatMap _) = buCells r from rfl, ih]; simp [bCells]; omega
theorem buCells_at : ∀ {l : List Bu} {k : Nat} {r : Bu}, l[k]? = some r → ∀ j u, (bCells r)[j]? = some u → (buCells l)[k * 3 + j]? = some u
  | [], k, r, h => by simp at h
  | a :: l, 0, r, h => fun j u hu => by
    simp at h; subst h
    rw [buCells, List.flatMap_cons, Nat.zero_mul, Nat.zero_add, List.getElem?_append_left (List.getElem?_eq_some_iff.1 hu).1]
    exact hu
  | a :: l, k + 1, r, h => fun j u hu => by
    have := buCells_at (l := l) (k := k) (r := r) (by simpa using h) j u hu
    rw [buCells, List.flatMap_cons, List.getElem?_append_right (by simp [bCells]; omega), show (bCells a).length = 3 from rfl, show (k + 1) * 3 + j - 3 = k * 3 + j by omega]
    exact this
def BOwn (w : World) (v : Value) (l : List Bu) : Prop := w.ownsRow 0 27 3 v l.length (buCells l)
theorem BOwn.row {w : World} {A : Option Addr} {n c : Nat} {l : List Bu} (h : BOwn w (.slice A n c) l) : BuRow w A l := by
  intro k r hr
  rcases h.2 with ⟨_, h0⟩ | ⟨g, cap, cur, hv, _⟩
  · have := (List.getElem?_eq_some_iff.1 hr).1; omega
  · injection hv with hA
    subst hA
    have H : ∀ j u, (bCells r)[j]? = some u → w.cell? ⟨g, 0 + k * 3 + j, none⟩ = some u := fun j u hu => by
      have h1 := h.cells (g := g) rfl (k * 3 + j) u (buCells_at hr j u hu)
      rw [add_none_, ← Nat.add_assoc] at h1
      exact h1
    exact ⟨g, 0, rfl, H 0 _ rfl, H 1 _ rfl, H 2 _ rfl⟩
theorem bown_shape {w : World} {v : Value} {l : List Bu} {n : Nat} (h : BOwn w v l) (hn : l.length = n) : ∃ A c, v = .slice A n c ∧ (A = none → c = 0) ∧ n ≤ c ∧ c ≤ 9223372036854775807 := by
  subst hn
  rcases h.2 with ⟨rfl, h0⟩ | ⟨g, cap, cur, rfl, _, _, hc, hm, _⟩
  · exact ⟨none, 0, by rw [h0], fun _ => rfl, by omega, by omega⟩
  · exact ⟨_, _, rfl, (fun hA => by cases hA), hc, by unfold maxLen at hm; omega⟩
theorem bu_one (l : List Bu) : ∀ u ∈ buCells l, u.oneCell' = true := by
  intro u hu
  unfold buCells at hu
  rw [List.mem_flatMap] at hu
  obtain ⟨r, _, hr⟩ := hu
  simp only [bCells, List.mem_cons, List.not_mem_nil, or_false] at hr
  rcases hr with rfl | rfl | rfl <;> rfl
theorem bu_news (w : World) (b : Bu) (cs : Array Value) (hc : cs = (bCells b).toArray) (e : TypeId) : ∀ (j : Nat) u, (buCells [b])[j]? = some u → (w.alloc (.cells cs e)).cell? ((⟨w.heap.size, 0, none⟩ : Addr).add j) = some u := by
  intro j u hu
  rw [add_none_, cell_of_row _ _ _ _ _ _ (heap_alloc_new w _), Nat.zero_add, hc]
  simpa [buCells] using hu
theorem info_busy : (Try.prog.info? 27).map (fun i => (i.zero, i.size, i.bytes)) = some (some (.agg #[.int .i64 0, .int .i64 0, .complex .f64 0 0]), 3, 32) := by kernel_rfl
attribute [local go_sem] store_cplx'
set_option maxHeartbeats 2000000 in
theorem load_any (A : Option Addr) (n c : Nat) (l : List R) (w : World) (hn : l.length = n) (hl : n ≤ 1048576) (hR : Row w A l) :
    Calls Try.prog 22 #[.slice A n c] w fun e w' => ∃ v', e = .returned v' ∧ BOwn w' v' (l.map R.b) ∧ Step w w' [] (rowOf v') := by
  obtain ⟨i0, hi, hz0, hz1, hz2⟩ := info_parts info_busy
  have HR := Lib.hid hR
  have HN := Lib.hid hn
  clear hR hn
  go_enter Try.func22, Try.ntmps22
  go_wp2_with (first
    | refine wpList_make_own w rfl _ _ 35 rfl w.heap.size 27 i0 _ 3 Try.underlying35 hi hz0 hz1 .i64 .i64 _ n rfl rfl (by omega) (by rw [hz2]; omega) (by unfold maxLen; omega) (Nat.le_refl _) ?_)
  intro w3 ho hg
  have hM3 : Moved w w3 [] := (Moved.refl w []).grown hg (fun k h => by cases h)
  have HO := Lib.hid (ownsRow_zero ho)
  have HG : Hid (∀ b ∈ rowOf (.slice (some ⟨w.heap.size, 0, none⟩) 0 n), w.heap.size ≤ b) := fun b hb => (ho.lt b (mem_rowOf.1 hb)).1
  have HM3 := Lib.hid hM3
  clear ho hg hM3
  go_wp2_with fail
  go_loopw [3, 5, 11] (fun v _ i wr => ∃ k : Nat, i = .int .i64 k ∧ k ≤ n ∧ Hid (BOwn wr v ((l.map R.b).take k)) ∧ Hid (∀ b ∈ rowOf v, w.heap.size ≤ b) ∧ Hid (Moved w wr [])) (fun _ _ i _ => n - (intOf i).toNat)
  case atStart => exact ⟨0, rfl, by omega, HO.out, HG.out, HM3.out⟩
  case round =>
    obtain ⟨k, rfl, hk, HO, HG, HM⟩ := hrel
    by_cases hlt : k < n
    · obtain ⟨x, hx⟩ : ∃ x, l[k]? = some x := ⟨l[k]'(by have := HN.out; omega), List.getElem?_eq_getElem _⟩
      obtain ⟨g, off, rfl, c0, c1, c2, c3, c4, c5, c6, c7⟩ := (HR.out.still HM.out).at_ hx
      obtain ⟨X, Y, hX⟩ := amt_parts x.b.n
      obtain ⟨F, hF⟩ : ∃ F : Int, F = x.b.f := ⟨_, rfl⟩
      obtain ⟨T, hT⟩ : ∃ F : Int, F = x.b.t := ⟨_, rfl⟩
      rw [hX] at c5
      rw [← hF] at c3
      rw [← hT] at c4
      have hlen : ((l.map R.b).take k).length = k := by rw [List.length_take, List.length_map, HN.out]; omega
      obtain ⟨A, cc, rfl, hA0, hlc, hcm⟩ := bown_shape HO.out hlen
      have HX := Lib.hid hx
      have HXX := Lib.hid hX
      have HF := Lib.hid hF
      have HT := Lib.hid hT
      have HL := Lib.hid hlen
      have HM2 : Hid (Moved wr ((wr.alloc (.cells #[.int .i64 x.a, .int .i64 x.i, .int .i64 x.n, .int .i64 F, .int .i64 T, .complex .f64 X Y, .bool x.sure, .int .i64 x.til] 29)).alloc (.cells #[.int .i64 F, .int .i64 T, .complex .f64 X Y] 27)) []) := ((Moved.refl wr []).alloc _).alloc _
      have HO1 : Hid (((wr.alloc (.cells #[.int .i64 x.a, .int .i64 x.i, .int .i64 x.n, .int .i64 F, .int .i64 T, .complex .f64 X Y, .bool x.sure, .int .i64 x.til] 29)).alloc (.cells #[.int .i64 F, .int .i64 T, .complex .f64 X Y] 27)).ownsRow 0 27 3 (.slice A k cc) k (buCells ((l.map R.b).take k))) := own_stays (by have := HO.out; unfold BOwn at this; rw [hlen] at this; exact this) (fun j hj => HM2.out.block j (own_lt HO.out j hj) (fun h => by cases h))
      have HNEWS : Hid (∀ (j : Nat) u, (buCells [x.b])[j]? = some u → ((wr.alloc (.cells #[.int .i64 x.a, .int .i64 x.i, .int .i64 x.n, .int .i64 F, .int .i64 T, .complex .f64 X Y, .bool x.sure, .int .i64 x.til] 29)).alloc (.cells #[.int .i64 F, .int .i64 T, .complex .f64 X Y] 27)).cell? ((⟨wr.heap.size + 1, 0, none⟩ : Addr).add j) = some u) := by
        have := bu_news (wr.alloc (.cells #[.int .i64 x.a, .int .i64 x.i, .int .i64 x.n, .int .i64 F, .int .i64 T, .complex .f64 X Y, .bool x.sure, .int .i64 x.til] 29)) x.b #[.int .i64 F, .int .i64 T, .complex .f64 X Y] (by rw [hF, hT, ← hX]; rfl) 27
        rw [show (wr.alloc (.cells #[.int .i64 x.a, .int .i64 x.i, .int .i64 x.n, .int .i64 F, .int .i64 T, .complex .f64 X Y, .bool x.sure, .int .i64 x.til] 29)).heap.size = wr.heap.size + 1 by simp] at this
        exact this
      have HTK : Hid (buCells ((l.map R.b).take k) ++ buCells [x.b] = buCells ((l.map R.b).take (k + 1))) := by
        show _ = _
        rw [← buCells_append, List.take_add_one, List.getElem?_map, hx]; rfl
      clear hx hX hF hT hlen
      go_wp2_with (first
        | refine wpList_append_roww rfl (.tmp 15) (.tmp 18) 35 rfl 27 i0 _ 3 32 Try.underlying35 hi hz0 hz1 hz2 rfl (by decide) _ _ _ rfl (by exact HO1.out) ⟨wr.heap.size + 1, 0, none⟩ 1 1 (buCells [x.b]) rfl rfl (by exact HNEWS.out) (bu_one _) (by unfold maxLen; omega) (by omega) ?_)
      intro v' w' h1 h2
      have H1 := Lib.hid (show BOwn w' v' ((l.map R.b).take (k + 1)) by unfold BOwn; rw [show ((l.map R.b).take (k + 1)).length = k + 1 by rw [List.length_take, List.length_map, HN.out]; omega, ← HTK.out]; exact h1)
      have HG1 : Hid (∀ b ∈ rowOf v', w.heap.size ≤ b) := fun b hb => (h2.2 b hb).elim (HG.out b) (fun h => by have := HM.out.size; have := HM2.out.size; omega)
      have HM3 := Lib.hid ((HM.out.trans HM2.out (fun _ h => by cases h)).trans h2.1 (fun b hb => .inr (HG.out b hb)))
      clear h1 h2
      go_wp2
      go_round
      case rel => exact ⟨k + 1, by go_num, by omega, H1.out, HG1.out, HM3.out⟩
      case measure => simp [intOf]; omega
    · have HT : Hid ((l.map R.b).take k = l.map R.b) := List.take_of_length_le (by rw [List.length_map, HN.out]; omega)
      go_wp2
      go_ret
      exact ⟨_, rfl, by rw [← HT.out]; exact HO.out, HM.out, fun b hb => .inr (HG.out b hb)⟩
end Rv
end Go.Proofs.Ytnabnoaephjceaa
