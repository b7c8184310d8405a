/-
  THE MEMORY of the program's search: the array of what is known, the row of places, each with a row of events of its own; the contract of slices.Clone over ints.
-/
import Derived.Test.YtmaoemedodpebabDoorLifeBfs
import Derived.Test.YtmaoemedodpebabDoorLifeWalk
import Derived.Test.YtmaoemedodpebabDoorRowWide
import Derived.Laws.Rows
namespace Go.Proofs.YtmaoemedodpebabDoor
namespace Lf
open Go.RowKit
/-- The cells of the places: a state, and the slice of its events. -/
def pcs : List (Int × List Int) → List Value → List Value
  | [], _ => []
  | _ :: _, [] => []
  | p :: ps, u :: us => .int .i64 p.1 :: u :: pcs ps us
theorem pcs_len : ∀ {ps : List (Int × List Int)} {us : List Value}, us.length = ps.length → (pcs ps us).length = ps.length * 2
  | [], _, _ => rfl
  | _ :: _, [], h => by simp at h
  | p :: ps, u :: us, h => by simp only [pcs, List.length_cons]; rw [pcs_len (by simpa using h)]; omega
theorem pcs_app : ∀ {ps : List (Int × List Int)} {us : List Value} (p : Int × List Int) (u : Value), us.length = ps.length → pcs (ps ++ [p]) (us ++ [u]) = pcs ps us ++ [.int .i64 p.1, u]
  | [], [], _, _, _ => rfl
  | [], _ :: _, _, _, h => by simp at h
  | _ :: _, [], _, _, h => by simp at h
  | p :: ps, v :: us, q, u, h => by simp only [List.cons_append, pcs]; rw [pcs_app q u (by simpa using h)]
theorem pcs_at : ∀ {ps : List (Int × List Int)} {us : List Value} {i : Nat} {p : Int × List Int} {u : Value}, ps[i]? = some p → us[i]? = some u → (pcs ps us)[i * 2]? = some (.int .i64 p.1) ∧ (pcs ps us)[i * 2 + 1]? = some u
  | [], _, _, _, _, h, _ => by simp at h
  | _ :: _, [], _, _, _, _, h => by simp at h
  | _ :: _, _ :: _, 0, _, _, h, h2 => by simp at h h2; subst h h2; exact ⟨rfl, rfl⟩
  | _ :: ps, _ :: us, i + 1, _, _, h, h2 => by
    have := pcs_at (ps := ps) (us := us) (i := i) (by simpa using h) (by simpa using h2)
    rw [show (i + 1) * 2 = i * 2 + 1 + 1 by omega]
    exact this
/-- A place's row of events. -/
structure Ev (w0 w : World) (pk : Nat) (v : Value) (l : List Int) (u : Value) : Prop where
  own : w.ownsRow 0 3 1 u l.length (l.map (Value.int .i64))
  apart : ∀ b ∈ rowOf u, w0.heap.size ≤ b ∧ b ≠ pk ∧ b ∉ rowOf v
structure Here (w0 w : World) (v : Value) (pk : Nat) (s : Kn) (us : List Value) : Prop where
  known : w.heap[pk]? = some (.cells (s.1.map Value.bool).toArray 33 (0, 0))
  newk : w0.heap.size ≤ pk
  len : us.length = s.2.length
  row : w.ownsRow 0 35 2 v s.2.length (pcs s.2 us)
  newv : ∀ b ∈ rowOf v, w0.heap.size ≤ b ∧ b ≠ pk
  evs : ∀ (i : Nat) p u, s.2[i]? = some p → us[i]? = some u → Ev w0 w pk v p.2 u
  moved : Moved w0 w []
variable {w0 w w' : World} {v v' : Value} {pk : Nat} {s : Kn} {us : List Value} {l : List Int} {u : Value}
theorem own_kept {base : Nat} {e : TypeId} {size : Nat} {v : Value} {n : Nat} {xs : List Value} (h : w.ownsRow base e size v n xs) (hM : Moved w w' []) : w'.ownsRow base e size v n xs :=
  own_stays h (fun k hk => hM.block k (own_lt h k hk) (fun h => by cases h))
theorem Ev.moved (h : Ev w0 w pk v l u) (hM : Moved w w' []) : Ev w0 w' pk v l u := ⟨own_kept h.own hM, h.apart⟩
theorem blk_lt {b : Nat} {o : Obj} (h : w.heap[b]? = some o) : b < w.heap.size := (Array.getElem?_eq_some_iff.1 h).1
theorem blk_kept {b : Nat} {o : Obj} (h : w.heap[b]? = some o) (hM : Moved w w' []) : w'.heap[b]? = some o := by
  rw [hM.block b (blk_lt h) (fun h => by cases h)]; exact h
theorem Here.go (h : Here w0 w v pk s us) (hM : Moved w w' []) : Here w0 w' v pk s us :=
  ⟨blk_kept h.known hM, h.newk, h.len, own_kept h.row hM, h.newv, fun i p u h1 h2 => (h.evs i p u h1 h2).moved hM, h.moved.trans hM (fun _ h => by cases h)⟩
theorem Ev.mark (h : Ev w0 w pk v l u) (t : Nat) (x : Value) : Ev w0 (w.setCell ⟨pk, t, none⟩ x) pk v l u :=
  ⟨ownsRow_setCell_other h.own (a := ⟨pk, t, none⟩) (fun e => (h.apart pk (mem_rowOf.2 e)).2.1 rfl) _, h.apart⟩
theorem Here.mark (h : Here w0 w v pk s us) (t : Nat) : Here w0 (w.setCell ⟨pk, t, none⟩ (.bool true)) v pk (s.1.set t true, s.2) us :=
  ⟨by rw [heap_setCell_same w pk t _ _ _ h.known]; simp, h.newk, h.len, ownsRow_setCell_other h.row (a := ⟨pk, t, none⟩) (fun e => (h.newv pk (mem_rowOf.2 e)).2 rfl) _, h.newv, fun i p u h1 h2 => (h.evs i p u h1 h2).mark t _, h.moved.setCell (.inr h.newk) _⟩
theorem Ev.step (h : Ev w0 w pk v l u) (hS : Step w w' (rowOf v) (rowOf v')) : Ev w0 w' pk v' l u :=
  ⟨own_stays h.own (fun k hk => hS.1.block k (own_lt h.own k hk) (h.apart k hk).2.2), fun b hb => ⟨(h.apart b hb).1, (h.apart b hb).2.1, fun hv => (hS.2 b hv).elim (h.apart b hb).2.2 (fun h2 => by have := own_lt h.own b hb; omega)⟩⟩
theorem Here.push (h : Here w0 w v pk s us) (t : Int) (hE : Ev w0 w pk v l u) (hO : w'.ownsRow 0 35 2 v' (s.2.length + 1) (pcs s.2 us ++ [.int .i64 t, u])) (hS : Step w w' (rowOf v) (rowOf v')) : Here w0 w' v' pk (s.1, s.2 ++ [(t, l)]) (us ++ [u]) := by
  refine ⟨?_, h.newk, by simp [h.len], ?_, ?_, ?_, h.moved.trans hS.1 (fun b hb => .inr (h.newv b hb).1)⟩
  · rw [hS.1.block pk (blk_lt h.known) (fun hb => (h.newv pk hb).2 rfl)]; exact h.known
  · rw [pcs_app (t, l) u h.len, List.length_append]; exact hO
  · intro b hb
    rcases hS.2 b hb with h1 | h1
    · exact h.newv b h1
    · have := blk_lt h.known
      have := h.moved.size
      exact ⟨by omega, by omega⟩
  · intro i p x h1 h2
    by_cases hi : i < s.2.length
    · have h1 : (s.2 ++ [(t, l)])[i]? = some p := h1
      rw [List.getElem?_append_left hi] at h1
      rw [List.getElem?_append_left (by rw [h.len]; exact hi)] at h2
      exact (h.evs i p x h1 h2).step hS
    · have h1 : (s.2 ++ [(t, l)])[i]? = some p := h1
      have hlt : i < (s.2 ++ [(t, l)]).length := (List.getElem?_eq_some_iff.1 h1).1
      have hi2 : i = s.2.length := by simp at hlt; omega
      subst hi2
      rw [List.getElem?_append_right (Nat.le_refl _)] at h1
      rw [List.getElem?_append_right (by rw [h.len]; exact Nat.le_refl _), h.len] at h2
      simp at h1 h2
      subst h1 h2
      exact hE.step hS
theorem Here.cells {g : Nat} {n c : Nat} (h : Here w0 w (.slice (some ⟨g, 0, none⟩) n c) pk s us) {i : Nat} {p : Int × List Int} {x : Value} (h1 : s.2[i]? = some p) (h2 : us[i]? = some x) : w.cell? ⟨g, i * 2, none⟩ = some (.int .i64 p.1) ∧ w.cell? ⟨g, i * 2 + 1, none⟩ = some x := by
  have h3 := pcs_at h1 h2
  have c1 := h.row.cells (g := g) rfl _ _ h3.1
  have c2 := h.row.cells (g := g) rfl _ _ h3.2
  rw [add_none_, Nat.zero_add] at c1 c2
  exact ⟨c1, c2⟩
theorem Here.shape (h : Here w0 w v pk s us) (hn : 0 < s.2.length) : ∃ g c, v = .slice (some ⟨g, 0, none⟩) s.2.length c ∧ g < w.heap.size ∧ s.2.length ≤ c ∧ c ≤ 9223372036854775807 := by
  rcases h.row.2 with ⟨_, h0⟩ | ⟨g, c, cur, hv, _, hh, h1, h2, _⟩
  · omega
  · exact ⟨g, c, hv, (Array.getElem?_eq_some_iff.1 hh).1, h1, by unfold maxLen at h2; omega⟩
theorem Here.some_at (h : Here w0 w v pk s us) {i : Nat} {p : Int × List Int} (h1 : s.2[i]? = some p) : ∃ x, us[i]? = some x :=
  ⟨us[i]'(by rw [h.len]; exact (List.getElem?_eq_some_iff.1 h1).1), List.getElem?_eq_getElem _⟩
theorem Here.bit (h : Here w0 w v pk s us) {t : Nat} {b : Bool} (hb : s.1[t]? = some b) : w.cell? ⟨pk, t, none⟩ = some (.bool b) :=
  cell_at h.known t (by rw [List.getElem?_toArray, List.getElem?_map, hb]; rfl)
theorem info_ints : (Tryd.prog.info? 3).map (fun i => (i.zero, i.size, i.bytes)) = some (some (.int .i64 0), 1, 8) := by kernel_rfl
/-- A row that is made without anything in it. -/
theorem own_none (w : World) (e : TypeId) (size : Nat) : (w.alloc (.cells #[] e)).ownsRow 0 e size (.slice (some ⟨w.heap.size, 0, none⟩) 0 0) 0 [] :=
  ⟨by simp, .inr ⟨w.heap.size, 0, #[], rfl, Nat.zero_le _, heap_alloc_new w _, Nat.le_refl _, Nat.zero_le _, by simp, by simp⟩⟩
set_option maxHeartbeats 1000000 in
/-- slices.Clone of a row of the call's own. -/
theorem iclone_any (u : Value) (l : List Int) (w : World) (hO : w.ownsRow 0 3 1 u l.length (l.map (Value.int .i64))) (hl : l.length ≤ 1048576) :
    Calls Tryd.prog 11 #[u] w fun e w' => ∃ v', e = .returned v' ∧ w'.ownsRow 0 3 1 v' l.length (l.map (Value.int .i64)) ∧ Step w w' [] (rowOf v') := by
  obtain ⟨i0, hi, hz0, hz1, hz2⟩ := info_parts info_ints
  have q : ∀ (w : World) (a : Option Addr) (n c n' c' : Nat), (binOp .eql 22 (.slice a n c) (.slice none n' c')).run Tryd.prog w = .ok (.bool a.isNone) w := fun w a n c n' c' => Lib.run_eql_slice_nil w _ _ a n c n' c' Tryd.underlying22
  obtain ⟨A, c, rfl, hN, hA0, hlc, hcm⟩ := own_nrow hO
  have HN := Lib.hid hN
  clear hN hO
  rcases A with _ | ad
  · have hl0 : l = [] := by
      rcases l with _ | ⟨x, r⟩
      · rfl
      · obtain ⟨_, _, h', _⟩ := HN.out 0 x rfl
        cases h'
    subst hl0
    obtain rfl := hA0 rfl
    go_enter Tryd.func11, Tryd.ntmps11
    go_wp2
    go_ret
    exact ⟨_, rfl, World.ownsRow_nil _ _ _ _, Step.refl _ _⟩
  · obtain ⟨n, hn⟩ : ∃ n, n = l.length := ⟨_, rfl⟩
    have HL := Lib.hid hn
    rw [← hn] at hlc hl ⊢
    have HO := Lib.hid (own_none w 3 1)
    have HNW := Lib.hid (HN.out.alloc (.cells #[] 3))
    clear hn
    go_enter Tryd.func11, Tryd.ntmps11
    go_wp2_with (first
      | refine wpList_append_row rfl (.tmp 5) (.tmp 6) 22 rfl 3 i0 .i64 8 Tryd.underlying22 hi hz0 hz1 hz2 _ 0 [] rfl (by exact HO.out) (some ad) n c l rfl HL.out.symm (by exact HNW.out) (fun h => by cases h) (by unfold maxLen; omega) (by omega) ?_)
    intro v' w' h1 h2
    have H1 := Lib.hid (show w'.ownsRow 0 3 1 v' n (l.map (Value.int .i64)) by simpa using h1)
    have H2 := Lib.hid (show Step w w' [] (rowOf v') from ⟨((Moved.refl w []).alloc _).trans h2.1 (fun k hk => .inr (by simp [rowOf, Value.ownBlock] at hk; omega)), fun k hk => .inr ((h2.2 k hk).elim (fun h => by simp [rowOf, Value.ownBlock] at h; omega) (fun h => by simp at h; omega))⟩)
    clear h1 h2
    go_wp2
    go_ret
    exact ⟨v', rfl, H1.out, H2.out⟩
/-- Where the search begins. -/
theorem here_start (w : World) (α : Nat) :
    Here w ((w.alloc (.cells ([Value.bool false, .bool false, .bool false, .bool false, .bool false, .bool false, .bool false, .bool false].set α (.bool true)).toArray 33)).alloc (.cells #[.int .i64 α, .slice none 0 0] 35))
      (.slice (some ⟨w.heap.size + 1, 0, none⟩) 1 1) w.heap.size (start α) [.slice none 0 0] := by
  obtain ⟨w1, hw1⟩ : ∃ w1, w1 = w.alloc (.cells ([Value.bool false, .bool false, .bool false, .bool false, .bool false, .bool false, .bool false, .bool false].set α (.bool true)).toArray 33) := ⟨_, rfl⟩
  have hs : w1.heap.size = w.heap.size + 1 := by rw [hw1]; simp
  have hk : w1.heap[w.heap.size]? = some (.cells (((start α).1.map Value.bool).toArray) 33 (0, 0)) := by
    rw [hw1, heap_alloc_new]
    unfold start
    rw [List.map_set]
    rfl
  have hM1 : Moved w w1 [] := by rw [hw1]; exact (Moved.refl w []).alloc _
  rw [← hw1, ← hs]
  refine ⟨?_, Nat.le_refl _, rfl, ?_, ?_, ?_, hM1.alloc _⟩
  · rw [Below.heap_alloc _ _ _ (by omega)]; exact hk
  · exact World.ownsRow_lit (e := 35) (size := 2) (base := 0) w1 #[.int .i64 α, .slice none 0 0] 1 (by omega) (by unfold maxLen; omega) rfl
  · intro b hb
    have : w1.heap.size = b := by simpa [mem_rowOf, Value.ownBlock] using hb
    omega
  · intro i p u h1 h2
    rcases i with _ | i
    · simp [start] at h1 h2
      subst h1 h2
      exact ⟨World.ownsRow_nil _ _ _ _, fun b hb => by simp [rowOf, Value.ownBlock] at hb⟩
    · simp at h2
theorem seen_none {st ev : Int} {evs : List Int} {s : Kn} (h : nxt st ev = none) : seen st evs ev s = s := by unfold seen; rw [h]
theorem seen_old {st ev : Int} {evs : List Int} {s : Kn} {t : Nat} (h : nxt st ev = some (t : Int)) (hb : s.1[t]? = some true) : seen st evs ev s = s := by
  unfold seen; rw [h]; dsimp only
  rw [Int.toNat_natCast, List.getD_eq_getElem?_getD, hb]
  rfl
theorem seen_new {st ev : Int} {evs : List Int} {s : Kn} {t : Nat} (h : nxt st ev = some (t : Int)) (hb : s.1[t]? = some false) : seen st evs ev s = (s.1.set t true, s.2 ++ [((t : Int), evs ++ [ev])]) := by
  unfold seen; rw [h]; dsimp only
  rw [Int.toNat_natCast, List.getD_eq_getElem?_getD, hb]
  rfl
theorem grow_step {w4 w5 w7 : World} {v5 v7 : Value} {o o2 : Obj} (h5 : Step w4 w5 [] (rowOf v5)) (h7 : Step (w5.alloc o) w7 (rowOf v5) (rowOf v7)) : Moved w4 (w7.alloc o2) [] ∧ ∀ b ∈ rowOf v7, w4.heap.size ≤ b := by
  have hn : ∀ b ∈ rowOf v5, w4.heap.size ≤ b := fun b hb => (h5.2 b hb).elim (fun h => by cases h) id
  have h56 : Moved w4 (w5.alloc o) [] := h5.1.alloc o
  refine ⟨(h56.trans h7.1 (fun b hb => .inr (hn b hb))).alloc o2, fun b hb => (h7.2 b hb).elim (hn b) (fun h => Nat.le_trans h56.size h)⟩
theorem Here.ev {w0 w4 w8 : World} {v u : Value} {pk : Nat} {s : Kn} {us : List Value} {l : List Int} (h : Here w0 w4 v pk s us) (hO : w8.ownsRow 0 3 1 u l.length (l.map (Value.int .i64))) (hn : ∀ b ∈ rowOf u, w4.heap.size ≤ b) : Ev w0 w8 pk v l u :=
  ⟨hO, fun b hb => ⟨Nat.le_trans h.moved.size (hn b hb), fun e => by have := blk_lt h.known; have := hn b hb; omega, fun hv => by have := own_lt h.row b hv; have := hn b hb; omega⟩⟩
theorem place_one (t : Int) (A : Option Addr) (n c : Nat) : ∀ u ∈ [Value.int .i64 t, .slice A n c], u.oneCell' = true := by
  intro u hu
  simp only [List.mem_cons, List.not_mem_nil, or_false] at hu
  rcases hu with rfl | rfl <;> rfl
theorem place_news (w : World) (t : Int) (v : Value) (e : TypeId) : ∀ (j : Nat) u, [Value.int .i64 t, v][j]? = some u → (w.alloc (.cells #[.int .i64 t, v] e)).cell? ((⟨w.heap.size, 0, none⟩ : Addr).add j) = some u := by
  intro j u hu
  rw [add_none_, cell_of_row _ _ _ _ _ _ (heap_alloc_new w _), Nat.zero_add]
  simpa using hu
theorem info_place : (Tryd.prog.info? 35).map (fun i => (i.zero, i.size, i.bytes)) = some (some (.agg #[.int .i64 0, .slice none 0 0]), 2, 32) := by kernel_rfl
end Lf
end Go.Proofs.YtmaoemedodpebabDoor
