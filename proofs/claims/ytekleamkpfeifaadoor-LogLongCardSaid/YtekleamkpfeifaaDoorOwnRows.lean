/-
  WORDS for slices of slices of bytes that the call itself made.
-/
import Derived.Test.YtekleamkpfeifaaDoorByteRows
namespace Go.Proofs.YtekleamkpfeifaaDoor
open Go.RowKit

/-- The blocks of the rows. -/
def partsOf (vs : List Value) : List Nat := (vs.map rowOf).flatten
/-- The value v is a row of the call's own, of rows of the call's own that hold the bytes ps; fp are all its blocks. -/
def OwnRows (w : World) (v : Value) (ps : List (List Int)) (fp : List Nat) : Prop :=
  ∃ vs, fp = rowOf v ++ partsOf vs ∧ w.ownsRow 0 27 1 v ps.length vs ∧ vs.length = ps.length ∧
    (∀ (i : Nat) (u : Value) (p : List Int), vs[i]? = some u → ps[i]? = some p → w.ownsRow 0 5 1 u p.length (p.map (Value.int .u8))) ∧ (∀ k ∈ rowOf v, k ∉ partsOf vs) ∧
    ∀ (i j : Nat) (u x : Value), i ≠ j → vs[i]? = some u → vs[j]? = some x → ∀ k ∈ rowOf u, k ∉ rowOf x
theorem mem_partsOf {vs : List Value} {k : Nat} : k ∈ partsOf vs ↔ ∃ (i : Nat) (u : Value), vs[i]? = some u ∧ k ∈ rowOf u := by
  unfold partsOf
  rw [List.mem_flatten]
  constructor
  · rintro ⟨l, hl, hk⟩
    obtain ⟨u, hu, rfl⟩ := List.mem_map.1 hl
    obtain ⟨i, hi⟩ := List.mem_iff_getElem?.1 hu
    exact ⟨i, u, hi, hk⟩
  · rintro ⟨i, u, hi, hk⟩
    exact ⟨rowOf u, List.mem_map.2 ⟨u, List.mem_of_getElem? hi, rfl⟩, hk⟩
theorem OwnRows.lt {w : World} {v : Value} {ps : List (List Int)} {fp : List Nat} (h : OwnRows w v ps fp) : ∀ k ∈ fp, k < w.heap.size := by
  obtain ⟨vs, rfl, hr, hl, he, _, _⟩ := h
  intro k hk
  rcases List.mem_append.1 hk with hk | hk
  · exact own_lt hr k hk
  · obtain ⟨i, u, hi, hk⟩ := mem_partsOf.1 hk
    obtain ⟨hi2, _⟩ := List.getElem?_eq_some_iff.1 hi
    exact own_lt (he i u ps[i] hi (List.getElem?_eq_getElem (by omega))) k hk
theorem OwnRows.stays {w w' : World} {v : Value} {ps : List (List Int)} {fp : List Nat} (h : OwnRows w v ps fp) (hS : ∀ k ∈ fp, w'.heap[k]? = w.heap[k]?) : OwnRows w' v ps fp := by
  obtain ⟨vs, rfl, hr, hl, he, ha, hd⟩ := h
  exact ⟨vs, rfl, own_stays hr (fun k hk => hS k (by simp [hk])), hl, fun i u p hu hp => own_stays (he i u p hu hp) (fun k hk => hS k (List.mem_append.2 (.inr (mem_partsOf.2 ⟨i, u, hu, hk⟩)))), ha, hd⟩
theorem OwnRows.moved {w w' : World} {v : Value} {ps : List (List Int)} {fp S : List Nat} (h : OwnRows w v ps fp) (hM : Moved w w' S) (hS : ∀ k ∈ fp, k ∉ S) : OwnRows w' v ps fp :=
  h.stays fun k hk => hM.block k (h.lt k hk) (hS k hk)
theorem OwnRows.nil (w : World) : OwnRows w (.slice none 0 0) [] [] := ⟨[], by simp [rowOf, Value.ownBlock, partsOf], World.ownsRow_nil _ _ _ _, rfl, fun i u p hu => by simp at hu, by simp [rowOf, Value.ownBlock], fun i j u x _ hu => by simp at hu⟩
/-- One row more. -/
theorem OwnRows.push {w w1 : World} {v v' u : Value} {ps : List (List Int)} {p : List Int} {fp : List Nat} {vs : List Value} (hfp : fp = rowOf v ++ partsOf vs) (hl : vs.length = ps.length)
    (he : ∀ (i : Nat) (u : Value) (p : List Int), vs[i]? = some u → ps[i]? = some p → w.ownsRow 0 5 1 u p.length (p.map (Value.int .u8))) (ha : ∀ k ∈ rowOf v, k ∉ partsOf vs)
    (hu : w.ownsRow 0 5 1 u p.length (p.map (Value.int .u8))) (hua : ∀ k ∈ rowOf u, k ∉ rowOf v) (hd : ∀ (i j : Nat) (u x : Value), i ≠ j → vs[i]? = some u → vs[j]? = some x → ∀ k ∈ rowOf u, k ∉ rowOf x) (hup : ∀ k ∈ rowOf u, k ∉ partsOf vs) (hown : w1.ownsRow 0 27 1 v' (ps.length + 1) (vs ++ [u])) (hS : Step w w1 (rowOf v) (rowOf v')) :
    ∃ fp', OwnRows w1 v' (ps ++ [p]) fp' ∧ Step w w1 (fp ++ rowOf u) fp' := by
  have hparts : partsOf (vs ++ [u]) = partsOf vs ++ rowOf u := by simp [partsOf]
  have hplt : ∀ k ∈ partsOf vs, k < w.heap.size := by
    intro k hk
    obtain ⟨i, x, hi, hk⟩ := mem_partsOf.1 hk
    obtain ⟨hi2, _⟩ := List.getElem?_eq_some_iff.1 hi
    exact own_lt (he i x ps[i] hi (List.getElem?_eq_getElem (by omega))) k hk
  refine ⟨rowOf v' ++ partsOf (vs ++ [u]), ⟨vs ++ [u], rfl, by simpa using hown, by simp [hl], ?_, ?_, ?_⟩, ?_, ?_⟩
  · intro i x q hx hq
    by_cases hi : i < vs.length
    · rw [List.getElem?_append_left hi] at hx
      rw [List.getElem?_append_left (by omega)] at hq
      exact own_moved' (he i x q hx hq) hS.1 (fun k hk hm => ha k hm (mem_partsOf.2 ⟨i, x, hx, hk⟩))
    · by_cases hi2 : i = vs.length
      · subst hi2
        rw [List.getElem?_append_right (by omega)] at hx
        rw [hl, List.getElem?_append_right (by omega)] at hq
        simp at hx hq
        subst hx hq
        exact own_moved' hu hS.1 hua
      · rw [List.getElem?_eq_none (by simp; omega)] at hx; cases hx
  · intro k hk hm
    rw [hparts] at hm
    rcases hS.2 k hk with h | h
    · rcases List.mem_append.1 hm with hm | hm
      · exact ha k h hm
      · exact hua k hm h
    · rcases List.mem_append.1 hm with hm | hm
      · have := hplt k hm; omega
      · have := own_lt hu k hm; omega
  · intro i j x y hij hx hy k hk hm
    rcases Nat.lt_trichotomy i vs.length with hi | hi | hi
    · rw [List.getElem?_append_left hi] at hx
      rcases Nat.lt_trichotomy j vs.length with hj | hj | hj
      · rw [List.getElem?_append_left hj] at hy
        exact hd i j x y hij hx hy k hk hm
      · subst hj
        rw [List.getElem?_append_right (by omega)] at hy
        simp at hy
        subst hy
        exact hup k hm (mem_partsOf.2 ⟨i, x, hx, hk⟩)
      · rw [List.getElem?_eq_none (by simp; omega)] at hy; cases hy
    · subst hi
      rw [List.getElem?_append_right (by omega)] at hx
      simp at hx
      subst hx
      rcases Nat.lt_trichotomy j vs.length with hj | hj | hj
      · rw [List.getElem?_append_left hj] at hy
        exact hup k hk (mem_partsOf.2 ⟨j, y, hy, hm⟩)
      · omega
      · rw [List.getElem?_eq_none (by simp; omega)] at hy; cases hy
    · rw [List.getElem?_eq_none (by simp; omega)] at hx; cases hx
  · subst hfp
    exact hS.1.mono (fun k hk => by simp [hk])
  · intro k hk
    subst hfp
    rw [hparts] at hk
    rcases List.mem_append.1 hk with hk | hk
    · exact (hS.2 k hk).imp (fun h => by simp [h]) id
    · rcases List.mem_append.1 hk with hk | hk
      · exact .inl (by simp [hk])
      · exact .inl (by simp [hk])
/-- What the call owns reads. -/
theorem OwnRows.reads {w : World} {v : Value} {ps : List (List Int)} {fp : List Nat} (h : OwnRows w v ps fp) :
    ∃ A c vs, v = .slice A ps.length c ∧ BRows w A vs ps ∧ (A = none → c = 0) ∧ ps.length ≤ c ∧ c ≤ 9223372036854775807 ∧ ∀ b ∈ rowsOf A vs ps, b ∈ fp := by
  obtain ⟨vs, rfl, hr, hl, he, ha, _⟩ := h
  obtain ⟨A, c, rfl, hc, h1, h2⟩ := own_shape hr
  refine ⟨A, c, vs, rfl, ⟨VRow.of_own hr, hl, fun i u p hu hp => Bites.of_own (he i u p hu hp)⟩, hc, h1, h2, ?_⟩
  intro b hb
  rcases List.mem_append.1 hb with hb | hb
  · refine List.mem_append.2 (.inl ?_)
    rcases A with _ | a
    · simp at hb
    · rcases vs with _ | ⟨x, r⟩
      · simp at hb
      · simp at hb; subst hb; simp [mem_rowOf, Value.ownBlock]
  · refine List.mem_append.2 (.inr ?_)
    obtain ⟨l, hl2, hb⟩ := List.mem_flatten.1 hb
    obtain ⟨i, hi⟩ := List.mem_iff_getElem?.1 hl2
    rw [List.getElem?_zipWith] at hi
    rcases hv : vs[i]? with _ | u
    · rw [hv] at hi; simp at hi
    · rcases hp : ps[i]? with _ | p
      · rw [hv, hp] at hi; simp at hi
      · rw [hv, hp] at hi
        simp at hi
        subst hi
        refine mem_partsOf.2 ⟨i, u, hv, ?_⟩
        obtain ⟨B, d, rfl, -⟩ := own_shape (he i u p hv hp)
        obtain ⟨a, rfl, _, rfl⟩ := mem_rowX.1 hb
        simp [mem_rowOf, Value.ownBlock]
end Go.Proofs.YtekleamkpfeifaaDoor
