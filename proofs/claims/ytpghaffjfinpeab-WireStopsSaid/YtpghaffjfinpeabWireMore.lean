/-
  What holds in a world holds in each later one of which nothing old was moved.
-/
import Derived.Test.YtpghaffjfinpeabWireZero
namespace Go.Proofs.Ytpghaffjfinpeab
namespace Wi
open Go.RowKit Pk Am
mutual
theorem Holds.wider {w : World} {b b' : Nat} (hb : b ≤ b') : ∀ (K : Kind) (v : Value) (d : Dat), Holds w b K v d → Holds w b' K v d
  | .num, v, d, h => by rw [Holds] at h ⊢; exact h
  | .mark, v, d, h => by rw [Holds] at h ⊢; exact h
  | .amt, v, d, h => by rw [Holds] at h ⊢; exact h
  | .text, v, d, h => by
    rw [Holds] at h ⊢
    obtain ⟨A, n, c, l, h1, h2, h3, h4, h5, h6, h7⟩ := h
    exact ⟨A, n, c, l, h1, h2, h3, h4, h5, fun k hk => Nat.lt_of_lt_of_le (h6 k hk) hb, h7⟩
  | .list most K, v, d, h => by
    rw [Holds] at h ⊢
    obtain ⟨A, n, c, rows, h1, h2, h3, h4, h5⟩ := h
    refine ⟨A, n, c, rows, h1, h2, h3, h4, fun i r hr => ?_⟩
    obtain ⟨g, off, vs, e1, e2, e3, e4⟩ := h5 i r hr
    exact ⟨g, off, vs, e1, Nat.lt_of_lt_of_le e2 hb, e3, HoldsAll.wider hb K vs r e4⟩
theorem HoldsAll.wider {w : World} {b b' : Nat} (hb : b ≤ b') : ∀ (K : List Kind) (vs : List Value) (ds : List Dat), HoldsAll w b K vs ds → HoldsAll w b' K vs ds
  | [], vs, ds, h => by rw [HoldsAll] at h ⊢; exact h
  | k :: ks, vs, ds, h => by
    rw [HoldsAll] at h ⊢
    obtain ⟨v, vs', d, ds', h1, h2, h3, h4⟩ := h
    exact ⟨v, vs', d, ds', h1, h2, Holds.wider hb k v d h3, HoldsAll.wider hb ks vs' ds' h4⟩
end
theorem Holds.moved {w w' : World} {K : Kind} {v : Value} {d : Dat} (h : Holds w w.heap.size K v d) (hM : Moved w w' []) : Holds w' w'.heap.size K v d :=
  Holds.wider hM.size _ _ _ (Holds.stays (Nat.le_refl _) (fun k hk => hM.block k hk (by simp)) _ _ _ h)
theorem HoldsAll.moved {w w' : World} {K : List Kind} {vs : List Value} {ds : List Dat} (h : HoldsAll w w.heap.size K vs ds) (hM : Moved w w' []) : HoldsAll w' w'.heap.size K vs ds :=
  HoldsAll.wider hM.size _ _ _ (HoldsAll.stays (Nat.le_refl _) (fun k hk => hM.block k hk (by simp)) _ _ _ h)
/-- A block of known cells, in a walk that moves nothing old. -/
def At (w : World) (g : Nat) (cs : Array Value) (T : TypeId) : Prop := w.heap[g]? = some (.cells cs T (0, 0))
theorem At.moved {w w' : World} {g : Nat} {cs : Array Value} {T : TypeId} (h : At w g cs T) (hM : Moved w w' []) : At w' g cs T := (hM.block g (lt_of_block h) (by simp)).trans h
theorem At.range {w : World} {g : Nat} {vs : List Value} {T : TypeId} (h : At w g vs.toArray T) : w.rangeAt g 0 vs := fun j v hv => by
  rw [Nat.zero_add, cell_of_row _ _ _ _ _ _ h]; simpa using hv
theorem At.cell {w : World} {g : Nat} {cs : Array Value} {T : TypeId} (h : At w g cs T) (j : Nat) {v : Value} (hv : cs[j]? = some v) : w.cell? ⟨g, j, none⟩ = some v := cell_at h j hv
theorem moved_grown {w w' : World} (h : w.grownBy w' none) : Moved w w' [] := (Moved.refl w []).grown h (fun k hk => by cases hk)
theorem moved_setRow {w w1 : World} {S : List Nat} (h : Moved w w1 S) {g : Nat} (hg : g ∈ S ∨ w.heap.size ≤ g) (cs : Array Value) : Moved w (w1.setRow g cs) S :=
  ⟨h.os, h.tape, h.output, by simpa [World.setRow] using h.size, fun k hk hn => by
    have hne : ¬ g = k := fun e => by rcases hg with hg | hg; exact hn (e ▸ hg); omega
    rw [← h.block k hk hn]
    simp [World.setRow, Array.getElem?_modify, hne]⟩
theorem step_store_row {P : Program} {ops : Array Oper} {op : Oper} {a : Act} {w : World} {K : Act → World → Prop} {Q : Exit → Act → World → Prop} {E : Prop} (hgd : op.guard = none) (ty : TypeId) (x y : Operand) (ho : op.op = .store ty x y)
    (g : Nat) (cells : Array Value) (hx : a.eval x = .pointer (some ⟨g, 0, none⟩)) (hy : a.eval y = .agg cells) (old : Array Value) (hg : At w g old ty) (hi : (P.info? ty).map (·.size) = some cells.size) (hs : old.size = cells.size) (h1 : cells.all (·.oneCell') = true)
    (h : K (a.put op.dst undef) (w.setRow g cells)) : if Region.wanted op (yielded ops a.tmps) = true then Oper.wp P op a w K Q else E := by
  have hw : Region.wanted op (yielded ops a.tmps) = true := by simp [Region.wanted, hgd]
  rw [if_pos hw]
  exact wp_store_row ty x y ho g cells hx hy ty old hg hi hs h1 h
/-- What 'make' lays, in these words. -/
theorem made_new {w w' : World} {base N most g size T : Nat} {e : TypeId} {zs : Array Value} {Ks : List Kind} (hg : w.heap.size = g) (hz : zs = (Ks.map zeroV).toArray) (hT : T = N * Ks.length) (hs : size = Ks.length) (hN : N ≤ 35184372088832) (hgr : w.grownBy w' none)
    (h : w'.ownsRow base e size (.slice (some ⟨g, 0, none⟩) N N) N (madeCells zs T).toList) :
    Holds w' w'.heap.size (.list most Ks) (.slice (some ⟨g, 0, none⟩) N N) (.list most (List.replicate N (Ks.map zeroD))) ∧ Moved w w' [] := by
  subst hg hz hT hs
  exact ⟨made_holds (h.lt w.heap.size rfl).2 hN h, moved_grown hgr⟩
theorem made_at {w : World} {base N most g size T : Nat} {e : TypeId} {zs : Array Value} {Ks : List Kind} (hz : zs = (Ks.map zeroV).toArray) (hT : T = N * Ks.length) (hs : size = Ks.length) (hN : N ≤ 35184372088832)
    (h : w.ownsRow base e size (.slice (some ⟨g, 0, none⟩) N N) N (madeCells zs T).toList) : Holds w w.heap.size (.list most Ks) (.slice (some ⟨g, 0, none⟩) N N) (.list most (List.replicate N (Ks.map zeroD))) := by
  subst hz hT hs
  exact made_holds (h.lt g rfl).2 hN h
end Wi
end Go.Proofs.Ytpghaffjfinpeab
