/-
  MORE WORDS for memory: append as one step of a region that draws its order; a piece of a slice.
-/
import Derived.Test.YtpaklljcbmimfaaMem
import Derived.Deep.RegionLaw
namespace Go.Proofs.Ytpaklljcbmimfaa
open Go.RowKit
/-- The same law as one step of a region that draws its order (go_region_law). -/
theorem step_append_row {P : Program} {ops : Array Oper} {o : Oper} {a : Act} {w : World} {K : Act → World → Prop} {Q : Exit → Act → World → Prop} {E : Prop} (hgd : o.guard = none) (s x : Operand) (t : TypeId)
    (ho : o.op = .call { callee := .builtin .append, args := #[s, x], argTypes := #[t, t] })
    (e : TypeId) (i : TypeInfo) (k : IntKind) (by_ : Nat) (ht : P.underlying t = some (.slice e)) (hi : P.info? e = some i) (hz : i.zero = some (.int k 0)) (hsize : i.size = 1) (hby : i.bytes = by_)
    (v : Value) (n : Nat) (xs : List Value) (hs : a.eval s = v) (hown : w.ownsRow 0 e 1 v n xs)
    (A : Option Addr) (m c : Nat) (ys : List Int) (hx : a.eval x = .slice A m c) (hm : ys.length = m) (hA : NRow k w A ys) (hc : A = none → c = 0)
    (h63 : n + m ≤ maxLen) (hb : (n + m) * by_ ≤ 140737488355328)
    (h : ∀ v' w', w'.ownsRow 0 e 1 v' (n + m) (xs ++ ys.map (Value.int k)) → Step w w' (rowOf v) (rowOf v') → K (a.put o.dst v') w') :
    if Region.wanted o (yielded ops a.tmps) = true then Oper.wp P o a w K Q else E := by
  have hw : Region.wanted o (yielded ops a.tmps) = true := by simp [Region.wanted, hgd]
  rw [if_pos hw]
  subst hm
  obtain ⟨v', w', hrun, r1, r2⟩ := run_append_row (P := P) w t o.type e i k by_ ht hi hz hsize hby v n xs hown A c ys hA hc h63 hb
  unfold Oper.wp
  simp [execOp, ho, resolve, invoke, builtin, hs, hx, hrun, Result.andThen]
  exact h v' w' r1 r2
/-- The same where the operation is guarded. -/
theorem step_append_guarded {P : Program} {ops : Array Oper} {o : Oper} {a : Act} {w : World} {K : Act → World → Prop} {Q : Exit → Act → World → Prop} {E : Prop} (hw : Region.wanted o (yielded ops a.tmps) = true) (s x : Operand) (t : TypeId)
    (ho : o.op = .call { callee := .builtin .append, args := #[s, x], argTypes := #[t, t] })
    (e : TypeId) (i : TypeInfo) (k : IntKind) (by_ : Nat) (ht : P.underlying t = some (.slice e)) (hi : P.info? e = some i) (hz : i.zero = some (.int k 0)) (hsize : i.size = 1) (hby : i.bytes = by_)
    (v : Value) (n : Nat) (xs : List Value) (hs : a.eval s = v) (hown : w.ownsRow 0 e 1 v n xs)
    (A : Option Addr) (m c : Nat) (ys : List Int) (hx : a.eval x = .slice A m c) (hm : ys.length = m) (hA : NRow k w A ys) (hc : A = none → c = 0)
    (h63 : n + m ≤ maxLen) (hb : (n + m) * by_ ≤ 140737488355328)
    (h : ∀ v' w', w'.ownsRow 0 e 1 v' (n + m) (xs ++ ys.map (Value.int k)) → Step w w' (rowOf v) (rowOf v') → K (a.put o.dst v') w') :
    if Region.wanted o (yielded ops a.tmps) = true then Oper.wp P o a w K Q else E := by
  rw [if_pos hw]
  subst hm
  obtain ⟨v', w', hrun, r1, r2⟩ := run_append_row (P := P) w t o.type e i k by_ ht hi hz hsize hby v n xs hown A c ys hA hc h63 hb
  unfold Oper.wp
  simp [execOp, ho, resolve, invoke, builtin, hs, hx, hrun, Result.andThen]
  exact h v' w' r1 r2
/-- A piece of a slice: from k on, n of it. Where the piece begins at the very end of the room, the place is told as it was. -/
theorem NRow.piece {k : IntKind} {w : World} {A : Option Addr} {xs : List Int} {c i n : Nat} (h : NRow k w A xs) (hi : i + n ≤ xs.length) (hc : xs.length ≤ c) (hnil : A = none → c = 0) :
    ∃ A' : Option Addr, (if c = i then A else A.map fun a => a.add i) = A' ∧ NRow k w A' ((xs.drop i).take n) ∧ (A' = none → c - i = 0) := by
  by_cases hci : c = i
  · refine ⟨A, by rw [if_pos hci], ?_, fun _ => by omega⟩
    have : n = 0 := by omega
    subst this
    exact NRow.none_ _ _ _
  · rcases A with _ | ad
    · exact absurd (hnil rfl) (by omega)
    · refine ⟨some (ad.add i), by rw [if_neg hci]; rfl, ?_, fun h => by cases h⟩
      by_cases hx : xs = []
      · subst hx; simpa using NRow.none_ k w (some (ad.add i))
      · have hl : 0 < xs.length := List.length_pos_iff.2 hx
        obtain ⟨b, off, e, _⟩ := h 0 xs[0] (by simp [List.getElem?_eq_getElem hl])
        injection e with e
        subst e
        rw [add_none_]
        exact (h.drop i).take n

/-- The block from which a slice is read (of an empty one nothing is read). -/
def rowX (A : Option Addr) (xs : List Int) : List Nat := match A, xs with | some a, _ :: _ => [a.block] | _, _ => []
theorem mem_rowX {A : Option Addr} {xs : List Int} {k : Nat} : k ∈ rowX A xs ↔ ∃ a, A = some a ∧ xs ≠ [] ∧ a.block = k := by
  unfold rowX
  rcases A with _ | a
  · simp
  · rcases xs with _ | ⟨x, r⟩
    · simp
    · simp [eq_comm]
theorem rowX_some {b off : Nat} {xs : List Int} {i : Nat} {x : Int} (h : xs[i]? = some x) : b ∈ rowX (some ⟨b, off, none⟩) xs :=
  mem_rowX.2 ⟨_, rfl, fun e => by subst e; simp at h, rfl⟩
theorem NRow.ltX {k : IntKind} {w : World} {A : Option Addr} {xs : List Int} (h : NRow k w A xs) : ∀ b ∈ rowX A xs, b < w.heap.size := by
  intro b hb
  obtain ⟨a, rfl, hx, rfl⟩ := mem_rowX.1 hb
  have hl : 0 < xs.length := List.length_pos_iff.2 hx
  obtain ⟨b, off, e, hc⟩ := h 0 xs[0] (by simp [List.getElem?_eq_getElem hl])
  injection e with e
  subst e
  exact World.block_lt_of_cell? w _ hc
theorem nrowx_stays {k : IntKind} {w w' : World} {A : Option Addr} {xs : List Int} (h : NRow k w A xs) (hS : ∀ b ∈ rowX A xs, w'.heap[b]? = w.heap[b]?) : NRow k w' A xs := by
  intro i x hx
  obtain ⟨b, off, rfl, hc⟩ := h i x hx
  refine ⟨b, off, rfl, ?_⟩
  rw [World.cell?_of_block (w := w) (hS b (rowX_some hx))]; exact hc
theorem nrowx_moved {k : IntKind} {w w' : World} {A : Option Addr} {xs : List Int} {S : List Nat} (h : NRow k w A xs) (hm : Moved w w' S) (hS : ∀ b ∈ rowX A xs, b ∉ S) : NRow k w' A xs :=
  nrowx_stays h fun b hb => hm.block b (h.ltX b hb) (hS b hb)
theorem own_moved' {w w' : World} {base : Nat} {e : TypeId} {size : Nat} {v : Value} {n : Nat} {xs : List Value} {S : List Nat} (h : w.ownsRow base e size v n xs) (hM : Moved w w' S) (hd : ∀ k ∈ rowOf v, k ∉ S) : w'.ownsRow base e size v n xs :=
  own_stays h (fun k hk => hM.block k (own_lt h k hk) (hd k hk))
/-- The rest of a slice. -/
theorem nrow_from {k : IntKind} {w : World} {ad : Addr} {xs : List Int} (h : NRow k w (some ad) xs) (i : Nat) : NRow k w (some (ad.add i)) (xs.drop i) := by
  by_cases hx : xs = []
  · subst hx; simpa using NRow.none_ k w (some (ad.add i))
  · have hl : 0 < xs.length := List.length_pos_iff.2 hx
    obtain ⟨b, off, e, _⟩ := h 0 xs[0] (by simp [List.getElem?_eq_getElem hl])
    injection e with e
    subst e
    rw [add_none_]
    exact h.drop i
theorem rowX_rowOf {A : Option Addr} {n c : Nat} {xs : List Int} {k : Nat} (h : k ∈ rowX A xs) : k ∈ rowOf (.slice A n c) := by
  obtain ⟨a, rfl, _, rfl⟩ := mem_rowX.1 h
  simp [mem_rowOf, Value.ownBlock]
end Go.Proofs.Ytpaklljcbmimfaa
