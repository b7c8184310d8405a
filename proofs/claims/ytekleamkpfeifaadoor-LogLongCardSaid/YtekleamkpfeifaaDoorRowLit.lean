/-
  Rows of bytes that are written down, cut, taken.
-/
import Derived.Test.YtekleamkpfeifaaDoorOwnRows
namespace Go.Proofs.YtekleamkpfeifaaDoor
namespace Fr
open Go.RowKit
theorem bites_lit (w : World) (xs : List Int) (cs : Array Value) (e : TypeId) (fr : Nat × Nat) (hcs : cs.toList = xs.map (Value.int .u8)) (hm : xs.length ≤ 9223372036854775807) : Bites (w.alloc (.cells cs e fr)) (.slice (some ⟨w.heap.size, 0, none⟩) xs.length xs.length) xs := by
  refine ⟨_, _, rfl, fun i x hx => ⟨w.heap.size, 0, rfl, ?_⟩, (fun h => by cases h), Nat.le_refl _, hm⟩
  rw [cell_of_row _ _ _ _ _ _ (heap_alloc_new w _), ← Array.getElem?_toList, hcs, List.getElem?_map, Nat.zero_add, hx]
  rfl
theorem bites_alloc {w : World} {v : Value} {p : List Int} (h : Bites w v p) (o : Obj) : Bites (w.alloc o) v p := h.stays (fun b hb => Below.heap_alloc w o b (h.lt b hb))
theorem brows_nil (w : World) (A : Option Addr) : BRows w A [] [] := ⟨VRow.none_ _ _, rfl, fun i v p hv => by simp at hv⟩
theorem brows_tail {w : World} {b off : Nat} {v : Value} {vs : List Value} {p : List Int} {ps : List (List Int)} (h : BRows w (some ⟨b, off, none⟩) (v :: vs) (p :: ps)) : BRows w (some ⟨b, off + 1, none⟩) vs ps :=
  ⟨by simpa using h.1.drop 1, by simpa using h.2.1, fun i u q hu hq => h.2.2 (i + 1) u q (by simpa using hu) (by simpa using hq)⟩
theorem partsOf_take {vs : List Value} {k : Nat} {u : Value} (h : vs[k]? = some u) : partsOf (vs.take (k + 1)) = partsOf (vs.take k) ++ rowOf u := by
  have h2 : vs.take (k + 1) = vs.take k ++ [u] := by rw [List.take_add_one, h]; rfl
  rw [h2]; simp [partsOf]
theorem partsOf_part {vs : List Value} {k b : Nat} (h : b ∈ partsOf (vs.take k)) : b ∈ partsOf vs := by
  obtain ⟨i, u, hi, hb⟩ := mem_partsOf.1 h
  rw [List.getElem?_take] at hi
  split at hi
  · exact mem_partsOf.2 ⟨i, u, hi, hb⟩
  · cases hi
/-- A row of one, made of bytes of the call's own. -/
theorem brows_one {w : World} {u : Value} {p : List Int} (e : TypeId) (hu : w.ownsRow 0 5 1 u p.length (p.map (Value.int .u8))) : BRows (w.alloc (.cells #[u] e)) (some ⟨w.heap.size, 0, none⟩) [u] [p] :=
  ⟨vrow_lit w u e, rfl, fun i v q hv hq => by
    rcases i with _ | i
    · simp at hv hq; subst hv hq; exact bites_alloc (Bites.of_own hu) _
    · simp at hv⟩
theorem brows_take {w : World} {A : Option Addr} {vs : List Value} {ps : List (List Int)} (h : BRows w A vs ps) (n : Nat) : BRows w A (vs.take n) (ps.take n) :=
  ⟨h.1.take n, by rw [List.length_take, List.length_take, h.2.1], fun i v p hv hp => by
    rw [List.getElem?_take] at hv hp
    split at hv
    · rename_i hi
      rw [if_pos hi] at hp
      exact h.2.2 i v p hv hp
    · cases hv⟩
/-- New rows, written down one by one. -/
theorem brows_lit {w : World} (e : TypeId) (us : List Value) (ps : List (List Int)) (cs : Array Value) (hcs : cs.toList = us) (hl : us.length = ps.length) (h : ∀ (i : Nat) (v : Value) (p : List Int), us[i]? = some v → ps[i]? = some p → Bites w v p) :
    BRows (w.alloc (.cells cs e)) (some ⟨w.heap.size, 0, none⟩) us ps :=
  ⟨fun i y hy => ⟨w.heap.size, 0, rfl, by rw [cell_of_row _ _ _ _ _ _ (heap_alloc_new w _), ← Array.getElem?_toList, hcs, Nat.zero_add]; exact hy⟩, hl, fun i v p hv hp => bites_alloc (h i v p hv hp) _⟩
theorem brows_two {w : World} (e : TypeId) {u v : Value} {p q : List Int} (hu : Bites w u p) (hv : Bites w v q) : BRows (w.alloc (.cells #[u, v] e)) (some ⟨w.heap.size, 0, none⟩) [u, v] [p, q] :=
  brows_lit e [u, v] [p, q] #[u, v] rfl rfl fun i x r hx hr => by
    rcases i with _ | _ | i
    · simp at hx hr; subst hx hr; exact hu
    · simp at hx hr; subst hx hr; exact hv
    · simp at hx
theorem brows_three {w : World} (e : TypeId) {u v t : Value} {p q s : List Int} (hu : Bites w u p) (hv : Bites w v q) (ht : Bites w t s) : BRows (w.alloc (.cells #[u, v, t] e)) (some ⟨w.heap.size, 0, none⟩) [u, v, t] [p, q, s] :=
  brows_lit e [u, v, t] [p, q, s] #[u, v, t] rfl rfl fun i x r hx hr => by
    rcases i with _ | _ | _ | i
    · simp at hx hr; subst hx hr; exact hu
    · simp at hx hr; subst hx hr; exact hv
    · simp at hx hr; subst hx hr; exact ht
    · simp at hx
end Fr
end Go.Proofs.YtekleamkpfeifaaDoor
