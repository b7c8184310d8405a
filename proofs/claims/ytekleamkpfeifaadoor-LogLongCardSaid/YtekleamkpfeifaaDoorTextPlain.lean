/-
  A row of bytes of the call's own, whatever mark it bears behind its bytes (what '[]byte(s)' makes).
-/
import Derived.Test.YtekleamkpfeifaaDoorBytesPlain
import Derived.Test.YtekleamkpfeifaaDoorMemStep
import Derived.Laws.IdiomStrings
namespace Go.Proofs.YtekleamkpfeifaaDoor
open Go.RowKit
/-- v is n bytes xs, in a block of the call's own (or nil); none of the bytes is frozen. -/
def TRow (w : World) (v : Value) (n : Nat) (xs : List Int) : Prop :=
  xs.length = n ∧ ((v = .slice none 0 0 ∧ n = 0) ∨
    ∃ g cap cur fz, v = .slice (some ⟨g, 0, none⟩) n cap ∧ w.heap[g]? = some (.cells cur 5 fz) ∧ (∀ j, j < n → (decide (fz.1 ≤ j) && decide (j < fz.2)) = false) ∧ n ≤ cap ∧ cap ≤ maxLen ∧ cur.size = cap ∧ cur.toList.take n = xs.map (Value.int .u8))
theorem TRow.of_own {w : World} {v : Value} {n : Nat} {xs : List Int} (h : w.ownsRow 0 5 1 v n (xs.map (Value.int .u8))) : TRow w v n xs := by
  refine ⟨own_len h, ?_⟩
  rcases h.2 with h2 | ⟨g, cap, cur, hv, _, hh, hc, hm, hs, ht⟩
  · exact .inl h2
  · exact .inr ⟨g, cap, cur, (0, 0), hv, hh, fun j _ => by simp, hc, hm, by simpa using hs, by simpa using ht⟩
theorem t_shape {w : World} {v : Value} {n : Nat} {xs : List Int} (h : TRow w v n xs) : ∃ A c, v = .slice A n c ∧ (A = none → c = 0) ∧ n ≤ c ∧ c ≤ 9223372036854775807 := by
  rcases h.2 with ⟨rfl, rfl⟩ | ⟨g, cap, cur, fz, rfl, _, _, hc, hm, _⟩
  · exact ⟨none, 0, rfl, fun _ => rfl, by omega, by omega⟩
  · exact ⟨_, _, rfl, (fun hA => by cases hA), hc, by unfold maxLen at hm; omega⟩
theorem t_stays {w w' : World} {v : Value} {n : Nat} {xs : List Int} (h : TRow w v n xs) (hk : ∀ k ∈ rowOf v, w'.heap[k]? = w.heap[k]?) : TRow w' v n xs := by
  refine ⟨h.1, ?_⟩
  rcases h.2 with h2 | ⟨g, cap, cur, fz, hv, hh, r⟩
  · exact .inl h2
  · exact .inr ⟨g, cap, cur, fz, hv, by rw [hk g (by subst hv; simp [mem_rowOf, Value.ownBlock])]; exact hh, r⟩
theorem t_lt {w : World} {v : Value} {n : Nat} {xs : List Int} (h : TRow w v n xs) : ∀ k ∈ rowOf v, k < w.heap.size := by
  intro k hk
  rcases h.2 with ⟨rfl, _⟩ | ⟨g, cap, cur, fz, rfl, hh, _⟩
  · simp [rowOf, Value.ownBlock] at hk
  · have : g = k := by simpa [mem_rowOf, Value.ownBlock] using hk
    subst this
    exact (Array.getElem?_eq_some_iff.1 hh).1
theorem TRow.nrow {w : World} {A : Option Addr} {n c : Nat} {xs : List Int} (h : TRow w (.slice A n c) n xs) : NRow .u8 w A xs := by
  intro i x hx
  rcases h.2 with ⟨hv, hn⟩ | ⟨g, cap, cur, fz, hv, hh, _, _, _, _, ht⟩
  · have := h.1
    subst hn
    have : xs = [] := List.length_eq_zero_iff.1 this
    subst this
    simp at hx
  · have hA : A = some ⟨g, 0, none⟩ := by injection hv
    refine ⟨g, 0, hA, ?_⟩
    have hi : (xs.map (Value.int .u8))[i]? = some (.int .u8 x) := by rw [List.getElem?_map, hx]; rfl
    rw [← ht, List.getElem?_take] at hi
    split at hi
    · rw [Nat.zero_add, cell_of_row w g i cur _ fz hh]; simpa using hi
    · cases hi
/-- What '[]byte(s)' makes is such a row. -/
theorem TRow.of_string (w : World) (s : ByteArray) (hs : s.size ≤ maxLen) : TRow (w.drew.alloc (.cells (bytesRow s (grownCap w s.size 0 5)) 5 ((bytesRow s (grownCap w s.size 0 5)).size, (bytesRow s (grownCap w s.size 0 5)).size + 1)))
    (.slice (some ⟨w.heap.size, 0, none⟩) s.size (grownCap w s.size 0 5)) s.size (s.data.toList.map fun b => (b.toNat : Int)) := by
  have hge := grownCap_ge w s.size 0 5
  have hle := grownCap_le_maxLen w s.size 0 5 hs
  have hsz : (bytesRow s (grownCap w s.size 0 5)).size = grownCap w s.size 0 5 := by
    have h0 : s.data.size = s.size := rfl
    simp [bytesRow]; omega
  refine ⟨by simp, .inr ⟨w.heap.size, _, _, _, rfl, heap_alloc_new w.drew _, ?_, hge, hle, hsz, ?_⟩⟩
  · intro j hj
    rw [hsz]
    simp only [Bool.and_eq_false_iff, decide_eq_false_iff_not]
    omega
  · have h0 : s.data.size = s.size := rfl
    simp [bytesRow, h0]

theorem t_cell {w : World} {g n c k : Nat} {ys : List Int} {y : Int} (h : TRow w (.slice (some ⟨g, 0, none⟩) n c) n ys) (hy : ys[k]? = some y) : w.cell? ⟨g, k, none⟩ = some (.int .u8 y) := by
  obtain ⟨b, off, e, hc⟩ := h.nrow k y hy
  injection e with e
  injection e with e1 e2
  subst e1 e2
  simpa using hc
theorem t_free {w : World} {g n c k : Nat} {ys : List Int} (h : TRow w (.slice (some ⟨g, 0, none⟩) n c) n ys) (hk : k < n) : w.frozen? ⟨g, k, none⟩ = false := by
  rcases h.2 with ⟨hv, _⟩ | ⟨g', cap, cur, fz, hv, hh, hz, _⟩
  · cases hv
  · injection hv with hA
    injection hA with hA
    injection hA with hA
    subst hA
    simp only [World.frozen?, hh]
    exact hz k hk
theorem t_set {w : World} {g n c k : Nat} {ys : List Int} (h : TRow w (.slice (some ⟨g, 0, none⟩) n c) n ys) (x : Int) : TRow (w.setCell ⟨g, k, none⟩ (.int .u8 x)) (.slice (some ⟨g, 0, none⟩) n c) n (ys.set k x) := by
  refine ⟨by simpa using h.1, ?_⟩
  rcases h.2 with ⟨hv, _⟩ | ⟨g', cap, cur, fz, hv, hh, hz, hc, hm, hs, ht⟩
  · cases hv
  · injection hv with hA h2 h3
    injection hA with hA
    injection hA with hA
    subst hA h3
    refine .inr ⟨g, c, cur.setIfInBounds k (.int .u8 x), fz, rfl, by simp [World.setCell, Array.getElem?_modify, hh], hz, hc, hm, by simpa using hs, ?_⟩
    rw [Array.toList_setIfInBounds, List.map_set, ← ht, List.take_set]
end Go.Proofs.YtekleamkpfeifaaDoor
