/-
  WHAT THE FORM TELLS of a slice of slices of bytes that came in, in the walks' words.
-/
import Derived.Test.YtekleamkpfeifaaDoorKB01
import Derived.Test.YtekleamkpfeifaaDoorBytesOpen
import Derived.Deep.Matrix
namespace Go.Proofs.YtekleamkpfeifaaDoor
open Go.RowKit
/-- A slice of slices of bytes that came in. -/
def AreRows (w : World) (a : Option Addr) (len cap : Nat) : Prop :=
  ∃ (vs : List Value) (ps : List (List Int)), ps.length = len ∧ BRows w a vs ps ∧ (∀ p ∈ ps, ByteList p) ∧ len ≤ cap ∧ cap ≤ 9223372036854775807 ∧ (a = none → cap = 0)
theorem rows_none (w : World) : AreRows w none 0 0 := ⟨[], [], rfl, ⟨VRow.none_ _ _, rfl, fun i v p hv => by simp at hv⟩, (fun p hp => by cases hp), Nat.le_refl _, by omega, fun _ => rfl⟩
theorem vrow_open {w : World} {a : Addr} {len : Nat} {V : Nat → Value} (h : ∀ r, r < len → w.cell? (a.add r) = some (V r)) : VRow w (some a) ((List.range len).map V) := by
  intro i x hx
  rw [List.getElem?_map] at hx
  by_cases hi : i < len
  · rw [List.getElem?_range hi] at hx
    obtain ⟨b, off, spot⟩ := a
    have hs : spot = none := by simpa [Addr.add] using World.cell?_spot (h 0 (by omega))
    subst hs
    have hc := h i hi
    rw [add_none_] at hc
    have hx : V i = x := by simpa using hx
    exact ⟨b, off, rfl, by rw [hc, hx]⟩
  · rw [List.getElem?_eq_none (by simpa using hi)] at hx
    cases hx
theorem rows_open {w : World} {base : Nat} {a : Addr} {len cap : Nat} {A : Nat → Option Addr} {L C : Nat → Nat} {Z : Nat → List Int} (hl : len ≤ cap) (hm : cap ≤ maxLen)
    (hr : ∀ r, r < cap → w.cell? (a.add r) = some (.slice (A r) (L r) (C r)) ∧ L r ≤ C r ∧ C r ≤ maxLen ∧ (Z r).length = C r ∧ (∀ n ∈ Z r, (Lit.int .u8 n).wf = true) ∧ (A r = none → C r = 0) ∧
      ∀ a', A r = some a' → base ≤ a'.block ∧ ∀ c, c < C r → w.cell? (a'.add c) = some (.int .u8 ((Z r).getD c 0))) : AreRows w (some a) len cap := by
  unfold maxLen at hm
  refine ⟨(List.range len).map fun r => .slice (A r) (L r) (C r), (List.range len).map fun r => (Z r).take (L r), by simp, ⟨vrow_open fun r h => (hr r (by omega)).1, by simp, ?_⟩, ?_, hl, hm, fun h => by cases h⟩
  · intro i v p hv hp
    rw [List.getElem?_map] at hv hp
    by_cases hi : i < len
    · rw [List.getElem?_range hi] at hv hp
      have hv : Value.slice (A i) (L i) (C i) = v := by simpa using hv
      have hp : (Z i).take (L i) = p := by simpa using hp
      subst hv hp
      obtain ⟨_, h1, h2, h3, _, h5, h6⟩ := hr i (by omega)
      unfold maxLen at h2
      have hlen : ((Z i).take (L i)).length = L i := by rw [List.length_take]; omega
      refine ⟨A i, C i, by rw [hlen], ?_, h5, by omega, h2⟩
      cases hA : A i with
      | none =>
        have := h5 hA
        rw [show L i = 0 by omega, List.take_zero]
        exact NRow.none_ _ _ _
      | some x => exact NRow.of_cells (by omega) (fun c hc => (h6 x hA).2 c (by omega))
    · rw [List.getElem?_eq_none (by simpa using hi)] at hv
      cases hv
  · intro p hp x hx
    obtain ⟨r, hr2, rfl⟩ := List.mem_map.1 hp
    have hr2 := List.mem_range.1 hr2
    exact byte_wf ((hr r (by omega)).2.2.2.2.1 x (List.mem_of_mem_take hx))
end Go.Proofs.YtekleamkpfeifaaDoor
