/-
  PLAIN: lists of lists.
-/
import Derived.Test.YtekleamkpfeifaaDoorKeepBytes
namespace Go.Proofs.YtekleamkpfeifaaDoor
namespace Fr
open Go.RowKit
theorem take_snoc {α : Type} {l : List α} {k : Nat} {x : α} (h : l[k]? = some x) : l.take (k + 1) = l.take k ++ [x] := by rw [List.take_add_one, h]; rfl
theorem flat_step {ps : List (List Int)} {k : Nat} {p : List Int} (h : ps[k]? = some p) : (ps.take (k + 1)).flatten = (ps.take k).flatten ++ p := by rw [take_snoc h]; simp
theorem flat_len_step {ps : List (List Int)} {k : Nat} {p : List Int} (h : ps[k]? = some p) : (ps.take (k + 1)).flatten.length = (ps.take k).flatten.length + p.length := by rw [flat_step h, List.length_append]
theorem part_le_flat {ps : List (List Int)} {p : List Int} (h : p ∈ ps) : p.length ≤ ps.flatten.length := by
  induction ps with
  | nil => cases h
  | cons q r ih =>
    rw [List.flatten_cons, List.length_append]
    rcases List.mem_cons.1 h with rfl | h
    · omega
    · have := ih h; omega
theorem flat_bytes {ps : List (List Int)} (h : ∀ p ∈ ps, ByteList p) : ByteList ps.flatten := by
  intro x hx
  obtain ⟨p, hp, hx⟩ := List.mem_flatten.1 hx
  exact h p hp x hx
theorem flat_take_le {ps : List (List Int)} (k : Nat) : (ps.take k).flatten.length ≤ ps.flatten.length := by
  conv => rhs; rw [← List.take_append_drop k ps, List.flatten_append, List.length_append]
  omega
theorem place_eq {at_ : Int} {n : Nat} (h0 : 0 < n) (hn : n ≤ 9223372036854775807) : ∃ k : Nat, k < n ∧ wrap64 ((IntKind.u64.wrap at_).tmod (n : Int)) = k := by
  have h : ∀ j, IntKind.u64.wrap j = j % 18446744073709551616 := by intro j; unfold IntKind.wrap; simp [IntKind.signed, IntKind.bits]
  rw [h, Int.tmod_eq_emod_of_nonneg (by omega)]
  have h1 := Int.emod_nonneg (at_ % 18446744073709551616) (b := (n : Int)) (by omega)
  have h2 := Int.emod_lt_of_pos (at_ % 18446744073709551616) (b := (n : Int)) (by omega)
  refine ⟨(at_ % 18446744073709551616 % n).toNat, by omega, ?_⟩
  rw [show ∀ n : Int, -9223372036854775808 ≤ n ∧ n ≤ 9223372036854775807 → wrap64 n = n from fun n h => by unfold wrap64; omega]
  rotate_left
  · omega
  omega
end Fr
end Go.Proofs.YtekleamkpfeifaaDoor
