/-
  PLAIN: frames, one behind the other.
-/
import Derived.Test.YtekleamkpfeifaaDoorFrameRefFirst
import Derived.Test.YtekleamkpfeifaaDoorRowPlain
namespace Go.Proofs.YtekleamkpfeifaaDoor
namespace Fr
open Go.RowKit
theorem frameOf_drop (p : List Int) : (frameOf p).drop 8 = p := by
  unfold frameOf
  rw [List.drop_append_of_le_length (by simp [be4_len])]
  simp [be4_len]
theorem frameOf_inj {a b : List Int} : frameOf a = frameOf b ↔ a = b :=
  ⟨fun h => by rw [← frameOf_drop a, ← frameOf_drop b, h], fun h => by rw [h]⟩
theorem frameOf_len (p : List Int) : (frameOf p).length = 8 + p.length := by unfold frameOf; simp [be4_len]; omega
theorem seal_big {p : List Int} (h : 131072 < p.length) : sealOut p = [] ∧ sealErr p = 5 := by simp [sealOut, sealErr, h]
theorem seal_fits {p : List Int} (h : ¬ 131072 < p.length) : sealOut p = frameOf p ∧ sealErr p = 0 := by simp [sealOut, sealErr, h]
theorem first_len {xs p : List Int} (h : firstOf xs = some p) : 8 + p.length ≤ xs.length := by
  unfold firstOf at h
  split at h
  · cases h
  · split at h
    · cases h
    · split at h
      · cases h; simp; omega
      · cases h
theorem sealOut_bytes {p : List Int} (h : ByteList p) (hl : p.length < 4294967296) : ByteList (sealOut p) := by
  unfold sealOut; split
  · exact ByteList.nil
  · exact frameOf_bytes h hl
theorem sealOut_len (p : List Int) : (sealOut p).length ≤ 131080 := by
  unfold sealOut; split
  · simp
  · rw [frameOf_len]; omega
theorem firstP_bytes {p : List Int} (h : ByteList p) : ByteList (firstP p) := by
  cases hf : firstOf p with
  | none => rw [(first_none hf).1]; exact ByteList.nil
  | some q =>
    rw [(first_some hf).1]
    unfold firstOf at hf
    split at hf
    · cases hf
    · split at hf
      · cases hf
      · split at hf
        · cases hf; exact (h.drop 8).take _
        · cases hf
theorem firstP_len (p : List Int) : (firstP p).length ≤ p.length := by
  cases hf : firstOf p with
  | none => rw [(first_none hf).1]; simp
  | some q => rw [(first_some hf).1]; have := first_len hf; omega
/-- New blocks are written over: what was there before stays. -/
theorem moved_spoil {w w1 w2 : World} {S : List Nat} (h : Moved w w1 []) (hM : Moved w1 w2 S) (hS : ∀ k ∈ S, w.heap.size ≤ k) : Moved w w2 [] := h.trans hM (fun k hk => .inr (hS k hk))
theorem first_bytes {xs p : List Int} (hb : ByteList xs) (h : firstOf xs = some p) : ByteList p := by
  have h1 := firstP_bytes hb
  rw [(first_some h).1] at h1
  exact h1
/-- The frames of some payloads, one behind the other. -/
def framesOf (ps : List (List Int)) : List Int := (ps.map frameOf).flatten
theorem frames_snoc (ps : List (List Int)) (p : List Int) : framesOf (ps ++ [p]) = framesOf ps ++ frameOf p := by simp [framesOf]
theorem frames_len (ps : List (List Int)) : (framesOf ps).length = 8 * ps.length + ps.flatten.length := by
  induction ps with
  | nil => rfl
  | cons p r ih =>
    have h : framesOf (p :: r) = frameOf p ++ framesOf r := rfl
    rw [h, List.length_append, ih, frameOf_len, List.flatten_cons, List.length_append, List.length_cons]
    omega
/-- A frame is found again, whatever stands behind it. -/
theorem first_frame {p zs : List Int} (h1 : p.length ≤ 131072) : firstOf (frameOf p ++ zs) = some p := by
  obtain ⟨s, hs⟩ : ∃ s, s = sumOf (nats (be4 p.length ++ p)) := ⟨_, rfl⟩
  have hf : frameOf p = be4 p.length ++ be4 s ++ p := by rw [frameOf, hs]
  have hn : numB (frameOf p ++ zs) = p.length := by
    rw [hf]
    unfold numB be4
    simp only [List.cons_append, List.nil_append, List.getD_cons_zero, List.getD_cons_succ]
    omega
  have hlen : (frameOf p ++ zs).length = 8 + p.length + zs.length := by rw [List.length_append, frameOf_len]
  have hd : (frameOf p ++ zs).drop 8 = p ++ zs := by rw [List.drop_append_of_le_length (by rw [frameOf_len]; omega), frameOf_drop]
  unfold firstOf
  rw [if_neg (by omega), hn, hd, Int.toNat_natCast, if_neg (by omega), List.take_left' rfl, List.take_left' (frameOf_len p), if_pos rfl]
theorem frames_append (a b : List (List Int)) : framesOf (a ++ b) = framesOf a ++ framesOf b := by simp [framesOf]
theorem frames_split (ps : List (List Int)) (k : Nat) : framesOf ps = framesOf (ps.take k) ++ framesOf (ps.drop k) := by rw [← frames_append, List.take_append_drop]
theorem frames_at {ps : List (List Int)} {k : Nat} {p : List Int} (h : ps[k]? = some p) : framesOf (ps.drop k) = frameOf p ++ framesOf (ps.drop (k + 1)) := by
  obtain ⟨hk, rfl⟩ := List.getElem?_eq_some_iff.1 h
  rw [List.drop_eq_getElem_cons hk]
  rfl
theorem frames_bytes {ps : List (List Int)} (hb : ∀ p ∈ ps, ByteList p) (hp : ∀ p ∈ ps, p.length ≤ 131072) : ByteList (framesOf ps) := by
  unfold framesOf
  refine flat_bytes fun q hq => ?_
  obtain ⟨p, hp2, rfl⟩ := List.mem_map.1 hq
  exact frameOf_bytes (hb p hp2) (by have := hp p hp2; omega)
/-- A frame that is cut off is none. -/
theorem first_cut {p : List Int} {j : Nat} (hj : j < 8 + p.length) : firstOf ((frameOf p).take j) = none := by
  have hlen : ((frameOf p).take j).length = j := by rw [List.length_take, frameOf_len]; omega
  unfold firstOf
  by_cases h8 : j < 8
  · rw [if_pos (by omega)]
  · obtain ⟨i, rfl⟩ : ∃ i, j = 8 + i := ⟨j - 8, by omega⟩
    have hn : numB ((frameOf p).take (8 + i)) = p.length := by
      obtain ⟨s, hs⟩ : ∃ s, s = sumOf (nats (be4 p.length ++ p)) := ⟨_, rfl⟩
      rw [frameOf, ← hs, show 8 + i = (be4 p.length ++ be4 s).length + i by rw [List.length_append, be4_len, be4_len], List.take_length_add_append]
      unfold numB be4
      simp only [List.cons_append, List.nil_append, List.getD_cons_zero, List.getD_cons_succ]
      omega
    rw [if_neg (by omega), hn, Int.toNat_natCast, if_pos (.inr (by omega))]
theorem frames_take_le (ps : List (List Int)) (k : Nat) : (framesOf (ps.take k)).length ≤ (framesOf ps).length := by
  rw [frames_split ps k, List.length_append]; omega
end Fr
end Go.Proofs.YtekleamkpfeifaaDoor
