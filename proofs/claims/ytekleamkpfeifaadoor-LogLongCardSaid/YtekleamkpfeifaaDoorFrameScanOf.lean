/-
  PLAIN: what is found in bytes, frame by frame.
-/
import Derived.Test.YtekleamkpfeifaaDoorFramePlain
import Derived.Test.YtekleamkpfeifaaDoorOwnRows
namespace Go.Proofs.YtekleamkpfeifaaDoor
namespace Fr
open Go.RowKit
/-- The payloads of the frames one behind the other, and where the last of them ends. -/
def scanOf (xs : List Int) : List (List Int) × Nat :=
  match h : firstOf xs with
  | none => ([], 0)
  | some p => (p :: (scanOf (xs.drop (8 + p.length))).1, 8 + p.length + (scanOf (xs.drop (8 + p.length))).2)
termination_by xs.length
decreasing_by all_goals (have := first_len h; simp; omega)
theorem scan_none {xs : List Int} (h : firstOf xs = none) : scanOf xs = ([], 0) := by
  rw [scanOf]; split
  · rfl
  · rename_i p hp; rw [h] at hp; cases hp
theorem scan_some {xs p : List Int} (h : firstOf xs = some p) : scanOf xs = (p :: (scanOf (xs.drop (8 + p.length))).1, 8 + p.length + (scanOf (xs.drop (8 + p.length))).2) := by
  rw [scanOf]; split
  · rename_i hp; rw [h] at hp; cases hp
  · rename_i q hp; rw [h] at hp; cases hp; rfl
def ScanIs (xs : List Int) (ps : List (List Int)) (n : Nat) : Prop := scanOf xs = (ps ++ (scanOf (xs.drop n)).1, n + (scanOf (xs.drop n)).2)
theorem scan_start (xs : List Int) : ScanIs xs [] 0 := by simp [ScanIs]
theorem scan_end {xs : List Int} {ps : List (List Int)} {n : Nat} (h : ScanIs xs ps n) (hf : firstOf (xs.drop n) = none) : scanOf xs = (ps, n) := by
  rw [h, scan_none hf]; simp
theorem scan_go {xs p : List Int} {ps : List (List Int)} {n : Nat} (h : ScanIs xs ps n) (hf : firstOf (xs.drop n) = some p) : ScanIs xs (ps ++ [p]) (n + (8 + p.length)) := by
  unfold ScanIs at *
  rw [h, scan_some hf, List.drop_drop]
  simp [Nat.add_assoc]
theorem info_bytes : (Tryd.prog.info? 27).map (fun i => (i.zero, i.size, i.bytes)) = some (some (.slice none 0 0), 1, 24) := by kernel_rfl
/-- New rows of bytes, and a place. -/
def ToldS (ps : List (List Int)) (n : Int) (w : World) (r : Ending) (w' : World) : Prop :=
  ∃ v fp, r = .returned (.tuple #[v, .int .i64 n]) ∧ OwnRows w' v ps fp ∧ Step w w' [] fp
theorem step_join {w w1 w2 : World} {S T U V : List Nat} (h1 : Step w w1 S T) (h2 : Step w1 w2 (T ++ U) V) (hU : ∀ k ∈ U, w.heap.size ≤ k) : Step w w2 S V :=
  ⟨h1.1.trans h2.1 (fun k hk => (List.mem_append.1 hk).elim (h1.2 k) (fun h => .inr (hU k h))), fun k hk => (h2.2 k hk).elim (fun h => (List.mem_append.1 h).elim (h1.2 k) (fun h => .inr (hU k h))) (fun h => .inr (Nat.le_trans h1.1.size h))⟩
theorem scan_bytes : ∀ (n : Nat) (xs : List Int), xs.length ≤ n → ByteList xs → ∀ p ∈ (scanOf xs).1, ByteList p := by
  intro n
  induction n with
  | zero =>
    intro xs hl _ p hp
    have : firstOf xs = none := by rw [firstOf, if_pos (by omega)]
    rw [scan_none this] at hp
    cases hp
  | succ n ih =>
    intro xs hl hb p hp
    cases hf : firstOf xs with
    | none => rw [scan_none hf] at hp; cases hp
    | some q =>
      rw [scan_some hf] at hp
      have hq := first_len hf
      rcases List.mem_cons.1 hp with rfl | hp
      · exact first_bytes hb hf
      · exact ih _ (by simp; omega) (hb.drop _) p hp
theorem scan_small : ∀ (n : Nat) (xs : List Int), xs.length ≤ n → (scanOf xs).1.length ≤ xs.length ∧ (scanOf xs).2 ≤ xs.length := by
  intro n
  induction n with
  | zero =>
    intro xs hl
    have : firstOf xs = none := by rw [firstOf, if_pos (by omega)]
    rw [scan_none this]
    exact ⟨by simp, by omega⟩
  | succ n ih =>
    intro xs hl
    cases hf : firstOf xs with
    | none => rw [scan_none hf]; exact ⟨by simp, by omega⟩
    | some q =>
      rw [scan_some hf]
      have hq := first_len hf
      have h1 := ih (xs.drop (8 + q.length)) (by simp; omega)
      simp only [List.length_drop] at h1
      exact ⟨by simp; omega, by simp; omega⟩
theorem scan_parts : ∀ (n : Nat) (xs : List Int), xs.length ≤ n → ∀ p ∈ (scanOf xs).1, p.length ≤ xs.length := by
  intro n
  induction n with
  | zero =>
    intro xs hl p hp
    have : firstOf xs = none := by rw [firstOf, if_pos (by omega)]
    rw [scan_none this] at hp
    cases hp
  | succ n ih =>
    intro xs hl p hp
    cases hf : firstOf xs with
    | none => rw [scan_none hf] at hp; cases hp
    | some q =>
      rw [scan_some hf] at hp
      have hq := first_len hf
      rcases List.mem_cons.1 hp with rfl | hp
      · omega
      · have h1 := ih (xs.drop (8 + q.length)) (by simp; omega) p hp
        simp only [List.length_drop] at h1
        omega
theorem scan_frames {ps : List (List Int)} (hp : ∀ p ∈ ps, p.length ≤ 131072) (more : List Int) : ∀ k, k ≤ ps.length → ScanIs (framesOf ps ++ more) (ps.take k) (framesOf (ps.take k)).length := by
  intro k
  induction k with
  | zero => intro _; exact scan_start _
  | succ k ih =>
    intro hk
    obtain ⟨p, hq⟩ : ∃ p, ps[k]? = some p := ⟨_, List.getElem?_eq_getElem (by omega)⟩
    have h1 : (framesOf ps ++ more).drop (framesOf (ps.take k)).length = frameOf p ++ (framesOf (ps.drop (k + 1)) ++ more) := by
      rw [frames_split ps k, List.append_assoc, List.drop_left, frames_at hq, List.append_assoc]
    have h2 := scan_go (ih (by omega)) (h1 ▸ first_frame (hp p (List.mem_of_getElem? hq)))
    rw [take_snoc hq, frames_snoc, List.length_append, frameOf_len]
    exact h2
/-- Frames, and whatever stands behind them. -/
theorem scan_more {ps : List (List Int)} (hp : ∀ p ∈ ps, p.length ≤ 131072) (more : List Int) : scanOf (framesOf ps ++ more) = (ps ++ (scanOf more).1, (framesOf ps).length + (scanOf more).2) := by
  have h := scan_frames hp more ps.length (Nat.le_refl _)
  unfold ScanIs at h
  rw [List.take_length, List.drop_left] at h
  exact h
theorem scan_nil : scanOf [] = ([], 0) := scan_none (by rw [firstOf, if_pos (by simp)])
theorem scan_just {ps : List (List Int)} (hp : ∀ p ∈ ps, p.length ≤ 131072) : scanOf (framesOf ps) = (ps, (framesOf ps).length) := by
  have h := scan_more hp []
  rw [List.append_nil, scan_nil] at h
  simpa using h
/-- Frames that are cut off somewhere: those are found that are whole. -/
theorem scan_cut {ps : List (List Int)} (hp : ∀ p ∈ ps, p.length ≤ 131072) {k n : Nat} (h1 : (framesOf (ps.take k)).length ≤ n) (h2 : ∀ p, ps[k]? = some p → n < (framesOf (ps.take (k + 1))).length) :
    scanOf ((framesOf ps).take n) = (ps.take k, (framesOf (ps.take k)).length) := by
  have h3 : (framesOf ps).take n = framesOf (ps.take k) ++ (framesOf (ps.drop k)).take (n - (framesOf (ps.take k)).length) := by
    conv => lhs; rw [frames_split ps k, show n = (framesOf (ps.take k)).length + (n - (framesOf (ps.take k)).length) by omega, List.take_length_add_append]
  have h4 : scanOf ((framesOf (ps.drop k)).take (n - (framesOf (ps.take k)).length)) = ([], 0) := by
    cases hq : ps[k]? with
    | none =>
      rw [List.drop_of_length_le (List.getElem?_eq_none_iff.1 hq), show framesOf [] = [] from rfl, List.take_nil]
      exact scan_nil
    | some p =>
      have h5 := h2 p hq
      rw [take_snoc hq, frames_snoc, List.length_append, frameOf_len] at h5
      rw [frames_at hq, List.take_append_of_le_length (by rw [frameOf_len]; omega)]
      exact scan_none (first_cut (by omega))
  rw [h3, scan_more (fun p h => hp p (List.mem_of_mem_take h)), h4, List.append_nil, Nat.add_zero]
end Fr
end Go.Proofs.YtekleamkpfeifaaDoor
