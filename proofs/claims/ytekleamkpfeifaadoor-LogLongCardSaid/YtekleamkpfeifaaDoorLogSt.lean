/-
  PLAIN: what bytes are a journal's.
-/
import Derived.Test.YtekleamkpfeifaaDoorFramePlain
import Derived.Test.YtekleamkpfeifaaDoorDiskSt
namespace Go.Proofs.YtekleamkpfeifaaDoor
namespace Lg
open Fr
/-- The bytes behind a letter, where a frame of that letter stands at the beginning. -/
def laidOf (c : Int) (xs : List Int) : Option (List Int) :=
  match firstOf xs with
  | some (x :: r) => if x = c then some r else none
  | _ => none
theorem laid_first {c : Int} {xs r : List Int} (h : laidOf c xs = some r) : firstOf xs = some (c :: r) := by
  unfold laidOf at h
  split at h
  · rename_i x t hf
    split at h
    · rename_i hx; injection h with h; subst hx h; exact hf
    · cases h
  · cases h
theorem first_laid {c : Int} {xs r : List Int} (h : firstOf xs = some (c :: r)) : laidOf c xs = some r := by
  unfold laidOf; rw [h]; simp
theorem laid_other {c d : Int} {xs r : List Int} (h : firstOf xs = some (d :: r)) (hd : d ≠ c) : laidOf c xs = none := by
  unfold laidOf; rw [h]; simp [hd]
theorem laid_none {c : Int} {xs : List Int} (h : firstOf xs = none) : laidOf c xs = none := by
  unfold laidOf; rw [h]
theorem laid_empty {c : Int} {xs : List Int} (h : firstOf xs = some []) : laidOf c xs = none := by
  unfold laidOf; rw [h]
theorem laid_len {c : Int} {xs r : List Int} (h : laidOf c xs = some r) : 9 + r.length ≤ xs.length := by
  have := first_len (laid_first h)
  simp at this
  omega
/-- The records that stand one behind the other, and where the last of them ends. -/
def recsOf (xs : List Int) : List (List Int) × Nat :=
  match h : laidOf 82 xs with
  | none => ([], 0)
  | some r => (r :: (recsOf (xs.drop (9 + r.length))).1, 9 + r.length + (recsOf (xs.drop (9 + r.length))).2)
termination_by xs.length
decreasing_by all_goals (have := laid_len h; simp; omega)
theorem recs_none {xs : List Int} (h : laidOf 82 xs = none) : recsOf xs = ([], 0) := by
  rw [recsOf]; split
  · rfl
  · rename_i r hr; rw [h] at hr; cases hr
theorem recs_some {xs r : List Int} (h : laidOf 82 xs = some r) : recsOf xs = (r :: (recsOf (xs.drop (9 + r.length))).1, 9 + r.length + (recsOf (xs.drop (9 + r.length))).2) := by
  rw [recsOf]; split
  · rename_i hr; rw [h] at hr; cases hr
  · rename_i q hr; rw [h] at hr; cases hr; rfl
/-- The snapshot, the records, and where the last of them ends. -/
def logOf (xs : List Int) : List Int × List (List Int) × Nat :=
  match laidOf 83 xs with
  | some s => (s, (recsOf (xs.drop (9 + s.length))).1, 9 + s.length + (recsOf (xs.drop (9 + s.length))).2)
  | none => ([], recsOf xs)
def recFrame (r : List Int) : List Int := frameOf (82 :: r)
def snapFrame (s : List Int) : List Int := frameOf (83 :: s)
def recFrames (rs : List (List Int)) : List Int := framesOf (rs.map (82 :: ·))
theorem recFrame_len (r : List Int) : (recFrame r).length = 9 + r.length := by unfold recFrame; rw [frameOf_len]; simp; omega
theorem snapFrame_len (r : List Int) : (snapFrame r).length = 9 + r.length := by unfold snapFrame; rw [frameOf_len]; simp; omega
theorem recFrames_snoc (rs : List (List Int)) (r : List Int) : recFrames (rs ++ [r]) = recFrames rs ++ recFrame r := by
  unfold recFrames; rw [List.map_append, List.map_singleton, frames_snoc]; rfl
theorem recFrames_cons (r : List Int) (rs : List (List Int)) : recFrames (r :: rs) = recFrame r ++ recFrames rs := rfl
theorem recFrames_len (rs : List (List Int)) : (recFrames rs).length = 9 * rs.length + rs.flatten.length := by
  induction rs with
  | nil => rfl
  | cons r t ih => rw [recFrames_cons, List.length_append, ih, recFrame_len, List.flatten_cons, List.length_append, List.length_cons]; omega
theorem recFrames_append (a b : List (List Int)) : recFrames (a ++ b) = recFrames a ++ recFrames b := by
  unfold recFrames; rw [List.map_append, frames_append]
theorem rec_frame {c : Int} {r zs : List Int} (h : r.length ≤ 131071) : laidOf c (frameOf (c :: r) ++ zs) = some r :=
  first_laid (first_frame (by simp; omega))
theorem recs_more {rs : List (List Int)} (h : ∀ r ∈ rs, r.length ≤ 131071) (zs : List Int) : recsOf (recFrames rs ++ zs) = (rs ++ (recsOf zs).1, (recFrames rs).length + (recsOf zs).2) := by
  induction rs with
  | nil => simp [recFrames, framesOf]
  | cons r t ih =>
    have hr := h r (by simp)
    have hl : laidOf 82 (recFrames (r :: t) ++ zs) = some r := by
      rw [recFrames_cons, List.append_assoc]; exact rec_frame hr
    rw [recs_some hl, show 9 + r.length = (recFrame r).length from (recFrame_len r).symm, recFrames_cons, List.append_assoc, List.drop_left, ih (fun q hq => h q (by simp [hq])), List.length_append]
    simp [Nat.add_assoc]
theorem recs_nil : recsOf [] = ([], 0) := recs_none (laid_none (by rw [firstOf, if_pos (by simp)]))
theorem recs_just {rs : List (List Int)} (h : ∀ r ∈ rs, r.length ≤ 131071) : recsOf (recFrames rs) = (rs, (recFrames rs).length) := by
  have h := recs_more h []
  rw [List.append_nil, recs_nil] at h
  simpa using h
/-- Records that are cut off somewhere: those are found that are whole. -/
theorem recs_cut : ∀ {rs : List (List Int)}, (∀ r ∈ rs, r.length ≤ 131071) → ∀ n, ∃ k, k ≤ rs.length ∧ recsOf ((recFrames rs).take n) = (rs.take k, (recFrames (rs.take k)).length) ∧ (recFrames (rs.take k)).length ≤ n ∧ (n < (recFrames rs).length → k < rs.length ∧ n < (recFrames (rs.take (k + 1))).length) ∧ ((recFrames rs).length ≤ n → k = rs.length) := by
  intro rs
  induction rs with
  | nil => intro _ n; exact ⟨0, by simp, by simp [recFrames, framesOf, recs_nil], by simp [recFrames, framesOf], by simp [recFrames, framesOf], by simp⟩
  | cons r t ih =>
    intro h n
    have hr := h r (by simp)
    by_cases hn : n < 9 + r.length
    · refine ⟨0, by simp, ?_, by simp [recFrames, framesOf], fun _ => ⟨by simp, ?_⟩, fun hle => ?_⟩
      · have hc : firstOf ((recFrames (r :: t)).take n) = none := by
          rw [recFrames_cons, List.take_append_of_le_length (by rw [recFrame_len]; omega)]
          exact first_cut (by simp; omega)
        rw [recs_none (laid_none hc)]
        simp [recFrames, framesOf]
      · simp [recFrames, framesOf]
        show n < (recFrame r).length
        rw [recFrame_len]; exact hn
      · rw [recFrames_cons, List.length_append, recFrame_len] at hle; omega
    · obtain ⟨k, hk, h1, h2, h3, h4⟩ := ih (fun q hq => h q (by simp [hq])) (n - (9 + r.length))
      have ht : (recFrames (r :: t)).take n = recFrame r ++ (recFrames t).take (n - (9 + r.length)) := by
        rw [recFrames_cons, List.take_append, recFrame_len, List.take_of_length_le (by rw [recFrame_len]; omega)]
      refine ⟨k + 1, by simp; omega, ?_, ?_, ?_, ?_⟩
      · rw [ht]
        have hl : laidOf 82 (recFrame r ++ (recFrames t).take (n - (9 + r.length))) = some r := rec_frame hr
        rw [recs_some hl, show 9 + r.length = (recFrame r).length from (recFrame_len r).symm, List.drop_left, recFrame_len, h1, List.take_succ_cons, recFrames_cons, List.length_append, recFrame_len]
      · rw [List.take_succ_cons, recFrames_cons, List.length_append, recFrame_len]; omega
      · intro hlt
        rw [recFrames_cons, List.length_append, recFrame_len] at hlt
        obtain ⟨h5, h6⟩ := h3 (by omega)
        refine ⟨by simp; omega, ?_⟩
        rw [List.take_succ_cons, recFrames_cons, List.length_append, recFrame_len]; omega
      · intro hle
        rw [recFrames_cons, List.length_append, recFrame_len] at hle
        rw [h4 (by omega)]; simp
theorem snap_not {rs : List (List Int)} (h : ∀ r ∈ rs, r.length ≤ 131071) (hne : rs ≠ []) (zs : List Int) : laidOf 83 (recFrames rs ++ zs) = none := by
  rcases rs with _ | ⟨r, t⟩
  · exact absurd rfl hne
  · rw [recFrames_cons, List.append_assoc]
    exact laid_other (d := 82) (first_frame (by have := h r (by simp); simp; omega)) (by decide)
theorem snap_nil : laidOf 83 [] = none := laid_none (by rw [firstOf, if_pos (by simp)])
theorem log_just {rs : List (List Int)} (h : ∀ r ∈ rs, r.length ≤ 131071) : logOf (recFrames rs) = ([], rs, (recFrames rs).length) := by
  have hs : laidOf 83 (recFrames rs) = none := by
    by_cases hne : rs = []
    · subst hne; exact snap_nil
    · have := snap_not h hne []; rwa [List.append_nil] at this
  unfold logOf
  rw [hs, recs_just h]
theorem log_nil : logOf [] = ([], [], 0) := by unfold logOf; rw [snap_nil, recs_nil]
theorem log_some {xs s : List Int} (h : laidOf 83 xs = some s) : logOf xs = (s, (recsOf (xs.drop (9 + s.length))).1, 9 + s.length + (recsOf (xs.drop (9 + s.length))).2) := by
  unfold logOf
  rw [h]
theorem drop_frame (s zs : List Int) : (snapFrame s ++ zs).drop (9 + s.length) = zs := by
  rw [← snapFrame_len s, List.drop_left]
theorem log_snap {s : List Int} {rs : List (List Int)} (hs : s.length ≤ 131071) (h : ∀ r ∈ rs, r.length ≤ 131071) : logOf (snapFrame s ++ recFrames rs) = (s, rs, (snapFrame s ++ recFrames rs).length) := by
  have h1 : laidOf 83 (snapFrame s ++ recFrames rs) = some s := by unfold snapFrame; exact rec_frame hs
  rw [log_some h1, drop_frame, recs_just h, List.length_append, snapFrame_len]
theorem log_cut {rs : List (List Int)} (h : ∀ r ∈ rs, r.length ≤ 131071) (n : Nat) : ∃ k, k ≤ rs.length ∧ logOf ((recFrames rs).take n) = ([], rs.take k, (recFrames (rs.take k)).length) ∧ (recFrames (rs.take k)).length ≤ n ∧ (n < (recFrames rs).length → k < rs.length ∧ n < (recFrames (rs.take (k + 1))).length) ∧ ((recFrames rs).length ≤ n → k = rs.length) := by
  obtain ⟨k, h1, h2, h3, h4, h5⟩ := recs_cut h n
  refine ⟨k, h1, ?_, h3, h4, h5⟩
  have hs : laidOf 83 ((recFrames rs).take n) = none := by
    rcases rs with _ | ⟨r, t⟩
    · simp [recFrames, framesOf]; exact snap_nil
    · rw [recFrames_cons]
      by_cases hn : n < 9 + r.length
      · rw [List.take_append_of_le_length (by rw [recFrame_len]; omega)]
        exact laid_none (first_cut (by simp; omega))
      · rw [List.take_append, List.take_of_length_le (by rw [recFrame_len]; omega)]
        exact laid_other (d := 82) (first_frame (by have := h r (by simp); simp; omega)) (by decide)
  unfold logOf
  rw [hs, h2]
theorem cut_take {rs : List (List Int)} (k : Nat) : (recFrames rs).take (recFrames (rs.take k)).length = recFrames (rs.take k) := by
  conv => lhs; rw [← List.take_append_drop k rs, recFrames_append]
  rw [List.take_append_of_le_length (by simp), List.take_of_length_le (by simp)]
/-- Behind records something stands that is none. -/
theorem log_other {rs : List (List Int)} (h : ∀ r ∈ rs, r.length ≤ 131071) {zs : List Int} (hz : laidOf 82 zs = none) (hs : rs = [] → laidOf 83 zs = none) : logOf (recFrames rs ++ zs) = ([], rs, (recFrames rs).length) := by
  have hn : laidOf 83 (recFrames rs ++ zs) = none := by
    by_cases hne : rs = []
    · subst hne; exact hs rfl
    · exact snap_not h hne zs
  unfold logOf
  rw [hn, recs_more h, recs_none hz]
  simp
theorem recFrames_bytes {rs : List (List Int)} (hb : ∀ r ∈ rs, ByteList r) (hl : ∀ r ∈ rs, r.length ≤ 131071) : ByteList (recFrames rs) := by
  refine frames_bytes (fun p hp => ?_) (fun p hp => ?_)
  · obtain ⟨r, hr, rfl⟩ := List.mem_map.1 hp
    intro x hx
    rcases List.mem_cons.1 hx with rfl | hx
    · omega
    · exact hb r hr x hx
  · obtain ⟨r, hr, rfl⟩ := List.mem_map.1 hp
    have := hl r hr; simp; omega
theorem logged_bytes {c : Int} (hc : 0 ≤ c ∧ c ≤ 255) {r : List Int} (hb : ByteList r) (hl : r.length ≤ 131071) : ByteList (frameOf (c :: r)) :=
  frameOf_bytes (fun x hx => by
    rcases List.mem_cons.1 hx with rfl | hx
    · exact hc
    · exact hb x hx) (by simp; omega)
/-- What Open answers of a disk, and what becomes of the disk. -/
def openSt (s : Dk.DSt) : Int × Dk.DSt := if s.dead then (7, s) else if (logOf s.bs).2.2 < s.bs.length then s.cut (logOf s.bs).2.2 else (0, s)
end Lg
end Go.Proofs.YtekleamkpfeifaaDoor
