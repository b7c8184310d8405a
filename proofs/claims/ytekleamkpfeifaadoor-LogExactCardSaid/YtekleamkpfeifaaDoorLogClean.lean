/-
  PLAIN: bytes that are a journal's from beginning to end; what Open leaves.
-/
import Derived.Test.YtekleamkpfeifaaDoorLogRef
import Derived.Test.YtekleamkpfeifaaDoorLogMore
namespace Go.Proofs.YtekleamkpfeifaaDoor
namespace Lg
open Go.RowKit Dk Fr
theorem first_eq {xs p : List Int} (h : firstOf xs = some p) : xs = frameOf p ++ xs.drop (8 + p.length) ∧ p.length ≤ 131072 := by
  have h0 := h
  unfold firstOf at h
  split at h
  · cases h
  · rename_i h8
    split at h
    · cases h
    · rename_i hbig
      split at h
      · rename_i heq
        injection h with h
        have hl : p.length = (numB xs).toNat := by rw [← h, List.length_take, List.length_drop]; omega
        rw [h] at heq
        refine ⟨?_, by omega⟩
        rw [hl, heq, List.take_append_drop]
      · cases h
theorem first_append {xs p zs : List Int} (h : firstOf xs = some p) : firstOf (xs ++ zs) = some p := by
  obtain ⟨h1, h2⟩ := first_eq h
  rw [h1, List.append_assoc]
  exact first_frame h2
theorem laid_append {c : Int} {xs r zs : List Int} (h : laidOf c xs = some r) : laidOf c (xs ++ zs) = some r := first_laid (first_append (laid_first h))
theorem first_take {xs p : List Int} {j : Nat} (h : firstOf xs = some p) (hj : 8 + p.length ≤ j) : firstOf (xs.take j) = some p := by
  obtain ⟨h1, h2⟩ := first_eq h
  have hl := frameOf_len p
  rw [h1, List.take_append, List.take_of_length_le (by omega)]
  exact first_frame h2
theorem laid_take {c : Int} {xs r : List Int} {j : Nat} (h : laidOf c xs = some r) (hj : 9 + r.length ≤ j) : laidOf c (xs.take j) = some r := first_laid (first_take (laid_first h) (by simp; omega))
theorem first_nil : firstOf [] = none := by rw [firstOf, if_pos (by simp)]
theorem recs_take : ∀ (n : Nat) (xs : List Int), xs.length ≤ n → recsOf (xs.take (recsOf xs).2) = recsOf xs := by
  intro n
  induction n with
  | zero => intro xs h; have : xs = [] := List.eq_nil_of_length_eq_zero (by omega); subst this; simp
  | succ n ih =>
    intro xs h
    cases hl : laidOf 82 xs with
    | none =>
      rw [recs_none hl, List.take_zero, recs_nil]
    | some r =>
      have h1 := laid_len hl
      have h2 := ih (xs.drop (9 + r.length)) (by simp; omega)
      obtain ⟨e, he⟩ : ∃ e, e = (recsOf (xs.drop (9 + r.length))).2 := ⟨_, rfl⟩
      have h3 : (recsOf xs).2 = 9 + r.length + e := by rw [recs_some hl, he]
      have h4 : laidOf 82 (xs.take (9 + r.length + e)) = some r := laid_take hl (by omega)
      have h5 : (xs.take (9 + r.length + e)).drop (9 + r.length) = (xs.drop (9 + r.length)).take e := by
        rw [List.drop_take]; congr 1; omega
      rw [← he] at h2
      rw [h3, recs_some h4, h5, h2, recs_some hl]
theorem log_take (xs : List Int) : logOf (xs.take (logOf xs).2.2) = logOf xs := by
  cases hl : laidOf 83 xs with
  | none =>
    have h1 : logOf xs = ([], recsOf xs) := by unfold logOf; rw [hl]
    have h2 := recs_take _ xs (Nat.le_refl _)
    obtain ⟨e, he⟩ : ∃ e, e = (recsOf xs).2 := ⟨_, rfl⟩
    have h3 : laidOf 83 (xs.take e) = none := by
      cases hf : laidOf 82 xs with
      | none =>
        rw [recs_none hf] at he
        subst he
        exact snap_nil
      | some r =>
        have h4 : 9 + r.length ≤ e := by rw [he, recs_some hf]; simp
        exact laid_other (d := 82) (laid_first (laid_take hf h4)) (by decide)
    rw [h1]
    show logOf (xs.take (recsOf xs).2) = _
    rw [← he] at h2 ⊢
    unfold logOf
    rw [h3, h2]
  | some s =>
    have h1 := laid_len hl
    have h2 := recs_take _ (xs.drop (9 + s.length)) (Nat.le_refl _)
    obtain ⟨e, he⟩ : ∃ e, e = (recsOf (xs.drop (9 + s.length))).2 := ⟨_, rfl⟩
    have h3 : (logOf xs).2.2 = 9 + s.length + e := by rw [log_some hl, he]
    have h4 : laidOf 83 (xs.take (9 + s.length + e)) = some s := laid_take hl (by omega)
    have h5 : (xs.take (9 + s.length + e)).drop (9 + s.length) = (xs.drop (9 + s.length)).take e := by
      rw [List.drop_take]; congr 1; omega
    rw [← he] at h2
    rw [h3, log_some h4, h5, h2, log_some hl]
theorem recs_append : ∀ (n : Nat) (xs : List Int) (zs : List Int), xs.length ≤ n → (recsOf xs).2 = xs.length → recsOf (xs ++ zs) = ((recsOf xs).1 ++ (recsOf zs).1, xs.length + (recsOf zs).2) := by
  intro n
  induction n with
  | zero => intro xs zs h _; have : xs = [] := List.eq_nil_of_length_eq_zero (by omega); subst this; rw [recs_nil]; simp
  | succ n ih =>
    intro xs zs h he
    cases hl : laidOf 82 xs with
    | none =>
      rw [recs_none hl] at he
      have : xs = [] := List.eq_nil_of_length_eq_zero (by simpa using he.symm)
      subst this
      rw [recs_nil]; simp
    | some r =>
      have h1 := laid_len hl
      rw [recs_some hl] at he
      dsimp only at he
      have h2 := ih (xs.drop (9 + r.length)) zs (by simp; omega) (by simp; omega)
      rw [recs_some (laid_append hl), List.drop_append_of_le_length h1, h2, recs_some hl]
      simp
      omega
/-- Bytes that are a journal's whole, with more behind them. -/
theorem log_append {xs zs sn : List Int} {rs : List (List Int)} (h : logOf xs = (sn, rs, xs.length)) (hz : laidOf 83 zs = none) : logOf (xs ++ zs) = (sn, rs ++ (recsOf zs).1, xs.length + (recsOf zs).2) := by
  cases hl : laidOf 83 xs with
  | none =>
    have h1 : logOf xs = ([], recsOf xs) := by unfold logOf; rw [hl]
    rw [h1] at h
    injection h with h2 h3
    have h4 : (recsOf xs).2 = xs.length := by rw [h3]
    have h5 := recs_append _ xs zs (Nat.le_refl _) h4
    have h6 : laidOf 83 (xs ++ zs) = none := by
      cases hf : laidOf 82 xs with
      | none =>
        rw [recs_none hf] at h4
        have : xs = [] := List.eq_nil_of_length_eq_zero (by simpa using h4.symm)
        subst this
        exact hz
      | some r => exact laid_other (d := 82) (first_append (laid_first hf)) (by decide)
    have h7 : logOf (xs ++ zs) = ([], recsOf (xs ++ zs)) := by unfold logOf; rw [h6]
    rw [h7, h5, ← h2, h3]
  | some s =>
    have h1 := laid_len hl
    rw [log_some hl] at h
    injection h with h2 h3
    injection h3 with h3 h4
    have h5 := recs_append _ (xs.drop (9 + s.length)) zs (Nat.le_refl _) (by simp; omega)
    rw [log_some (laid_append hl), List.drop_append_of_le_length h1, h5, h3, ← h2]
    simp
    omega
theorem log_add {xs ys sn : List Int} {rs : List (List Int)} (h : logOf xs = (sn, rs, xs.length)) (hy : ys.length ≤ 131071) : logOf (xs ++ recFrame ys) = (sn, rs ++ [ys], (xs ++ recFrame ys).length) := by
  have h1 : recsOf (recFrame ys) = ([ys], (recFrame ys).length) := by
    have h2 := recs_just (rs := [ys]) (fun r hr => by simp at hr; subst hr; exact hy)
    have h3 : recFrames [ys] = recFrame ys := by rw [recFrames_cons, show recFrames [] = [] from rfl, List.append_nil]
    rw [h3] at h2; exact h2
  have h4 : laidOf 83 (recFrame ys) = none := by
    have h5 : firstOf (recFrame ys ++ []) = some (82 :: ys) := first_frame (by simp; omega)
    rw [List.append_nil] at h5
    exact laid_other h5 (by decide)
  rw [log_append h h4, h1, List.length_append]
theorem log_one {ys : List Int} (hy : ys.length ≤ 131071) : logOf (snapFrame ys) = (ys, [], (snapFrame ys).length) := by
  have h := log_snap (rs := []) hy (fun r hr => by cases hr)
  rw [show recFrames [] = [] from rfl, List.append_nil] at h
  exact h
/-- What Open leaves, where it goes well: bytes that are a journal's whole. -/
theorem open_clean {s s' : DSt} (ho : openSt s = (0, s')) : s'.dead = false ∧ logOf s'.bs = ((logOf s.bs).1, (logOf s.bs).2.1, s'.bs.length) := by
  obtain ⟨bs, safe, dead, trip⟩ := s
  unfold openSt at ho
  cases dead
  · rw [if_neg (by simp)] at ho
    dsimp only at ho ⊢
    have hle := log_le bs
    by_cases hlt : (logOf bs).2.2 < bs.length
    · rw [if_pos hlt] at ho
      unfold DSt.cut at ho
      rw [if_neg (by simp), if_neg (by dsimp only; omega)] at ho
      unfold DSt.stroke at ho
      cases trip with
      | some k => simp at ho
      | none =>
        simp only [Bool.false_eq_true, if_false, Int.toNat_natCast, Prod.mk.injEq, true_and] at ho
        subst ho
        refine ⟨rfl, ?_⟩
        dsimp only
        rw [log_take, List.length_take, Nat.min_eq_left (by omega)]
    · rw [if_neg hlt] at ho
      simp only [Prod.mk.injEq, true_and] at ho
      subst ho
      exact ⟨rfl, by dsimp only; rw [show bs.length = (logOf bs).2.2 by omega]⟩
  · simp at ho
/-- Open of a disk that is on: it goes well, or a tripped stroke lets the power go. -/
theorem open_or {s : DSt} (hd : s.dead = false) : (openSt s).1 = 0 ∨ ((openSt s).1 = 7 ∧ (openSt s).2.dead = true ∧ (openSt s).2.trip = none ∧ s.trip ≠ none) := by
  obtain ⟨bs, safe, dead, trip⟩ := s
  obtain rfl : dead = false := hd
  unfold openSt
  rw [if_neg (by simp)]
  dsimp only
  have hle := log_le bs
  by_cases hlt : (logOf bs).2.2 < bs.length
  · rw [if_pos hlt]
    unfold DSt.cut
    rw [if_neg (by simp), if_neg (by dsimp only; omega)]
    unfold DSt.stroke
    cases trip with
    | some k => right; simp [DSt.crash]
    | none => left; simp
  · rw [if_neg hlt]; exact .inl rfl
theorem start_live (s : DSt) : s.start.dead = false := by unfold DSt.start; split <;> simp_all
theorem start_calm {s : DSt} (h : s.trip = none) : s.start.trip = none := by unfold DSt.start; split <;> simp_all
theorem laid_bytes {c : Int} {xs r : List Int} (hb : ByteList xs) (h : laidOf c xs = some r) : ByteList r := fun x hx => first_bytes hb (laid_first h) x (by simp [hx])
theorem recs_all : ∀ (n : Nat) (xs : List Int), xs.length ≤ n → ByteList xs → (∀ r ∈ (recsOf xs).1, ByteList r ∧ r.length ≤ xs.length) ∧ (recsOf xs).1.length ≤ xs.length := by
  intro n
  induction n with
  | zero => intro xs h _; have : xs = [] := List.eq_nil_of_length_eq_zero (by omega); subst this; rw [recs_nil]; simp
  | succ n ih =>
    intro xs h hb
    cases hl : laidOf 82 xs with
    | none => rw [recs_none hl]; simp
    | some r =>
      have h1 := laid_len hl
      obtain ⟨h2, h3⟩ := ih (xs.drop (9 + r.length)) (by simp; omega) (hb.drop _)
      rw [recs_some hl]
      simp only [List.length_drop] at h2 h3
      refine ⟨fun x hx => ?_, by simp; omega⟩
      rcases List.mem_cons.1 hx with rfl | hx
      · exact ⟨laid_bytes hb hl, by omega⟩
      · have := h2 x hx; exact ⟨this.1, by omega⟩
theorem log_all {xs sn : List Int} {rs : List (List Int)} {k : Nat} (hb : ByteList xs) (h : logOf xs = (sn, rs, k)) : ByteList sn ∧ sn.length ≤ xs.length ∧ (∀ r ∈ rs, ByteList r ∧ r.length ≤ xs.length) ∧ rs.length ≤ xs.length := by
  cases hl : laidOf 83 xs with
  | none =>
    have h1 : logOf xs = ([], recsOf xs) := by unfold logOf; rw [hl]
    rw [h1] at h
    injection h with h2 h3
    have h4 := recs_all _ xs (Nat.le_refl _) hb
    rw [h3] at h4
    rw [← h2]
    exact ⟨ByteList.nil, by simp, h4⟩
  | some x =>
    have h0 := laid_len hl
    rw [log_some hl] at h
    injection h with h2 h3
    injection h3 with h3 h5
    have h4 := recs_all _ (xs.drop (9 + x.length)) (Nat.le_refl _) (hb.drop _)
    rw [h3] at h4
    rw [← h2]
    simp only [List.length_drop] at h4
    exact ⟨laid_bytes hb hl, by omega, fun r hr => ⟨(h4.1 r hr).1, by have := (h4.1 r hr).2; omega⟩, by omega⟩
end Lg
end Go.Proofs.YtekleamkpfeifaaDoor
