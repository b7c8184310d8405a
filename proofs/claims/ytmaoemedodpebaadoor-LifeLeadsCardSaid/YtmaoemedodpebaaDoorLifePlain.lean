/-
  PLAIN: the states of a copy, and what leads from one to another.
-/
namespace Go.Proofs.YtmaoemedodpebaaDoor
namespace Lf
/-- The table: from, by, to. -/
def table : List (Int × Int × Int) := [(0, 1, 1), (1, 2, 2), (1, 5, 4), (1, 9, 7), (1, 10, 0), (2, 3, 3), (2, 8, 6), (2, 9, 7), (3, 4, 1), (4, 6, 1), (4, 7, 5), (5, 8, 6), (5, 9, 7), (6, 9, 7), (7, 10, 0)]
def look (st ev : Int) : List (Int × Int × Int) → Option Int
  | [] => none
  | r :: l => if r.1 = st ∧ r.2.1 = ev then some r.2.2 else look st ev l
def nxt (st ev : Int) : Option Int := look st ev table
def walkL : Int → List Int → Int × Nat
  | st, [] => (st, 0)
  | st, e :: l => match nxt st e with
    | none => (st, 0)
    | some t => ((walkL t l).1, (walkL t l).2 + 1)
/-- The first of some events behind which a way of n events leads there. -/
def wayN : Nat → Int → Int → Option (List Int)
  | 0, a, b => if a = b then some [] else none
  | n + 1, a, b => ([1, 2, 3, 4, 5, 6, 7, 8, 9, 10] : List Int).findSome? fun ev => match nxt a ev with
    | none => none
    | some c => (wayN n c b).map (ev :: ·)
def isSt (a : Int) : Prop := 0 ≤ a ∧ a ≤ 7
instance (a : Int) : Decidable (isSt a) := by unfold isSt; exact inferInstance
def wayL (a b : Int) : Option (List Int) := if isSt a ∧ isSt b then [0, 1, 2, 3, 4, 5, 6, 7, 8].findSome? fun n => wayN n a b else none
theorem look_drop {st ev : Int} {k : Nat} {a b c : Int} (h : table[k]? = some (a, b, c)) : look st ev (table.drop k) = if a = st ∧ b = ev then some c else look st ev (table.drop (k + 1)) := by
  rw [List.drop_eq_getElem_cons (List.getElem?_eq_some_iff.1 h).1, (List.getElem?_eq_some_iff.1 h).2]
  rfl
theorem look_mem {st ev t : Int} {l : List (Int × Int × Int)} (h : look st ev l = some t) : (st, ev, t) ∈ l := by
  induction l with
  | nil => cases h
  | cons r l ih =>
    unfold look at h
    split at h
    · rename_i hr
      obtain ⟨a, b, c⟩ := r
      injection h with h
      dsimp only at hr h
      obtain ⟨rfl, rfl⟩ := hr
      subst h
      simp
    · exact List.mem_cons_of_mem _ (ih h)
/-- What leads anywhere leads from a state to a state. -/
theorem nxt_mem {st ev t : Int} (h : nxt st ev = some t) : (st, ev, t) ∈ table := look_mem h
theorem nxt_st {st ev t : Int} (h : nxt st ev = some t) : isSt st ∧ isSt t ∧ 1 ≤ ev ∧ ev ≤ 10 := by
  have h1 : ∀ r ∈ table, isSt r.1 ∧ isSt r.2.2 ∧ 1 ≤ r.2.1 ∧ r.2.1 ≤ 10 := by decide
  exact h1 _ (nxt_mem h)
theorem walk_nil (st : Int) : walkL st [] = (st, 0) := rfl
theorem walk_stop {st e : Int} {l : List Int} (h : nxt st e = none) : walkL st (e :: l) = (st, 0) := by rw [walkL, h]
theorem walk_on {st e t : Int} {l : List Int} (h : nxt st e = some t) : walkL st (e :: l) = ((walkL t l).1, (walkL t l).2 + 1) := by rw [walkL, h]
theorem walk_le (l : List Int) (st : Int) : (walkL st l).2 ≤ l.length := by
  induction l generalizing st with
  | nil => simp [walkL]
  | cons e l ih =>
    cases h : nxt st e with
    | none => rw [walk_stop h]; simp
    | some t => rw [walk_on h]; have := ih t; simp; omega
/-- A walk in two parts. -/
theorem walk_part {st : Int} {a : List Int} (b : List Int) (h : (walkL st a).2 < a.length) : walkL st (a ++ b) = walkL st a := by
  induction a generalizing st with
  | nil => simp at h
  | cons e l ih =>
    rw [List.cons_append]
    cases hn : nxt st e with
    | none => rw [walk_stop hn, walk_stop hn]
    | some t => rw [walk_on hn] at h ⊢; rw [walk_on hn]; rw [ih (by simpa using h)]
theorem walk_both {st : Int} {a : List Int} (b : List Int) (h : (walkL st a).2 = a.length) : walkL st (a ++ b) = ((walkL (walkL st a).1 b).1, a.length + (walkL (walkL st a).1 b).2) := by
  induction a generalizing st with
  | nil => simp [walkL]
  | cons e l ih =>
    rw [List.cons_append]
    cases hn : nxt st e with
    | none => rw [walk_stop hn] at h; simp at h
    | some t =>
      rw [walk_on hn] at h
      have h1 : (walkL t l).2 = l.length := by simpa using h
      rw [walk_on hn, walk_on hn, ih h1]
      simp only [List.length_cons, Prod.mk.injEq, true_and]
      omega
/-- A way that is told leads there. -/
theorem way_leads : ∀ (n : Nat) (a b : Int) (l : List Int), wayN n a b = some l → walkL a l = (b, l.length) ∧ l.length = n := by
  intro n
  induction n with
  | zero =>
    intro a b l h
    unfold wayN at h
    split at h
    · rename_i hab; injection h with h; subst h hab; exact ⟨rfl, rfl⟩
    · cases h
  | succ n ih =>
    intro a b l h
    unfold wayN at h
    obtain ⟨ev, -, he⟩ := List.exists_of_findSome?_eq_some h
    cases hn : nxt a ev with
    | none => rw [hn] at he; cases he
    | some c =>
      rw [hn] at he
      dsimp only at he
      cases hw : wayN n c b with
      | none => rw [hw] at he; cases he
      | some r =>
        rw [hw] at he
        injection he with he
        subst he
        obtain ⟨h1, h2⟩ := ih c b r hw
        rw [walk_on hn, h1]
        exact ⟨by simp, by simp [h2]⟩
theorem wayL_leads {a b : Int} {l : List Int} (h : wayL a b = some l) : walkL a l = (b, l.length) ∧ l.length ≤ 8 ∧ isSt a ∧ isSt b := by
  unfold wayL at h
  split at h
  · rename_i hs
    obtain ⟨n, hn, hw⟩ := List.exists_of_findSome?_eq_some h
    have := way_leads n a b l hw
    have hn8 : n ≤ 8 := by simp at hn; omega
    exact ⟨this.1, by omega, hs.1, hs.2⟩
  · cases h
/-- Each state leads to each by at most seven events: told over all 64 pairs. -/
theorem way_all : ∀ a ∈ [0, 1, 2, 3, 4, 5, 6, 7], ∀ b ∈ [0, 1, 2, 3, 4, 5, 6, 7], ((wayL a b).map (·.length)).any (· ≤ 7) = true := by decide +kernel
theorem st_mem {a : Int} (h : isSt a) : a ∈ [0, 1, 2, 3, 4, 5, 6, 7] := by unfold isSt at h; simp; omega
theorem way_some {a b : Int} (ha : isSt a) (hb : isSt b) : ∃ l, wayL a b = some l ∧ l.length ≤ 7 := by
  have h := way_all a (st_mem ha) b (st_mem hb)
  cases hw : wayL a b with
  | none => rw [hw] at h; cases h
  | some l => rw [hw] at h; exact ⟨l, rfl, by simpa using h⟩
/-- Whatever is walked, there is a way of just so many events. -/
theorem walk_way (xs : List Int) (a : Int) : ∃ l, wayN (walkL a xs).2 a (walkL a xs).1 = some l := by
  induction xs generalizing a with
  | nil => exact ⟨[], by simp [walkL, wayN]⟩
  | cons e xs ih =>
    cases hn : nxt a e with
    | none => rw [walk_stop hn]; exact ⟨[], by simp [wayN]⟩
    | some t =>
      rw [walk_on hn]
      obtain ⟨l, hl⟩ := ih t
      obtain ⟨_, _, h1, h2⟩ := nxt_st hn
      cases hw : wayN ((walkL t xs).2 + 1) a (walkL t xs).1 with
      | some r => exact ⟨r, rfl⟩
      | none =>
        unfold wayN at hw
        have := List.findSome?_eq_none_iff.1 hw e (by simp; omega)
        rw [hn] at this
        dsimp only at this
        rw [hl] at this
        cases this
theorem walk_st {xs : List Int} {a : Int} (ha : isSt a) : isSt (walkL a xs).1 := by
  induction xs generalizing a with
  | nil => exact ha
  | cons e xs ih =>
    cases hn : nxt a e with
    | none => rw [walk_stop hn]; exact ha
    | some t => rw [walk_on hn]; exact ih (nxt_st hn).2.1
/-- No way that is told is longer than a walk that leads there. -/
theorem way_short {xs : List Int} {a : Int} (ha : isSt a) : ∃ l, wayL a (walkL a xs).1 = some l ∧ l.length ≤ (walkL a xs).2 := by
  obtain ⟨l, hl, h7⟩ := way_some ha (walk_st (xs := xs) ha)
  refine ⟨l, hl, ?_⟩
  by_cases h8 : (walkL a xs).2 ≤ 8
  · obtain ⟨r, hr⟩ := walk_way xs a
    unfold wayL at hl
    rw [if_pos ⟨ha, walk_st ha⟩] at hl
    obtain ⟨l1, k, l2, he, hk, hno⟩ := List.findSome?_eq_some_iff.1 hl
    have hlen := (way_leads k _ _ _ hk).2
    have hp : List.Pairwise (· < ·) ([0, 1, 2, 3, 4, 5, 6, 7, 8] : List Nat) := by decide
    rw [he] at hp
    have hm : (walkL a xs).2 ∈ ([0, 1, 2, 3, 4, 5, 6, 7, 8] : List Nat) := by simp; omega
    rw [he] at hm
    rcases List.mem_append.1 hm with hm | hm
    · have := hno _ hm
      rw [hr] at this
      cases this
    · rcases List.mem_cons.1 hm with hm | hm
      · omega
      · have := (List.pairwise_cons.1 (List.pairwise_append.1 hp).2.1).1 _ hm
        omega
  · omega
end Lf
end Go.Proofs.YtmaoemedodpebaaDoor
