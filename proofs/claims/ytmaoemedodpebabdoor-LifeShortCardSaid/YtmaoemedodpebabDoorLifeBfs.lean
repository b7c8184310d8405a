/-
  PLAIN: the program's own search for a way: rounds over the places that are known, each by all events.
-/
import Derived.Test.YtmaoemedodpebabDoorLifePlain
namespace Go.Proofs.YtmaoemedodpebabDoor
namespace Lf
/-- What is known after some events of a place's round: which states, and the places with their rows. -/
abbrev Kn : Type := List Bool × List (Int × List Int)
def seen (st : Int) (evs : List Int) (ev : Int) (s : Kn) : Kn :=
  match nxt st ev with
  | none => s
  | some t => if s.1.getD t.toNat true then s else (s.1.set t.toNat true, s.2 ++ [(t, evs ++ [ev])])
def start (a : Int) : Kn := ((List.replicate 8 false).set a.toNat true, [(a, [])])
/-- After the first m events (from 1 on) of a round. -/
def parts (st : Int) (evs : List Int) (s : Kn) : Nat → Kn
  | 0 => s
  | m + 1 => seen st evs ((m + 1 : Nat) : Int) (parts st evs s m)
/-- After the first k rounds. -/
def bfs (a : Int) : Nat → Kn
  | 0 => start a
  | k + 1 => match (bfs a k).2[k]? with
    | none => bfs a k
    | some p => parts p.1 p.2 (bfs a k) 10
/-- After m events of round k. -/
def mid (a : Int) (k m : Nat) : Kn := match (bfs a k).2[k]? with
  | none => bfs a k
  | some p => parts p.1 p.2 (bfs a k) m
def goodB (s : Kn) : Bool := s.1.length == 8 && decide (1 ≤ s.2.length ∧ s.2.length ≤ 8) && s.2.all fun p => decide (0 ≤ p.1) && decide (p.1 ≤ 7) && decide (p.2.length ≤ 7)
/-- The round that finds b. -/
def foundB (a b : Int) : Bool := (List.range 8).any fun k0 => decide (wayL a b = ((bfs a k0).2[k0]?).map (·.2)) && decide (((bfs a k0).2[k0]?).map (·.1) = some b) &&
  (List.range k0).all fun k => match (bfs a k).2[k]? with | none => false | some p => decide (p.1 ≠ b)
theorem mid_good : ∀ a ∈ ([0, 1, 2, 3, 4, 5, 6, 7] : List Int), ∀ k ∈ List.range 8, ∀ m ∈ List.range 11, goodB (mid a k m) = true := by decide +kernel
theorem found_all : ∀ a ∈ ([0, 1, 2, 3, 4, 5, 6, 7] : List Int), ∀ b ∈ ([0, 1, 2, 3, 4, 5, 6, 7] : List Int), foundB a b = true := by decide +kernel
structure Good (s : Kn) : Prop where
  eight : s.1.length = 8
  few : 1 ≤ s.2.length ∧ s.2.length ≤ 8
  st : ∀ (i : Nat) (p : Int × List Int), s.2[i]? = some p → isSt p.1 ∧ p.2.length ≤ 7
theorem good_of {s : Kn} (h : goodB s = true) : Good s := by
  unfold goodB at h
  simp only [Bool.and_eq_true, beq_iff_eq, decide_eq_true_eq, List.all_eq_true] at h
  refine ⟨h.1.1, h.1.2, fun i p hp => ?_⟩
  have := h.2 p (List.mem_of_getElem? hp)
  exact ⟨⟨this.1.1, this.1.2⟩, this.2⟩
theorem mid_good' {a : Int} (ha : isSt a) {k m : Nat} (hk : k < 8) (hm : m ≤ 10) : Good (mid a k m) := good_of (mid_good a (st_mem ha) k (by simpa using hk) m (by simp; omega))
theorem found {a b : Int} (ha : isSt a) (hb : isSt b) : ∃ k0 l, k0 < 8 ∧ wayL a b = some l ∧ (bfs a k0).2[k0]? = some (b, l) ∧ ∀ k, k < k0 → ∃ p, (bfs a k).2[k]? = some p ∧ p.1 ≠ b := by
  have h := found_all a (st_mem ha) b (st_mem hb)
  unfold foundB at h
  simp only [List.any_eq_true, List.mem_range, Bool.and_eq_true, decide_eq_true_eq, List.all_eq_true] at h
  obtain ⟨k0, hk, ⟨h1, h2⟩, h3⟩ := h
  cases hp : (bfs a k0).2[k0]? with
  | none => rw [hp] at h2; cases h2
  | some p =>
    obtain ⟨c, l⟩ := p
    rw [hp] at h1 h2
    injection h2 with h2
    dsimp only at h2
    subst h2
    refine ⟨k0, l, hk, h1, hp, fun k hlt => ?_⟩
    have := h3 k hlt
    cases hq : (bfs a k).2[k]? with
    | none => rw [hq] at this; cases this
    | some p => rw [hq] at this; exact ⟨p, rfl, by simpa using this⟩
theorem mid_zero (a : Int) (k : Nat) : mid a k 0 = bfs a k := by
  unfold mid
  cases (bfs a k).2[k]? <;> rfl
theorem mid_ten (a : Int) (k : Nat) : mid a k 10 = bfs a (k + 1) := rfl
theorem mid_succ {a : Int} {k m : Nat} {p : Int × List Int} (h : (bfs a k).2[k]? = some p) : mid a k (m + 1) = seen p.1 p.2 ((m + 1 : Nat) : Int) (mid a k m) := by
  unfold mid
  rw [h]
  rfl
end Lf
end Go.Proofs.YtmaoemedodpebabDoor
