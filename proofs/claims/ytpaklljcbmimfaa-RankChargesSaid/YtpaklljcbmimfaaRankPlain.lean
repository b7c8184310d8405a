/-
  USES, in plain numbers: which are right, and what becomes of them when a user is charged.
-/
import Derived.Lib.Hide
namespace Go.Proofs.Ytpaklljcbmimfaa
namespace Rk
/-- What a user has used. -/
structure U where
  u : Int
  s : Int
  t : Int
/-- Right uses, all users behind `last`. -/
def Rises (last : Int) : List U → Prop
  | [] => True
  | x :: r => last < x.u ∧ x.u < 16 ∧ 0 ≤ x.s ∧ x.s ≤ 1152921504606846976 ∧ 0 ≤ x.t ∧ x.t ≤ 1099511627776 ∧ Rises x.u r
def Right (l : List U) : Prop := Rises (-1) l
def lo (l : List U) (n : Int) : List U := l.filter fun y => decide (y.u < n)
def own (l : List U) (n : Int) : List U := l.filter fun y => decide (y.u = n)
def hi (l : List U) (n : Int) : List U := l.filter fun y => decide (n < y.u)
/-- A user's own in its place, all others as they were. -/
def put (l : List U) (x : U) : List U := lo l x.u ++ (x :: hi l x.u)
theorem Rises.mono {a b : Int} {l : List U} (h : Rises b l) (hab : a ≤ b) : Rises a l := by
  cases l with
  | nil => trivial
  | cons x r => exact ⟨by have := h.1; omega, h.2⟩
theorem Rises.above {a : Int} : ∀ {l : List U}, Rises a l → ∀ y ∈ l, a < y.u
  | [], _, y, hy => by cases hy
  | x :: r, h, y, hy => by
    rcases List.mem_cons.1 hy with rfl | hy
    · exact h.1
    · have h1 := h.1
      have := Rises.above h.2.2.2.2.2.2 y hy
      omega
theorem Rises.len {a : Int} : ∀ {l : List U}, Rises a l → a ≤ 15 → (l.length : Int) ≤ 15 - a
  | [], _, ha => by simp; omega
  | x :: r, h, ha => by
    have h1 := h.1
    have h2 := h.2.1
    have := Rises.len h.2.2.2.2.2.2 (by omega)
    simp only [List.length_cons]
    omega
theorem Right.len {l : List U} (h : Right l) : l.length ≤ 16 := by have := Rises.len h (by omega); omega
theorem lo_none {a n : Int} {l : List U} (h : Rises a l) (hn : n ≤ a + 1) : lo l n = [] := by
  unfold lo
  rw [List.filter_eq_nil_iff]
  intro y hy
  have := h.above y hy
  simp; omega
theorem own_none {a n : Int} {l : List U} (h : Rises a l) (hn : n ≤ a) : own l n = [] := by
  unfold own
  rw [List.filter_eq_nil_iff]
  intro y hy
  have := h.above y hy
  simp; omega
theorem hi_all {a n : Int} {l : List U} (h : Rises a l) (hn : n ≤ a) : hi l n = l := by
  unfold hi
  rw [List.filter_eq_self]
  intro y hy
  have := h.above y hy
  simp; omega
/-- A list that rises: what stands ahead of a user, its own, what stands behind. -/
theorem parts {a : Int} (n : Int) : ∀ {l : List U}, Rises a l → l = lo l n ++ own l n ++ hi l n ∧ (own l n).length ≤ 1
  | [], _ => ⟨rfl, by simp [own]⟩
  | x :: r, h => by
    have hr := h.2.2.2.2.2.2
    obtain ⟨e1, e2⟩ := parts n hr
    by_cases h1 : x.u < n
    · have a1 : lo (x :: r) n = x :: lo r n := by simp [lo, h1]
      have a2 : own (x :: r) n = own r n := by
        have : ¬ x.u = n := by omega
        simp [own, this]
      have a3 : hi (x :: r) n = hi r n := by
        have : ¬ n < x.u := by omega
        simp [hi, this]
      rw [a1, a2, a3]
      exact ⟨by rw [List.cons_append, List.cons_append, ← e1], e2⟩
    · by_cases h2 : x.u = n
      · have a1 : lo (x :: r) n = lo r n := by simp [lo, h1]
        have a2 : own (x :: r) n = x :: own r n := by simp [own, h2]
        have a3 : hi (x :: r) n = hi r n := by
          have : ¬ n < x.u := by omega
          simp [hi, this]
        rw [a1, a2, a3, lo_none hr (by omega), own_none hr (by omega), hi_all hr (by omega)]
        exact ⟨rfl, by simp⟩
      · have a1 : lo (x :: r) n = lo r n := by simp [lo, h1]
        have a2 : own (x :: r) n = own r n := by simp [own, h2]
        have a3 : hi (x :: r) n = x :: hi r n := by
          have : n < x.u := by omega
          simp [hi, this]
        rw [a1, a2, a3, lo_none hr (by omega), own_none hr (by omega), hi_all hr (by omega)]
        exact ⟨rfl, by simp⟩
theorem rises_hi {a n : Int} : ∀ {l : List U}, Rises a l → Rises n (hi l n)
  | [], _ => trivial
  | x :: r, h => by
    have hr := h.2.2.2.2.2.2
    by_cases h1 : n < x.u
    · have a3 : hi (x :: r) n = x :: r := by
        have := hi_all (n := n) hr (by omega)
        have h2 : hi (x :: r) n = x :: hi r n := by simp [hi, h1]
        rw [h2, this]
      rw [a3]
      exact ⟨h1, h.2⟩
    · have a3 : hi (x :: r) n = hi r n := by simp [hi, h1]
      rw [a3]
      exact rises_hi hr
theorem rises_lo {a n : Int} {t : List U} (ha : a < n) (ht : Rises (n - 1) t) : ∀ {l : List U}, Rises a l → Rises a (lo l n ++ t)
  | [], _ => ht.mono (by omega)
  | x :: r, h => by
    have hr := h.2.2.2.2.2.2
    by_cases h1 : x.u < n
    · have a1 : lo (x :: r) n = x :: lo r n := by simp [lo, h1]
      rw [a1]
      exact ⟨h.1, h.2.1, h.2.2.1, h.2.2.2.1, h.2.2.2.2.1, h.2.2.2.2.2.1, rises_lo h1 ht hr⟩
    · have a1 : lo (x :: r) n = lo r n := by simp [lo, h1]
      rw [a1, lo_none hr (by omega)]
      exact ht.mono (by omega)
theorem right_put {l : List U} {x : U} (h : Right l) (h0 : 0 ≤ x.u) (h1 : x.u < 16) (s0 : 0 ≤ x.s) (s1 : x.s ≤ 1152921504606846976) (t0 : 0 ≤ x.t) (t1 : x.t ≤ 1099511627776) : Right (put l x) :=
  rises_lo (n := x.u) (t := x :: hi l x.u) (by omega) (show Rises (x.u - 1) (x :: hi l x.u) from ⟨by omega, h1, s0, s1, t0, t1, rises_hi h⟩) h
end Rk
end Go.Proofs.Ytpaklljcbmimfaa
