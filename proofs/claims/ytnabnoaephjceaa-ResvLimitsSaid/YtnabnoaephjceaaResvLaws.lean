/-
  What hanselaw09's ResvLimits asks of resv.Add, and its walk.
-/
import Derived.Test.YtnabnoaephjceaaProfNew
namespace Go.Proofs.Ytnabnoaephjceaa
namespace Rv
open Go.RowKit Am Pf
/-- A reservation. -/
structure R where
  a : Int
  i : Int
  n : Int
  b : Bu
  sure : Bool
  til : Int
def R.cells (r : R) : List Value := [.int .i64 r.a, .int .i64 r.i, .int .i64 r.n, .int .i64 r.b.f, .int .i64 r.b.t, amt r.b.n 0, .bool r.sure, .int .i64 r.til]
/-- Reservations that are read from a slice on. -/
def Row (w : World) (A : Option Addr) (l : List R) : Prop :=
  ∀ k r, l[k]? = some r → ∃ g off, A = some ⟨g, off, none⟩ ∧ ∀ j u, r.cells[j]? = some u → w.cell? ⟨g, off + k * 8 + j, none⟩ = some u
theorem Row.still {w w' : World} {A : Option Addr} {l : List R} (h : Row w A l) (hm : Moved w w' []) : Row w' A l := by
  intro k r hr
  obtain ⟨g, off, e, hc⟩ := h k r hr
  exact ⟨g, off, e, fun j u hu => one_still hm (hc j u hu)⟩
def Small (n : Int) : Prop := -9223372036854775808 ≤ n ∧ n ≤ 9223372036854775807
/-- x stands behind r. -/
def Gt (x r : R) : Prop := r.a < x.a ∨ (r.a = x.a ∧ (r.i < x.i ∨ (r.i = x.i ∧ r.n < x.n)))
/-- What is asked of resv.Add: where all fits, and none of it is there already, and all of it is behind the one that is added, or none, one more is there; where there are as many as may be, ErrFull. -/
structure Laws : Prop where
  add : ∀ (cap : Nat) (A : Option Addr) (n c : Nat) (l : List R) (r : R) (w : World), cap ≤ 2 → l.length = n → n < 64 → Row w A l → n ≤ c → c ≤ 9223372036854775807 → (A = none → c = 0) → (∀ x ∈ r :: l, x.b.f < x.b.t ∧ x.b.t ≤ 1099511627776 ∧ x.b.n ≤ 2) →
    ((∀ x ∈ l, Gt x r) ∧ Fit cap (r.b :: l.map R.b) ∨ (∀ x ∈ l, ¬ Gt x r) ∧ Fit cap (l.map R.b ++ [r.b])) → (∀ x ∈ l, ¬ (x.a = r.a ∧ x.i = r.i ∧ x.n = r.n)) →
    (∀ x ∈ r :: l, Small x.a ∧ Small x.i ∧ Small x.n ∧ Small x.til) →
    Calls Try.prog 4 #[amt cap 0, .slice none 0 0, .slice A n c, .agg r.cells.toArray] w fun e w' => ∃ B c' out, e = .returned (.tuple #[.slice B (n + 1) c', .int .i64 0]) ∧ Row w' B out ∧ out.length = n + 1 ∧ (l = [] → out = [r]) ∧ Moved w w' []
  full : ∀ (cap : Nat) (A : Option Addr) (n c : Nat) (r : R) (w : World), 64 ≤ n → n ≤ 1048576 →
    Calls Try.prog 4 #[amt cap 0, .slice none 0 0, .slice A n c, .agg r.cells.toArray] w fun e w' => ∃ B c', e = .returned (.tuple #[.slice B 0 c', .int .i64 20]) ∧ Moved w w' []
theorem info_resv : (Try.prog.info? 29).map (fun i => (i.zero, i.size, i.bytes)) = some (some (.agg #[.int .i64 0, .int .i64 0, .int .i64 0, .int .i64 0, .int .i64 0, .complex .f64 0 0, .bool false, .int .i64 0]), 8, 72) := by kernel_rfl
theorem one_amt : amt (1 : Nat) 0 = .complex .f64 4607182418800017408 0 := by unfold amt; rw [show floatOfInt .f64 ((1 : Nat) : Int) = 4607182418800017408 by decide +kernel, show floatOfInt .f64 (0 : Int) = 0 by decide +kernel]
theorem two_amt : amt (2 : Nat) 0 = .complex .f64 4611686018427387904 0 := by unfold amt; rw [show floatOfInt .f64 ((2 : Nat) : Int) = 4611686018427387904 by decide +kernel, show floatOfInt .f64 (0 : Int) = 0 by decide +kernel]
/-! Does it fit? By reckoning. -/
def cnt (L : List Sp) (t : Nat) : Nat := (L.takeWhile fun s => decide (s.t ≤ t)).length
def uptoB (L : List Sp) (t : Nat) : Bool := decide (cnt L t ≤ L.length) && (List.range L.length).all fun i => match L[i]? with | some s => decide (s.t ≤ t) == decide (i < cnt L t) | none => true
theorem uptoB_ok {L : List Sp} {t : Nat} (h : uptoB L t = true) : Upto L t (cnt L t) := by
  unfold uptoB at h
  simp only [Bool.and_eq_true, decide_eq_true_eq, List.all_eq_true, List.mem_range] at h
  refine ⟨h.1, fun i s hs => ?_⟩
  have hi := h.2 i (List.getElem?_eq_some_iff.1 hs).1
  rw [hs] at hi
  simpa using hi
def mayB (cap : Nat) (L : List Sp) (b : Bu) : Bool :=
  decide (b.f < b.t ∧ b.t ≤ 1099511627776 ∧ b.n ≤ 2 ∧ cap ≤ 2 ∧ 0 < cnt L b.f ∧ cnt L b.f ≤ cnt L (b.t - 1) + 1) && (L.all fun s => decide (s.n ≤ 2)) && uptoB L b.f && uptoB L (b.t - 1) &&
    ((List.range L.length).all fun i => match L[i]? with | some s => decide (cnt L b.f ≤ i + 1 → i < cnt L (b.t - 1) → b.n ≤ s.n ∧ s.n - b.n ≤ cap) | none => true)
theorem mayB_ok {cap : Nat} {L : List Sp} {b : Bu} (h : mayB cap L b = true) : May cap L b.f b.t b.n := by
  unfold mayB at h
  simp only [Bool.and_eq_true, decide_eq_true_eq, List.all_eq_true, List.mem_range] at h
  obtain ⟨⟨⟨⟨⟨h1, h2, h3, h4, h5, h6⟩, h7⟩, h8⟩, h9⟩, h10⟩ := h
  refine ⟨⟨h1, h2⟩, ⟨h3, h4, fun s hs => by simpa using h7 s hs⟩, cnt L b.f - 1, cnt L (b.t - 1), ?_, uptoB_ok h9, by omega, fun i s hi1 hi2 hs => ?_⟩
  · rw [show cnt L b.f - 1 + 1 = cnt L b.f by omega]; exact uptoB_ok h8
  · have := h10 i (List.getElem?_eq_some_iff.1 hs).1
    rw [hs] at this
    simp only [decide_eq_true_eq] at this
    exact this (by omega) hi2
def fitB (cap : Nat) (bs : List Bu) : Bool :=
  (List.range bs.length).all fun k => match bs[k]? with | some b => decide ((after cap bs k).length ≤ 100000) && mayB cap (view cap (after cap bs k)) b | none => true
theorem fitB_ok {cap : Nat} {bs : List Bu} (h : fitB cap bs = true) : Fit cap bs := by
  unfold fitB at h
  simp only [List.all_eq_true, List.mem_range] at h
  intro k b hb
  have := h k (List.getElem?_eq_some_iff.1 hb).1
  rw [hb] at this
  simp only [Bool.and_eq_true, decide_eq_true_eq] at this
  exact ⟨this.1, mayB_ok this.2⟩
/-- The statement's reservations. -/
def lim (N : Nat) : List R := (List.range N).map fun (k : Nat) => ⟨0, 0, ((k + 1 : Nat) : Int), ⟨k, k + 1, 1⟩, false, 0⟩
def limB (N : Nat) : List Bu := (List.range N).map fun k => ⟨k, k + 1, 1⟩
theorem lim_b (N : Nat) : (lim N).map R.b = limB N := by simp [lim, limB]
set_option maxRecDepth 100000 in
theorem fit62 : fitB 1 (limB 62 ++ [⟨500, 501, 1⟩]) = true := by decide +kernel
set_option maxRecDepth 100000 in
theorem fit63 : fitB 1 (limB 63 ++ [⟨500, 501, 1⟩]) = true := by decide +kernel
set_option maxRecDepth 100000 in
theorem fit62a : fitB 1 (⟨500, 501, 1⟩ :: limB 62) = true := by decide +kernel
set_option maxRecDepth 100000 in
theorem fit63a : fitB 1 (⟨500, 501, 1⟩ :: limB 63) = true := by decide +kernel
theorem fitw : fitB 2 ([] ++ [⟨3, 4, 1⟩]) = true := by decide +kernel
end Rv
end Go.Proofs.Ytnabnoaephjceaa
