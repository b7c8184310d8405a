/-
  WHAT THE FORM TELLS of a struct of two ints that came in.
-/
import Derived.Test.YtnabnoaephjceaaMem
import Derived.OpenShut
import Derived.ChangeSame
import Derived.WideShapes
namespace Go.Proofs.Ytnabnoaephjceaa
open Go.RowKit Go.ChangeShapes Go.WideShapes
theorem int_wf {n : Int} (h : (Lit.int .i64 n).wf = true) : -9223372036854775808 ≤ n ∧ n ≤ 9223372036854775807 := by
  simp [Lit.wf, IntKind.min, IntKind.max, IntKind.signed, IntKind.bits] at h
  omega
theorem pair_open {H : Type} {enc : TypeId × Value → H} {P : Program} {w W : World} {r : Reach} {base base' : Nat} {spare : Nat → Bool} {held : Bool} {t e : TypeId} {f0 f1 : Field} {v : Value} {d : DataW H} {ps : List MemPlace}
    (ht : P.underlying t = some (.struct #[f0, f1])) (he : P.underlying e = some (.int .i64)) (ce : P.cellsOf e = 1) (ct : P.cellsOf t = 2) (e0 : f0.type = e) (e1 : f1.type = e) (o0 : f0.offset = 0) (o1 : f1.offset = 1)
    (hv : Value.okWide P W r base' t v) (h : DataW.Trod enc P w base spare held t v d ps) :
    ∃ x y : Int, v = .agg #[.int .i64 x, .int .i64 y] ∧ d = .agg [.lit (.int .i64 x), .lit (.int .i64 y)] ∧ ps = [] ∧ (Lit.int .i64 x).wf = true ∧ (Lit.int .i64 y).wf = true := by
  obtain ⟨cs, rfl, hsz⟩ := okWide_struct ht hv
  rw [ct] at hsz
  obtain ⟨l⟩ := cs
  obtain ⟨c0, c1, rfl⟩ : ∃ c0 c1, l = [c0, c1] := by
    have hn : l.length = 2 := hsz
    match l, hn with
    | [c0, c1], _ => exact ⟨c0, c1, rfl⟩
  obtain ⟨fuel, hf⟩ := h
  obtain ⟨y0, y1, m, hx, _, hy0, hy1⟩ := trod_struct2 ht hf
  rw [e0] at hy0
  rw [e1] at hy1
  obtain ⟨a, ea, rfl, wa⟩ := DataW.trod_int he hy0
  obtain ⟨b, eb, rfl, wb⟩ := DataW.trod_int he hy1
  simp [Value.cells, ce, o0, o1] at ea eb
  subst ea eb
  simp only [Prod.mk.injEq] at hx
  obtain ⟨rfl, rfl⟩ := hx
  exact ⟨a, b, rfl, rfl, rfl, wa, wb⟩
theorem pair_shut {H : Type} {enc : TypeId × Value → H} {P : Program} {w : World} {base : Nat} {spare : Nat → Bool} {held : Bool} {t e : TypeId} {f0 f1 : Field}
    (ht : P.underlying t = some (.struct #[f0, f1])) (he : P.underlying e = some (.int .i64)) (ce : P.cellsOf e = 1) (ct : P.cellsOf t = 2) (e0 : f0.type = e) (e1 : f1.type = e) (o0 : f0.offset = 0) (o1 : f1.offset = 1)
    {x y : Int} (h : (Lit.int .i64 x).wf = true ∧ (Lit.int .i64 y).wf = true) : DataW.Trod enc P w base spare held t (.agg #[.int .i64 x, .int .i64 y]) (.agg [.lit (.int .i64 x), .lit (.int .i64 y)]) [] := ⟨2, by
  have h0 : DataW.trod enc P w base spare held 1 e [.int .i64 x] = some (.lit (.int .i64 x), []) := by simp [DataW.trod, he, h.1]
  have h1 : DataW.trod enc P w base spare held 1 e [.int .i64 y] = some (.lit (.int .i64 y), []) := by simp [DataW.trod, he, h.2]
  have := trod_struct2_mk (enc := enc) (w := w) (base := base) (spare := spare) (held := held) (n := 1) (cs := [.int .i64 x, .int .i64 y]) ht (by simp [ct]) (by simpa [e0, o0, ce] using h0) (by simpa [e1, o1, ce] using h1)
  simpa [Value.cells] using this⟩
end Go.Proofs.Ytnabnoaephjceaa
