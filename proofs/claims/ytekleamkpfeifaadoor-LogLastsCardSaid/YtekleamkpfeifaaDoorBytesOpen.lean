/-
  WHAT THE FORM TELLS of bytes and of ints that came in, in the walks' words.
-/
import Derived.Test.YtekleamkpfeifaaDoorKB00
import Derived.Laws.IdiomArrays
import Derived.OpenShut
namespace Go.Proofs.YtekleamkpfeifaaDoor
open Go.RowKit
theorem byte_wf {n : Int} (h : (Lit.int .u8 n).wf = true) : 0 ≤ n ∧ n ≤ 255 := by
  simp [Lit.wf, IntKind.min, IntKind.max, IntKind.signed, IntKind.bits] at h
  omega
/-- The same of a slice of bytes. -/
theorem bytes_open {w : World} {a : Option Addr} {len cap : Nat} {zs : List Int} (h : (a = none ∧ len = 0 ∧ cap = 0 ∧ zs = []) ∨
    ∃ x, a = some x ∧ len ≤ cap ∧ cap ≤ maxLen ∧ zs.length = cap ∧ (∀ i, i < zs.length → w.cell? (x.add i) = some (.int .u8 (zs.getD i 0))) ∧ ∀ n ∈ zs, (Lit.int .u8 n).wf = true) :
    ∃ xs : List Int, xs.length = len ∧ NRow .u8 w a xs ∧ ByteList xs ∧ (a = none → cap = 0) ∧ len ≤ cap ∧ cap ≤ 9223372036854775807 := by
  rcases h with ⟨rfl, rfl, rfl, rfl⟩ | ⟨x, rfl, hl, hm, hz, hcell, hw⟩
  · exact ⟨[], rfl, NRow.none_ _ _ _, (fun x h => by cases h), fun _ => rfl, Nat.le_refl _, by omega⟩
  · unfold maxLen at hm
    exact ⟨zs.take len, by rw [List.length_take]; omega, NRow.of_cells (by omega) hcell, (fun n hn => byte_wf (hw n (List.mem_of_mem_take hn))), (fun h => by cases h), hl, hm⟩
/-- The same of a slice of ints. -/
theorem ints_open {w : World} {a : Option Addr} {len cap : Nat} {zs : List Int} (h : (a = none ∧ len = 0 ∧ cap = 0 ∧ zs = []) ∨
    ∃ x, a = some x ∧ len ≤ cap ∧ cap ≤ maxLen ∧ zs.length = cap ∧ (∀ i, i < zs.length → w.cell? (x.add i) = some (.int .i64 (zs.getD i 0))) ∧ ∀ n ∈ zs, (Lit.int .i64 n).wf = true) :
    ∃ xs : List Int, xs.length = len ∧ NRow .i64 w a xs ∧ (a = none → cap = 0) ∧ len ≤ cap ∧ cap ≤ 9223372036854775807 := by
  rcases h with ⟨rfl, rfl, rfl, rfl⟩ | ⟨x, rfl, hl, hm, hz, hcell, _⟩
  · exact ⟨[], rfl, NRow.none_ _ _ _, fun _ => rfl, Nat.le_refl _, by omega⟩
  · unfold maxLen at hm
    exact ⟨zs.take len, by rw [List.length_take]; omega, NRow.of_cells (by omega) hcell, (fun h => by cases h), hl, hm⟩
/-- An array of four bytes that came in. -/
theorem four_open {H : Type} {enc : TypeId × Value → H} {P : Program} {w : World} {base : Nat} {spare : Nat → Bool} {held : Bool} {t e : TypeId} {cs : Array Value} {d : DataW H} {ps : List MemPlace} (ht : P.underlying t = some (.array 4 e)) (he : P.underlying e = some (.int .u8)) (ce : P.cellsOf e = 1) (hn : cs.size = 4)
    (h : DataW.Trod enc P w base spare held t (.agg cs) d ps) : ∃ a b c d : Int, cs = #[.int .u8 a, .int .u8 b, .int .u8 c, .int .u8 d] ∧ ByteList [a, b, c, d] := by
  obtain ⟨l⟩ := cs
  obtain ⟨c0, c1, c2, c3, rfl⟩ : ∃ c0 c1 c2 c3, l = [c0, c1, c2, c3] := by
    have hn : l.length = 4 := hn
    match l, hn with
    | [c0, c1, c2, c3], _ => exact ⟨c0, c1, c2, c3, rfl⟩
  obtain ⟨fuel, hf⟩ := h
  obtain ⟨y0, y1, y2, y3, m, _, hy0, hy1, hy2, hy3⟩ := Go.ChangeShapes.trod_array4 ht ce hf
  obtain ⟨x0, e0, _, w0⟩ := DataW.trod_int he hy0
  obtain ⟨x1, e1, _, w1⟩ := DataW.trod_int he hy1
  obtain ⟨x2, e2, _, w2⟩ := DataW.trod_int he hy2
  obtain ⟨x3, e3, _, w3⟩ := DataW.trod_int he hy3
  simp at e0 e1 e2 e3
  subst e0 e1 e2 e3
  refine ⟨x0, x1, x2, x3, rfl, fun x hx => ?_⟩
  simp at hx
  rcases hx with rfl | rfl | rfl | rfl
  · exact byte_wf w0
  · exact byte_wf w1
  · exact byte_wf w2
  · exact byte_wf w3
end Go.Proofs.YtekleamkpfeifaaDoor
