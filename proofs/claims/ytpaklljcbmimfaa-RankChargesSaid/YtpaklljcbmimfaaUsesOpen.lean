/-
  WHAT THE FORM TELLS of a slice of api.Use that came in.
-/
import Derived.Test.YtpaklljcbmimfaaRankLaws
import Derived.Deep.Matrix
import Derived.OpenShut
import Derived.ChangeSame
import Derived.WideShapes
namespace Go.Proofs.Ytpaklljcbmimfaa
namespace Rk
open Go.RowKit Go.ChangeShapes Go.WideShapes Go.Deep
/-- A slice of uses that came in. -/
def AreUses (w : World) (a : Option Addr) (len cap : Nat) : Prop := ∃ cs : List U, cs.length = len ∧ Row w a cs ∧ len ≤ cap ∧ cap ≤ 9223372036854775807
instance : Inhabited U := ⟨⟨0, 0, 0⟩⟩
theorem three_of {cs : List Value} (h : cs.length = 3) : ∃ x y z, cs = [x, y, z] := by
  match cs, h with
  | [x, y, z], _ => exact ⟨x, y, z, rfl⟩
theorem use_cells : Try.prog.cellsOf 27 = 3 ∧ Try.prog.cellsOf 3 = 1 := ⟨by kernel_rfl, by kernel_rfl⟩
theorem uses_open {H : Type} {enc : TypeId × Value → H} {w : World} {base : Nat} {held : Bool} {fuel : Nat} {a : Option Addr} {len cap : Nat} {x : DataW H × List MemPlace}
    (h : DataW.trod enc Try.prog w base (fun _ => true) held fuel 22 [.slice a len cap] = some x) : AreUses w a len cap := by
  rcases open_slice Try.underlying22 h with ⟨hcs, _⟩ | ⟨ad, l, c, m, n, Dd, Pl, hcs, _, hl, hm, hmm, _, hi⟩
  · simp at hcs
    obtain ⟨rfl, rfl, rfl⟩ := hcs
    exact ⟨[], rfl, fun i a hi => by simp at hi, Nat.le_refl _, by omega⟩
  · simp at hcs
    obtain ⟨rfl, rfl, rfl⟩ := hcs
    simp only [if_true] at hmm
    subst hmm
    unfold maxLen at hm
    have hsp : 0 < len → ad.spot = none := fun h0 => by
      obtain ⟨cs', hc, _⟩ := hi 0 (by omega)
      rw [use_cells.1] at hc
      obtain ⟨_, hcl, hat⟩ := World.cells?_some hc
      have c0 := hat 0 (by omega)
      obtain ⟨v0, v1, v2, rfl⟩ := three_of hcl
      have c0 : w.cell? ((ad.add (0 * 3)).add 0) = some v0 := c0
      simpa [Addr.add] using World.cell?_spot c0
    have each : ∀ i, i < len → ∃ y : U, ∃ b off, (some ad : Option Addr) = some ⟨b, off, none⟩ ∧ w.cell? ⟨b, off + i * 3, none⟩ = some (.int .i64 y.u) ∧ w.cell? ⟨b, off + i * 3 + 1, none⟩ = some (.int .i64 y.s) ∧
        w.cell? ⟨b, off + i * 3 + 2, none⟩ = some (.int .i64 y.t) := by
      intro i hil
      obtain ⟨cs', hc, ht⟩ := hi i (by omega)
      rw [use_cells.1] at hc
      obtain ⟨_, hcl, hat⟩ := World.cells?_some hc
      obtain ⟨v0, v1, v2, rfl⟩ := three_of hcl
      obtain ⟨xs, k, _, _, _, hlen, hf⟩ := DataW.trod_struct Try.underlying27 ht
      have h0 : DataW.trod enc Try.prog w base (fun _ => true) held k 3 [v0] = xs[0]? := by
        have e := hf 0 _ rfl
        change DataW.trod enc Try.prog w base (fun _ => true) held k 3 (List.take (Try.prog.cellsOf 3) (List.drop 0 [v0, v1, v2])) = _ at e
        rw [use_cells.2] at e
        exact e
      have h1 : DataW.trod enc Try.prog w base (fun _ => true) held k 3 [v1] = xs[1]? := by
        have e := hf 1 _ rfl
        change DataW.trod enc Try.prog w base (fun _ => true) held k 3 (List.take (Try.prog.cellsOf 3) (List.drop 1 [v0, v1, v2])) = _ at e
        rw [use_cells.2] at e
        exact e
      have h2 : DataW.trod enc Try.prog w base (fun _ => true) held k 3 [v2] = xs[2]? := by
        have e := hf 2 _ rfl
        change DataW.trod enc Try.prog w base (fun _ => true) held k 3 (List.take (Try.prog.cellsOf 3) (List.drop 2 [v0, v1, v2])) = _ at e
        rw [use_cells.2] at e
        exact e
      have x0 : xs[0]? = some (xs[0]'(by rw [hlen]; decide)) := List.getElem?_eq_getElem _
      have x1 : xs[1]? = some (xs[1]'(by rw [hlen]; decide)) := List.getElem?_eq_getElem _
      have x2 : xs[2]? = some (xs[2]'(by rw [hlen]; decide)) := List.getElem?_eq_getElem _
      obtain ⟨n0, e0, _, _⟩ := DataW.trod_int Try.underlying3 (h0.trans x0)
      obtain ⟨n1, e1, _, _⟩ := DataW.trod_int Try.underlying3 (h1.trans x1)
      obtain ⟨n2, e2, _, _⟩ := DataW.trod_int Try.underlying3 (h2.trans x2)
      simp at e0 e1 e2
      subst e0 e1 e2
      have c0 := hat 0 (by omega)
      have c1 := hat 1 (by omega)
      have c2 := hat 2 (by omega)
      obtain ⟨b, off, spot⟩ := ad
      have hs : spot = none := hsp (by omega)
      subst hs
      simp only [add_none_] at c0 c1 c2
      exact ⟨⟨n0, n1, n2⟩, b, off, rfl, by simpa using c0, by simpa using c1, by simpa using c2⟩
    obtain ⟨f, hf⟩ := choose_lt each
    refine ⟨(List.range len).map f, by simp, fun i a hia => ?_, hl, by omega⟩
    rw [List.getElem?_map] at hia
    by_cases hil : i < len
    · rw [List.getElem?_range hil] at hia
      have : f i = a := by simpa using hia
      subst this
      exact hf i hil
    · rw [List.getElem?_eq_none (by simpa using hil)] at hia
      cases hia
end Rk
end Go.Proofs.Ytpaklljcbmimfaa
