/-
  WHAT THE FORM TELLS of a slice of hanselaw07.Act that came in, in the walks' words.
-/
import Derived.Test.YtekleamkpfeifaaDoorLogActs
import Derived.Test.YtekleamkpfeifaaDoorBytesOpen
import Derived.Deep.Matrix
import Derived.ChangeSame
namespace Go.Proofs.YtekleamkpfeifaaDoor
namespace Lg
open Go.RowKit Dk Go.ChangeShapes Go.WideShapes Go.Deep
/-- A slice of acts that came in. -/
def AreDeeds (w : World) (a : Option Addr) (len cap : Nat) : Prop := ∃ ds : List Deed, ds.length = len ∧ Deeds w a ds ∧ len ≤ cap ∧ cap ≤ 9223372036854775807
instance : Inhabited Deed := ⟨⟨0, 0, []⟩⟩
theorem three {cs : List Value} (h : cs.length = 3) : ∃ x y z, cs = [x, y, z] := by
  match cs, h with
  | [x, y, z], _ => exact ⟨x, y, z, rfl⟩
theorem deed_cells : Tryd.prog.cellsOf 34 = 3 ∧ Tryd.prog.cellsOf 3 = 1 ∧ Tryd.prog.cellsOf 27 = 1 ∧ Tryd.prog.cellsOf 5 = 1 := ⟨by kernel_rfl, by kernel_rfl, by kernel_rfl, by kernel_rfl⟩
theorem int_wf {n : Int} (h : (Lit.int .i64 n).wf = true) : -9223372036854775808 ≤ n ∧ n ≤ 9223372036854775807 := by
  simp [Lit.wf, IntKind.min, IntKind.max, IntKind.signed, IntKind.bits] at h
  omega
theorem was_open {H : Type} {enc : TypeId × Value → H} {w : World} {base : Nat} {held : Bool} {fuel : Nat} {v : Value} {x : DataW H × List MemPlace} (h : DataW.trod enc Tryd.prog w base (fun _ => true) held fuel 27 [v] = some x) :
    ∃ B c ys, v = .slice B ys.length c ∧ Was w B ys.length c ys := by
  rcases open_ints Tryd.underlying27 Tryd.underlying5 deed_cells.2.2.2 h with ⟨hcs, _⟩ | ⟨y, l, c, zs, hcs, _, hl, hm, hz, _, hcell, hwz⟩
  · simp at hcs
    subst hcs
    exact ⟨none, 0, [], rfl, NRow.none_ _ _ _, rfl, fun _ => rfl, ⟨by simp, by omega⟩, ByteList.nil⟩
  · simp at hcs
    subst hcs
    simp only [if_true] at hz
    unfold maxLen at hm
    have hlen : (zs.take l).length = l := by rw [List.length_take]; omega
    exact ⟨some y, c, zs.take l, by rw [hlen], NRow.of_cells (by omega) hcell, rfl, fun h => (by cases h), by rw [hlen]; omega, fun n hn => byte_wf (hwz n (List.mem_of_mem_take hn))⟩
theorem deeds_open {H : Type} {enc : TypeId × Value → H} {w : World} {base : Nat} {held : Bool} {fuel : Nat} {a : Option Addr} {len cap : Nat} {x : DataW H × List MemPlace}
    (h : DataW.trod enc Tryd.prog w base (fun _ => true) held fuel 22 [.slice a len cap] = some x) : AreDeeds w a len cap := by
  rcases open_slice Tryd.underlying22 h with ⟨hcs, _⟩ | ⟨ad, l, c, m, n, Dd, Pl, hcs, _, hl, hm, hmm, _, hi⟩
  · simp at hcs
    obtain ⟨rfl, rfl, rfl⟩ := hcs
    exact ⟨[], rfl, fun i a hi => by simp at hi, Nat.le_refl _, by omega⟩
  · simp at hcs
    obtain ⟨rfl, rfl, rfl⟩ := hcs
    simp only [if_true] at hmm
    subst hmm
    unfold maxLen at hm
    have hsp : 0 < len → ad.spot = none := fun h0 => by
      obtain ⟨cs', hc, _⟩ := hi 0 (by omega)
      rw [deed_cells.1] at hc
      obtain ⟨_, hcl, hat⟩ := World.cells?_some hc
      have c0 := hat 0 (by omega)
      obtain ⟨v0, v1, v2, rfl⟩ := three hcl
      have c0 : w.cell? ((ad.add (0 * 3)).add 0) = some v0 := c0
      simpa [Addr.add] using World.cell?_spot c0
    have each : ∀ i, i < len → ∃ y : Deed, ∃ b off B c, (some ad : Option Addr) = some ⟨b, off, none⟩ ∧ w.cell? ⟨b, off + i * 3, none⟩ = some (.int .i64 y.d) ∧ w.cell? ⟨b, off + i * 3 + 1, none⟩ = some (.int .i64 y.k) ∧
        w.cell? ⟨b, off + i * 3 + 2, none⟩ = some (.slice B y.ys.length c) ∧ Was w B y.ys.length c y.ys ∧ -9223372036854775808 ≤ y.k ∧ y.k ≤ 9223372036854775807 := by
      intro i hil
      obtain ⟨cs', hc, ht⟩ := hi i (by omega)
      rw [deed_cells.1] at hc
      obtain ⟨_, hcl, hat⟩ := World.cells?_some hc
      obtain ⟨v0, v1, v2, rfl⟩ := three hcl
      obtain ⟨xs, k, _, _, _, hlen, hf⟩ := DataW.trod_struct Tryd.underlying34 ht
      have h0 : DataW.trod enc Tryd.prog w base (fun _ => true) held k 3 [v0] = xs[0]? := by
        have e := hf 0 _ rfl
        change DataW.trod enc Tryd.prog w base (fun _ => true) held k 3 (List.take (Tryd.prog.cellsOf 3) (List.drop 0 [v0, v1, v2])) = _ at e
        rw [deed_cells.2.1] at e
        exact e
      have h1 : DataW.trod enc Tryd.prog w base (fun _ => true) held k 3 [v1] = xs[1]? := by
        have e := hf 1 _ rfl
        change DataW.trod enc Tryd.prog w base (fun _ => true) held k 3 (List.take (Tryd.prog.cellsOf 3) (List.drop 1 [v0, v1, v2])) = _ at e
        rw [deed_cells.2.1] at e
        exact e
      have h2 : DataW.trod enc Tryd.prog w base (fun _ => true) held k 27 [v2] = xs[2]? := by
        have e := hf 2 _ rfl
        change DataW.trod enc Tryd.prog w base (fun _ => true) held k 27 (List.take (Tryd.prog.cellsOf 27) (List.drop 2 [v0, v1, v2])) = _ at e
        rw [deed_cells.2.2.1] at e
        exact e
      have x0 : xs[0]? = some (xs[0]'(by rw [hlen]; decide)) := List.getElem?_eq_getElem _
      have x1 : xs[1]? = some (xs[1]'(by rw [hlen]; decide)) := List.getElem?_eq_getElem _
      have x2 : xs[2]? = some (xs[2]'(by rw [hlen]; decide)) := List.getElem?_eq_getElem _
      obtain ⟨n0, e0, _, _⟩ := DataW.trod_int Tryd.underlying3 (h0.trans x0)
      obtain ⟨n1, e1, _, w1⟩ := DataW.trod_int Tryd.underlying3 (h1.trans x1)
      obtain ⟨B, cb, ys, rfl, hw⟩ := was_open (h2.trans x2)
      simp at e0 e1
      subst e0 e1
      have c0 := hat 0 (by omega)
      have c1 := hat 1 (by omega)
      have c2 := hat 2 (by omega)
      obtain ⟨b, off, spot⟩ := ad
      have hs : spot = none := hsp (by omega)
      subst hs
      simp only [add_none_] at c0 c1 c2
      exact ⟨⟨n0, n1, ys⟩, b, off, B, cb, rfl, by simpa using c0, by simpa using c1, by simpa using c2, hw, int_wf w1⟩
    obtain ⟨f, hf⟩ := choose_lt each
    refine ⟨(List.range len).map f, by simp, fun i a hia => ?_, hl, by omega⟩
    rw [List.getElem?_map] at hia
    by_cases hil : i < len
    · rw [List.getElem?_range hil] at hia
      have : f i = a := by simpa using hia
      subst this
      exact hf i hil
    · rw [List.getElem?_eq_none (by simpa using hil)] at hia
      cases hia
end Lg
end Go.Proofs.YtekleamkpfeifaaDoor
