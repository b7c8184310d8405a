/-
  CONTRACT of the library's slices.Reverse over a row of slices of bytes that the call itself made.
-/
import Derived.Test.YtekleamkpfeifaaDoorLogOwn
namespace Go.Proofs.YtekleamkpfeifaaDoor
namespace Lg
open Go.RowKit
/-- The first k and the last k have changed places. -/
def RevIs (k : Nat) (vs us : List Value) : Prop := us.length = vs.length ∧ ∀ i, i < vs.length → us[i]? = if i < k ∨ vs.length ≤ i + k then vs[vs.length - 1 - i]? else vs[i]?
theorem rev_start (vs : List Value) : RevIs 0 vs vs := ⟨rfl, fun i hi => by rw [if_neg (by omega)]⟩
theorem rev_end {k : Nat} {vs us : List Value} (h : RevIs k vs us) (hk : vs.length ≤ 2 * k + 1) : us = vs.reverse := by
  apply List.ext_getElem?
  intro i
  by_cases hi : i < vs.length
  · rw [h.2 i hi, List.getElem?_reverse hi]
    split
    · rfl
    · rw [show vs.length - 1 - i = i by omega]
  · rw [List.getElem?_eq_none (by rw [h.1]; omega), List.getElem?_eq_none (by simp; omega)]
theorem rev_step {k : Nat} {vs us : List Value} {x y : Value} (h : RevIs k vs us) (hk : 2 * k + 1 < vs.length) (hx : us[k]? = some x) (hy : us[vs.length - 1 - k]? = some y) : RevIs (k + 1) vs ((us.set k y).set (vs.length - 1 - k) x) := by
  refine ⟨by simp [h.1], fun i hi => ?_⟩
  have e1 := h.2 k (by omega)
  have e2 := h.2 (vs.length - 1 - k) (by omega)
  rw [if_neg (by omega), hx] at e1
  rw [if_neg (by omega), hy] at e2
  rw [List.getElem?_set, List.getElem?_set]
  by_cases h1 : vs.length - 1 - k = i
  · rw [if_pos h1, if_pos (by simp [h.1]; omega), if_pos (by omega), ← h1, show vs.length - 1 - (vs.length - 1 - k) = k by omega, e1]
  · rw [if_neg h1]
    by_cases h2 : k = i
    · rw [if_pos h2, if_pos (by rw [h.1]; omega), if_pos (by omega), ← h2, e2]
    · rw [if_neg h2, h.2 i hi]
      by_cases h3 : i < k ∨ vs.length ≤ i + k
      · rw [if_pos h3, if_pos (by omega)]
      · rw [if_neg h3, if_neg (by omega)]
set_option maxRecDepth 100000 in
set_option maxHeartbeats 1000000 in
theorem reverse_any (g n c : Nat) (vs : List Value) (w : World) (hO : w.ownsRow 0 27 1 (.slice (some ⟨g, 0, none⟩) n c) n vs) (hsl : ∀ u ∈ vs, ∃ A m d, u = .slice A m d) (h0 : 0 < n) (hn : n ≤ 1099511627776) :
    Calls Tryd.prog 57 #[.slice (some ⟨g, 0, none⟩) n c] w fun r w' => r = .returned (.tuple #[]) ∧ w'.ownsRow 0 27 1 (.slice (some ⟨g, 0, none⟩) n c) n vs.reverse ∧ Moved w w' [g] := by
  have HL := Lib.hid (show vs.length = n by simpa using hO.1)
  have HO := Lib.hid hO
  have HSL := Lib.hid hsl
  have e0 : IntKind.i64.wrap ((n : Int) - 1) = ((n - 1 : Nat) : Int) := by rw [IntWalk.i64_in _ (by omega)]; omega
  clear hO hsl
  go_enter Tryd.func57, Tryd.ntmps57
  go_wp2
  go_loopw [2, 3] (fun iv jv wr => ∃ (k j : Nat) (us : List Value), iv = .int .i64 k ∧ jv = .int .i64 j ∧ k + j + 1 = n ∧ 2 * k ≤ n ∧ Hid (RevIs k vs us) ∧ wr.ownsRow 0 27 1 (.slice (some ⟨g, 0, none⟩) n c) n us ∧ Moved w wr [g]) (fun iv _ _ => n - (intOf iv).toNat)
  case atStart => exact ⟨0, n - 1, vs, rfl, by first | rfl | go_num, by omega, by omega, rev_start vs, HO.out, Moved.refl _ _⟩
  case round =>
    obtain ⟨k, j, us, rfl, rfl, hkj, hk2, H, hO, hM⟩ := hrel
    have HO1 := Lib.hid hO
    have HM1 := Lib.hid hM
    have HUL := Lib.hid (show us.length = n by simpa using hO.1)
    clear hO hM
    by_cases hlt : k < j
    · obtain ⟨x, hx⟩ : ∃ x, us[k]? = some x := ⟨us[k]'(by rw [HUL.out]; omega), List.getElem?_eq_getElem _⟩
      obtain ⟨y, hy⟩ : ∃ y, us[j]? = some y := ⟨us[j]'(by rw [HUL.out]; omega), List.getElem?_eq_getElem _⟩
      have hsu : ∀ u ∈ us, ∃ A m d, u = .slice A m d := by
        intro u hu
        obtain ⟨i, hi⟩ := List.mem_iff_getElem?.1 hu
        have hil : i < vs.length := by have := (List.getElem?_eq_some_iff.1 hi).1; rw [HUL.out] at this; rw [HL.out]; exact this
        have h := H.out.2 i hil
        rw [hi] at h
        split at h
        · exact HSL.out u (List.mem_of_getElem? h.symm)
        · exact HSL.out u (List.mem_of_getElem? h.symm)
      obtain ⟨Ax, nx, cx, rfl⟩ := hsu x (List.mem_of_getElem? hx)
      obtain ⟨Ay, ny, cy, rfl⟩ := hsu y (List.mem_of_getElem? hy)
      have HR := Lib.hid (rev_step H.out (by rw [HL.out]; omega) hx (by rw [HL.out, show n - 1 - k = j by omega]; exact hy))
      rw [HL.out, show n - 1 - k = j by omega] at HR
      have hx1 : wr.cell? ⟨g, k, none⟩ = some (.slice Ax nx cx) := by rw [HO1.out.cellAt k (by omega)]; exact hx
      have hy1 : wr.cell? ⟨g, j, none⟩ = some (.slice Ay ny cy) := by rw [HO1.out.cellAt j (by omega)]; exact hy
      have f1 := HO1.out.frozenAt k
      have hO2 := (HO1.out.stored k (.slice Ay ny cy)).1
      have hy2 : (wr.setCell ⟨g, k, none⟩ (.slice Ay ny cy)).cell? ⟨g, j, none⟩ = some (.slice Ay ny cy) := by rw [hO2.cellAt j (by omega), List.getElem?_set, if_neg (by omega)]; exact hy
      have f2 := hO2.frozenAt j
      have e1 : IntKind.i64.wrap ((j : Int) - 1) = ((j - 1 : Nat) : Int) := by rw [IntWalk.i64_in _ (by omega)]; omega
      have HO3 := Lib.hid (hO2.stored j (.slice Ax nx cx)).1
      clear hsu hx hy H hO2
      go_wp2
      go_region
      go_wp2
      go_roundw
      case rel => exact ⟨k + 1, j - 1, _, by go_num, rfl, by omega, by omega, HR.out, own_stays HO3.out (fun _ _ => rfl), ((HM1.out.setCell (p := ⟨g, k, none⟩) (.inl (by simp)) _).setCell (p := ⟨g, j, none⟩) (.inl (by simp)) _).drew⟩
      case measure => simp [intOf]; omega
    · have HE := Lib.hid (rev_end H.out (by rw [HL.out]; omega))
      go_wp2
      go_end0
      exact ⟨rfl, by rw [← HE.out]; exact HO1.out, HM1.out⟩
end Lg
end Go.Proofs.YtekleamkpfeifaaDoor
