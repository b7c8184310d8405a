/-
  A row of bytes of the call's own, whatever mark it bears behind its bytes (what '[]byte(s)' makes); CONTRACT of hansekeep.SpoilBytes over such a row.
-/
import Derived.Test.YtekleamkpfeifaaDoorKeepSpoil
import Derived.Test.YtekleamkpfeifaaDoorTextPlain
import Derived.Laws.IdiomStrings
namespace Go.Proofs.YtekleamkpfeifaaDoor
open Go.RowKit

set_option maxRecDepth 100000 in
set_option maxHeartbeats 1000000 in
theorem tspoil_any (v : Value) (n : Nat) (xs : List Int) (w : World) (hown : TRow w v n xs) (hlen : n ≤ 70368744177664) :
    Calls Tryd.prog 27 #[v] w fun r w' => r = .returned (.tuple #[]) ∧ Moved w w' (rowOf v) := by
  rcases hown.2 with ⟨rfl, h0⟩ | ⟨g, cap, cur, fz, rfl, _⟩
  · clear hown
    go_enter Tryd.func27, Tryd.ntmps27
    go_wp2
    refine wp_loop_rounds 1 ?_
    rw [rounds_succ]
    go_wp2
    go_end0
    exact ⟨rfl, Moved.refl _ _⟩
  · have HO := Lib.hid hown
    have HL := Lib.hid hown.1
    clear hown
    go_enter Tryd.func27, Tryd.ntmps27
    go_wp2
    go_loopw [2] (fun i wr => ∃ (k : Nat) (ys : List Int), i = .int .i64 k ∧ k ≤ n ∧ Hid (ys.length = n) ∧ TRow wr (.slice (some ⟨g, 0, none⟩) n cap) n ys ∧ Moved w wr [g]) (fun i _ => n - (intOf i).toNat)
    case atStart => exact ⟨0, xs, rfl, by omega, HL.out, HO.out, Moved.refl _ _⟩
    case round =>
      obtain ⟨k, ys, rfl, hk, hl, hown, hM⟩ := hrel
      have HM := Lib.hid hM
      have HO2 := Lib.hid hown
      clear hM
      by_cases hlt : k < n
      · obtain ⟨y, hy⟩ : ∃ y, ys[k]? = some y := ⟨ys[k]'(by rw [hl.out]; exact hlt), List.getElem?_eq_getElem _⟩
        have hc := t_cell hown hy
        have hf := t_free hown hlt
        clear hown hy
        go_wp2
        go_roundw
        case rel => exact ⟨k + 1, _, by go_num, by omega, (List.length_set ..).trans hl.out, t_set HO2.out _, HM.out.setCell (p := ⟨g, k, none⟩) (.inl (by simp)) _⟩
        case measure => simp [intOf]; omega
      · clear hown
        go_wp2
        go_end0
        exact ⟨rfl, HM.out.mono (fun k hk => by simp at hk; subst hk; simp [mem_rowOf, Value.ownBlock])⟩
end Go.Proofs.YtekleamkpfeifaaDoor
