/-
  CONTRACT of hansekeep.SpoilBytes: a row of the call's own is written over, nothing else.
-/
import Derived.Test.YtekleamkpfeifaaDoorKeepBytes
namespace Go.Proofs.YtekleamkpfeifaaDoor
open Go.RowKit
theorem own_set {k : IntKind} {w : World} {e : TypeId} {g n c : Nat} {xs : List Int} (h : w.ownsRow 0 e 1 (.slice (some ⟨g, 0, none⟩) n c) n (xs.map (Value.int k))) (j : Nat) (x : Int) :
    (w.setCell ⟨g, j, none⟩ (.int k x)).ownsRow 0 e 1 (.slice (some ⟨g, 0, none⟩) n c) n ((xs.set j x).map (Value.int k)) := by
  rw [List.map_set]
  exact (h.stored j (.int k x)).1
set_option maxRecDepth 100000 in
set_option maxHeartbeats 1000000 in
theorem spoil_any (v : Value) (xs : List Int) (w : World) (hown : w.ownsRow 0 5 1 v xs.length (xs.map (Value.int .u8))) (hlen : xs.length ≤ 70368744177664) :
    Calls Tryd.prog 27 #[v] w fun r w' => r = .returned (.tuple #[]) ∧ Moved w w' (rowOf v) := by
  rcases hown.2 with ⟨rfl, h0⟩ | ⟨g, cap, cur, rfl, _⟩
  · clear hown
    go_enter Tryd.func27, Tryd.ntmps27
    go_wp2
    refine wp_loop_rounds 1 ?_
    rw [rounds_succ]
    go_wp2
    go_end0
    exact ⟨rfl, Moved.refl _ _⟩
  · have HO := Lib.hid hown
    clear hown
    go_enter Tryd.func27, Tryd.ntmps27
    go_wp2
    go_loopw [2] (fun i wr => ∃ (k : Nat) (ys : List Int), i = .int .i64 k ∧ k ≤ xs.length ∧ Hid (ys.length = xs.length) ∧ wr.ownsRow 0 5 1 (.slice (some ⟨g, 0, none⟩) xs.length cap) xs.length (ys.map (Value.int .u8)) ∧ Moved w wr [g]) (fun i _ => xs.length - (intOf i).toNat)
    case atStart => exact ⟨0, xs, rfl, by omega, rfl, HO.out, Moved.refl _ _⟩
    case round =>
      obtain ⟨k, ys, rfl, hk, hl, hown, hM⟩ := hrel
      have HM := Lib.hid hM
      have HO2 := Lib.hid hown
      clear hM
      by_cases hlt : k < xs.length
      · obtain ⟨y, hy⟩ : ∃ y, ys[k]? = some y := ⟨ys[k]'(by rw [hl.out]; exact hlt), List.getElem?_eq_getElem _⟩
        have hc : wr.cell? ⟨g, k, none⟩ = some (.int .u8 y) := by
          rw [hown.cellAt k (by omega), List.getElem?_map, hy]; rfl
        have hf := hown.frozenAt k
        clear hown hy
        go_wp2
        go_roundw
        case rel => exact ⟨k + 1, _, by go_num, by omega, (List.length_set ..).trans hl.out, own_set HO2.out k _, HM.out.setCell (p := ⟨g, k, none⟩) (.inl (by simp)) _⟩
        case measure => simp [intOf]; omega
      · clear hown
        go_wp2
        go_end0
        exact ⟨rfl, HM.out.mono (fun k hk => by simp at hk; subst hk; simp [mem_rowOf, Value.ownBlock])⟩
end Go.Proofs.YtekleamkpfeifaaDoor
