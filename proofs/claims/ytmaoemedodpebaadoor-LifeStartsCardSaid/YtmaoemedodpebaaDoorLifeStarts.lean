/-
  THE WALK of LifeStarts.
-/
import Derived.Test.YtmaoemedodpebaaDoorLifeWakes
namespace Go.Proofs.YtmaoemedodpebaaDoor
namespace Lf
open Go.RowKit
theorem kept_cell {w w' : World} {p : Addr} {v : Value} (hM : Moved w w' []) (hc : w.cell? p = some v) : w'.cell? p = some v := by
  rw [World.cell?_of_block (w := w) (hM.block p.block (World.block_lt_of_cell? w _ hc) (fun h => by cases h))]; exact hc
def Inv (st : Int) (started led : Bool) : Prop := (started = true → st = 0 ∨ st = 6 ∨ st = 7) ∧ (st = 2 ∨ st = 5 → led = true)
set_option maxRecDepth 100000 in
set_option maxHeartbeats 4000000 in
theorem starts_any (L : LfLaws) (A : Option Addr) (n c : Nat) (xs : List Int) (w : World) (hld : Ld w) (hA : IRow w A xs) (hl : xs.length = n) (hn : n ≤ 9223372036854775807) :
    Calls Tryd.prog 6 #[.slice A n c] w fun e w' => e = .returned (.bool true) ∧ Moved w w' [] := by
  have HLD := Lib.hid hld
  clear hld
  have HA := Lib.hid hA
  have HL := Lib.hid hl
  clear hA hl
  by_cases hbig : 2000 < n
  · go_enter Tryd.func6, Tryd.ntmps6
    go_wp2
    go_ret
    exact ⟨rfl, Moved.refl _ _⟩
  · go_enter Tryd.func6, Tryd.ntmps6
    go_wp2
    go_loopw [3, 4, 5, 6] (fun s t d i wr => ∃ (k : Nat) (st : Int) (started led : Bool), s = .int .i64 st ∧ t = .bool started ∧ d = .bool led ∧ i = .int .i64 k ∧ k ≤ n ∧ Hid (Inv st started led) ∧ Moved w wr []) (fun _ _ _ i _ => n - (intOf i).toNat)
    case atStart => exact ⟨0, 0, false, false, rfl, rfl, rfl, rfl, by omega, ⟨fun h => (by cases h), fun h => by omega⟩, Moved.refl _ _⟩
    case round =>
      obtain ⟨k, st, started, led, rfl, rfl, rfl, rfl, hk, HI, hM⟩ := hrel
      have HM := Lib.hid hM
      clear hM
      by_cases hlt : k < n
      · obtain ⟨x, hx⟩ : ∃ x, xs[k]? = some x := ⟨xs[k]'(by rw [HL.out]; exact hlt), List.getElem?_eq_getElem _⟩
        obtain ⟨b, off, rfl, hc⟩ := (irow_moved HA.out HM.out) k x hx
        clear hx
        cases hn : nxt st x with
        | none =>
          have HN := Lib.hid hn
          clear hn
          go_wp2_with (go_at_call 9; refine (L.next_no _ HN.out (by exact HLD.out.moved HM.out)).mono ?_; rintro e w1 ⟨rfl, hM1⟩; have HM1 := Lib.hid (HM.out.trans hM1 (fun _ h => by cases h)); clear hM1)
          go_roundw
          case rel => exact ⟨k + 1, st, started, led, rfl, rfl, rfl, by go_num, by omega, HI.out, HM1.out⟩
          case measure => simp [intOf]; omega
        | some t =>
          have HN := Lib.hid hn
          have hmem := nxt_mem hn
          clear hn
          simp only [table, List.mem_cons, Prod.mk.injEq, List.not_mem_nil, or_false] at hmem
          have HI0 := HI.out
          rcases hmem with ⟨rfl, rfl, rfl⟩ | ⟨rfl, rfl, rfl⟩ | ⟨rfl, rfl, rfl⟩ | ⟨rfl, rfl, rfl⟩ | ⟨rfl, rfl, rfl⟩ | ⟨rfl, rfl, rfl⟩ | ⟨rfl, rfl, rfl⟩ | ⟨rfl, rfl, rfl⟩ | ⟨rfl, rfl, rfl⟩ | ⟨rfl, rfl, rfl⟩ | ⟨rfl, rfl, rfl⟩ | ⟨rfl, rfl, rfl⟩ | ⟨rfl, rfl, rfl⟩ | ⟨rfl, rfl, rfl⟩ | ⟨rfl, rfl, rfl⟩
          · clear HI0
            go_wp2_with (go_at_call 9; refine (L.next_yes _ HN.out (by exact HLD.out.moved HM.out)).mono ?_; rintro e w1 ⟨rfl, hM1⟩; have hc1 := kept_cell hM1 hc; have HM1 := Lib.hid (HM.out.trans hM1 (fun _ h => by cases h)); clear hM1)
            go_roundw
            case rel => exact ⟨k + 1, _, _, _, rfl, rfl, rfl, by go_num, by omega, ⟨fun h => (by first | omega | (cases h)), fun h => (by first | rfl | omega)⟩, HM1.out⟩
            case measure => simp [intOf]; omega
          · obtain rfl : started = false := by
              cases started
              · rfl
              · have := HI0.1 rfl; omega
            clear HI0
            go_wp2_with (go_at_call 9; refine (L.next_yes _ HN.out (by exact HLD.out.moved HM.out)).mono ?_; rintro e w1 ⟨rfl, hM1⟩; have hc1 := kept_cell hM1 hc; have HM1 := Lib.hid (HM.out.trans hM1 (fun _ h => by cases h)); clear hM1)
            go_roundw
            case rel => exact ⟨k + 1, _, _, _, rfl, rfl, rfl, by go_num, by omega, ⟨fun h => (by first | omega | (cases h)), fun h => (by first | rfl | omega)⟩, HM1.out⟩
            case measure => simp [intOf]; omega
          · obtain rfl : started = false := by
              cases started
              · rfl
              · have := HI0.1 rfl; omega
            clear HI0
            go_wp2_with (go_at_call 9; refine (L.next_yes _ HN.out (by exact HLD.out.moved HM.out)).mono ?_; rintro e w1 ⟨rfl, hM1⟩; have hc1 := kept_cell hM1 hc; have HM1 := Lib.hid (HM.out.trans hM1 (fun _ h => by cases h)); clear hM1)
            go_roundw
            case rel => exact ⟨k + 1, _, _, _, rfl, rfl, rfl, by go_num, by omega, ⟨fun h => (by first | omega | (cases h)), fun h => (by first | rfl | omega)⟩, HM1.out⟩
            case measure => simp [intOf]; omega
          · obtain rfl : started = false := by
              cases started
              · rfl
              · have := HI0.1 rfl; omega
            clear HI0
            go_wp2_with (go_at_call 9; refine (L.next_yes _ HN.out (by exact HLD.out.moved HM.out)).mono ?_; rintro e w1 ⟨rfl, hM1⟩; have hc1 := kept_cell hM1 hc; have HM1 := Lib.hid (HM.out.trans hM1 (fun _ h => by cases h)); clear hM1)
            go_roundw
            case rel => exact ⟨k + 1, _, _, _, rfl, rfl, rfl, by go_num, by omega, ⟨fun h => (by first | omega | (cases h)), fun h => (by first | rfl | omega)⟩, HM1.out⟩
            case measure => simp [intOf]; omega
          · obtain rfl : started = false := by
              cases started
              · rfl
              · have := HI0.1 rfl; omega
            clear HI0
            go_wp2_with (go_at_call 9; refine (L.next_yes _ HN.out (by exact HLD.out.moved HM.out)).mono ?_; rintro e w1 ⟨rfl, hM1⟩; have hc1 := kept_cell hM1 hc; have HM1 := Lib.hid (HM.out.trans hM1 (fun _ h => by cases h)); clear hM1)
            go_roundw
            case rel => exact ⟨k + 1, _, _, _, rfl, rfl, rfl, by go_num, by omega, ⟨fun h => (by first | omega | (cases h)), fun h => (by first | rfl | omega)⟩, HM1.out⟩
            case measure => simp [intOf]; omega
          · obtain rfl : started = false := by
              cases started
              · rfl
              · have := HI0.1 rfl; omega
            obtain rfl : led = true := HI0.2 (by omega)
            clear HI0
            go_wp2_with (go_at_call 9; refine (L.next_yes _ HN.out (by exact HLD.out.moved HM.out)).mono ?_; rintro e w1 ⟨rfl, hM1⟩; have hc1 := kept_cell hM1 hc; have HM1 := Lib.hid (HM.out.trans hM1 (fun _ h => by cases h)); clear hM1)
            go_roundw
            case rel => exact ⟨k + 1, _, _, _, rfl, rfl, rfl, by go_num, by omega, ⟨fun h => (by first | omega | (cases h)), fun h => (by first | rfl | omega)⟩, HM1.out⟩
            case measure => simp [intOf]; omega
          · obtain rfl : started = false := by
              cases started
              · rfl
              · have := HI0.1 rfl; omega
            obtain rfl : led = true := HI0.2 (by omega)
            clear HI0
            go_wp2_with (go_at_call 9; refine (L.next_yes _ HN.out (by exact HLD.out.moved HM.out)).mono ?_; rintro e w1 ⟨rfl, hM1⟩; have hc1 := kept_cell hM1 hc; have HM1 := Lib.hid (HM.out.trans hM1 (fun _ h => by cases h)); clear hM1)
            go_roundw
            case rel => exact ⟨k + 1, _, _, _, rfl, rfl, rfl, by go_num, by omega, ⟨fun h => (by first | omega | (cases h)), fun h => (by first | rfl | omega)⟩, HM1.out⟩
            case measure => simp [intOf]; omega
          · obtain rfl : started = false := by
              cases started
              · rfl
              · have := HI0.1 rfl; omega
            obtain rfl : led = true := HI0.2 (by omega)
            clear HI0
            go_wp2_with (go_at_call 9; refine (L.next_yes _ HN.out (by exact HLD.out.moved HM.out)).mono ?_; rintro e w1 ⟨rfl, hM1⟩; have hc1 := kept_cell hM1 hc; have HM1 := Lib.hid (HM.out.trans hM1 (fun _ h => by cases h)); clear hM1)
            go_roundw
            case rel => exact ⟨k + 1, _, _, _, rfl, rfl, rfl, by go_num, by omega, ⟨fun h => (by first | omega | (cases h)), fun h => (by first | rfl | omega)⟩, HM1.out⟩
            case measure => simp [intOf]; omega
          · obtain rfl : started = false := by
              cases started
              · rfl
              · have := HI0.1 rfl; omega
            clear HI0
            go_wp2_with (go_at_call 9; refine (L.next_yes _ HN.out (by exact HLD.out.moved HM.out)).mono ?_; rintro e w1 ⟨rfl, hM1⟩; have hc1 := kept_cell hM1 hc; have HM1 := Lib.hid (HM.out.trans hM1 (fun _ h => by cases h)); clear hM1)
            go_roundw
            case rel => exact ⟨k + 1, _, _, _, rfl, rfl, rfl, by go_num, by omega, ⟨fun h => (by first | omega | (cases h)), fun h => (by first | rfl | omega)⟩, HM1.out⟩
            case measure => simp [intOf]; omega
          · obtain rfl : started = false := by
              cases started
              · rfl
              · have := HI0.1 rfl; omega
            clear HI0
            go_wp2_with (go_at_call 9; refine (L.next_yes _ HN.out (by exact HLD.out.moved HM.out)).mono ?_; rintro e w1 ⟨rfl, hM1⟩; have hc1 := kept_cell hM1 hc; have HM1 := Lib.hid (HM.out.trans hM1 (fun _ h => by cases h)); clear hM1)
            go_roundw
            case rel => exact ⟨k + 1, _, _, _, rfl, rfl, rfl, by go_num, by omega, ⟨fun h => (by first | omega | (cases h)), fun h => (by first | rfl | omega)⟩, HM1.out⟩
            case measure => simp [intOf]; omega
          · obtain rfl : started = false := by
              cases started
              · rfl
              · have := HI0.1 rfl; omega
            clear HI0
            go_wp2_with (go_at_call 9; refine (L.next_yes _ HN.out (by exact HLD.out.moved HM.out)).mono ?_; rintro e w1 ⟨rfl, hM1⟩; have hc1 := kept_cell hM1 hc; have HM1 := Lib.hid (HM.out.trans hM1 (fun _ h => by cases h)); clear hM1)
            go_roundw
            case rel => exact ⟨k + 1, _, _, _, rfl, rfl, rfl, by go_num, by omega, ⟨fun h => (by first | omega | (cases h)), fun h => (by first | rfl | omega)⟩, HM1.out⟩
            case measure => simp [intOf]; omega
          · obtain rfl : started = false := by
              cases started
              · rfl
              · have := HI0.1 rfl; omega
            obtain rfl : led = true := HI0.2 (by omega)
            clear HI0
            go_wp2_with (go_at_call 9; refine (L.next_yes _ HN.out (by exact HLD.out.moved HM.out)).mono ?_; rintro e w1 ⟨rfl, hM1⟩; have hc1 := kept_cell hM1 hc; have HM1 := Lib.hid (HM.out.trans hM1 (fun _ h => by cases h)); clear hM1)
            go_roundw
            case rel => exact ⟨k + 1, _, _, _, rfl, rfl, rfl, by go_num, by omega, ⟨fun h => (by first | omega | (cases h)), fun h => (by first | rfl | omega)⟩, HM1.out⟩
            case measure => simp [intOf]; omega
          · obtain rfl : started = false := by
              cases started
              · rfl
              · have := HI0.1 rfl; omega
            obtain rfl : led = true := HI0.2 (by omega)
            clear HI0
            go_wp2_with (go_at_call 9; refine (L.next_yes _ HN.out (by exact HLD.out.moved HM.out)).mono ?_; rintro e w1 ⟨rfl, hM1⟩; have hc1 := kept_cell hM1 hc; have HM1 := Lib.hid (HM.out.trans hM1 (fun _ h => by cases h)); clear hM1)
            go_roundw
            case rel => exact ⟨k + 1, _, _, _, rfl, rfl, rfl, by go_num, by omega, ⟨fun h => (by first | omega | (cases h)), fun h => (by first | rfl | omega)⟩, HM1.out⟩
            case measure => simp [intOf]; omega
          · clear HI0
            go_wp2_with (go_at_call 9; refine (L.next_yes _ HN.out (by exact HLD.out.moved HM.out)).mono ?_; rintro e w1 ⟨rfl, hM1⟩; have hc1 := kept_cell hM1 hc; have HM1 := Lib.hid (HM.out.trans hM1 (fun _ h => by cases h)); clear hM1)
            go_roundw
            case rel => exact ⟨k + 1, _, _, _, rfl, rfl, rfl, by go_num, by omega, ⟨fun h => (by first | omega | (cases h)), fun h => (by first | rfl | omega)⟩, HM1.out⟩
            case measure => simp [intOf]; omega
          · clear HI0
            go_wp2_with (go_at_call 9; refine (L.next_yes _ HN.out (by exact HLD.out.moved HM.out)).mono ?_; rintro e w1 ⟨rfl, hM1⟩; have hc1 := kept_cell hM1 hc; have HM1 := Lib.hid (HM.out.trans hM1 (fun _ h => by cases h)); clear hM1)
            go_roundw
            case rel => exact ⟨k + 1, _, _, _, rfl, rfl, rfl, by go_num, by omega, ⟨fun h => (by first | omega | (cases h)), fun h => (by first | rfl | omega)⟩, HM1.out⟩
            case measure => simp [intOf]; omega
      · go_wp2_with (go_at_call 15; refine (wakes_any L _ (by exact HLD.out.moved HM.out)).mono ?_; rintro e w4 ⟨rfl, hM4⟩; have HM4 := Lib.hid (HM.out.trans hM4 (fun _ h => by cases h)); clear hM4)
        go_ret
        exact ⟨rfl, HM4.out⟩
end Lf
end Go.Proofs.YtmaoemedodpebaaDoor
