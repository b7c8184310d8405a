/-
  CONTRACTS of the statements' helpers Ints (the same numbers?) and TwinInts (the same numbers in new memory).
-/
import Derived.Test.YtmaoemedodpebaaDoorRows
import Derived.Test.YtmaoemedodpebaaDoorWords
import Derived.Deep.QuietTactic
import Derived.BigQuiet
namespace Go.Proofs.YtmaoemedodpebaaDoor
open Go.RowKit
set_option maxHeartbeats 400000 in
theorem ints_same (A B : Option Addr) (c d : Nat) (xs : List Int) (w : World) (hA : IRow w A xs) (hB : IRow w B xs) (hlen : xs.length ≤ 9223372036854775807) :
    Calls Tryd.prog 14 #[.slice A xs.length c, .slice B xs.length d] w fun e w' => e = .returned (.bool true) ∧ ∃ n, w' = w.drewN n := by
  go_enter Tryd.func14, Tryd.ntmps14
  go_wp2
  go_loopw [5] (fun i wr => ∃ (k n : Nat), k ≤ xs.length ∧ i = .int .i64 k ∧ wr = w.drewN n) (fun i _ => xs.length - (intOf i).toNat)
  case atStart => exact ⟨0, 0, by omega, rfl, rfl⟩
  case round =>
    obtain ⟨k, n, hk, rfl, rfl⟩ := hrel
    by_cases hlt : k < xs.length
    · obtain ⟨x, hx⟩ : ∃ x, xs[k]? = some x := ⟨xs[k], List.getElem?_eq_getElem hlt⟩
      obtain ⟨b, off, rfl, hc⟩ := hA k x hx
      obtain ⟨b', off', rfl, hc'⟩ := hB k x hx
      clear hx
      go_wp2
      go_quiet (fail)
      go_wp2
      go_roundw
      case rel => exact ⟨k + 1, _, by omega, by go_num, rfl⟩
      case measure => simp [intOf]; omega
    · go_wp2
      go_ret
      exact ⟨rfl, n, rfl⟩

theorem info_int : (Tryd.prog.info? 3).map (fun i => (i.zero, i.size, i.bytes)) = some (some (.int .i64 0), 1, 8) := by kernel_rfl

set_option maxHeartbeats 400000 in
theorem twinInts_any (A : Option Addr) (c : Nat) (xs : List Int) (w : World) (hA : IRow w A xs) (hz : A = none → c = 0) (hlen : xs.length * 8 ≤ 140737488351232) :
    Calls Tryd.prog 11 #[.slice A xs.length c] w fun e w' => ∃ v, e = .returned v ∧ w'.ownsRow w.heap.size 3 1 v xs.length (xs.map (Value.int .i64)) ∧ Below w.heap.size w w' := by
  obtain ⟨i0, hi, hz0, hz1, hz2⟩ := info_parts info_int
  rcases A with _ | ad
  · have hxs : xs = [] := by
      rcases xs with _ | ⟨x, r⟩
      · rfl
      · obtain ⟨_, _, h, _⟩ := hA 0 x (by simp)
        cases h
    subst hxs
    obtain rfl := hz rfl
    go_enter Tryd.func11, Tryd.ntmps11
    go_wp2_with (at_builtin; refine wpList_append_own_none rfl _ _ 22 rfl w.heap.size 3 i0 1 Tryd.underlying22 hi _ _ _ rfl (World.ownsRow_nil _ _ _ _) rfl ?_)
    go_ret
    exact ⟨_, rfl, World.ownsRow_nil _ _ _ _, Below.refl _ _⟩
  · have hnews : ∀ (j : Nat) (u : Value), (xs.map (Value.int .i64))[j]? = some u → w.cell? (ad.add j) = some u := by
      intro j u hu
      rw [List.getElem?_map] at hu
      rcases hx : xs[j]? with _ | x
      · rw [hx] at hu; cases hu
      · rw [hx] at hu
        obtain ⟨b, off, e, hc⟩ := hA j x hx
        obtain rfl : ad = ⟨b, off, none⟩ := by injection e
        rw [add_none]
        rw [hc]; exact hu
    have h1 : ∀ u ∈ xs.map (Value.int .i64), u.oneCell' = true := by
      intro u hu
      rw [List.mem_map] at hu
      obtain ⟨x, _, rfl⟩ := hu
      rfl
    have hb1 : xs.length ≤ maxLen := by unfold maxLen; omega
    have HN := Lib.hid hnews
    have H1 := Lib.hid h1
    clear hnews h1
    go_enter Tryd.func11, Tryd.ntmps11
    go_wp2_with (at_builtin; refine wpList_append_own _ rfl _ _ 22 rfl w.heap.size 3 i0 (.int .i64 0) 1 8 Tryd.underlying22 hi hz0 hz1 hz2 rfl (by decide) _ _ _ rfl (World.ownsRow_nil _ _ _ _) ad xs.length c (xs.map (Value.int .i64)) rfl (by simp) HN.out H1.out (by simpa using hb1) (by omega) (Nat.le_refl _) ?_; intro v' w' hown hgrow _)
    go_ret
    have hg' : w.grownBy w' none := hgrow
    exact ⟨_, rfl, by simpa using hown, (Below.refl _ _).grown hg' (Nat.le_refl _) (by intro k hk; cases hk)⟩
end Go.Proofs.YtmaoemedodpebaaDoor
