/-
  CONTRACTS of sort.Search at profile's own question, and of profile.place and profile.end.
-/
import Derived.Test.YtnabnoaephjceaaProfCells
namespace Go.Proofs.Ytnabnoaephjceaa
namespace Pf
open Go.RowKit Am
set_option maxRecDepth 100000 in
theorem asks_any (bl bt : Nat) (A : Option Addr) (c : Nat) (L : List Sp) (t : Nat) (i : Nat) (s : Sp) (w : World) (hs : L[i]? = some s)
    (h1 : w.cell? ⟨bl, 0, none⟩ = some (.slice A L.length c)) (h2 : w.cell? ⟨bt, 0, none⟩ = some (.int .i64 t)) (hA : SRow w A L) :
    Calls Try.prog 48 #[.int .i64 i, .pointer (some ⟨bl, 0, none⟩), .pointer (some ⟨bt, 0, none⟩)] w fun e w' => e = .returned (.bool (decide (t < s.t))) ∧ ∃ k, w' = w.drewN k := by
  obtain ⟨b, off, rfl, hc, -⟩ := hA i s hs
  have hi : i < L.length := (List.getElem?_eq_some_iff.1 hs).1
  obtain ⟨n, hn⟩ : ∃ n, n = L.length := ⟨_, rfl⟩
  rw [← hn] at hi h1
  have hiz : (i : Int) < (n : Int) := by omega
  obtain ⟨u, hu⟩ : ∃ u, u = s.t := ⟨_, rfl⟩
  rw [← hu] at hc ⊢
  clear hn hu hs hA
  go_enter Try.func48, Try.ntmps48
  go_wp2
  go_quiet (fail)
  go_wp2
  go_ret
  exact ⟨by first | rfl | simp, _, rfl⟩
set_option maxRecDepth 100000 in
set_option maxHeartbeats 1000000 in
theorem search_any (bl bt : Nat) (A : Option Addr) (c : Nat) (L : List Sp) (t m : Nat) (w : World) (hl : L.length ≤ 1048576) (hm : Upto L t m)
    (h1 : w.cell? ⟨bl, 0, none⟩ = some (.slice A L.length c)) (h2 : w.cell? ⟨bt, 0, none⟩ = some (.int .i64 t)) (hA : SRow w A L) :
    Calls Try.prog 47 #[.int .i64 L.length, .func (.func 48) #[] #[.pointer (some ⟨bl, 0, none⟩), .pointer (some ⟨bt, 0, none⟩)]] w fun e w' => e = .returned (.int .i64 m) ∧ ∃ k, w' = w.drewN k := by
  have HA := Lib.hid hA
  have HM := Lib.hid hm
  have H1 := Lib.hid h1
  have H2 := Lib.hid h2
  have hml := hm.1
  obtain ⟨n, hn⟩ : ∃ n, n = L.length := ⟨_, rfl⟩
  rw [← hn] at hl hml ⊢
  have HN := Lib.hid hn
  clear hA hm h1 h2 hn
  go_enter Try.func47, Try.ntmps47
  go_wp2
  go_loopw [5, 6] (fun x y wr => ∃ i j k : Nat, x = .int .i64 i ∧ y = .int .i64 j ∧ wr = w.drewN k ∧ i ≤ m ∧ m ≤ j ∧ j ≤ n) (fun x y _ => (intOf y).toNat - (intOf x).toNat)
  case atStart => exact ⟨0, n, 0, rfl, rfl, rfl, by omega, by omega, by omega⟩
  case round =>
    obtain ⟨i, j, k, rfl, rfl, rfl, hi, hj, hjn⟩ := hrel
    by_cases hlt : i < j
    · obtain ⟨h, hh⟩ : ∃ h, h = (i + j) / 2 := ⟨_, rfl⟩
      have hh1 : h < j := by omega
      have hh2 : i ≤ h := by omega
      have e1 : IntKind.i64.wrap ((i : Int) + (j : Int)) = ((i + j : Nat) : Int) := by rw [IntWalk.i64_in _ (by omega)]; omega
      obtain ⟨s, hs⟩ : ∃ s, L[h]? = some s := ⟨L[h]'(by have := HN.out; omega), List.getElem?_eq_getElem _⟩
      have hd : s.t ≤ t ↔ h < m := HM.out.2 h s hs
      have hc := asks_any bl bt A c L t h s (w.drewN k) hs H1.out H2.out HA.out
      have eh : ((h : Nat) : Int) = ((i : Int) + (j : Int)) / 2 := by omega
      rw [eh] at hc
      have HC := Lib.hid hc
      obtain ⟨u, hu⟩ : ∃ u, u = s.t := ⟨_, rfl⟩
      rw [← hu] at hd HC
      clear hs hu hc
      by_cases hq : h < m
      · have hb : decide (t < u) = false := by simp; omega
        rw [hb] at HC
        clear hb hd
        go_wp2_with (fail)
        refine HC.out.mono ?_
        rintro e w1 ⟨rfl, q, rfl⟩
        go_wp2
        go_round
        case rel => exact ⟨h + 1, j, k + q, by rw [← eh]; rfl, rfl, rfl, by omega, by omega, by omega⟩
        case measure => simp [intOf]; omega
      · have hb : decide (t < u) = true := by simp; omega
        rw [hb] at HC
        clear hb hd
        go_wp2_with (fail)
        refine HC.out.mono ?_
        rintro e w1 ⟨rfl, q, rfl⟩
        go_wp2
        go_round
        case rel => exact ⟨i, h, k + q, rfl, by rw [← eh], rfl, by omega, by omega, by omega⟩
        case measure => simp [intOf]; omega
    · obtain rfl : i = m := by omega
      go_wp2
      go_ret
      exact ⟨rfl, k, rfl⟩
theorem cell_old (w : World) (o : Obj) {p : Addr} {v : Value} (h : w.cell? p = some v) : (w.alloc o).cell? p = some v := (World.cell?_alloc_lt w o p (World.block_lt_of_cell? w _ h)).trans h
theorem cell_own (w : World) (v : Value) (e : TypeId) : (w.alloc (.cells #[v] e)).cell? ⟨w.heap.size, 0, none⟩ = some v := by rw [cell_of_row _ _ _ _ _ _ (heap_alloc_new w _)]; rfl
set_option maxRecDepth 100000 in
theorem place_any (A : Option Addr) (n c : Nat) (L : List Sp) (t m : Nat) (w : World) (hn : L.length = n) (hl : n ≤ 1048576) (hm : Upto L t m) (hA : SRow w A L) :
    Calls Try.prog 45 #[.slice A n c, .int .i64 t] w fun e w' => e = .returned (.int .i64 ((m : Int) - 1)) ∧ Moved w w' [] := by
  subst hn
  obtain ⟨W, hW⟩ : ∃ W, W = (w.alloc (.cells #[.slice A L.length c] 61)).alloc (.cells #[.int .i64 t] 3) := ⟨_, rfl⟩
  have hs : (w.alloc (.cells #[.slice A L.length c] 61)).heap.size = w.heap.size + 1 := by simp
  have c1 : W.cell? ⟨w.heap.size, 0, none⟩ = some (.slice A L.length c) := by rw [hW]; exact cell_old _ _ (cell_own w _ _)
  have c2 : W.cell? ⟨w.heap.size + 1, 0, none⟩ = some (.int .i64 t) := by rw [hW, ← hs]; exact cell_own _ _ _
  have hM : Moved w W [] := by rw [hW]; exact ((Moved.refl w []).alloc _).alloc _
  have HC := Lib.hid (search_any w.heap.size (w.heap.size + 1) A c L t m W hl hm c1 c2 (hA.still hM))
  have hm1 := hm.1
  rw [hW] at HC c1 c2
  clear hm hA hM hs
  obtain ⟨n, hn⟩ : ∃ n, n = L.length := ⟨_, rfl⟩
  rw [← hn] at hl hm1 HC c1 ⊢
  clear hn
  go_enter Try.func45, Try.ntmps45
  have hmf : ∀ (fn : Fn) (first cap : Array Value) (w : World), (Instr.makeFunc fn first cap).run Try.prog w = .ok (.func fn first cap) w := fun _ _ _ _ => rfl
  go_wp2_with (fail)
  refine HC.out.mono ?_
  rintro e w1 ⟨rfl, q, rfl⟩
  go_wp2
  go_ret
  exact ⟨by first | rfl | simp, (((Moved.refl w []).alloc _).alloc _).drewN q⟩
/-- The tick at which the i-th step ends. -/
def endOf (L : List Sp) (i : Nat) : Nat := ((L[i + 1]?).map Sp.t).getD 1099511627776
set_option maxRecDepth 100000 in
theorem end_any (A : Option Addr) (n c : Nat) (L : List Sp) (i : Nat) (w : World) (hn : L.length = n) (hl : n ≤ 1048576) (hi : i < n) (hA : SRow w A L) :
    Calls Try.prog 42 #[.slice A n c, .int .i64 i] w fun e w' => e = .returned (.int .i64 (endOf L i)) ∧ w = w' := by
  have HA := Lib.hid hA
  have HN := Lib.hid hn
  clear hA hn
  by_cases he : i + 1 = n
  · have h0 : ((i : Int) = (n : Int) - 1) := by omega
    have hx : endOf L i = 1099511627776 := by unfold endOf; rw [List.getElem?_eq_none (by have := HN.out; omega)]; rfl
    rw [hx]
    clear hx HA HN
    go_enter Try.func42, Try.ntmps42
    go_wp2
    go_ret
    exact ⟨rfl, rfl⟩
  · obtain ⟨s, hs⟩ : ∃ s, L[i + 1]? = some s := ⟨L[i + 1]'(by have := HN.out; omega), List.getElem?_eq_getElem _⟩
    obtain ⟨b, off, rfl, hc, -⟩ := HA.out (i + 1) s hs
    have hx : endOf L i = s.t := by unfold endOf; rw [hs]; rfl
    rw [hx]
    obtain ⟨u, hu⟩ : ∃ u, u = s.t := ⟨_, rfl⟩
    rw [← hu] at hc ⊢
    have h1 : (i : Int) + 1 < (n : Int) := by omega
    have h2 : ¬ ((i : Int) = (n : Int) - 1) := by omega
    clear hu hx hs HA HN
    go_enter Try.func42, Try.ntmps42
    go_wp2
    go_ret
    exact ⟨rfl, rfl⟩
end Pf
end Go.Proofs.Ytnabnoaephjceaa
