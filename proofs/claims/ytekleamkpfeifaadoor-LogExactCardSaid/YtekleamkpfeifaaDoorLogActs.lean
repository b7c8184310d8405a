/-
  The acts of LogExact that came in; CONTRACT of its heavy.
-/
import Derived.Test.YtekleamkpfeifaaDoorLogMore
namespace Go.Proofs.YtekleamkpfeifaaDoor
namespace Lg
open Go.RowKit Dk Fr
/-- An act that came in: which one, its number, its bytes. -/
structure Deed where
  d : Int
  k : Int
  ys : List Int
/-- A slice of acts that came in. -/
def Deeds (w : World) (A : Option Addr) (ds : List Deed) : Prop :=
  ∀ (i : Nat) (a : Deed), ds[i]? = some a → ∃ b off B c, A = some ⟨b, off, none⟩ ∧ w.cell? ⟨b, off + i * 3, none⟩ = some (.int .i64 a.d) ∧ w.cell? ⟨b, off + i * 3 + 1, none⟩ = some (.int .i64 a.k) ∧
    w.cell? ⟨b, off + i * 3 + 2, none⟩ = some (.slice B a.ys.length c) ∧ Was w B a.ys.length c a.ys ∧ -9223372036854775808 ≤ a.k ∧ a.k ≤ 9223372036854775807
/-- None of the first fifty has too many bytes. -/
def Light (ds : List Deed) : Prop := ∀ i a, i < 50 → ds[i]? = some a → a.ys.length ≤ 262144
def HeavyEnd (ds : List Deed) (w : World) (e : Ending) (w' : World) : Prop := ∃ b : Bool, e = .returned (.bool b) ∧ w = w' ∧ (b = false → Light ds)
set_option maxRecDepth 100000 in
set_option maxHeartbeats 2000000 in
theorem heavy_any (A : Option Addr) (n c : Nat) (ds : List Deed) (w : World) (hA : Deeds w A ds) (hn : ds.length = n) (hn63 : n ≤ 9223372036854775807) :
    Calls Tryd.prog 10 #[.slice A n c] w (HeavyEnd ds w) := by
  have HA := Lib.hid hA
  have HN := Lib.hid hn
  clear hA hn
  by_cases hbig : 1000 < n
  · go_enter Tryd.func10, Tryd.ntmps10
    go_wp2
    go_ret
    exact ⟨true, rfl, rfl, fun h => by cases h⟩
  have hdn : decide (1000 < n) = false := by simpa using hbig
  go_enter Tryd.func10, Tryd.ntmps10
  go_wp2
  go_loop [3, 4] (fun t i => ∃ x k : Nat, t = .int .i64 x ∧ i = .int .i64 k ∧ k ≤ n ∧ k ≤ 50 ∧ x ≤ 524288 ∧ Hid (∀ i a, i < k → ds[i]? = some a → a.ys.length ≤ 262144)) (fun _ i => 50 - (intOf i).toNat)
  case atStart => exact ⟨0, 0, rfl, rfl, by omega, by omega, by omega, fun i a hi => by omega⟩
  case round =>
    obtain ⟨x, k, rfl, rfl, hk, hk50, hx, HS⟩ := hrel
    by_cases hgo : k < n ∧ k < 50 ∧ x ≤ 262144
    · obtain ⟨h1, h2, h3⟩ := hgo
      obtain ⟨a, ha⟩ : ∃ a, ds[k]? = some a := ⟨ds[k]'(by rw [HN.out]; exact h1), List.getElem?_eq_getElem _⟩
      obtain ⟨b, off, B, cb, rfl, -, -, hc2, hw, -⟩ := HA.out k a ha
      have hr := hw.room
      have HAK := Lib.hid ha
      clear ha hw
      obtain ⟨y, hy⟩ : ∃ y, y = a.ys.length := ⟨_, rfl⟩
      rw [← hy] at hc2 hr
      have HYL := Lib.hid hy
      clear hy
      by_cases hl : 262144 < y
      · go_wp2
        go_ret
        exact ⟨true, rfl, rfl, fun h => by cases h⟩
      · have hdl : decide (262144 < y) = false := by simpa using hl
        have HS2 : Hid (∀ i a, i < k + 1 → ds[i]? = some a → a.ys.length ≤ 262144) := fun i a' hi ha' => by
          by_cases hik : i = k
          · subst hik; rw [HAK.out] at ha'; cases ha'; rw [← HYL.out]; omega
          · exact HS.out i a' (by omega) ha'
        go_wp2
        go_round
        case rel => exact ⟨x + y, k + 1, by go_num, by go_num, by omega, by omega, by omega, HS2⟩
        case measure => simp [intOf]; omega
    · have HLT : Hid (x ≤ 262144 → Light ds) := fun hx2 i a hi ha => by
        have hin : i < n := by rw [← HN.out]; exact (List.getElem?_eq_some_iff.1 ha).1
        exact HS.out i a (by omega) ha
      by_cases h1 : k < n
      · by_cases h2 : k < 50
        · have h3 : 262144 < x := by omega
          have hd3 : decide (x ≤ 262144) = false := by simp; omega
          have hd4 : decide (262144 < x) = true := by simpa using h3
          go_wp2
          go_ret
          exact ⟨true, rfl, rfl, fun h => by cases h⟩
        · have hd2 : decide (k < 50) = false := by simpa using h2
          go_wp2
          go_ret
          exact ⟨decide ((262144 : Int) < x), rfl, rfl, fun h => HLT.out (by simp at h; omega)⟩
      · go_wp2
        go_ret
        exact ⟨decide ((262144 : Int) < x), rfl, rfl, fun h => HLT.out (by simp at h; omega)⟩
end Lg
end Go.Proofs.YtekleamkpfeifaaDoor
