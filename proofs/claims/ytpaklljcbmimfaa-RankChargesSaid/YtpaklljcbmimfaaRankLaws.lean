/-
  What hanselaw11's RankCharges asks of rank.Charge; CONTRACT of hanseref10.Uses.
-/
import Derived.Test.YtpaklljcbmimfaaProg
import Derived.Test.YtpaklljcbmimfaaChecked
import Derived.Test.YtpaklljcbmimfaaRankPlain
import Derived.Test.YtpaklljcbmimfaaMemStep
import Derived.Test.YtpaklljcbmimfaaTickRefRight
import Derived.BigRegion
import Derived.Deep.QuietTactic
import Derived.BigQuiet
import Derived.Deep.RegionHeld3
namespace Go.Proofs.Ytpaklljcbmimfaa
namespace Rk
open Go.RowKit
/-- Uses that are read from a slice on. -/
def Row (w : World) (A : Option Addr) (l : List U) : Prop :=
  ∀ k x, l[k]? = some x → ∃ g off, A = some ⟨g, off, none⟩ ∧ w.cell? ⟨g, off + k * 3, none⟩ = some (.int .i64 x.u) ∧ w.cell? ⟨g, off + k * 3 + 1, none⟩ = some (.int .i64 x.s) ∧ w.cell? ⟨g, off + k * 3 + 2, none⟩ = some (.int .i64 x.t)
theorem cell_same {w w' : World} (h : Moved w w' []) {p : Addr} {u : Value} (hp : w.cell? p = some u) : w'.cell? p = some u := (World.cell?_of_block (h.block p.block (World.block_lt_of_cell? w _ hp) (by simp))).trans hp
theorem Row.still {w w' : World} {A : Option Addr} {l : List U} (h : Row w A l) (hm : Moved w w' []) : Row w' A l := by
  intro k x hx
  obtain ⟨g, off, e, h1, h2, h3⟩ := h k x hx
  exact ⟨g, off, e, cell_same hm h1, cell_same hm h2, cell_same hm h3⟩
/-- A slice that reads as uses. -/
structure Reads (w : World) (v : Value) (l : List U) : Prop where
  is : ∃ A c, v = .slice A l.length c ∧ Row w A l ∧ l.length ≤ c ∧ c ≤ 9223372036854775807 ∧ (A = none → c = 0)
theorem Reads.still {w w' : World} {v : Value} {l : List U} (h : Reads w v l) (hm : Moved w w' []) : Reads w' v l := by
  obtain ⟨A, c, h1, h2, h3⟩ := h.is
  exact ⟨A, c, h1, h2.still hm, h3⟩
theorem Reads.nil (w : World) : Reads w (.slice none 0 0) [] := ⟨none, 0, rfl, fun k x h => by simp at h, by simp, by omega, fun _ => rfl⟩
/-- What a charge answers: an error and nothing; or the uses in which the user's own has at least so much more, and this tick. -/
def Fine (l : List U) (n s t : Int) (w' : World) (v : Value) (q : Int) : Prop :=
  (q ≠ 0 ∧ ∃ B c, v = .slice B 0 c) ∨ (q = 0 ∧ 0 ≤ n ∧ n < 16 ∧ 0 ≤ s ∧ 0 ≤ t ∧ t ≤ 1099511627776 ∧ ∃ S, s ≤ S ∧ S ≤ 1152921504606846976 ∧ Reads w' v (put l ⟨n, S, t⟩))
def Charged (l : List U) (n s t : Int) (w : World) (e : Ending) (w' : World) : Prop :=
  ∃ v q, e = .returned (.tuple #[v, .int .i64 q]) ∧ Moved w w' [] ∧ Fine l n s t w' v q
structure Laws : Prop where
  charge : ∀ (v : Value) (l : List U) (n s t : Int) (w : World), Reads w v l → Right l → Calls Try.prog 4 #[v, .int .i64 n, .int .i64 s, .int .i64 t] w (Charged l n s t w)
  wakes : ∀ w, Calls Try.prog 6 #[] w fun e w' => e = .returned (.bool true) ∧ Moved w w' []
set_option maxRecDepth 100000 in
set_option maxHeartbeats 2000000 in
theorem refUses_any (v : Value) (l : List U) (w : World) (hR : Reads w v l) (hl : Right l) : Calls Try.prog 5 #[v] w fun e w' => e = .returned (.bool true) ∧ w = w' := by
  obtain ⟨A, c, rfl, hA, hlc, hcm, -⟩ := hR.is
  have hlen := hl.len
  have HA := Lib.hid hA
  have HL := Lib.hid hl
  obtain ⟨n, hn⟩ : ∃ n, n = l.length := ⟨_, rfl⟩
  rw [← hn] at hlc hlen ⊢
  have HN := Lib.hid hn
  clear hA hl hn hR
  go_enter Try.func5, Try.ntmps5
  go_wp2
  go_loop [3, 4] (fun a i => ∃ (k : Nat) (z : Int), a = .int .i64 z ∧ i = .int .i64 k ∧ k ≤ n ∧ Hid (Rises z (l.drop k))) (fun _ i => n - (intOf i).toNat)
  case atStart => exact ⟨0, -1, rfl, rfl, by omega, HL.out⟩
  case round =>
    obtain ⟨k, z, rfl, rfl, hk, HZ⟩ := hrel
    by_cases hlt : k < n
    · have hkl : k < l.length := by have := HN.out; omega
      obtain ⟨x, hx⟩ : ∃ x, l[k]? = some x := ⟨l[k], List.getElem?_eq_getElem hkl⟩
      have hd : l.drop k = x :: l.drop (k + 1) := by rw [List.drop_eq_getElem_cons hkl]; congr 1; exact (List.getElem?_eq_some_iff.1 hx).2
      have hz := HZ.out
      rw [hd] at hz
      obtain ⟨h1, h2, h3, h4, h5, h6, h7⟩ := hz
      obtain ⟨g, off, rfl, c1, c2, c3⟩ := HA.out k x hx
      have H7 := Lib.hid h7
      have HT := Lib.hid (Tk.rB_yes h5 h6)
      obtain ⟨a, ha⟩ : ∃ a, a = x.u := ⟨_, rfl⟩
      obtain ⟨b, hb⟩ : ∃ b, b = x.s := ⟨_, rfl⟩
      obtain ⟨e, he⟩ : ∃ e, e = x.t := ⟨_, rfl⟩
      rw [← ha] at c1 h1 h2 H7
      rw [← hb] at c2 h3 h4
      rw [← he] at c3 HT
      have D1 : decide (a ≤ z) = false := decide_eq_false (by omega)
      have D2 : decide (16 ≤ a) = false := decide_eq_false (by omega)
      have D3 : decide (b < 0) = false := decide_eq_false (by omega)
      have D4 : decide (1152921504606846976 < b) = false := decide_eq_false (by omega)
      have z1 : (k : Int) < (n : Int) := by omega
      clear hx hd hkl ha hb he h5 h6 h7 HZ
      go_wp2_with fail
      refine (Tk.refRight_any _ _).mono ?_
      rw [HT.out]
      rintro r w' ⟨rfl, rfl⟩
      go_wp2
      go_round
      case rel => exact ⟨k + 1, a, rfl, by go_num, by omega, H7.out⟩
      case measure => simp [intOf]; omega
    · go_wp2
      go_ret
      exact ⟨rfl, rfl⟩
end Rk
end Go.Proofs.Ytpaklljcbmimfaa
