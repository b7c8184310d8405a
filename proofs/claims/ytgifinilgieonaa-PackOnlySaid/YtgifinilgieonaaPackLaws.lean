/-
  What the statements' walks ask of the program's Reader, and what follows for the statements' helpers kind and same.
  R w p fp st: at block p stands a Reader in the state st; fp are its blocks.
-/
import Derived.Test.YtgifinilgieonaaPackQAmount
import Derived.Test.YtgifinilgieonaaTextRow
import Derived.Test.YtgifinilgieonaaFloat
namespace Go.Proofs.Ytgifinilgieonaa
namespace Pk
open Go.RowKit Am

/-- The Reader at p answers r0 and is then in the state st. -/
def Goes (R : World → Nat → List Nat → St → Prop) (p : Nat) (fp : List Nat) (st : St) (r0 : Value) (w : World) (r : Ending) (w' : World) : Prop :=
  r = .returned r0 ∧ ∃ fp', R w' p fp' st ∧ Step w w' fp fp'
/-- The Reader at p answers new bytes and is then in the state st. -/
def Tells (R : World → Nat → List Nat → St → Prop) (p : Nat) (fp : List Nat) (st : St) (out : List Int) (w : World) (r : Ending) (w' : World) : Prop :=
  ∃ v fp', r = .returned v ∧ TRow w' v out.length out ∧ (∀ k ∈ rowOf v, w.heap.size ≤ k ∧ k ∉ fp') ∧ R w' p fp' st ∧ Step w w' fp fp'

structure RLaws (R : World → Nat → List Nat → St → Prop) : Prop where
  stays : ∀ {w w' : World} {p : Nat} {fp : List Nat} {st : St}, R w p fp st → (∀ k ∈ fp, w'.heap[k]? = w.heap[k]?) → R w' p fp st
  lt : ∀ {w : World} {p : Nat} {fp : List Nat} {st : St}, R w p fp st → ∀ k ∈ fp, k < w.heap.size
  bytes : ∀ {w : World} {p : Nat} {fp : List Nat} {bs : List Int}, R w p fp (.ok bs) → ByteList bs
  len : ∀ {w : World} {p : Nat} {fp : List Nat} {bs : List Int}, R w p fp (.ok bs) → bs.length ≤ 70368744177664
  fine : ∀ {w : World} {p : Nat} {fp : List Nat} {e : Int}, R w p fp (.bad e) → e ≠ 0
  new : ∀ (A : Option Addr) (n c : Nat) (xs : List Int) (w : World), NRow .u8 w A xs → xs.length = n → ByteList xs → (A = none → c = 0) → n ≤ 70368744177664 →
    Calls Try.prog 9 #[.slice A n c] w fun r w' => ∃ p fp, r = .returned (.pointer (some ⟨p, 0, none⟩)) ∧ R w' p fp (.ok xs) ∧ Step w w' [] fp
  uint : ∀ (p : Nat) (fp : List Nat) (st : St) (w : World), R w p fp st → Calls Try.prog 17 #[.pointer (some ⟨p, 0, none⟩)] w (Goes R p fp st.uint.2 (.int .u64 (st.uint.1 : Nat)) w)
  int : ∀ (p : Nat) (fp : List Nat) (st : St) (w : World), R w p fp st → Calls Try.prog 19 #[.pointer (some ⟨p, 0, none⟩)] w (Goes R p fp st.int.2 (.int .i64 st.int.1) w)
  mark : ∀ (p : Nat) (fp : List Nat) (st : St) (w : World), R w p fp st → Calls Try.prog 21 #[.pointer (some ⟨p, 0, none⟩)] w (Goes R p fp st.mark.2 (.bool st.mark.1) w)
  text : ∀ (p : Nat) (fp : List Nat) (st : St) (w : World), R w p fp st → Calls Try.prog 23 #[.pointer (some ⟨p, 0, none⟩)] w (Tells R p fp st.text.2 st.text.1 w)
  amount : ∀ (p : Nat) (fp : List Nat) (st : St) (w : World), R w p fp st → Calls Try.prog 25 #[.pointer (some ⟨p, 0, none⟩)] w (Goes R p fp st.amount.2 (amt st.amount.1.1 st.amount.1.2) w)
  done : ∀ (p : Nat) (fp : List Nat) (st : St) (w : World), R w p fp st → Calls Try.prog 12 #[.pointer (some ⟨p, 0, none⟩)] w (Goes R p fp st (.int .i64 st.done) w)

/-- Which of the five kinds is meant by j. -/
def kindOf (j : Int) : Int := j % 18446744073709551616 % 5
theorem kindOf_range (j : Int) : 0 ≤ kindOf j ∧ kindOf j ≤ 4 := by unfold kindOf; omega
theorem kind_eq (j : Int) : wrap64 ((IntKind.u64.wrap j).tmod 5) = kindOf j := by
  have h : IntKind.u64.wrap j = j % 18446744073709551616 := by unfold IntKind.wrap; simp [IntKind.signed, IntKind.bits]
  rw [h, Int.tmod_eq_emod_of_nonneg (by omega)]
  have := kindOf_range j
  unfold kindOf at *
  rw [wrap64_small (by omega) (by omega)]
theorem kind_any (j : Int) (w : World) : Calls Try.prog 15 #[.int .i64 j] w fun r w' => r = .returned (.int .i64 (kindOf j)) ∧ w = w' := by
  go_enter Try.func15, Try.ntmps15
  go_wp2
  go_ret
  exact ⟨ret_i64 (kind_eq j), rfl⟩
/-- The state behind a thing of that kind was read. -/
def stepK (k : Int) (s : St) : St := if k = 0 then s.uint.2 else if k = 1 then s.int.2 else if k = 2 then s.mark.2 else if k = 3 then s.text.2 else s.amount.2
end Pk
end Go.Proofs.Ytgifinilgieonaa
