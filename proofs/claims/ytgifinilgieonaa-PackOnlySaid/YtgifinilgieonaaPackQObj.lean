/-
  A Reader of the document's page (hanseref03) in memory: its bytes, its place, its error.
-/
import Derived.Test.YtgifinilgieonaaProg
import Derived.Test.YtgifinilgieonaaChecked
import Derived.Test.YtgifinilgieonaaKeepBytes
import Derived.Test.YtgifinilgieonaaMemStep
import Derived.Test.YtgifinilgieonaaPackSt
namespace Go.Proofs.Ytgifinilgieonaa
namespace Pk
open Go.RowKit

/-- At block q stands a Reader of the page of the bytes xs (they lie at A), in the state st. -/
def QObj (w : World) (q : Nat) (A : Option Addr) (c : Nat) (xs : List Int) (st : St) : Prop :=
  ∃ at_ e, w.heap[q]? = some (.cells #[.slice A xs.length c, .int .i64 at_, .int .i64 e] 31 (0, 0)) ∧ NRow .u8 w A xs ∧ q ∉ rowX A xs ∧
    (match st with | .ok bs => e = 0 ∧ ∃ k : Nat, at_ = k ∧ k ≤ xs.length ∧ bs = xs.drop k | .bad e' => e = e' ∧ e' ≠ 0)

theorem fail_any (q : Nat) (a b : Value) (e : Int) (w : World) (hq : w.heap[q]? = some (.cells #[a, b, .int .i64 0] 31 (0, 0))) :
    Calls Try.prog 43 #[.pointer (some ⟨q, 0, none⟩), .int .i64 e] w fun r w' => r = .returned (.tuple #[]) ∧ w' = w.setCell ⟨q, 2, none⟩ (.int .i64 e) := by
  have c2 := cell_at hq 2 (v := .int .i64 0) rfl
  have f2 := free_at hq 2
  clear hq
  go_enter Try.func43, Try.ntmps43
  go_wp2
  go_end0
  exact ⟨rfl, rfl⟩
theorem uint_none {bs : List Int} (h : rdG 0 bs = none) : (St.ok bs).uint = (0, .bad 4) := by simp [St.uint, h]
theorem uint_some {bs : List Int} {v : Nat} {r : List Int} (h : rdG 0 bs = some (v, r)) : (St.ok bs).uint = (v, .ok r) := by simp [St.uint, h]
theorem qobj_fail {w wr : World} {q : Nat} {A : Option Addr} {c : Nat} {xs : List Int} {m e : Int}
    (hq : wr.heap[q]? = some (.cells #[.slice A xs.length c, .int .i64 m, .int .i64 0] 31 (0, 0))) (hA : NRow .u8 w A xs) (hnq : q ∉ rowX A xs) (hM : Moved w wr [q]) (he : e ≠ 0) :
    QObj (wr.setCell ⟨q, 2, none⟩ (.int .i64 e)) q A c xs (.bad e) ∧ Moved w (wr.setCell ⟨q, 2, none⟩ (.int .i64 e)) [q] := by
  have hM' := hM.setCell (p := ⟨q, 2, none⟩) (.inl (by simp)) (.int .i64 e)
  exact ⟨⟨m, e, by rw [heap_setCell_same wr q 2 _ _ _ hq]; rfl, nrowx_moved hA hM' (fun b hb h => hnq (by simp at h; exact h ▸ hb)), hnq, rfl, he⟩, hM'⟩
theorem qobj_ok {w wr : World} {q : Nat} {A : Option Addr} {c : Nat} {xs : List Int} {m : Nat}
    (hq : wr.heap[q]? = some (.cells #[.slice A xs.length c, .int .i64 m, .int .i64 0] 31 (0, 0))) (hA : NRow .u8 w A xs) (hnq : q ∉ rowX A xs) (hM : Moved w wr [q]) (hm : m ≤ xs.length) :
    QObj wr q A c xs (.ok (xs.drop m)) :=
  ⟨m, 0, hq, nrowx_moved hA hM (fun b hb h => hnq (by simp at h; exact h ▸ hb)), hnq, rfl, m, rfl, hm, rfl⟩
/-- The place goes on. -/
theorem q_next {wr : World} {q : Nat} {A : Option Addr} {n c : Nat} {m : Int} {m' : Int}
    (hq : wr.heap[q]? = some (.cells #[.slice A n c, .int .i64 m, .int .i64 0] 31 (0, 0))) :
    (wr.setCell ⟨q, 1, none⟩ (.int .i64 m')).heap[q]? = some (.cells #[.slice A n c, .int .i64 m', .int .i64 0] 31 (0, 0)) := by
  rw [heap_setCell_same wr q 1 _ _ _ hq]; rfl
end Pk
end Go.Proofs.Ytgifinilgieonaa
