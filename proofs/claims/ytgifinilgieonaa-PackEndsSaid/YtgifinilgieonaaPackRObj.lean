/-
  A pack.Reader in memory: the text that is still to be read, its error. (Its struct: a string, the error.)
-/
import Derived.Test.YtgifinilgieonaaPackNumber
import Derived.Test.YtgifinilgieonaaPackLaws
namespace Go.Proofs.Ytgifinilgieonaa
namespace Pk
open Go.RowKit

/-- At block p stands a Reader in the state st; fp is its block. -/
def RObj (w : World) (p : Nat) (fp : List Nat) (st : St) : Prop :=
  fp = [p] ∧ ∃ s e, w.heap[p]? = some (.cells #[.string s, .int .i64 e] 60 (0, 0)) ∧ s.size ≤ 70368744177664 ∧ (match st with | .ok bs => e = 0 ∧ nums s = bs | .bad e' => e = e' ∧ e' ≠ 0 ∧ s = ByteArray.empty)
theorem RObj.stays {w w' : World} {p : Nat} {fp : List Nat} {st : St} (h : RObj w p fp st) (hk : ∀ k ∈ fp, w'.heap[k]? = w.heap[k]?) : RObj w' p fp st := by
  obtain ⟨rfl, s, e, h1, h2, h3⟩ := h
  exact ⟨rfl, s, e, by rw [hk p (by simp)]; exact h1, h2, h3⟩
theorem RObj.lt {w : World} {p : Nat} {fp : List Nat} {st : St} (h : RObj w p fp st) : ∀ k ∈ fp, k < w.heap.size := by
  obtain ⟨rfl, s, e, h1, h2, h3⟩ := h
  intro k hk
  simp at hk
  subst hk
  exact lt_of_block h1
/-- A cell of the Reader is written. -/
theorem r_moved {w : World} {p : Nat} (o : Nat) (v : Value) : Step w (w.setCell ⟨p, o, none⟩ v) [p] [p] := ⟨Moved.setCell (Moved.refl _ _) (.inl (by simp)) _, fun _ h => .inl h⟩
theorem r_cells {w : World} {p : Nat} {s : Value} {e : Value} (hp : w.heap[p]? = some (.cells #[s, e] 60 (0, 0))) (s' e' : Value) :
    ((w.setCell ⟨p, 0, none⟩ s').setCell ⟨p, 1, none⟩ e').heap[p]? = some (.cells #[s', e'] 60 (0, 0)) := by
  rw [heap_setCell_same _ p 1 _ _ _ (heap_setCell_same w p 0 _ _ _ hp)]; rfl
theorem rfail_new (p : Nat) (s : ByteArray) (e : Int) (w : World) (hp : w.heap[p]? = some (.cells #[.string s, .int .i64 0] 60 (0, 0))) (he : e ≠ 0) :
    Calls Try.prog 36 #[.pointer (some ⟨p, 0, none⟩), .int .i64 e] w fun r w' => r = .returned (.tuple #[]) ∧ RObj w' p [p] (.bad e) ∧ Step w w' [p] [p] := by
  have c0 := cell_at hp 0 (v := .string s) rfl
  have c1 := cell_at hp 1 (v := .int .i64 0) rfl
  have f0 := free_at hp 0
  have f1 := free_at hp 1
  have HP := Lib.hid hp
  have HE := Lib.hid he
  clear hp he
  go_enter Try.func36, Try.ntmps36
  go_wp2
  go_end0
  exact ⟨rfl, ⟨rfl, _, e, r_cells HP.out _ _, by show (0 : Nat) ≤ _; omega, rfl, HE.out, rfl⟩, (r_moved 0 _).trans (r_moved 1 _)⟩
theorem rfail_old (p : Nat) (fp : List Nat) (e e' : Int) (w : World) (hR : RObj w p fp (.bad e')) :
    Calls Try.prog 36 #[.pointer (some ⟨p, 0, none⟩), .int .i64 e] w fun r w' => r = .returned (.tuple #[]) ∧ RObj w' p fp (.bad e') ∧ Step w w' fp fp := by
  have HR := Lib.hid hR
  obtain ⟨rfl, s, e1, hp, -, he1, he2, rfl⟩ := hR
  have c1 := cell_at hp 1 (v := .int .i64 e1) rfl
  have hd : (e1 == 0) = false := by simpa [he1] using he2
  clear hp he1 he2
  go_enter Try.func36, Try.ntmps36
  go_wp2
  go_end0
  exact ⟨rfl, HR.out, Step.refl _ _⟩
/-- The Reader goes on behind n bytes. -/
theorem r_next {w : World} {p : Nat} {s : ByteArray} {n : Nat} (hp : w.heap[p]? = some (.cells #[.string s, .int .i64 0] 60 (0, 0))) (hs : s.size ≤ 70368744177664) :
    RObj (w.setCell ⟨p, 0, none⟩ (.string (s.extract n s.size))) p [p] (.ok ((nums s).drop n)) ∧ Step w (w.setCell ⟨p, 0, none⟩ (.string (s.extract n s.size))) [p] [p] :=
  ⟨⟨rfl, _, 0, by rw [heap_setCell_same w p 0 _ _ _ hp]; rfl, by simp; omega, rfl, nums_from s n⟩, r_moved 0 _⟩
theorem num_zero {s : ByteArray} (h : rdG 0 (nums s) = none) : numV s = 0 ∧ numN s = 0 := numV_none h
theorem rdG_rest : ∀ (bs : List Int) (i v : Nat) (r : List Int), rdG i bs = some (v, r) → r.length < bs.length ∧ r = bs.drop (bs.length - r.length) := by
  intro bs
  induction bs with
  | nil => intro i v r h; cases h
  | cons x bs ih =>
    intro i v r h
    rw [rdG] at h
    split at h
    · cases h
    · split at h
      · split at h
        · cases h
        · cases h
          exact ⟨by simp, by simp⟩
      · rcases hr : rdG (i + 1) bs with _ | ⟨v', r'⟩
        · rw [hr] at h; cases h
        · rw [hr] at h
          cases h
          obtain ⟨h1, h2⟩ := ih (i + 1) v' r' hr
          refine ⟨by simp; omega, ?_⟩
          rw [List.length_cons, show bs.length + 1 - r'.length = (bs.length - r'.length) + 1 by omega, List.drop_succ_cons]
          exact h2
theorem num_one {s : ByteArray} {v : Nat} {r : List Int} (h : rdG 0 (nums s) = some (v, r)) : numV s = v ∧ 0 < numN s ∧ numN s ≤ s.size ∧ (nums s).drop (numN s) = r := by
  obtain ⟨h1, h2⟩ := numV_some h
  obtain ⟨h3, h4⟩ := rdG_rest _ _ _ _ h
  rw [nums_len] at h3 h4
  exact ⟨h1, by omega, by omega, by rw [h2]; exact h4.symm⟩
theorem num_bound {s : ByteArray} : numV s < 18446744073709551616 := by
  cases h : rdG 0 (nums s) with
  | none => rw [(numV_none h).1]; omega
  | some q =>
    rw [(numV_some (v := q.1) (r := q.2) h).1]
    have := rdG_bound (nums s) 0 (by omega) (nums_bytes s) q.1 q.2 h
    simpa using this
theorem rdG_empty : rdG 0 (nums ByteArray.empty) = none := rfl
set_option maxRecDepth 100000 in
set_option maxHeartbeats 1000000 in
theorem ruint_any (p : Nat) (fp : List Nat) (st : St) (w : World) (hR : RObj w p fp st) :
    Calls Try.prog 17 #[.pointer (some ⟨p, 0, none⟩)] w (Goes RObj p fp st.uint.2 (.int .u64 (st.uint.1 : Nat)) w) := by
  have HR := Lib.hid hR
  obtain ⟨rfl, s, e, hp, hs, hst⟩ := hR
  have c0 := cell_at hp 0 (v := .string s) rfl
  have f0 := free_at hp 0
  have HP := Lib.hid hp
  clear hp
  cases st with
  | bad e' =>
    obtain ⟨rfl, he, rfl⟩ := hst
    have HZ := Lib.hid (num_zero rdG_empty)
    go_enter Try.func17, Try.ntmps17
    go_wp2_with (first
      | (go_at_call 35; refine (number_any _ _ hs).mono ?_; rintro e1 w1 ⟨rfl, rfl⟩; rw [HZ.out.1, HZ.out.2])
      | (go_at_call 36; refine (rfail_old p _ 4 _ _ HR.out).mono ?_; rintro e1 w1 ⟨rfl, hR1, hS1⟩; have HR1 := Lib.hid hR1; have HS1 := Lib.hid hS1; clear hR1 hS1))
    go_ret
    exact ⟨rfl, _, HR1.out, HS1.out⟩
  | ok bs =>
    obtain ⟨rfl, rfl⟩ := hst
    rcases hr : rdG 0 (nums s) with _ | ⟨v, r⟩
    · have HZ := Lib.hid (num_zero hr)
      have HU := Lib.hid (uint_none hr)
      clear hr
      go_enter Try.func17, Try.ntmps17
      go_wp2_with (first
        | (go_at_call 35; refine (number_any _ _ hs).mono ?_; rintro e1 w1 ⟨rfl, rfl⟩; rw [HZ.out.1, HZ.out.2])
        | (go_at_call 36; refine (rfail_new p _ 4 _ HP.out (by omega)).mono ?_; rintro e1 w1 ⟨rfl, hR1, hS1⟩; have HR1 := Lib.hid hR1; have HS1 := Lib.hid hS1; clear hR1 hS1))
      go_ret
      exact ⟨by rw [HU.out]; rfl, [p], by rw [HU.out]; exact HR1.out, HS1.out⟩
    · have HO := Lib.hid (num_one hr)
      have HU := Lib.hid (uint_some hr)
      obtain ⟨n, hn⟩ : ∃ n, numN s = n := ⟨_, rfl⟩
      have hn0 : 0 < n := by rw [← hn]; exact (num_one hr).2.1
      have hn1 : n ≤ s.size := by rw [← hn]; exact (num_one hr).2.2.1
      have hnz : ((n : Int) == 0) = false := by simp; omega
      have HN := Lib.hid hn
      clear hr hn
      go_enter Try.func17, Try.ntmps17
      go_wp2_with (first
        | (go_at_call 35; refine (number_any _ _ hs).mono ?_; rintro e1 w1 ⟨rfl, rfl⟩; rw [HN.out, HO.out.1]))
      go_ret
      have R := r_next (n := n) HP.out hs
      refine ⟨by rw [HU.out]; rfl, [p], ?_, R.2⟩
      rw [HU.out]
      have := HO.out.2.2.2
      rw [HN.out] at this
      rw [← this]
      exact R.1
end Pk
end Go.Proofs.Ytgifinilgieonaa
