/-
  CONTRACTS of rank.place and of rank.Decayed.
-/
import Derived.Test.YtpaklljcbmimfaaRankPlace
namespace Go.Proofs.Ytpaklljcbmimfaa
namespace Rk
open Go.RowKit
theorem has_iff {a : Int} {l : List U} (n : Int) (h : Rises a l) : has l n = true ↔ ∃ x, l[(lo l n).length]? = some x ∧ x.u = n := by
  obtain ⟨h1, h2⟩ := parts n h
  have e : l[(lo l n).length]? = (own l n ++ hi l n)[0]? := by
    obtain ⟨m, hm⟩ : ∃ m, m = (lo l n).length := ⟨_, rfl⟩
    rw [← hm, show l[m]? = (lo l n ++ own l n ++ hi l n)[m]? from congrArg (fun z : List U => z[m]?) h1, List.append_assoc, List.getElem?_append_right (by omega), hm, Nat.sub_self]
  rw [e]
  unfold has
  rcases ho : own l n with _ | ⟨x, r⟩
  · simp
    intro x hx
    have hm : x ∈ hi l n := List.mem_of_getElem? hx
    unfold hi at hm
    rw [List.mem_filter] at hm
    have := hm.2
    simp at this
    omega
  · have hm : x ∈ own l n := by rw [ho]; simp
    unfold own at hm
    rw [List.mem_filter] at hm
    have := hm.2
    simp at this
    simp [this]
theorem place_any (A : Option Addr) (n c : Nat) (l : List U) (u : Int) (w : World) (hn : l.length = n) (hA : Row w A l) (hl : Right l) :
    Calls Try.prog 10 #[.slice A n c, .int .i64 u] w fun e w' => e = .returned (.tuple #[.int .i64 (lo l u).length, .bool (has l u)]) ∧ Moved w w' [] := by
  have H := Lib.hid (search_any A n c l u (lo l u).length w hn (by have := hl.len; omega) hA (by have := lo_le l u; omega) (fun k x h => lo_at u hl h) (has l u) (has_iff u hl))
  clear hn hA hl
  have hmf : ∀ (fn : Fn) (first cap : Array Value) (w : World), (Instr.makeFunc fn first cap).run Try.prog w = .ok (.func fn first cap) w := fun _ _ _ _ => rfl
  go_enter Try.func10, Try.ntmps10
  go_wp2_with fail
  refine H.out.mono ?_
  rintro r w' ⟨rfl, hm⟩
  have HM := Lib.hid hm
  clear hm
  go_wp2
  go_ret2
  exact ⟨rfl, HM.out⟩
/-- A row of one use that the call laid. -/
theorem row_one (w : World) (u : U) (e : TypeId) : Row (w.alloc (.cells #[.int .i64 u.u, .int .i64 u.s, .int .i64 u.t] e)) (some ⟨w.heap.size, 0, none⟩) [u] := by
  intro k x hx
  rcases k with _ | k
  · simp at hx
    subst hx
    have hb := heap_alloc_new w (.cells #[.int .i64 u.u, .int .i64 u.s, .int .i64 u.t] e)
    exact ⟨_, _, rfl, cell_at hb 0 rfl, cell_at hb 1 rfl, cell_at hb 2 rfl⟩
  · simp at hx
theorem half_any {b : Int} (hb : 0 ≤ b) (k : Nat) : 0 ≤ b / 2 ^ k ∧ b / 2 ^ k ≤ b :=
  ⟨Int.ediv_nonneg hb (Int.pow_nonneg (by decide)), Int.ediv_le_self _ hb⟩
set_option maxRecDepth 100000 in
set_option maxHeartbeats 2000000 in
theorem decayed_any (x : U) (t : Int) (w : World) (hx : Rises (-1) [x]) (t0 : 0 ≤ t) (t1 : t ≤ 1099511627776) :
    Calls Try.prog 11 #[.agg #[.int .i64 x.u, .int .i64 x.s, .int .i64 x.t], .int .i64 t] w fun e w' => ∃ D : Int, e = .returned (.tuple #[.int .i64 D, .int .i64 0]) ∧ 0 ≤ D ∧ D ≤ x.s ∧ Moved w w' [] := by
  have HR := Lib.hid (fun W (hW : Row W (some ⟨w.heap.size + 1, 0, none⟩) [x]) => right_any (some ⟨w.heap.size + 1, 0, none⟩) 1 1 [x] W rfl hW hx)
  have HT := Lib.hid (Tk.rB_yes t0 t1)
  obtain ⟨h1, h2, h3, h4, h5, h6, -⟩ := hx
  go_enter Try.func11, Try.ntmps11
  go_wp2_with fail
  obtain ⟨W, hW⟩ : ∃ W, W = (w.alloc (.cells #[.int .i64 x.u, .int .i64 x.s, .int .i64 x.t] 27)).alloc (.cells #[.int .i64 x.u, .int .i64 x.s, .int .i64 x.t] 27) := ⟨_, rfl⟩
  rw [← hW]
  have hs : (w.alloc (.cells #[.int .i64 x.u, .int .i64 x.s, .int .i64 x.t] 27)).heap.size = w.heap.size + 1 := by simp
  have hM : Moved w W [] := by rw [hW]; exact ((Moved.refl w []).alloc _).alloc _
  have hrow : Row W (some ⟨w.heap.size + 1, 0, none⟩) [x] := by rw [hW, ← hs]; exact row_one _ x _
  have hb1 : W.heap[w.heap.size]? = some (.cells #[.int .i64 x.u, .int .i64 x.s, .int .i64 x.t] 27 (0, 0)) := by
    rw [hW, Below.heap_alloc _ _ _ (by simp)]; exact heap_alloc_new w _
  clear hW hs
  refine (HR.out W hrow).mono ?_
  rintro r w2 ⟨rfl, hm2⟩
  have c0 := cell_same hm2 (cell_at hb1 0 rfl)
  have c1 := cell_same hm2 (cell_at hb1 1 rfl)
  have c2 := cell_same hm2 (cell_at hb1 2 rfl)
  have HM2 := Lib.hid (hM.trans hm2 (fun _ h => by cases h))
  clear hM hrow hb1 hm2
  go_wp2_with fail
  refine (Tk.right_any _ _).mono ?_
  rw [HT.out]
  rintro r w' ⟨rfl, rfl⟩
  obtain ⟨a, ha⟩ : ∃ a, a = x.u := ⟨_, rfl⟩
  obtain ⟨b, hb⟩ : ∃ b, b = x.s := ⟨_, rfl⟩
  obtain ⟨e, he⟩ : ∃ e, e = x.t := ⟨_, rfl⟩
  rw [← ha] at h1 h2 c0 ⊢
  rw [← hb] at h3 h4 c1 ⊢
  rw [← he] at h5 h6 c2 ⊢
  have HB := Lib.hid hb
  clear ha hb he
  have hy : 0 ≤ max (t / 1024 - e / 1024) 0 := by omega
  go_wp2
  go_ret2
  exact ⟨_, rfl, (half_any h3 _).1, by rw [← HB.out]; exact (half_any h3 _).2, HM2.out⟩
end Rk
end Go.Proofs.Ytpaklljcbmimfaa
