/-
  The pieces that the program's Disk keeps: each stands behind the ones ahead of it, none is ever changed; CONTRACT of (*disk.piece).end.
-/
import Derived.Test.YtekleamkpfeifaaDoorDiskLaws
import Derived.BigRegion
import Derived.Deep.QuietTactic
import Derived.BigQuiet
import Derived.IntWalk
namespace Go.Proofs.YtekleamkpfeifaaDoor
namespace Dk
open Go.RowKit
/-- A piece: its block, the block of its bytes, its bytes. -/
structure Pc where
  p : Nat
  g : Nat
  ys : List Int
def ptr : List Pc → Value
  | [] => .pointer none
  | c :: _ => .pointer (some ⟨c.p, 0, none⟩)
/-- The bytes up to the end of the first piece of the list (the others stand ahead of it). -/
def pcBytes : List Pc → List Int
  | [] => []
  | c :: r => pcBytes r ++ c.ys
def pcBlks : List Pc → List Nat
  | [] => []
  | c :: r => c.p :: c.g :: pcBlks r
def PcAt (w : World) : List Pc → Prop
  | [] => True
  | c :: r => w.heap[c.p]? = some (.cells #[ptr r, .int .i64 (pcBytes r).length, .slice (some ⟨c.g, 0, none⟩) c.ys.length c.ys.length] 85 (0, 0)) ∧
    NRow .u8 w (some ⟨c.g, 0, none⟩) c.ys ∧ c.g < w.heap.size ∧ 0 < c.ys.length ∧ (∀ k ∈ pcBlks r, k < c.p) ∧ PcAt w r
def ptrRank : Value → Nat
  | .pointer (some a) => a.block + 1
  | _ => 0
theorem pcBytes_append : ∀ (a b : List Pc), pcBytes (a ++ b) = pcBytes b ++ pcBytes a
  | [], b => by simp [pcBytes]
  | c :: r, b => by rw [List.cons_append, pcBytes, pcBytes, pcBytes_append r b, List.append_assoc]
theorem pcBlks_append : ∀ (a b : List Pc), pcBlks (a ++ b) = pcBlks a ++ pcBlks b
  | [], b => rfl
  | c :: r, b => by rw [List.cons_append, pcBlks, pcBlks, pcBlks_append r b]; rfl
theorem PcAt.tail {w : World} : ∀ {a b : List Pc}, PcAt w (a ++ b) → PcAt w b
  | [], _, h => h
  | _ :: _, _, h => PcAt.tail h.2.2.2.2.2
theorem PcAt.lt {w : World} : ∀ {L : List Pc}, PcAt w L → ∀ k ∈ pcBlks L, k < w.heap.size
  | [], _, k, hk => by cases hk
  | c :: r, h, k, hk => by
    rcases List.mem_cons.1 hk with rfl | hk
    · exact lt_of_block h.1
    · rcases List.mem_cons.1 hk with rfl | hk
      · exact h.2.2.1
      · exact PcAt.lt h.2.2.2.2.2 k hk
theorem PcAt.stays {w w' : World} : ∀ {L : List Pc}, PcAt w L → (∀ k ∈ pcBlks L, w'.heap[k]? = w.heap[k]?) → PcAt w' L
  | [], _, _ => trivial
  | c :: r, h, hk => by
    have hg : w'.heap[c.g]? = w.heap[c.g]? := hk c.g (by simp [pcBlks])
    refine ⟨by rw [hk c.p (by simp [pcBlks])]; exact h.1, ?_, ?_, h.2.2.2.1, h.2.2.2.2.1, PcAt.stays h.2.2.2.2.2 (fun k hm => hk k (by simp [pcBlks, hm]))⟩
    · exact nrow_stays (n := c.ys.length) (c := c.ys.length) h.2.1 (fun b hb => by
        obtain rfl : c.g = b := by simpa [mem_rowOf, Value.ownBlock] using hb
        exact hg)
    · have h1 : w.heap[c.g]? = some (w.heap[c.g]'h.2.2.1) := Array.getElem?_eq_getElem h.2.2.1
      rw [← hg] at h1
      exact (Array.getElem?_eq_some_iff.1 h1).1
theorem PcAt.moved {w w' : World} {L : List Pc} {S : List Nat} (h : PcAt w L) (hM : Moved w w' S) (hS : ∀ k ∈ pcBlks L, k ∉ S) : PcAt w' L := h.stays fun k hk => hM.block k (h.lt k hk) (hS k hk)
theorem PcAt.still {w w' : World} {L : List Pc} (h : PcAt w L) (hM : Moved w w' []) : PcAt w' L := h.moved hM fun _ _ h => by cases h
theorem PcAt.drewN {w : World} {L : List Pc} (h : PcAt w L) (n : Nat) : PcAt (w.drewN n) L := h.stays fun _ _ => rfl
set_option maxRecDepth 100000 in
theorem pend_nil (w : World) : Calls Tryd.prog 50 #[.pointer none] w fun r w' => r = .returned (.int .i64 ((0 : Nat) : Int)) ∧ ∃ k, w' = w.drewN k := by
  go_enter Tryd.func50, Tryd.ntmps50
  go_wp2
  go_ret
  exact ⟨rfl, 0, rfl⟩
set_option maxRecDepth 100000 in
theorem pend_raw (p a n c : Nat) (A : Option Addr) (w : World) (c1 : w.cell? ⟨p, 1, none⟩ = some (.int .i64 a)) (c2 : w.cell? ⟨p, 2, none⟩ = some (.slice A n c)) (h : a + n ≤ 35184372088832) :
    Calls Tryd.prog 50 #[.pointer (some ⟨p, 0, none⟩)] w fun r w' => r = .returned (.int .i64 ((a + n : Nat) : Int)) ∧ ∃ k, w' = w.drewN k := by
  have e1 : IntKind.i64.wrap ((a : Int) + (n : Int)) = ((a + n : Nat) : Int) := by rw [IntWalk.i64_in _ (by omega)]; omega
  go_enter Tryd.func50, Tryd.ntmps50
  go_wp2
  go_quiet (fail)
  go_wp2
  go_ret
  exact ⟨rfl, _, rfl⟩
theorem pend_any (L : List Pc) (w : World) (h : PcAt w L) (hm : (pcBytes L).length ≤ 35184372088832) :
    Calls Tryd.prog 50 #[ptr L] w fun r w' => r = .returned (.int .i64 (pcBytes L).length) ∧ ∃ k, w' = w.drewN k := by
  rcases L with _ | ⟨c, r⟩
  · exact pend_nil w
  · have e : (pcBytes (c :: r)).length = (pcBytes r).length + c.ys.length := by rw [pcBytes, List.length_append]
    rw [e]
    exact pend_raw c.p _ _ _ _ w (cell_at h.1 1 rfl) (cell_at h.1 2 rfl) (by omega)
end Dk
end Go.Proofs.YtekleamkpfeifaaDoor
