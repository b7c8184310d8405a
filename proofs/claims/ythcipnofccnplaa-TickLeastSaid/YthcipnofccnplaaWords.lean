/-
  WORDS for slices of integers: 'IRow w A xs': the slice that begins at A reads as the numbers xs, nil and empty let in.
-/
import Derived.WalkKit
import Derived.ProofKit
import Derived.WalkLawsBesides
import Derived.WalkSpells
import Derived.IntWalk
import Derived.Below
import Derived.Laws.AppendOwn
import Derived.Laws.OwnMore
import Derived.Laws.AppendOwnNone
import Derived.OwnWalk
import Derived.Lib.Hide
namespace Go.Proofs.Ythcipnofccnplaa
open Go.RowKit

def IRow (w : World) (A : Option Addr) (xs : List Int) : Prop :=
  ∀ (i : Nat) (x : Int), xs[i]? = some x → ∃ b off, A = some ⟨b, off, none⟩ ∧ w.cell? ⟨b, off + i, none⟩ = some (.int .i64 x)

theorem IRow.none_ (w : World) (A : Option Addr) : IRow w A [] := fun i x h => by simp at h
theorem IRow.keep {w w' : World} {A : Option Addr} {xs : List Int} (h : IRow w A xs) (hk : ∀ p : Addr, p.block < w.heap.size → w'.cell? p = w.cell? p) : IRow w' A xs := by
  intro i x hx
  obtain ⟨b, off, e, hc⟩ := h i x hx
  exact ⟨b, off, e, (hk _ (World.block_lt_of_cell? w _ hc)).trans hc⟩
theorem IRow.below {w w' : World} {A : Option Addr} {xs : List Int} {B : Nat} (h : IRow w A xs) (hb : Below B w w') (hB : w.heap.size ≤ B) : IRow w' A xs :=
  h.keep fun _ hp => hb.cell (Nat.lt_of_lt_of_le hp hB)
theorem IRow.drewN {w : World} {A : Option Addr} {xs : List Int} (h : IRow w A xs) (n : Nat) : IRow (w.drewN n) A xs := h
theorem IRow.drew {w : World} {A : Option Addr} {xs : List Int} (h : IRow w A xs) : IRow w.drew A xs := h
theorem IRow.alloc {w : World} {A : Option Addr} {xs : List Int} (h : IRow w A xs) (o : Obj) : IRow (w.alloc o) A xs :=
  h.keep fun p hp => World.cell?_alloc_lt w o p hp
theorem IRow.take {w : World} {A : Option Addr} {xs : List Int} (h : IRow w A xs) (n : Nat) : IRow w A (xs.take n) := by
  intro i x hx
  rw [List.getElem?_take] at hx
  split at hx
  · exact h i x hx
  · cases hx

theorem add_none (b off i : Nat) : (⟨b, off, none⟩ : Addr).add i = ⟨b, off + i, none⟩ := by
  unfold Addr.add; split <;> simp_all

/-- What the shell tells of a slice of integers that came in. -/
theorem IRow.of_cells {w : World} {x : Addr} {len : Nat} {zs : List Int} (hl : len ≤ zs.length) (hcell : ∀ i, i < zs.length → w.cell? (x.add i) = some (.int .i64 (zs.getD i 0))) :
    IRow w (some x) (zs.take len) := by
  intro i v hv
  obtain ⟨b, off, spot⟩ := x
  rw [List.getElem?_take] at hv
  split at hv
  · rename_i hi
    have hc := hcell i (by omega)
    have hc0 := hcell 0 (by omega)
    have hs : spot = none := by simpa [Addr.add] using World.cell?_spot hc0
    subst hs
    rw [add_none] at hc
    refine ⟨b, off, rfl, ?_⟩
    rw [hc, List.getD_eq_getElem?_getD, hv]
    rfl
  · cases hv

/-- What the call owns reads as what it owns. -/
theorem IRow.of_own {w : World} {base : Nat} {e : TypeId} {A : Option Addr} {n c : Nat} {xs : List Int} (h : w.ownsRow base e 1 (.slice A n c) n (xs.map (Value.int .i64))) : IRow w A xs := by
  intro i x hx
  rcases h.2 with ⟨hv, hn⟩ | ⟨g, cap, cur, hv, _, hh, _, _, _, ht⟩
  · have := h.1
    subst hn
    simp at this
    subst this
    simp at hx
  · have hA : A = some ⟨g, 0, none⟩ := by injection hv
    refine ⟨g, 0, hA, ?_⟩
    have := h.cells (g := g) (by rw [hA]; rfl) i (.int .i64 x) (by rw [List.getElem?_map, hx]; rfl)
    rw [add_none] at this
    exact this
theorem below_drewN' {B : Nat} {a w : World} (h : Below B a w) (n : Nat) : Below B a (w.drewN n) := ⟨h.os, h.tape, h.output, h.size, h.block⟩
theorem own_form {w : World} {base : Nat} {e : TypeId} {v : Value} {n : Nat} {xs : List Value} (h : w.ownsRow base e 1 v n xs) (hn : 0 < n) :
    ∃ g cap, v = .slice (some ⟨g, 0, none⟩) n cap ∧ base ≤ g ∧ n ≤ cap ∧ cap ≤ maxLen ∧ g < w.heap.size := by
  rcases h.2 with ⟨_, h0⟩ | ⟨g, cap, cur, hv, hb, hh, h1, h2, _⟩
  · omega
  · exact ⟨g, cap, hv, hb, h1, h2, (Array.getElem?_eq_some_iff.1 hh).1⟩
end Go.Proofs.Ythcipnofccnplaa
