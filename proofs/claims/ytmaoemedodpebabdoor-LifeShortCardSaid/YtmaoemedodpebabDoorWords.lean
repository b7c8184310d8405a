/-
  WORDS for slices of integers: 'IRow w A xs': the slice that begins at A reads as the numbers xs, nil and empty let in.
-/
import Derived.WalkKit
import Derived.ProofKit
import Derived.WalkLawsBesides
import Derived.WalkSpells
import Derived.IntWalk
import Derived.Below
import Derived.Laws.AppendOwn
import Derived.Laws.OwnMore
import Derived.Laws.AppendOwnNone
import Derived.OwnWalk
import Derived.Lib.Hide
namespace Go.Proofs.YtmaoemedodpebabDoor
open Go.RowKit

def IRow (w : World) (A : Option Addr) (xs : List Int) : Prop :=
  ∀ (i : Nat) (x : Int), xs[i]? = some x → ∃ b off, A = some ⟨b, off, none⟩ ∧ w.cell? ⟨b, off + i, none⟩ = some (.int .i64 x)

theorem IRow.none_ (w : World) (A : Option Addr) : IRow w A [] := fun i x h => by simp at h
theorem IRow.keep {w w' : World} {A : Option Addr} {xs : List Int} (h : IRow w A xs) (hk : ∀ p : Addr, p.block < w.heap.size → w'.cell? p = w.cell? p) : IRow w' A xs := by
  intro i x hx
  obtain ⟨b, off, e, hc⟩ := h i x hx
  exact ⟨b, off, e, (hk _ (World.block_lt_of_cell? w _ hc)).trans hc⟩
theorem IRow.below {w w' : World} {A : Option Addr} {xs : List Int} {B : Nat} (h : IRow w A xs) (hb : Below B w w') (hB : w.heap.size ≤ B) : IRow w' A xs :=
  h.keep fun _ hp => hb.cell (Nat.lt_of_lt_of_le hp hB)
theorem IRow.drewN {w : World} {A : Option Addr} {xs : List Int} (h : IRow w A xs) (n : Nat) : IRow (w.drewN n) A xs := h
theorem IRow.drew {w : World} {A : Option Addr} {xs : List Int} (h : IRow w A xs) : IRow w.drew A xs := h
theorem IRow.alloc {w : World} {A : Option Addr} {xs : List Int} (h : IRow w A xs) (o : Obj) : IRow (w.alloc o) A xs :=
  h.keep fun p hp => World.cell?_alloc_lt w o p hp
theorem IRow.take {w : World} {A : Option Addr} {xs : List Int} (h : IRow w A xs) (n : Nat) : IRow w A (xs.take n) := by
  intro i x hx
  rw [List.getElem?_take] at hx
  split at hx
  · exact h i x hx
  · cases hx

theorem add_none (b off i : Nat) : (⟨b, off, none⟩ : Addr).add i = ⟨b, off + i, none⟩ := by
  unfold Addr.add; split <;> simp_all

/-- What the shell tells of a slice of integers that came in. -/
theorem IRow.of_cells {w : World} {x : Addr} {len : Nat} {zs : List Int} (hl : len ≤ zs.length) (hcell : ∀ i, i < zs.length → w.cell? (x.add i) = some (.int .i64 (zs.getD i 0))) :
    IRow w (some x) (zs.take len) := by
  intro i v hv
  obtain ⟨b, off, spot⟩ := x
  rw [List.getElem?_take] at hv
  split at hv
  · rename_i hi
    have hc := hcell i (by omega)
    have hc0 := hcell 0 (by omega)
    have hs : spot = none := by simpa [Addr.add] using World.cell?_spot hc0
    subst hs
    rw [add_none] at hc
    refine ⟨b, off, rfl, ?_⟩
    rw [hc, List.getD_eq_getElem?_getD, hv]
    rfl
  · cases hv

/-- What the call owns reads as what it owns. -/
theorem IRow.of_own {w : World} {base : Nat} {e : TypeId} {A : Option Addr} {n c : Nat} {xs : List Int} (h : w.ownsRow base e 1 (.slice A n c) n (xs.map (Value.int .i64))) : IRow w A xs := by
  intro i x hx
  rcases h.2 with ⟨hv, hn⟩ | ⟨g, cap, cur, hv, _, hh, _, _, _, ht⟩
  · have := h.1
    subst hn
    simp at this
    subst this
    simp at hx
  · have hA : A = some ⟨g, 0, none⟩ := by injection hv
    refine ⟨g, 0, hA, ?_⟩
    have := h.cells (g := g) (by rw [hA]; rfl) i (.int .i64 x) (by rw [List.getElem?_map, hx]; rfl)
    rw [add_none] at this
    exact this
theorem below_drewN' {B : Nat} {a w : World} (h : Below B a w) (n : Nat) : Below B a (w.drewN n) := ⟨h.os, h.tape, h.output, h.size, h.block⟩
theorem own_form {w : World} {base : Nat} {e : TypeId} {v : Value} {n : Nat} {xs : List Value} (h : w.ownsRow base e 1 v n xs) (hn : 0 < n) :
    ∃ g cap, v = .slice (some ⟨g, 0, none⟩) n cap ∧ base ≤ g ∧ n ≤ cap ∧ cap ≤ maxLen ∧ g < w.heap.size := by
  rcases h.2 with ⟨_, h0⟩ | ⟨g, cap, cur, hv, hb, hh, h1, h2, _⟩
  · omega
  · exact ⟨g, cap, hv, hb, h1, h2, (Array.getElem?_eq_some_iff.1 hh).1⟩
/-- A slice that the call owns, as a slice that reads. -/
theorem own_reads {w : World} {base : Nat} {e : TypeId} {v : Value} {n : Nat} {xs : List Int} (h : w.ownsRow base e 1 v n (xs.map (Value.int .i64))) :
    ∃ A c, v = .slice A n c ∧ IRow w A xs ∧ (A = none → c = 0) ∧ xs.length = n := by
  have hl : xs.length = n := by have := h.1; simpa using this
  rcases h.2 with ⟨rfl, rfl⟩ | ⟨g, cap, cur, rfl, _⟩
  · exact ⟨none, 0, rfl, IRow.of_own h, fun _ => rfl, hl⟩
  · exact ⟨_, _, rfl, IRow.of_own h, (fun hA => by cases hA), hl⟩

theorem irow_news {w : World} {ad : Addr} {xs : List Int} (hA : IRow w (some ad) xs) : ∀ (j : Nat) (u : Value), (xs.map (Value.int .i64))[j]? = some u → w.cell? (ad.add j) = some u := by
  intro j u hu
  rw [List.getElem?_map] at hu
  rcases hx : xs[j]? with _ | x
  · rw [hx] at hu; cases hu
  · rw [hx] at hu
    obtain ⟨b, off, e, hc⟩ := hA j x hx
    obtain rfl : ad = ⟨b, off, none⟩ := by injection e
    rw [add_none, hc]; exact hu
theorem ints_one (xs : List Int) : ∀ u ∈ xs.map (Value.int .i64), u.oneCell' = true := by
  intro u hu
  rw [List.mem_map] at hu
  obtain ⟨x, _, rfl⟩ := hu
  rfl

/-- 'append(out, xs...)' onto a row of the call's own, whatever slice of integers xs is. -/
theorem wpList_append_irow {P : Program} {w : World} {ops : Array Oper} {rest : List Oper} {o : Oper} {a : Act} {Q : Exit → Act → World → Prop} (hgd : o.guard = none) (s x : Operand) (t : TypeId)
    (ho : o.op = .call { callee := .builtin .append, args := #[s, x], argTypes := #[t, t] })
    (base : Nat) (e : TypeId) (i : TypeInfo) (ht : P.underlying t = some (.slice e)) (hi : P.info? e = some i) (hz : i.zero = some (.int .i64 0)) (hsize : i.size = 1) (hby : i.bytes = 8)
    (v : Value) (n : Nat) (xs : List Value) (hs : a.eval s = v) (hown : w.ownsRow base e 1 v n xs)
    (A : Option Addr) (c : Nat) (ys : List Int) (hx : a.eval x = .slice A ys.length c) (hA : IRow w A ys) (hc : A = none → c = 0)
    (hb : (n + ys.length) * 8 ≤ 140737488355328) (hbase : base ≤ w.heap.size)
    (h : ∀ v' w', w'.ownsRow base e 1 v' (n + ys.length) (xs ++ ys.map (Value.int .i64)) → w.grownBy w' v.ownBlock → wpList P ops Q rest (a.put o.dst v') w') : wpList P ops Q (o :: rest) a w := by
  rcases A with _ | ad
  · have hys : ys = [] := by
      rcases ys with _ | ⟨y, r⟩
      · rfl
      · obtain ⟨_, _, h', _⟩ := hA 0 y (by simp)
        cases h'
    subst hys
    have hc0 := hc rfl
    subst hc0
    exact wpList_append_own_none hgd s x t ho base e i 1 ht hi v n xs hs hown hx (h v w (by simpa using hown) ⟨rfl, rfl, rfl, Nat.le_refl _, fun _ _ _ => rfl⟩)
  · exact wpList_append_own w hgd s x t ho base e i (.int .i64 0) 1 8 ht hi hz hsize hby rfl (by decide) v n xs hs hown ad ys.length c (ys.map (Value.int .i64)) hx (by simp) (irow_news hA) (ints_one ys)
      (by unfold maxLen; omega) hb hbase fun v' w' h1 h2 _ => h v' w' h1 h2
end Go.Proofs.YtmaoemedodpebabDoor
