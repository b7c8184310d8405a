/-
  WORDS for memory: slices of whole numbers of any kind that read as a list (NRow); blocks of known cells; what a call does to the blocks that it is handed (Moved, Step).
-/
import Derived.WalkKit
import Derived.ProofKit
import Derived.WalkLawsBesides
import Derived.WalkSpells
import Derived.IntWalk
import Derived.Below
import Derived.OneCell
import Derived.Laws.AppendOwn
import Derived.Laws.OwnMore
import Derived.Laws.AppendOwnNone
import Derived.OwnWalk
import Derived.ArgAppend
import Derived.Lib.Hide
namespace Go.Proofs.Ytpaklljcbmimfaa
open Go.RowKit

/-! ### rows -/
def NRow (k : IntKind) (w : World) (A : Option Addr) (xs : List Int) : Prop :=
  ∀ (i : Nat) (x : Int), xs[i]? = some x → ∃ b off, A = some ⟨b, off, none⟩ ∧ w.cell? ⟨b, off + i, none⟩ = some (.int k x)

theorem NRow.none_ (k : IntKind) (w : World) (A : Option Addr) : NRow k w A [] := fun i x h => by simp at h
theorem NRow.keep {k : IntKind} {w w' : World} {A : Option Addr} {xs : List Int} (h : NRow k w A xs) (hk : ∀ p : Addr, p.block < w.heap.size → w'.cell? p = w.cell? p) : NRow k w' A xs := by
  intro i x hx
  obtain ⟨b, off, e, hc⟩ := h i x hx
  exact ⟨b, off, e, (hk _ (World.block_lt_of_cell? w _ hc)).trans hc⟩
theorem NRow.below {k : IntKind} {w w' : World} {A : Option Addr} {xs : List Int} {B : Nat} (h : NRow k w A xs) (hb : Below B w w') (hB : w.heap.size ≤ B) : NRow k w' A xs :=
  h.keep fun _ hp => hb.cell (Nat.lt_of_lt_of_le hp hB)
theorem NRow.drewN {k : IntKind} {w : World} {A : Option Addr} {xs : List Int} (h : NRow k w A xs) (n : Nat) : NRow k (w.drewN n) A xs := h
theorem NRow.drew {k : IntKind} {w : World} {A : Option Addr} {xs : List Int} (h : NRow k w A xs) : NRow k w.drew A xs := h
theorem NRow.alloc {k : IntKind} {w : World} {A : Option Addr} {xs : List Int} (h : NRow k w A xs) (o : Obj) : NRow k (w.alloc o) A xs :=
  h.keep fun p hp => World.cell?_alloc_lt w o p hp
theorem NRow.take {k : IntKind} {w : World} {A : Option Addr} {xs : List Int} (h : NRow k w A xs) (n : Nat) : NRow k w A (xs.take n) := by
  intro i x hx
  rw [List.getElem?_take] at hx
  split at hx
  · exact h i x hx
  · cases hx
theorem add_none_ (b off i : Nat) : (⟨b, off, none⟩ : Addr).add i = ⟨b, off + i, none⟩ := by
  unfold Addr.add; split <;> simp_all
theorem NRow.drop {k : IntKind} {w : World} {b off : Nat} {xs : List Int} (h : NRow k w (some ⟨b, off, none⟩) xs) (n : Nat) : NRow k w (some ⟨b, off + n, none⟩) (xs.drop n) := by
  intro i x hx
  rw [List.getElem?_drop] at hx
  obtain ⟨b', off', e, hc⟩ := h (n + i) x hx
  injection e with e
  injection e with e1 e2
  subst e1 e2
  exact ⟨b, off + n, rfl, by rw [Nat.add_assoc]; exact hc⟩
/-- What the shell tells of a slice of whole numbers that came in. -/
theorem NRow.of_cells {k : IntKind} {w : World} {x : Addr} {len : Nat} {zs : List Int} (hl : len ≤ zs.length) (hcell : ∀ i, i < zs.length → w.cell? (x.add i) = some (.int k (zs.getD i 0))) :
    NRow k w (some x) (zs.take len) := by
  intro i v hv
  obtain ⟨b, off, spot⟩ := x
  rw [List.getElem?_take] at hv
  split at hv
  · rename_i hi
    have hc := hcell i (by omega)
    have hc0 := hcell 0 (by omega)
    have hs : spot = none := by simpa [Addr.add] using World.cell?_spot hc0
    subst hs
    rw [add_none_] at hc
    refine ⟨b, off, rfl, ?_⟩
    rw [hc, List.getD_eq_getElem?_getD, hv]
    rfl
  · cases hv
/-- What the call owns reads as what it owns. -/
theorem NRow.of_own {k : IntKind} {w : World} {base : Nat} {e : TypeId} {A : Option Addr} {n c : Nat} {xs : List Int} (h : w.ownsRow base e 1 (.slice A n c) n (xs.map (Value.int k))) : NRow k w A xs := by
  intro i x hx
  rcases h.2 with ⟨hv, hn⟩ | ⟨g, cap, cur, hv, _, hh, _, _, _, ht⟩
  · have := h.1
    subst hn
    simp at this
    subst this
    simp at hx
  · have hA : A = some ⟨g, 0, none⟩ := by injection hv
    refine ⟨g, 0, hA, ?_⟩
    have := h.cells (g := g) (by rw [hA]; rfl) i (.int k x) (by rw [List.getElem?_map, hx]; rfl)
    rw [add_none_] at this
    exact this
theorem nrow_news {k : IntKind} {w : World} {ad : Addr} {xs : List Int} (hA : NRow k w (some ad) xs) : ∀ (j : Nat) (u : Value), (xs.map (Value.int k))[j]? = some u → w.cell? (ad.add j) = some u := by
  intro j u hu
  rw [List.getElem?_map] at hu
  rcases hx : xs[j]? with _ | x
  · rw [hx] at hu; cases hu
  · rw [hx] at hu
    obtain ⟨b, off, e, hc⟩ := hA j x hx
    obtain rfl : ad = ⟨b, off, none⟩ := by injection e
    rw [add_none_, hc]; exact hu
theorem nums_one (k : IntKind) (xs : List Int) : ∀ u ∈ xs.map (Value.int k), u.oneCell' = true := by
  intro u hu
  rw [List.mem_map] at hu
  obtain ⟨x, _, rfl⟩ := hu
  rfl
/-- 'append(out, xs...)' onto a row of the call's own, whatever slice of numbers xs is. -/
theorem wpList_append_nrow {P : Program} {w : World} {ops : Array Oper} {rest : List Oper} {o : Oper} {a : Act} {Q : Exit → Act → World → Prop} (hgd : o.guard = none) (s x : Operand) (t : TypeId)
    (ho : o.op = .call { callee := .builtin .append, args := #[s, x], argTypes := #[t, t] })
    (base : Nat) (e : TypeId) (i : TypeInfo) (k : IntKind) (ht : P.underlying t = some (.slice e)) (hi : P.info? e = some i) (hz : i.zero = some (.int k 0)) (hsize : i.size = 1) (by_ : Nat) (hby : i.bytes = by_) (hby8 : by_ ≤ 8)
    (v : Value) (n : Nat) (xs : List Value) (hs : a.eval s = v) (hown : w.ownsRow base e 1 v n xs)
    (A : Option Addr) (c : Nat) (ys : List Int) (hx : a.eval x = .slice A ys.length c) (hA : NRow k w A ys) (hc : A = none → c = 0)
    (hb : (n + ys.length) * 8 ≤ 140737488355328) (hbase : base ≤ w.heap.size)
    (h : ∀ v' w', w'.ownsRow base e 1 v' (n + ys.length) (xs ++ ys.map (Value.int k)) → w.grownBy w' v.ownBlock → wpList P ops Q rest (a.put o.dst v') w') : wpList P ops Q (o :: rest) a w := by
  rcases A with _ | ad
  · have hys : ys = [] := by
      rcases ys with _ | ⟨y, r⟩
      · rfl
      · obtain ⟨_, _, h', _⟩ := hA 0 y (by simp)
        cases h'
    subst hys
    have hc0 := hc rfl
    subst hc0
    exact wpList_append_own_none hgd s x t ho base e i 1 ht hi v n xs hs hown hx (h v w (by simpa using hown) ⟨rfl, rfl, rfl, Nat.le_refl _, fun _ _ _ => rfl⟩)
  · have hm : (n + ys.length) * by_ ≤ (n + ys.length) * 8 := Nat.mul_le_mul_left _ hby8
    exact wpList_append_own w hgd s x t ho base e i (.int k 0) 1 by_ ht hi hz hsize hby rfl (by decide) v n xs hs hown ad ys.length c (ys.map (Value.int k)) hx (by simp) (nrow_news hA) (nums_one k ys)
      (by unfold maxLen; omega) (by omega) hbase fun v' w' h1 h2 _ => h v' w' h1 h2

/-! ### blocks -/
/-- But for the blocks of S, and new ones, w' is as w was. -/
structure Moved (w w' : World) (S : List Nat) : Prop where
  os : w'.os = w.os
  tape : w'.tape = w.tape
  output : w'.output = w.output
  size : w.heap.size ≤ w'.heap.size
  block : ∀ k, k < w.heap.size → k ∉ S → w'.heap[k]? = w.heap[k]?
/-- What the blocks of an object become: those it had, or new ones; nothing else is moved. -/
def Step (w w' : World) (S S' : List Nat) : Prop := Moved w w' S ∧ ∀ k ∈ S', k ∈ S ∨ w.heap.size ≤ k

theorem Moved.refl (w : World) (S : List Nat) : Moved w w S := ⟨rfl, rfl, rfl, Nat.le_refl _, fun _ _ _ => rfl⟩
theorem Moved.mono {w w' : World} {S T : List Nat} (h : Moved w w' S) (hs : ∀ k ∈ S, k ∈ T) : Moved w w' T := ⟨h.os, h.tape, h.output, h.size, fun k hk hn => h.block k hk fun hm => hn (hs k hm)⟩
theorem Moved.trans {w w1 w2 : World} {S T : List Nat} (h : Moved w w1 S) (g : Moved w1 w2 T) (ht : ∀ k ∈ T, k ∈ S ∨ w.heap.size ≤ k) : Moved w w2 S :=
  ⟨g.os.trans h.os, g.tape.trans h.tape, g.output.trans h.output, Nat.le_trans h.size g.size,
    fun k hk hn => (g.block k (Nat.lt_of_lt_of_le hk h.size) fun hm => by rcases ht k hm with hm | hm; exact hn hm; omega).trans (h.block k hk hn)⟩
theorem Moved.drew {w w' : World} {S : List Nat} (h : Moved w w' S) : Moved w w'.drew S := ⟨h.os, h.tape, h.output, h.size, h.block⟩
theorem Moved.drewN {w w' : World} {S : List Nat} (h : Moved w w' S) (n : Nat) : Moved w (w'.drewN n) S := ⟨h.os, h.tape, h.output, h.size, h.block⟩
theorem Moved.alloc {w w' : World} {S : List Nat} (h : Moved w w' S) (o : Obj) : Moved w (w'.alloc o) S :=
  ⟨h.os, h.tape, h.output, Nat.le_trans h.size (by simp), fun k hk hn => (Below.heap_alloc w' o k (Nat.lt_of_lt_of_le hk h.size)).trans (h.block k hk hn)⟩
theorem Moved.setCell {w w' : World} {S : List Nat} (h : Moved w w' S) {p : Addr} (hp : p.block ∈ S ∨ w.heap.size ≤ p.block) (u : Value) : Moved w (w'.setCell p u) S :=
  ⟨h.os, h.tape, h.output, Nat.le_trans h.size (by simp), fun k hk hn => (Below.heap_setCell w' p u k (fun e => by rcases hp with hp | hp; exact hn (e ▸ hp); omega)).trans (h.block k hk hn)⟩
theorem Moved.grown {w w' w'' : World} {S : List Nat} {row : Option Nat} (h : Moved w w' S) (hg : w'.grownBy w'' row) (hr : ∀ k, row = some k → k ∈ S ∨ w.heap.size ≤ k) : Moved w w'' S :=
  ⟨hg.os.trans h.os, hg.tape.trans h.tape, hg.output.trans h.output, Nat.le_trans h.size hg.size,
    fun k hk hn => (hg.block k (Nat.lt_of_lt_of_le hk h.size) (fun e => by rcases hr k e.symm with hm | hm; exact hn hm; omega)).trans (h.block k hk hn)⟩
theorem Moved.below {w w' : World} {S : List Nat} (h : Moved w w' S) {B : Nat} (hB : B ≤ w.heap.size) (hs : ∀ k ∈ S, B ≤ k) : Below B w w' :=
  ⟨h.os, h.tape, h.output, h.size, fun k hk => h.block k (Nat.lt_of_lt_of_le hk hB) (fun hm => by have := hs k hm; omega)⟩
theorem Moved.of_below {w w' : World} (h : Below w.heap.size w w') (S : List Nat) : Moved w w' S := ⟨h.os, h.tape, h.output, h.size, fun k hk _ => h.block k hk⟩
theorem Step.trans {w w1 w2 : World} {S T U : List Nat} (h : Step w w1 S T) (g : Step w1 w2 T U) : Step w w2 S U :=
  ⟨h.1.trans g.1 h.2, fun k hk => by
    rcases g.2 k hk with hk | hk
    · exact h.2 k hk
    · exact .inr (Nat.le_trans h.1.size hk)⟩
theorem Step.refl (w : World) (S : List Nat) : Step w w S S := ⟨Moved.refl w S, fun _ hk => .inl hk⟩

/-- The block of a slice's value. -/
def rowOf (v : Value) : List Nat := match v.ownBlock with | some g => [g] | none => []
theorem mem_rowOf {v : Value} {k : Nat} : k ∈ rowOf v ↔ v.ownBlock = some k := by
  unfold rowOf; cases h : v.ownBlock <;> simp [eq_comm]
/-- Owned rows stay where their blocks stay. -/
theorem own_stays {w w' : World} {base : Nat} {e : TypeId} {size : Nat} {v : Value} {n : Nat} {xs : List Value} (h : w.ownsRow base e size v n xs) (hk : ∀ k ∈ rowOf v, w'.heap[k]? = w.heap[k]?) : w'.ownsRow base e size v n xs := by
  refine ⟨h.1, ?_⟩
  rcases h.2 with h2 | ⟨g, cap, cur, hv, hg, hh, r⟩
  · exact .inl h2
  · exact .inr ⟨g, cap, cur, hv, hg, by rw [hk g (by subst hv; simp [mem_rowOf, Value.ownBlock])]; exact hh, r⟩
theorem own_lt {w : World} {base : Nat} {e : TypeId} {size : Nat} {v : Value} {n : Nat} {xs : List Value} (h : w.ownsRow base e size v n xs) : ∀ k ∈ rowOf v, k < w.heap.size := fun k hk => (h.lt k (mem_rowOf.1 hk)).2
theorem cell_at {w : World} {b : Nat} {cs : Array Value} {t : TypeId} (h : w.heap[b]? = some (.cells cs t (0, 0))) (j : Nat) {v : Value} (hv : cs[j]? = some v) : w.cell? ⟨b, j, none⟩ = some v := by
  rw [cell_of_row w b j cs t (0, 0) h]; exact hv
theorem free_at {w : World} {b : Nat} {cs : Array Value} {t : TypeId} (h : w.heap[b]? = some (.cells cs t (0, 0))) (j : Nat) : w.frozen? ⟨b, j, none⟩ = false := frozen_of_row w b j cs t h
theorem own_len {w : World} {base : Nat} {e : TypeId} {v : Value} {n : Nat} {k : IntKind} {xs : List Int} (h : w.ownsRow base e 1 v n (xs.map (Value.int k))) : xs.length = n := by
  have := h.1; simpa using this
theorem own_shape {w : World} {base : Nat} {e : TypeId} {v : Value} {n : Nat} {xs : List Value} (h : w.ownsRow base e 1 v n xs) : ∃ A c, v = .slice A n c ∧ (A = none → c = 0) ∧ n ≤ c ∧ c ≤ 9223372036854775807 := by
  rcases h.2 with ⟨rfl, rfl⟩ | ⟨g, cap, cur, rfl, _, _, hc, hm, _⟩
  · exact ⟨none, 0, rfl, fun _ => rfl, by omega, by omega⟩
  · exact ⟨_, _, rfl, (fun hA => by cases hA), hc, by unfold maxLen at hm; omega⟩
/-- A row that the call owns, as a slice that reads. -/
theorem own_nrow {w : World} {base : Nat} {e : TypeId} {v : Value} {n : Nat} {k : IntKind} {xs : List Int} (h : w.ownsRow base e 1 v n (xs.map (Value.int k))) :
    ∃ A c, v = .slice A n c ∧ NRow k w A xs ∧ (A = none → c = 0) ∧ n ≤ c ∧ c ≤ 9223372036854775807 := by
  rcases h.2 with ⟨rfl, rfl⟩ | ⟨g, cap, cur, rfl, _, _, hc, hm, _⟩
  · exact ⟨none, 0, rfl, NRow.of_own h, fun _ => rfl, by omega, by omega⟩
  · exact ⟨_, _, rfl, NRow.of_own h, (fun hA => by cases hA), hc, by unfold maxLen at hm; omega⟩

theorem nrow_moved {k : IntKind} {w w' : World} {A : Option Addr} {n c : Nat} {xs : List Int} {S : List Nat} (h : NRow k w A xs) (hm : Moved w w' S) (hS : ∀ b ∈ rowOf (.slice A n c), b ∉ S) : NRow k w' A xs := by
  intro i x hx
  obtain ⟨b, off, rfl, hc⟩ := h i x hx
  refine ⟨b, off, rfl, ?_⟩
  have := hm.block b (World.block_lt_of_cell? w _ hc) (hS b (by simp [mem_rowOf, Value.ownBlock]))
  rw [World.cell?_of_block (w := w) this]; exact hc
theorem nrow_stays {k : IntKind} {w w' : World} {A : Option Addr} {n c : Nat} {xs : List Int} (h : NRow k w A xs) (hS : ∀ b ∈ rowOf (.slice A n c), w'.heap[b]? = w.heap[b]?) : NRow k w' A xs := by
  intro i x hx
  obtain ⟨b, off, rfl, hc⟩ := h i x hx
  refine ⟨b, off, rfl, ?_⟩
  rw [World.cell?_of_block (w := w) (hS b (by simp [mem_rowOf, Value.ownBlock]))]; exact hc

/-! ### append onto a row of the call's own: where its blocks go -/
theorem nrow_lit (k : IntKind) (w : World) (x : Int) (e : TypeId) : NRow k (w.alloc (.cells #[.int k x] e)) (some ⟨w.heap.size, 0, none⟩) [x] := by
  intro i y hy
  rcases i with _ | i
  · simp at hy; subst hy
    exact ⟨w.heap.size, 0, rfl, by rw [cell_of_row _ _ _ _ _ _ (heap_alloc_new w _)]; rfl⟩
  · simp at hy
theorem step_alloc (w : World) (o : Obj) (S : List Nat) : Step w (w.alloc o) S S := ⟨(Moved.refl w S).alloc o, fun _ h => .inl h⟩
theorem ownsRow_zero {w : World} {base : Nat} {e : TypeId} {size : Nat} {v : Value} {n : Nat} {xs : List Value} (h : w.ownsRow base e size v n xs) : w.ownsRow 0 e size v n xs := by
  refine ⟨h.1, ?_⟩
  rcases h.2 with h2 | ⟨g, cap, cur, hv, hg, r⟩
  · exact .inl h2
  · exact .inr ⟨g, cap, cur, hv, Nat.zero_le _, r⟩
theorem run_append_row {P : Program} (w : World) (t ty e : TypeId) (i : TypeInfo) (k : IntKind) (by_ : Nat) (ht : P.underlying t = some (.slice e)) (hi : P.info? e = some i) (hz : i.zero = some (.int k 0))
    (hsize : i.size = 1) (hby : i.bytes = by_) (v : Value) (n : Nat) (xs : List Value) (hown : w.ownsRow 0 e 1 v n xs) (A : Option Addr) (c : Nat) (ys : List Int) (hA : NRow k w A ys) (hc : A = none → c = 0)
    (h63 : n + ys.length ≤ maxLen) (hb : (n + ys.length) * by_ ≤ 140737488355328) :
    ∃ v' w', (Builtin.append_ #[t, t] ty #[v, .slice A ys.length c]).run P w = .ok v' w' ∧ w'.ownsRow 0 e 1 v' (n + ys.length) (xs ++ ys.map (Value.int k)) ∧ Step w w' (rowOf v) (rowOf v') := by
  rcases A with _ | ad
  · have hys : ys = [] := by
      rcases ys with _ | ⟨y, r⟩
      · rfl
      · obtain ⟨_, _, h', _⟩ := hA 0 y (by simp)
        cases h'
    subst hys
    have hc0 := hc rfl
    subst hc0
    exact ⟨v, w, run_append_owned_none (P := P) w 0 t ty e i 1 ht hi v n xs hown, by simpa using hown, Step.refl _ _⟩
  · have hnews := nrow_news hA
    have h1 := nums_one k ys
    rcases hown.2 with ⟨rfl, rfl⟩ | ⟨g, cap, cur, rfl, hbg, hg, hnc, hcm, hcs, htake⟩
    · have hx : xs = [] := List.eq_nil_of_length_eq_zero (by simpa using hown.1)
      subst hx
      obtain ⟨v', w', hr, ho, hgr, _⟩ := run_append_own (P := P) w w.heap.size t ty e i (.int k 0) 1 by_ ht hi hz hsize hby rfl (by decide) (.slice none 0 0) 0 [] (World.ownsRow_nil _ _ _ _) ad ys.length c (ys.map (Value.int k)) (by simp) hnews h1 h63 hb (Nat.le_refl _)
      exact ⟨v', w', hr, ownsRow_zero ho, (Moved.refl w _).grown hgr (fun k hk => .inl (mem_rowOf.2 hk)), fun k hk => .inr (ho.lt k (mem_rowOf.1 hk)).1⟩
    · by_cases hroom : n + ys.length ≤ cap
      · obtain ⟨w', hr, ho, hgr⟩ := run_append_fits (P := P) w 0 t ty e i 1 ht hi hsize g n cap xs hown ad ys.length c (ys.map (Value.int k)) (by simp) hnews h1 hroom
        exact ⟨_, w', hr, ho, (Moved.refl w _).grown hgr (fun k hk => .inl (by rw [mem_rowOf]; exact hk)), fun k hk => .inl hk⟩
      · obtain ⟨v', w', hr, ho, hgr⟩ := run_append_arg_grows (P := P) w t ty e i (.int k 0) 1 by_ ht hi hz hsize hby rfl (by decide) ⟨g, 0, none⟩ n cap xs hown.1 (hown.cells (g := g) rfl) ad ys.length c (ys.map (Value.int k)) (by simp) hnews (by omega) h63 hb
        exact ⟨v', w', hr, ownsRow_zero ho, (Moved.refl w _).grown hgr (fun k hk => by cases hk), fun k hk => .inr (ho.lt k (mem_rowOf.1 hk)).1⟩
/-- The walk's law: 'x = append(x, ys...)' onto a row of the call's own. -/
theorem wpList_append_row {P : Program} {w : World} {ops : Array Oper} {rest : List Oper} {o : Oper} {a : Act} {Q : Exit → Act → World → Prop} (hgd : o.guard = none) (s x : Operand) (t : TypeId)
    (ho : o.op = .call { callee := .builtin .append, args := #[s, x], argTypes := #[t, t] })
    (e : TypeId) (i : TypeInfo) (k : IntKind) (by_ : Nat) (ht : P.underlying t = some (.slice e)) (hi : P.info? e = some i) (hz : i.zero = some (.int k 0)) (hsize : i.size = 1) (hby : i.bytes = by_)
    (v : Value) (n : Nat) (xs : List Value) (hs : a.eval s = v) (hown : w.ownsRow 0 e 1 v n xs)
    (A : Option Addr) (m c : Nat) (ys : List Int) (hx : a.eval x = .slice A m c) (hm : ys.length = m) (hA : NRow k w A ys) (hc : A = none → c = 0)
    (h63 : n + m ≤ maxLen) (hb : (n + m) * by_ ≤ 140737488355328)
    (h : ∀ v' w', w'.ownsRow 0 e 1 v' (n + m) (xs ++ ys.map (Value.int k)) → Step w w' (rowOf v) (rowOf v') → wpList P ops Q rest (a.put o.dst v') w') : wpList P ops Q (o :: rest) a w := by
  subst hm
  refine wpList_plain hgd fun K hK' => ?_
  obtain ⟨v', w', hrun, r1, r2⟩ := run_append_row (P := P) w t o.type e i k by_ ht hi hz hsize hby v n xs hown A c ys hA hc h63 hb
  unfold Oper.wp
  simp [execOp, ho, resolve, invoke, builtin, hs, hx, hrun, Result.andThen]
  exact hK' _ _ (h v' w' r1 r2)
end Go.Proofs.Ytpaklljcbmimfaa
