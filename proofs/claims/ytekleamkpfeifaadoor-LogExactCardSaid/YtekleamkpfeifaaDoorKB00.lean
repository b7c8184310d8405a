/-
  8 texts in one: Mem, BytesPlain, KeepBytesIs, KeepBytes, Crc, FrameRefSum, MemStep, FrameRefSeal.
-/
import Derived.WalkKit
import Derived.ProofKit
import Derived.WalkLawsBesides
import Derived.WalkSpells
import Derived.IntWalk
import Derived.Below
import Derived.OneCell
import Derived.Laws.AppendOwn
import Derived.Laws.OwnMore
import Derived.Laws.AppendOwnNone
import Derived.OwnWalk
import Derived.ArgAppend
import Derived.Lib.Hide
import Derived.Test.YtekleamkpfeifaaDoorProg
import Derived.Test.YtekleamkpfeifaaDoorChecked
import Derived.Laws.BytesArg
import Derived.Deep.RegionLaw
import Derived.Deep.QuietTactic
import Derived.BigQuiet

/-
  WORDS for memory: slices of whole numbers of any kind that read as a list (NRow); blocks of known cells; what a call does to the blocks that it is handed (Moved, Step).
-/
namespace Go.Proofs.YtekleamkpfeifaaDoor
open Go.RowKit

/-! ### rows -/
def NRow (k : IntKind) (w : World) (A : Option Addr) (xs : List Int) : Prop :=
  ∀ (i : Nat) (x : Int), xs[i]? = some x → ∃ b off, A = some ⟨b, off, none⟩ ∧ w.cell? ⟨b, off + i, none⟩ = some (.int k x)

theorem NRow.none_ (k : IntKind) (w : World) (A : Option Addr) : NRow k w A [] := fun i x h => by simp at h
theorem NRow.keep {k : IntKind} {w w' : World} {A : Option Addr} {xs : List Int} (h : NRow k w A xs) (hk : ∀ p : Addr, p.block < w.heap.size → w'.cell? p = w.cell? p) : NRow k w' A xs := by
  intro i x hx
  obtain ⟨b, off, e, hc⟩ := h i x hx
  exact ⟨b, off, e, (hk _ (World.block_lt_of_cell? w _ hc)).trans hc⟩
theorem NRow.below {k : IntKind} {w w' : World} {A : Option Addr} {xs : List Int} {B : Nat} (h : NRow k w A xs) (hb : Below B w w') (hB : w.heap.size ≤ B) : NRow k w' A xs :=
  h.keep fun _ hp => hb.cell (Nat.lt_of_lt_of_le hp hB)
theorem NRow.drewN {k : IntKind} {w : World} {A : Option Addr} {xs : List Int} (h : NRow k w A xs) (n : Nat) : NRow k (w.drewN n) A xs := h
theorem NRow.drew {k : IntKind} {w : World} {A : Option Addr} {xs : List Int} (h : NRow k w A xs) : NRow k w.drew A xs := h
theorem NRow.alloc {k : IntKind} {w : World} {A : Option Addr} {xs : List Int} (h : NRow k w A xs) (o : Obj) : NRow k (w.alloc o) A xs :=
  h.keep fun p hp => World.cell?_alloc_lt w o p hp
theorem NRow.take {k : IntKind} {w : World} {A : Option Addr} {xs : List Int} (h : NRow k w A xs) (n : Nat) : NRow k w A (xs.take n) := by
  intro i x hx
  rw [List.getElem?_take] at hx
  split at hx
  · exact h i x hx
  · cases hx
theorem add_none_ (b off i : Nat) : (⟨b, off, none⟩ : Addr).add i = ⟨b, off + i, none⟩ := by
  unfold Addr.add; split <;> simp_all
theorem NRow.drop {k : IntKind} {w : World} {b off : Nat} {xs : List Int} (h : NRow k w (some ⟨b, off, none⟩) xs) (n : Nat) : NRow k w (some ⟨b, off + n, none⟩) (xs.drop n) := by
  intro i x hx
  rw [List.getElem?_drop] at hx
  obtain ⟨b', off', e, hc⟩ := h (n + i) x hx
  injection e with e
  injection e with e1 e2
  subst e1 e2
  exact ⟨b, off + n, rfl, by rw [Nat.add_assoc]; exact hc⟩
/-- What the shell tells of a slice of whole numbers that came in. -/
theorem NRow.of_cells {k : IntKind} {w : World} {x : Addr} {len : Nat} {zs : List Int} (hl : len ≤ zs.length) (hcell : ∀ i, i < zs.length → w.cell? (x.add i) = some (.int k (zs.getD i 0))) :
    NRow k w (some x) (zs.take len) := by
  intro i v hv
  obtain ⟨b, off, spot⟩ := x
  rw [List.getElem?_take] at hv
  split at hv
  · rename_i hi
    have hc := hcell i (by omega)
    have hc0 := hcell 0 (by omega)
    have hs : spot = none := by simpa [Addr.add] using World.cell?_spot hc0
    subst hs
    rw [add_none_] at hc
    refine ⟨b, off, rfl, ?_⟩
    rw [hc, List.getD_eq_getElem?_getD, hv]
    rfl
  · cases hv
/-- What the call owns reads as what it owns. -/
theorem NRow.of_own {k : IntKind} {w : World} {base : Nat} {e : TypeId} {A : Option Addr} {n c : Nat} {xs : List Int} (h : w.ownsRow base e 1 (.slice A n c) n (xs.map (Value.int k))) : NRow k w A xs := by
  intro i x hx
  rcases h.2 with ⟨hv, hn⟩ | ⟨g, cap, cur, hv, _, hh, _, _, _, ht⟩
  · have := h.1
    subst hn
    simp at this
    subst this
    simp at hx
  · have hA : A = some ⟨g, 0, none⟩ := by injection hv
    refine ⟨g, 0, hA, ?_⟩
    have := h.cells (g := g) (by rw [hA]; rfl) i (.int k x) (by rw [List.getElem?_map, hx]; rfl)
    rw [add_none_] at this
    exact this
theorem nrow_news {k : IntKind} {w : World} {ad : Addr} {xs : List Int} (hA : NRow k w (some ad) xs) : ∀ (j : Nat) (u : Value), (xs.map (Value.int k))[j]? = some u → w.cell? (ad.add j) = some u := by
  intro j u hu
  rw [List.getElem?_map] at hu
  rcases hx : xs[j]? with _ | x
  · rw [hx] at hu; cases hu
  · rw [hx] at hu
    obtain ⟨b, off, e, hc⟩ := hA j x hx
    obtain rfl : ad = ⟨b, off, none⟩ := by injection e
    rw [add_none_, hc]; exact hu
theorem nums_one (k : IntKind) (xs : List Int) : ∀ u ∈ xs.map (Value.int k), u.oneCell' = true := by
  intro u hu
  rw [List.mem_map] at hu
  obtain ⟨x, _, rfl⟩ := hu
  rfl
/-- 'append(out, xs...)' onto a row of the call's own, whatever slice of numbers xs is. -/
theorem wpList_append_nrow {P : Program} {w : World} {ops : Array Oper} {rest : List Oper} {o : Oper} {a : Act} {Q : Exit → Act → World → Prop} (hgd : o.guard = none) (s x : Operand) (t : TypeId)
    (ho : o.op = .call { callee := .builtin .append, args := #[s, x], argTypes := #[t, t] })
    (base : Nat) (e : TypeId) (i : TypeInfo) (k : IntKind) (ht : P.underlying t = some (.slice e)) (hi : P.info? e = some i) (hz : i.zero = some (.int k 0)) (hsize : i.size = 1) (by_ : Nat) (hby : i.bytes = by_) (hby8 : by_ ≤ 8)
    (v : Value) (n : Nat) (xs : List Value) (hs : a.eval s = v) (hown : w.ownsRow base e 1 v n xs)
    (A : Option Addr) (c : Nat) (ys : List Int) (hx : a.eval x = .slice A ys.length c) (hA : NRow k w A ys) (hc : A = none → c = 0)
    (hb : (n + ys.length) * 8 ≤ 140737488355328) (hbase : base ≤ w.heap.size)
    (h : ∀ v' w', w'.ownsRow base e 1 v' (n + ys.length) (xs ++ ys.map (Value.int k)) → w.grownBy w' v.ownBlock → wpList P ops Q rest (a.put o.dst v') w') : wpList P ops Q (o :: rest) a w := by
  rcases A with _ | ad
  · have hys : ys = [] := by
      rcases ys with _ | ⟨y, r⟩
      · rfl
      · obtain ⟨_, _, h', _⟩ := hA 0 y (by simp)
        cases h'
    subst hys
    have hc0 := hc rfl
    subst hc0
    exact wpList_append_own_none hgd s x t ho base e i 1 ht hi v n xs hs hown hx (h v w (by simpa using hown) ⟨rfl, rfl, rfl, Nat.le_refl _, fun _ _ _ => rfl⟩)
  · have hm : (n + ys.length) * by_ ≤ (n + ys.length) * 8 := Nat.mul_le_mul_left _ hby8
    exact wpList_append_own w hgd s x t ho base e i (.int k 0) 1 by_ ht hi hz hsize hby rfl (by decide) v n xs hs hown ad ys.length c (ys.map (Value.int k)) hx (by simp) (nrow_news hA) (nums_one k ys)
      (by unfold maxLen; omega) (by omega) hbase fun v' w' h1 h2 _ => h v' w' h1 h2

/-! ### blocks -/
/-- But for the blocks of S, and new ones, w' is as w was. -/
structure Moved (w w' : World) (S : List Nat) : Prop where
  os : w'.os = w.os
  tape : w'.tape = w.tape
  output : w'.output = w.output
  size : w.heap.size ≤ w'.heap.size
  block : ∀ k, k < w.heap.size → k ∉ S → w'.heap[k]? = w.heap[k]?
/-- What the blocks of an object become: those it had, or new ones; nothing else is moved. -/
def Step (w w' : World) (S S' : List Nat) : Prop := Moved w w' S ∧ ∀ k ∈ S', k ∈ S ∨ w.heap.size ≤ k

theorem Moved.refl (w : World) (S : List Nat) : Moved w w S := ⟨rfl, rfl, rfl, Nat.le_refl _, fun _ _ _ => rfl⟩
theorem Moved.mono {w w' : World} {S T : List Nat} (h : Moved w w' S) (hs : ∀ k ∈ S, k ∈ T) : Moved w w' T := ⟨h.os, h.tape, h.output, h.size, fun k hk hn => h.block k hk fun hm => hn (hs k hm)⟩
theorem Moved.trans {w w1 w2 : World} {S T : List Nat} (h : Moved w w1 S) (g : Moved w1 w2 T) (ht : ∀ k ∈ T, k ∈ S ∨ w.heap.size ≤ k) : Moved w w2 S :=
  ⟨g.os.trans h.os, g.tape.trans h.tape, g.output.trans h.output, Nat.le_trans h.size g.size,
    fun k hk hn => (g.block k (Nat.lt_of_lt_of_le hk h.size) fun hm => by rcases ht k hm with hm | hm; exact hn hm; omega).trans (h.block k hk hn)⟩
theorem Moved.drew {w w' : World} {S : List Nat} (h : Moved w w' S) : Moved w w'.drew S := ⟨h.os, h.tape, h.output, h.size, h.block⟩
theorem Moved.drewN {w w' : World} {S : List Nat} (h : Moved w w' S) (n : Nat) : Moved w (w'.drewN n) S := ⟨h.os, h.tape, h.output, h.size, h.block⟩
theorem Moved.alloc {w w' : World} {S : List Nat} (h : Moved w w' S) (o : Obj) : Moved w (w'.alloc o) S :=
  ⟨h.os, h.tape, h.output, Nat.le_trans h.size (by simp), fun k hk hn => (Below.heap_alloc w' o k (Nat.lt_of_lt_of_le hk h.size)).trans (h.block k hk hn)⟩
theorem Moved.setCell {w w' : World} {S : List Nat} (h : Moved w w' S) {p : Addr} (hp : p.block ∈ S ∨ w.heap.size ≤ p.block) (u : Value) : Moved w (w'.setCell p u) S :=
  ⟨h.os, h.tape, h.output, Nat.le_trans h.size (by simp), fun k hk hn => (Below.heap_setCell w' p u k (fun e => by rcases hp with hp | hp; exact hn (e ▸ hp); omega)).trans (h.block k hk hn)⟩
theorem Moved.grown {w w' w'' : World} {S : List Nat} {row : Option Nat} (h : Moved w w' S) (hg : w'.grownBy w'' row) (hr : ∀ k, row = some k → k ∈ S ∨ w.heap.size ≤ k) : Moved w w'' S :=
  ⟨hg.os.trans h.os, hg.tape.trans h.tape, hg.output.trans h.output, Nat.le_trans h.size hg.size,
    fun k hk hn => (hg.block k (Nat.lt_of_lt_of_le hk h.size) (fun e => by rcases hr k e.symm with hm | hm; exact hn hm; omega)).trans (h.block k hk hn)⟩
theorem Moved.below {w w' : World} {S : List Nat} (h : Moved w w' S) {B : Nat} (hB : B ≤ w.heap.size) (hs : ∀ k ∈ S, B ≤ k) : Below B w w' :=
  ⟨h.os, h.tape, h.output, h.size, fun k hk => h.block k (Nat.lt_of_lt_of_le hk hB) (fun hm => by have := hs k hm; omega)⟩
theorem Moved.of_below {w w' : World} (h : Below w.heap.size w w') (S : List Nat) : Moved w w' S := ⟨h.os, h.tape, h.output, h.size, fun k hk _ => h.block k hk⟩
theorem Step.trans {w w1 w2 : World} {S T U : List Nat} (h : Step w w1 S T) (g : Step w1 w2 T U) : Step w w2 S U :=
  ⟨h.1.trans g.1 h.2, fun k hk => by
    rcases g.2 k hk with hk | hk
    · exact h.2 k hk
    · exact .inr (Nat.le_trans h.1.size hk)⟩
theorem Step.refl (w : World) (S : List Nat) : Step w w S S := ⟨Moved.refl w S, fun _ hk => .inl hk⟩

/-- The block of a slice's value. -/
def rowOf (v : Value) : List Nat := match v.ownBlock with | some g => [g] | none => []
theorem mem_rowOf {v : Value} {k : Nat} : k ∈ rowOf v ↔ v.ownBlock = some k := by
  unfold rowOf; cases h : v.ownBlock <;> simp [eq_comm]
/-- Owned rows stay where their blocks stay. -/
theorem own_stays {w w' : World} {base : Nat} {e : TypeId} {size : Nat} {v : Value} {n : Nat} {xs : List Value} (h : w.ownsRow base e size v n xs) (hk : ∀ k ∈ rowOf v, w'.heap[k]? = w.heap[k]?) : w'.ownsRow base e size v n xs := by
  refine ⟨h.1, ?_⟩
  rcases h.2 with h2 | ⟨g, cap, cur, hv, hg, hh, r⟩
  · exact .inl h2
  · exact .inr ⟨g, cap, cur, hv, hg, by rw [hk g (by subst hv; simp [mem_rowOf, Value.ownBlock])]; exact hh, r⟩
theorem own_lt {w : World} {base : Nat} {e : TypeId} {size : Nat} {v : Value} {n : Nat} {xs : List Value} (h : w.ownsRow base e size v n xs) : ∀ k ∈ rowOf v, k < w.heap.size := fun k hk => (h.lt k (mem_rowOf.1 hk)).2
theorem cell_at {w : World} {b : Nat} {cs : Array Value} {t : TypeId} (h : w.heap[b]? = some (.cells cs t (0, 0))) (j : Nat) {v : Value} (hv : cs[j]? = some v) : w.cell? ⟨b, j, none⟩ = some v := by
  rw [cell_of_row w b j cs t (0, 0) h]; exact hv
theorem free_at {w : World} {b : Nat} {cs : Array Value} {t : TypeId} (h : w.heap[b]? = some (.cells cs t (0, 0))) (j : Nat) : w.frozen? ⟨b, j, none⟩ = false := frozen_of_row w b j cs t h
theorem own_len {w : World} {base : Nat} {e : TypeId} {v : Value} {n : Nat} {k : IntKind} {xs : List Int} (h : w.ownsRow base e 1 v n (xs.map (Value.int k))) : xs.length = n := by
  have := h.1; simpa using this
theorem own_shape {w : World} {base : Nat} {e : TypeId} {v : Value} {n : Nat} {xs : List Value} (h : w.ownsRow base e 1 v n xs) : ∃ A c, v = .slice A n c ∧ (A = none → c = 0) ∧ n ≤ c ∧ c ≤ 9223372036854775807 := by
  rcases h.2 with ⟨rfl, rfl⟩ | ⟨g, cap, cur, rfl, _, _, hc, hm, _⟩
  · exact ⟨none, 0, rfl, fun _ => rfl, by omega, by omega⟩
  · exact ⟨_, _, rfl, (fun hA => by cases hA), hc, by unfold maxLen at hm; omega⟩
/-- A row that the call owns, as a slice that reads. -/
theorem own_nrow {w : World} {base : Nat} {e : TypeId} {v : Value} {n : Nat} {k : IntKind} {xs : List Int} (h : w.ownsRow base e 1 v n (xs.map (Value.int k))) :
    ∃ A c, v = .slice A n c ∧ NRow k w A xs ∧ (A = none → c = 0) ∧ n ≤ c ∧ c ≤ 9223372036854775807 := by
  rcases h.2 with ⟨rfl, rfl⟩ | ⟨g, cap, cur, rfl, _, _, hc, hm, _⟩
  · exact ⟨none, 0, rfl, NRow.of_own h, fun _ => rfl, by omega, by omega⟩
  · exact ⟨_, _, rfl, NRow.of_own h, (fun hA => by cases hA), hc, by unfold maxLen at hm; omega⟩

theorem nrow_moved {k : IntKind} {w w' : World} {A : Option Addr} {n c : Nat} {xs : List Int} {S : List Nat} (h : NRow k w A xs) (hm : Moved w w' S) (hS : ∀ b ∈ rowOf (.slice A n c), b ∉ S) : NRow k w' A xs := by
  intro i x hx
  obtain ⟨b, off, rfl, hc⟩ := h i x hx
  refine ⟨b, off, rfl, ?_⟩
  have := hm.block b (World.block_lt_of_cell? w _ hc) (hS b (by simp [mem_rowOf, Value.ownBlock]))
  rw [World.cell?_of_block (w := w) this]; exact hc
theorem nrow_stays {k : IntKind} {w w' : World} {A : Option Addr} {n c : Nat} {xs : List Int} (h : NRow k w A xs) (hS : ∀ b ∈ rowOf (.slice A n c), w'.heap[b]? = w.heap[b]?) : NRow k w' A xs := by
  intro i x hx
  obtain ⟨b, off, rfl, hc⟩ := h i x hx
  refine ⟨b, off, rfl, ?_⟩
  rw [World.cell?_of_block (w := w) (hS b (by simp [mem_rowOf, Value.ownBlock]))]; exact hc

/-! ### append onto a row of the call's own: where its blocks go -/
theorem nrow_lit (k : IntKind) (w : World) (x : Int) (e : TypeId) : NRow k (w.alloc (.cells #[.int k x] e)) (some ⟨w.heap.size, 0, none⟩) [x] := by
  intro i y hy
  rcases i with _ | i
  · simp at hy; subst hy
    exact ⟨w.heap.size, 0, rfl, by rw [cell_of_row _ _ _ _ _ _ (heap_alloc_new w _)]; rfl⟩
  · simp at hy
theorem step_alloc (w : World) (o : Obj) (S : List Nat) : Step w (w.alloc o) S S := ⟨(Moved.refl w S).alloc o, fun _ h => .inl h⟩
theorem ownsRow_zero {w : World} {base : Nat} {e : TypeId} {size : Nat} {v : Value} {n : Nat} {xs : List Value} (h : w.ownsRow base e size v n xs) : w.ownsRow 0 e size v n xs := by
  refine ⟨h.1, ?_⟩
  rcases h.2 with h2 | ⟨g, cap, cur, hv, hg, r⟩
  · exact .inl h2
  · exact .inr ⟨g, cap, cur, hv, Nat.zero_le _, r⟩
theorem run_append_row {P : Program} (w : World) (t ty e : TypeId) (i : TypeInfo) (k : IntKind) (by_ : Nat) (ht : P.underlying t = some (.slice e)) (hi : P.info? e = some i) (hz : i.zero = some (.int k 0))
    (hsize : i.size = 1) (hby : i.bytes = by_) (v : Value) (n : Nat) (xs : List Value) (hown : w.ownsRow 0 e 1 v n xs) (A : Option Addr) (c : Nat) (ys : List Int) (hA : NRow k w A ys) (hc : A = none → c = 0)
    (h63 : n + ys.length ≤ maxLen) (hb : (n + ys.length) * by_ ≤ 140737488355328) :
    ∃ v' w', (Builtin.append_ #[t, t] ty #[v, .slice A ys.length c]).run P w = .ok v' w' ∧ w'.ownsRow 0 e 1 v' (n + ys.length) (xs ++ ys.map (Value.int k)) ∧ Step w w' (rowOf v) (rowOf v') := by
  rcases A with _ | ad
  · have hys : ys = [] := by
      rcases ys with _ | ⟨y, r⟩
      · rfl
      · obtain ⟨_, _, h', _⟩ := hA 0 y (by simp)
        cases h'
    subst hys
    have hc0 := hc rfl
    subst hc0
    exact ⟨v, w, run_append_owned_none (P := P) w 0 t ty e i 1 ht hi v n xs hown, by simpa using hown, Step.refl _ _⟩
  · have hnews := nrow_news hA
    have h1 := nums_one k ys
    rcases hown.2 with ⟨rfl, rfl⟩ | ⟨g, cap, cur, rfl, hbg, hg, hnc, hcm, hcs, htake⟩
    · have hx : xs = [] := List.eq_nil_of_length_eq_zero (by simpa using hown.1)
      subst hx
      obtain ⟨v', w', hr, ho, hgr, _⟩ := run_append_own (P := P) w w.heap.size t ty e i (.int k 0) 1 by_ ht hi hz hsize hby rfl (by decide) (.slice none 0 0) 0 [] (World.ownsRow_nil _ _ _ _) ad ys.length c (ys.map (Value.int k)) (by simp) hnews h1 h63 hb (Nat.le_refl _)
      exact ⟨v', w', hr, ownsRow_zero ho, (Moved.refl w _).grown hgr (fun k hk => .inl (mem_rowOf.2 hk)), fun k hk => .inr (ho.lt k (mem_rowOf.1 hk)).1⟩
    · by_cases hroom : n + ys.length ≤ cap
      · obtain ⟨w', hr, ho, hgr⟩ := run_append_fits (P := P) w 0 t ty e i 1 ht hi hsize g n cap xs hown ad ys.length c (ys.map (Value.int k)) (by simp) hnews h1 hroom
        exact ⟨_, w', hr, ho, (Moved.refl w _).grown hgr (fun k hk => .inl (by rw [mem_rowOf]; exact hk)), fun k hk => .inl hk⟩
      · obtain ⟨v', w', hr, ho, hgr⟩ := run_append_arg_grows (P := P) w t ty e i (.int k 0) 1 by_ ht hi hz hsize hby rfl (by decide) ⟨g, 0, none⟩ n cap xs hown.1 (hown.cells (g := g) rfl) ad ys.length c (ys.map (Value.int k)) (by simp) hnews (by omega) h63 hb
        exact ⟨v', w', hr, ownsRow_zero ho, (Moved.refl w _).grown hgr (fun k hk => by cases hk), fun k hk => .inr (ho.lt k (mem_rowOf.1 hk)).1⟩
/-- The walk's law: 'x = append(x, ys...)' onto a row of the call's own. -/
theorem wpList_append_row {P : Program} {w : World} {ops : Array Oper} {rest : List Oper} {o : Oper} {a : Act} {Q : Exit → Act → World → Prop} (hgd : o.guard = none) (s x : Operand) (t : TypeId)
    (ho : o.op = .call { callee := .builtin .append, args := #[s, x], argTypes := #[t, t] })
    (e : TypeId) (i : TypeInfo) (k : IntKind) (by_ : Nat) (ht : P.underlying t = some (.slice e)) (hi : P.info? e = some i) (hz : i.zero = some (.int k 0)) (hsize : i.size = 1) (hby : i.bytes = by_)
    (v : Value) (n : Nat) (xs : List Value) (hs : a.eval s = v) (hown : w.ownsRow 0 e 1 v n xs)
    (A : Option Addr) (m c : Nat) (ys : List Int) (hx : a.eval x = .slice A m c) (hm : ys.length = m) (hA : NRow k w A ys) (hc : A = none → c = 0)
    (h63 : n + m ≤ maxLen) (hb : (n + m) * by_ ≤ 140737488355328)
    (h : ∀ v' w', w'.ownsRow 0 e 1 v' (n + m) (xs ++ ys.map (Value.int k)) → Step w w' (rowOf v) (rowOf v') → wpList P ops Q rest (a.put o.dst v') w') : wpList P ops Q (o :: rest) a w := by
  subst hm
  refine wpList_plain hgd fun K hK' => ?_
  obtain ⟨v', w', hrun, r1, r2⟩ := run_append_row (P := P) w t o.type e i k by_ ht hi hz hsize hby v n xs hown A c ys hA hc h63 hb
  unfold Oper.wp
  simp [execOp, ho, resolve, invoke, builtin, hs, hx, hrun, Result.andThen]
  exact hK' _ _ (h v' w' r1 r2)
end Go.Proofs.YtekleamkpfeifaaDoor

/-
  Bytes as texts (no contract).
-/
namespace Go.Proofs.YtekleamkpfeifaaDoor
open Go.RowKit

/-- Whole numbers from 0 to 255. -/
def ByteList (xs : List Int) : Prop := ∀ x ∈ xs, 0 ≤ x ∧ x ≤ 255
theorem ByteList.append {xs ys : List Int} (h : ByteList xs) (g : ByteList ys) : ByteList (xs ++ ys) := fun x hx => (List.mem_append.1 hx).elim (h x) (g x)
theorem ByteList.nil : ByteList [] := fun x hx => by cases hx
theorem ByteList.take {xs : List Int} (h : ByteList xs) (n : Nat) : ByteList (xs.take n) := fun x hx => h x (List.mem_of_mem_take hx)
theorem ByteList.drop {xs : List Int} (h : ByteList xs) (n : Nat) : ByteList (xs.drop n) := fun x hx => h x (List.mem_of_mem_drop hx)

theorem strOfNums_inj : ∀ {xs ys : List Int}, ByteList xs → ByteList ys → strOfNums xs = strOfNums ys → xs = ys := by
  intro xs ys hx hy h
  have h1 : (xs.map fun n => UInt8.ofNat n.toNat) = ys.map fun n => UInt8.ofNat n.toNat := by
    have := congrArg (fun s : ByteArray => s.data.toList) h
    simpa [strOfNums] using this
  clear h
  induction xs generalizing ys with
  | nil => cases ys with
    | nil => rfl
    | cons y ys => simp at h1
  | cons x xs ih =>
    cases ys with
    | nil => simp at h1
    | cons y ys =>
      rw [List.map_cons, List.map_cons, List.cons.injEq] at h1
      have e := congrArg UInt8.toNat h1.1
      have hx0 := hx x (by simp)
      have hy0 := hy y (by simp)
      have ex : (UInt8.ofNat x.toNat).toNat = x.toNat := by simp; omega
      have ey : (UInt8.ofNat y.toNat).toNat = y.toNat := by simp; omega
      rw [ex, ey] at e
      rw [show x = y by omega, ih (fun z hz => hx z (by simp [hz])) (fun z hz => hy z (by simp [hz])) h1.2]

theorem run_convert_nrow {P : Program} (w : World) (src dst e : TypeId) (hs : P.underlying src = some (.slice e)) (he : P.underlying e = some (.int .u8)) (hd : P.underlying dst = some .string)
    (A : Option Addr) (n c : Nat) (xs : List Int) (hA : NRow .u8 w A xs) (hn : xs.length = n) :
    (convert src dst (.slice A n c)).run P w = .ok (.string (strOfNums xs)) w := by
  rcases A with _ | ad
  · have hx : xs = [] := by
      rcases xs with _ | ⟨y, r⟩
      · rfl
      · obtain ⟨_, _, h', _⟩ := hA 0 y (by simp)
        cases h'
    subst hx
    rw [run_convert_bytes_nil w src e hs he n c dst hd]; rfl
  · have hl : (loadCells ad n).run P w = .ok (xs.map (Value.int .u8)).toArray w := by
      have := run_loadCells_list (P := P) w ad (xs.map (Value.int .u8)) (fun j v hj => nrow_news hA j v hj)
      simpa [hn] using this
    rw [run_convert_bytes_string w src dst e _ n c hs he hd, run_bytesToString w _ n c xs hl, foldl_push_bytes]
    simp [strOfNums, ByteArray.empty, ByteArray.emptyWithCapacity]
    rfl
theorem info_u8 : (Tryd.prog.info? 5).map (fun i => (i.zero, i.size, i.bytes)) = some (some (.int .u8 0), 1, 1) := by kernel_rfl
/-- A slice of bytes, the call's own, new. -/
def NewBytes (out : List Int) (w : World) (r : Ending) (w' : World) : Prop :=
  ∃ v, r = .returned v ∧ w'.ownsRow 0 5 1 v out.length (out.map (Value.int .u8)) ∧ Step w w' [] (rowOf v)
end Go.Proofs.YtekleamkpfeifaaDoor

/-
  CONTRACT of hansekeep.Bytes.
-/
namespace Go.Proofs.YtekleamkpfeifaaDoor
open Go.RowKit
set_option maxRecDepth 100000 in
theorem bytes_any (A B : Option Addr) (n m c d : Nat) (xs ys : List Int) (w : World) (hA : NRow .u8 w A xs) (hB : NRow .u8 w B ys) (hn : xs.length = n) (hm : ys.length = m) :
    Calls Tryd.prog 31 #[.slice A n c, .slice B m d] w fun e w' => e = .returned (.bool ((strOfNums xs).toList == (strOfNums ys).toList)) ∧ w = w' := by
  have h1 := run_convert_nrow (P := Tryd.prog) w 27 9 5 Tryd.underlying27 Tryd.underlying5 Tryd.underlying9 A n c xs hA hn
  have h2 := run_convert_nrow (P := Tryd.prog) w 27 9 5 Tryd.underlying27 Tryd.underlying5 Tryd.underlying9 B m d ys hB hm
  clear hA hB hn hm
  go_enter Tryd.func31, Tryd.ntmps31
  go_wp2
  go_ret
  exact ⟨rfl, rfl⟩
theorem bytes_is (A B : Option Addr) (n m c d : Nat) (xs ys : List Int) (w : World) (hA : NRow .u8 w A xs) (hB : NRow .u8 w B ys) (hn : xs.length = n) (hm : ys.length = m) (bx : ByteList xs) (by_ : ByteList ys) (b : Bool) (hb : decide (xs = ys) = b) :
    Calls Tryd.prog 31 #[.slice A n c, .slice B m d] w fun e w' => e = .returned (.bool b) ∧ w = w' := by
  have h : ((strOfNums xs).toList == (strOfNums ys).toList) = b := by
    rw [← hb, Bool.eq_iff_iff]
    simp only [beq_iff_eq, decide_eq_true_eq]
    exact ⟨fun h => strOfNums_inj bx by_ (by
      rw [ByteArray.toList_eq, ByteArray.toList_eq] at h
      exact ByteArray.ext (Array.toList_inj.1 h)), fun h => by rw [h]⟩
  rw [← h]
  exact bytes_any A B n m c d xs ys w hA hB hn hm
end Go.Proofs.YtekleamkpfeifaaDoor

/-
  CONTRACTS of hansekeep.Bytes and hansekeep.Twin.
-/
namespace Go.Proofs.YtekleamkpfeifaaDoor
open Go.RowKit

set_option maxRecDepth 100000 in
theorem twin_any (A : Option Addr) (n c : Nat) (xs : List Int) (w : World) (hA : NRow .u8 w A xs) (hn : xs.length = n) (hc : A = none → c = 0) (hlen : n ≤ 70368744177664) :
    Calls Tryd.prog 14 #[.slice A n c] w (NewBytes xs w) := by
  obtain ⟨i0, hi, hz0, hz1, hz2⟩ := info_parts info_u8
  have HA := Lib.hid hA
  have HN := Lib.hid hn
  have HC := Lib.hid hc
  clear hA hn hc
  go_enter Tryd.func14, Tryd.ntmps14
  go_wp2_with (at_builtin; refine wpList_append_row rfl _ _ 27 rfl 5 i0 .u8 1 Tryd.underlying27 hi hz0 hz1 hz2 (.slice none 0 0) 0 [] rfl (World.ownsRow_nil _ _ _ _) _ _ _ _ rfl HN.out HA.out HC.out (by unfold maxLen; omega) (by omega) ?_)
  intro v' w1 hown hst
  have HO := Lib.hid hown
  have HST := Lib.hid hst
  clear hown hst
  go_wp2
  go_ret
  exact ⟨v', rfl, by rw [HN.out]; simpa using HO.out, HST.out⟩
end Go.Proofs.YtekleamkpfeifaaDoor

/-
  PLAIN: CRC-32C over natural numbers: it is linear, and a change of up to four bytes in a row is told.
-/
namespace Go.Proofs.YtekleamkpfeifaaDoor
namespace Fr

def poly : Nat := 2197175160
/-- One bit of the register. -/
def tick (r : Nat) : Nat := if r % 2 = 1 then (r / 2) ^^^ poly else r / 2
def ticks : Nat → Nat → Nat
  | 0, r => r
  | n + 1, r => ticks n (tick r)
/-- The register behind bytes. -/
def crc (r : Nat) (bs : List Nat) : Nat := bs.foldl (fun r b => ticks 8 (r ^^^ b)) r
/-- The sum of bytes. -/
def sumOf (bs : List Nat) : Nat := 4294967295 - crc 4294967295 bs

theorem xor_div (x y : Nat) : (x ^^^ y) / 2 = (x / 2) ^^^ (y / 2) := by
  apply Nat.eq_of_testBit_eq
  intro i
  rw [Nat.testBit_xor, Nat.testBit_div_two, Nat.testBit_div_two, Nat.testBit_div_two, Nat.testBit_xor]
theorem xor_mod (x y : Nat) : (x ^^^ y) % 2 = (x % 2 + y % 2) % 2 := by
  have h := Nat.testBit_xor x y 0
  simp only [Nat.testBit_zero] at h
  have hx := Nat.mod_two_eq_zero_or_one x
  have hy := Nat.mod_two_eq_zero_or_one y
  have hz := Nat.mod_two_eq_zero_or_one (x ^^^ y)
  rcases hx with hx | hx <;> rcases hy with hy | hy <;> rcases hz with hz | hz <;> simp [hx, hy, hz] at h ⊢
theorem tick_xor (x y : Nat) : tick (x ^^^ y) = tick x ^^^ tick y := by
  unfold tick
  rw [xor_mod, xor_div]
  have hx := Nat.mod_two_eq_zero_or_one x
  have hy := Nat.mod_two_eq_zero_or_one y
  rcases hx with hx | hx <;> rcases hy with hy | hy <;> simp only [hx, hy]
  · simp
  · simp [Nat.xor_assoc]
  · simp [Nat.xor_assoc, Nat.xor_comm poly]
  · simp only [Nat.reduceAdd, Nat.reduceMod, Nat.zero_ne_one, if_false, if_true]
    rw [Nat.xor_assoc, Nat.xor_comm poly, Nat.xor_assoc, Nat.xor_self, Nat.xor_zero]
theorem ticks_xor (n : Nat) : ∀ x y, ticks n (x ^^^ y) = ticks n x ^^^ ticks n y := by
  induction n with
  | zero => intro x y; rfl
  | succ n ih => intro x y; show ticks n (tick (x ^^^ y)) = _; rw [tick_xor, ih]; rfl
theorem tick_lt {r : Nat} (h : r < 4294967296) : tick r < 4294967296 := by
  unfold tick
  split
  · exact Nat.xor_lt_two_pow (n := 32) (by omega) (by decide)
  · omega
theorem ticks_lt (n : Nat) : ∀ r, r < 4294967296 → ticks n r < 4294967296 := by
  induction n with
  | zero => intro r h; exact h
  | succ n ih => intro r h; exact ih _ (tick_lt h)
theorem tick_zero {r : Nat} (h : r < 4294967296) (h0 : tick r = 0) : r = 0 := by
  unfold tick at h0
  split at h0
  · have h1 : r / 2 = poly := by
      have h2 := congrArg (· ^^^ poly) h0
      simpa [Nat.xor_assoc] using h2
    unfold poly at h1
    omega
  · omega
theorem ticks_zero (n : Nat) : ∀ r, r < 4294967296 → ticks n r = 0 → r = 0 := by
  induction n with
  | zero => intro r _ h; exact h
  | succ n ih => intro r h h0; exact tick_zero h (ih _ (tick_lt h) h0)
theorem ticks_of_zero (n : Nat) : ticks n 0 = 0 := by
  induction n with
  | zero => rfl
  | succ n ih => exact ih
theorem tick_double (x : Nat) : tick (2 * x) = x := by unfold tick; rw [if_neg (by omega)]; omega
theorem ticks_shift (n : Nat) : ∀ x, ticks n (x * 2 ^ n) = x := by
  induction n with
  | zero => intro x; simp [ticks]
  | succ n ih =>
    intro x
    show ticks n (tick (x * 2 ^ (n + 1))) = x
    rw [show x * 2 ^ (n + 1) = 2 * (x * 2 ^ n) by rw [Nat.pow_succ, ← Nat.mul_assoc, Nat.mul_comm], tick_double, ih]
theorem ticks_add (n m : Nat) : ∀ r, ticks (n + m) r = ticks m (ticks n r) := by
  induction n with
  | zero => intro r; rw [Nat.zero_add]; rfl
  | succ n ih => intro r; rw [Nat.add_right_comm]; exact ih _

/-- How the difference of two registers goes on, where the bytes differ by es. -/
def dif (d : Nat) (es : List Nat) : Nat := es.foldl (fun d e => ticks 8 (d ^^^ e)) d
theorem crc_cons (r b : Nat) (bs : List Nat) : crc r (b :: bs) = crc (ticks 8 (r ^^^ b)) bs := rfl
theorem dif_cons (d e : Nat) (es : List Nat) : dif d (e :: es) = dif (ticks 8 (d ^^^ e)) es := rfl
theorem crc_append (r : Nat) (a b : List Nat) : crc r (a ++ b) = crc (crc r a) b := by unfold crc; rw [List.foldl_append]
theorem dif_append (d : Nat) (a b : List Nat) : dif d (a ++ b) = dif (dif d a) b := by unfold dif; rw [List.foldl_append]
theorem crc_dif : ∀ (av bs : List Nat) (r s : Nat), av.length = bs.length → crc r av ^^^ crc s bs = dif (r ^^^ s) (List.zipWith (· ^^^ ·) av bs) := by
  intro av
  induction av with
  | nil => intro bs r s h; cases bs with
    | nil => rfl
    | cons b bs => simp at h
  | cons a av ih =>
    intro bs r s h
    cases bs with
    | nil => simp at h
    | cons b bs =>
      rw [crc_cons, crc_cons, ih bs _ _ (by simpa using h), List.zipWith_cons_cons, dif_cons, ← ticks_xor]
      congr 2
      rw [Nat.xor_assoc, Nat.xor_assoc, ← Nat.xor_assoc a, Nat.xor_comm a s, Nat.xor_assoc s]
theorem crc_lt : ∀ (bs : List Nat) (r : Nat), r < 4294967296 → (∀ b ∈ bs, b < 256) → crc r bs < 4294967296 := by
  intro bs
  induction bs with
  | nil => intro r h _; exact h
  | cons b bs ih =>
    intro r h hb
    rw [crc_cons]
    exact ih _ (ticks_lt 8 _ (Nat.xor_lt_two_pow (n := 32) (by omega) (by have := hb b (by simp); omega))) (fun c hc => hb c (by simp [hc]))
theorem dif_lt : ∀ (bs : List Nat) (r : Nat), r < 4294967296 → (∀ b ∈ bs, b < 256) → dif r bs < 4294967296 := crc_lt
theorem dif_zeros : ∀ (n d : Nat), d < 4294967296 → dif d (List.replicate n 0) = 0 → d = 0 := by
  intro n
  induction n with
  | zero => intro d _ h; exact h
  | succ n ih =>
    intro d h h0
    rw [List.replicate_succ, dif_cons, Nat.xor_zero] at h0
    exact ticks_zero 8 d h (ih _ (ticks_lt 8 _ h) h0)
theorem xor_apart {w e n : Nat} (hw : w < 2 ^ n) (h : w ^^^ (e * 2 ^ n) = 0) : w = 0 ∧ e = 0 := by
  have h1 : w = e * 2 ^ n := by
    have h2 := congrArg (· ^^^ (e * 2 ^ n)) h
    simpa [Nat.xor_assoc] using h2
  rcases Nat.eq_zero_or_pos e with he | he
  · subst he; exact ⟨by simpa using h1, rfl⟩
  · have h3 : 2 ^ n ≤ e * 2 ^ n := Nat.le_mul_of_pos_left _ he
    omega
theorem xor_small {w e n : Nat} (hw : w < 2 ^ n) (he : e < 256) : w ^^^ (e * 2 ^ n) < 2 ^ (n + 8) := by
  refine Nat.xor_lt_two_pow ?_ ?_
  · exact Nat.lt_of_lt_of_le hw (Nat.pow_le_pow_right (by omega) (by omega))
  · rw [Nat.pow_add, Nat.mul_comm]
    exact Nat.mul_lt_mul_of_pos_left he (Nat.pow_pos (by omega))
/-- Up to four bytes that differ, behind equal ones: the registers differ. -/
theorem dif_short : ∀ (es : List Nat) (n w : Nat), n + 8 * es.length ≤ 32 → w < 2 ^ n → (∀ e ∈ es, e < 256) → dif (ticks n w) es = 0 → w = 0 ∧ ∀ e ∈ es, e = 0 := by
  intro es
  induction es with
  | nil =>
    intro n w hn hw _ h0
    have h32 : 2 ^ n ≤ 2 ^ 32 := Nat.pow_le_pow_right (by omega) (by simpa using hn)
    exact ⟨ticks_zero n w (by omega) h0, fun e he => by cases he⟩
  | cons e es ih =>
    intro n w hn hw he h0
    simp only [List.length_cons] at hn
    have h1 : ticks 8 (ticks n w ^^^ e) = ticks (n + 8) (w ^^^ (e * 2 ^ n)) := by
      rw [ticks_add, ticks_xor n, ticks_shift]
    rw [dif_cons, h1] at h0
    obtain ⟨h2, h3⟩ := ih (n + 8) (w ^^^ (e * 2 ^ n)) (by omega) (xor_small hw (he e (by simp))) (fun x hx => he x (by simp [hx])) h0
    obtain ⟨h4, h5⟩ := xor_apart hw h2
    exact ⟨h4, fun x hx => by
      rcases List.mem_cons.1 hx with rfl | hx
      · exact h5
      · exact h3 x hx⟩
/-- A change of up to four bytes in a row changes the sum. -/
theorem crc_told {pre a b post : List Nat} (hl : a.length = b.length) (h4 : a.length ≤ 4) (ha : ∀ x ∈ a, x < 256) (hb : ∀ x ∈ b, x < 256) (r : Nat)
    (h : crc r (pre ++ a ++ post) = crc r (pre ++ b ++ post)) : a = b := by
  have hz : ∀ l : List Nat, List.zipWith (· ^^^ ·) l l = List.replicate l.length 0 := by
    intro l
    induction l with
    | nil => rfl
    | cons x l ih => rw [List.zipWith_cons_cons, ih, Nat.xor_self]; rfl
  have hd : crc r (pre ++ a ++ post) ^^^ crc r (pre ++ b ++ post) = 0 := by rw [h, Nat.xor_self]
  rw [crc_append, crc_append, crc_append, crc_append] at hd
  rw [crc_dif post post _ _ rfl, crc_dif a b _ _ hl, Nat.xor_self, hz] at hd
  have hes : ∀ e ∈ List.zipWith (· ^^^ ·) a b, e < 256 := by
    intro e he
    rw [List.mem_iff_getElem?] at he
    obtain ⟨i, hi⟩ := he
    rw [List.getElem?_zipWith] at hi
    rcases hai : a[i]? with _ | x
    · rw [hai] at hi; simp at hi
    · rcases hbi : b[i]? with _ | y
      · rw [hai, hbi] at hi; simp at hi
      · rw [hai, hbi] at hi
        simp at hi
        subst hi
        exact Nat.xor_lt_two_pow (n := 8) (ha x (List.mem_of_getElem? hai)) (hb y (List.mem_of_getElem? hbi))
  have h0 := dif_zeros _ _ (dif_lt _ _ (by omega) hes) hd
  obtain ⟨_, h2⟩ := dif_short (List.zipWith (· ^^^ ·) a b) 0 0 (by simp; omega) (by simp) hes h0
  apply List.ext_getElem hl
  intro i h1 h3
  have h4 := h2 (a[i] ^^^ b[i]) (by
    rw [List.mem_iff_getElem?]
    exact ⟨i, by rw [List.getElem?_zipWith, List.getElem?_eq_getElem h1, List.getElem?_eq_getElem h3]⟩)
  have h5 := congrArg (· ^^^ b[i]) h4
  simpa [Nat.xor_assoc] using h5
end Fr
end Go.Proofs.YtekleamkpfeifaaDoor

/-
  CONTRACT of hanseref04.Sum.
-/
namespace Go.Proofs.YtekleamkpfeifaaDoor
namespace Fr
open Go.RowKit
def nats (xs : List Int) : List Nat := xs.map Int.toNat
theorem ticks_next (j r : Nat) : ticks (j + 1) r = tick (ticks j r) := by rw [ticks_add]; rfl
theorem half_pow {t y j : Nat} (h : t = y / 2 ^ j) : t / 2 = y / 2 ^ (j + 1) := by rw [h, Nat.div_div_eq_div_mul, Nat.pow_succ]
theorem bit_set {s t y v j : Nat} (h : t = y / 2 ^ j ∧ s ^^^ t = ticks j (v ^^^ y)) (hl : (s + t) % 2 = 1) : t / 2 = y / 2 ^ (j + 1) ∧ (s / 2 ^^^ 2197175160) ^^^ (t / 2) = ticks (j + 1) (v ^^^ y) := by
  refine ⟨half_pow h.1, ?_⟩
  rw [ticks_next, ← h.2]
  unfold tick
  rw [xor_mod, if_pos (by omega), xor_div, Nat.xor_assoc, Nat.xor_assoc, Nat.xor_comm (t / 2)]
  rfl
theorem bit_clear {s t y v j : Nat} (h : t = y / 2 ^ j ∧ s ^^^ t = ticks j (v ^^^ y)) (hl : ¬ (s + t) % 2 = 1) : t / 2 = y / 2 ^ (j + 1) ∧ (s / 2) ^^^ (t / 2) = ticks (j + 1) (v ^^^ y) := by
  refine ⟨half_pow h.1, ?_⟩
  rw [ticks_next, ← h.2]
  unfold tick
  rw [xor_mod, if_neg (by omega), xor_div]
theorem bits_end {s t y v : Nat} (h : t = y / 2 ^ 8 ∧ s ^^^ t = ticks 8 (v ^^^ y)) (hy : y < 256) : s = ticks 8 (v ^^^ y) := by
  have ht : t = 0 := by rw [h.1]; exact Nat.div_eq_of_lt hy
  rw [← h.2, ht, Nat.xor_zero]
theorem poly_bits {s : Nat} (hs : s < 4294967296) : bits BinOp.xor IntKind.u32 ((s : Int) / 2) 2197175160 = ((s / 2 ^^^ 2197175160 : Nat) : Int) := by
  rw [show ((s : Int) / 2) = ((s / 2 : Nat) : Int) by omega]
  exact u32_xor_nat (s / 2) 2197175160 (by omega) (by omega)
theorem poly_lt {s : Nat} (hs : s < 4294967296) : s / 2 ^^^ 2197175160 < 4294967296 := Nat.xor_lt_two_pow (n := 32) (by omega) (by omega)
theorem crc_at {xs : List Int} {k v y : Nat} (hx : xs[k]? = some (y : Int)) : crc v (nats (xs.drop k)) = crc (ticks 8 (v ^^^ y)) (nats (xs.drop (k + 1))) := by
  obtain ⟨hk, he⟩ := List.getElem?_eq_some_iff.1 hx
  rw [List.drop_eq_getElem_cons hk, he]
  rfl
theorem ret_u32 {a b : Int} (h : a = b) : Ending.returned (.int .u32 a) = .returned (.int .u32 b) := by rw [h]
theorem sum_end {v : Nat} {xs : List Int} (h : crc 4294967295 (nats xs) = v) (hv : v < 4294967296) : (4294967295 : Int) - v = (sumOf (nats xs) : Nat) := by
  unfold sumOf; rw [h]; omega
set_option maxRecDepth 100000 in
set_option maxHeartbeats 1000000 in
theorem refsum_any (A : Option Addr) (n c : Nat) (xs : List Int) (w : World) (hA : NRow .u8 w A xs) (hn : xs.length = n) (hb : ByteList xs) (hlen : n ≤ 70368744177664) :
    Calls Tryd.prog 60 #[.slice A n c] w fun e w' => e = .returned (.int .u32 (sumOf (nats xs) : Nat)) ∧ w = w' := by
  subst hn
  have HA := Lib.hid hA
  have HB := Lib.hid hb
  clear hA hb
  go_enter Tryd.func60, Tryd.ntmps60
  go_wp2
  go_loop [3, 4] (fun r i => ∃ (k v : Nat), r = .int .u32 v ∧ i = .int .i64 k ∧ k ≤ xs.length ∧ v < 4294967296 ∧ Hid (crc 4294967295 (nats xs) = crc v (nats (xs.drop k)))) (fun _ i => xs.length - (intOf i).toNat)
  case atStart => exact ⟨0, 4294967295, rfl, rfl, by omega, by omega, rfl⟩
  case round =>
    obtain ⟨k, v, rfl, rfl, hk, hv, H⟩ := hrel
    by_cases hlt : k < xs.length
    · obtain ⟨x, hx⟩ : ∃ x, xs[k]? = some x := ⟨xs[k], List.getElem?_eq_getElem hlt⟩
      obtain ⟨hx0, hx1⟩ := HB.out x (List.mem_of_getElem? hx)
      obtain ⟨b, off, rfl, hc⟩ := HA.out k x hx
      obtain ⟨y, rfl⟩ : ∃ y : Nat, x = y := ⟨x.toNat, by omega⟩
      have HX := Lib.hid (H.out.trans (crc_at hx))
      clear hx H
      go_wp2
      go_loop [3, 5, 6] (fun r z i => ∃ (j s t : Nat), r = .int .u32 s ∧ z = .int .u32 t ∧ i = .int .i64 j ∧ j ≤ 8 ∧ s < 4294967296 ∧ t < 256 ∧ Hid (t = y / 2 ^ j ∧ s ^^^ t = ticks j (v ^^^ y))) (fun _ _ i => 8 - (intOf i).toNat)
      case atStart => exact ⟨0, v, y, rfl, rfl, rfl, by omega, hv, by omega, by simp, rfl⟩
      case round =>
        obtain ⟨j, s, t, rfl, rfl, rfl, hj, hs, ht, HT⟩ := hrel
        by_cases hj8 : j < 8
        · by_cases hlow : (s + t) % 2 = 1
          · have HN := Lib.hid (bit_set HT.out hlow)
            have hl2 : (((s : Int) + t) % 2 == 1) = true := by rw [beq_iff_eq]; omega
            go_wp2
            go_round
            case rel => exact ⟨j + 1, s / 2 ^^^ 2197175160, t / 2, by rw [poly_bits hs], by go_num, by go_num, by omega, poly_lt hs, by omega, HN⟩
            case measure => simp [intOf]; omega
          · have HN := Lib.hid (bit_clear HT.out hlow)
            have hl2 : (((s : Int) + t) % 2 == 1) = false := by rw [beq_eq_false_iff_ne]; omega
            go_wp2
            go_round
            case rel => exact ⟨j + 1, s / 2, t / 2, by go_num, by go_num, by go_num, by omega, by omega, by omega, HN⟩
            case measure => simp [intOf]; omega
        · obtain rfl : j = 8 := by omega
          have HE := Lib.hid (bits_end HT.out (by omega))
          go_wp2
          go_round
          case rel => exact ⟨k + 1, s, rfl, by go_num, by omega, hs, by show _ = _; rw [HX.out, HE.out]⟩
          case measure => simp [intOf]; omega
    · have HE := Lib.hid (H.out.trans (by rw [List.drop_of_length_le (by omega)]))
      go_wp2
      go_ret
      exact ⟨ret_u32 (sum_end HE.out hv), rfl⟩
end Fr
end Go.Proofs.YtekleamkpfeifaaDoor

/-
  MORE WORDS for memory: append as one step of a region that draws its order; a piece of a slice.
-/
namespace Go.Proofs.YtekleamkpfeifaaDoor
open Go.RowKit
/-- The same law as one step of a region that draws its order (go_region_law). -/
theorem step_append_row {P : Program} {ops : Array Oper} {o : Oper} {a : Act} {w : World} {K : Act → World → Prop} {Q : Exit → Act → World → Prop} {E : Prop} (hgd : o.guard = none) (s x : Operand) (t : TypeId)
    (ho : o.op = .call { callee := .builtin .append, args := #[s, x], argTypes := #[t, t] })
    (e : TypeId) (i : TypeInfo) (k : IntKind) (by_ : Nat) (ht : P.underlying t = some (.slice e)) (hi : P.info? e = some i) (hz : i.zero = some (.int k 0)) (hsize : i.size = 1) (hby : i.bytes = by_)
    (v : Value) (n : Nat) (xs : List Value) (hs : a.eval s = v) (hown : w.ownsRow 0 e 1 v n xs)
    (A : Option Addr) (m c : Nat) (ys : List Int) (hx : a.eval x = .slice A m c) (hm : ys.length = m) (hA : NRow k w A ys) (hc : A = none → c = 0)
    (h63 : n + m ≤ maxLen) (hb : (n + m) * by_ ≤ 140737488355328)
    (h : ∀ v' w', w'.ownsRow 0 e 1 v' (n + m) (xs ++ ys.map (Value.int k)) → Step w w' (rowOf v) (rowOf v') → K (a.put o.dst v') w') :
    if Region.wanted o (yielded ops a.tmps) = true then Oper.wp P o a w K Q else E := by
  have hw : Region.wanted o (yielded ops a.tmps) = true := by simp [Region.wanted, hgd]
  rw [if_pos hw]
  subst hm
  obtain ⟨v', w', hrun, r1, r2⟩ := run_append_row (P := P) w t o.type e i k by_ ht hi hz hsize hby v n xs hown A c ys hA hc h63 hb
  unfold Oper.wp
  simp [execOp, ho, resolve, invoke, builtin, hs, hx, hrun, Result.andThen]
  exact h v' w' r1 r2
/-- The same where the operation is guarded. -/
theorem step_append_guarded {P : Program} {ops : Array Oper} {o : Oper} {a : Act} {w : World} {K : Act → World → Prop} {Q : Exit → Act → World → Prop} {E : Prop} (hw : Region.wanted o (yielded ops a.tmps) = true) (s x : Operand) (t : TypeId)
    (ho : o.op = .call { callee := .builtin .append, args := #[s, x], argTypes := #[t, t] })
    (e : TypeId) (i : TypeInfo) (k : IntKind) (by_ : Nat) (ht : P.underlying t = some (.slice e)) (hi : P.info? e = some i) (hz : i.zero = some (.int k 0)) (hsize : i.size = 1) (hby : i.bytes = by_)
    (v : Value) (n : Nat) (xs : List Value) (hs : a.eval s = v) (hown : w.ownsRow 0 e 1 v n xs)
    (A : Option Addr) (m c : Nat) (ys : List Int) (hx : a.eval x = .slice A m c) (hm : ys.length = m) (hA : NRow k w A ys) (hc : A = none → c = 0)
    (h63 : n + m ≤ maxLen) (hb : (n + m) * by_ ≤ 140737488355328)
    (h : ∀ v' w', w'.ownsRow 0 e 1 v' (n + m) (xs ++ ys.map (Value.int k)) → Step w w' (rowOf v) (rowOf v') → K (a.put o.dst v') w') :
    if Region.wanted o (yielded ops a.tmps) = true then Oper.wp P o a w K Q else E := by
  rw [if_pos hw]
  subst hm
  obtain ⟨v', w', hrun, r1, r2⟩ := run_append_row (P := P) w t o.type e i k by_ ht hi hz hsize hby v n xs hown A c ys hA hc h63 hb
  unfold Oper.wp
  simp [execOp, ho, resolve, invoke, builtin, hs, hx, hrun, Result.andThen]
  exact h v' w' r1 r2
/-- A piece of a slice: from k on, n of it. Where the piece begins at the very end of the room, the place is told as it was. -/
theorem NRow.piece {k : IntKind} {w : World} {A : Option Addr} {xs : List Int} {c i n : Nat} (h : NRow k w A xs) (hi : i + n ≤ xs.length) (hc : xs.length ≤ c) (hnil : A = none → c = 0) :
    ∃ A' : Option Addr, (if c = i then A else A.map fun a => a.add i) = A' ∧ NRow k w A' ((xs.drop i).take n) ∧ (A' = none → c - i = 0) := by
  by_cases hci : c = i
  · refine ⟨A, by rw [if_pos hci], ?_, fun _ => by omega⟩
    have : n = 0 := by omega
    subst this
    exact NRow.none_ _ _ _
  · rcases A with _ | ad
    · exact absurd (hnil rfl) (by omega)
    · refine ⟨some (ad.add i), by rw [if_neg hci]; rfl, ?_, fun h => by cases h⟩
      by_cases hx : xs = []
      · subst hx; simpa using NRow.none_ k w (some (ad.add i))
      · have hl : 0 < xs.length := List.length_pos_iff.2 hx
        obtain ⟨b, off, e, _⟩ := h 0 xs[0] (by simp [List.getElem?_eq_getElem hl])
        injection e with e
        subst e
        rw [add_none_]
        exact (h.drop i).take n

/-- The block from which a slice is read (of an empty one nothing is read). -/
def rowX (A : Option Addr) (xs : List Int) : List Nat := match A, xs with | some a, _ :: _ => [a.block] | _, _ => []
theorem mem_rowX {A : Option Addr} {xs : List Int} {k : Nat} : k ∈ rowX A xs ↔ ∃ a, A = some a ∧ xs ≠ [] ∧ a.block = k := by
  unfold rowX
  rcases A with _ | a
  · simp
  · rcases xs with _ | ⟨x, r⟩
    · simp
    · simp [eq_comm]
theorem rowX_some {b off : Nat} {xs : List Int} {i : Nat} {x : Int} (h : xs[i]? = some x) : b ∈ rowX (some ⟨b, off, none⟩) xs :=
  mem_rowX.2 ⟨_, rfl, fun e => by subst e; simp at h, rfl⟩
theorem NRow.ltX {k : IntKind} {w : World} {A : Option Addr} {xs : List Int} (h : NRow k w A xs) : ∀ b ∈ rowX A xs, b < w.heap.size := by
  intro b hb
  obtain ⟨a, rfl, hx, rfl⟩ := mem_rowX.1 hb
  have hl : 0 < xs.length := List.length_pos_iff.2 hx
  obtain ⟨b, off, e, hc⟩ := h 0 xs[0] (by simp [List.getElem?_eq_getElem hl])
  injection e with e
  subst e
  exact World.block_lt_of_cell? w _ hc
theorem nrowx_stays {k : IntKind} {w w' : World} {A : Option Addr} {xs : List Int} (h : NRow k w A xs) (hS : ∀ b ∈ rowX A xs, w'.heap[b]? = w.heap[b]?) : NRow k w' A xs := by
  intro i x hx
  obtain ⟨b, off, rfl, hc⟩ := h i x hx
  refine ⟨b, off, rfl, ?_⟩
  rw [World.cell?_of_block (w := w) (hS b (rowX_some hx))]; exact hc
theorem nrowx_moved {k : IntKind} {w w' : World} {A : Option Addr} {xs : List Int} {S : List Nat} (h : NRow k w A xs) (hm : Moved w w' S) (hS : ∀ b ∈ rowX A xs, b ∉ S) : NRow k w' A xs :=
  nrowx_stays h fun b hb => hm.block b (h.ltX b hb) (hS b hb)
theorem own_moved' {w w' : World} {base : Nat} {e : TypeId} {size : Nat} {v : Value} {n : Nat} {xs : List Value} {S : List Nat} (h : w.ownsRow base e size v n xs) (hM : Moved w w' S) (hd : ∀ k ∈ rowOf v, k ∉ S) : w'.ownsRow base e size v n xs :=
  own_stays h (fun k hk => hM.block k (own_lt h k hk) (hd k hk))
/-- The rest of a slice. -/
theorem nrow_from {k : IntKind} {w : World} {ad : Addr} {xs : List Int} (h : NRow k w (some ad) xs) (i : Nat) : NRow k w (some (ad.add i)) (xs.drop i) := by
  by_cases hx : xs = []
  · subst hx; simpa using NRow.none_ k w (some (ad.add i))
  · have hl : 0 < xs.length := List.length_pos_iff.2 hx
    obtain ⟨b, off, e, _⟩ := h 0 xs[0] (by simp [List.getElem?_eq_getElem hl])
    injection e with e
    subst e
    rw [add_none_]
    exact h.drop i
theorem rowX_rowOf {A : Option Addr} {n c : Nat} {xs : List Int} {k : Nat} (h : k ∈ rowX A xs) : k ∈ rowOf (.slice A n c) := by
  obtain ⟨a, rfl, _, rfl⟩ := mem_rowX.1 h
  simp [mem_rowOf, Value.ownBlock]
end Go.Proofs.YtekleamkpfeifaaDoor

/-
  CONTRACTS of hanseref04.four, number, Seal.
-/
namespace Go.Proofs.YtekleamkpfeifaaDoor
namespace Fr
open Go.RowKit
theorem own_moved {w w' : World} {base : Nat} {e : TypeId} {size : Nat} {v : Value} {n : Nat} {xs : List Value} {S : List Nat} (h : w.ownsRow base e size v n xs) (hM : Moved w w' S) (hd : ∀ k ∈ rowOf v, k ∉ S) : w'.ownsRow base e size v n xs :=
  own_stays h (fun k hk => hM.block k (own_lt h k hk) (hd k hk))
/-- Four bytes of a number, the highest first. -/
def be4 (v : Nat) : List Int := [((v / 16777216 : Nat) : Int), ((v / 65536 % 256 : Nat) : Int), ((v / 256 % 256 : Nat) : Int), ((v % 256 : Nat) : Int)]
theorem be4_len (v : Nat) : (be4 v).length = 4 := rfl
theorem be4_bytes {v : Nat} (h : v < 4294967296) : ByteList (be4 v) := by
  intro x hx
  simp only [be4, List.mem_cons, List.not_mem_nil, or_false] at hx
  rcases hx with rfl | rfl | rfl | rfl <;> omega
/-- A literal of bytes, new. -/
theorem own_lit {w : World} {e : TypeId} (xs : List Int) (hm : xs.length ≤ maxLen) (cs : Array Value) (hcs : cs.toList = xs.map (Value.int .u8)) :
    (w.alloc (.cells cs e)).ownsRow 0 e 1 (.slice (some ⟨w.heap.size, 0, none⟩) xs.length xs.length) xs.length (xs.map (Value.int .u8)) ∧ Step w (w.alloc (.cells cs e)) [] (rowOf (.slice (some ⟨w.heap.size, 0, none⟩) xs.length xs.length)) := by
  have hs : cs.size = xs.length * 1 := by rw [← Array.length_toList, hcs]; simp
  refine ⟨?_, (Moved.refl w []).alloc _, fun k hk => .inr (by have h1 : w.heap.size = k := (by simpa [mem_rowOf, Value.ownBlock] using hk); omega)⟩
  have h := World.ownsRow_lit (e := e) (size := 1) (base := 0) w cs xs.length (by omega) hm hs
  rw [← hcs]; exact h
set_option maxRecDepth 100000 in
set_option maxHeartbeats 1000000 in
theorem reffour_any (v : Nat) (w : World) (hv : v < 4294967296) :
    Calls Tryd.prog 59 #[.int .u32 v] w (NewBytes (be4 v) w) := by
  go_enter Tryd.func59, Tryd.ntmps59
  go_wp2
  go_ret
  have E := own_lit (w := w) (e := 5) (be4 v) (by rw [be4_len]; decide) #[.int .u8 ((v : Int) / 16777216), .int .u8 ((v : Int) / 65536 % 256), .int .u8 ((v : Int) / 256 % 256), .int .u8 ((v : Int) % 256)] (by
    simp only [be4, List.map_cons, List.map_nil]
    rw [show ((v / 16777216 : Nat) : Int) = (v : Int) / 16777216 by omega, show ((v / 65536 % 256 : Nat) : Int) = (v : Int) / 65536 % 256 by omega, show ((v / 256 % 256 : Nat) : Int) = (v : Int) / 256 % 256 by omega, show ((v % 256 : Nat) : Int) = (v : Int) % 256 by omega])
  exact ⟨_, rfl, E.1, E.2⟩
/-- The number that the first four bytes make. -/
def numB (xs : List Int) : Int := xs.getD 0 0 * 16777216 + xs.getD 1 0 * 65536 + xs.getD 2 0 * 256 + xs.getD 3 0
set_option maxRecDepth 100000 in
set_option maxHeartbeats 1000000 in
theorem refnumber_any (A : Option Addr) (n c : Nat) (xs : List Int) (w : World) (hA : NRow .u8 w A xs) (hn : xs.length = n) (hb : ByteList xs) (h4 : 4 ≤ n) (hn2 : n ≤ 70368744177664) :
    Calls Tryd.prog 67 #[.slice A n c] w fun e w' => e = .returned (.int .i64 (numB xs)) ∧ ∃ m, w' = w.drewN m := by
  obtain ⟨x0, x1, x2, x3, r, rfl⟩ : ∃ x0 x1 x2 x3 r, xs = x0 :: x1 :: x2 :: x3 :: r := by
    rcases xs with _ | ⟨x0, _ | ⟨x1, _ | ⟨x2, _ | ⟨x3, r⟩⟩⟩⟩ <;> simp only [List.length_nil, List.length_cons] at hn
    · omega
    · omega
    · omega
    · omega
    · exact ⟨x0, x1, x2, x3, r, rfl⟩
  obtain ⟨b, off, rfl, c0⟩ := hA 0 x0 rfl
  obtain ⟨b1, off1, e1, c1⟩ := hA 1 x1 rfl
  obtain ⟨b2, off2, e2, c2⟩ := hA 2 x2 rfl
  obtain ⟨b3, off3, e3, c3⟩ := hA 3 x3 rfl
  injection e1 with e1
  injection e1 with e11 e12
  injection e2 with e2
  injection e2 with e21 e22
  injection e3 with e3
  injection e3 with e31 e32
  subst e11 e12 e21 e22 e31 e32
  have g0 := hb x0 (by simp)
  have g1 := hb x1 (by simp)
  have g2 := hb x2 (by simp)
  have g3 := hb x3 (by simp)
  obtain ⟨g00, g01⟩ := g0
  obtain ⟨g10, g11⟩ := g1
  obtain ⟨g20, g21⟩ := g2
  obtain ⟨g30, g31⟩ := g3
  have HN := Lib.hid hn
  have c0 : w.cell? ⟨b, off, none⟩ = some (.int .u8 x0) := c0
  have i0 : 0 < n := by omega
  have i1 : (1 : Int) < n := by omega
  have i2 : (2 : Int) < n := by omega
  have i3 : (3 : Int) < n := by omega
  have p0 : IntKind.i64.wrap x0 = x0 := IntWalk.i64_in _ (by omega)
  have p1 : IntKind.i64.wrap x1 = x1 := IntWalk.i64_in _ (by omega)
  have p2 : IntKind.i64.wrap x2 = x2 := IntWalk.i64_in _ (by omega)
  have p3 : IntKind.i64.wrap x3 = x3 := IntWalk.i64_in _ (by omega)
  have q0 : IntKind.i64.wrap (x0 * 16777216) = x0 * 16777216 := IntWalk.i64_in _ (by omega)
  have q1 : IntKind.i64.wrap (x1 * 65536) = x1 * 65536 := IntWalk.i64_in _ (by omega)
  have q2 : IntKind.i64.wrap (x2 * 256) = x2 * 256 := IntWalk.i64_in _ (by omega)
  have r0 : IntKind.i64.wrap (x0 * 16777216 + x1 * 65536) = x0 * 16777216 + x1 * 65536 := IntWalk.i64_in _ (by omega)
  have r1 : IntKind.i64.wrap (x0 * 16777216 + x1 * 65536 + x2 * 256) = x0 * 16777216 + x1 * 65536 + x2 * 256 := IntWalk.i64_in _ (by omega)
  have r2 : IntKind.i64.wrap (x0 * 16777216 + x1 * 65536 + x2 * 256 + x3) = x0 * 16777216 + x1 * 65536 + x2 * 256 + x3 := IntWalk.i64_in _ (by omega)
  clear hA hb hn g00 g01 g10 g11 g20 g21 g30 g31
  go_enter Tryd.func67, Tryd.ntmps67
  go_wp2
  go_quiet (fail)
  go_wp2
  go_ret
  exact ⟨rfl, _, rfl⟩
end Fr
end Go.Proofs.YtekleamkpfeifaaDoor
