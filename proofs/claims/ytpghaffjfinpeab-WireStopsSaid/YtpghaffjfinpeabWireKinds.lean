/-
  PLAIN: the kinds of the fields of each struct that package wire writes.
-/
import Derived.Test.YtpghaffjfinpeabWireDat
import Derived.Deep.WholeRow
import Derived.Deep.MidRow
namespace Go.Proofs.Ytpghaffjfinpeab
namespace Wi
open Go.RowKit Pk Am
abbrev Kint : List Kind := [.num]
abbrev Kid : List Kind := [.num, .num]
abbrev Kspan : List Kind := [.num, .num]
abbrev Kpart : List Kind := [.num, .num, .num]
abbrev Kuse : List Kind := [.num, .num, .num]
abbrev Kslot : List Kind := [.num, .num, .num]
abbrev Kbusy : List Kind := [.num, .num, .amt]
abbrev Koffer : List Kind := [.num, .list 8 Kspan]
abbrev Kjob : List Kind := [.num, .num, .num, .amt, .num, .num, .num, .num, .list 8 Kint, .mark]
abbrev Kresv : List Kind := [.num, .num, .num, .num, .num, .amt, .mark, .num]
abbrev Kcopy : List Kind := [.num, .num, .num, .amt, .num, .num, .num, .num, .list 8 Kint, .mark, .num, .num, .num, .num, .num, .num, .num]
abbrev Kown : List Kind := [.num, .num, .num, .amt, .num, .num, .num, .num, .list 8 Kint, .mark, .num, .num, .num, .mark, .num, .num, .num, .num, .list 8 Kint, .list 8 Koffer, .list 8 Kpart]
abbrev Kmsg : List Kind := [.num, .num, .num, .num, .num, .num, .mark, .num, .num, .num, .amt, .num, .num, .num, .num, .list 8 Kint, .mark, .list 8 Kspan]
abbrev Krec : List Kind := [.num, .num, .num, .num, .num, .num, .num, .num, .mark, .num, .num, .num, .amt, .num, .num, .num, .num, .list 8 Kint, .mark, .num, .num, .amt, .list 8 Kspan, .list 256 Kslot]
abbrev Kreply : List Kind := [.num, .num, .num, .num, .num, .num, .num]
abbrev Kstate : List Kind := [.num, .amt, .num, .mark, .num, .num, .list 1024 Kown, .list 1024 Kcopy, .list 1024 Kresv, .list 1024 Kslot, .list 1024 Kuse, .num]
/-- A whole struct into the block that was made last. -/
theorem wpList_store_new {P : Program} {ops : Array Oper} {rest : List Oper} {op : Oper} {a : Act} {w : World} {Q : Exit → Act → World → Prop} (hgd : op.guard = none) (ty : TypeId) (x y : Operand) (ho : op.op = .store ty x y)
    (c cells : Array Value) (hx : a.eval x = .pointer (some ⟨w.heap.size, 0, none⟩)) (hy : a.eval y = .agg cells) (hi : (P.info? ty).map (·.size) = some cells.size) (hs : c.size = cells.size) (h1 : cells.all (·.oneCell') = true)
    (h : wpList P ops Q rest (a.put op.dst undef) (w.alloc (.cells cells ty))) : wpList P ops Q (op :: rest) a (w.alloc (.cells c ty)) :=
  wpList_plain hgd fun _ hK => by
    unfold Oper.wp execOp
    simp only [ho, hx, hy, Sem.run_bind, run_storeAt_new w ty c cells hi hs h1, Result.andThen_ok]
    exact hK _ _ h
theorem range_new (w : World) (vs : List Value) (T : TypeId) : (w.alloc (.cells vs.toArray T)).rangeAt w.heap.size 0 vs := fun j v hv => by
  rw [Nat.zero_add, cell_of_row _ _ _ _ _ _ (heap_alloc_new w _)]; simpa using hv
mutual
theorem Holds.one {w : World} {b : Nat} : ∀ (K : Kind) (v : Value) (d : Dat), Holds w b K v d → v.oneCell' = true
  | .num, v, d, h => by rw [Holds] at h; obtain ⟨_, _, rfl, _⟩ := h; rfl
  | .mark, v, d, h => by rw [Holds] at h; obtain ⟨_, _, rfl⟩ := h; rfl
  | .amt, v, d, h => by rw [Holds] at h; obtain ⟨_, _, _, rfl, _⟩ := h; rfl
  | .text, v, d, h => by rw [Holds] at h; obtain ⟨_, _, _, _, _, rfl, _⟩ := h; rfl
  | .list most K, v, d, h => by rw [Holds] at h; obtain ⟨_, _, _, _, _, rfl, _⟩ := h; rfl
theorem HoldsAll.one {w : World} {b : Nat} : ∀ (K : List Kind) (vs : List Value) (ds : List Dat), HoldsAll w b K vs ds → vs.all (·.oneCell') = true
  | [], vs, ds, h => by rw [HoldsAll] at h; obtain ⟨rfl, _⟩ := h; rfl
  | k :: ks, vs, ds, h => by
    rw [HoldsAll] at h
    obtain ⟨v, vs', d, ds', rfl, rfl, h3, h4⟩ := h
    rw [List.all_cons, Holds.one k v d h3, HoldsAll.one ks vs' ds' h4]; rfl
end
theorem HoldsAll.num {w : World} {b : Nat} {ks : List Kind} {vs : List Value} {ds : List Dat} (h : HoldsAll w b (.num :: ks) vs ds) : ∃ n vs' ds', vs = .int .i64 n :: vs' ∧ ds = .num n :: ds' ∧ (-9223372036854775808 ≤ n ∧ n ≤ 9223372036854775807) ∧ HoldsAll w b ks vs' ds' := by
  rw [HoldsAll] at h
  obtain ⟨v, vs', d, ds', rfl, rfl, h3, h4⟩ := h
  rw [Holds] at h3
  obtain ⟨n, rfl, rfl, h5⟩ := h3
  exact ⟨n, vs', ds', rfl, rfl, h5, h4⟩
theorem HoldsAll.mark {w : World} {b : Nat} {ks : List Kind} {vs : List Value} {ds : List Dat} (h : HoldsAll w b (.mark :: ks) vs ds) : ∃ c vs' ds', vs = .bool c :: vs' ∧ ds = .mark c :: ds' ∧ HoldsAll w b ks vs' ds' := by
  rw [HoldsAll] at h
  obtain ⟨v, vs', d, ds', rfl, rfl, h3, h4⟩ := h
  rw [Holds] at h3
  obtain ⟨c, rfl, rfl⟩ := h3
  exact ⟨c, vs', ds', rfl, rfl, h4⟩
theorem HoldsAll.amt {w : World} {b : Nat} {ks : List Kind} {vs : List Value} {ds : List Dat} (h : HoldsAll w b (.amt :: ks) vs ds) : ∃ (n l : Nat) (vs' : List Value) (ds' : List Dat), vs = Am.amt n l :: vs' ∧ ds = .amt n l :: ds' ∧ (n ≤ 1048576 ∧ l ≤ 1048576) ∧ HoldsAll w b ks vs' ds' := by
  rw [HoldsAll] at h
  obtain ⟨v, vs', d, ds', rfl, rfl, h3, h4⟩ := h
  rw [Holds] at h3
  obtain ⟨n, l, rfl, rfl, h5⟩ := h3
  exact ⟨n, l, vs', ds', rfl, rfl, h5, h4⟩
theorem HoldsAll.list {w : World} {b most : Nat} {K ks : List Kind} {vs : List Value} {ds : List Dat} (h : HoldsAll w b (.list most K :: ks) vs ds) : ∃ A n c rows vs' ds', vs = .slice A n c :: vs' ∧ ds = .list most rows :: ds' ∧ Holds w b (.list most K) (.slice A n c) (.list most rows) ∧ HoldsAll w b ks vs' ds' := by
  rw [HoldsAll] at h
  obtain ⟨v, vs', d, ds', rfl, rfl, h3, h4⟩ := h
  have h3' := h3
  rw [Holds] at h3
  obtain ⟨A, n, c, rows, rfl, rfl, _⟩ := h3
  exact ⟨A, n, c, rows, vs', ds', rfl, rfl, h3', h4⟩
theorem HoldsAll.nil {w : World} {b : Nat} {vs : List Value} {ds : List Dat} (h : HoldsAll w b [] vs ds) : vs = [] ∧ ds = [] := by rw [HoldsAll] at h; exact h
theorem hZ {w : World} {b : Nat} : HoldsAll w b [] [] [] := by rw [HoldsAll]; exact ⟨rfl, rfl⟩
theorem hN {w : World} {b : Nat} {ks : List Kind} {vs : List Value} {ds : List Dat} {n : Int} (i : -9223372036854775808 ≤ n ∧ n ≤ 9223372036854775807) (h : HoldsAll w b ks vs ds) : HoldsAll w b (.num :: ks) (.int .i64 n :: vs) (.num n :: ds) := by
  rw [HoldsAll]; exact ⟨_, _, _, _, rfl, rfl, by rw [Holds]; exact ⟨n, rfl, rfl, i⟩, h⟩
theorem hM {w : World} {b : Nat} {ks : List Kind} {vs : List Value} {ds : List Dat} {c : Bool} (h : HoldsAll w b ks vs ds) : HoldsAll w b (.mark :: ks) (.bool c :: vs) (.mark c :: ds) := by
  rw [HoldsAll]; exact ⟨_, _, _, _, rfl, rfl, by rw [Holds]; exact ⟨c, rfl, rfl⟩, h⟩
theorem hA {w : World} {b : Nat} {ks : List Kind} {vs : List Value} {ds : List Dat} {n l : Nat} (i : n ≤ 1048576 ∧ l ≤ 1048576) (h : HoldsAll w b ks vs ds) : HoldsAll w b (.amt :: ks) (Am.amt n l :: vs) (.amt n l :: ds) := by
  rw [HoldsAll]; exact ⟨_, _, _, _, rfl, rfl, by rw [Holds]; exact ⟨n, l, rfl, rfl, i⟩, h⟩
theorem hAv {w : World} {b : Nat} {ks : List Kind} {vs : List Value} {ds : List Dat} {n l : Nat} {a : Value} (e : a = Am.amt n l) (i : n ≤ 1048576 ∧ l ≤ 1048576) (h : HoldsAll w b ks vs ds) : HoldsAll w b (.amt :: ks) (a :: vs) (.amt n l :: ds) := by
  subst e
  exact hA i h
theorem hL {w : World} {b most : Nat} {K ks : List Kind} {v : Value} {d : Dat} {vs : List Value} {ds : List Dat} (i : Holds w b (.list most K) v d) (h : HoldsAll w b ks vs ds) : HoldsAll w b (.list most K :: ks) (v :: vs) (d :: ds) := by
  rw [HoldsAll]; exact ⟨_, _, _, _, rfl, rfl, i, h⟩
theorem nrow_lits {k : IntKind} {w : World} {g : Nat} (hg : w.heap.size = g) (l : List Int) {cs : Array Value} (e : TypeId) (h : cs = (l.map (Value.int k)).toArray) : NRow k (w.alloc (.cells cs e)) (some ⟨g, 0, none⟩) l := by
  subst h hg
  intro i x hx
  exact ⟨w.heap.size, 0, rfl, by rw [cell_of_row _ _ _ _ _ _ (heap_alloc_new w _)]; simp [hx]⟩
theorem rowX_new {w : World} {g : Nat} (hg : w.heap.size = g) {l : List Int} {fp : List Nat} (h : ∀ k ∈ fp, k < w.heap.size) : ∀ k ∈ rowX (some ⟨g, 0, none⟩) l, k ∉ fp := by
  subst hg
  intro k hk hf
  obtain ⟨a, e, _, rfl⟩ := mem_rowX.1 hk
  injection e with e
  subst e
  have := h _ hf
  simp at this
end Wi
end Go.Proofs.Ytpghaffjfinpeab
