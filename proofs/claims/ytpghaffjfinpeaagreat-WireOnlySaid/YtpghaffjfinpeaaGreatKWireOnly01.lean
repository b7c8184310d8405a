/-
  5 texts in one: MemStep, WireDat, BytesPlain, PackSt, PackPlain.
-/
import Derived.Test.YtpghaffjfinpeaaGreatKWireOnly00
import Derived.Deep.RegionLaw
import Derived.Test.YtpghaffjfinpeaaGreatProg
import Derived.Test.YtpghaffjfinpeaaGreatChecked
import Derived.Laws.BytesArg

/-
  MORE WORDS for memory: append as one step of a region that draws its order; a piece of a slice.
-/
namespace Go.Proofs.YtpghaffjfinpeaaGreat
open Go.RowKit
/-- The same law as one step of a region that draws its order (go_region_law). -/
theorem step_append_row {P : Program} {ops : Array Oper} {o : Oper} {a : Act} {w : World} {K : Act → World → Prop} {Q : Exit → Act → World → Prop} {E : Prop} (hgd : o.guard = none) (s x : Operand) (t : TypeId)
    (ho : o.op = .call { callee := .builtin .append, args := #[s, x], argTypes := #[t, t] })
    (e : TypeId) (i : TypeInfo) (k : IntKind) (by_ : Nat) (ht : P.underlying t = some (.slice e)) (hi : P.info? e = some i) (hz : i.zero = some (.int k 0)) (hsize : i.size = 1) (hby : i.bytes = by_)
    (v : Value) (n : Nat) (xs : List Value) (hs : a.eval s = v) (hown : w.ownsRow 0 e 1 v n xs)
    (A : Option Addr) (m c : Nat) (ys : List Int) (hx : a.eval x = .slice A m c) (hm : ys.length = m) (hA : NRow k w A ys) (hc : A = none → c = 0)
    (h63 : n + m ≤ maxLen) (hb : (n + m) * by_ ≤ 140737488355328)
    (h : ∀ v' w', w'.ownsRow 0 e 1 v' (n + m) (xs ++ ys.map (Value.int k)) → Step w w' (rowOf v) (rowOf v') → K (a.put o.dst v') w') :
    if Region.wanted o (yielded ops a.tmps) = true then Oper.wp P o a w K Q else E := by
  have hw : Region.wanted o (yielded ops a.tmps) = true := by simp [Region.wanted, hgd]
  rw [if_pos hw]
  subst hm
  obtain ⟨v', w', hrun, r1, r2⟩ := run_append_row (P := P) w t o.type e i k by_ ht hi hz hsize hby v n xs hown A c ys hA hc h63 hb
  unfold Oper.wp
  simp [execOp, ho, resolve, invoke, builtin, hs, hx, hrun, Result.andThen]
  exact h v' w' r1 r2
/-- The same where the operation is guarded. -/
theorem step_append_guarded {P : Program} {ops : Array Oper} {o : Oper} {a : Act} {w : World} {K : Act → World → Prop} {Q : Exit → Act → World → Prop} {E : Prop} (hw : Region.wanted o (yielded ops a.tmps) = true) (s x : Operand) (t : TypeId)
    (ho : o.op = .call { callee := .builtin .append, args := #[s, x], argTypes := #[t, t] })
    (e : TypeId) (i : TypeInfo) (k : IntKind) (by_ : Nat) (ht : P.underlying t = some (.slice e)) (hi : P.info? e = some i) (hz : i.zero = some (.int k 0)) (hsize : i.size = 1) (hby : i.bytes = by_)
    (v : Value) (n : Nat) (xs : List Value) (hs : a.eval s = v) (hown : w.ownsRow 0 e 1 v n xs)
    (A : Option Addr) (m c : Nat) (ys : List Int) (hx : a.eval x = .slice A m c) (hm : ys.length = m) (hA : NRow k w A ys) (hc : A = none → c = 0)
    (h63 : n + m ≤ maxLen) (hb : (n + m) * by_ ≤ 140737488355328)
    (h : ∀ v' w', w'.ownsRow 0 e 1 v' (n + m) (xs ++ ys.map (Value.int k)) → Step w w' (rowOf v) (rowOf v') → K (a.put o.dst v') w') :
    if Region.wanted o (yielded ops a.tmps) = true then Oper.wp P o a w K Q else E := by
  rw [if_pos hw]
  subst hm
  obtain ⟨v', w', hrun, r1, r2⟩ := run_append_row (P := P) w t o.type e i k by_ ht hi hz hsize hby v n xs hown A c ys hA hc h63 hb
  unfold Oper.wp
  simp [execOp, ho, resolve, invoke, builtin, hs, hx, hrun, Result.andThen]
  exact h v' w' r1 r2
/-- A piece of a slice: from k on, n of it. Where the piece begins at the very end of the room, the place is told as it was. -/
theorem NRow.piece {k : IntKind} {w : World} {A : Option Addr} {xs : List Int} {c i n : Nat} (h : NRow k w A xs) (hi : i + n ≤ xs.length) (hc : xs.length ≤ c) (hnil : A = none → c = 0) :
    ∃ A' : Option Addr, (if c = i then A else A.map fun a => a.add i) = A' ∧ NRow k w A' ((xs.drop i).take n) ∧ (A' = none → c - i = 0) := by
  by_cases hci : c = i
  · refine ⟨A, by rw [if_pos hci], ?_, fun _ => by omega⟩
    have : n = 0 := by omega
    subst this
    exact NRow.none_ _ _ _
  · rcases A with _ | ad
    · exact absurd (hnil rfl) (by omega)
    · refine ⟨some (ad.add i), by rw [if_neg hci]; rfl, ?_, fun h => by cases h⟩
      by_cases hx : xs = []
      · subst hx; simpa using NRow.none_ k w (some (ad.add i))
      · have hl : 0 < xs.length := List.length_pos_iff.2 hx
        obtain ⟨b, off, e, _⟩ := h 0 xs[0] (by simp [List.getElem?_eq_getElem hl])
        injection e with e
        subst e
        rw [add_none_]
        exact (h.drop i).take n

/-- The block from which a slice is read (of an empty one nothing is read). -/
def rowX (A : Option Addr) (xs : List Int) : List Nat := match A, xs with | some a, _ :: _ => [a.block] | _, _ => []
theorem mem_rowX {A : Option Addr} {xs : List Int} {k : Nat} : k ∈ rowX A xs ↔ ∃ a, A = some a ∧ xs ≠ [] ∧ a.block = k := by
  unfold rowX
  rcases A with _ | a
  · simp
  · rcases xs with _ | ⟨x, r⟩
    · simp
    · simp [eq_comm]
theorem rowX_some {b off : Nat} {xs : List Int} {i : Nat} {x : Int} (h : xs[i]? = some x) : b ∈ rowX (some ⟨b, off, none⟩) xs :=
  mem_rowX.2 ⟨_, rfl, fun e => by subst e; simp at h, rfl⟩
theorem NRow.ltX {k : IntKind} {w : World} {A : Option Addr} {xs : List Int} (h : NRow k w A xs) : ∀ b ∈ rowX A xs, b < w.heap.size := by
  intro b hb
  obtain ⟨a, rfl, hx, rfl⟩ := mem_rowX.1 hb
  have hl : 0 < xs.length := List.length_pos_iff.2 hx
  obtain ⟨b, off, e, hc⟩ := h 0 xs[0] (by simp [List.getElem?_eq_getElem hl])
  injection e with e
  subst e
  exact World.block_lt_of_cell? w _ hc
theorem nrowx_stays {k : IntKind} {w w' : World} {A : Option Addr} {xs : List Int} (h : NRow k w A xs) (hS : ∀ b ∈ rowX A xs, w'.heap[b]? = w.heap[b]?) : NRow k w' A xs := by
  intro i x hx
  obtain ⟨b, off, rfl, hc⟩ := h i x hx
  refine ⟨b, off, rfl, ?_⟩
  rw [World.cell?_of_block (w := w) (hS b (rowX_some hx))]; exact hc
theorem nrowx_moved {k : IntKind} {w w' : World} {A : Option Addr} {xs : List Int} {S : List Nat} (h : NRow k w A xs) (hm : Moved w w' S) (hS : ∀ b ∈ rowX A xs, b ∉ S) : NRow k w' A xs :=
  nrowx_stays h fun b hb => hm.block b (h.ltX b hb) (hS b hb)
theorem own_moved' {w w' : World} {base : Nat} {e : TypeId} {size : Nat} {v : Value} {n : Nat} {xs : List Value} {S : List Nat} (h : w.ownsRow base e size v n xs) (hM : Moved w w' S) (hd : ∀ k ∈ rowOf v, k ∉ S) : w'.ownsRow base e size v n xs :=
  own_stays h (fun k hk => hM.block k (own_lt h k hk) (hd k hk))
/-- The rest of a slice. -/
theorem nrow_from {k : IntKind} {w : World} {ad : Addr} {xs : List Int} (h : NRow k w (some ad) xs) (i : Nat) : NRow k w (some (ad.add i)) (xs.drop i) := by
  by_cases hx : xs = []
  · subst hx; simpa using NRow.none_ k w (some (ad.add i))
  · have hl : 0 < xs.length := List.length_pos_iff.2 hx
    obtain ⟨b, off, e, _⟩ := h 0 xs[0] (by simp [List.getElem?_eq_getElem hl])
    injection e with e
    subst e
    rw [add_none_]
    exact h.drop i
theorem rowX_rowOf {A : Option Addr} {n c : Nat} {xs : List Int} {k : Nat} (h : k ∈ rowX A xs) : k ∈ rowOf (.slice A n c) := by
  obtain ⟨a, rfl, _, rfl⟩ := mem_rowX.1 h
  simp [mem_rowOf, Value.ownBlock]
end Go.Proofs.YtpghaffjfinpeaaGreat

/-
  PLAIN: what structs of numbers, marks, amounts, texts and lists of such hold; how they lie in memory (one cell a field, fields of a field in their place); what a writer makes of them.
-/
namespace Go.Proofs.YtpghaffjfinpeaaGreat
namespace Wi
open Go.RowKit Pk Am

/-- A field's kind. -/
inductive Kind where
  | num
  | mark
  | amt
  | text
  | list (most : Nat) (elem : List Kind)
/-- What a field holds; a list knows how many elements it may have. -/
inductive Dat where
  | num (n : Int)
  | mark (b : Bool)
  | amt (n l : Nat)
  | text (l : List Int)
  | list (most : Nat) (rows : List (List Dat))

/-- A writer of things: what was written, and whether a list was too long. -/
structure Ws where
  s : WSt
  t : Bool
def Ws.put (x : Ws) (l : List Int) : Ws := ⟨x.s.put l, x.t⟩
def Ws.text (x : Ws) (l : List Int) : Ws := ⟨x.s.text l, x.t⟩
def Ws.long (x : Ws) : Ws := ⟨x.s, true⟩

mutual
/-- What a writer makes of a field. -/
def wrD : Dat → Ws → Ws
  | .num n, x => x.put (enc (zig n))
  | .mark b, x => x.put (enc (if b then 1 else 0))
  | .amt n l, x => x.put (enc n ++ enc l)
  | .text l, x => x.text l
  | .list most rows, x => if most < rows.length then x.long else wrRows rows (x.put (enc rows.length))
/-- .. of elements. -/
def wrRows : List (List Dat) → Ws → Ws
  | [], x => x
  | r :: rs, x => wrRows rs (wrs r x)
/-- .. of fields, one behind the other. -/
def wrs : List Dat → Ws → Ws
  | [], x => x
  | d :: ds, x => wrs ds (wrD d x)
end
mutual
/-- The bytes of a field. -/
def encD : Dat → List Int
  | .num n => enc (zig n)
  | .mark b => enc (if b then 1 else 0)
  | .amt n l => enc n ++ enc l
  | .text l => enc l.length ++ l
  | .list _ rows => enc rows.length ++ encRows rows
def encRows : List (List Dat) → List Int
  | [] => []
  | r :: rs => encDs r ++ encRows rs
def encDs : List Dat → List Int
  | [] => []
  | d :: ds => encD d ++ encDs ds
end
mutual
/-- No list, no text is too long. -/
def RightD : Dat → Prop
  | .num _ => True
  | .mark _ => True
  | .amt _ _ => True
  | .text l => l.length ≤ 131072
  | .list most rows => rows.length ≤ most ∧ RightRows rows
def RightRows : List (List Dat) → Prop
  | [] => True
  | r :: rs => RightDs r ∧ RightRows rs
def RightDs : List Dat → Prop
  | [] => True
  | d :: ds => RightD d ∧ RightDs ds
end
mutual
theorem wr_right : ∀ (d : Dat) (bs : List Int), RightD d → wrD d ⟨.ok bs, false⟩ = ⟨.ok (bs ++ encD d), false⟩
  | .num n, bs, _ => by rw [wrD, encD]; rfl
  | .mark b, bs, _ => by rw [wrD, encD]; rfl
  | .amt n l, bs, _ => by rw [wrD, encD]; rfl
  | .text l, bs, h => by
    rw [RightD] at h
    rw [wrD, encD]
    show (⟨WSt.text l (.ok bs), false⟩ : Ws) = _
    rw [WSt.text, if_neg (by omega)]; rfl
  | .list most rows, bs, h => by
    rw [RightD] at h
    rw [wrD, encD, if_neg (by omega)]
    show wrRows rows ⟨.ok (bs ++ enc rows.length), false⟩ = _
    rw [wrRows_right rows _ h.2, List.append_assoc]
theorem wrRows_right : ∀ (rs : List (List Dat)) (bs : List Int), RightRows rs → wrRows rs ⟨.ok bs, false⟩ = ⟨.ok (bs ++ encRows rs), false⟩
  | [], bs, _ => by rw [wrRows, encRows, List.append_nil]
  | r :: rs, bs, h => by
    rw [RightRows] at h
    rw [wrRows, encRows, wrs_right r bs h.1, wrRows_right rs _ h.2, List.append_assoc]
theorem wrs_right : ∀ (ds : List Dat) (bs : List Int), RightDs ds → wrs ds ⟨.ok bs, false⟩ = ⟨.ok (bs ++ encDs ds), false⟩
  | [], bs, _ => by rw [wrs, encDs, List.append_nil]
  | d :: ds, bs, h => by
    rw [RightDs] at h
    rw [wrs, encDs, wr_right d bs h.1, wrs_right ds _ h.2, List.append_assoc]
end
mutual
/-- A list that was too long is never forgotten. -/
theorem wr_long : ∀ (d : Dat) (x : Ws), x.t = true → (wrD d x).t = true
  | .num n, x, h => by rw [wrD]; exact h
  | .mark b, x, h => by rw [wrD]; exact h
  | .amt n l, x, h => by rw [wrD]; exact h
  | .text l, x, h => by rw [wrD]; exact h
  | .list most rows, x, h => by
    rw [wrD]
    split
    · rfl
    · exact wrRows_long rows _ h
theorem wrRows_long : ∀ (rs : List (List Dat)) (x : Ws), x.t = true → (wrRows rs x).t = true
  | [], x, h => by rw [wrRows]; exact h
  | r :: rs, x, h => by rw [wrRows]; exact wrRows_long rs _ (wrs_long r x h)
theorem wrs_long : ∀ (ds : List Dat) (x : Ws), x.t = true → (wrs ds x).t = true
  | [], x, h => by rw [wrs]; exact h
  | d :: ds, x, h => by rw [wrs]; exact wrs_long ds _ (wr_long d x h)
end
theorem wrs_append : ∀ (a b : List Dat) (x : Ws), wrs (a ++ b) x = wrs b (wrs a x)
  | [], b, x => by rw [List.nil_append, wrs]
  | d :: a, b, x => by rw [List.cons_append, wrs, wrs, wrs_append a b]
theorem wrRows_snoc : ∀ (rs : List (List Dat)) (r : List Dat) (x : Ws), wrRows (rs ++ [r]) x = wrs r (wrRows rs x)
  | [], r, x => by rw [List.nil_append, wrRows, wrRows, wrRows]
  | q :: rs, r, x => by rw [List.cons_append, wrRows, wrRows, wrRows_snoc rs r]
/-- One element more. -/
theorem wrRows_take {rs : List (List Dat)} {i : Nat} {r : List Dat} (h : rs[i]? = some r) (x : Ws) : wrRows (rs.take (i + 1)) x = wrs r (wrRows (rs.take i) x) := by
  rw [List.take_add_one, h]
  exact wrRows_snoc _ _ _

mutual
/-- The cell v holds d, of that kind; what it leads to lies in blocks below b. -/
def Holds (w : World) (b : Nat) : Kind → Value → Dat → Prop
  | .num, v, d => ∃ n, d = .num n ∧ v = .int .i64 n ∧ -9223372036854775808 ≤ n ∧ n ≤ 9223372036854775807
  | .mark, v, d => ∃ c, d = .mark c ∧ v = .bool c
  | .amt, v, d => ∃ n l : Nat, d = .amt n l ∧ v = amt n l ∧ n ≤ 1048576 ∧ l ≤ 1048576
  | .text, v, d => ∃ A n c l, d = .text l ∧ v = .slice A n c ∧ NRow .u8 w A l ∧ l.length = n ∧ (A = none → c = 0) ∧ (∀ k ∈ rowX A l, k < b) ∧ n ≤ 35184372088832
  | .list most K, v, d => ∃ A n c rows, d = .list most rows ∧ v = .slice A n c ∧ rows.length = n ∧ n ≤ 35184372088832 ∧
      ∀ i r, rows[i]? = some r → ∃ g off vs, A = some ⟨g, off, none⟩ ∧ g < b ∧ (∀ (j : Nat) v, vs[j]? = some v → w.cell? ⟨g, off + i * K.length + j, none⟩ = some v) ∧ HoldsAll w b K vs r
/-- The cells vs hold ds, each of its kind. -/
def HoldsAll (w : World) (b : Nat) : List Kind → List Value → List Dat → Prop
  | [], vs, ds => vs = [] ∧ ds = []
  | k :: ks, vs, ds => ∃ v vs' d ds', vs = v :: vs' ∧ ds = d :: ds' ∧ Holds w b k v d ∧ HoldsAll w b ks vs' ds'
end
mutual
theorem Holds.stays {w w' : World} {b : Nat} (hb : b ≤ w.heap.size) (hk : ∀ k, k < b → w'.heap[k]? = w.heap[k]?) : ∀ (K : Kind) (v : Value) (d : Dat), Holds w b K v d → Holds w' b K v d
  | .num, v, d, h => by rw [Holds] at h ⊢; exact h
  | .mark, v, d, h => by rw [Holds] at h ⊢; exact h
  | .amt, v, d, h => by rw [Holds] at h ⊢; exact h
  | .text, v, d, h => by
    rw [Holds] at h ⊢
    obtain ⟨A, n, c, l, h1, h2, h3, h4, h5, h6, h7⟩ := h
    exact ⟨A, n, c, l, h1, h2, nrowx_stays h3 (fun k hm => hk k (h6 k hm)), h4, h5, h6, h7⟩
  | .list most K, v, d, h => by
    rw [Holds] at h ⊢
    obtain ⟨A, n, c, rows, h1, h2, h3, h4, h5⟩ := h
    refine ⟨A, n, c, rows, h1, h2, h3, h4, fun i r hr => ?_⟩
    obtain ⟨g, off, vs, e1, e2, e3, e4⟩ := h5 i r hr
    exact ⟨g, off, vs, e1, e2, fun j v hv => by rw [World.cell?_of_block (w := w) (hk g e2)]; exact e3 j v hv, HoldsAll.stays hb hk K vs r e4⟩
theorem HoldsAll.stays {w w' : World} {b : Nat} (hb : b ≤ w.heap.size) (hk : ∀ k, k < b → w'.heap[k]? = w.heap[k]?) : ∀ (K : List Kind) (vs : List Value) (ds : List Dat), HoldsAll w b K vs ds → HoldsAll w' b K vs ds
  | [], vs, ds, h => by rw [HoldsAll] at h ⊢; exact h
  | k :: ks, vs, ds, h => by
    rw [HoldsAll] at h ⊢
    obtain ⟨v, vs', d, ds', h1, h2, h3, h4⟩ := h
    exact ⟨v, vs', d, ds', h1, h2, Holds.stays hb hk k v d h3, HoldsAll.stays hb hk ks vs' ds' h4⟩
end
theorem Holds.below {w w' : World} {b : Nat} {K : Kind} {v : Value} {d : Dat} (h : Holds w b K v d) (hb : b ≤ w.heap.size) (hm : Below b w w') : Holds w' b K v d := Holds.stays hb (fun k hk => hm.block k hk) K v d h
theorem HoldsAll.below {w w' : World} {b : Nat} {K : List Kind} {vs : List Value} {ds : List Dat} (h : HoldsAll w b K vs ds) (hb : b ≤ w.heap.size) (hm : Below b w w') : HoldsAll w' b K vs ds := HoldsAll.stays hb (fun k hk => hm.block k hk) K vs ds h
theorem HoldsAll.len {w : World} {b : Nat} : ∀ {K : List Kind} {vs : List Value} {ds : List Dat}, HoldsAll w b K vs ds → vs.length = K.length ∧ ds.length = K.length
  | [], vs, ds, h => by rw [HoldsAll] at h; obtain ⟨rfl, rfl⟩ := h; exact ⟨rfl, rfl⟩
  | k :: ks, vs, ds, h => by
    rw [HoldsAll] at h
    obtain ⟨v, vs', d, ds', rfl, rfl, _, h4⟩ := h
    have := HoldsAll.len h4
    simp [this.1, this.2]
/-- The cells of the i-th element. -/
theorem Holds.elem {w : World} {b most : Nat} {K : List Kind} {A : Option Addr} {n c : Nat} {rows : List (List Dat)} (h : Holds w b (.list most K) (.slice A n c) (.list most rows)) {i : Nat} {r : List Dat} (hi : rows[i]? = some r) :
    ∃ g off vs, A = some ⟨g, off, none⟩ ∧ g < b ∧ (∀ (j : Nat) v, vs[j]? = some v → w.cell? ⟨g, off + i * K.length + j, none⟩ = some v) ∧ HoldsAll w b K vs r := by
  rw [Holds] at h
  obtain ⟨A', n', c', rows', h1, h2, h3, h4, h5⟩ := h
  injection h2 with e1 e2 e3
  injection h1 with _ e4
  subst e1 e4
  exact h5 i r hi
theorem Holds.count {w : World} {b most : Nat} {K : List Kind} {A : Option Addr} {n c : Nat} {rows : List (List Dat)} (h : Holds w b (.list most K) (.slice A n c) (.list most rows)) : rows.length = n ∧ n ≤ 35184372088832 := by
  rw [Holds] at h
  obtain ⟨A', n', c', rows', h1, h2, h3, h4, h5⟩ := h
  injection h2 with e1 e2 e3
  injection h1 with _ e4
  subst e1 e2 e4
  exact ⟨h3, h4⟩
end Wi
end Go.Proofs.YtpghaffjfinpeaaGreat

/-
  Bytes as texts (no contract).
-/
namespace Go.Proofs.YtpghaffjfinpeaaGreat
open Go.RowKit

/-- Whole numbers from 0 to 255. -/
def ByteList (xs : List Int) : Prop := ∀ x ∈ xs, 0 ≤ x ∧ x ≤ 255
theorem ByteList.append {xs ys : List Int} (h : ByteList xs) (g : ByteList ys) : ByteList (xs ++ ys) := fun x hx => (List.mem_append.1 hx).elim (h x) (g x)
theorem ByteList.nil : ByteList [] := fun x hx => by cases hx
theorem ByteList.take {xs : List Int} (h : ByteList xs) (n : Nat) : ByteList (xs.take n) := fun x hx => h x (List.mem_of_mem_take hx)
theorem ByteList.drop {xs : List Int} (h : ByteList xs) (n : Nat) : ByteList (xs.drop n) := fun x hx => h x (List.mem_of_mem_drop hx)

theorem strOfNums_inj : ∀ {xs ys : List Int}, ByteList xs → ByteList ys → strOfNums xs = strOfNums ys → xs = ys := by
  intro xs ys hx hy h
  have h1 : (xs.map fun n => UInt8.ofNat n.toNat) = ys.map fun n => UInt8.ofNat n.toNat := by
    have := congrArg (fun s : ByteArray => s.data.toList) h
    simpa [strOfNums] using this
  clear h
  induction xs generalizing ys with
  | nil => cases ys with
    | nil => rfl
    | cons y ys => simp at h1
  | cons x xs ih =>
    cases ys with
    | nil => simp at h1
    | cons y ys =>
      rw [List.map_cons, List.map_cons, List.cons.injEq] at h1
      have e := congrArg UInt8.toNat h1.1
      have hx0 := hx x (by simp)
      have hy0 := hy y (by simp)
      have ex : (UInt8.ofNat x.toNat).toNat = x.toNat := by simp; omega
      have ey : (UInt8.ofNat y.toNat).toNat = y.toNat := by simp; omega
      rw [ex, ey] at e
      rw [show x = y by omega, ih (fun z hz => hx z (by simp [hz])) (fun z hz => hy z (by simp [hz])) h1.2]

theorem run_convert_nrow {P : Program} (w : World) (src dst e : TypeId) (hs : P.underlying src = some (.slice e)) (he : P.underlying e = some (.int .u8)) (hd : P.underlying dst = some .string)
    (A : Option Addr) (n c : Nat) (xs : List Int) (hA : NRow .u8 w A xs) (hn : xs.length = n) :
    (convert src dst (.slice A n c)).run P w = .ok (.string (strOfNums xs)) w := by
  rcases A with _ | ad
  · have hx : xs = [] := by
      rcases xs with _ | ⟨y, r⟩
      · rfl
      · obtain ⟨_, _, h', _⟩ := hA 0 y (by simp)
        cases h'
    subst hx
    rw [run_convert_bytes_nil w src e hs he n c dst hd]; rfl
  · have hl : (loadCells ad n).run P w = .ok (xs.map (Value.int .u8)).toArray w := by
      have := run_loadCells_list (P := P) w ad (xs.map (Value.int .u8)) (fun j v hj => nrow_news hA j v hj)
      simpa [hn] using this
    rw [run_convert_bytes_string w src dst e _ n c hs he hd, run_bytesToString w _ n c xs hl, foldl_push_bytes]
    simp [strOfNums, ByteArray.empty, ByteArray.emptyWithCapacity]
    rfl
theorem info_u8 : (Tryz.prog.info? 5).map (fun i => (i.zero, i.size, i.bytes)) = some (some (.int .u8 0), 1, 1) := by kernel_rfl
/-- A slice of bytes, the call's own, new. -/
def NewBytes (out : List Int) (w : World) (r : Ending) (w' : World) : Prop :=
  ∃ v, r = .returned v ∧ w'.ownsRow 0 5 1 v out.length (out.map (Value.int .u8)) ∧ Step w w' [] (rowOf v)
end Go.Proofs.YtpghaffjfinpeaaGreat

/-
  PLAIN: what a reader of bytes has before it, and what each reading makes of it.
-/
namespace Go.Proofs.YtpghaffjfinpeaaGreat
namespace Pk

/-- The number at the beginning of bytes, from its i-th group of seven bits on; and what stands behind it. -/
def rdG (i : Nat) : List Int → Option (Nat × List Int)
  | [] => none
  | x :: r =>
    if 9 < i ∨ (i = 9 ∧ 1 < x) then none
    else if x < 128 then (if x = 0 ∧ 0 < i then none else some (x.toNat, r))
    else (rdG (i + 1) r).map fun p => (x.toNat % 128 + 128 * p.1, p.2)

/-- A reader: bytes that are not read yet, or the error. -/
inductive St where
  | ok (bs : List Int)
  | bad (e : Int)

def St.uint : St → Nat × St
  | .bad e => (0, .bad e)
  | .ok bs => match rdG 0 bs with
    | none => (0, .bad 4)
    | some (v, r) => (v, .ok r)
/-- The whole number that is written as v. -/
def unzig (v : Nat) : Int := if v % 2 = 0 then ((v / 2 : Nat) : Int) else -((v / 2 : Nat) : Int) - 1
def St.int (s : St) : Int × St := (unzig s.uint.1, s.uint.2)
def St.mark (s : St) : Bool × St := if 1 < s.uint.1 then (false, .bad 4) else (decide (s.uint.1 = 1), s.uint.2)
def St.text (s : St) : List Int × St :=
  match s.uint with
  | (_, .bad e) => ([], .bad e)
  | (n, .ok bs) => if 131072 < n then ([], .bad 5) else if bs.length < n then ([], .bad 4) else (bs.take n, .ok (bs.drop n))
def St.amount (s : St) : (Nat × Nat) × St :=
  match s.uint.2.uint with
  | (_, .bad e) => ((0, 0), .bad e)
  | (k, .ok bs) => if 1048576 < s.uint.1 ∨ 1048576 < k then ((0, 0), .bad 2) else ((s.uint.1, k), .ok bs)
def St.done : St → Int
  | .bad e => e
  | .ok [] => 0
  | .ok (_ :: _) => 4
/-- An error is never 0. -/
def St.fine : St → Prop
  | .bad e => e ≠ 0
  | .ok _ => True

/-- acc and what the groups from the i-th on make, times 128^i. -/
def lift (acc i : Nat) (o : Option (Nat × List Int)) : Option (Nat × List Int) := o.map fun p => (acc + 128 ^ i * p.1, p.2)
theorem lift_start (o : Option (Nat × List Int)) : lift 0 0 o = o := by
  unfold lift; cases o <;> simp
theorem lift_none (acc i : Nat) : lift acc i none = none := rfl

theorem rdG_nil (i : Nat) : rdG i [] = none := rfl
theorem rdG_big {i : Nat} {x : Int} (r : List Int) (h : i = 9) (hx : 1 < x) : rdG i (x :: r) = none := by rw [rdG, if_pos (.inr ⟨h, hx⟩)]
theorem rdG_zero {i : Nat} (r : List Int) (h : 0 < i) (h9 : i ≤ 9) : rdG i (0 :: r) = none := by rw [rdG, if_neg (by omega), if_pos (by omega), if_pos ⟨rfl, h⟩]
theorem rdG_last {i : Nat} {x : Int} (r : List Int) (h9 : i ≤ 9) (hn : ¬ (i = 9 ∧ 1 < x)) (hx : x < 128) (hz : ¬ (x = 0 ∧ 0 < i)) : rdG i (x :: r) = some (x.toNat, r) := by
  rw [rdG, if_neg (by omega), if_pos hx, if_neg hz]
theorem rdG_more {i : Nat} {x : Int} (r : List Int) (h8 : i ≤ 8) (hx : 128 ≤ x) : rdG i (x :: r) = (rdG (i + 1) r).map fun p => (x.toNat % 128 + 128 * p.1, p.2) := by
  rw [rdG, if_neg (by omega), if_neg (by omega)]
theorem lift_more {acc i : Nat} {x : Int} (r : List Int) (h8 : i ≤ 8) (hx : 128 ≤ x) : lift acc i (rdG i (x :: r)) = lift (acc + x.toNat % 128 * 128 ^ i) (i + 1) (rdG (i + 1) r) := by
  rw [rdG_more r h8 hx]
  unfold lift
  cases rdG (i + 1) r with
  | none => rfl
  | some p =>
    simp only [Option.map_some, Option.some.injEq, Prod.mk.injEq, and_true]
    rw [Nat.pow_succ, Nat.mul_add, Nat.mul_comm (128 ^ i) (x.toNat % 128), Nat.add_assoc, Nat.mul_assoc]
theorem lift_last {acc i : Nat} {x : Int} (r : List Int) (h9 : i ≤ 9) (hn : ¬ (i = 9 ∧ 1 < x)) (hx : x < 128) (hz : ¬ (x = 0 ∧ 0 < i)) : lift acc i (rdG i (x :: r)) = some (acc + x.toNat * 128 ^ i, r) := by
  rw [rdG_last r h9 hn hx hz]
  simp [lift, Nat.mul_comm]

theorem rdG_bound : ∀ (bs : List Int) (i : Nat), i ≤ 9 → (∀ x ∈ bs, 0 ≤ x ∧ x ≤ 255) → ∀ v r, rdG i bs = some (v, r) → 128 ^ i * v < 18446744073709551616 := by
  intro bs
  induction bs with
  | nil => intro i _ _ v r h; cases h
  | cons x bs ih =>
    intro i hi hb v r h
    have hx := hb x (by simp)
    rw [rdG] at h
    split at h
    · cases h
    · rename_i hn
      split at h
      · split at h
        · cases h
        · cases h
          by_cases h9 : i = 9
          · subst h9
            have : x.toNat ≤ 1 := by omega
            have := Nat.mul_le_mul_left (128 ^ 9) this
            omega
          · have h1 : 128 ^ i ≤ 128 ^ 8 := Nat.pow_le_pow_right (by omega) (by omega)
            have h2 : 128 ^ i * x.toNat ≤ 128 ^ 8 * 127 := Nat.mul_le_mul h1 (by omega)
            omega
      · rename_i hx2
        have h8 : i ≤ 8 := by omega
        rcases hr : rdG (i + 1) bs with _ | ⟨v', r'⟩
        · rw [hr] at h; cases h
        · rw [hr] at h
          cases h
          have h1 := ih (i + 1) (by omega) (fun y hy => hb y (by simp [hy])) v' r' hr
          rw [Nat.pow_succ] at h1
          have h3 : 128 ^ i * (x.toNat % 128 + 128 * v') = 128 ^ i * (x.toNat % 128) + 128 ^ i * 128 * v' := by rw [Nat.mul_add, Nat.mul_assoc]
          rw [h3]
          have h4 : 128 ^ i * (x.toNat % 128) < 128 ^ i * 128 := Nat.mul_lt_mul_of_pos_left (by omega) (Nat.pow_pos (by omega))
          -- a multiple of 128^(i+1) below 2^64 leaves room for one less than 128^(i+1)
          have h5 : 128 ^ i * 128 ∣ 18446744073709551616 ∨ i = 9 := by
            left
            have : (128 : Nat) ^ i * 128 = 2 ^ (7 * (i + 1)) := by rw [← Nat.pow_succ, show (128 : Nat) = 2 ^ 7 by rfl, ← Nat.pow_mul]
            rw [this, show (18446744073709551616 : Nat) = 2 ^ 64 by rfl]
            exact Nat.pow_dvd_pow 2 (by omega)
          rcases h5 with ⟨c, hc⟩ | h5
          · rw [hc] at h1 ⊢
            have h6 : v' < c := Nat.lt_of_mul_lt_mul_left h1
            have h7 : 128 ^ i * 128 * (v' + 1) ≤ 128 ^ i * 128 * c := Nat.mul_le_mul_left _ (by omega)
            rw [Nat.mul_add, Nat.mul_one] at h7
            omega
          · omega
theorem uint_bound {s : St} (h : ∀ bs, s = .ok bs → ∀ x ∈ bs, 0 ≤ x ∧ x ≤ 255) : s.uint.1 < 18446744073709551616 := by
  unfold St.uint
  cases s with
  | bad e => simp
  | ok bs =>
    simp only
    rcases hr : rdG 0 bs with _ | ⟨v, r⟩
    · simp
    · have := rdG_bound bs 0 (by omega) (h bs rfl) v r hr
      simpa using this
end Pk
end Go.Proofs.YtpghaffjfinpeaaGreat

/-
  PLAIN: numbers of 64 bits in a reader; what each reading makes of its state.
-/
namespace Go.Proofs.YtpghaffjfinpeaaGreat
namespace Pk
open Go.RowKit Am
theorem uint_none {bs : List Int} (h : rdG 0 bs = none) : (St.ok bs).uint = (0, .bad 4) := by simp [St.uint, h]
theorem uint_some {bs : List Int} {v : Nat} {r : List Int} (h : rdG 0 bs = some (v, r)) : (St.ok bs).uint = (v, .ok r) := by simp [St.uint, h]
theorem drop_at {xs : List Int} {m : Nat} {x : Int} (h : xs[m]? = some x) : xs.drop m = x :: xs.drop (m + 1) := by
  obtain ⟨hm, rfl⟩ := List.getElem?_eq_some_iff.1 h
  exact List.drop_eq_getElem_cons hm
theorem pow_le_8 {j : Nat} (h : j ≤ 8) : 128 ^ j ≤ 72057594037927936 := Nat.le_trans (Nat.pow_le_pow_right (by omega) h) (by decide)
theorem acc_lt {acc j : Nat} {x : Int} (hC : acc < 128 ^ j) (hj : j ≤ 9) (hx : ¬ (j = 9 ∧ 1 < x)) : acc + x.toNat % 128 * 128 ^ j < 18446744073709551616 := by
  by_cases h9 : j = 9
  · subst h9
    have h1 : x.toNat % 128 ≤ 1 := by omega
    have h2 := Nat.mul_le_mul_right (128 ^ 9) h1
    omega
  · have h1 := pow_le_8 (j := j) (by omega)
    have h2 : x.toNat % 128 * 128 ^ j ≤ 127 * 72057594037927936 := Nat.mul_le_mul (by omega) h1
    omega
theorem wrap_nat {n : Nat} (h : n < 18446744073709551616) : IntKind.u64.wrap (n : Int) = n := by
  unfold IntKind.wrap; simp [IntKind.signed, IntKind.bits]; omega
theorem acc_wrap {acc un j : Nat} {x : Int} (hC : acc < 128 ^ j ∧ un = 128 ^ j) (hj : j ≤ 9) (hx : ¬ (j = 9 ∧ 1 < x)) (hx0 : 0 ≤ x) :
    IntKind.u64.wrap ((acc : Int) + IntKind.u64.wrap (x % 128 * un)) = ((acc + x.toNat % 128 * 128 ^ j : Nat) : Int) := by
  have h := acc_lt hC.1 hj hx
  have e : x % 128 * (un : Int) = ((x.toNat % 128 * 128 ^ j : Nat) : Int) := by
    rw [hC.2, Int.natCast_mul, show ((x.toNat % 128 : Nat) : Int) = x % 128 by omega]
  rw [e, wrap_nat (by omega), ← Int.natCast_add, wrap_nat h]
theorem acc_wrap0 {acc un j : Nat} {x : Int} (hC : acc < 128 ^ j ∧ un = 128 ^ j) (hj : j ≤ 9) (hx : ¬ (j = 9 ∧ 1 < x)) (h0 : x = 0) :
    IntKind.u64.wrap ((acc : Int) + IntKind.u64.wrap 0) = ((acc + x.toNat * 128 ^ j : Nat) : Int) := by
  have h := acc_wrap hC hj hx (by omega)
  subst h0
  simpa using h
theorem un_wrap {acc un j : Nat} (hC : acc < 128 ^ j ∧ un = 128 ^ j) (hj : j ≤ 8) : IntKind.u64.wrap ((un : Int) * 128) = ((128 ^ (j + 1) : Nat) : Int) := by
  have h := pow_le_8 hj
  rw [hC.2, show (((128 ^ j : Nat) : Int) * 128) = ((128 ^ (j + 1) : Nat) : Int) by rw [Nat.pow_succ, Int.natCast_mul]; rfl, wrap_nat (by rw [Nat.pow_succ]; omega)]
theorem acc_next {acc un j : Nat} {x : Int} (hC : acc < 128 ^ j ∧ un = 128 ^ j) : acc + x.toNat % 128 * 128 ^ j < 128 ^ (j + 1) ∧ 128 ^ (j + 1) = 128 ^ (j + 1) := by
  have h2 : x.toNat % 128 * 128 ^ j ≤ 127 * 128 ^ j := Nat.mul_le_mul_right _ (by omega)
  rw [Nat.pow_succ]
  exact ⟨by omega, rfl⟩
theorem ret_u64 {a : Int} {b : Nat} (h : a = b) : Ending.returned (.int .u64 a) = .returned (.int .u64 (b : Nat)) := by rw [h]
theorem toNat_mod {x : Int} (h0 : 0 ≤ x) (h : x < 128) : x.toNat % 128 = x.toNat := by omega
theorem wrap64_small {n : Int} (h1 : -9223372036854775808 ≤ n) (h2 : n ≤ 9223372036854775807) : wrap64 n = n := by
  unfold wrap64; omega
theorem half_u64 {v : Nat} (h : v < 18446744073709551616) : IntKind.u64.wrap ((v : Int) / 2) = ((v / 2 : Nat) : Int) := by
  rw [show ((v : Int) / 2) = ((v / 2 : Nat) : Int) by omega]; exact wrap_nat (by omega)
theorem zig_even {v : Nat} (h : v < 18446744073709551616) (h2 : v % 2 = 0) : wrap64 (IntKind.u64.wrap ((v : Int) / 2)) = unzig v := by
  rw [half_u64 h, wrap64_small (by omega) (by omega), unzig, if_pos h2]
theorem zig_odd {v : Nat} (h : v < 18446744073709551616) (h2 : ¬ v % 2 = 0) : wrap64 (wrap64 (-wrap64 (IntKind.u64.wrap ((v : Int) / 2))) - 1) = unzig v := by
  rw [half_u64 h, wrap64_small (n := ((v / 2 : Nat) : Int)) (by omega) (by omega), wrap64_small (n := -((v / 2 : Nat) : Int)) (by omega) (by omega), wrap64_small (by omega) (by omega), unzig, if_neg h2]
theorem ret_i64 {a b : Int} (h : a = b) : Ending.returned (.int .i64 a) = .returned (.int .i64 b) := by rw [h]
theorem uint_pos {s : St} (h : 0 < s.uint.1) : ∃ bs, s.uint.2 = .ok bs := by
  unfold St.uint at *
  cases s with
  | bad e => simp at h
  | ok bs =>
    simp only at h ⊢
    cases hr : rdG 0 bs with
    | none => rw [hr] at h; simp at h
    | some p => exact ⟨p.2, rfl⟩
theorem uint_split (s : St) : (∃ e, s.uint = (0, .bad e)) ∨ ∃ n bs, s.uint = (n, .ok bs) := by
  unfold St.uint
  cases s with
  | bad e => exact .inl ⟨e, rfl⟩
  | ok bs =>
    simp only
    cases rdG 0 bs with
    | none => exact .inl ⟨4, rfl⟩
    | some p => exact .inr ⟨p.1, p.2, rfl⟩
theorem text_bad {st : St} {e : Int} (h : st.uint = (0, .bad e)) : st.text = ([], .bad e) := by rw [St.text, h]
theorem text_long {st : St} {n : Nat} {bs : List Int} (h : st.uint = (n, .ok bs)) (h5 : 131072 < n) : st.text = ([], .bad 5) := by rw [St.text, h]; simp only; rw [if_pos h5]
theorem text_short {st : St} {n : Nat} {bs : List Int} (h : st.uint = (n, .ok bs)) (h5 : ¬ 131072 < n) (h4 : bs.length < n) : st.text = ([], .bad 4) := by rw [St.text, h]; simp only; rw [if_neg h5, if_pos h4]
theorem text_fine {st : St} {n : Nat} {bs : List Int} (h : st.uint = (n, .ok bs)) (h5 : ¬ 131072 < n) (h4 : ¬ bs.length < n) : st.text = (bs.take n, .ok (bs.drop n)) := by rw [St.text, h]; simp only; rw [if_neg h5, if_neg h4]
theorem amt_zero : amt 0 0 = .complex .f64 0 0 := by
  have h : floatOfInt .f64 0 = 0 := by decide +kernel
  rw [amt, h]
theorem amount_bad {s : St} {e : Int} (h : s.uint.2.uint = (0, .bad e)) : s.amount = ((0, 0), .bad e) := by rw [St.amount, h]
theorem amount_big {s : St} {n k : Nat} {bs : List Int} (h1 : s.uint.1 = n) (h : s.uint.2.uint = (k, .ok bs)) (hb : 1048576 < n ∨ 1048576 < k) : s.amount = ((0, 0), .bad 2) := by
  subst h1; rw [St.amount, h]; simp only; rw [if_pos hb]
theorem amount_fine {s : St} {n k : Nat} {bs : List Int} (h1 : s.uint.1 = n) (h : s.uint.2.uint = (k, .ok bs)) (hb : ¬ (1048576 < n ∨ 1048576 < k)) : s.amount = ((n, k), .ok bs) := by
  subst h1; rw [St.amount, h]; simp only; rw [if_neg hb]
end Pk
end Go.Proofs.YtpghaffjfinpeaaGreat
