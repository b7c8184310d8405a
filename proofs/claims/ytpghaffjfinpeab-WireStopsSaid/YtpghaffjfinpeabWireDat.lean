/-
  PLAIN: what structs of numbers, marks, amounts, texts and lists of such hold; how they lie in memory (one cell a field, fields of a field in their place); what a writer makes of them.
-/
import Derived.Test.YtpghaffjfinpeabPackWSt
import Derived.Test.YtpghaffjfinpeabAmtVal
import Derived.Test.YtpghaffjfinpeabMemStep
namespace Go.Proofs.Ytpghaffjfinpeab
namespace Wi
open Go.RowKit Pk Am

/-- A field's kind. -/
inductive Kind where
  | num
  | mark
  | amt
  | text
  | list (most : Nat) (elem : List Kind)
/-- What a field holds; a list knows how many elements it may have. -/
inductive Dat where
  | num (n : Int)
  | mark (b : Bool)
  | amt (n l : Nat)
  | text (l : List Int)
  | list (most : Nat) (rows : List (List Dat))

/-- A writer of things: what was written, and whether a list was too long. -/
structure Ws where
  s : WSt
  t : Bool
def Ws.put (x : Ws) (l : List Int) : Ws := ⟨x.s.put l, x.t⟩
def Ws.text (x : Ws) (l : List Int) : Ws := ⟨x.s.text l, x.t⟩
def Ws.long (x : Ws) : Ws := ⟨x.s, true⟩

mutual
/-- What a writer makes of a field. -/
def wrD : Dat → Ws → Ws
  | .num n, x => x.put (enc (zig n))
  | .mark b, x => x.put (enc (if b then 1 else 0))
  | .amt n l, x => x.put (enc n ++ enc l)
  | .text l, x => x.text l
  | .list most rows, x => if most < rows.length then x.long else wrRows rows (x.put (enc rows.length))
/-- .. of elements. -/
def wrRows : List (List Dat) → Ws → Ws
  | [], x => x
  | r :: rs, x => wrRows rs (wrs r x)
/-- .. of fields, one behind the other. -/
def wrs : List Dat → Ws → Ws
  | [], x => x
  | d :: ds, x => wrs ds (wrD d x)
end
mutual
/-- The bytes of a field. -/
def encD : Dat → List Int
  | .num n => enc (zig n)
  | .mark b => enc (if b then 1 else 0)
  | .amt n l => enc n ++ enc l
  | .text l => enc l.length ++ l
  | .list _ rows => enc rows.length ++ encRows rows
def encRows : List (List Dat) → List Int
  | [] => []
  | r :: rs => encDs r ++ encRows rs
def encDs : List Dat → List Int
  | [] => []
  | d :: ds => encD d ++ encDs ds
end
mutual
/-- No list, no text is too long. -/
def RightD : Dat → Prop
  | .num _ => True
  | .mark _ => True
  | .amt _ _ => True
  | .text l => l.length ≤ 131072
  | .list most rows => rows.length ≤ most ∧ RightRows rows
def RightRows : List (List Dat) → Prop
  | [] => True
  | r :: rs => RightDs r ∧ RightRows rs
def RightDs : List Dat → Prop
  | [] => True
  | d :: ds => RightD d ∧ RightDs ds
end
mutual
theorem wr_right : ∀ (d : Dat) (bs : List Int), RightD d → wrD d ⟨.ok bs, false⟩ = ⟨.ok (bs ++ encD d), false⟩
  | .num n, bs, _ => by rw [wrD, encD]; rfl
  | .mark b, bs, _ => by rw [wrD, encD]; rfl
  | .amt n l, bs, _ => by rw [wrD, encD]; rfl
  | .text l, bs, h => by
    rw [RightD] at h
    rw [wrD, encD]
    show (⟨WSt.text l (.ok bs), false⟩ : Ws) = _
    rw [WSt.text, if_neg (by omega)]; rfl
  | .list most rows, bs, h => by
    rw [RightD] at h
    rw [wrD, encD, if_neg (by omega)]
    show wrRows rows ⟨.ok (bs ++ enc rows.length), false⟩ = _
    rw [wrRows_right rows _ h.2, List.append_assoc]
theorem wrRows_right : ∀ (rs : List (List Dat)) (bs : List Int), RightRows rs → wrRows rs ⟨.ok bs, false⟩ = ⟨.ok (bs ++ encRows rs), false⟩
  | [], bs, _ => by rw [wrRows, encRows, List.append_nil]
  | r :: rs, bs, h => by
    rw [RightRows] at h
    rw [wrRows, encRows, wrs_right r bs h.1, wrRows_right rs _ h.2, List.append_assoc]
theorem wrs_right : ∀ (ds : List Dat) (bs : List Int), RightDs ds → wrs ds ⟨.ok bs, false⟩ = ⟨.ok (bs ++ encDs ds), false⟩
  | [], bs, _ => by rw [wrs, encDs, List.append_nil]
  | d :: ds, bs, h => by
    rw [RightDs] at h
    rw [wrs, encDs, wr_right d bs h.1, wrs_right ds _ h.2, List.append_assoc]
end
mutual
/-- A list that was too long is never forgotten. -/
theorem wr_long : ∀ (d : Dat) (x : Ws), x.t = true → (wrD d x).t = true
  | .num n, x, h => by rw [wrD]; exact h
  | .mark b, x, h => by rw [wrD]; exact h
  | .amt n l, x, h => by rw [wrD]; exact h
  | .text l, x, h => by rw [wrD]; exact h
  | .list most rows, x, h => by
    rw [wrD]
    split
    · rfl
    · exact wrRows_long rows _ h
theorem wrRows_long : ∀ (rs : List (List Dat)) (x : Ws), x.t = true → (wrRows rs x).t = true
  | [], x, h => by rw [wrRows]; exact h
  | r :: rs, x, h => by rw [wrRows]; exact wrRows_long rs _ (wrs_long r x h)
theorem wrs_long : ∀ (ds : List Dat) (x : Ws), x.t = true → (wrs ds x).t = true
  | [], x, h => by rw [wrs]; exact h
  | d :: ds, x, h => by rw [wrs]; exact wrs_long ds _ (wr_long d x h)
end
theorem wrs_append : ∀ (a b : List Dat) (x : Ws), wrs (a ++ b) x = wrs b (wrs a x)
  | [], b, x => by rw [List.nil_append, wrs]
  | d :: a, b, x => by rw [List.cons_append, wrs, wrs, wrs_append a b]
theorem wrRows_snoc : ∀ (rs : List (List Dat)) (r : List Dat) (x : Ws), wrRows (rs ++ [r]) x = wrs r (wrRows rs x)
  | [], r, x => by rw [List.nil_append, wrRows, wrRows, wrRows]
  | q :: rs, r, x => by rw [List.cons_append, wrRows, wrRows, wrRows_snoc rs r]
/-- One element more. -/
theorem wrRows_take {rs : List (List Dat)} {i : Nat} {r : List Dat} (h : rs[i]? = some r) (x : Ws) : wrRows (rs.take (i + 1)) x = wrs r (wrRows (rs.take i) x) := by
  rw [List.take_add_one, h]
  exact wrRows_snoc _ _ _

mutual
/-- The cell v holds d, of that kind; what it leads to lies in blocks below b. -/
def Holds (w : World) (b : Nat) : Kind → Value → Dat → Prop
  | .num, v, d => ∃ n, d = .num n ∧ v = .int .i64 n ∧ -9223372036854775808 ≤ n ∧ n ≤ 9223372036854775807
  | .mark, v, d => ∃ c, d = .mark c ∧ v = .bool c
  | .amt, v, d => ∃ n l : Nat, d = .amt n l ∧ v = amt n l ∧ n ≤ 1048576 ∧ l ≤ 1048576
  | .text, v, d => ∃ A n c l, d = .text l ∧ v = .slice A n c ∧ NRow .u8 w A l ∧ l.length = n ∧ (A = none → c = 0) ∧ (∀ k ∈ rowX A l, k < b) ∧ n ≤ 35184372088832
  | .list most K, v, d => ∃ A n c rows, d = .list most rows ∧ v = .slice A n c ∧ rows.length = n ∧ n ≤ 35184372088832 ∧
      ∀ i r, rows[i]? = some r → ∃ g off vs, A = some ⟨g, off, none⟩ ∧ g < b ∧ (∀ (j : Nat) v, vs[j]? = some v → w.cell? ⟨g, off + i * K.length + j, none⟩ = some v) ∧ HoldsAll w b K vs r
/-- The cells vs hold ds, each of its kind. -/
def HoldsAll (w : World) (b : Nat) : List Kind → List Value → List Dat → Prop
  | [], vs, ds => vs = [] ∧ ds = []
  | k :: ks, vs, ds => ∃ v vs' d ds', vs = v :: vs' ∧ ds = d :: ds' ∧ Holds w b k v d ∧ HoldsAll w b ks vs' ds'
end
mutual
theorem Holds.stays {w w' : World} {b : Nat} (hb : b ≤ w.heap.size) (hk : ∀ k, k < b → w'.heap[k]? = w.heap[k]?) : ∀ (K : Kind) (v : Value) (d : Dat), Holds w b K v d → Holds w' b K v d
  | .num, v, d, h => by rw [Holds] at h ⊢; exact h
  | .mark, v, d, h => by rw [Holds] at h ⊢; exact h
  | .amt, v, d, h => by rw [Holds] at h ⊢; exact h
  | .text, v, d, h => by
    rw [Holds] at h ⊢
    obtain ⟨A, n, c, l, h1, h2, h3, h4, h5, h6, h7⟩ := h
    exact ⟨A, n, c, l, h1, h2, nrowx_stays h3 (fun k hm => hk k (h6 k hm)), h4, h5, h6, h7⟩
  | .list most K, v, d, h => by
    rw [Holds] at h ⊢
    obtain ⟨A, n, c, rows, h1, h2, h3, h4, h5⟩ := h
    refine ⟨A, n, c, rows, h1, h2, h3, h4, fun i r hr => ?_⟩
    obtain ⟨g, off, vs, e1, e2, e3, e4⟩ := h5 i r hr
    exact ⟨g, off, vs, e1, e2, fun j v hv => by rw [World.cell?_of_block (w := w) (hk g e2)]; exact e3 j v hv, HoldsAll.stays hb hk K vs r e4⟩
theorem HoldsAll.stays {w w' : World} {b : Nat} (hb : b ≤ w.heap.size) (hk : ∀ k, k < b → w'.heap[k]? = w.heap[k]?) : ∀ (K : List Kind) (vs : List Value) (ds : List Dat), HoldsAll w b K vs ds → HoldsAll w' b K vs ds
  | [], vs, ds, h => by rw [HoldsAll] at h ⊢; exact h
  | k :: ks, vs, ds, h => by
    rw [HoldsAll] at h ⊢
    obtain ⟨v, vs', d, ds', h1, h2, h3, h4⟩ := h
    exact ⟨v, vs', d, ds', h1, h2, Holds.stays hb hk k v d h3, HoldsAll.stays hb hk ks vs' ds' h4⟩
end
theorem Holds.below {w w' : World} {b : Nat} {K : Kind} {v : Value} {d : Dat} (h : Holds w b K v d) (hb : b ≤ w.heap.size) (hm : Below b w w') : Holds w' b K v d := Holds.stays hb (fun k hk => hm.block k hk) K v d h
theorem HoldsAll.below {w w' : World} {b : Nat} {K : List Kind} {vs : List Value} {ds : List Dat} (h : HoldsAll w b K vs ds) (hb : b ≤ w.heap.size) (hm : Below b w w') : HoldsAll w' b K vs ds := HoldsAll.stays hb (fun k hk => hm.block k hk) K vs ds h
theorem HoldsAll.len {w : World} {b : Nat} : ∀ {K : List Kind} {vs : List Value} {ds : List Dat}, HoldsAll w b K vs ds → vs.length = K.length ∧ ds.length = K.length
  | [], vs, ds, h => by rw [HoldsAll] at h; obtain ⟨rfl, rfl⟩ := h; exact ⟨rfl, rfl⟩
  | k :: ks, vs, ds, h => by
    rw [HoldsAll] at h
    obtain ⟨v, vs', d, ds', rfl, rfl, _, h4⟩ := h
    have := HoldsAll.len h4
    simp [this.1, this.2]
/-- The cells of the i-th element. -/
theorem Holds.elem {w : World} {b most : Nat} {K : List Kind} {A : Option Addr} {n c : Nat} {rows : List (List Dat)} (h : Holds w b (.list most K) (.slice A n c) (.list most rows)) {i : Nat} {r : List Dat} (hi : rows[i]? = some r) :
    ∃ g off vs, A = some ⟨g, off, none⟩ ∧ g < b ∧ (∀ (j : Nat) v, vs[j]? = some v → w.cell? ⟨g, off + i * K.length + j, none⟩ = some v) ∧ HoldsAll w b K vs r := by
  rw [Holds] at h
  obtain ⟨A', n', c', rows', h1, h2, h3, h4, h5⟩ := h
  injection h2 with e1 e2 e3
  injection h1 with _ e4
  subst e1 e4
  exact h5 i r hi
theorem Holds.count {w : World} {b most : Nat} {K : List Kind} {A : Option Addr} {n c : Nat} {rows : List (List Dat)} (h : Holds w b (.list most K) (.slice A n c) (.list most rows)) : rows.length = n ∧ n ≤ 35184372088832 := by
  rw [Holds] at h
  obtain ⟨A', n', c', rows', h1, h2, h3, h4, h5⟩ := h
  injection h2 with e1 e2 e3
  injection h1 with _ e4
  subst e1 e2 e4
  exact ⟨h3, h4⟩
end Wi
end Go.Proofs.Ytpghaffjfinpeab
