/-
  (The Writer within a wire.writer, whose mark is t.)
  A pack.Writer in memory: its row of bytes, its error, its room. (Its struct: the bytes, the error, a pointer to the room; the room: its owner, from where on it is free.)
-/
import Derived.Test.YtpghaffjfinpeabPackWSt
import Derived.Test.YtpghaffjfinpeabBytesPlain
import Derived.Test.YtpghaffjfinpeabMemStep
namespace Go.Proofs.Ytpghaffjfinpeab
namespace Wi
open Go.RowKit Pk
variable {t : Bool}

/-- At block p stands a Writer in the state s that keeps at most m bytes; fp are its blocks. -/
def WObj (t : Bool) (w : World) (p : Nat) (fp : List Nat) (s : WSt) (m : Nat) : Prop :=
  match s with
  | .bad e => fp = [p] ∧ e ≠ 0 ∧ w.heap[p]? = some (.cells #[.slice none 0 0, .int .i64 e, .pointer none, .bool t] 54 (0, 0))
  | .ok bs => bs.length ≤ m ∧ ((bs = [] ∧ fp = [p] ∧ w.heap[p]? = some (.cells #[.slice none 0 0, .int .i64 0, .pointer none, .bool t] 54 (0, 0))) ∨
      ∃ v q, fp = p :: q :: rowOf v ∧ w.heap[p]? = some (.cells #[v, .int .i64 0, .pointer (some ⟨q, 0, none⟩), .bool t] 54 (0, 0)) ∧
        w.heap[q]? = some (.cells #[.pointer (some ⟨p, 0, none⟩), .int .i64 bs.length] 119 (0, 0)) ∧ w.ownsRow 0 5 1 v bs.length (bs.map (Value.int .u8)) ∧ q ≠ p ∧ v.ownBlock ≠ some p ∧ v.ownBlock ≠ some q)
theorem WObj.stays {w w' : World} {p : Nat} {fp : List Nat} {s : WSt} {m : Nat} (h : WObj t w p fp s m) (hk : ∀ k ∈ fp, w'.heap[k]? = w.heap[k]?) : WObj t w' p fp s m := by
  cases s with
  | bad e =>
    obtain ⟨rfl, he, hp⟩ := h
    exact ⟨rfl, he, by rw [hk p (by simp)]; exact hp⟩
  | ok bs =>
    obtain ⟨hm, ⟨rfl, rfl, hp⟩ | ⟨v, q, rfl, hp, hq, hr, h1, h2, h3⟩⟩ := h
    · exact ⟨hm, .inl ⟨rfl, rfl, by rw [hk p (by simp)]; exact hp⟩⟩
    · exact ⟨hm, .inr ⟨v, q, rfl, by rw [hk p (by simp)]; exact hp, by rw [hk q (by simp)]; exact hq, own_stays hr (fun k hm => hk k (by simp [hm])), h1, h2, h3⟩⟩
theorem WObj.lt {w : World} {p : Nat} {fp : List Nat} {s : WSt} {m : Nat} (h : WObj t w p fp s m) : ∀ k ∈ fp, k < w.heap.size := by
  cases s with
  | bad e =>
    obtain ⟨rfl, he, hp⟩ := h
    intro k hk
    simp at hk
    subst hk
    exact lt_of_block hp
  | ok bs =>
    obtain ⟨hm, ⟨rfl, rfl, hp⟩ | ⟨v, q, rfl, hp, hq, hr, h1, h2, h3⟩⟩ := h
    · intro k hk
      simp at hk
      subst hk
      exact lt_of_block hp
    · intro k hk
      simp only [List.mem_cons] at hk
      rcases hk with rfl | rfl | hk
      · exact lt_of_block hp
      · exact lt_of_block hq
      · exact own_lt hr k hk
theorem WObj.more {w : World} {p : Nat} {fp : List Nat} {s : WSt} {m m' : Nat} (h : WObj t w p fp s m) (hm : m ≤ m') : WObj t w p fp s m' := by
  cases s with
  | bad e => exact h
  | ok bs => exact ⟨Nat.le_trans h.1 hm, h.2⟩
theorem WObj.new (w : World) : WObj t (w.alloc (.cells #[.slice none 0 0, .int .i64 0, .pointer none, .bool t] 54)) w.heap.size [w.heap.size] (.ok []) 0 :=
  ⟨Nat.le_refl _, .inl ⟨rfl, rfl, heap_alloc_new w _⟩⟩
/-- What storing the row and the room's place behind an append leaves. -/
theorem WObj.stored {w w1 w2 : World} {p q m n : Nat} {bs ys : List Int} {v v' : Value} {k0 : Int}
    (hp : w.heap[p]? = some (.cells #[v, .int .i64 0, .pointer (some ⟨q, 0, none⟩), .bool t] 54 (0, 0))) (hq : w.heap[q]? = some (.cells #[.pointer (some ⟨p, 0, none⟩), .int .i64 k0] 119 (0, 0)))
    (hqp : q ≠ p) (hnp : v.ownBlock ≠ some p) (hnq : v.ownBlock ≠ some q) (hm : n ≤ m)
    (hown : w1.ownsRow 0 5 1 v' n (bs.map (Value.int .u8) ++ ys.map (Value.int .u8))) (hst : Step w w1 (rowOf v) (rowOf v')) (h2 : w2 = (w1.setCell ⟨p, 0, none⟩ v').setCell ⟨q, 1, none⟩ (.int .i64 n)) :
    ∃ fp', WObj t w2 p fp' (.ok (bs ++ ys)) m ∧ Step w w2 (p :: q :: rowOf v) fp' := by
  subst h2
  have hlt := lt_of_block hp
  have hltq := lt_of_block hq
  have hp1 : w1.heap[p]? = some (.cells #[v, .int .i64 0, .pointer (some ⟨q, 0, none⟩), .bool t] 54 (0, 0)) := by
    rw [hst.1.block p hlt (fun h => hnp (mem_rowOf.1 h))]; exact hp
  have hq1 : w1.heap[q]? = some (.cells #[.pointer (some ⟨p, 0, none⟩), .int .i64 k0] 119 (0, 0)) := by
    rw [hst.1.block q hltq (fun h => hnq (mem_rowOf.1 h))]; exact hq
  have hne : ∀ b, b < w.heap.size → v.ownBlock ≠ some b → v'.ownBlock ≠ some b := by
    intro b hb hv h
    rcases hst.2 b (mem_rowOf.2 h) with h' | h'
    · exact hv (mem_rowOf.1 h')
    · omega
  have hnp' := hne p hlt hnp
  have hnq' := hne q hltq hnq
  have hl : (bs ++ ys).length = n := by have := hown.1; simpa using this
  have hp2 : (w1.setCell ⟨p, 0, none⟩ v').heap[p]? = some (.cells #[v', .int .i64 0, .pointer (some ⟨q, 0, none⟩), .bool t] 54 (0, 0)) := by
    rw [heap_setCell_same w1 p 0 _ _ v' hp1]; rfl
  have hq2 : (w1.setCell ⟨p, 0, none⟩ v').heap[q]? = some (.cells #[.pointer (some ⟨p, 0, none⟩), .int .i64 k0] 119 (0, 0)) := by
    rw [Below.heap_setCell _ _ _ q (by exact hqp)]; exact hq1
  refine ⟨p :: q :: rowOf v', ⟨by omega, .inr ⟨v', q, rfl, ?_, ?_, ?_, hqp, hnp', hnq'⟩⟩, ?_, ?_⟩
  · rw [Below.heap_setCell _ _ _ p (by exact hqp.symm)]; exact hp2
  · rw [heap_setCell_same _ q 1 _ _ _ hq2, hl]; rfl
  · rw [hl, List.map_append]
    exact ownsRow_setCell_other (ownsRow_setCell_other hown (a := ⟨p, 0, none⟩) hnp' v') (a := ⟨q, 1, none⟩) hnq' _
  · exact Moved.setCell (Moved.setCell (hst.1.mono fun k hk => by simp [hk]) (.inl (by simp)) _) (.inl (by simp)) _
  · intro k hk
    simp only [List.mem_cons] at hk
    rcases hk with rfl | rfl | hk
    · exact .inl (by simp)
    · exact .inl (by simp)
    · rcases hst.2 k hk with h | h
      · exact .inl (by simp [h])
      · exact .inr h
end Wi
end Go.Proofs.Ytpghaffjfinpeab
