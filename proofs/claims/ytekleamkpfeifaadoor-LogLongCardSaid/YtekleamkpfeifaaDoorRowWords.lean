/-
  WORDS for slices of slices of bytes; append of values of one cell.
-/
import Derived.Test.YtekleamkpfeifaaDoorProg
import Derived.Test.YtekleamkpfeifaaDoorChecked
import Derived.Test.YtekleamkpfeifaaDoorKeepBytes
import Derived.Test.YtekleamkpfeifaaDoorMemStep
namespace Go.Proofs.YtekleamkpfeifaaDoor
open Go.RowKit

/-! ### values of one cell in a row -/
def VRow (w : World) (A : Option Addr) (vs : List Value) : Prop :=
  ∀ (i : Nat) (v : Value), vs[i]? = some v → ∃ b off, A = some ⟨b, off, none⟩ ∧ w.cell? ⟨b, off + i, none⟩ = some v
theorem VRow.none_ (w : World) (A : Option Addr) : VRow w A [] := fun i x h => by simp at h
theorem VRow.stays {w w' : World} {A : Option Addr} {vs : List Value} (h : VRow w A vs) (hS : ∀ a, A = some a → vs ≠ [] → w'.heap[a.block]? = w.heap[a.block]?) : VRow w' A vs := by
  intro i v hv
  obtain ⟨b, off, rfl, hc⟩ := h i v hv
  refine ⟨b, off, rfl, ?_⟩
  rw [World.cell?_of_block (w := w) (a := ⟨b, off + i, none⟩) (hS ⟨b, off, none⟩ rfl (fun e => by subst e; simp at hv))]; exact hc
theorem VRow.of_own {w : World} {base : Nat} {e : TypeId} {A : Option Addr} {n c : Nat} {vs : List Value} (h : w.ownsRow base e 1 (.slice A n c) n vs) : VRow w A vs := by
  intro i x hx
  rcases h.2 with ⟨hv, hn⟩ | ⟨g, cap, cur, hv, _, hh, _, _, _, ht⟩
  · have := h.1
    subst hn
    simp at this
    subst this
    simp at hx
  · have hA : A = some ⟨g, 0, none⟩ := by injection hv
    refine ⟨g, 0, hA, ?_⟩
    have := h.cells (g := g) (by rw [hA]; rfl) i x hx
    rw [add_none_] at this
    exact this
theorem VRow.drop {w : World} {b off : Nat} {vs : List Value} (h : VRow w (some ⟨b, off, none⟩) vs) (n : Nat) : VRow w (some ⟨b, off + n, none⟩) (vs.drop n) := by
  intro i x hx
  rw [List.getElem?_drop] at hx
  obtain ⟨b', off', e, hc⟩ := h (n + i) x hx
  injection e with e
  injection e with e1 e2
  subst e1 e2
  exact ⟨b, off + n, rfl, by rw [Nat.add_assoc]; exact hc⟩
theorem VRow.take {w : World} {A : Option Addr} {vs : List Value} (h : VRow w A vs) (n : Nat) : VRow w A (vs.take n) := by
  intro i x hx
  rw [List.getElem?_take] at hx
  split at hx
  · exact h i x hx
  · cases hx
theorem vrow_news {w : World} {ad : Addr} {vs : List Value} (hA : VRow w (some ad) vs) : ∀ (j : Nat) (u : Value), vs[j]? = some u → w.cell? (ad.add j) = some u := by
  intro j u hu
  obtain ⟨b, off, e, hc⟩ := hA j u hu
  obtain rfl : ad = ⟨b, off, none⟩ := by injection e
  rw [add_none_, hc]
theorem vrow_lit (w : World) (x : Value) (e : TypeId) : VRow (w.alloc (.cells #[x] e)) (some ⟨w.heap.size, 0, none⟩) [x] := by
  intro i y hy
  rcases i with _ | i
  · simp at hy; subst hy
    exact ⟨w.heap.size, 0, rfl, by rw [cell_of_row _ _ _ _ _ _ (heap_alloc_new w _)]; rfl⟩
  · simp at hy
theorem run_append_vals {P : Program} (w : World) (t ty e : TypeId) (i : TypeInfo) (z : Value) (by_ : Nat) (ht : P.underlying t = some (.slice e)) (hi : P.info? e = some i) (hz : i.zero = some z) (hzc : z.cells.size = 1)
    (hsize : i.size = 1) (hby : i.bytes = by_) (v : Value) (n : Nat) (xs : List Value) (hown : w.ownsRow 0 e 1 v n xs) (A : Option Addr) (c : Nat) (ys : List Value) (hA : VRow w A ys) (h1 : ∀ u ∈ ys, u.oneCell' = true) (hc : A = none → c = 0)
    (h63 : n + ys.length ≤ maxLen) (hb : (n + ys.length) * by_ ≤ 140737488355328) :
    ∃ v' w', (Builtin.append_ #[t, t] ty #[v, .slice A ys.length c]).run P w = .ok v' w' ∧ w'.ownsRow 0 e 1 v' (n + ys.length) (xs ++ ys) ∧ Step w w' (rowOf v) (rowOf v') := by
  rcases A with _ | ad
  · have hys : ys = [] := by
      rcases ys with _ | ⟨y, r⟩
      · rfl
      · obtain ⟨_, _, h', _⟩ := hA 0 y (by simp)
        cases h'
    subst hys
    have hc0 := hc rfl
    subst hc0
    exact ⟨v, w, run_append_owned_none (P := P) w 0 t ty e i 1 ht hi v n xs hown, by simpa using hown, Step.refl _ _⟩
  · have hnews := vrow_news hA
    rcases hown.2 with ⟨rfl, rfl⟩ | ⟨g, cap, cur, rfl, hbg, hg, hnc, hcm, hcs, htake⟩
    · have hx : xs = [] := List.eq_nil_of_length_eq_zero (by simpa using hown.1)
      subst hx
      obtain ⟨v', w', hr, ho, hgr, _⟩ := run_append_own (P := P) w w.heap.size t ty e i z 1 by_ ht hi hz hsize hby hzc (by decide) (.slice none 0 0) 0 [] (World.ownsRow_nil _ _ _ _) ad ys.length c ys (by simp) hnews h1 h63 hb (Nat.le_refl _)
      exact ⟨v', w', hr, ownsRow_zero ho, (Moved.refl w _).grown hgr (fun k hk => .inl (mem_rowOf.2 hk)), fun k hk => .inr (ho.lt k (mem_rowOf.1 hk)).1⟩
    · by_cases hroom : n + ys.length ≤ cap
      · obtain ⟨w', hr, ho, hgr⟩ := run_append_fits (P := P) w 0 t ty e i 1 ht hi hsize g n cap xs hown ad ys.length c ys (by simp) hnews h1 hroom
        exact ⟨_, w', hr, ho, (Moved.refl w _).grown hgr (fun k hk => .inl (by rw [mem_rowOf]; exact hk)), fun k hk => .inl hk⟩
      · obtain ⟨v', w', hr, ho, hgr⟩ := run_append_arg_grows (P := P) w t ty e i z 1 by_ ht hi hz hsize hby hzc (by decide) ⟨g, 0, none⟩ n cap xs hown.1 (hown.cells (g := g) rfl) ad ys.length c ys (by simp) hnews (by omega) h63 hb
        exact ⟨v', w', hr, ownsRow_zero ho, (Moved.refl w _).grown hgr (fun k hk => by cases hk), fun k hk => .inr (ho.lt k (mem_rowOf.1 hk)).1⟩
/-- The walk's law: append of values of one cell onto a row of the call's own. -/
theorem wpList_append_vals {P : Program} {w : World} {ops : Array Oper} {rest : List Oper} {o : Oper} {a : Act} {Q : Exit → Act → World → Prop} (hgd : o.guard = none) (s x : Operand) (t : TypeId)
    (ho : o.op = .call { callee := .builtin .append, args := #[s, x], argTypes := #[t, t] })
    (e : TypeId) (i : TypeInfo) (z : Value) (by_ : Nat) (ht : P.underlying t = some (.slice e)) (hi : P.info? e = some i) (hz : i.zero = some z) (hzc : z.cells.size = 1) (hsize : i.size = 1) (hby : i.bytes = by_)
    (v : Value) (n : Nat) (xs : List Value) (hs : a.eval s = v) (hown : w.ownsRow 0 e 1 v n xs)
    (A : Option Addr) (m c : Nat) (ys : List Value) (hx : a.eval x = .slice A m c) (hm : ys.length = m) (hA : VRow w A ys) (h1 : ∀ u ∈ ys, u.oneCell' = true) (hc : A = none → c = 0)
    (h63 : n + m ≤ maxLen) (hb : (n + m) * by_ ≤ 140737488355328)
    (h : ∀ v' w', w'.ownsRow 0 e 1 v' (n + m) (xs ++ ys) → Step w w' (rowOf v) (rowOf v') → wpList P ops Q rest (a.put o.dst v') w') : wpList P ops Q (o :: rest) a w := by
  subst hm
  refine wpList_plain hgd fun K hK' => ?_
  obtain ⟨v', w', hrun, r1, r2⟩ := run_append_vals (P := P) w t o.type e i z by_ ht hi hz hzc hsize hby v n xs hown A c ys hA h1 hc h63 hb
  unfold Oper.wp
  simp [execOp, ho, resolve, invoke, builtin, hs, hx, hrun, Result.andThen]
  exact hK' _ _ (h v' w' r1 r2)

/-! ### a value that reads as bytes; a row of these -/
/-- The value v reads as the bytes p. -/
def Bites (w : World) (v : Value) (p : List Int) : Prop :=
  ∃ A c, v = .slice A p.length c ∧ NRow .u8 w A p ∧ (A = none → c = 0) ∧ p.length ≤ c ∧ c ≤ 9223372036854775807
theorem Bites.of_own {w : World} {base : Nat} {e : TypeId} {v : Value} {p : List Int} (h : w.ownsRow base e 1 v p.length (p.map (Value.int .u8))) : Bites w v p := by
  obtain ⟨A, c, rfl, hc, h1, h2⟩ := own_shape h
  exact ⟨A, c, rfl, NRow.of_own h, hc, h1, h2⟩
theorem Bites.one {w : World} {v : Value} {p : List Int} (h : Bites w v p) : v.oneCell' = true := by
  obtain ⟨A, c, rfl, _⟩ := h; rfl
/-- The blocks from which a value's bytes are read. -/
def bitesOf (v : Value) (p : List Int) : List Nat := match v with | .slice A _ _ => rowX A p | _ => []
theorem Bites.stays {w w' : World} {v : Value} {p : List Int} (h : Bites w v p) (hS : ∀ b ∈ bitesOf v p, w'.heap[b]? = w.heap[b]?) : Bites w' v p := by
  obtain ⟨A, c, rfl, hA, r⟩ := h
  exact ⟨A, c, rfl, nrowx_stays hA hS, r⟩
theorem Bites.lt {w : World} {v : Value} {p : List Int} (h : Bites w v p) : ∀ b ∈ bitesOf v p, b < w.heap.size := by
  obtain ⟨A, c, rfl, hA, r⟩ := h
  exact hA.ltX
/-- The slice that begins at A reads as the rows ps; vs are its elements. -/
def BRows (w : World) (A : Option Addr) (vs : List Value) (ps : List (List Int)) : Prop :=
  VRow w A vs ∧ vs.length = ps.length ∧ ∀ (i : Nat) (v : Value) (p : List Int), vs[i]? = some v → ps[i]? = some p → Bites w v p
/-- The blocks from which rows are read. -/
def rowsOf (A : Option Addr) (vs : List Value) (ps : List (List Int)) : List Nat := (match A, vs with | some a, _ :: _ => [a.block] | _, _ => []) ++ (List.zipWith bitesOf vs ps).flatten
theorem BRows.stays {w w' : World} {A : Option Addr} {vs : List Value} {ps : List (List Int)} (h : BRows w A vs ps) (hS : ∀ b ∈ rowsOf A vs ps, w'.heap[b]? = w.heap[b]?) : BRows w' A vs ps := by
  refine ⟨h.1.stays (fun a ha hv => hS _ ?_), h.2.1, fun i v p hv hp => (h.2.2 i v p hv hp).stays (fun b hb => hS b ?_)⟩
  · subst ha
    rcases vs with _ | ⟨v, r⟩
    · exact absurd rfl hv
    · exact List.mem_append.2 (.inl (by simp))
  · refine List.mem_append.2 (.inr (List.mem_flatten.2 ⟨bitesOf v p, ?_, hb⟩))
    rw [List.mem_iff_getElem?]
    exact ⟨i, by rw [List.getElem?_zipWith, hv, hp]⟩
theorem BRows.lt {w : World} {A : Option Addr} {vs : List Value} {ps : List (List Int)} (h : BRows w A vs ps) : ∀ b ∈ rowsOf A vs ps, b < w.heap.size := by
  intro b hb
  rcases List.mem_append.1 hb with hb | hb
  · rcases A with _ | a
    · simp at hb
    · rcases vs with _ | ⟨v, r⟩
      · simp at hb
      · obtain ⟨b', off, e, hc⟩ := h.1 0 v rfl
        injection e with e
        subst e
        simp at hb
        subst hb
        exact World.block_lt_of_cell? w _ hc
  · obtain ⟨l, hl, hb⟩ := List.mem_flatten.1 hb
    rw [List.mem_iff_getElem?] at hl
    obtain ⟨i, hi⟩ := hl
    rw [List.getElem?_zipWith] at hi
    rcases hv : vs[i]? with _ | v
    · rw [hv] at hi; simp at hi
    · rcases hp : ps[i]? with _ | p
      · rw [hv, hp] at hi; simp at hi
      · rw [hv, hp] at hi
        simp at hi
        subst hi
        exact (h.2.2 i v p hv hp).lt b hb
theorem BRows.moved {w w' : World} {A : Option Addr} {vs : List Value} {ps : List (List Int)} {S : List Nat} (h : BRows w A vs ps) (hM : Moved w w' S) (hS : ∀ b ∈ rowsOf A vs ps, b ∉ S) : BRows w' A vs ps :=
  h.stays fun b hb => hM.block b (h.lt b hb) (hS b hb)
theorem BRows.drewN {w : World} {A : Option Addr} {vs : List Value} {ps : List (List Int)} (h : BRows w A vs ps) (n : Nat) : BRows (w.drewN n) A vs ps := h
theorem BRows.at_ {w : World} {A : Option Addr} {vs : List Value} {ps : List (List Int)} (h : BRows w A vs ps) {i : Nat} (hi : i < ps.length) :
    ∃ b off B c p, A = some ⟨b, off, none⟩ ∧ ps[i]? = some p ∧ w.cell? ⟨b, off + i, none⟩ = some (.slice B p.length c) ∧ NRow .u8 w B p ∧ (B = none → c = 0) ∧ p.length ≤ c ∧ c ≤ 9223372036854775807 ∧ vs[i]? = some (.slice B p.length c) := by
  have hv : i < vs.length := by rw [h.2.1]; exact hi
  obtain ⟨b, off, rfl, hc⟩ := h.1 i vs[i] (List.getElem?_eq_getElem hv)
  obtain ⟨B, c, e, r1, r2, r3, r4⟩ := h.2.2 i vs[i] ps[i] (List.getElem?_eq_getElem hv) (List.getElem?_eq_getElem hi)
  refine ⟨b, off, B, c, ps[i], rfl, List.getElem?_eq_getElem hi, by rw [hc, e], r1, r2, r3, r4, by rw [List.getElem?_eq_getElem hv, e]⟩

/-- A call that leaves the world as it is, in a region of a loop whose rounds drew. -/
theorem calls_still {P : Program} {f : FuncId} {args : Array Value} {w : World} {k l : Nat} {v : Value} (h : Calls P f args (w.drewN (k + l)) fun e w' => e = .returned v ∧ w.drewN (k + l) = w') :
    Calls P f args (w.drewN (k + l)) fun e w' => e = .returned v ∧ ∃ m, w' = w.drewN (k + m) :=
  h.mono fun _ _ h => ⟨h.1, l, h.2.symm⟩
end Go.Proofs.YtekleamkpfeifaaDoor
