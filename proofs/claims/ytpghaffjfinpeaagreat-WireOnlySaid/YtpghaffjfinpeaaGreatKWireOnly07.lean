/-
  5 texts in one: WireZero, WireMore, ReadMore, ReadList, ReadTop.
-/
import Derived.Test.YtpghaffjfinpeaaGreatKWireOnly04
import Derived.Test.YtpghaffjfinpeaaGreatKWireOnly06
import Derived.Deep.RegionLaw

/-
  Zero values; rows that 'make' lays; the laws of a region that makes memory.
-/
namespace Go.Proofs.YtpghaffjfinpeaaGreat
namespace Wi
open Go.RowKit Pk Am
theorem amt_zero : Am.amt 0 0 = .complex .f64 0 0 := by
  have h : floatOfInt .f64 0 = 0 := by decide +kernel
  rw [Am.amt, h]
def zeroV : Kind → Value
  | .num => .int .i64 0
  | .mark => .bool false
  | .amt => .complex .f64 0 0
  | .text => .slice none 0 0
  | .list _ _ => .slice none 0 0
def zeroD : Kind → Dat
  | .num => .num 0
  | .mark => .mark false
  | .amt => .amt 0 0
  | .text => .text []
  | .list most _ => .list most []
theorem zero_holds (w : World) (b : Nat) : ∀ K : Kind, Holds w b K (zeroV K) (zeroD K)
  | .num => by rw [Holds]; exact ⟨0, rfl, rfl, by omega, by omega⟩
  | .mark => by rw [Holds]; exact ⟨false, rfl, rfl⟩
  | .amt => by rw [Holds]; exact ⟨0, 0, rfl, amt_zero.symm, by omega, by omega⟩
  | .text => by rw [Holds]; exact ⟨none, 0, 0, [], rfl, rfl, NRow.none_ _ _ _, rfl, fun _ => rfl, (fun k hk => by simp [rowX] at hk), by omega⟩
  | .list most K => by rw [Holds]; exact ⟨none, 0, 0, [], rfl, rfl, rfl, by omega, fun i r hr => by simp at hr⟩
theorem zero_all (w : World) (b : Nat) : ∀ Ks : List Kind, HoldsAll w b Ks (Ks.map zeroV) (Ks.map zeroD)
  | [] => by rw [HoldsAll]; exact ⟨rfl, rfl⟩
  | k :: ks => by rw [HoldsAll]; exact ⟨_, _, _, _, rfl, rfl, zero_holds w b k, zero_all w b ks⟩
theorem zero_right : ∀ K : Kind, RightD (zeroD K)
  | .num => by rw [zeroD, RightD]; trivial
  | .mark => by rw [zeroD, RightD]; trivial
  | .amt => by rw [zeroD, RightD]; trivial
  | .text => by rw [zeroD, RightD]; simp
  | .list most K => by rw [zeroD, RightD]; exact ⟨by simp, by rw [RightRows]; trivial⟩
theorem zeros_right : ∀ Ks : List Kind, RightDs (Ks.map zeroD)
  | [] => by rw [List.map_nil, RightDs]; trivial
  | k :: ks => by rw [List.map_cons, RightDs]; exact ⟨zero_right k, zeros_right ks⟩
theorem rows_right {r : List Dat} (h : RightDs r) : ∀ n, RightRows (List.replicate n r)
  | 0 => by rw [List.replicate_zero, RightRows]; trivial
  | n + 1 => by rw [List.replicate_succ, RightRows]; exact ⟨h, rows_right h n⟩
/-- What 'make' lays holds zero elements. -/
theorem made_holds {w : World} {b base g N most : Nat} {e : TypeId} {Ks : List Kind} (hg : g < b) (hN : N ≤ 35184372088832)
    (h : w.ownsRow base e Ks.length (.slice (some ⟨g, 0, none⟩) N N) N (madeCells (Ks.map zeroV).toArray (N * Ks.length)).toList) :
    Holds w b (.list most Ks) (.slice (some ⟨g, 0, none⟩) N N) (.list most (List.replicate N (Ks.map zeroD))) := by
  rw [Holds]
  refine ⟨_, _, _, _, rfl, rfl, by simp, hN, fun i r hr => ?_⟩
  rw [List.getElem?_replicate] at hr
  split at hr
  · rename_i hi
    obtain rfl := Option.some.inj hr
    refine ⟨g, 0, Ks.map zeroV, rfl, hg, fun j v hv => ?_, zero_all _ _ _⟩
    have hj : j < Ks.length := by
      have := (List.getElem?_eq_some_iff.1 hv).1
      simpa using this
    have hlt : i * Ks.length + j < N * Ks.length := by
      have h1 : (i + 1) * Ks.length ≤ N * Ks.length := Nat.mul_le_mul_right _ (by omega)
      rw [Nat.succ_mul] at h1
      omega
    have := h.cells (g := g) rfl (i * Ks.length + j) v (by
      rw [Array.getElem?_toList]
      unfold madeCells
      rw [Array.getElem?_map, Array.getElem?_range, if_pos hlt]
      simp only [Option.map_some, List.size_toArray, List.length_map]
      rw [Nat.mul_comm i, Nat.mul_add_mod, Nat.mod_eq_of_lt hj]
      congr 1
      rw [getElem!_def]
      simp only [List.getElem?_toArray, hv])
    rw [add_none_] at this
    rw [Nat.zero_add] at this ⊢
    exact this
  · cases hr
theorem wrs_found {most : Nat} {rows : List (List Dat)} (h : most < rows.length) : ∀ (ds : List Dat) (x : Ws), .list most rows ∈ ds → (wrs ds x).t = true
  | [], x, hm => by cases hm
  | d :: ds, x, hm => by
    rw [wrs]
    rcases List.mem_cons.1 hm with rfl | hm
    · exact wrs_long ds _ (by rw [wrD, if_pos h]; rfl)
    · exact wrs_found h ds _ hm
theorem err_long {x : Ws} (h : x.t = true) : x.err = 6 := by unfold Ws.err; rw [if_pos h]
theorem err_right {ds : List Dat} (h : RightDs ds) : (wrs ds ⟨.ok [], false⟩).err = 0 := by rw [wrs_right ds [] h]; rfl
theorem out_right {ds : List Dat} (h : RightDs ds) : (wrs ds ⟨.ok [], false⟩).out = encDs ds := by rw [wrs_right ds [] h]; rfl
/-- 'make' as one step of a region that draws its order. -/
theorem step_make_full {P : Program} {ops : Array Oper} {o : Oper} {a : Act} {w : World} {K : Act → World → Prop} {Q : Exit → Act → World → Prop} {E : Prop} (hgd : o.guard = none) (l c : Operand) (t : TypeId) (hop : o.op = Op.makeSlice t l c)
    (base : Nat) (e : TypeId) (i : TypeInfo) (z : Value) (size : Nat) (h1 : P.underlying t = some (.slice e)) (h2 : P.info? e = some i) (h3 : i.zero = some z) (h4 : i.size = size)
    (kl kc : IntKind) (L C : Int) (n : Nat) (hl : a.eval l = .int kl L) (hc : a.eval c = .int kc C) (hL : L = (n : Int)) (hC : C = (n : Int)) (b2 : i.bytes * n ≤ 281474976710656) (b3 : n ≤ maxLen) (b4 : base ≤ w.heap.size)
    (hK : ∀ w', w'.ownsRow base e size (.slice (some ⟨w.heap.size, 0, none⟩) n n) n (madeCells z.cells (n * size)).toList → w.grownBy w' none → K (a.put o.dst (.slice (some ⟨w.heap.size, 0, none⟩) n n)) w') :
    if Region.wanted o (yielded ops a.tmps) = true then Oper.wp P o a w K Q else E := by
  have hw : Region.wanted o (yielded ops a.tmps) = true := by simp [Region.wanted, hgd]
  rw [if_pos hw]
  obtain ⟨w', hrun, r1, r2⟩ := run_make_full (P := P) w base t e i z size h1 h2 h3 h4 kl kc n b2 b3 b4
  subst hL
  subst hC
  unfold Oper.wp
  simp [execOp, hop, hl, hc, hrun, Result.andThen]
  exact hK w' r1 r2
theorem step_store_new {P : Program} {ops : Array Oper} {op : Oper} {a : Act} {w : World} {K : Act → World → Prop} {Q : Exit → Act → World → Prop} {E : Prop} (hgd : op.guard = none) (ty : TypeId) (x y : Operand) (ho : op.op = .store ty x y)
    (c cells : Array Value) (hx : a.eval x = .pointer (some ⟨w.heap.size, 0, none⟩)) (hy : a.eval y = .agg cells) (hi : (P.info? ty).map (·.size) = some cells.size) (hs : c.size = cells.size) (h1 : cells.all (·.oneCell') = true)
    (h : K (a.put op.dst undef) (w.alloc (.cells cells ty))) : if Region.wanted op (yielded ops a.tmps) = true then Oper.wp P op a (w.alloc (.cells c ty)) K Q else E := by
  have hw : Region.wanted op (yielded ops a.tmps) = true := by simp [Region.wanted, hgd]
  rw [if_pos hw]
  unfold Oper.wp execOp
  simp only [ho, hx, hy, Sem.run_bind, run_storeAt_new w ty c cells hi hs h1, Result.andThen_ok]
  exact h
end Wi
end Go.Proofs.YtpghaffjfinpeaaGreat

/-
  What holds in a world holds in each later one of which nothing old was moved.
-/
namespace Go.Proofs.YtpghaffjfinpeaaGreat
namespace Wi
open Go.RowKit Pk Am
mutual
theorem Holds.wider {w : World} {b b' : Nat} (hb : b ≤ b') : ∀ (K : Kind) (v : Value) (d : Dat), Holds w b K v d → Holds w b' K v d
  | .num, v, d, h => by rw [Holds] at h ⊢; exact h
  | .mark, v, d, h => by rw [Holds] at h ⊢; exact h
  | .amt, v, d, h => by rw [Holds] at h ⊢; exact h
  | .text, v, d, h => by
    rw [Holds] at h ⊢
    obtain ⟨A, n, c, l, h1, h2, h3, h4, h5, h6, h7⟩ := h
    exact ⟨A, n, c, l, h1, h2, h3, h4, h5, fun k hk => Nat.lt_of_lt_of_le (h6 k hk) hb, h7⟩
  | .list most K, v, d, h => by
    rw [Holds] at h ⊢
    obtain ⟨A, n, c, rows, h1, h2, h3, h4, h5⟩ := h
    refine ⟨A, n, c, rows, h1, h2, h3, h4, fun i r hr => ?_⟩
    obtain ⟨g, off, vs, e1, e2, e3, e4⟩ := h5 i r hr
    exact ⟨g, off, vs, e1, Nat.lt_of_lt_of_le e2 hb, e3, HoldsAll.wider hb K vs r e4⟩
theorem HoldsAll.wider {w : World} {b b' : Nat} (hb : b ≤ b') : ∀ (K : List Kind) (vs : List Value) (ds : List Dat), HoldsAll w b K vs ds → HoldsAll w b' K vs ds
  | [], vs, ds, h => by rw [HoldsAll] at h ⊢; exact h
  | k :: ks, vs, ds, h => by
    rw [HoldsAll] at h ⊢
    obtain ⟨v, vs', d, ds', h1, h2, h3, h4⟩ := h
    exact ⟨v, vs', d, ds', h1, h2, Holds.wider hb k v d h3, HoldsAll.wider hb ks vs' ds' h4⟩
end
theorem Holds.moved {w w' : World} {K : Kind} {v : Value} {d : Dat} (h : Holds w w.heap.size K v d) (hM : Moved w w' []) : Holds w' w'.heap.size K v d :=
  Holds.wider hM.size _ _ _ (Holds.stays (Nat.le_refl _) (fun k hk => hM.block k hk (by simp)) _ _ _ h)
theorem HoldsAll.moved {w w' : World} {K : List Kind} {vs : List Value} {ds : List Dat} (h : HoldsAll w w.heap.size K vs ds) (hM : Moved w w' []) : HoldsAll w' w'.heap.size K vs ds :=
  HoldsAll.wider hM.size _ _ _ (HoldsAll.stays (Nat.le_refl _) (fun k hk => hM.block k hk (by simp)) _ _ _ h)
/-- A block of known cells, in a walk that moves nothing old. -/
def At (w : World) (g : Nat) (cs : Array Value) (T : TypeId) : Prop := w.heap[g]? = some (.cells cs T (0, 0))
theorem At.moved {w w' : World} {g : Nat} {cs : Array Value} {T : TypeId} (h : At w g cs T) (hM : Moved w w' []) : At w' g cs T := (hM.block g (lt_of_block h) (by simp)).trans h
theorem At.range {w : World} {g : Nat} {vs : List Value} {T : TypeId} (h : At w g vs.toArray T) : w.rangeAt g 0 vs := fun j v hv => by
  rw [Nat.zero_add, cell_of_row _ _ _ _ _ _ h]; simpa using hv
theorem At.cell {w : World} {g : Nat} {cs : Array Value} {T : TypeId} (h : At w g cs T) (j : Nat) {v : Value} (hv : cs[j]? = some v) : w.cell? ⟨g, j, none⟩ = some v := cell_at h j hv
theorem moved_grown {w w' : World} (h : w.grownBy w' none) : Moved w w' [] := (Moved.refl w []).grown h (fun k hk => by cases hk)
theorem moved_setRow {w w1 : World} {S : List Nat} (h : Moved w w1 S) {g : Nat} (hg : g ∈ S ∨ w.heap.size ≤ g) (cs : Array Value) : Moved w (w1.setRow g cs) S :=
  ⟨h.os, h.tape, h.output, by simpa [World.setRow] using h.size, fun k hk hn => by
    have hne : ¬ g = k := fun e => by rcases hg with hg | hg; exact hn (e ▸ hg); omega
    rw [← h.block k hk hn]
    simp [World.setRow, Array.getElem?_modify, hne]⟩
theorem step_store_row {P : Program} {ops : Array Oper} {op : Oper} {a : Act} {w : World} {K : Act → World → Prop} {Q : Exit → Act → World → Prop} {E : Prop} (hgd : op.guard = none) (ty : TypeId) (x y : Operand) (ho : op.op = .store ty x y)
    (g : Nat) (cells : Array Value) (hx : a.eval x = .pointer (some ⟨g, 0, none⟩)) (hy : a.eval y = .agg cells) (old : Array Value) (hg : At w g old ty) (hi : (P.info? ty).map (·.size) = some cells.size) (hs : old.size = cells.size) (h1 : cells.all (·.oneCell') = true)
    (h : K (a.put op.dst undef) (w.setRow g cells)) : if Region.wanted op (yielded ops a.tmps) = true then Oper.wp P op a w K Q else E := by
  have hw : Region.wanted op (yielded ops a.tmps) = true := by simp [Region.wanted, hgd]
  rw [if_pos hw]
  exact wp_store_row ty x y ho g cells hx hy ty old hg hi hs h1 h
/-- What 'make' lays, in these words. -/
theorem made_new {w w' : World} {base N most g size T : Nat} {e : TypeId} {zs : Array Value} {Ks : List Kind} (hg : w.heap.size = g) (hz : zs = (Ks.map zeroV).toArray) (hT : T = N * Ks.length) (hs : size = Ks.length) (hN : N ≤ 35184372088832) (hgr : w.grownBy w' none)
    (h : w'.ownsRow base e size (.slice (some ⟨g, 0, none⟩) N N) N (madeCells zs T).toList) :
    Holds w' w'.heap.size (.list most Ks) (.slice (some ⟨g, 0, none⟩) N N) (.list most (List.replicate N (Ks.map zeroD))) ∧ Moved w w' [] := by
  subst hg hz hT hs
  exact ⟨made_holds (h.lt w.heap.size rfl).2 hN h, moved_grown hgr⟩
theorem made_at {w : World} {base N most g size T : Nat} {e : TypeId} {zs : Array Value} {Ks : List Kind} (hz : zs = (Ks.map zeroV).toArray) (hT : T = N * Ks.length) (hs : size = Ks.length) (hN : N ≤ 35184372088832)
    (h : w.ownsRow base e size (.slice (some ⟨g, 0, none⟩) N N) N (madeCells zs T).toList) : Holds w w.heap.size (.list most Ks) (.slice (some ⟨g, 0, none⟩) N N) (.list most (List.replicate N (Ks.map zeroD))) := by
  subst hz hT hs
  exact made_holds (h.lt g rfl).2 hN h
end Wi
end Go.Proofs.YtpghaffjfinpeaaGreat

/-
  Lists of known length; the end of a call that hands a struct back through a variable of its own.
-/
namespace Go.Proofs.YtpghaffjfinpeaaGreat
namespace Wi
open Go.RowKit Pk Am
theorem list_2 {vs : List Value} (h : vs.length = 2) : ∃ a0 a1, vs = [a0, a1] := by
  match vs, h with
  | [a0, a1], _ => exact ⟨a0, a1, rfl⟩
theorem list_3 {vs : List Value} (h : vs.length = 3) : ∃ a0 a1 a2, vs = [a0, a1, a2] := by
  match vs, h with
  | [a0, a1, a2], _ => exact ⟨a0, a1, a2, rfl⟩
theorem list_8 {vs : List Value} (h : vs.length = 8) : ∃ a0 a1 a2 a3 a4 a5 a6 a7, vs = [a0, a1, a2, a3, a4, a5, a6, a7] := by
  match vs, h with
  | [a0, a1, a2, a3, a4, a5, a6, a7], _ => exact ⟨a0, a1, a2, a3, a4, a5, a6, a7, rfl⟩
theorem list_10 {vs : List Value} (h : vs.length = 10) : ∃ a0 a1 a2 a3 a4 a5 a6 a7 a8 a9, vs = [a0, a1, a2, a3, a4, a5, a6, a7, a8, a9] := by
  match vs, h with
  | [a0, a1, a2, a3, a4, a5, a6, a7, a8, a9], _ => exact ⟨a0, a1, a2, a3, a4, a5, a6, a7, a8, a9, rfl⟩
theorem list_17 {vs : List Value} (h : vs.length = 17) : ∃ a0 a1 a2 a3 a4 a5 a6 a7 a8 a9 a10 a11 a12 a13 a14 a15 a16, vs = [a0, a1, a2, a3, a4, a5, a6, a7, a8, a9, a10, a11, a12, a13, a14, a15, a16] := by
  match vs, h with
  | [a0, a1, a2, a3, a4, a5, a6, a7, a8, a9, a10, a11, a12, a13, a14, a15, a16], _ => exact ⟨a0, a1, a2, a3, a4, a5, a6, a7, a8, a9, a10, a11, a12, a13, a14, a15, a16, rfl⟩
theorem list_18 {vs : List Value} (h : vs.length = 18) : ∃ a0 a1 a2 a3 a4 a5 a6 a7 a8 a9 a10 a11 a12 a13 a14 a15 a16 a17, vs = [a0, a1, a2, a3, a4, a5, a6, a7, a8, a9, a10, a11, a12, a13, a14, a15, a16, a17] := by
  match vs, h with
  | [a0, a1, a2, a3, a4, a5, a6, a7, a8, a9, a10, a11, a12, a13, a14, a15, a16, a17], _ => exact ⟨a0, a1, a2, a3, a4, a5, a6, a7, a8, a9, a10, a11, a12, a13, a14, a15, a16, a17, rfl⟩
theorem list_21 {vs : List Value} (h : vs.length = 21) : ∃ a0 a1 a2 a3 a4 a5 a6 a7 a8 a9 a10 a11 a12 a13 a14 a15 a16 a17 a18 a19 a20, vs = [a0, a1, a2, a3, a4, a5, a6, a7, a8, a9, a10, a11, a12, a13, a14, a15, a16, a17, a18, a19, a20] := by
  match vs, h with
  | [a0, a1, a2, a3, a4, a5, a6, a7, a8, a9, a10, a11, a12, a13, a14, a15, a16, a17, a18, a19, a20], _ => exact ⟨a0, a1, a2, a3, a4, a5, a6, a7, a8, a9, a10, a11, a12, a13, a14, a15, a16, a17, a18, a19, a20, rfl⟩
mutual
theorem HoldsD.oneCell {w : World} {D : Nat → Prop} : ∀ (K : Kind) (v : Value) (d : Dat), HoldsD w D K v d → v.oneCell' = true
  | .num, v, d, h => by rw [HoldsD] at h; obtain ⟨_, _, rfl, _⟩ := h; rfl
  | .mark, v, d, h => by rw [HoldsD] at h; obtain ⟨_, _, rfl⟩ := h; rfl
  | .amt, v, d, h => by rw [HoldsD] at h; obtain ⟨_, _, _, rfl, _⟩ := h; rfl
  | .text, v, d, h => by rw [HoldsD] at h; obtain ⟨_, _, _, _, _, rfl, _⟩ := h; rfl
  | .list most K, v, d, h => by rw [HoldsD] at h; obtain ⟨_, _, _, _, _, rfl, _⟩ := h; rfl
theorem data_one {w : World} {D : Nat → Prop} : ∀ {K : List Kind} {vs : List Value} {ds : List Dat}, HoldsDs w D K vs ds → vs.all (·.oneCell') = true
  | [], vs, ds, h => by rw [HoldsDs] at h; obtain ⟨rfl, _⟩ := h; rfl
  | k :: ks, vs, ds, h => by
    rw [HoldsDs] at h
    obtain ⟨v, vs', d, ds', rfl, rfl, h3, h4⟩ := h
    rw [List.all_cons, HoldsD.oneCell k v d h3, data_one h4]; rfl
end
theorem results_cell {P : Program} {fn : Func} {tmps : Array Value} {w : World} {v : Value} {a T : Nat} {ad : Addr} (h : fn.results = #[.cell a T]) (ht : tmps.getD a undef = .pointer (some ad)) (hl : (loadVar T ad).run P w = .ok v w) : (results fn tmps).run P w = .ok v w := by
  have ht2 : tmps[a]?.getD undef = .pointer (some ad) := by rw [← ht]; simp
  unfold results
  rw [h]
  simp [ht2, asAddr]
  exact hl
theorem results_cell2 {P : Program} {fn : Func} {tmps : Array Value} {w : World} {v : Value} {a T b : Nat} {ad : Addr} (h : fn.results = #[.cell a T, .tmp b]) (ht : tmps.getD a undef = .pointer (some ad)) (hl : (loadVar T ad).run P w = .ok v w) : (results fn tmps).run P w = .ok (.tuple #[v, tmps.getD b undef]) w := by
  have ht2 : tmps[a]?.getD undef = .pointer (some ad) := by rw [← ht]; simp
  unfold results
  rw [h]
  simp [ht2, asAddr]
  rw [hl]
  simp [Result.andThen]
theorem wpList_store_at {P : Program} {ops : Array Oper} {rest : List Oper} {op : Oper} {a : Act} {w : World} {Q : Exit → Act → World → Prop} (hgd : op.guard = none) (ty : TypeId) (x y : Operand) (ho : op.op = .store ty x y)
    (g : Nat) (cells : Array Value) (hx : a.eval x = .pointer (some ⟨g, 0, none⟩)) (hy : a.eval y = .agg cells) (old : Array Value) (hg : At w g old ty) (hi : (P.info? ty).map (·.size) = some cells.size) (hs : old.size = cells.size) (h1 : cells.all (·.oneCell') = true)
    (h : wpList P ops Q rest (a.put op.dst undef) (w.setRow g cells)) : wpList P ops Q (op :: rest) a w :=
  wpList_plain hgd fun _ hK => wp_store_row ty x y ho g cells hx hy ty old hg hi hs h1 (hK _ _ h)
/-- The call laid its result's variable first, and wrote it last. -/
theorem got_done {q p : Nat} {x y : Rs} {w W0 wl w9 : World} {K : List Kind} {vs : List Value} {ds : List Dat} (hR : Rd w q p x) (hM0 : Moved w W0 []) (hsz : W0.heap.size = w.heap.size + 1) (h : Got q p x W0 K vs ds y wl) (hm : Moved wl w9 [w.heap.size]) : Got q p x w K vs ds y w9 := by
  have h1 := h.moved.size
  have h2 := hm.size
  have hp := hR.ltp
  have hq := hR.ltq
  have hb : ∀ k, k < wl.heap.size → k ≠ w.heap.size → w9.heap[k]? = wl.heap[k]? := fun k hk hn => hm.block k hk (by simpa using hn)
  refine ⟨⟨(hb q h.rd.ltq (by omega)).trans h.rd.blk, h.rd.obj.stays (fun k hk => by simp at hk; subst hk; exact hb _ h.rd.ltp (by omega)), h.rd.ne⟩, ?_, ⟨hp, hq⟩, ?_, h.back⟩
  · exact ((hM0.mono (fun k hk => by cases hk)).trans h.moved (fun k hk => .inl hk)).trans hm (fun k hk => .inr (by simp at hk; omega))
  · exact HoldsDs.to (fun k hk => ⟨hb k hk.2 (by have := hk.1; omega), by have := hk.1; omega, by have := hk.2; omega⟩) _ _ _ h.data
end Wi
end Go.Proofs.YtpghaffjfinpeaaGreat

/-
  A row of structs that a call makes by append: where its block goes; a list that is read, in a walk.
-/
namespace Go.Proofs.YtpghaffjfinpeaaGreat
namespace Wi
open Go.RowKit Pk Am
theorem run_append_roww {P : Program} (w : World) (t ty e : TypeId) (i : TypeInfo) (z : Value) (size by_ : Nat) (ht : P.underlying t = some (.slice e)) (hi : P.info? e = some i) (hz : i.zero = some z)
    (hsize : i.size = size) (hby : i.bytes = by_) (hzs : z.cells.size = size) (hsz : 0 < size) (v : Value) (n : Nat) (xs : List Value) (hown : w.ownsRow 0 e size v n xs) (ad : Addr) (m c : Nat) (news : List Value) (hl : news.length = m * size)
    (hnews : ∀ j u, news[j]? = some u → w.cell? (ad.add j) = some u) (h1 : ∀ u ∈ news, u.oneCell' = true) (h63 : n + m ≤ maxLen) (hb : (n + m) * by_ ≤ 140737488355328) :
    ∃ v' w', (Builtin.append_ #[t, t] ty #[v, .slice (some ad) m c]).run P w = .ok v' w' ∧ w'.ownsRow 0 e size v' (n + m) (xs ++ news) ∧ Step w w' (rowOf v) (rowOf v') := by
  rcases hown.2 with ⟨rfl, rfl⟩ | ⟨g, cap, cur, rfl, hbg, hg, hnc, hcm, hcs, htake⟩
  · have hx : xs = [] := List.eq_nil_of_length_eq_zero (by simpa using hown.1)
    subst hx
    obtain ⟨v', w', hr, ho, hgr, _⟩ := run_append_own (P := P) w w.heap.size t ty e i z size by_ ht hi hz hsize hby hzs hsz (.slice none 0 0) 0 [] (World.ownsRow_nil _ _ _ _) ad m c news hl hnews h1 h63 hb (Nat.le_refl _)
    exact ⟨v', w', hr, ownsRow_zero ho, (Moved.refl w _).grown hgr (fun k hk => .inl (mem_rowOf.2 hk)), fun k hk => .inr (ho.lt k (mem_rowOf.1 hk)).1⟩
  · by_cases hroom : n + m ≤ cap
    · obtain ⟨w', hr, ho, hgr⟩ := run_append_fits (P := P) w 0 t ty e i size ht hi hsize g n cap xs hown ad m c news hl hnews h1 hroom
      exact ⟨_, w', hr, ho, (Moved.refl w _).grown hgr (fun k hk => .inl (by rw [mem_rowOf]; exact hk)), fun k hk => .inl hk⟩
    · obtain ⟨v', w', hr, ho, hgr⟩ := run_append_arg_grows (P := P) w t ty e i z size by_ ht hi hz hsize hby hzs hsz ⟨g, 0, none⟩ n cap xs hown.1 (hown.cells (g := g) rfl) ad m c news hl hnews (by omega) h63 hb
      exact ⟨v', w', hr, ownsRow_zero ho, (Moved.refl w _).grown hgr (fun k hk => by cases hk), fun k hk => .inr (ho.lt k (mem_rowOf.1 hk)).1⟩
theorem wpList_append_roww {P : Program} {w : World} {ops : Array Oper} {rest : List Oper} {o : Oper} {a : Act} {Q : Exit → Act → World → Prop} (hgd : o.guard = none) (s x : Operand) (t : TypeId)
    (ho : o.op = .call { callee := .builtin .append, args := #[s, x], argTypes := #[t, t] })
    (e : TypeId) (i : TypeInfo) (z : Value) (size by_ : Nat) (ht : P.underlying t = some (.slice e)) (hi : P.info? e = some i) (hz : i.zero = some z) (hsize : i.size = size) (hby : i.bytes = by_) (hzs : z.cells.size = size) (hsz : 0 < size)
    (v : Value) (n : Nat) (xs : List Value) (hs : a.eval s = v) (hown : w.ownsRow 0 e size v n xs)
    (ad : Addr) (m c : Nat) (news : List Value) (hx : a.eval x = .slice (some ad) m c) (hl : news.length = m * size) (hnews : ∀ j u, news[j]? = some u → w.cell? (ad.add j) = some u) (h1 : ∀ u ∈ news, u.oneCell' = true)
    (h63 : n + m ≤ maxLen) (hb : (n + m) * by_ ≤ 140737488355328)
    (h : ∀ v' w', w'.ownsRow 0 e size v' (n + m) (xs ++ news) → Step w w' (rowOf v) (rowOf v') → wpList P ops Q rest (a.put o.dst v') w') : wpList P ops Q (o :: rest) a w := by
  refine wpList_plain hgd fun K hK' => ?_
  obtain ⟨v', w', hrun, r1, r2⟩ := run_append_roww (P := P) w t o.type e i z size by_ ht hi hz hsize hby hzs hsz v n xs hown ad m c news hl hnews h1 h63 hb
  unfold Oper.wp
  simp [execOp, ho, resolve, invoke, builtin, hs, hx, hrun, Result.andThen]
  exact hK' _ _ (h v' w' r1 r2)
/-- From the world w on k elements were read, which the row v holds; the reader was in the state y1 ahead of them, and is in the state y. -/
structure Lst (q p : Nat) (w : World) (K : List Kind) (T : TypeId) (y1 : Rs) (k : Nat) (v : Value) (rows : List (List Dat)) (y : Rs) (W : World) : Prop where
  rd : Rd W q p y
  moved : Moved w W [p, q]
  start : p < w.heap.size ∧ q < w.heap.size
  len : rows.length = k
  row : ∃ cells, W.ownsRow 0 T K.length v k cells ∧ ∀ i r, rows[i]? = some r → ∃ vs, (∀ (j : Nat) u, vs[j]? = some u → cells[i * K.length + j]? = some u) ∧ HoldsDs W (fun b => New w W b ∧ b ∉ rowOf v) K vs r
  mine : ∀ b ∈ rowOf v, New w W b
  back : ∀ bs, y.s = .ok bs → y.t = false → y1.t = false ∧ RightRows rows ∧ y1.s = .ok (encRows rows ++ bs)
theorem Lst.begin {q p : Nat} {w w1 : World} {K : List Kind} {T : TypeId} {y1 : Rs} (h : Rd w1 q p y1) (hm : Moved w w1 [p, q]) (hs : p < w.heap.size ∧ q < w.heap.size) : Lst q p w K T y1 0 (.slice none 0 0) [] y1 w1 :=
  ⟨h, hm, hs, rfl, ⟨[], World.ownsRow_nil _ _ _ _, fun i r hr => by simp at hr⟩, fun b hb => by simp [rowOf, Value.ownBlock] at hb, fun bs h1 h2 => ⟨h2, by rw [RightRows]; trivial, by rw [h1, encRows, List.nil_append]⟩⟩
theorem Lst.next {q p : Nat} {w W W1 W2 : World} {K : List Kind} {T : TypeId} {y1 y z : Rs} {k : Nat} {v v' : Value} {rows : List (List Dat)} {cells vs : List Value} {ds : List Dat} {o : Obj} (h : Lst q p w K T y1 k v rows y W)
    (hrows : ∀ i r, rows[i]? = some r → ∃ vs, (∀ (j : Nat) u, vs[j]? = some u → cells[i * K.length + j]? = some u) ∧ HoldsDs W (fun b => New w W b ∧ b ∉ rowOf v) K vs r) (hlen : cells.length = k * K.length)
    (g : Got q p y W K vs ds z W1) (hown : W2.ownsRow 0 T K.length v' (k + 1) (cells ++ vs)) (hst : Step (W1.alloc o) W2 (rowOf v) (rowOf v')) : Lst q p w K T y1 (k + 1) v' (rows ++ [ds]) z W2 := by
  have s1 := h.moved.size
  have s2 := g.moved.size
  have s3 := hst.1.size
  have sa : (W1.alloc o).heap.size = W1.heap.size + 1 := by simp
  have hst0 := h.start
  have h12 : ∀ b, b < W1.heap.size → b ∉ rowOf v → W2.heap[b]? = W1.heap[b]? := fun b hb hn => (hst.1.block b (by omega) hn).trans (Below.heap_alloc W1 o b hb)
  have hpq : ∀ b, b ∈ [p, q] → b ∉ rowOf v := fun b hb hm => by
    have := (h.mine b hm).1
    simp only [List.mem_cons, List.not_mem_nil, or_false] at hb
    omega
  have hv' : ∀ b, b ∈ rowOf v' → b ∈ rowOf v ∨ W1.heap.size ≤ b := fun b hb => (hst.2 b hb).imp id (fun h => by omega)
  refine ⟨⟨(h12 q g.rd.ltq (hpq q (by simp))).trans g.rd.blk, g.rd.obj.stays (fun b hb => by simp at hb; subst hb; exact h12 _ g.rd.ltp (hpq _ (by simp))), g.rd.ne⟩, ?_, h.start, by simp [h.len], ⟨cells ++ vs, hown, ?_⟩, ?_, ?_⟩
  · refine (h.moved.trans g.moved (fun b hb => .inl hb)).trans ((((Moved.refl W1 (rowOf v)).alloc o)).trans hst.1 (fun b hb => .inl hb)) (fun b hb => .inr (h.mine b hb).1)
  · intro i r hr
    rw [List.getElem?_append] at hr
    split at hr
    · rename_i hi
      obtain ⟨us, e1, e2⟩ := hrows i r hr
      refine ⟨us, fun j u hu => ?_, HoldsDs.to (fun b hb => ?_) _ _ _ e2⟩
      · have := e1 j u hu
        rw [List.getElem?_append_left (List.getElem?_eq_some_iff.1 this).1]
        exact this
      · have hb1 := hb.1.1
        have hb2 := hb.1.2
        refine ⟨(h12 b (by omega) hb.2).trans (g.moved.block b hb2 (fun hm => by simp only [List.mem_cons, List.not_mem_nil, or_false] at hm; omega)), ⟨hb1, by omega⟩, fun hm => ?_⟩
        rcases hv' b hm with h' | h'
        · exact hb.2 h'
        · omega
    · rename_i hi
      have hi0 : i - rows.length = 0 := by
        by_cases h0 : i - rows.length = 0
        · exact h0
        · have : ([ds] : List (List Dat))[i - rows.length]? = none := List.getElem?_eq_none (by simp; omega)
          rw [this] at hr; cases hr
      rw [hi0] at hr
      obtain rfl : ds = r := by simpa using hr
      have hik : i = k := by have := h.len; omega
      subst hik
      refine ⟨vs, fun j u hu => ?_, HoldsDs.to (fun b hb => ?_) _ _ _ g.data⟩
      · rw [List.getElem?_append_right (by omega), hlen, Nat.add_sub_cancel_left]
        exact hu
      · have hb1 := hb.1
        have hb2 := hb.2
        have hnv : b ∉ rowOf v := fun hm => by have := (h.mine b hm).2; omega
        refine ⟨h12 b hb2 hnv, ⟨by omega, by omega⟩, fun hm => ?_⟩
        rcases hv' b hm with h' | h'
        · exact hnv h'
        · omega
  · intro b hb
    have hlt := own_lt hown b hb
    rcases hv' b hb with h' | h'
    · exact ⟨(h.mine b h').1, hlt⟩
    · exact ⟨by omega, hlt⟩
  · intro bs h1 h2
    obtain ⟨g1, g2, g3⟩ := g.back bs h1 h2
    obtain ⟨e1, e2, e3⟩ := h.back _ g3 g1
    exact ⟨e1, (RightRows_append _ _).2 ⟨e2, by rw [RightRows, RightRows]; exact ⟨g2, trivial⟩⟩, by rw [e3, encRows_append, encRows, encRows, List.append_nil, List.append_assoc]⟩
theorem own_shapew {w : World} {base size : Nat} {e : TypeId} {v : Value} {n : Nat} {xs : List Value} (h : w.ownsRow base e size v n xs) : ∃ A c, v = .slice A n c := by
  rcases h.2 with ⟨rfl, rfl⟩ | ⟨g, cap, cur, rfl, _⟩
  · exact ⟨none, 0, rfl⟩
  · exact ⟨_, _, rfl⟩
theorem Lst.done {q p : Nat} {x y1 y : Rs} {w W : World} {K : List Kind} {T : TypeId} {n most : Nat} {A : Option Addr} {c : Nat} {rows : List (List Dat)} (h : Lst q p w K T y1 n (.slice A n c) rows y W) (hn : n ≤ most) (hm : most ≤ 1024)
    (ht : y1.t = x.t) (hb : ∀ bs, y1.s = .ok bs → x.s = .ok (enc n ++ bs)) : Got q p x w [.list most K] [.slice A n c] [.list most rows] y W := by
  obtain ⟨cells, hown, hrows⟩ := h.row
  refine ⟨h.rd, h.moved, h.start, HoldsDs.one ?_, fun bs h1 h2 => ?_⟩
  · rw [HoldsD]
    refine ⟨A, n, c, rows, rfl, rfl, h.len, by omega, fun i r hr => ?_⟩
    obtain ⟨vs, e1, e2⟩ := hrows i r hr
    have hi : i < n := by have := (List.getElem?_eq_some_iff.1 hr).1; have := h.len; omega
    rcases hown.2 with ⟨_, h0⟩ | ⟨g, cap, cur, hv, _⟩
    · omega
    · injection hv with hA
      subst hA
      refine ⟨g, 0, vs, rfl, h.mine g (by simp [rowOf, Value.ownBlock]), fun j u hu => ?_, HoldsDs.to (fun b hb => ⟨rfl, hb.1⟩) _ _ _ e2⟩
      have := hown.cells (g := g) rfl (i * K.length + j) u (e1 j u hu)
      rw [add_none_] at this
      rw [Nat.zero_add] at this ⊢
      exact this
  · obtain ⟨e1, e2, e3⟩ := h.back bs h1 h2
    refine ⟨ht ▸ e1, right_one (by rw [RightD, h.len]; exact ⟨hn, e2⟩), ?_⟩
    rw [enc_one, encD, h.len, hb _ e3, List.append_assoc]
/-- A list that is too long: nothing of it is read. -/
theorem got_long {q p : Nat} {x y1 : Rs} {w w1 : World} {K : List Kind} {most : Nat} (h : Rd w1 q p y1) (hm : Moved w w1 [p, q]) (hs : p < w.heap.size ∧ q < w.heap.size) :
    Got q p x w [.list most K] [.slice none 0 0] [.list most []] ⟨y1.s, true⟩ (w1.setCell ⟨q, 1, none⟩ (.bool true)) := by
  refine ⟨⟨by rw [heap_setCell_same w1 q 1 _ _ _ h.blk]; rfl, h.obj.stays (fun k hk => by simp at hk; subst hk; exact Below.heap_setCell _ _ _ _ (by exact h.ne)), h.ne⟩, hm.setCell (.inl (by simp)) _, hs, HoldsDs.one ?_, fun bs _ h2 => by cases h2⟩
  rw [HoldsD]
  exact ⟨none, 0, 0, [], rfl, rfl, rfl, by omega, fun i r hr => by simp at hr⟩
end Wi
end Go.Proofs.YtpghaffjfinpeaaGreat

/-
  CONTRACTS of (*pack.Reader).Done and of wire.newReader in the readers' words; results in a variable and a tmp.
-/
namespace Go.Proofs.YtpghaffjfinpeaaGreat
namespace Wi
open Go.RowKit Pk Am
theorem g_done (q p : Nat) (x : Rs) (w : World) (h : Rd w q p x) :
    Calls Tryz.prog 32 #[.pointer (some ⟨p, 0, none⟩)] w fun r w' => ∃ d : Int, r = .returned (.int .i64 d) ∧ (d = 0 → x.s = .ok []) ∧ Moved w w' [p, q] ∧ w'.heap[q]? = w.heap[q]? := by
  have hf : ∀ e, x.s = .bad e → e ≠ 0 := fun e he => by have := h.obj; rw [he] at this; exact rlaws.fine this
  refine (rlaws.done p [p] x.s w h.obj).mono ?_
  rintro e w1 ⟨rfl, fp', hO, hS⟩
  refine ⟨_, rfl, fun h0 => ?_, hS.1.mono (fun k hk => by simp at hk; simp [hk]), hS.1.block q h.ltq (by simp; exact h.ne.symm)⟩
  cases hs : x.s with
  | bad e => rw [hs] at h0; exact absurd h0 (hf e hs)
  | ok bs =>
    cases bs with
    | nil => rfl
    | cons a l => rw [hs] at h0; cases h0
set_option maxRecDepth 100000 in
set_option maxHeartbeats 1000000 in
theorem new_reader (A : Option Addr) (n c : Nat) (xs : List Int) (w : World) (hA : NRow .u8 w A xs) (hn : xs.length = n) (hb : ByteList xs) (hc : A = none → c = 0) (hl : n ≤ 70368744177664) :
    Calls Tryz.prog 14 #[.slice A n c] w fun r w' => ∃ q p, r = .returned (.pointer (some ⟨q, 0, none⟩)) ∧ Rd w' q p ⟨.ok xs, false⟩ ∧ Moved w w' [] ∧ w.heap.size ≤ q ∧ w.heap.size ≤ p := by
  have HC := Lib.hid (rlaws.new A n c xs w hA hn hb hc hl)
  clear hA hn hb hc hl
  go_enter Tryz.func14, Tryz.ntmps14
  go_wp2_with fail
  refine HC.out.mono ?_
  rintro e1 w1 ⟨p, fp, rfl, hR, hS⟩
  obtain ⟨rfl, _⟩ := id hR
  have hlt := rlaws.lt hR p (by simp)
  have hp : w.heap.size ≤ p := by rcases hS.2 p (by simp) with h | h; cases h; exact h
  have hs := hS.1.size
  have HX : Hid (Rd (w1.alloc (.cells #[.pointer (some ⟨p, 0, none⟩), .bool false] 93)) w1.heap.size p ⟨.ok xs, false⟩ ∧ Moved w (w1.alloc (.cells #[.pointer (some ⟨p, 0, none⟩), .bool false] 93)) [] ∧ w.heap.size ≤ w1.heap.size ∧ w.heap.size ≤ p) :=
    ⟨⟨heap_alloc_new w1 _, hR.stays (fun k hk => Below.heap_alloc w1 _ k (by simp at hk; omega)), by omega⟩, hS.1.alloc _, by omega, hp⟩
  clear hR hS hlt hp hs
  go_wp2
  go_ret
  exact ⟨_, p, rfl, HX.out⟩
end Wi
end Go.Proofs.YtpghaffjfinpeaaGreat
