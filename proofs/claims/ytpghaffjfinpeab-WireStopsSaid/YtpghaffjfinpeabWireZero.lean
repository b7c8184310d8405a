/-
  Zero values; rows that 'make' lays; the laws of a region that makes memory.
-/
import Derived.Test.YtpghaffjfinpeabWireKinds
import Derived.Test.YtpghaffjfinpeabWireAll
import Derived.Deep.RegionLaw
namespace Go.Proofs.Ytpghaffjfinpeab
namespace Wi
open Go.RowKit Pk Am
theorem amt_zero : Am.amt 0 0 = .complex .f64 0 0 := by
  have h : floatOfInt .f64 0 = 0 := by decide +kernel
  rw [Am.amt, h]
def zeroV : Kind → Value
  | .num => .int .i64 0
  | .mark => .bool false
  | .amt => .complex .f64 0 0
  | .text => .slice none 0 0
  | .list _ _ => .slice none 0 0
def zeroD : Kind → Dat
  | .num => .num 0
  | .mark => .mark false
  | .amt => .amt 0 0
  | .text => .text []
  | .list most _ => .list most []
theorem zero_holds (w : World) (b : Nat) : ∀ K : Kind, Holds w b K (zeroV K) (zeroD K)
  | .num => by rw [Holds]; exact ⟨0, rfl, rfl, by omega, by omega⟩
  | .mark => by rw [Holds]; exact ⟨false, rfl, rfl⟩
  | .amt => by rw [Holds]; exact ⟨0, 0, rfl, amt_zero.symm, by omega, by omega⟩
  | .text => by rw [Holds]; exact ⟨none, 0, 0, [], rfl, rfl, NRow.none_ _ _ _, rfl, fun _ => rfl, (fun k hk => by simp [rowX] at hk), by omega⟩
  | .list most K => by rw [Holds]; exact ⟨none, 0, 0, [], rfl, rfl, rfl, by omega, fun i r hr => by simp at hr⟩
theorem zero_all (w : World) (b : Nat) : ∀ Ks : List Kind, HoldsAll w b Ks (Ks.map zeroV) (Ks.map zeroD)
  | [] => by rw [HoldsAll]; exact ⟨rfl, rfl⟩
  | k :: ks => by rw [HoldsAll]; exact ⟨_, _, _, _, rfl, rfl, zero_holds w b k, zero_all w b ks⟩
theorem zero_right : ∀ K : Kind, RightD (zeroD K)
  | .num => by rw [zeroD, RightD]; trivial
  | .mark => by rw [zeroD, RightD]; trivial
  | .amt => by rw [zeroD, RightD]; trivial
  | .text => by rw [zeroD, RightD]; simp
  | .list most K => by rw [zeroD, RightD]; exact ⟨by simp, by rw [RightRows]; trivial⟩
theorem zeros_right : ∀ Ks : List Kind, RightDs (Ks.map zeroD)
  | [] => by rw [List.map_nil, RightDs]; trivial
  | k :: ks => by rw [List.map_cons, RightDs]; exact ⟨zero_right k, zeros_right ks⟩
theorem rows_right {r : List Dat} (h : RightDs r) : ∀ n, RightRows (List.replicate n r)
  | 0 => by rw [List.replicate_zero, RightRows]; trivial
  | n + 1 => by rw [List.replicate_succ, RightRows]; exact ⟨h, rows_right h n⟩
/-- What 'make' lays holds zero elements. -/
theorem made_holds {w : World} {b base g N most : Nat} {e : TypeId} {Ks : List Kind} (hg : g < b) (hN : N ≤ 35184372088832)
    (h : w.ownsRow base e Ks.length (.slice (some ⟨g, 0, none⟩) N N) N (madeCells (Ks.map zeroV).toArray (N * Ks.length)).toList) :
    Holds w b (.list most Ks) (.slice (some ⟨g, 0, none⟩) N N) (.list most (List.replicate N (Ks.map zeroD))) := by
  rw [Holds]
  refine ⟨_, _, _, _, rfl, rfl, by simp, hN, fun i r hr => ?_⟩
  rw [List.getElem?_replicate] at hr
  split at hr
  · rename_i hi
    obtain rfl := Option.some.inj hr
    refine ⟨g, 0, Ks.map zeroV, rfl, hg, fun j v hv => ?_, zero_all _ _ _⟩
    have hj : j < Ks.length := by
      have := (List.getElem?_eq_some_iff.1 hv).1
      simpa using this
    have hlt : i * Ks.length + j < N * Ks.length := by
      have h1 : (i + 1) * Ks.length ≤ N * Ks.length := Nat.mul_le_mul_right _ (by omega)
      rw [Nat.succ_mul] at h1
      omega
    have := h.cells (g := g) rfl (i * Ks.length + j) v (by
      rw [Array.getElem?_toList]
      unfold madeCells
      rw [Array.getElem?_map, Array.getElem?_range, if_pos hlt]
      simp only [Option.map_some, List.size_toArray, List.length_map]
      rw [Nat.mul_comm i, Nat.mul_add_mod, Nat.mod_eq_of_lt hj]
      congr 1
      rw [getElem!_def]
      simp only [List.getElem?_toArray, hv])
    rw [add_none_] at this
    rw [Nat.zero_add] at this ⊢
    exact this
  · cases hr
theorem wrs_found {most : Nat} {rows : List (List Dat)} (h : most < rows.length) : ∀ (ds : List Dat) (x : Ws), .list most rows ∈ ds → (wrs ds x).t = true
  | [], x, hm => by cases hm
  | d :: ds, x, hm => by
    rw [wrs]
    rcases List.mem_cons.1 hm with rfl | hm
    · exact wrs_long ds _ (by rw [wrD, if_pos h]; rfl)
    · exact wrs_found h ds _ hm
theorem err_long {x : Ws} (h : x.t = true) : x.err = 6 := by unfold Ws.err; rw [if_pos h]
theorem err_right {ds : List Dat} (h : RightDs ds) : (wrs ds ⟨.ok [], false⟩).err = 0 := by rw [wrs_right ds [] h]; rfl
theorem out_right {ds : List Dat} (h : RightDs ds) : (wrs ds ⟨.ok [], false⟩).out = encDs ds := by rw [wrs_right ds [] h]; rfl
/-- 'make' as one step of a region that draws its order. -/
theorem step_make_full {P : Program} {ops : Array Oper} {o : Oper} {a : Act} {w : World} {K : Act → World → Prop} {Q : Exit → Act → World → Prop} {E : Prop} (hgd : o.guard = none) (l c : Operand) (t : TypeId) (hop : o.op = Op.makeSlice t l c)
    (base : Nat) (e : TypeId) (i : TypeInfo) (z : Value) (size : Nat) (h1 : P.underlying t = some (.slice e)) (h2 : P.info? e = some i) (h3 : i.zero = some z) (h4 : i.size = size)
    (kl kc : IntKind) (L C : Int) (n : Nat) (hl : a.eval l = .int kl L) (hc : a.eval c = .int kc C) (hL : L = (n : Int)) (hC : C = (n : Int)) (b2 : i.bytes * n ≤ 281474976710656) (b3 : n ≤ maxLen) (b4 : base ≤ w.heap.size)
    (hK : ∀ w', w'.ownsRow base e size (.slice (some ⟨w.heap.size, 0, none⟩) n n) n (madeCells z.cells (n * size)).toList → w.grownBy w' none → K (a.put o.dst (.slice (some ⟨w.heap.size, 0, none⟩) n n)) w') :
    if Region.wanted o (yielded ops a.tmps) = true then Oper.wp P o a w K Q else E := by
  have hw : Region.wanted o (yielded ops a.tmps) = true := by simp [Region.wanted, hgd]
  rw [if_pos hw]
  obtain ⟨w', hrun, r1, r2⟩ := run_make_full (P := P) w base t e i z size h1 h2 h3 h4 kl kc n b2 b3 b4
  subst hL
  subst hC
  unfold Oper.wp
  simp [execOp, hop, hl, hc, hrun, Result.andThen]
  exact hK w' r1 r2
theorem step_store_new {P : Program} {ops : Array Oper} {op : Oper} {a : Act} {w : World} {K : Act → World → Prop} {Q : Exit → Act → World → Prop} {E : Prop} (hgd : op.guard = none) (ty : TypeId) (x y : Operand) (ho : op.op = .store ty x y)
    (c cells : Array Value) (hx : a.eval x = .pointer (some ⟨w.heap.size, 0, none⟩)) (hy : a.eval y = .agg cells) (hi : (P.info? ty).map (·.size) = some cells.size) (hs : c.size = cells.size) (h1 : cells.all (·.oneCell') = true)
    (h : K (a.put op.dst undef) (w.alloc (.cells cells ty))) : if Region.wanted op (yielded ops a.tmps) = true then Oper.wp P op a (w.alloc (.cells c ty)) K Q else E := by
  have hw : Region.wanted op (yielded ops a.tmps) = true := by simp [Region.wanted, hgd]
  rw [if_pos hw]
  unfold Oper.wp execOp
  simp only [ho, hx, hy, Sem.run_bind, run_storeAt_new w ty c cells hi hs h1, Result.andThen_ok]
  exact h
end Wi
end Go.Proofs.Ytpghaffjfinpeab
