/-
  4 texts in one: ByteRows, OwnRows, RowLit, FrameScanOf.
-/
import Derived.Test.YtekleamkpfeifaaDoorKB01
import Derived.Deep.QuietTactic
import Derived.BigQuiet

/-
  CONTRACT of hansekeep.Rows.
-/
namespace Go.Proofs.YtekleamkpfeifaaDoor
open Go.RowKit
theorem rows_step {ps qs : List (List Int)} {i : Nat} {p q : List Int} (hp : ps[i]? = some p) (hq : qs[i]? = some q) : decide (ps.drop i = qs.drop i) = (decide (p = q) && decide (ps.drop (i + 1) = qs.drop (i + 1))) := by
  obtain ⟨h1, rfl⟩ := List.getElem?_eq_some_iff.1 hp
  obtain ⟨h2, rfl⟩ := List.getElem?_eq_some_iff.1 hq
  rw [List.drop_eq_getElem_cons h1, List.drop_eq_getElem_cons h2, Bool.eq_iff_iff]
  simp only [decide_eq_true_eq, Bool.and_eq_true, List.cons.injEq]
set_option maxRecDepth 100000 in
set_option maxHeartbeats 1000000 in
theorem rows_any (A B : Option Addr) (n m c d : Nat) (vs us : List Value) (ps qs : List (List Int)) (w : World) (hA : BRows w A vs ps) (hB : BRows w B us qs) (hn : ps.length = n) (hm : qs.length = m) (hp : ∀ p ∈ ps, ByteList p) (hq : ∀ p ∈ qs, ByteList p) (hl : n ≤ 9223372036854775807) (hl2 : m ≤ 9223372036854775807) :
    Calls Tryd.prog 36 #[.slice A n c, .slice B m d] w fun e w' => e = .returned (.bool (decide (ps = qs))) ∧ ∃ k, w' = w.drewN k := by
  subst hn
  subst hm
  by_cases hne : ps.length = qs.length
  · have HA := Lib.hid hA
    have HB := Lib.hid hB
    have HP := Lib.hid hp
    have HQ := Lib.hid hq
    have HNE := Lib.hid hne
    clear hA hB hp hq
    rw [hne]
    clear hne
    go_enter Tryd.func36, Tryd.ntmps36
    go_wp2
    go_loopw [5] (fun i wr => ∃ k : Nat, i = .int .i64 k ∧ k ≤ qs.length ∧ Hid (decide (ps = qs) = decide (ps.drop k = qs.drop k)) ∧ ∃ n, wr = w.drewN n) (fun i _ => qs.length - (intOf i).toNat)
    case atStart => exact ⟨0, rfl, by omega, rfl, 0, rfl⟩
    case round =>
      obtain ⟨k, rfl, hk, H, nd, rfl⟩ := hrel
      by_cases hlt : k < qs.length
      · obtain ⟨b1, o1, B1, c1, p, rfl, hp1, hc1, hr1, -⟩ := HA.out.at_ (i := k) (by rw [HNE.out]; exact hlt)
        obtain ⟨b2, o2, B2, c2, q, rfl, hq1, hc2, hr2, -⟩ := HB.out.at_ (i := k) hlt
        have HN := Lib.hid (H.out.trans (rows_step hp1 hq1))
        have HBP := Lib.hid (HP.out p (List.mem_of_getElem? hp1))
        have HBQ := Lib.hid (HQ.out q (List.mem_of_getElem? hq1))
        have HR1 := Lib.hid hr1
        have HR2 := Lib.hid hr2
        clear hp1 hq1 hr1 hr2 H
        by_cases heq : p = q
        · have hd : decide (p = q) = true := by simpa using heq
          have HN2 := Lib.hid (HN.out.trans (by rw [hd, Bool.true_and]))
          clear HN hd
          have HEQ := Lib.hid heq
          clear heq
          go_wp2
          go_quiet ((go_at_call 31; exact calls_still (bytes_is _ _ _ _ _ _ p q _ (HR1.out.drewN _) (HR2.out.drewN _) rfl rfl HBP.out HBQ.out true (by simpa using HEQ.out))))
          go_wp2
          go_roundw
          case rel => exact ⟨k + 1, by go_num, by omega, HN2, _, rfl⟩
          case measure => simp [intOf]; omega
        · have hd : decide (p = q) = false := by simpa using heq
          have HN2 := Lib.hid (HN.out.trans (by rw [hd, Bool.false_and]))
          clear HN hd
          have HEQ := Lib.hid heq
          clear heq
          go_wp2
          go_quiet ((go_at_call 31; exact calls_still (bytes_is _ _ _ _ _ _ p q _ (HR1.out.drewN _) (HR2.out.drewN _) rfl rfl HBP.out HBQ.out false (by simpa using HEQ.out))))
          go_wp2
          go_ret
          exact ⟨by rw [HN2.out]; rfl, _, by rw [World.drewN_drewN]⟩
      · have HE := Lib.hid (H.out.trans (by rw [List.drop_of_length_le (by rw [HNE.out]; omega), List.drop_of_length_le (by omega)]; simp) : decide (ps = qs) = true)
        go_wp2
        go_ret
        exact ⟨by rw [HE.out]; rfl, _, rfl⟩
  · have HE := Lib.hid (show decide (ps = qs) = false by simpa using fun h => hne (by rw [h]))
    have hne2 : ((ps.length : Int) == (qs.length : Int)) = false := by rw [beq_eq_false_iff_ne]; omega
    have hne3 : ((ps.length : Int) != (qs.length : Int)) = true := by simpa using fun h => hne (by omega)
    clear hA hB hp hq hne
    go_enter Tryd.func36, Tryd.ntmps36
    go_wp2
    go_ret
    exact ⟨by rw [HE.out]; rfl, 0, rfl⟩
end Go.Proofs.YtekleamkpfeifaaDoor

/-
  WORDS for slices of slices of bytes that the call itself made.
-/
namespace Go.Proofs.YtekleamkpfeifaaDoor
open Go.RowKit

/-- The blocks of the rows. -/
def partsOf (vs : List Value) : List Nat := (vs.map rowOf).flatten
/-- The value v is a row of the call's own, of rows of the call's own that hold the bytes ps; fp are all its blocks. -/
def OwnRows (w : World) (v : Value) (ps : List (List Int)) (fp : List Nat) : Prop :=
  ∃ vs, fp = rowOf v ++ partsOf vs ∧ w.ownsRow 0 27 1 v ps.length vs ∧ vs.length = ps.length ∧
    (∀ (i : Nat) (u : Value) (p : List Int), vs[i]? = some u → ps[i]? = some p → w.ownsRow 0 5 1 u p.length (p.map (Value.int .u8))) ∧ (∀ k ∈ rowOf v, k ∉ partsOf vs) ∧
    ∀ (i j : Nat) (u x : Value), i ≠ j → vs[i]? = some u → vs[j]? = some x → ∀ k ∈ rowOf u, k ∉ rowOf x
theorem mem_partsOf {vs : List Value} {k : Nat} : k ∈ partsOf vs ↔ ∃ (i : Nat) (u : Value), vs[i]? = some u ∧ k ∈ rowOf u := by
  unfold partsOf
  rw [List.mem_flatten]
  constructor
  · rintro ⟨l, hl, hk⟩
    obtain ⟨u, hu, rfl⟩ := List.mem_map.1 hl
    obtain ⟨i, hi⟩ := List.mem_iff_getElem?.1 hu
    exact ⟨i, u, hi, hk⟩
  · rintro ⟨i, u, hi, hk⟩
    exact ⟨rowOf u, List.mem_map.2 ⟨u, List.mem_of_getElem? hi, rfl⟩, hk⟩
theorem OwnRows.lt {w : World} {v : Value} {ps : List (List Int)} {fp : List Nat} (h : OwnRows w v ps fp) : ∀ k ∈ fp, k < w.heap.size := by
  obtain ⟨vs, rfl, hr, hl, he, _, _⟩ := h
  intro k hk
  rcases List.mem_append.1 hk with hk | hk
  · exact own_lt hr k hk
  · obtain ⟨i, u, hi, hk⟩ := mem_partsOf.1 hk
    obtain ⟨hi2, _⟩ := List.getElem?_eq_some_iff.1 hi
    exact own_lt (he i u ps[i] hi (List.getElem?_eq_getElem (by omega))) k hk
theorem OwnRows.stays {w w' : World} {v : Value} {ps : List (List Int)} {fp : List Nat} (h : OwnRows w v ps fp) (hS : ∀ k ∈ fp, w'.heap[k]? = w.heap[k]?) : OwnRows w' v ps fp := by
  obtain ⟨vs, rfl, hr, hl, he, ha, hd⟩ := h
  exact ⟨vs, rfl, own_stays hr (fun k hk => hS k (by simp [hk])), hl, fun i u p hu hp => own_stays (he i u p hu hp) (fun k hk => hS k (List.mem_append.2 (.inr (mem_partsOf.2 ⟨i, u, hu, hk⟩)))), ha, hd⟩
theorem OwnRows.moved {w w' : World} {v : Value} {ps : List (List Int)} {fp S : List Nat} (h : OwnRows w v ps fp) (hM : Moved w w' S) (hS : ∀ k ∈ fp, k ∉ S) : OwnRows w' v ps fp :=
  h.stays fun k hk => hM.block k (h.lt k hk) (hS k hk)
theorem OwnRows.nil (w : World) : OwnRows w (.slice none 0 0) [] [] := ⟨[], by simp [rowOf, Value.ownBlock, partsOf], World.ownsRow_nil _ _ _ _, rfl, fun i u p hu => by simp at hu, by simp [rowOf, Value.ownBlock], fun i j u x _ hu => by simp at hu⟩
/-- One row more. -/
theorem OwnRows.push {w w1 : World} {v v' u : Value} {ps : List (List Int)} {p : List Int} {fp : List Nat} {vs : List Value} (hfp : fp = rowOf v ++ partsOf vs) (hl : vs.length = ps.length)
    (he : ∀ (i : Nat) (u : Value) (p : List Int), vs[i]? = some u → ps[i]? = some p → w.ownsRow 0 5 1 u p.length (p.map (Value.int .u8))) (ha : ∀ k ∈ rowOf v, k ∉ partsOf vs)
    (hu : w.ownsRow 0 5 1 u p.length (p.map (Value.int .u8))) (hua : ∀ k ∈ rowOf u, k ∉ rowOf v) (hd : ∀ (i j : Nat) (u x : Value), i ≠ j → vs[i]? = some u → vs[j]? = some x → ∀ k ∈ rowOf u, k ∉ rowOf x) (hup : ∀ k ∈ rowOf u, k ∉ partsOf vs) (hown : w1.ownsRow 0 27 1 v' (ps.length + 1) (vs ++ [u])) (hS : Step w w1 (rowOf v) (rowOf v')) :
    ∃ fp', OwnRows w1 v' (ps ++ [p]) fp' ∧ Step w w1 (fp ++ rowOf u) fp' := by
  have hparts : partsOf (vs ++ [u]) = partsOf vs ++ rowOf u := by simp [partsOf]
  have hplt : ∀ k ∈ partsOf vs, k < w.heap.size := by
    intro k hk
    obtain ⟨i, x, hi, hk⟩ := mem_partsOf.1 hk
    obtain ⟨hi2, _⟩ := List.getElem?_eq_some_iff.1 hi
    exact own_lt (he i x ps[i] hi (List.getElem?_eq_getElem (by omega))) k hk
  refine ⟨rowOf v' ++ partsOf (vs ++ [u]), ⟨vs ++ [u], rfl, by simpa using hown, by simp [hl], ?_, ?_, ?_⟩, ?_, ?_⟩
  · intro i x q hx hq
    by_cases hi : i < vs.length
    · rw [List.getElem?_append_left hi] at hx
      rw [List.getElem?_append_left (by omega)] at hq
      exact own_moved' (he i x q hx hq) hS.1 (fun k hk hm => ha k hm (mem_partsOf.2 ⟨i, x, hx, hk⟩))
    · by_cases hi2 : i = vs.length
      · subst hi2
        rw [List.getElem?_append_right (by omega)] at hx
        rw [hl, List.getElem?_append_right (by omega)] at hq
        simp at hx hq
        subst hx hq
        exact own_moved' hu hS.1 hua
      · rw [List.getElem?_eq_none (by simp; omega)] at hx; cases hx
  · intro k hk hm
    rw [hparts] at hm
    rcases hS.2 k hk with h | h
    · rcases List.mem_append.1 hm with hm | hm
      · exact ha k h hm
      · exact hua k hm h
    · rcases List.mem_append.1 hm with hm | hm
      · have := hplt k hm; omega
      · have := own_lt hu k hm; omega
  · intro i j x y hij hx hy k hk hm
    rcases Nat.lt_trichotomy i vs.length with hi | hi | hi
    · rw [List.getElem?_append_left hi] at hx
      rcases Nat.lt_trichotomy j vs.length with hj | hj | hj
      · rw [List.getElem?_append_left hj] at hy
        exact hd i j x y hij hx hy k hk hm
      · subst hj
        rw [List.getElem?_append_right (by omega)] at hy
        simp at hy
        subst hy
        exact hup k hm (mem_partsOf.2 ⟨i, x, hx, hk⟩)
      · rw [List.getElem?_eq_none (by simp; omega)] at hy; cases hy
    · subst hi
      rw [List.getElem?_append_right (by omega)] at hx
      simp at hx
      subst hx
      rcases Nat.lt_trichotomy j vs.length with hj | hj | hj
      · rw [List.getElem?_append_left hj] at hy
        exact hup k hk (mem_partsOf.2 ⟨j, y, hy, hm⟩)
      · omega
      · rw [List.getElem?_eq_none (by simp; omega)] at hy; cases hy
    · rw [List.getElem?_eq_none (by simp; omega)] at hx; cases hx
  · subst hfp
    exact hS.1.mono (fun k hk => by simp [hk])
  · intro k hk
    subst hfp
    rw [hparts] at hk
    rcases List.mem_append.1 hk with hk | hk
    · exact (hS.2 k hk).imp (fun h => by simp [h]) id
    · rcases List.mem_append.1 hk with hk | hk
      · exact .inl (by simp [hk])
      · exact .inl (by simp [hk])
/-- What the call owns reads. -/
theorem OwnRows.reads {w : World} {v : Value} {ps : List (List Int)} {fp : List Nat} (h : OwnRows w v ps fp) :
    ∃ A c vs, v = .slice A ps.length c ∧ BRows w A vs ps ∧ (A = none → c = 0) ∧ ps.length ≤ c ∧ c ≤ 9223372036854775807 ∧ ∀ b ∈ rowsOf A vs ps, b ∈ fp := by
  obtain ⟨vs, rfl, hr, hl, he, ha, _⟩ := h
  obtain ⟨A, c, rfl, hc, h1, h2⟩ := own_shape hr
  refine ⟨A, c, vs, rfl, ⟨VRow.of_own hr, hl, fun i u p hu hp => Bites.of_own (he i u p hu hp)⟩, hc, h1, h2, ?_⟩
  intro b hb
  rcases List.mem_append.1 hb with hb | hb
  · refine List.mem_append.2 (.inl ?_)
    rcases A with _ | a
    · simp at hb
    · rcases vs with _ | ⟨x, r⟩
      · simp at hb
      · simp at hb; subst hb; simp [mem_rowOf, Value.ownBlock]
  · refine List.mem_append.2 (.inr ?_)
    obtain ⟨l, hl2, hb⟩ := List.mem_flatten.1 hb
    obtain ⟨i, hi⟩ := List.mem_iff_getElem?.1 hl2
    rw [List.getElem?_zipWith] at hi
    rcases hv : vs[i]? with _ | u
    · rw [hv] at hi; simp at hi
    · rcases hp : ps[i]? with _ | p
      · rw [hv, hp] at hi; simp at hi
      · rw [hv, hp] at hi
        simp at hi
        subst hi
        refine mem_partsOf.2 ⟨i, u, hv, ?_⟩
        obtain ⟨B, d, rfl, -⟩ := own_shape (he i u p hv hp)
        obtain ⟨a, rfl, _, rfl⟩ := mem_rowX.1 hb
        simp [mem_rowOf, Value.ownBlock]
end Go.Proofs.YtekleamkpfeifaaDoor

/-
  Rows of bytes that are written down, cut, taken.
-/
namespace Go.Proofs.YtekleamkpfeifaaDoor
namespace Fr
open Go.RowKit
theorem bites_lit (w : World) (xs : List Int) (cs : Array Value) (e : TypeId) (fr : Nat × Nat) (hcs : cs.toList = xs.map (Value.int .u8)) (hm : xs.length ≤ 9223372036854775807) : Bites (w.alloc (.cells cs e fr)) (.slice (some ⟨w.heap.size, 0, none⟩) xs.length xs.length) xs := by
  refine ⟨_, _, rfl, fun i x hx => ⟨w.heap.size, 0, rfl, ?_⟩, (fun h => by cases h), Nat.le_refl _, hm⟩
  rw [cell_of_row _ _ _ _ _ _ (heap_alloc_new w _), ← Array.getElem?_toList, hcs, List.getElem?_map, Nat.zero_add, hx]
  rfl
theorem bites_alloc {w : World} {v : Value} {p : List Int} (h : Bites w v p) (o : Obj) : Bites (w.alloc o) v p := h.stays (fun b hb => Below.heap_alloc w o b (h.lt b hb))
theorem brows_nil (w : World) (A : Option Addr) : BRows w A [] [] := ⟨VRow.none_ _ _, rfl, fun i v p hv => by simp at hv⟩
theorem brows_tail {w : World} {b off : Nat} {v : Value} {vs : List Value} {p : List Int} {ps : List (List Int)} (h : BRows w (some ⟨b, off, none⟩) (v :: vs) (p :: ps)) : BRows w (some ⟨b, off + 1, none⟩) vs ps :=
  ⟨by simpa using h.1.drop 1, by simpa using h.2.1, fun i u q hu hq => h.2.2 (i + 1) u q (by simpa using hu) (by simpa using hq)⟩
theorem partsOf_take {vs : List Value} {k : Nat} {u : Value} (h : vs[k]? = some u) : partsOf (vs.take (k + 1)) = partsOf (vs.take k) ++ rowOf u := by
  have h2 : vs.take (k + 1) = vs.take k ++ [u] := by rw [List.take_add_one, h]; rfl
  rw [h2]; simp [partsOf]
theorem partsOf_part {vs : List Value} {k b : Nat} (h : b ∈ partsOf (vs.take k)) : b ∈ partsOf vs := by
  obtain ⟨i, u, hi, hb⟩ := mem_partsOf.1 h
  rw [List.getElem?_take] at hi
  split at hi
  · exact mem_partsOf.2 ⟨i, u, hi, hb⟩
  · cases hi
/-- A row of one, made of bytes of the call's own. -/
theorem brows_one {w : World} {u : Value} {p : List Int} (e : TypeId) (hu : w.ownsRow 0 5 1 u p.length (p.map (Value.int .u8))) : BRows (w.alloc (.cells #[u] e)) (some ⟨w.heap.size, 0, none⟩) [u] [p] :=
  ⟨vrow_lit w u e, rfl, fun i v q hv hq => by
    rcases i with _ | i
    · simp at hv hq; subst hv hq; exact bites_alloc (Bites.of_own hu) _
    · simp at hv⟩
theorem brows_take {w : World} {A : Option Addr} {vs : List Value} {ps : List (List Int)} (h : BRows w A vs ps) (n : Nat) : BRows w A (vs.take n) (ps.take n) :=
  ⟨h.1.take n, by rw [List.length_take, List.length_take, h.2.1], fun i v p hv hp => by
    rw [List.getElem?_take] at hv hp
    split at hv
    · rename_i hi
      rw [if_pos hi] at hp
      exact h.2.2 i v p hv hp
    · cases hv⟩
/-- New rows, written down one by one. -/
theorem brows_lit {w : World} (e : TypeId) (us : List Value) (ps : List (List Int)) (cs : Array Value) (hcs : cs.toList = us) (hl : us.length = ps.length) (h : ∀ (i : Nat) (v : Value) (p : List Int), us[i]? = some v → ps[i]? = some p → Bites w v p) :
    BRows (w.alloc (.cells cs e)) (some ⟨w.heap.size, 0, none⟩) us ps :=
  ⟨fun i y hy => ⟨w.heap.size, 0, rfl, by rw [cell_of_row _ _ _ _ _ _ (heap_alloc_new w _), ← Array.getElem?_toList, hcs, Nat.zero_add]; exact hy⟩, hl, fun i v p hv hp => bites_alloc (h i v p hv hp) _⟩
theorem brows_two {w : World} (e : TypeId) {u v : Value} {p q : List Int} (hu : Bites w u p) (hv : Bites w v q) : BRows (w.alloc (.cells #[u, v] e)) (some ⟨w.heap.size, 0, none⟩) [u, v] [p, q] :=
  brows_lit e [u, v] [p, q] #[u, v] rfl rfl fun i x r hx hr => by
    rcases i with _ | _ | i
    · simp at hx hr; subst hx hr; exact hu
    · simp at hx hr; subst hx hr; exact hv
    · simp at hx
theorem brows_three {w : World} (e : TypeId) {u v t : Value} {p q s : List Int} (hu : Bites w u p) (hv : Bites w v q) (ht : Bites w t s) : BRows (w.alloc (.cells #[u, v, t] e)) (some ⟨w.heap.size, 0, none⟩) [u, v, t] [p, q, s] :=
  brows_lit e [u, v, t] [p, q, s] #[u, v, t] rfl rfl fun i x r hx hr => by
    rcases i with _ | _ | _ | i
    · simp at hx hr; subst hx hr; exact hu
    · simp at hx hr; subst hx hr; exact hv
    · simp at hx hr; subst hx hr; exact ht
    · simp at hx
end Fr
end Go.Proofs.YtekleamkpfeifaaDoor

/-
  PLAIN: what is found in bytes, frame by frame.
-/
namespace Go.Proofs.YtekleamkpfeifaaDoor
namespace Fr
open Go.RowKit
/-- The payloads of the frames one behind the other, and where the last of them ends. -/
def scanOf (xs : List Int) : List (List Int) × Nat :=
  match h : firstOf xs with
  | none => ([], 0)
  | some p => (p :: (scanOf (xs.drop (8 + p.length))).1, 8 + p.length + (scanOf (xs.drop (8 + p.length))).2)
termination_by xs.length
decreasing_by all_goals (have := first_len h; simp; omega)
theorem scan_none {xs : List Int} (h : firstOf xs = none) : scanOf xs = ([], 0) := by
  rw [scanOf]; split
  · rfl
  · rename_i p hp; rw [h] at hp; cases hp
theorem scan_some {xs p : List Int} (h : firstOf xs = some p) : scanOf xs = (p :: (scanOf (xs.drop (8 + p.length))).1, 8 + p.length + (scanOf (xs.drop (8 + p.length))).2) := by
  rw [scanOf]; split
  · rename_i hp; rw [h] at hp; cases hp
  · rename_i q hp; rw [h] at hp; cases hp; rfl
def ScanIs (xs : List Int) (ps : List (List Int)) (n : Nat) : Prop := scanOf xs = (ps ++ (scanOf (xs.drop n)).1, n + (scanOf (xs.drop n)).2)
theorem scan_start (xs : List Int) : ScanIs xs [] 0 := by simp [ScanIs]
theorem scan_end {xs : List Int} {ps : List (List Int)} {n : Nat} (h : ScanIs xs ps n) (hf : firstOf (xs.drop n) = none) : scanOf xs = (ps, n) := by
  rw [h, scan_none hf]; simp
theorem scan_go {xs p : List Int} {ps : List (List Int)} {n : Nat} (h : ScanIs xs ps n) (hf : firstOf (xs.drop n) = some p) : ScanIs xs (ps ++ [p]) (n + (8 + p.length)) := by
  unfold ScanIs at *
  rw [h, scan_some hf, List.drop_drop]
  simp [Nat.add_assoc]
theorem info_bytes : (Tryd.prog.info? 27).map (fun i => (i.zero, i.size, i.bytes)) = some (some (.slice none 0 0), 1, 24) := by kernel_rfl
/-- New rows of bytes, and a place. -/
def ToldS (ps : List (List Int)) (n : Int) (w : World) (r : Ending) (w' : World) : Prop :=
  ∃ v fp, r = .returned (.tuple #[v, .int .i64 n]) ∧ OwnRows w' v ps fp ∧ Step w w' [] fp
theorem step_join {w w1 w2 : World} {S T U V : List Nat} (h1 : Step w w1 S T) (h2 : Step w1 w2 (T ++ U) V) (hU : ∀ k ∈ U, w.heap.size ≤ k) : Step w w2 S V :=
  ⟨h1.1.trans h2.1 (fun k hk => (List.mem_append.1 hk).elim (h1.2 k) (fun h => .inr (hU k h))), fun k hk => (h2.2 k hk).elim (fun h => (List.mem_append.1 h).elim (h1.2 k) (fun h => .inr (hU k h))) (fun h => .inr (Nat.le_trans h1.1.size h))⟩
theorem scan_bytes : ∀ (n : Nat) (xs : List Int), xs.length ≤ n → ByteList xs → ∀ p ∈ (scanOf xs).1, ByteList p := by
  intro n
  induction n with
  | zero =>
    intro xs hl _ p hp
    have : firstOf xs = none := by rw [firstOf, if_pos (by omega)]
    rw [scan_none this] at hp
    cases hp
  | succ n ih =>
    intro xs hl hb p hp
    cases hf : firstOf xs with
    | none => rw [scan_none hf] at hp; cases hp
    | some q =>
      rw [scan_some hf] at hp
      have hq := first_len hf
      rcases List.mem_cons.1 hp with rfl | hp
      · exact first_bytes hb hf
      · exact ih _ (by simp; omega) (hb.drop _) p hp
theorem scan_small : ∀ (n : Nat) (xs : List Int), xs.length ≤ n → (scanOf xs).1.length ≤ xs.length ∧ (scanOf xs).2 ≤ xs.length := by
  intro n
  induction n with
  | zero =>
    intro xs hl
    have : firstOf xs = none := by rw [firstOf, if_pos (by omega)]
    rw [scan_none this]
    exact ⟨by simp, by omega⟩
  | succ n ih =>
    intro xs hl
    cases hf : firstOf xs with
    | none => rw [scan_none hf]; exact ⟨by simp, by omega⟩
    | some q =>
      rw [scan_some hf]
      have hq := first_len hf
      have h1 := ih (xs.drop (8 + q.length)) (by simp; omega)
      simp only [List.length_drop] at h1
      exact ⟨by simp; omega, by simp; omega⟩
theorem scan_parts : ∀ (n : Nat) (xs : List Int), xs.length ≤ n → ∀ p ∈ (scanOf xs).1, p.length ≤ xs.length := by
  intro n
  induction n with
  | zero =>
    intro xs hl p hp
    have : firstOf xs = none := by rw [firstOf, if_pos (by omega)]
    rw [scan_none this] at hp
    cases hp
  | succ n ih =>
    intro xs hl p hp
    cases hf : firstOf xs with
    | none => rw [scan_none hf] at hp; cases hp
    | some q =>
      rw [scan_some hf] at hp
      have hq := first_len hf
      rcases List.mem_cons.1 hp with rfl | hp
      · omega
      · have h1 := ih (xs.drop (8 + q.length)) (by simp; omega) p hp
        simp only [List.length_drop] at h1
        omega
theorem scan_frames {ps : List (List Int)} (hp : ∀ p ∈ ps, p.length ≤ 131072) (more : List Int) : ∀ k, k ≤ ps.length → ScanIs (framesOf ps ++ more) (ps.take k) (framesOf (ps.take k)).length := by
  intro k
  induction k with
  | zero => intro _; exact scan_start _
  | succ k ih =>
    intro hk
    obtain ⟨p, hq⟩ : ∃ p, ps[k]? = some p := ⟨_, List.getElem?_eq_getElem (by omega)⟩
    have h1 : (framesOf ps ++ more).drop (framesOf (ps.take k)).length = frameOf p ++ (framesOf (ps.drop (k + 1)) ++ more) := by
      rw [frames_split ps k, List.append_assoc, List.drop_left, frames_at hq, List.append_assoc]
    have h2 := scan_go (ih (by omega)) (h1 ▸ first_frame (hp p (List.mem_of_getElem? hq)))
    rw [take_snoc hq, frames_snoc, List.length_append, frameOf_len]
    exact h2
/-- Frames, and whatever stands behind them. -/
theorem scan_more {ps : List (List Int)} (hp : ∀ p ∈ ps, p.length ≤ 131072) (more : List Int) : scanOf (framesOf ps ++ more) = (ps ++ (scanOf more).1, (framesOf ps).length + (scanOf more).2) := by
  have h := scan_frames hp more ps.length (Nat.le_refl _)
  unfold ScanIs at h
  rw [List.take_length, List.drop_left] at h
  exact h
theorem scan_nil : scanOf [] = ([], 0) := scan_none (by rw [firstOf, if_pos (by simp)])
theorem scan_just {ps : List (List Int)} (hp : ∀ p ∈ ps, p.length ≤ 131072) : scanOf (framesOf ps) = (ps, (framesOf ps).length) := by
  have h := scan_more hp []
  rw [List.append_nil, scan_nil] at h
  simpa using h
/-- Frames that are cut off somewhere: those are found that are whole. -/
theorem scan_cut {ps : List (List Int)} (hp : ∀ p ∈ ps, p.length ≤ 131072) {k n : Nat} (h1 : (framesOf (ps.take k)).length ≤ n) (h2 : ∀ p, ps[k]? = some p → n < (framesOf (ps.take (k + 1))).length) :
    scanOf ((framesOf ps).take n) = (ps.take k, (framesOf (ps.take k)).length) := by
  have h3 : (framesOf ps).take n = framesOf (ps.take k) ++ (framesOf (ps.drop k)).take (n - (framesOf (ps.take k)).length) := by
    conv => lhs; rw [frames_split ps k, show n = (framesOf (ps.take k)).length + (n - (framesOf (ps.take k)).length) by omega, List.take_length_add_append]
  have h4 : scanOf ((framesOf (ps.drop k)).take (n - (framesOf (ps.take k)).length)) = ([], 0) := by
    cases hq : ps[k]? with
    | none =>
      rw [List.drop_of_length_le (List.getElem?_eq_none_iff.1 hq), show framesOf [] = [] from rfl, List.take_nil]
      exact scan_nil
    | some p =>
      have h5 := h2 p hq
      rw [take_snoc hq, frames_snoc, List.length_append, frameOf_len] at h5
      rw [frames_at hq, List.take_append_of_le_length (by rw [frameOf_len]; omega)]
      exact scan_none (first_cut (by omega))
  rw [h3, scan_more (fun p h => hp p (List.mem_of_mem_take h)), h4, List.append_nil, Nat.add_zero]
end Fr
end Go.Proofs.YtekleamkpfeifaaDoor
