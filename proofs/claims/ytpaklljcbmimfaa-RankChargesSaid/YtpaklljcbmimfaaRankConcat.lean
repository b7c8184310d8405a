/-
  CONTRACTS of slices.Grow (of nil) and slices.Concat (of three) over uses.
-/
import Derived.Test.YtpaklljcbmimfaaRankLaws
import Derived.Test.YtpaklljcbmimfaaRowWide
import Derived.Lib.SliceRun
import Derived.Lib.AppendZeros
import Derived.Deep.LoopGhost
namespace Go.Proofs.Ytpaklljcbmimfaa
namespace Rk
open Go.RowKit
def uCells (x : U) : List Value := [.int .i64 x.u, .int .i64 x.s, .int .i64 x.t]
def usCells (l : List U) : List Value := l.flatMap uCells
theorem usCells_append (a b : List U) : usCells (a ++ b) = usCells a ++ usCells b := List.flatMap_append
theorem usCells_len (l : List U) : (usCells l).length = l.length * 3 := by
  induction l with
  | nil => rfl
  | cons a r ih => rw [usCells, List.flatMap_cons, List.length_append, show (r.flatMap _) = usCells r from rfl, ih]; simp [uCells]; omega
theorem usCells_at : ∀ {l : List U} {k : Nat} {r : U}, l[k]? = some r → ∀ j u, (uCells r)[j]? = some u → (usCells l)[k * 3 + j]? = some u
  | [], k, r, h => by simp at h
  | a :: l, 0, r, h => fun j u hu => by
    simp at h; subst h
    rw [usCells, List.flatMap_cons, Nat.zero_mul, Nat.zero_add, List.getElem?_append_left (List.getElem?_eq_some_iff.1 hu).1]
    exact hu
  | a :: l, k + 1, r, h => fun j u hu => by
    have := usCells_at (l := l) (k := k) (r := r) (by simpa using h) j u hu
    rw [usCells, List.flatMap_cons, List.getElem?_append_right (by simp [uCells]; omega), show (uCells a).length = 3 from rfl, show (k + 1) * 3 + j - 3 = k * 3 + j by omega]
    exact this
theorem us_one (l : List U) : ∀ u ∈ usCells l, u.oneCell' = true := by
  intro u hu
  unfold usCells at hu
  rw [List.mem_flatMap] at hu
  obtain ⟨r, _, hr⟩ := hu
  simp only [uCells, List.mem_cons, List.not_mem_nil, or_false] at hr
  rcases hr with rfl | rfl | rfl <;> rfl
/-- A row of uses of the call's own. -/
def Own (w : World) (v : Value) (l : List U) : Prop := w.ownsRow 0 27 3 v l.length (usCells l)
theorem Own.reads {w : World} {v : Value} {l : List U} (h : Own w v l) : Reads w v l := by
  rcases h.2 with ⟨rfl, h0⟩ | ⟨g, cap, cur, rfl, _, _, hc, hm, _⟩
  · obtain rfl : l = [] := List.eq_nil_of_length_eq_zero h0
    exact Reads.nil w
  · refine ⟨_, cap, rfl, fun k x hx => ?_, hc, by unfold maxLen at hm; omega, fun h => by cases h⟩
    have H : ∀ j u, (uCells x)[j]? = some u → w.cell? ⟨g, 0 + k * 3 + j, none⟩ = some u := fun j u hu => by
      have h1 := h.cells (g := g) rfl (k * 3 + j) u (usCells_at hx j u hu)
      rw [add_none_, ← Nat.add_assoc] at h1
      exact h1
    exact ⟨g, 0, rfl, H 0 _ rfl, H 1 _ rfl, H 2 _ rfl⟩
theorem own_shape3 {w : World} {v : Value} {l : List U} {n : Nat} (h : Own w v l) (hn : l.length = n) : ∃ A c, v = .slice A n c ∧ (A = none → c = 0) ∧ n ≤ c ∧ c ≤ 9223372036854775807 := by
  subst hn
  rcases h.2 with ⟨rfl, h0⟩ | ⟨g, cap, cur, rfl, _, _, hc, hm, _⟩
  · exact ⟨none, 0, by rw [h0], fun _ => rfl, by omega, by omega⟩
  · exact ⟨_, _, rfl, (fun hA => by cases hA), hc, by unfold maxLen at hm; omega⟩
theorem Row.news {w : World} {ad : Addr} {l : List U} (h : Row w (some ad) l) : ∀ (j : Nat) u, (usCells l)[j]? = some u → w.cell? (ad.add j) = some u := by
  intro j u hu
  have hj : j < l.length * 3 := by rw [← usCells_len]; exact (List.getElem?_eq_some_iff.1 hu).1
  obtain ⟨r, hr⟩ : ∃ r, l[j / 3]? = some r := ⟨l[j / 3]'(by omega), List.getElem?_eq_getElem _⟩
  obtain ⟨g, off, e, h0, h1, h2⟩ := h (j / 3) r hr
  injection e with e
  subst e
  rw [add_none_]
  have hm : j % 3 = 0 ∨ j % 3 = 1 ∨ j % 3 = 2 := by omega
  have hu2 := fun v hv => (usCells_at hr (j % 3) v hv).symm
  rw [show j / 3 * 3 + j % 3 = j by omega, hu] at hu2
  rcases hm with h | h | h
  · have := hu2 _ (by rw [h]; rfl); injection this with this; rw [← this, show off + j = off + j / 3 * 3 by omega]; exact h0
  · have := hu2 _ (by rw [h]; rfl); injection this with this; rw [← this, show off + j = off + j / 3 * 3 + 1 by omega]; exact h1
  · have := hu2 _ (by rw [h]; rfl); injection this with this; rw [← this, show off + j = off + j / 3 * 3 + 2 by omega]; exact h2
theorem info_parts {t : TypeId} {z : Value} {s b : Nat} (h : (Try.prog.info? t).map (fun i => (i.zero, i.size, i.bytes)) = some (some z, s, b)) : ∃ i, Try.prog.info? t = some i ∧ i.zero = some z ∧ i.size = s ∧ i.bytes = b := by
  rcases hi : Try.prog.info? t with _ | i
  · rw [hi] at h; cases h
  · rw [hi] at h
    simp only [Option.map_some, Option.some.injEq, Prod.mk.injEq] at h
    exact ⟨i, rfl, h.1, h.2.1, h.2.2⟩
theorem info_use : (Try.prog.info? 27).map (fun i => (i.zero, i.size, i.bytes)) = some (some (.agg #[.int .i64 0, .int .i64 0, .int .i64 0]), 3, 24) := by kernel_rfl
theorem wpList_append_uses {w : World} {ops : Array Oper} {rest : List Oper} {o : Oper} {a : Act} {Q : Exit → Act → World → Prop} (hgd : o.guard = none) (s x : Operand)
    (ho : o.op = .call { callee := .builtin .append, args := #[s, x], argTypes := #[22, 22] })
    (v : Value) (xs : List U) (hs : a.eval s = v) (hown : Own w v xs) (A : Option Addr) (m c : Nat) (bs : List U) (hx : a.eval x = .slice A m c) (hm : bs.length = m) (hA : Row w A bs) (hA0 : A = none → c = 0) (h63 : xs.length + m ≤ 2097152)
    (h : ∀ v' w', Own w' v' (xs ++ bs) → Step w w' (rowOf v) (rowOf v') → wpList Try.prog ops Q rest (a.put o.dst v') w') : wpList Try.prog ops Q (o :: rest) a w := by
  obtain ⟨i0, hi, hz0, hz1, hz2⟩ := info_parts info_use
  rcases A with _ | ad
  · have hb : bs = [] := by
      rcases bs with _ | ⟨b, r⟩
      · rfl
      · obtain ⟨_, _, h', _⟩ := hA 0 b rfl
        cases h'
    subst hb
    obtain rfl := hA0 rfl
    subst hm
    exact wpList_append_own_none hgd s x 22 ho 0 27 i0 3 Try.underlying22 hi v xs.length (usCells xs) hs hown hx (h v w (by rw [List.append_nil]; exact hown) (Step.refl _ _))
  · refine wpList_append_roww hgd s x 22 ho 27 i0 _ 3 24 Try.underlying22 hi hz0 hz1 hz2 rfl (by decide) v xs.length (usCells xs) hs hown ad m c (usCells bs) hx (by rw [usCells_len, hm]) (Row.news hA) (us_one _) (by unfold maxLen; omega) (by omega) fun v' w' h1 h2 => h v' w' ?_ h2
    unfold Own
    rw [List.length_append, hm, usCells_append]
    exact h1
set_option maxRecDepth 100000 in
set_option maxHeartbeats 1000000 in
theorem grow_nil (k : Nat) (w : World) (hk : k ≤ 1048576) :
    Calls Try.prog 18 #[.slice none 0 0, .int .i64 k] w fun e w' => ∃ v, e = .returned v ∧ Own w' v [] ∧ Step w w' [] (rowOf v) := by
  obtain ⟨i0, hi, hz0, hz1, hz2⟩ := info_parts info_use
  by_cases h0 : k = 0
  · subst h0
    go_enter Try.func18, Try.ntmps18
    go_wp2
    go_ret
    exact ⟨_, rfl, World.ownsRow_nil _ _ _ _, Step.refl _ _⟩
  · have hpos : 0 < k := by omega
    have hr := fun ty => Lib.run_append_nil_zeros (P := Try.prog) w 22 3 ty 27 i0 _ .i64 .i64 Try.underlying22 Try.underlying3 hi hz0 k hpos (by omega) (by omega) (by rw [hz2]; omega)
    have hge := grownCap_ge w k 0 27
    have hle := grownCap_le_maxLen w k 0 27 (by unfold maxLen; omega)
    obtain ⟨G, hG⟩ : ∃ G, G = grownCap w k 0 27 := ⟨_, rfl⟩
    rw [← hG] at hr hge hle
    obtain ⟨cs, hcs⟩ : ∃ cs, cs = Builtin.zeroCells (Value.agg #[.int .i64 0, .int .i64 0, .int .i64 0]).cells k ++ Builtin.zeroCells (Value.agg #[.int .i64 0, .int .i64 0, .int .i64 0]).cells (G - k) := ⟨_, rfl⟩
    have HCS := Lib.hid (show cs.size = G * 3 by rw [hcs]; simp [Builtin.zeroCells, Value.cells]; omega)
    rw [← hcs] at hr
    have hG63 : G ≤ 9223372036854775807 := by unfold maxLen at hle; omega
    have HLE := Lib.hid hle
    clear hcs hG hle
    go_enter Try.func18, Try.ntmps18
    go_wp2_with (at_builtin; refine Lib.wpList_append_run _ rfl _ _ _ _ rfl _ _ rfl rfl _ _ (hr _) ?_)
    all_goals
      go_ret
      exact ⟨_, rfl, ⟨rfl, .inr ⟨w.heap.size, G, cs, rfl, Nat.zero_le _, heap_alloc_new w.drew _, Nat.zero_le _, HLE.out, HCS.out, by simp [usCells]⟩⟩, (Moved.refl w []).drew.alloc _, fun j hj => .inr (by have h1 : w.heap.size = j := (by simpa [mem_rowOf, Value.ownBlock] using hj); omega)⟩
/-- What is laid end to end when k of the three are. -/
def upto3 (x y z : List U) : Nat → List U
  | 0 => []
  | 1 => x
  | 2 => x ++ y
  | _ => x ++ y ++ z
set_option maxRecDepth 100000 in
set_option maxHeartbeats 4000000 in
theorem concat_any (q : Nat) (A B C : Option Addr) (i j k a b c d : Nat) (xs ys zs : List U) (w : World) (hx : xs.length = i) (hy : ys.length = j) (hz : zs.length = k) (hl : i ≤ 16 ∧ j ≤ 16 ∧ k ≤ 16) (hA : Row w A xs) (hB : Row w B ys) (hC : Row w C zs) (hA0 : A = none → a = 0) (hB0 : B = none → b = 0) (hC0 : C = none → c = 0)
    (h0 : w.cell? ⟨q, 0, none⟩ = some (.slice A i a)) (h1 : w.cell? ⟨q, 1, none⟩ = some (.slice B j b)) (h2 : w.cell? ⟨q, 2, none⟩ = some (.slice C k c)) :
    Calls Try.prog 12 #[.slice (some ⟨q, 0, none⟩) 3 d] w fun e w' => ∃ v', e = .returned v' ∧ Own w' v' (xs ++ ys ++ zs) ∧ Step w w' [] (rowOf v') := by
  have HA := Lib.hid hA
  have HB := Lib.hid hB
  have HC := Lib.hid hC
  have HX := Lib.hid hx
  have HY := Lib.hid hy
  have HZ := Lib.hid hz
  have HQ := Lib.hid (And.intro h0 (And.intro h1 h2))
  clear hA hB hC hx hy hz
  go_enter Try.func12, Try.ntmps12
  go_wp2
  go_loop [3, 11] (fun s t => ∃ n : Nat, s = .int .i64 ((if n = 0 then 0 else if n = 1 then i else if n = 2 then i + j else i + j + k : Nat) : Int) ∧ t = .int .i64 n ∧ n ≤ 3) (fun _ t => 3 - (intOf t).toNat)
  case atStart => exact ⟨0, rfl, rfl, by omega⟩
  case round =>
    obtain ⟨n, rfl, rfl, hn⟩ := hrel
    rcases (by omega : n = 0 ∨ n = 1 ∨ n = 2 ∨ n = 3) with rfl | rfl | rfl | rfl
    · go_wp2
      go_round
      case rel => exact ⟨1, by go_num, by go_num, by omega⟩
      case measure => simp [intOf]
    · go_wp2
      go_round
      case rel => exact ⟨2, by go_num, by go_num, by omega⟩
      case measure => simp [intOf]
    · go_wp2
      go_round
      case rel => exact ⟨3, by go_num, by go_num, by omega⟩
      case measure => simp [intOf]
    · go_wp2_with fail
      have es : (i : Int) + (j : Int) + (k : Int) = ((i + j + k : Nat) : Int) := by omega
      rw [es]
      refine (grow_nil (i + j + k) w (by omega)).mono ?_
      rintro e w1 ⟨v1, rfl, hO, hS⟩
      have HO := Lib.hid hO
      have HS := Lib.hid hS
      clear hO hS h0 h1 h2 es
      go_wp2
      go_loopw [6, 27] (fun v t wr => ∃ n : Nat, t = .int .i64 n ∧ n ≤ 3 ∧ Hid (Own wr v (upto3 xs ys zs n)) ∧ Hid (Step w wr [] (rowOf v))) (fun _ t _ => 3 - (intOf t).toNat)
      case atStart => exact ⟨0, rfl, by omega, HO.out, HS.out⟩
      case round =>
        obtain ⟨n, rfl, hn, HOR, HSR⟩ := hrel
        have e0 := cell_same HSR.out.1 HQ.out.1
        have e1 := cell_same HSR.out.1 HQ.out.2.1
        have e2 := cell_same HSR.out.1 HQ.out.2.2
        rcases (by omega : n = 0 ∨ n = 1 ∨ n = 2 ∨ n = 3) with rfl | rfl | rfl | rfl
        · have hlen : (upto3 xs ys zs 0).length = 0 := by rfl
          obtain ⟨A5, c5, rfl, -⟩ := own_shape3 HOR.out hlen
          have HL := Lib.hid HX.out
          have HBR := Lib.hid (HA.out.still HSR.out.1)
          go_wp2_with (first
            | refine wpList_append_uses rfl (.tmp 31) (.tmp 32) rfl (.slice A5 0 c5) (upto3 xs ys zs 0) rfl (by exact HOR.out) A i a xs rfl HL.out (by exact HBR.out) hA0 (by rw [hlen]; omega) ?_)
          intro v' w' h1 h2
          have H1 := Lib.hid (show Own w' v' (upto3 xs ys zs 1) from h1)
          have H2 := Lib.hid (HSR.out.trans h2)
          clear h1 h2
          go_wp2
          go_roundw
          case rel => exact ⟨1, by go_num, by omega, H1.out, H2.out⟩
          case measure => simp [intOf]
        · have hlen : (upto3 xs ys zs 1).length = i := by exact HX.out
          obtain ⟨A5, c5, rfl, -⟩ := own_shape3 HOR.out hlen
          have HL := Lib.hid HY.out
          have HBR := Lib.hid (HB.out.still HSR.out.1)
          go_wp2_with (first
            | refine wpList_append_uses rfl (.tmp 31) (.tmp 32) rfl (.slice A5 i c5) (upto3 xs ys zs 1) rfl (by exact HOR.out) B j b ys rfl HL.out (by exact HBR.out) hB0 (by rw [hlen]; omega) ?_)
          intro v' w' h1 h2
          have H1 := Lib.hid (show Own w' v' (upto3 xs ys zs 2) from h1)
          have H2 := Lib.hid (HSR.out.trans h2)
          clear h1 h2
          go_wp2
          go_roundw
          case rel => exact ⟨2, by go_num, by omega, H1.out, H2.out⟩
          case measure => simp [intOf]
        · have hlen : (upto3 xs ys zs 2).length = (i + j) := by rw [show upto3 xs ys zs 2 = xs ++ ys from rfl, List.length_append, HX.out, HY.out]
          obtain ⟨A5, c5, rfl, -⟩ := own_shape3 HOR.out hlen
          have HL := Lib.hid HZ.out
          have HBR := Lib.hid (HC.out.still HSR.out.1)
          go_wp2_with (first
            | refine wpList_append_uses rfl (.tmp 31) (.tmp 32) rfl (.slice A5 (i + j) c5) (upto3 xs ys zs 2) rfl (by exact HOR.out) C k c zs rfl HL.out (by exact HBR.out) hC0 (by rw [hlen]; omega) ?_)
          intro v' w' h1 h2
          have H1 := Lib.hid (show Own w' v' (upto3 xs ys zs 3) from h1)
          have H2 := Lib.hid (HSR.out.trans h2)
          clear h1 h2
          go_wp2
          go_roundw
          case rel => exact ⟨3, by go_num, by omega, H1.out, H2.out⟩
          case measure => simp [intOf]
        · go_wp2
          go_ret
          exact ⟨_, rfl, HOR.out, HSR.out⟩
end Rk
end Go.Proofs.Ytpaklljcbmimfaa
