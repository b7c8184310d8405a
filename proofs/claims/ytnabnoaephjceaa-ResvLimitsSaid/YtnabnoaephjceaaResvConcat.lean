/-
  CONTRACTS of slices.Grow (of nil) and slices.Concat (of none and some) over what is busy.
-/
import Derived.Test.YtnabnoaephjceaaResvClone
import Derived.Lib.SliceRun
import Derived.Lib.AppendZeros
namespace Go.Proofs.Ytnabnoaephjceaa
namespace Rv
open Go.RowKit Am Pf
set_option maxRecDepth 100000 in
set_option maxHeartbeats 1000000 in
theorem grow_nil (k : Nat) (w : World) (hk : k ≤ 1048576) :
    Calls Try.prog 29 #[.slice none 0 0, .int .i64 k] w fun e w' => ∃ v, e = .returned v ∧ BOwn w' v [] ∧ Step w w' [] (rowOf v) := by
  obtain ⟨i0, hi, hz0, hz1, hz2⟩ := info_parts info_busy
  by_cases h0 : k = 0
  · subst h0
    go_enter Try.func29, Try.ntmps29
    go_wp2
    go_ret
    exact ⟨_, rfl, World.ownsRow_nil _ _ _ _, Step.refl _ _⟩
  · have hpos : 0 < k := by omega
    have hr := fun ty => Lib.run_append_nil_zeros (P := Try.prog) w 35 3 ty 27 i0 _ .i64 .i64 Try.underlying35 Try.underlying3 hi hz0 k hpos (by omega) (by omega) (by rw [hz2]; omega)
    have hge := grownCap_ge w k 0 27
    have hle := grownCap_le_maxLen w k 0 27 (by unfold maxLen; omega)
    obtain ⟨G, hG⟩ : ∃ G, G = grownCap w k 0 27 := ⟨_, rfl⟩
    rw [← hG] at hr hge hle
    obtain ⟨cs, hcs⟩ : ∃ cs, cs = Builtin.zeroCells (Value.agg #[.int .i64 0, .int .i64 0, .complex .f64 0 0]).cells k ++ Builtin.zeroCells (Value.agg #[.int .i64 0, .int .i64 0, .complex .f64 0 0]).cells (G - k) := ⟨_, rfl⟩
    have HCS := Lib.hid (show cs.size = G * 3 by rw [hcs]; simp [Builtin.zeroCells, Value.cells]; omega)
    rw [← hcs] at hr
    have hG63 : G ≤ 9223372036854775807 := by unfold maxLen at hle; omega
    have HLE := Lib.hid hle
    clear hcs hG hle
    go_enter Try.func29, Try.ntmps29
    go_wp2_with (at_builtin; refine Lib.wpList_append_run _ rfl _ _ _ _ rfl _ _ rfl rfl _ _ (hr _) ?_)
    all_goals
      go_ret
      exact ⟨_, rfl, ⟨rfl, .inr ⟨w.heap.size, G, cs, rfl, Nat.zero_le _, heap_alloc_new w.drew _, Nat.zero_le _, HLE.out, HCS.out, by simp [buCells]⟩⟩, (Moved.refl w []).drew.alloc _, fun j hj => .inr (by have h1 : w.heap.size = j := (by simpa [mem_rowOf, Value.ownBlock] using hj); omega)⟩
theorem BuRow.news {w : World} {ad : Addr} {l : List Bu} (h : BuRow w (some ad) l) : ∀ (j : Nat) u, (buCells l)[j]? = some u → w.cell? (ad.add j) = some u := by
  intro j u hu
  have hj : j < l.length * 3 := by rw [← buCells_len]; exact (List.getElem?_eq_some_iff.1 hu).1
  obtain ⟨r, hr⟩ : ∃ r, l[j / 3]? = some r := ⟨l[j / 3]'(by omega), List.getElem?_eq_getElem _⟩
  obtain ⟨g, off, e, h0, h1, h2⟩ := h (j / 3) r hr
  injection e with e
  subst e
  rw [add_none_]
  have hm : j % 3 = 0 ∨ j % 3 = 1 ∨ j % 3 = 2 := by omega
  have hu2 := fun v hv => (buCells_at hr (j % 3) v hv).symm
  rw [show j / 3 * 3 + j % 3 = j by omega, hu] at hu2
  rcases hm with h | h | h
  · have := hu2 _ (by rw [h]; rfl); injection this with this; rw [← this, show off + j = off + j / 3 * 3 by omega]; exact h0
  · have := hu2 _ (by rw [h]; rfl); injection this with this; rw [← this, show off + j = off + j / 3 * 3 + 1 by omega]; exact h1
  · have := hu2 _ (by rw [h]; rfl); injection this with this; rw [← this, show off + j = off + j / 3 * 3 + 2 by omega]; exact h2
theorem wpList_append_bus {w : World} {ops : Array Oper} {rest : List Oper} {o : Oper} {a : Act} {Q : Exit → Act → World → Prop} (hgd : o.guard = none) (s x : Operand)
    (ho : o.op = .call { callee := .builtin .append, args := #[s, x], argTypes := #[35, 35] })
    (v : Value) (xs : List Bu) (hs : a.eval s = v) (hown : BOwn w v xs) (A : Option Addr) (m c : Nat) (bs : List Bu) (hx : a.eval x = .slice A m c) (hm : bs.length = m) (hA : BuRow w A bs) (hA0 : A = none → c = 0) (h63 : xs.length + m ≤ 2097152)
    (h : ∀ v' w', BOwn w' v' (xs ++ bs) → Step w w' (rowOf v) (rowOf v') → wpList Try.prog ops Q rest (a.put o.dst v') w') : wpList Try.prog ops Q (o :: rest) a w := by
  obtain ⟨i0, hi, hz0, hz1, hz2⟩ := info_parts info_busy
  rcases A with _ | ad
  · have hb : bs = [] := by
      rcases bs with _ | ⟨b, r⟩
      · rfl
      · obtain ⟨_, _, h', _⟩ := hA 0 b rfl
        cases h'
    subst hb
    obtain rfl := hA0 rfl
    subst hm
    exact wpList_append_own_none hgd s x 35 ho 0 27 i0 3 Try.underlying35 hi v xs.length (buCells xs) hs hown hx (h v w (by rw [List.append_nil]; exact hown) (Step.refl _ _))
  · refine wpList_append_roww hgd s x 35 ho 27 i0 _ 3 32 Try.underlying35 hi hz0 hz1 hz2 rfl (by decide) v xs.length (buCells xs) hs hown ad m c (buCells bs) hx (by rw [buCells_len, hm]) (BuRow.news hA) (bu_one _) (by unfold maxLen; omega) (by omega) fun v' w' h1 h2 => h v' w' ?_ h2
    unfold BOwn
    rw [List.length_append, hm, buCells_append]
    exact h1
set_option maxRecDepth 100000 in
set_option maxHeartbeats 2000000 in
theorem concat_any (q : Nat) (B : Option Addr) (n c d : Nat) (bs : List Bu) (w : World) (hn : bs.length = n) (hl : n ≤ 1048576) (hB : BuRow w B bs) (hB0 : B = none → c = 0)
    (h0 : w.cell? ⟨q, 0, none⟩ = some (.slice none 0 0)) (h1 : w.cell? ⟨q, 1, none⟩ = some (.slice B n c)) :
    Calls Try.prog 21 #[.slice (some ⟨q, 0, none⟩) 2 d] w fun e w' => ∃ v', e = .returned v' ∧ BOwn w' v' bs ∧ Step w w' [] (rowOf v') := by
  obtain ⟨i0, hi, hz0, hz1, hz2⟩ := info_parts info_busy
  have HB := Lib.hid hB
  have HN := Lib.hid hn
  have HQ0 := Lib.hid (And.intro h0 h1)
  clear hB hn
  go_enter Try.func21, Try.ntmps21
  go_wp2
  go_loop [3, 11] (fun s i => ∃ k : Nat, s = .int .i64 (if k = 2 then n else 0 : Nat) ∧ i = .int .i64 k ∧ k ≤ 2) (fun _ i => 2 - (intOf i).toNat)
  case atStart => exact ⟨0, rfl, rfl, by omega⟩
  case round =>
    obtain ⟨k, rfl, rfl, hk⟩ := hrel
    rcases (by omega : k = 0 ∨ k = 1 ∨ k = 2) with rfl | rfl | rfl
    · go_wp2
      go_round
      case rel => exact ⟨1, by go_num, by go_num, by omega⟩
      case measure => simp [intOf]
    · go_wp2
      go_round
      case rel => exact ⟨2, by go_num, by go_num, by omega⟩
      case measure => simp [intOf]
    · go_wp2_with fail
      refine (grow_nil n w hl).mono ?_
      rintro e w1 ⟨v1, rfl, hO, hS⟩
      have HO := Lib.hid hO
      have HS := Lib.hid hS
      clear hO hS h0 h1
      go_wp2
      go_loopw [6, 27] (fun v i wr => ∃ (k : Nat) (al : List Bu), i = .int .i64 k ∧ k ≤ 2 ∧ Hid (al = if k = 2 then bs else []) ∧ Hid (BOwn wr v al) ∧ Hid (Step w wr [] (rowOf v))) (fun _ i _ => 2 - (intOf i).toNat)
      case atStart => exact ⟨0, [], rfl, by omega, rfl, HO.out, HS.out⟩
      case round =>
        obtain ⟨k, al, rfl, hk, HAL, HOR, HSR⟩ := hrel
        have hsz := HSR.out.1.size
        obtain ⟨e0, e1⟩ := two_still HSR.out.1 HQ0.out.1 HQ0.out.2
        have HBR := Lib.hid (HB.out.still HSR.out.1)
        rcases (by omega : k = 0 ∨ k = 1 ∨ k = 2) with rfl | rfl | rfl
        · obtain rfl : al = [] := HAL.out
          obtain ⟨A5, c5, rfl, -⟩ := bown_shape HOR.out (n := 0) rfl
          go_wp2_with (first
            | refine wpList_append_bus rfl (.tmp 31) (.tmp 32) rfl (.slice A5 0 c5) [] rfl (by exact HOR.out) none 0 0 [] rfl rfl (fun i b hb => by simp at hb) (fun _ => rfl) (by simp) ?_)
          intro v' w' h1 h2
          have H1 := Lib.hid h1
          have H2 := Lib.hid (HSR.out.trans h2)
          clear h1 h2
          go_wp2
          go_roundw
          case rel => exact ⟨1, [], by go_num, by omega, rfl, H1.out, H2.out⟩
          case measure => simp [intOf]
        · obtain rfl : al = [] := HAL.out
          obtain ⟨A5, c5, rfl, -⟩ := bown_shape HOR.out (n := 0) rfl
          go_wp2_with (first
            | refine wpList_append_bus rfl (.tmp 31) (.tmp 32) rfl (.slice A5 0 c5) [] rfl (by exact HOR.out) B n c bs rfl HN.out (by exact HBR.out) hB0 (by simp; omega) ?_)
          intro v' w' h1 h2
          have H1 := Lib.hid h1
          have H2 := Lib.hid (HSR.out.trans h2)
          clear h1 h2
          go_wp2
          go_roundw
          case rel => exact ⟨2, bs, by go_num, by omega, rfl, H1.out, H2.out⟩
          case measure => simp [intOf]
        · obtain rfl : al = bs := HAL.out
          go_wp2
          go_ret
          exact ⟨_, rfl, HOR.out, HSR.out⟩
end Rv
end Go.Proofs.Ytnabnoaephjceaa
