/-
  2 texts in one: WirePut, WireUint.
-/
import Derived.Test.YtpghaffjfinpeaaGreatKWireOnly04
import Derived.BigRegion
import Derived.Lib.Builder
import Derived.Deep.QuietTactic
import Derived.BigQuiet
import Derived.Laws.Cover3

/-
  (The Writer within a wire.writer, whose mark is t.)
  CONTRACTS of bytes.Clone, of (*pack.Writer).put and fail.
-/
namespace Go.Proofs.YtpghaffjfinpeaaGreat
namespace Wi
open Go.RowKit Pk
variable {t : Bool}
theorem eql_nil {P : Program} (w : World) (t e : TypeId) (a : Option Addr) (l c : Nat) (h : P.underlying t = some (.slice e)) : (binOp .eql t (.slice a l c) (.slice none 0 0)).run P w = .ok (.bool a.isNone) w := by
  simp only [binOp]
  simp [run_equal_slice_nil w t e a l c h]
attribute [local go_sem] eql_nil
theorem clone_nil (w : World) : Calls Tryz.prog 81 #[.slice none 0 0] w fun r w' => r = .returned (.slice none 0 0) ∧ w = w' := by
  go_enter Tryz.func81, Tryz.ntmps81
  go_wp2
  go_ret
  exact ⟨rfl, rfl⟩
set_option maxRecDepth 100000 in
theorem clone_any (A : Option Addr) (n c : Nat) (xs : List Int) (w : World) (hA : NRow .u8 w A xs) (hn : xs.length = n) (hc : A = none → c = 0) (hlen : n ≤ 70368744177664) :
    Calls Tryz.prog 81 #[.slice A n c] w (NewBytes xs w) := by
  obtain ⟨i0, hi, hz0, hz1, hz2⟩ := info_parts info_u8
  rcases A with _ | ad
  · have hx : xs = [] := by
      rcases xs with _ | ⟨y, r⟩
      · rfl
      · obtain ⟨_, _, h', _⟩ := hA 0 y (by simp)
        cases h'
    subst hx
    obtain rfl : c = 0 := hc rfl
    obtain rfl : n = 0 := hn.symm
    refine (clone_nil w).mono ?_
    rintro e w1 ⟨rfl, rfl⟩
    exact ⟨_, rfl, World.ownsRow_nil _ _ _ _, Moved.refl _ _, by simp [rowOf, Value.ownBlock]⟩
  · have HA := Lib.hid hA
    have HN := Lib.hid hn
    have ho : (w.alloc (.cells #[] 5)).ownsRow 0 5 1 (.slice (some ⟨w.heap.size, 0, none⟩) 0 0) 0 [] :=
      ⟨rfl, .inr ⟨w.heap.size, 0, #[], rfl, Nat.zero_le _, heap_alloc_new w _, Nat.le_refl _, by unfold maxLen; omega, rfl, rfl⟩⟩
    clear hA hn hc
    go_enter Tryz.func81, Tryz.ntmps81
    go_wp2_with (at_builtin; refine wpList_append_row rfl _ _ 22 rfl 5 i0 .u8 1 Tryz.underlying22 hi hz0 hz1 hz2 (.slice (some ⟨w.heap.size, 0, none⟩) 0 0) 0 [] rfl ho _ _ _ _ rfl HN.out (HA.out.alloc _) (fun h => by cases h) (by unfold maxLen; omega) (by omega) ?_)
    intro v' w1 hown hst
    have HO := Lib.hid hown
    have HST := Lib.hid hst
    clear hown hst
    go_wp2
    go_ret
    refine ⟨v', rfl, by simpa [HN.out] using HO.out, ?_⟩
    have h0 : Step w (w.alloc (.cells #[] 5)) [] [w.heap.size] := ⟨(Moved.refl w []).alloc _, fun k hk => .inr (by simp at hk; omega)⟩
    have h1 := HST.out
    rw [show rowOf (.slice (some ⟨w.heap.size, 0, none⟩) 0 0) = [w.heap.size] by rfl] at h1
    exact h0.trans h1
set_option maxRecDepth 100000 in
set_option maxHeartbeats 1000000 in
theorem wfail_any (p : Nat) (fp : List Nat) (s : WSt) (m : Nat) (e : Int) (w : World) (hW : WObj t w p fp s m) (he : e ≠ 0) :
    Calls Tryz.prog 84 #[.pointer (some ⟨p, 0, none⟩), .int .i64 e] w (Wrote (WObj t) p fp (s.fail e) m w) := by
  have HW := Lib.hid hW
  have HE := Lib.hid he
  clear he
  cases s with
  | bad e' =>
    obtain ⟨rfl, he, hp⟩ := hW
    have c1 := cell_at hp 1 (v := .int .i64 e') rfl
    have hd : (e' == 0) = false := by simpa using he
    clear hp he
    go_enter Tryz.func84, Tryz.ntmps84
    go_wp2
    go_end0
    exact ⟨rfl, _, HW.out, Step.refl _ _⟩
  | ok bs =>
    obtain ⟨v, r, S, hp, hS⟩ : ∃ v r S, w.heap[p]? = some (.cells #[v, .int .i64 0, r, .bool t] 70 (0, 0)) ∧ fp = p :: S := by
      obtain ⟨-, ⟨-, rfl, hp⟩ | ⟨v, q, rfl, hp, -⟩⟩ := hW
      · exact ⟨_, _, [], hp, rfl⟩
      · exact ⟨_, _, _, hp, rfl⟩
    subst hS
    clear hW
    have c0 := cell_at hp 0 (v := v) rfl
    have c1 := cell_at hp 1 (v := .int .i64 0) rfl
    have c2 := cell_at hp 2 (v := r) rfl
    have f0 := free_at hp 0
    have f1 := free_at hp 1
    have f2 := free_at hp 2
    have HP := Lib.hid hp
    clear hp
    go_enter Tryz.func84, Tryz.ntmps84
    go_wp2
    go_end0
    refine ⟨rfl, [p], ⟨rfl, HE.out, ?_⟩, ?_, fun k hk => .inl (by simp at hk; simp [hk])⟩
    · rw [heap_setCell_same _ p 2 _ _ _ (heap_setCell_same _ p 1 _ _ _ (heap_setCell_same w p 0 _ _ _ HP.out))]; rfl
    · exact Moved.setCell (Moved.setCell (Moved.setCell (Moved.refl _ _) (.inl (by simp)) _) (.inl (by simp)) _) (.inl (by simp)) _
theorem info_writer : (Tryz.prog.info? 68).isSome = true := by kernel_rfl
/-- What a put needs of what it is handed. -/
structure Handed (w : World) (fp : List Nat) (A : Option Addr) (n c : Nat) (ys : List Int) : Prop where
  row : NRow .u8 w A ys
  len : ys.length = n
  nil : A = none → c = 0
  far : ∀ k ∈ rowX A ys, k ∉ fp
set_option maxRecDepth 100000 in
set_option maxHeartbeats 2000000 in
theorem wput_any (p : Nat) (fp : List Nat) (s : WSt) (m : Nat) (A : Option Addr) (n c : Nat) (ys : List Int) (w : World) (hW : WObj t w p fp s m) (hY : Handed w fp A n c ys) (hm : m + n ≤ 70368744177664) :
    Calls Tryz.prog 83 #[.pointer (some ⟨p, 0, none⟩), .slice A n c] w (Wrote (WObj t) p fp (s.put ys) (m + n) w) := by
  obtain ⟨i0, hi, hz0, hz1, hz2⟩ := info_parts info_u8
  have HW := Lib.hid hW
  have HY := Lib.hid hY
  clear hY
  cases s with
  | bad e' =>
    obtain ⟨rfl, he, hp⟩ := hW
    have c1 := cell_at hp 1 (v := .int .i64 e') rfl
    have hd : (e' != 0) = true := by simpa using he
    clear hp he
    go_enter Tryz.func83, Tryz.ntmps83
    go_wp2
    go_end0
    exact ⟨rfl, _, HW.out, Step.refl _ _⟩
  | ok bs =>
    obtain ⟨hbm, ⟨rfl, rfl, hp⟩ | ⟨v, q, rfl, hp, hq, hr, hqp, hnp, hnq⟩⟩ := hW
    · have c0 := cell_at hp 0 (v := .slice none 0 0) rfl
      have c1 := cell_at hp 1 (v := .int .i64 0) rfl
      have c2 := cell_at hp 2 (v := .pointer none) rfl
      have f0 := free_at hp 0
      have f1 := free_at hp 1
      have f2 := free_at hp 2
      have hlt := lt_of_block hp
      have hpn : ¬ w.heap.size = p := by omega
      have HP := Lib.hid hp
      clear hp
      go_enter Tryz.func83, Tryz.ntmps83
      go_wp2
      go_quiet (fail)
      rename_i nq
      obtain ⟨W, hW⟩ : ∃ W, W = w.drewN nq := ⟨_, rfl⟩
      have hz : W.heap.size = w.heap.size := by rw [hW]; rfl
      have hpW : W.heap[p]? = some (.cells #[.slice none 0 0, .int .i64 0, .pointer none, .bool t] 70 (0, 0)) := by rw [hW]; exact HP.out
      have hYW : NRow .u8 W A ys := by rw [hW]; exact HY.out.row
      have hSW : Step w W [p] [p] := by rw [hW]; exact ⟨(Moved.refl _ _).drewN _, fun _ h => .inl h⟩
      have cw0 := cell_at hpW 0 (v := .slice none 0 0) rfl
      rw [← hW]
      obtain ⟨W1, hW1⟩ : ∃ W1, W1 = W.alloc (.cells #[.pointer (some ⟨p, 0, none⟩), .int .i64 0] 180) := ⟨_, rfl⟩
      have hp1 : W1.heap[p]? = some (.cells #[.slice none 0 0, .int .i64 0, .pointer none, .bool t] 70 (0, 0)) := by rw [hW1, Below.heap_alloc _ _ p (by omega)]; exact hpW
      have hq1 : W1.heap[W.heap.size]? = some (.cells #[.pointer (some ⟨p, 0, none⟩), .int .i64 0] 180 (0, 0)) := by rw [hW1]; exact heap_alloc_new W _
      have hYW1 : NRow .u8 W1 A ys := by rw [hW1]; exact hYW.alloc _
      have hSW1 : Step w W1 [p] [p, W.heap.size] := by rw [hW1]; exact ⟨hSW.1.alloc _, fun k hk => by simp at hk; rcases hk with rfl | rfl; exact .inl (by simp); exact .inr (by omega)⟩
      have e0 := cell_at hp1 0 (v := .slice none 0 0) rfl
      have e2 := cell_at hp1 2 (v := .pointer none) rfl
      have g0 := free_at hp1 0
      have g2 := free_at hp1 2
      rw [hW1] at e0 e2 g0 g2
      have HW1 := Lib.hid hW1
      have HP1 := Lib.hid hp1
      have HQ1 := Lib.hid hq1
      obtain ⟨W2, hW2⟩ : ∃ W2, W2 = (W1.setCell ⟨p, 0, none⟩ (.slice none 0 0)).setCell ⟨p, 2, none⟩ (.pointer (some ⟨W.heap.size, 0, none⟩)) := ⟨_, rfl⟩
      have hqp : ¬ W.heap.size = p := by omega
      have hp2 : W2.heap[p]? = some (.cells #[.slice none 0 0, .int .i64 0, .pointer (some ⟨W.heap.size, 0, none⟩), .bool t] 70 (0, 0)) := by
        rw [hW2, heap_setCell_same _ p 2 _ _ _ (heap_setCell_same W1 p 0 _ _ _ hp1)]; rfl
      have hM2 : Moved W1 W2 [p] := by rw [hW2]; exact ((Moved.refl W1 [p]).setCell (.inl (by simp)) _).setCell (.inl (by simp)) _
      have hq2 : W2.heap[W.heap.size]? = some (.cells #[.pointer (some ⟨p, 0, none⟩), .int .i64 0] 180 (0, 0)) := by
        rw [hM2.block _ (lt_of_block hq1) (by simpa using hqp)]; exact hq1
      have HYW := Lib.hid (nrowx_moved hYW1 hM2 (fun b hb h => HY.out.far b hb h))
      have HSW := Lib.hid (hSW1.trans (⟨hM2.mono (fun k hk => by simp at hk; simp [hk]), fun _ h => .inl h⟩ : Step W1 W2 [p, W.heap.size] [p, W.heap.size]))
      have HW2 := Lib.hid hW2
      have HP2 := Lib.hid hp2
      have HQ2 := Lib.hid hq2
      clear c0 c1 c2 f0 f1 f2 hW hpW hYW hSW hW1 hp1 hq1 hYW1 hSW1 hz hlt hpn hW2 hp2 hq2 hM2
      rw [HW1.out] at HW2
      go_wp2_with fail
      refine (clone_nil _).mono ?_
      rintro e1 w1 ⟨rfl, rfl⟩
      go_wp2_with (at_builtin; refine wpList_append_row rfl _ _ 22 rfl 5 i0 .u8 1 Tryz.underlying22 hi hz0 hz1 hz2 (.slice none 0 0) 0 [] rfl (World.ownsRow_nil _ _ _ _) A n c ys rfl HY.out.len (by rw [← HW2.out]; exact HYW.out) HY.out.nil (by unfold maxLen; omega) (by omega) ?_)
      rw [← HW2.out]
      intro v' w1 hown hst
      clear e0 e2 g0 g2 cw0
      have hp3 : w1.heap[p]? = some (.cells #[.slice none 0 0, .int .i64 0, .pointer (some ⟨W.heap.size, 0, none⟩), .bool t] 70 (0, 0)) := by
        rw [hst.1.block p (lt_of_block HP2.out) (by simp [rowOf, Value.ownBlock])]; exact HP2.out
      have hq3 : w1.heap[W.heap.size]? = some (.cells #[.pointer (some ⟨p, 0, none⟩), .int .i64 0] 180 (0, 0)) := by
        rw [hst.1.block _ (lt_of_block HQ2.out) (by simp [rowOf, Value.ownBlock])]; exact HQ2.out
      have c0 := cell_at hp3 0 (v := .slice none 0 0) rfl
      have c2 := cell_at hp3 2 (v := .pointer (some ⟨W.heap.size, 0, none⟩)) rfl
      have f0 := free_at hp3 0
      have cq := cell_at hq3 1 (v := .int .i64 0) rfl
      have fq := free_at hq3 1
      obtain ⟨A', c', rfl, -⟩ := own_shape hown
      have HO := Lib.hid hown
      have HST := Lib.hid hst
      clear hown hst hp3 hq3
      go_wp2
      go_region
      obtain ⟨fp', hO2, hS2⟩ := WObj.stored (n := n) (m := m + n) (bs := []) (ys := ys) HP2.out HQ2.out hqp (by simp [Value.ownBlock]) (by simp [Value.ownBlock]) (by omega) (by simpa using HO.out) HST.out rfl
      go_end0
      exact ⟨rfl, fp', hO2.stays (fun _ _ => rfl), HSW.out.1.trans (hS2.1.drew.mono (by simp [rowOf, Value.ownBlock])) HSW.out.2, fun k hk => by
        rcases hS2.2 k hk with h | h
        · exact HSW.out.2 k (by simpa [rowOf, Value.ownBlock] using h)
        · exact .inr (Nat.le_trans HSW.out.1.size h)⟩
    · have hlen := hr.1
      simp only [List.length_map, Nat.mul_one] at hlen
      obtain ⟨A0, cp, rfl, -⟩ := own_shape hr
      have c0 := cell_at hp 0 (v := .slice A0 bs.length cp) rfl
      have c1 := cell_at hp 1 (v := .int .i64 0) rfl
      have c2 := cell_at hp 2 (v := .pointer (some ⟨q, 0, none⟩)) rfl
      have d0 := cell_at hq 0 (v := .pointer (some ⟨p, 0, none⟩)) rfl
      have d1 := cell_at hq 1 (v := .int .i64 bs.length) rfl
      have HR := Lib.hid hr
      have HP := Lib.hid hp
      have HQ := Lib.hid hq
      have HNP := Lib.hid hnp
      have HNQ := Lib.hid hnq
      have hqp' : ¬ q = p := hqp
      obtain ⟨j, hj⟩ := Option.isSome_iff_exists.1 info_writer
      have hneq := fun w : World => Lib.run_neq_ptr_same (P := Tryz.prog) w ⟨p, 0, none⟩ Tryz.underlying155 hj
      clear hp hq hr hnp hnq hlen hqp
      go_enter Tryz.func83, Tryz.ntmps83
      go_wp2
      go_quiet (fail)
      rename_i nq
      go_wp2_with (at_builtin; refine wpList_append_row rfl _ _ 22 rfl 5 i0 .u8 1 Tryz.underlying22 hi hz0 hz1 hz2 (.slice A0 bs.length cp) bs.length _ rfl (by exact HR.out) A n c ys rfl HY.out.len (by exact HY.out.row) HY.out.nil (by unfold maxLen; omega) (by omega) ?_)
      intro v' w1 hown hst
      have hst' : Step w w1 (rowOf (.slice A0 bs.length cp)) (rowOf v') := Step.trans (T := rowOf (.slice A0 bs.length cp)) ⟨(Moved.refl _ _).drewN nq, fun _ h => .inl h⟩ hst
      clear c0 c1 c2 d0 d1 hneq hj hst
      have hp3 : w1.heap[p]? = some (.cells #[.slice A0 bs.length cp, .int .i64 0, .pointer (some ⟨q, 0, none⟩), .bool t] 70 (0, 0)) := by
        rw [hst'.1.block p (lt_of_block HP.out) (fun h => HNP.out (mem_rowOf.1 h))]; exact HP.out
      have hq3 : w1.heap[q]? = some (.cells #[.pointer (some ⟨p, 0, none⟩), .int .i64 bs.length] 180 (0, 0)) := by
        rw [hst'.1.block _ (lt_of_block HQ.out) (fun h => HNQ.out (mem_rowOf.1 h))]; exact HQ.out
      have c0 := cell_at hp3 0 (v := .slice A0 bs.length cp) rfl
      have c2 := cell_at hp3 2 (v := .pointer (some ⟨q, 0, none⟩)) rfl
      have f0 := free_at hp3 0
      have cq := cell_at hq3 1 (v := .int .i64 bs.length) rfl
      have fq := free_at hq3 1
      obtain ⟨A', c', rfl, -⟩ := own_shape hown
      have HO := Lib.hid hown
      have HST := Lib.hid hst'
      clear hown hst' hp3 hq3
      go_wp2
      go_region
      obtain ⟨fp', hO2, hS2⟩ := WObj.stored (n := bs.length + n) (m := m + n) (bs := bs) (ys := ys) HP.out HQ.out hqp' HNP.out HNQ.out (by omega) HO.out HST.out rfl
      go_end0
      exact ⟨rfl, fp', hO2.stays (fun _ _ => rfl), hS2.1.drew, hS2.2⟩
end Wi
end Go.Proofs.YtpghaffjfinpeaaGreat

/-
  (The Writer within a wire.writer, whose mark is t.)
  CONTRACTS of (*pack.Writer).Uint, Bytes; of the statements' helper wakes.
-/
namespace Go.Proofs.YtpghaffjfinpeaaGreat
namespace Wi
open Go.RowKit Pk
variable {t : Bool}
theorem wrap_nat {n : Nat} (h : n < 18446744073709551616) : IntKind.u64.wrap (n : Int) = n := by
  unfold IntKind.wrap; simp [IntKind.signed, IntKind.bits]; omega
/-- v fits into 64 bits. -/
def U64 (v : Nat) : Prop := v < 18446744073709551616
theorem or_128 (n : Nat) : bits BinOp.or IntKind.u8 ((n : Int) % 256) 128 = ((n % 128 + 128 : Nat) : Int) := by
  have h : ∀ m, m < 256 → bits BinOp.or IntKind.u8 (Int.ofNat m) 128 = Int.ofNat (m % 128 + 128) := by decide +kernel
  have h1 := h (n % 256) (Nat.mod_lt _ (by omega))
  rw [show ((n : Int) % 256) = Int.ofNat (n % 256) by show _ = ((n % 256 : Nat) : Int); omega, h1, show n % 256 % 128 = n % 128 by omega]; rfl
theorem u64_div {n : Nat} (h : U64 n) : U64 (n / 128) := by unfold U64 at *; omega
theorem wrap_u64_div {n : Nat} (h : U64 n) : IntKind.u64.wrap ((n : Int) / 128) = ((n / 128 : Nat) : Int) := by
  rw [show ((n : Int) / 128) = ((n / 128 : Nat) : Int) by omega]; exact wrap_nat (by unfold U64 at *; omega)
/-- A lent row of one byte. -/
theorem lit_handed {w : World} {p m : Nat} {fp : List Nat} {s : WSt} (h : WObj t w p fp s m) (x : Int) : Handed (w.alloc (.cells #[.int .u8 x] 5)) fp (some ⟨w.heap.size, 0, none⟩) 1 1 [x] :=
  ⟨nrow_lit .u8 w x _, rfl, fun h => (by cases h), fun k hk hf => by
    have := h.lt k hf
    have : k = w.heap.size := by simpa [rowX, eq_comm] using hk
    omega⟩
theorem WObj.alloc {w : World} {p m : Nat} {fp : List Nat} {s : WSt} (h : WObj t w p fp s m) (o : Obj) : WObj t (w.alloc o) p fp s m := h.stays (fun k hk => Below.heap_alloc w o k (h.lt k hk))
theorem put_end {s cur : WSt} {v n : Nat} (H : s.put (enc v) = cur.put (enc n)) (h : n < 128) : s.put (enc v) = cur.put [(n : Int)] := by rw [H, enc_low h]
theorem put_put (s : WSt) (a b : List Int) : (s.put a).put b = s.put (a ++ b) := by cases s <;> simp [WSt.put]
theorem put_go {s cur : WSt} {v n : Nat} (H : s.put (enc v) = cur.put (enc n)) (h : 128 ≤ n) : s.put (enc v) = (cur.put [((n % 128 + 128 : Nat) : Int)]).put (enc (n / 128)) := by
  rw [H, enc_high h, put_put]; rfl
set_option maxRecDepth 100000 in
set_option maxHeartbeats 2000000 in
theorem wuint_any (p : Nat) (fp : List Nat) (s : WSt) (m v : Nat) (w : World) (hW : WObj t w p fp s m) (hv : v < 18446744073709551616) (hm : m ≤ 35184372088832 + 131072) :
    Calls Tryz.prog 54 #[.pointer (some ⟨p, 0, none⟩), .int .u64 v] w (Wrote (WObj t) p fp (s.put (enc v)) (m + 10) w) := by
  have hv : U64 v := hv
  have hten : (enc v).length ≤ 10 := enc_ten hv
  have HTEN := Lib.hid hten
  clear hten
  go_enter Tryz.func54, Tryz.ntmps54
  go_wp2
  go_loopw [1] (fun x wr => ∃ (n k : Nat) (cur : WSt) (fq : List Nat), x = .int .u64 n ∧ U64 n ∧ Hid (k + (enc n).length = (enc v).length) ∧ WObj t wr p fq cur (m + k) ∧ Step w wr fp fq ∧ Hid (s.put (enc v) = cur.put (enc n))) (fun x _ => (intOf x).toNat)
  case atStart => exact ⟨v, 0, s, fp, rfl, hv, Nat.zero_add _, hW, Step.refl _ _, rfl⟩
  case round =>
    obtain ⟨n, k, cur, fq, rfl, hn, HK, hO, hS, H⟩ := hrel
    have hk10 : k ≤ 9 := by have := HK.out; have := HTEN.out; have := enc_len_pos n; omega
    have HN := Lib.hid hn
    have HS := Lib.hid hS
    have HO := Lib.hid hO
    clear hW hn hS hO
    by_cases hlt : n < 128
    · have HE := Lib.hid (put_end H.out hlt)
      clear H
      go_wp2_with (go_at_call 83; refine (wput_any p fq cur (m + k) _ _ _ [(n : Int)] _ (HO.out.alloc _) (lit_handed HO.out _) (by omega)).mono ?_; rintro e1 w1 ⟨rfl, fq1, hO1, hS1⟩; have HO1 := Lib.hid hO1; have HS1 := Lib.hid hS1; clear hO1 hS1)
      go_end0
      exact ⟨rfl, fq1, by rw [HE.out]; exact HO1.out.more (by omega), HS.out.trans ((step_alloc _ _ _).trans HS1.out)⟩
    · have hor := or_128 n
      have HE := Lib.hid (put_go H.out (by omega))
      have HN2 := Lib.hid (u64_div HN.out)
      have HK2 := Lib.hid (show (k + 1) + (enc (n / 128)).length = (enc v).length by have h1 := HK.out; rw [enc_high (by omega)] at h1; simp only [List.length_cons] at h1; omega)
      clear H
      go_wp2_with (go_at_call 83; refine (wput_any p fq cur (m + k) _ _ _ [((n % 128 + 128 : Nat) : Int)] _ (HO.out.alloc _) (lit_handed HO.out _) (by omega)).mono ?_; rintro e1 w1 ⟨rfl, fq1, hO1, hS1⟩; have HO1 := Lib.hid hO1; have HS1 := Lib.hid hS1; clear hO1 hS1)
      go_roundw
      case rel => exact ⟨n / 128, k + 1, _, fq1, by go_num, HN2.out, HK2.out, HO1.out, HS.out.trans ((step_alloc _ _ _).trans HS1.out), HE⟩
      case measure => simp [intOf]; omega
set_option maxRecDepth 100000 in
set_option maxHeartbeats 1000000 in
theorem wbytes_any (p : Nat) (fp : List Nat) (s : WSt) (m : Nat) (w : World) (hW : WObj t w p fp s m) (hm : m ≤ 35184372088832 + 131082) :
    Calls Tryz.prog 52 #[.pointer (some ⟨p, 0, none⟩)] w fun r w' => ∃ v, r = .returned (.tuple #[v, .int .i64 s.err]) ∧ w'.ownsRow 0 5 1 v s.out.length (s.out.map (Value.int .u8)) ∧ Step w w' [] (rowOf v) := by
  cases s with
  | bad e =>
    obtain ⟨rfl, he, hp⟩ := hW
    have c1 := cell_at hp 1 (v := .int .i64 e) rfl
    have hd : (e != 0) = true := by simpa using he
    clear hp he
    go_enter Tryz.func52, Tryz.ntmps52
    go_wp2
    go_quiet (fail)
    go_wp2
    go_ret2
    exact ⟨.slice none 0 0, rfl, World.ownsRow_nil _ _ _ _, (Moved.refl _ _).drewN _, by simp [rowOf, Value.ownBlock]⟩
  | ok bs =>
    obtain ⟨A, c, r, hp, hA, hc, hb⟩ : ∃ A c r, w.heap[p]? = some (.cells #[.slice A bs.length c, .int .i64 0, r, .bool t] 70 (0, 0)) ∧ NRow .u8 w A bs ∧ (A = none → c = 0) ∧ bs.length ≤ m := by
      obtain ⟨hb, ⟨rfl, rfl, hp⟩ | ⟨v, q, rfl, hp, hq, hr, -⟩⟩ := hW
      · exact ⟨none, 0, _, hp, NRow.none_ _ _ _, fun _ => rfl, hb⟩
      · obtain ⟨A, c, rfl, h1, h2, -⟩ := own_nrow hr
        exact ⟨A, c, _, hp, h1, h2, hb⟩
    have c0 := cell_at hp 0 (v := .slice A bs.length c) rfl
    have c1 := cell_at hp 1 (v := .int .i64 0) rfl
    have HA := Lib.hid hA
    have HC := Lib.hid hc
    clear hp hA hc hW
    go_enter Tryz.func52, Tryz.ntmps52
    go_wp2_with fail
    refine (clone_any _ _ _ bs _ HA.out rfl HC.out (by omega)).mono ?_
    rintro e1 w1 ⟨v', rfl, hown, hst⟩
    have HO := Lib.hid hown
    have HST := Lib.hid hst
    clear hown hst
    go_wp2
    go_ret2
    exact ⟨v', rfl, HO.out, HST.out⟩
end Wi
end Go.Proofs.YtpghaffjfinpeaaGreat
