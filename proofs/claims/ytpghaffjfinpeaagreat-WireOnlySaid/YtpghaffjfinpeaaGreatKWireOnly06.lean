/-
  5 texts in one: WireInt, AmtParts, WireAmt, WireWW, WireAll.
-/
import Derived.Test.YtpghaffjfinpeaaGreatKWireOnly05
import Derived.Laws.DeepNot64
import Derived.Test.YtpghaffjfinpeaaGreatKWireOnly00
import Derived.Test.YtpghaffjfinpeaaGreatKWireOnly03
import Derived.Laws.Externs
import Derived.Laws.Cover3
import Derived.Test.YtpghaffjfinpeaaGreatKWireOnly01
import Derived.Deep.RegionHeld3

/-
  (The Writer within a wire.writer, whose mark is t.)
  CONTRACTS of (*pack.Writer).Int, Mark, Text.
-/
namespace Go.Proofs.YtpghaffjfinpeaaGreat
namespace Wi
open Go.RowKit Pk
variable {t : Bool}
theorem zig_bound {n : Int} (h0 : -9223372036854775808 ≤ n) (h1 : n ≤ 9223372036854775807) : zig n < 18446744073709551616 := by unfold zig; split <;> omega
theorem u64_not (a : Nat) (ha : a < 18446744073709551616) : bits BinOp.xor IntKind.u64 IntKind.u64.max (a : Int) = 18446744073709551615 - (a : Int) := by
  show IntKind.u64.wrap ((BitVec.ofInt 64 IntKind.u64.max ^^^ BitVec.ofInt 64 (a : Int)).toNat : Int) = _
  have h1 : BitVec.ofInt 64 IntKind.u64.max = BitVec.allOnes 64 := by decide
  rw [h1, BitVec.allOnes_xor, BitVec.toNat_not, ofInt_u64 a (by omega)]
  simp [IntKind.wrap, IntKind.bits, IntKind.signed]
  omega
theorem fold_neg {n : Int} (h0 : -9223372036854775808 ≤ n) (hn : n < 0) : bits BinOp.xor IntKind.u64 IntKind.u64.max (IntKind.u64.wrap (IntKind.u64.wrap n * 2)) = (zig n : Nat) := by
  have e : IntKind.u64.wrap (IntKind.u64.wrap n * 2) = ((18446744073709551616 - 2 * (-n).toNat : Nat) : Int) := by
    simp [IntKind.wrap, IntKind.bits, IntKind.signed]; omega
  rw [e, u64_not _ (by omega), zig, if_neg (by omega)]
  omega
theorem fold_pos {n : Int} (hn : ¬ n < 0) : n * 2 = (zig n : Nat) := by rw [zig, if_pos (by omega)]; omega
theorem ret_u64i {a b : Int} (h : a = b) : Ending.returned (.int .u64 a) = .returned (.int .u64 b) := by rw [h]
set_option maxRecDepth 100000 in
theorem folded_any (n : Int) (w : World) (h0 : -9223372036854775808 ≤ n) (h1 : n ≤ 9223372036854775807) :
    Calls Tryz.prog 79 #[.int .i64 n] w fun r w' => r = .returned (.int .u64 (zig n : Nat)) ∧ w = w' := by
  by_cases hn : n < 0
  · go_enter Tryz.func79, Tryz.ntmps79
    go_wp2
    go_ret
    exact ⟨ret_u64i (fold_neg h0 hn), rfl⟩
  · go_enter Tryz.func79, Tryz.ntmps79
    go_wp2
    go_ret
    exact ⟨ret_u64i (fold_pos (by omega)), rfl⟩
set_option maxRecDepth 100000 in
theorem wint_any (p : Nat) (fp : List Nat) (s : WSt) (m : Nat) (n : Int) (w : World) (hW : WObj t w p fp s m) (h0 : -9223372036854775808 ≤ n) (h1 : n ≤ 9223372036854775807) (hm : m ≤ 35184372088832) :
    Calls Tryz.prog 42 #[.pointer (some ⟨p, 0, none⟩), .int .i64 n] w (Wrote (WObj t) p fp (s.put (enc (zig n))) (m + 10) w) := by
  have HW := Lib.hid hW
  have HZ := Lib.hid (zig_bound h0 h1)
  have H0 := Lib.hid h0
  have H1 := Lib.hid h1
  clear hW h0 h1
  go_enter Tryz.func42, Tryz.ntmps42
  go_wp2_with (first
    | (go_at_call 79; refine (folded_any n _ H0.out H1.out).mono ?_; rintro e1 w1 ⟨rfl, rfl⟩)
    | (go_at_call 54; refine (wuint_any p fp s m _ _ HW.out HZ.out (by omega)).mono ?_; rintro e1 w1 ⟨rfl, fq1, hO1, hS1⟩; have HO1 := Lib.hid hO1; have HS1 := Lib.hid hS1; clear hO1 hS1))
  go_end0
  exact ⟨rfl, fq1, HO1.out, HS1.out⟩
set_option maxRecDepth 100000 in
theorem wmark_any (p : Nat) (fp : List Nat) (s : WSt) (m : Nat) (b : Bool) (w : World) (hW : WObj t w p fp s m) (hm : m ≤ 35184372088832) :
    Calls Tryz.prog 45 #[.pointer (some ⟨p, 0, none⟩), .bool b] w (Wrote (WObj t) p fp (s.put (enc (if b then 1 else 0))) (m + 10) w) := by
  have HW := Lib.hid hW
  clear hW
  cases b with
  | true =>
    go_enter Tryz.func45, Tryz.ntmps45
    go_wp2_with (go_at_call 54; refine (wuint_any p fp s m 1 _ HW.out (by omega) (by omega)).mono ?_; rintro e1 w1 ⟨rfl, fq1, hO1, hS1⟩; have HO1 := Lib.hid hO1; have HS1 := Lib.hid hS1; clear hO1 hS1)
    go_end0
    exact ⟨rfl, fq1, HO1.out, HS1.out⟩
  | false =>
    go_enter Tryz.func45, Tryz.ntmps45
    go_wp2_with (go_at_call 54; refine (wuint_any p fp s m 0 _ HW.out (by omega) (by omega)).mono ?_; rintro e1 w1 ⟨rfl, fq1, hO1, hS1⟩; have HO1 := Lib.hid hO1; have HS1 := Lib.hid hS1; clear hO1 hS1)
    go_end0
    exact ⟨rfl, fq1, HO1.out, HS1.out⟩
end Wi
end Go.Proofs.YtpghaffjfinpeaaGreat

/-
  CONTRACTS of math.Trunc, amount.Right and amount.Parts at amounts.
-/
namespace Go.Proofs.YtpghaffjfinpeaaGreat
namespace Am
open Go.RowKit Ieee
/-- A whole number's bits, cut towards zero, are the number. -/
theorem integral_nat {n : Nat} (hn : n < 2 ^ 53) : (FloatKind.f64.decode (floatOfInt .f64 n)).integral .zero = .number false n 0 := by
  have hb : floatOfInt .f64 n = double.nearest false n 0 := by
    show double.write (.number (decide ((n : Int) < 0)) (n : Int).natAbs 0) = _
    rw [show decide ((n : Int) < 0) = false by simp, Int.natAbs_natCast]
    rfl
  rw [hb]
  show (double.read (double.nearest false n 0)).integral .zero = _
  by_cases h0 : n = 0
  · subst h0
    decide +kernel
  · have hL : n.log2 ≤ 52 := by
      have : n.log2 < 53 := (Nat.log2_lt (by omega)).2 hn
      omega
    have h3 : 2 ^ 52 ≤ n * 2 ^ (52 - n.log2) := by
      have h1 : 2 ^ n.log2 ≤ n := Nat.log2_self_le (by omega)
      have h2 : 2 ^ n.log2 * 2 ^ (52 - n.log2) ≤ n * 2 ^ (52 - n.log2) := Nat.mul_le_mul_right _ h1
      rwa [← Nat.pow_add, show n.log2 + (52 - n.log2) = 52 by omega] at h2
    have h4 : n * 2 ^ (52 - n.log2) < 2 ^ 53 := by
      have h1 : n < 2 ^ (n.log2 + 1) := Nat.lt_log2_self
      have h2 : n * 2 ^ (52 - n.log2) < 2 ^ (n.log2 + 1) * 2 ^ (52 - n.log2) := Nat.mul_lt_mul_of_pos_right h1 (Nat.pow_pos (by omega))
      rwa [← Nat.pow_add, show n.log2 + 1 + (52 - n.log2) = 53 by omega] at h2
    rw [Fl.nearest_nat (by omega) hn, Fl.read_word hL h3 h4]
    have hlg : 52 ≤ (n * 2 ^ (52 - n.log2)).log2 := (Nat.le_log2 (by omega)).2 h3
    have e1 : (-1074 + ((n.log2 + 1022 : Nat) : Int)).toNat = 0 := by omega
    have e2 : (-(-1074 + ((n.log2 + 1022 : Nat) : Int))).toNat = 52 - n.log2 := by omega
    simp only [Datum.integral, e1, e2, Toward.cut, Nat.shiftLeft_zero]
    rw [show min (52 - n.log2) ((n * 2 ^ (52 - n.log2)).log2 + 2) = 52 - n.log2 by omega, Nat.one_shiftLeft, Nat.mul_div_cancel _ (Nat.pow_pos (by omega))]
    rfl
theorem nat_datum {n : Nat} (hn : n < 2 ^ 53) : ∃ s m e, FloatKind.f64.decode (floatOfInt .f64 n) = .number s m e := by
  have h := integral_nat hn
  cases hd : FloatKind.f64.decode (floatOfInt .f64 n) with
  | number s m e => exact ⟨s, m, e, rfl⟩
  | infinity s => rw [hd] at h; cases h
  | nan s t => rw [hd] at h; cases h
theorem int_of_nat {n : Nat} (hn : n < 2 ^ 53) : floatToIntVal .f64 (floatOfInt .f64 n) .i64 = some (n : Int) := by
  have h := integral_nat hn
  unfold floatToIntVal Datum.toInt
  rw [h]
  have : signed false n 0 = (n : Int) := by simp [signed]
  simp only [this]
  rw [if_pos (by simp [IntKind.min, IntKind.max, IntKind.signed, IntKind.bits]; omega)]
theorem arch_number {x : Nat} {s : Bool} {m : Nat} {e : Int} (hd : FloatKind.f64.decode x = .number s m e) :
    Extern.MathFloor.toIntegral "math.archTrunc" .zero #[.float .f64 x] = pure (.float .f64 (FloatKind.f64.encode ((Datum.number s m e).integral .zero))) := by
  show Extern.MathFloor.toIntegral.match_1 _ (FloatKind.f64.decode x) _ _ = _
  rw [hd]
theorem run_arch {n : Nat} (hn : n < 2 ^ 53) (w : World) : (callFunc 99 #[.float .f64 (floatOfInt .f64 n)]).run Tryz.prog w = .ok (.value (.float .f64 (floatOfInt .f64 n))) w := by
  rw [run_callFunc_extern (fn := Tryz.f99) (e := Extern.MathFloor.toIntegral "math.archTrunc" .zero) Tryz.func99 (by kernel_rfl) (by kernel_rfl) (by kernel_rfl) (by kernel_rfl)]
  obtain ⟨s, m, e, hd⟩ := nat_datum hn
  have hi := integral_nat hn
  have hb : FloatKind.f64.encode (.number false n 0) = floatOfInt .f64 n := by
    show _ = FloatKind.f64.encode (.number (decide ((n : Int) < 0)) (n : Int).natAbs 0)
    rw [show decide ((n : Int) < 0) = false by simp, Int.natAbs_natCast]
  rw [hd] at hi
  have hp := arch_number hd
  rw [hi, hb] at hp
  rw [hp]
  rfl
set_option maxRecDepth 100000 in
theorem trunc_any {n : Nat} (hn : n < 2 ^ 53) (w : World) : Calls Tryz.prog 98 #[.float .f64 (floatOfInt .f64 n)] w fun e w' => e = .returned (.float .f64 (floatOfInt .f64 n)) ∧ w = w' := by
  have hx := run_arch hn
  obtain ⟨W, hW⟩ : ∃ W, W = floatOfInt .f64 n := ⟨_, rfl⟩
  rw [← hW] at hx ⊢
  clear hW hn
  go_enter Tryz.func98, Tryz.ntmps98
  go_wp2
  go_ret
  exact ⟨rfl, rfl⟩
theorem ord_nat {a b : Nat} (ha : a < 2 ^ 53) (hb : b < 2 ^ 53) : FloatKind.f64.format.order (floatOfInt .f64 a) (floatOfInt .f64 b) = some (compare a b) := Fl.order_std (Fl.std_nat ha) (Fl.std_nat hb)
theorem le_nat {a b : Nat} (ha : a < 2 ^ 53) (hb : b < 2 ^ 53) (h : a ≤ b) : (FloatKind.f64.format.order (floatOfInt .f64 a) (floatOfInt .f64 b) == some .lt || FloatKind.f64.format.order (floatOfInt .f64 a) (floatOfInt .f64 b) == some .eq) = true := by
  rw [ord_nat ha hb]
  rcases Nat.lt_trichotomy a b with h | h | h
  · rw [Nat.compare_eq_lt.2 h]; rfl
  · subst h; simp
  · omega
set_option maxRecDepth 100000 in
theorem part_any {n : Nat} (hn : n ≤ 1048576) (w : World) : Calls Tryz.prog 97 #[.float .f64 (floatOfInt .f64 n)] w fun e w' => e = .returned (.bool true) ∧ w = w' := by
  have h53 : n < 2 ^ 53 := by omega
  have hz : floatOfInt .f64 ((0 : Nat) : Int) = 0 := by decide +kernel
  have hm : floatOfInt .f64 ((1048576 : Nat) : Int) = 4697254411347427328 := by decide +kernel
  have e1 := le_nat (a := 0) (b := n) (by decide) h53 (by omega)
  have e2 := le_nat (a := n) (b := 1048576) h53 (by decide) hn
  have e3 : (FloatKind.f64.format.order (floatOfInt .f64 n) (floatOfInt .f64 n) == some .eq) = true := by rw [ord_nat h53 h53]; simp
  rw [hz] at e1
  rw [hm] at e2
  have hx := fun w => trunc_any h53 w
  obtain ⟨W, hW⟩ : ∃ W, W = floatOfInt .f64 n := ⟨_, rfl⟩
  rw [← hW] at hx e1 e2 e3 ⊢
  have HX := Lib.hid hx
  clear hW hn h53 hz hm hx
  go_enter Tryz.func97, Tryz.ntmps97
  go_wp2_with (go_at_call 98; refine (HX.out _).mono ?_; rintro e w' ⟨rfl, rfl⟩)
  go_ret
  exact ⟨rfl, rfl⟩
set_option maxRecDepth 100000 in
theorem right_any {n l : Nat} (hn : n ≤ 1048576) (hl : l ≤ 1048576) (w : World) : Calls Tryz.prog 96 #[amt n l] w fun e w' => e = .returned (.bool true) ∧ w = w' := by
  have hx := fun w => part_any hn w
  have hy := fun w => part_any hl w
  rw [amt]
  obtain ⟨W, hW⟩ : ∃ W, W = floatOfInt .f64 (n : Int) := ⟨_, rfl⟩
  obtain ⟨V, hV⟩ : ∃ V, V = floatOfInt .f64 (l : Int) := ⟨_, rfl⟩
  rw [← hW] at hx ⊢
  rw [← hV] at hy ⊢
  have HX := Lib.hid hx
  have HY := Lib.hid hy
  clear hW hV hx hy hn hl
  go_enter Tryz.func96, Tryz.ntmps96
  go_wp2_with fail
  refine (HX.out _).mono ?_
  rintro e w' ⟨rfl, rfl⟩
  go_wp2_with fail
  refine (HY.out _).mono ?_
  rintro e w' ⟨rfl, rfl⟩
  go_wp2
  go_ret
  exact ⟨rfl, rfl⟩
set_option maxRecDepth 100000 in
theorem parts_any {n l : Nat} (hn : n ≤ 1048576) (hl : l ≤ 1048576) (w : World) : Calls Tryz.prog 90 #[amt n l] w fun e w' => e = .returned (.tuple #[.int .i64 n, .int .i64 l, .int .i64 0]) ∧ w = w' := by
  have hx := fun w => right_any hn hl w
  have h1 := fun w => run_convert_float_int (P := Tryz.prog) w 182 3 .f64 .i64 (floatOfInt .f64 n) n (by kernel_rfl) Tryz.underlying3 (int_of_nat (by omega))
  have h2 := fun w => run_convert_float_int (P := Tryz.prog) w 182 3 .f64 .i64 (floatOfInt .f64 l) l (by kernel_rfl) Tryz.underlying3 (int_of_nat (by omega))
  rw [amt] at *
  obtain ⟨W, hW⟩ : ∃ W, W = floatOfInt .f64 (n : Int) := ⟨_, rfl⟩
  obtain ⟨V, hV⟩ : ∃ V, V = floatOfInt .f64 (l : Int) := ⟨_, rfl⟩
  simp only [← hW, ← hV] at hx h1 h2 ⊢
  have HX := Lib.hid hx
  clear hW hV hx hn hl
  go_enter Tryz.func90, Tryz.ntmps90
  go_wp2_with fail
  refine (HX.out _).mono ?_
  rintro e w' ⟨rfl, rfl⟩
  go_wp2
  exact bodyPost_ret (v := .tuple #[.int .i64 n, .int .i64 l, .int .i64 0]) (by simp [results, Tryz.results90, go_sem]) rfl ⟨rfl, rfl⟩
end Am
end Go.Proofs.YtpghaffjfinpeaaGreat

/-
  (The Writer within a wire.writer, whose mark is t.)
  CONTRACT of (*pack.Writer).Amount; what the statements' walks ask of the Writer is had.
-/
namespace Go.Proofs.YtpghaffjfinpeaaGreat
namespace Wi
open Go.RowKit Pk Am
variable {t : Bool}
set_option maxRecDepth 100000 in
set_option maxHeartbeats 1000000 in
theorem wamount_any (p : Nat) (fp : List Nat) (s : WSt) (m n l : Nat) (w : World) (hW : WObj t w p fp s m) (hn : n ≤ 1048576) (hl : l ≤ 1048576) (hm : m ≤ 35184372088832) :
    Calls Tryz.prog 66 #[.pointer (some ⟨p, 0, none⟩), amt n l] w (Wrote (WObj t) p fp (s.put (enc n ++ enc l)) (m + 20) w) := by
  have HW := Lib.hid hW
  have HP := Lib.hid (fun w => parts_any hn hl w)
  clear hW
  obtain ⟨W, hAW⟩ : ∃ W, W = floatOfInt .f64 (n : Int) := ⟨_, rfl⟩
  obtain ⟨V, hAV⟩ : ∃ V, V = floatOfInt .f64 (l : Int) := ⟨_, rfl⟩
  rw [amt] at HP ⊢
  rw [← hAW, ← hAV] at HP ⊢
  clear hAW hAV
  go_enter Tryz.func66, Tryz.ntmps66
  go_wp2_with fail
  refine (HP.out _).mono ?_
  rintro e w1 ⟨rfl, rfl⟩
  go_wp2_with fail
  refine (wuint_any p fp s m n _ HW.out (by omega) (by omega)).mono ?_
  rintro e w1 ⟨rfl, f1, hO1, hS1⟩
  have HO1 := Lib.hid hO1
  have HS1 := Lib.hid hS1
  clear hO1 hS1
  go_wp2_with fail
  refine (wuint_any p f1 _ (m + 10) l _ HO1.out (by omega) (by omega)).mono ?_
  rintro e w2 ⟨rfl, f2, hO2, hS2⟩
  have HO2 := Lib.hid hO2
  have HS2 := Lib.hid (HS1.out.trans hS2)
  clear hO2 hS2
  go_wp2
  go_end0
  exact ⟨rfl, f2, by rw [← put_put]; exact HO2.out, HS2.out⟩
end Wi
end Go.Proofs.YtpghaffjfinpeaaGreat

/-
  A wire.writer in a walk: its state, its blocks, none of them below b; the contracts of the Writer's methods in these words.
-/
namespace Go.Proofs.YtpghaffjfinpeaaGreat
namespace Wi
open Go.RowKit Pk Am
theorem WObj.mem {t : Bool} {w : World} {p : Nat} {fp : List Nat} {s : WSt} {m : Nat} (h : WObj t w p fp s m) : p ∈ fp := by
  cases s with
  | bad e => obtain ⟨rfl, _⟩ := h; simp
  | ok bs =>
    obtain ⟨_, ⟨_, rfl, _⟩ | ⟨v, q, rfl, _⟩⟩ := h
    · simp
    · simp
theorem WObj.blk {t : Bool} {w : World} {p : Nat} {fp : List Nat} {s : WSt} {m : Nat} (h : WObj t w p fp s m) : ∃ c0 c1 c2, w.heap[p]? = some (.cells #[c0, c1, c2, .bool t] 70 (0, 0)) := by
  cases s with
  | bad e => obtain ⟨_, _, h⟩ := h; exact ⟨_, _, _, h⟩
  | ok bs =>
    obtain ⟨_, ⟨_, _, h⟩ | ⟨v, q, _, h, _⟩⟩ := h
    · exact ⟨_, _, _, h⟩
    · exact ⟨_, _, _, h⟩
theorem WObj.long {t : Bool} {w : World} {p : Nat} {fp : List Nat} {s : WSt} {m : Nat} (h : WObj t w p fp s m) : WObj true (w.setCell ⟨p, 3, none⟩ (.bool true)) p fp s m := by
  cases s with
  | bad e =>
    obtain ⟨h1, h2, h⟩ := h
    exact ⟨h1, h2, by rw [heap_setCell_same w p 3 _ _ _ h]; rfl⟩
  | ok bs =>
    obtain ⟨h0, ⟨h1, h2, h⟩ | ⟨v, q, h1, h, h2, h3, h4, h5, h6⟩⟩ := h
    · exact ⟨h0, .inl ⟨h1, h2, by rw [heap_setCell_same w p 3 _ _ _ h]; rfl⟩⟩
    · exact ⟨h0, .inr ⟨v, q, h1, by rw [heap_setCell_same w p 3 _ _ _ h]; rfl, by rw [Below.heap_setCell _ _ _ q (by exact h4)]; exact h2, ownsRow_setCell_other h3 (a := ⟨p, 3, none⟩) h5 _, h4, h5, h6⟩⟩
/-- At block p stands a wire.writer in the state x that keeps at most m bytes; its blocks fp lie from b on. -/
structure WW (b : Nat) (w : World) (p : Nat) (fp : List Nat) (x : Ws) (m : Nat) : Prop where
  obj : WObj x.t w p fp x.s m
  far : ∀ k ∈ fp, b ≤ k
/-- The wire.writer at p answers nothing, and is then in the state x. -/
def Puts (b p : Nat) (fp : List Nat) (x : Ws) (m : Nat) (w : World) (r : Ending) (w' : World) : Prop :=
  r = .returned (.tuple #[]) ∧ ∃ fp', WW b w' p fp' x m ∧ Step w w' fp fp'
theorem WW.size {b : Nat} {w : World} {p : Nat} {fp : List Nat} {x : Ws} {m : Nat} (h : WW b w p fp x m) : b ≤ w.heap.size :=
  Nat.le_of_lt (Nat.lt_of_le_of_lt (h.far p h.obj.mem) (h.obj.lt p h.obj.mem))
theorem WW.stays {b : Nat} {w w' : World} {p : Nat} {fp : List Nat} {x : Ws} {m : Nat} (h : WW b w p fp x m) (hk : ∀ k ∈ fp, w'.heap[k]? = w.heap[k]?) : WW b w' p fp x m := ⟨h.obj.stays hk, h.far⟩
theorem WW.more {b : Nat} {w : World} {p : Nat} {fp : List Nat} {x : Ws} {m m' : Nat} (h : WW b w p fp x m) (hm : m ≤ m') : WW b w p fp x m' := ⟨h.obj.more hm, h.far⟩
theorem WW.alloc {b : Nat} {w : World} {p : Nat} {fp : List Nat} {x : Ws} {m : Nat} (h : WW b w p fp x m) (o : Obj) : WW b (w.alloc o) p fp x m := h.stays fun k hk => Below.heap_alloc w o k (h.obj.lt k hk)
theorem WW.below {b : Nat} {w w' : World} {p : Nat} {fp fp' : List Nat} {x : Ws} {m : Nat} (h : WW b w p fp x m) (hS : Step w w' fp fp') : Below b w w' := hS.1.below h.size h.far
theorem Puts.of {b p : Nat} {fp : List Nat} {x : Ws} {m m' : Nat} {w : World} (h : WW b w p fp x m) {x' : Ws} {r : Ending} {w' : World} (ht : x'.t = x.t) (hW : Wrote (WObj x.t) p fp x'.s m' w r w') : Puts b p fp x' m' w r w' := by
  obtain ⟨hr, fp', hO, hS⟩ := hW
  refine ⟨hr, fp', ⟨ht ▸ hO, fun k hk => ?_⟩, hS⟩
  rcases hS.2 k hk with hk | hk
  · exact h.far k hk
  · exact Nat.le_trans h.size hk
/-- A block beside the writer's, in a walk. -/
structure Bx (w : World) (g : Nat) (cs : Array Value) (T : TypeId) (fp : List Nat) : Prop where
  block : w.heap[g]? = some (.cells cs T (0, 0))
  apart : g ∉ fp
theorem Bx.step {w w' : World} {g : Nat} {cs : Array Value} {T : TypeId} {fp fp' : List Nat} (h : Bx w g cs T fp) (hS : Step w w' fp fp') : Bx w' g cs T fp' := by
  have hlt := lt_of_block h.block
  refine ⟨(hS.1.block g hlt h.apart).trans h.block, fun hm => ?_⟩
  rcases hS.2 g hm with hk | hk
  · exact h.apart hk
  · omega
theorem Bx.new {b : Nat} {w : World} {p : Nat} {fp : List Nat} {x : Ws} {m : Nat} (h : WW b w p fp x m) (cs : Array Value) (T : TypeId) : Bx (w.alloc (.cells cs T)) w.heap.size cs T fp :=
  ⟨heap_alloc_new w _, fun hm => by have := h.obj.lt _ hm; omega⟩
theorem Bx.alloc {w : World} {g : Nat} {cs : Array Value} {T : TypeId} {fp : List Nat} (h : Bx w g cs T fp) (o : Obj) : Bx (w.alloc o) g cs T fp :=
  ⟨(Below.heap_alloc w o g (lt_of_block h.block)).trans h.block, h.apart⟩
theorem Bx.cell {w : World} {g : Nat} {cs : Array Value} {T : TypeId} {fp : List Nat} (h : Bx w g cs T fp) (j : Nat) {v : Value} (hv : cs[j]? = some v) : w.cell? ⟨g, j, none⟩ = some v := cell_at h.block j hv

theorem Holds.stays_in {b : Nat} {w w' : World} {p : Nat} {fp fp' : List Nat} {x : Ws} {m : Nat} {K : Kind} {v : Value} {d : Dat} (h : WW b w p fp x m) (hS : Step w w' fp fp') (hh : Holds w b K v d) : Holds w' b K v d := hh.below h.size (h.below hS)
theorem HoldsAll.stays_in {b : Nat} {w w' : World} {p : Nat} {fp fp' : List Nat} {x : Ws} {m : Nat} {K : List Kind} {v : List Value} {d : List Dat} (h : WW b w p fp x m) (hS : Step w w' fp fp') (hh : HoldsAll w b K v d) : HoldsAll w' b K v d := hh.below h.size (h.below hS)
theorem Holds.alike {w w' : World} {b : Nat} {K : Kind} {v : Value} {d : Dat} (h : Holds w b K v d) (hb : b ≤ w.heap.size) (e : w'.heap = w.heap) : Holds w' b K v d := Holds.stays hb (fun k _ => by rw [e]) K v d h
theorem p_uint (b p : Nat) (fp : List Nat) (x : Ws) (m v : Nat) (w : World) (hW : WW b w p fp x m) (hv : v < 18446744073709551616) (hm : m ≤ 35184372088832) :
    Calls Tryz.prog 54 #[.pointer (some ⟨p, 0, none⟩), .int .u64 v] w (Puts b p fp (x.put (enc v)) (m + 10) w) :=
  (wuint_any p fp x.s m v w hW.obj hv (by omega)).mono fun _ _ h => Puts.of hW rfl h
theorem p_int (b p : Nat) (fp : List Nat) (x : Ws) (m : Nat) (n : Int) (w : World) (hW : WW b w p fp x m) (h0 : -9223372036854775808 ≤ n ∧ n ≤ 9223372036854775807) (hm : m ≤ 35184372088832) :
    Calls Tryz.prog 42 #[.pointer (some ⟨p, 0, none⟩), .int .i64 n] w (Puts b p fp (wrD (.num n) x) (m + 10) w) :=
  (wint_any p fp x.s m n w hW.obj h0.1 h0.2 hm).mono fun _ _ h => Puts.of hW (by rw [wrD]; rfl) (by rw [wrD]; exact h)
theorem p_mark (b p : Nat) (fp : List Nat) (x : Ws) (m : Nat) (c : Bool) (w : World) (hW : WW b w p fp x m) (hm : m ≤ 35184372088832) :
    Calls Tryz.prog 45 #[.pointer (some ⟨p, 0, none⟩), .bool c] w (Puts b p fp (wrD (.mark c) x) (m + 10) w) :=
  (wmark_any p fp x.s m c w hW.obj hm).mono fun _ _ h => Puts.of hW (by rw [wrD]; rfl) (by rw [wrD]; exact h)
theorem p_amount (b p : Nat) (fp : List Nat) (x : Ws) (m n l : Nat) (w : World) (hW : WW b w p fp x m) (hn : n ≤ 1048576) (hl : l ≤ 1048576) (hm : m ≤ 35184372088832) :
    Calls Tryz.prog 66 #[.pointer (some ⟨p, 0, none⟩), amt n l] w (Puts b p fp (wrD (.amt n l) x) (m + 20) w) :=
  (wamount_any p fp x.s m n l w hW.obj hn hl hm).mono fun _ _ h => Puts.of hW (by rw [wrD]; rfl) (by rw [wrD]; exact h)

theorem p_amountv (b p : Nat) (fp : List Nat) (x : Ws) (m n l : Nat) (a : Value) (w : World) (ha : a = amt n l) (hW : WW b w p fp x m) (hn : n ≤ 1048576) (hl : l ≤ 1048576) (hm : m ≤ 35184372088832) :
    Calls Tryz.prog 66 #[.pointer (some ⟨p, 0, none⟩), a] w (Puts b p fp (wrD (.amt n l) x) (m + 20) w) := by
  subst ha
  exact p_amount b p fp x m n l w hW hn hl hm
/-- A whole number of 64 bits. -/
def I64 (n : Int) : Prop := -9223372036854775808 ≤ n ∧ n ≤ 9223372036854775807
def nums (l : List Int) : List Dat := l.map .num
theorem nums_take {l : List Int} {k : Nat} {z : Int} (h : l[k]? = some z) (x : Ws) : wrs (nums (l.take (k + 1))) x = wrD (.num z) (wrs (nums (l.take k)) x) := by
  rw [List.take_add_one, h]
  simp only [nums, List.map_append, wrs_append, Option.toList, List.map_cons, List.map_nil, wrs]
set_option maxRecDepth 100000 in
set_option maxHeartbeats 1000000 in
theorem p_ints (b p : Nat) (fp : List Nat) (x : Ws) (m : Nat) (A : Option Addr) (n c : Nat) (l : List Int) (w : World) (hW : WW b w p fp x m) (hA : NRow .i64 w A l) (hl : l.length = n) (hr : ∀ z ∈ l, I64 z) (hf : ∀ k ∈ rowX A l, k ∉ fp) (hn : n ≤ 1000) (hm : m + 10 * n ≤ 35184372000000) :
    Calls Tryz.prog 44 #[.pointer (some ⟨p, 0, none⟩), .slice A n c] w (Puts b p fp (wrs (nums l) x) (m + 10 * n) w) := by
  have HR := Lib.hid hr
  have HF := Lib.hid hf
  have HA := Lib.hid hA
  have HL := Lib.hid hl
  clear hr hf hA hl
  go_enter Tryz.func44, Tryz.ntmps44
  go_wp2
  go_loopw [8] (fun i W => ∃ (k : Nat) (cur : Ws) (fq : List Nat), i = .int .i64 k ∧ k ≤ n ∧ Hid (cur = wrs (nums (l.take k)) x) ∧ WW b W p fq cur (m + 10 * k) ∧ Step w W fp fq) (fun i _ => n - (intOf i).toNat)
  case atStart => exact ⟨0, x, fp, rfl, Nat.zero_le _, by show _ = _; rw [List.take_zero]; rfl, hW, Step.refl _ _⟩
  case round =>
    obtain ⟨k, cur, fq, rfl, hk, H, hO, hS⟩ := hrel
    have HS := Lib.hid hS
    have HO := Lib.hid hO
    clear hW hS hO
    by_cases hlt : k < n
    · obtain ⟨z, hz⟩ : ∃ z, l[k]? = some z := ⟨l[k]'(by rw [HL.out]; exact hlt), List.getElem?_eq_getElem _⟩
      have HN := Lib.hid ((congrArg (wrD (.num z)) H.out).trans (nums_take hz x).symm)
      have HZ := Lib.hid (HR.out z (List.mem_of_getElem? hz))
      obtain ⟨g, off, rfl, hc⟩ := nrowx_moved HA.out HS.out.1 HF.out k z hz
      clear hz H
      go_wp2_with (go_at_call 42; refine (p_int b p fq cur (m + 10 * k) z _ (by exact HO.out) HZ.out (by omega)).mono ?_; rintro e1 w1 ⟨rfl, fq1, hO1, hS1⟩; have HO1 := Lib.hid hO1; have HS1 := Lib.hid hS1; clear hO1 hS1)
      go_roundw
      case rel => exact ⟨k + 1, _, fq1, by go_num, by omega, HN.out, HO1.out, HS.out.trans HS1.out⟩
      case measure => simp [intOf]; omega
    · obtain rfl : k = n := by omega
      go_wp2
      go_end0
      refine ⟨rfl, fq, ?_, HS.out⟩
      have h := HO.out
      rw [H.out, ← HL.out, List.take_length] at h
      rw [← HL.out]
      exact h
end Wi
end Go.Proofs.YtpghaffjfinpeaaGreat

/-
  CONTRACT of (*wire.writer).all.
-/
namespace Go.Proofs.YtpghaffjfinpeaaGreat
namespace Wi
open Go.RowKit Pk Am
def Ws.out (x : Ws) : List Int := if x.t then [] else x.s.out
def Ws.err (x : Ws) : Int := if x.t then 6 else if x.s.err = 0 then 0 else 6
/-- New bytes and an error are answered. -/
def Told (out : List Int) (e : Int) (w : World) (r : Ending) (w' : World) : Prop :=
  ∃ v, r = .returned (.tuple #[v, .int .i64 e]) ∧ w'.ownsRow 0 5 1 v out.length (out.map (Value.int .u8)) ∧ Step w w' [] (rowOf v)
theorem WObj.fine {t : Bool} {w : World} {p : Nat} {fp : List Nat} {e : Int} {m : Nat} (h : WObj t w p fp (.bad e) m) : e ≠ 0 := h.2.1
set_option maxRecDepth 100000 in
set_option maxHeartbeats 1000000 in
theorem all_any (b p : Nat) (fp : List Nat) (x : Ws) (m : Nat) (w : World) (hW : WW b w p fp x m) (hm : m ≤ 35184372088832) :
    Calls Tryz.prog 18 #[.pointer (some ⟨p, 0, none⟩)] w (Told x.out x.err w) := by
  obtain ⟨s, t⟩ := x
  obtain ⟨c0, c1, c2, hblk⟩ := hW.obj.blk
  have k3 := cell_at hblk 3 (v := .bool t) rfl
  have hlt := lt_of_block hblk
  have HB := Lib.hid hblk
  cases t with
  | true =>
    have HW := Lib.hid hW
    clear hW hblk
    go_enter Tryz.func18, Tryz.ntmps18
    go_wp2_with fail
    refine (wbytes_any p fp s m _ (by exact HW.out.obj) (by omega)).mono ?_
    rintro e1 w1 ⟨v, rfl, hown, hst⟩
    have k3' : w1.cell? ⟨p, 3, none⟩ = some (.bool true) := by rw [World.cell?_of_block (w := w) (hst.1.block p hlt (by simp))]; exact k3
    have HST := Lib.hid hst
    clear k3 hst hown
    go_wp2
    go_ret2
    exact ⟨.slice none 0 0, rfl, World.ownsRow_nil _ _ _ _, HST.out.1, by simp [rowOf, Value.ownBlock]⟩
  | false =>
    cases s with
    | bad e =>
      have hne := hW.obj.fine
      have hd : (e != 0) = true := by simpa using hne
      have HE := Lib.hid (show (Ws.mk (.bad e) false).err = 6 by simp [Ws.err, WSt.err, hne])
      have HW := Lib.hid hW
      clear hW hblk hne
      go_enter Tryz.func18, Tryz.ntmps18
      go_wp2_with fail
      refine (wbytes_any p fp _ m _ (by exact HW.out.obj) (by omega)).mono ?_
      rintro e1 w1 ⟨v, rfl, hown, hst⟩
      have k3' : w1.cell? ⟨p, 3, none⟩ = some (.bool false) := by rw [World.cell?_of_block (w := w) (hst.1.block p hlt (by simp))]; exact k3
      have HST := Lib.hid hst
      clear k3 hst hown
      simp only [WSt.err]
      go_wp2
      go_ret2
      exact ⟨.slice none 0 0, by rw [HE.out]; rfl, World.ownsRow_nil _ _ _ _, HST.out.1, by simp [rowOf, Value.ownBlock]⟩
    | ok bs =>
      have HW := Lib.hid hW
      clear hW hblk
      go_enter Tryz.func18, Tryz.ntmps18
      go_wp2_with fail
      refine (wbytes_any p fp _ m _ (by exact HW.out.obj) (by omega)).mono ?_
      rintro e1 w1 ⟨v, rfl, hown, hst⟩
      have k3' : w1.cell? ⟨p, 3, none⟩ = some (.bool false) := by rw [World.cell?_of_block (w := w) (hst.1.block p hlt (by simp))]; exact k3
      obtain ⟨A, c, rfl, -⟩ := own_shape hown
      have HST := Lib.hid hst
      have HO := Lib.hid hown
      clear k3 hst hown
      simp only [WSt.err]
      go_wp2
      go_ret2
      exact ⟨_, rfl, HO.out, HST.out⟩
theorem WW.new (b : Nat) (w : World) (hb : b ≤ w.heap.size) : WW b (w.alloc (.cells #[.slice none 0 0, .int .i64 0, .pointer none, .bool false] 70)) w.heap.size [w.heap.size] ⟨.ok [], false⟩ 0 :=
  ⟨WObj.new w, fun k hk => by simp at hk; omega⟩
theorem Told.of {w w1 w2 : World} {fp fp1 : List Nat} {out : List Int} {e : Int} {r : Ending} (hS : Step w1 w2 fp fp1) (h0 : Step w w1 [] fp) {w3 : World} (hT : Told out e w2 r w3) : Told out e w r w3 := by
  obtain ⟨v, hr, hown, hst⟩ := hT
  have h1 := h0.trans hS
  refine ⟨v, hr, hown, (h1.1.trans hst.1 (fun k hk => by cases hk)), fun k hk => ?_⟩
  rcases hst.2 k hk with h | h
  · cases h
  · exact .inr (Nat.le_trans h1.1.size h)
end Wi
end Go.Proofs.YtpghaffjfinpeaaGreat
