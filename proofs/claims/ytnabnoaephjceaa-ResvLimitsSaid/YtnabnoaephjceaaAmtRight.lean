/-
  CONTRACTS of math.Trunc and amount.Right at amounts.
-/
import Derived.Test.YtnabnoaephjceaaAmtVal
import Derived.Test.YtnabnoaephjceaaFloat
import Derived.Laws.Externs
import Derived.Laws.Cover3
namespace Go.Proofs.Ytnabnoaephjceaa
namespace Am
open Go.RowKit Ieee
/-- A whole number's bits, cut towards zero, are the number. -/
theorem integral_nat {n : Nat} (hn : n < 2 ^ 53) : (FloatKind.f64.decode (floatOfInt .f64 n)).integral .zero = .number false n 0 := by
  have hb : floatOfInt .f64 n = double.nearest false n 0 := by
    show double.write (.number (decide ((n : Int) < 0)) (n : Int).natAbs 0) = _
    rw [show decide ((n : Int) < 0) = false by simp, Int.natAbs_natCast]
    rfl
  rw [hb]
  show (double.read (double.nearest false n 0)).integral .zero = _
  by_cases h0 : n = 0
  · subst h0
    decide +kernel
  · have hL : n.log2 ≤ 52 := by
      have : n.log2 < 53 := (Nat.log2_lt (by omega)).2 hn
      omega
    have h3 : 2 ^ 52 ≤ n * 2 ^ (52 - n.log2) := by
      have h1 : 2 ^ n.log2 ≤ n := Nat.log2_self_le (by omega)
      have h2 : 2 ^ n.log2 * 2 ^ (52 - n.log2) ≤ n * 2 ^ (52 - n.log2) := Nat.mul_le_mul_right _ h1
      rwa [← Nat.pow_add, show n.log2 + (52 - n.log2) = 52 by omega] at h2
    have h4 : n * 2 ^ (52 - n.log2) < 2 ^ 53 := by
      have h1 : n < 2 ^ (n.log2 + 1) := Nat.lt_log2_self
      have h2 : n * 2 ^ (52 - n.log2) < 2 ^ (n.log2 + 1) * 2 ^ (52 - n.log2) := Nat.mul_lt_mul_of_pos_right h1 (Nat.pow_pos (by omega))
      rwa [← Nat.pow_add, show n.log2 + 1 + (52 - n.log2) = 53 by omega] at h2
    rw [Fl.nearest_nat (by omega) hn, Fl.read_word hL h3 h4]
    have hlg : 52 ≤ (n * 2 ^ (52 - n.log2)).log2 := (Nat.le_log2 (by omega)).2 h3
    have e1 : (-1074 + ((n.log2 + 1022 : Nat) : Int)).toNat = 0 := by omega
    have e2 : (-(-1074 + ((n.log2 + 1022 : Nat) : Int))).toNat = 52 - n.log2 := by omega
    simp only [Datum.integral, e1, e2, Toward.cut, Nat.shiftLeft_zero]
    rw [show min (52 - n.log2) ((n * 2 ^ (52 - n.log2)).log2 + 2) = 52 - n.log2 by omega, Nat.one_shiftLeft, Nat.mul_div_cancel _ (Nat.pow_pos (by omega))]
    rfl
theorem nat_datum {n : Nat} (hn : n < 2 ^ 53) : ∃ s m e, FloatKind.f64.decode (floatOfInt .f64 n) = .number s m e := by
  have h := integral_nat hn
  cases hd : FloatKind.f64.decode (floatOfInt .f64 n) with
  | number s m e => exact ⟨s, m, e, rfl⟩
  | infinity s => rw [hd] at h; cases h
  | nan s t => rw [hd] at h; cases h
theorem int_of_nat {n : Nat} (hn : n < 2 ^ 53) : floatToIntVal .f64 (floatOfInt .f64 n) .i64 = some (n : Int) := by
  have h := integral_nat hn
  unfold floatToIntVal Datum.toInt
  rw [h]
  have : signed false n 0 = (n : Int) := by simp [signed]
  simp only [this]
  rw [if_pos (by simp [IntKind.min, IntKind.max, IntKind.signed, IntKind.bits]; omega)]
theorem arch_number {x : Nat} {s : Bool} {m : Nat} {e : Int} (hd : FloatKind.f64.decode x = .number s m e) :
    Extern.MathFloor.toIntegral "math.archTrunc" .zero #[.float .f64 x] = pure (.float .f64 (FloatKind.f64.encode ((Datum.number s m e).integral .zero))) := by
  show Extern.MathFloor.toIntegral.match_1 _ (FloatKind.f64.decode x) _ _ = _
  rw [hd]
theorem run_arch {n : Nat} (hn : n < 2 ^ 53) (w : World) : (callFunc 30 #[.float .f64 (floatOfInt .f64 n)]).run Try.prog w = .ok (.value (.float .f64 (floatOfInt .f64 n))) w := by
  rw [run_callFunc_extern (fn := Try.f30) (e := Extern.MathFloor.toIntegral "math.archTrunc" .zero) Try.func30 (by kernel_rfl) (by kernel_rfl) (by kernel_rfl) (by kernel_rfl)]
  obtain ⟨s, m, e, hd⟩ := nat_datum hn
  have hi := integral_nat hn
  have hb : FloatKind.f64.encode (.number false n 0) = floatOfInt .f64 n := by
    show _ = FloatKind.f64.encode (.number (decide ((n : Int) < 0)) (n : Int).natAbs 0)
    rw [show decide ((n : Int) < 0) = false by simp, Int.natAbs_natCast]
  rw [hd] at hi
  have hp := arch_number hd
  rw [hi, hb] at hp
  rw [hp]
  rfl
set_option maxRecDepth 100000 in
theorem trunc_any {n : Nat} (hn : n < 2 ^ 53) (w : World) : Calls Try.prog 23 #[.float .f64 (floatOfInt .f64 n)] w fun e w' => e = .returned (.float .f64 (floatOfInt .f64 n)) ∧ w = w' := by
  have hx := run_arch hn
  obtain ⟨W, hW⟩ : ∃ W, W = floatOfInt .f64 n := ⟨_, rfl⟩
  rw [← hW] at hx ⊢
  clear hW hn
  go_enter Try.func23, Try.ntmps23
  go_wp2
  go_ret
  exact ⟨rfl, rfl⟩
theorem ord_nat {a b : Nat} (ha : a < 2 ^ 53) (hb : b < 2 ^ 53) : FloatKind.f64.format.order (floatOfInt .f64 a) (floatOfInt .f64 b) = some (compare a b) := Fl.order_std (Fl.std_nat ha) (Fl.std_nat hb)
theorem le_nat {a b : Nat} (ha : a < 2 ^ 53) (hb : b < 2 ^ 53) (h : a ≤ b) : (FloatKind.f64.format.order (floatOfInt .f64 a) (floatOfInt .f64 b) == some .lt || FloatKind.f64.format.order (floatOfInt .f64 a) (floatOfInt .f64 b) == some .eq) = true := by
  rw [ord_nat ha hb]
  rcases Nat.lt_trichotomy a b with h | h | h
  · rw [Nat.compare_eq_lt.2 h]; rfl
  · subst h; simp
  · omega
set_option maxRecDepth 100000 in
theorem part_any {n : Nat} (hn : n ≤ 1048576) (w : World) : Calls Try.prog 14 #[.float .f64 (floatOfInt .f64 n)] w fun e w' => e = .returned (.bool true) ∧ w = w' := by
  have h53 : n < 2 ^ 53 := by omega
  have hz : floatOfInt .f64 ((0 : Nat) : Int) = 0 := by decide +kernel
  have hm : floatOfInt .f64 ((1048576 : Nat) : Int) = 4697254411347427328 := by decide +kernel
  have e1 := le_nat (a := 0) (b := n) (by decide) h53 (by omega)
  have e2 := le_nat (a := n) (b := 1048576) h53 (by decide) hn
  have e3 : (FloatKind.f64.format.order (floatOfInt .f64 n) (floatOfInt .f64 n) == some .eq) = true := by rw [ord_nat h53 h53]; simp
  rw [hz] at e1
  rw [hm] at e2
  have hx := fun w => trunc_any h53 w
  obtain ⟨W, hW⟩ : ∃ W, W = floatOfInt .f64 n := ⟨_, rfl⟩
  rw [← hW] at hx e1 e2 e3 ⊢
  have HX := Lib.hid hx
  clear hW hn h53 hz hm hx
  go_enter Try.func14, Try.ntmps14
  go_wp2_with (go_at_call 23; refine (HX.out _).mono ?_; rintro e w' ⟨rfl, rfl⟩)
  go_ret
  exact ⟨rfl, rfl⟩
set_option maxRecDepth 100000 in
theorem right_any {n l : Nat} (hn : n ≤ 1048576) (hl : l ≤ 1048576) (w : World) : Calls Try.prog 7 #[amt n l] w fun e w' => e = .returned (.bool true) ∧ w = w' := by
  have hx := fun w => part_any hn w
  have hy := fun w => part_any hl w
  rw [amt]
  obtain ⟨W, hW⟩ : ∃ W, W = floatOfInt .f64 (n : Int) := ⟨_, rfl⟩
  obtain ⟨V, hV⟩ : ∃ V, V = floatOfInt .f64 (l : Int) := ⟨_, rfl⟩
  rw [← hW] at hx ⊢
  rw [← hV] at hy ⊢
  have HX := Lib.hid hx
  have HY := Lib.hid hy
  clear hW hV hx hy hn hl
  go_enter Try.func7, Try.ntmps7
  go_wp2_with fail
  refine (HX.out _).mono ?_
  rintro e w' ⟨rfl, rfl⟩
  go_wp2_with fail
  refine (HY.out _).mono ?_
  rintro e w' ⟨rfl, rfl⟩
  go_wp2
  go_ret
  exact ⟨rfl, rfl⟩
end Am
end Go.Proofs.Ytnabnoaephjceaa
