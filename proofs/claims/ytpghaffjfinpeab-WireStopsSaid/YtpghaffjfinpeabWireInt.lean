/-
  (The Writer within a wire.writer, whose mark is t.)
  CONTRACTS of (*pack.Writer).Int, Mark, Text.
-/
import Derived.Test.YtpghaffjfinpeabWireUint
import Derived.Laws.DeepNot64
namespace Go.Proofs.Ytpghaffjfinpeab
namespace Wi
open Go.RowKit Pk
variable {t : Bool}
theorem zig_bound {n : Int} (h0 : -9223372036854775808 ≤ n) (h1 : n ≤ 9223372036854775807) : zig n < 18446744073709551616 := by unfold zig; split <;> omega
theorem u64_not (a : Nat) (ha : a < 18446744073709551616) : bits BinOp.xor IntKind.u64 IntKind.u64.max (a : Int) = 18446744073709551615 - (a : Int) := by
  show IntKind.u64.wrap ((BitVec.ofInt 64 IntKind.u64.max ^^^ BitVec.ofInt 64 (a : Int)).toNat : Int) = _
  have h1 : BitVec.ofInt 64 IntKind.u64.max = BitVec.allOnes 64 := by decide
  rw [h1, BitVec.allOnes_xor, BitVec.toNat_not, ofInt_u64 a (by omega)]
  simp [IntKind.wrap, IntKind.bits, IntKind.signed]
  omega
theorem fold_neg {n : Int} (h0 : -9223372036854775808 ≤ n) (hn : n < 0) : bits BinOp.xor IntKind.u64 IntKind.u64.max (IntKind.u64.wrap (IntKind.u64.wrap n * 2)) = (zig n : Nat) := by
  have e : IntKind.u64.wrap (IntKind.u64.wrap n * 2) = ((18446744073709551616 - 2 * (-n).toNat : Nat) : Int) := by
    simp [IntKind.wrap, IntKind.bits, IntKind.signed]; omega
  rw [e, u64_not _ (by omega), zig, if_neg (by omega)]
  omega
theorem fold_pos {n : Int} (hn : ¬ n < 0) : n * 2 = (zig n : Nat) := by rw [zig, if_pos (by omega)]; omega
theorem ret_u64i {a b : Int} (h : a = b) : Ending.returned (.int .u64 a) = .returned (.int .u64 b) := by rw [h]
set_option maxRecDepth 100000 in
theorem folded_any (n : Int) (w : World) (h0 : -9223372036854775808 ≤ n) (h1 : n ≤ 9223372036854775807) :
    Calls Try.prog 36 #[.int .i64 n] w fun r w' => r = .returned (.int .u64 (zig n : Nat)) ∧ w = w' := by
  by_cases hn : n < 0
  · go_enter Try.func36, Try.ntmps36
    go_wp2
    go_ret
    exact ⟨ret_u64i (fold_neg h0 hn), rfl⟩
  · go_enter Try.func36, Try.ntmps36
    go_wp2
    go_ret
    exact ⟨ret_u64i (fold_pos (by omega)), rfl⟩
set_option maxRecDepth 100000 in
theorem wint_any (p : Nat) (fp : List Nat) (s : WSt) (m : Nat) (n : Int) (w : World) (hW : WObj t w p fp s m) (h0 : -9223372036854775808 ≤ n) (h1 : n ≤ 9223372036854775807) (hm : m ≤ 35184372088832) :
    Calls Try.prog 14 #[.pointer (some ⟨p, 0, none⟩), .int .i64 n] w (Wrote (WObj t) p fp (s.put (enc (zig n))) (m + 10) w) := by
  have HW := Lib.hid hW
  have HZ := Lib.hid (zig_bound h0 h1)
  have H0 := Lib.hid h0
  have H1 := Lib.hid h1
  clear hW h0 h1
  go_enter Try.func14, Try.ntmps14
  go_wp2_with (first
    | (go_at_call 36; refine (folded_any n _ H0.out H1.out).mono ?_; rintro e1 w1 ⟨rfl, rfl⟩)
    | (go_at_call 25; refine (wuint_any p fp s m _ _ HW.out HZ.out (by omega)).mono ?_; rintro e1 w1 ⟨rfl, fq1, hO1, hS1⟩; have HO1 := Lib.hid hO1; have HS1 := Lib.hid hS1; clear hO1 hS1))
  go_end0
  exact ⟨rfl, fq1, HO1.out, HS1.out⟩
set_option maxRecDepth 100000 in
theorem wmark_any (p : Nat) (fp : List Nat) (s : WSt) (m : Nat) (b : Bool) (w : World) (hW : WObj t w p fp s m) (hm : m ≤ 35184372088832) :
    Calls Try.prog 17 #[.pointer (some ⟨p, 0, none⟩), .bool b] w (Wrote (WObj t) p fp (s.put (enc (if b then 1 else 0))) (m + 10) w) := by
  have HW := Lib.hid hW
  clear hW
  cases b with
  | true =>
    go_enter Try.func17, Try.ntmps17
    go_wp2_with (go_at_call 25; refine (wuint_any p fp s m 1 _ HW.out (by omega) (by omega)).mono ?_; rintro e1 w1 ⟨rfl, fq1, hO1, hS1⟩; have HO1 := Lib.hid hO1; have HS1 := Lib.hid hS1; clear hO1 hS1)
    go_end0
    exact ⟨rfl, fq1, HO1.out, HS1.out⟩
  | false =>
    go_enter Try.func17, Try.ntmps17
    go_wp2_with (go_at_call 25; refine (wuint_any p fp s m 0 _ HW.out (by omega) (by omega)).mono ?_; rintro e1 w1 ⟨rfl, fq1, hO1, hS1⟩; have HO1 := Lib.hid hO1; have HS1 := Lib.hid hS1; clear hO1 hS1)
    go_end0
    exact ⟨rfl, fq1, HO1.out, HS1.out⟩
end Wi
end Go.Proofs.Ytpghaffjfinpeab
