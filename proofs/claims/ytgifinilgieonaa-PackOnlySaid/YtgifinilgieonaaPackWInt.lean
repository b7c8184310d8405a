/-
  CONTRACTS of (*pack.Writer).Int, Mark, Text.
-/
import Derived.Test.YtgifinilgieonaaPackWUint
import Derived.Laws.DeepNot64
namespace Go.Proofs.Ytgifinilgieonaa
namespace Pk
open Go.RowKit
theorem zig_bound {n : Int} (h0 : -9223372036854775808 ≤ n) (h1 : n ≤ 9223372036854775807) : zig n < 18446744073709551616 := by unfold zig; split <;> omega
theorem u64_not (a : Nat) (ha : a < 18446744073709551616) : bits BinOp.xor IntKind.u64 IntKind.u64.max (a : Int) = 18446744073709551615 - (a : Int) := by
  show IntKind.u64.wrap ((BitVec.ofInt 64 IntKind.u64.max ^^^ BitVec.ofInt 64 (a : Int)).toNat : Int) = _
  have h1 : BitVec.ofInt 64 IntKind.u64.max = BitVec.allOnes 64 := by decide
  rw [h1, BitVec.allOnes_xor, BitVec.toNat_not, ofInt_u64 a (by omega)]
  simp [IntKind.wrap, IntKind.bits, IntKind.signed]
  omega
theorem fold_neg {n : Int} (h0 : -9223372036854775808 ≤ n) (hn : n < 0) : bits BinOp.xor IntKind.u64 IntKind.u64.max (IntKind.u64.wrap (IntKind.u64.wrap n * 2)) = (zig n : Nat) := by
  have e : IntKind.u64.wrap (IntKind.u64.wrap n * 2) = ((18446744073709551616 - 2 * (-n).toNat : Nat) : Int) := by
    simp [IntKind.wrap, IntKind.bits, IntKind.signed]; omega
  rw [e, u64_not _ (by omega), zig, if_neg (by omega)]
  omega
theorem fold_pos {n : Int} (hn : ¬ n < 0) : n * 2 = (zig n : Nat) := by rw [zig, if_pos (by omega)]; omega
theorem ret_u64i {a b : Int} (h : a = b) : Ending.returned (.int .u64 a) = .returned (.int .u64 b) := by rw [h]
set_option maxRecDepth 100000 in
theorem folded_any (n : Int) (w : World) (h0 : -9223372036854775808 ≤ n) (h1 : n ≤ 9223372036854775807) :
    Calls Try.prog 37 #[.int .i64 n] w fun r w' => r = .returned (.int .u64 (zig n : Nat)) ∧ w = w' := by
  by_cases hn : n < 0
  · go_enter Try.func37, Try.ntmps37
    go_wp2
    go_ret
    exact ⟨ret_u64i (fold_neg h0 hn), rfl⟩
  · go_enter Try.func37, Try.ntmps37
    go_wp2
    go_ret
    exact ⟨ret_u64i (fold_pos (by omega)), rfl⟩
set_option maxRecDepth 100000 in
theorem wint_any (p : Nat) (fp : List Nat) (s : WSt) (m : Nat) (n : Int) (w : World) (hW : WObj w p fp s m) (h0 : -9223372036854775808 ≤ n) (h1 : n ≤ 9223372036854775807) (hm : m ≤ 35184372088832) :
    Calls Try.prog 18 #[.pointer (some ⟨p, 0, none⟩), .int .i64 n] w (Wrote WObj p fp (s.put (enc (zig n))) (m + 10) w) := by
  have HW := Lib.hid hW
  have HZ := Lib.hid (zig_bound h0 h1)
  have H0 := Lib.hid h0
  have H1 := Lib.hid h1
  clear hW h0 h1
  go_enter Try.func18, Try.ntmps18
  go_wp2_with (first
    | (go_at_call 37; refine (folded_any n _ H0.out H1.out).mono ?_; rintro e1 w1 ⟨rfl, rfl⟩)
    | (go_at_call 16; refine (wuint_any p fp s m _ _ HW.out HZ.out (by omega)).mono ?_; rintro e1 w1 ⟨rfl, fq1, hO1, hS1⟩; have HO1 := Lib.hid hO1; have HS1 := Lib.hid hS1; clear hO1 hS1))
  go_end0
  exact ⟨rfl, fq1, HO1.out, HS1.out⟩
set_option maxRecDepth 100000 in
theorem wmark_any (p : Nat) (fp : List Nat) (s : WSt) (m : Nat) (b : Bool) (w : World) (hW : WObj w p fp s m) (hm : m ≤ 35184372088832) :
    Calls Try.prog 20 #[.pointer (some ⟨p, 0, none⟩), .bool b] w (Wrote WObj p fp (s.put (enc (if b then 1 else 0))) (m + 10) w) := by
  have HW := Lib.hid hW
  clear hW
  cases b with
  | true =>
    go_enter Try.func20, Try.ntmps20
    go_wp2_with (go_at_call 16; refine (wuint_any p fp s m 1 _ HW.out (by omega) (by omega)).mono ?_; rintro e1 w1 ⟨rfl, fq1, hO1, hS1⟩; have HO1 := Lib.hid hO1; have HS1 := Lib.hid hS1; clear hO1 hS1)
    go_end0
    exact ⟨rfl, fq1, HO1.out, HS1.out⟩
  | false =>
    go_enter Try.func20, Try.ntmps20
    go_wp2_with (go_at_call 16; refine (wuint_any p fp s m 0 _ HW.out (by omega) (by omega)).mono ?_; rintro e1 w1 ⟨rfl, fq1, hO1, hS1⟩; have HO1 := Lib.hid hO1; have HS1 := Lib.hid hS1; clear hO1 hS1)
    go_end0
    exact ⟨rfl, fq1, HO1.out, HS1.out⟩
theorem text_small {s : WSt} {l : List Int} {n : Nat} (hl : l.length = n) (h : ¬ 131072 < n) : s.text l = (s.put (enc n)).put l := by
  subst hl
  rw [WSt.text, if_neg h, put_put]
theorem text_great {s : WSt} {l : List Int} {n : Nat} (hl : l.length = n) (h : 131072 < n) : s.text l = s.fail 5 := by
  subst hl
  rw [WSt.text, if_pos h]
set_option maxRecDepth 100000 in
set_option maxHeartbeats 1000000 in
theorem wtext_any (p : Nat) (fp : List Nat) (s : WSt) (m : Nat) (A : Option Addr) (n c : Nat) (l : List Int) (w : World) (hW : WObj w p fp s m) (hY : Handed w fp A n c l) (hn : n ≤ 35184372088832) (hm : m ≤ 35184372088832) :
    Calls Try.prog 22 #[.pointer (some ⟨p, 0, none⟩), .slice A n c] w (Wrote WObj p fp (s.text l) (m + 131082) w) := by
  have HW := Lib.hid hW
  have HY := Lib.hid hY
  clear hW hY
  by_cases h5 : 131072 < n
  · have HT := Lib.hid (text_great (s := s) HY.out.len h5)
    go_enter Try.func22, Try.ntmps22
    go_wp2_with (go_at_call 39; refine (wfail_any p fp s m 5 _ HW.out (by omega)).mono ?_; rintro e1 w1 ⟨rfl, fq1, hO1, hS1⟩; have HO1 := Lib.hid hO1; have HS1 := Lib.hid hS1; clear hO1 hS1)
    go_end0
    exact ⟨rfl, fq1, by rw [HT.out]; exact HO1.out.more (by omega), HS1.out⟩
  · have HT := Lib.hid (text_small (s := s) HY.out.len h5)
    go_enter Try.func22, Try.ntmps22
    go_wp2_with fail
    refine (wuint_any p fp s m n _ HW.out (by omega) (by omega)).mono ?_
    rintro e1 w1 ⟨rfl, fq1, hO1, hS1⟩
    have hY1 : Handed w1 fq1 A n c l := ⟨nrowx_moved HY.out.row hS1.1 HY.out.far, HY.out.len, HY.out.nil, fun k hk hf => by
      rcases hS1.2 k hf with h | h
      · exact HY.out.far k hk h
      · have := HY.out.row.ltX k hk; omega⟩
    have HY1 := Lib.hid hY1
    have HO1 := Lib.hid hO1
    have HS1 := Lib.hid hS1
    clear hO1 hS1 hY1
    go_wp2_with (go_at_call 34; refine (wput_any p fq1 _ (m + 10) _ _ _ l _ HO1.out HY1.out (by omega)).mono ?_; rintro e2 w2 ⟨rfl, fq2, hO2, hS2⟩; have HO2 := Lib.hid hO2; have HS2 := Lib.hid (HS1.out.trans hS2); clear hO2 hS2)
    go_end0
    exact ⟨rfl, fq2, by rw [HT.out]; exact HO2.out.more (by omega), HS2.out⟩
end Pk
end Go.Proofs.Ytgifinilgieonaa
