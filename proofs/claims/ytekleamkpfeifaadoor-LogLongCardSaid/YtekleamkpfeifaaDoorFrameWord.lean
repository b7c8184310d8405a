/-
  CONTRACTS of package frame's word and number.
-/
import Derived.Test.YtekleamkpfeifaaDoorFrameRefFirst
import Derived.Laws.BitsLemmas
namespace Go.Proofs.YtekleamkpfeifaaDoor
namespace Fr
open Go.RowKit
set_option maxRecDepth 100000 in
set_option maxHeartbeats 1000000 in
theorem word_any (v : Nat) (w : World) (hv : v < 4294967296) :
    Calls Tryd.prog 68 #[.int .u32 v] w (NewBytes (be4 v) w) := by
  go_enter Tryd.func68, Tryd.ntmps68
  go_wp2
  go_ret
  have E := own_lit (w := w) (e := 5) (be4 v) (by rw [be4_len]; decide) #[.int .u8 ((v : Int) / 16777216), .int .u8 ((v : Int) / 65536 % 256), .int .u8 ((v : Int) / 256 % 256), .int .u8 ((v : Int) % 256)] (by
    simp only [be4, List.map_cons, List.map_nil]
    rw [show ((v / 16777216 : Nat) : Int) = (v : Int) / 16777216 by omega, show ((v / 65536 % 256 : Nat) : Int) = (v : Int) / 65536 % 256 by omega, show ((v / 256 % 256 : Nat) : Int) = (v : Int) / 256 % 256 by omega, show ((v % 256 : Nat) : Int) = (v : Int) % 256 by omega])
  exact ⟨_, rfl, E.1, E.2⟩
theorem or_join {i : Nat} {x y : Int} (h0 : 0 ≤ x) (h1 : x % 2 ^ i = 0) (h2 : x < 4294967296) (h3 : 0 ≤ y) (h4 : y < 2 ^ i) (h5 : y < 4294967296) : bits .or .u32 x y = x + y :=
  bits_join .u32 32 (by decide) (fun n h h' => by rw [IntKind.wrap_u32']; omega) i x y h0 h1 h2 h3 h4 h5
set_option maxRecDepth 100000 in
set_option maxHeartbeats 1000000 in
theorem number_any (A : Option Addr) (n c : Nat) (xs : List Int) (w : World) (hA : NRow .u8 w A xs) (hn : xs.length = n) (hb : ByteList xs) (h4 : 4 ≤ n) (hn2 : n ≤ 1099511627776) :
    Calls Tryd.prog 71 #[.slice A n c] w fun e w' => e = .returned (.int .u32 (numB xs)) ∧ ∃ m, w' = w.drewN m := by
  obtain ⟨x0, x1, x2, x3, r, rfl⟩ : ∃ x0 x1 x2 x3 r, xs = x0 :: x1 :: x2 :: x3 :: r := by
    rcases xs with _ | ⟨x0, _ | ⟨x1, _ | ⟨x2, _ | ⟨x3, r⟩⟩⟩⟩ <;> simp only [List.length_nil, List.length_cons] at hn
    · omega
    · omega
    · omega
    · omega
    · exact ⟨x0, x1, x2, x3, r, rfl⟩
  obtain ⟨b, off, rfl, c0⟩ := hA 0 x0 rfl
  obtain ⟨b1, off1, e1, c1⟩ := hA 1 x1 rfl
  obtain ⟨b2, off2, e2, c2⟩ := hA 2 x2 rfl
  obtain ⟨b3, off3, e3, c3⟩ := hA 3 x3 rfl
  injection e1 with e1
  injection e1 with e11 e12
  injection e2 with e2
  injection e2 with e21 e22
  injection e3 with e3
  injection e3 with e31 e32
  subst e11 e12 e21 e22 e31 e32
  obtain ⟨g00, g01⟩ := hb x0 (by simp)
  obtain ⟨g10, g11⟩ := hb x1 (by simp)
  obtain ⟨g20, g21⟩ := hb x2 (by simp)
  obtain ⟨g30, g31⟩ := hb x3 (by simp)
  have HN := Lib.hid hn
  have c0 : w.cell? ⟨b, off, none⟩ = some (.int .u8 x0) := c0
  have i0 : 0 < n := by omega
  have i1 : (1 : Int) < n := by omega
  have i2 : (2 : Int) < n := by omega
  have i3 : (3 : Int) < n := by omega
  have p0 : IntKind.u32.wrap x0 = x0 := by rw [IntKind.wrap_u32']; omega
  have p1 : IntKind.u32.wrap x1 = x1 := by rw [IntKind.wrap_u32']; omega
  have p2 : IntKind.u32.wrap x2 = x2 := by rw [IntKind.wrap_u32']; omega
  have p3 : IntKind.u32.wrap x3 = x3 := by rw [IntKind.wrap_u32']; omega
  have q0 : IntKind.u32.wrap (x0 * 16777216) = x0 * 16777216 := by rw [IntKind.wrap_u32']; omega
  have q1 : IntKind.u32.wrap (x1 * 65536) = x1 * 65536 := by rw [IntKind.wrap_u32']; omega
  have q2 : IntKind.u32.wrap (x2 * 256) = x2 * 256 := by rw [IntKind.wrap_u32']; omega
  have r0 : bits BinOp.or IntKind.u32 (x0 * 16777216) (x1 * 65536) = x0 * 16777216 + x1 * 65536 := or_join (i := 24) (by omega) (by omega) (by omega) (by omega) (by omega) (by omega)
  have r1 : bits BinOp.or IntKind.u32 (x0 * 16777216 + x1 * 65536) (x2 * 256) = x0 * 16777216 + x1 * 65536 + x2 * 256 := or_join (i := 16) (by omega) (by omega) (by omega) (by omega) (by omega) (by omega)
  have r2 : bits BinOp.or IntKind.u32 (x0 * 16777216 + x1 * 65536 + x2 * 256) x3 = x0 * 16777216 + x1 * 65536 + x2 * 256 + x3 := or_join (i := 8) (by omega) (by omega) (by omega) (by omega) (by omega) (by omega)
  clear hA hb hn g00 g01 g10 g11 g20 g21 g30 g31
  go_enter Tryd.func71, Tryd.ntmps71
  go_wp2
  go_quiet (fail)
  go_wp2
  go_ret
  exact ⟨rfl, _, rfl⟩
end Fr
end Go.Proofs.YtekleamkpfeifaaDoor
