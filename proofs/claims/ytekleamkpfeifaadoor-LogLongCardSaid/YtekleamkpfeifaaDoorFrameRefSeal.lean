/-
  CONTRACTS of hanseref04.four, number, Seal.
-/
import Derived.Test.YtekleamkpfeifaaDoorFrameRefSum
import Derived.Test.YtekleamkpfeifaaDoorMemStep
import Derived.Deep.QuietTactic
import Derived.BigQuiet
namespace Go.Proofs.YtekleamkpfeifaaDoor
namespace Fr
open Go.RowKit
theorem own_moved {w w' : World} {base : Nat} {e : TypeId} {size : Nat} {v : Value} {n : Nat} {xs : List Value} {S : List Nat} (h : w.ownsRow base e size v n xs) (hM : Moved w w' S) (hd : ∀ k ∈ rowOf v, k ∉ S) : w'.ownsRow base e size v n xs :=
  own_stays h (fun k hk => hM.block k (own_lt h k hk) (hd k hk))
/-- Four bytes of a number, the highest first. -/
def be4 (v : Nat) : List Int := [((v / 16777216 : Nat) : Int), ((v / 65536 % 256 : Nat) : Int), ((v / 256 % 256 : Nat) : Int), ((v % 256 : Nat) : Int)]
theorem be4_len (v : Nat) : (be4 v).length = 4 := rfl
theorem be4_bytes {v : Nat} (h : v < 4294967296) : ByteList (be4 v) := by
  intro x hx
  simp only [be4, List.mem_cons, List.not_mem_nil, or_false] at hx
  rcases hx with rfl | rfl | rfl | rfl <;> omega
/-- A literal of bytes, new. -/
theorem own_lit {w : World} {e : TypeId} (xs : List Int) (hm : xs.length ≤ maxLen) (cs : Array Value) (hcs : cs.toList = xs.map (Value.int .u8)) :
    (w.alloc (.cells cs e)).ownsRow 0 e 1 (.slice (some ⟨w.heap.size, 0, none⟩) xs.length xs.length) xs.length (xs.map (Value.int .u8)) ∧ Step w (w.alloc (.cells cs e)) [] (rowOf (.slice (some ⟨w.heap.size, 0, none⟩) xs.length xs.length)) := by
  have hs : cs.size = xs.length * 1 := by rw [← Array.length_toList, hcs]; simp
  refine ⟨?_, (Moved.refl w []).alloc _, fun k hk => .inr (by have h1 : w.heap.size = k := (by simpa [mem_rowOf, Value.ownBlock] using hk); omega)⟩
  have h := World.ownsRow_lit (e := e) (size := 1) (base := 0) w cs xs.length (by omega) hm hs
  rw [← hcs]; exact h
set_option maxRecDepth 100000 in
set_option maxHeartbeats 1000000 in
theorem reffour_any (v : Nat) (w : World) (hv : v < 4294967296) :
    Calls Tryd.prog 59 #[.int .u32 v] w (NewBytes (be4 v) w) := by
  go_enter Tryd.func59, Tryd.ntmps59
  go_wp2
  go_ret
  have E := own_lit (w := w) (e := 5) (be4 v) (by rw [be4_len]; decide) #[.int .u8 ((v : Int) / 16777216), .int .u8 ((v : Int) / 65536 % 256), .int .u8 ((v : Int) / 256 % 256), .int .u8 ((v : Int) % 256)] (by
    simp only [be4, List.map_cons, List.map_nil]
    rw [show ((v / 16777216 : Nat) : Int) = (v : Int) / 16777216 by omega, show ((v / 65536 % 256 : Nat) : Int) = (v : Int) / 65536 % 256 by omega, show ((v / 256 % 256 : Nat) : Int) = (v : Int) / 256 % 256 by omega, show ((v % 256 : Nat) : Int) = (v : Int) % 256 by omega])
  exact ⟨_, rfl, E.1, E.2⟩
/-- The number that the first four bytes make. -/
def numB (xs : List Int) : Int := xs.getD 0 0 * 16777216 + xs.getD 1 0 * 65536 + xs.getD 2 0 * 256 + xs.getD 3 0
set_option maxRecDepth 100000 in
set_option maxHeartbeats 1000000 in
theorem refnumber_any (A : Option Addr) (n c : Nat) (xs : List Int) (w : World) (hA : NRow .u8 w A xs) (hn : xs.length = n) (hb : ByteList xs) (h4 : 4 ≤ n) (hn2 : n ≤ 70368744177664) :
    Calls Tryd.prog 67 #[.slice A n c] w fun e w' => e = .returned (.int .i64 (numB xs)) ∧ ∃ m, w' = w.drewN m := by
  obtain ⟨x0, x1, x2, x3, r, rfl⟩ : ∃ x0 x1 x2 x3 r, xs = x0 :: x1 :: x2 :: x3 :: r := by
    rcases xs with _ | ⟨x0, _ | ⟨x1, _ | ⟨x2, _ | ⟨x3, r⟩⟩⟩⟩ <;> simp only [List.length_nil, List.length_cons] at hn
    · omega
    · omega
    · omega
    · omega
    · exact ⟨x0, x1, x2, x3, r, rfl⟩
  obtain ⟨b, off, rfl, c0⟩ := hA 0 x0 rfl
  obtain ⟨b1, off1, e1, c1⟩ := hA 1 x1 rfl
  obtain ⟨b2, off2, e2, c2⟩ := hA 2 x2 rfl
  obtain ⟨b3, off3, e3, c3⟩ := hA 3 x3 rfl
  injection e1 with e1
  injection e1 with e11 e12
  injection e2 with e2
  injection e2 with e21 e22
  injection e3 with e3
  injection e3 with e31 e32
  subst e11 e12 e21 e22 e31 e32
  have g0 := hb x0 (by simp)
  have g1 := hb x1 (by simp)
  have g2 := hb x2 (by simp)
  have g3 := hb x3 (by simp)
  obtain ⟨g00, g01⟩ := g0
  obtain ⟨g10, g11⟩ := g1
  obtain ⟨g20, g21⟩ := g2
  obtain ⟨g30, g31⟩ := g3
  have HN := Lib.hid hn
  have c0 : w.cell? ⟨b, off, none⟩ = some (.int .u8 x0) := c0
  have i0 : 0 < n := by omega
  have i1 : (1 : Int) < n := by omega
  have i2 : (2 : Int) < n := by omega
  have i3 : (3 : Int) < n := by omega
  have p0 : IntKind.i64.wrap x0 = x0 := IntWalk.i64_in _ (by omega)
  have p1 : IntKind.i64.wrap x1 = x1 := IntWalk.i64_in _ (by omega)
  have p2 : IntKind.i64.wrap x2 = x2 := IntWalk.i64_in _ (by omega)
  have p3 : IntKind.i64.wrap x3 = x3 := IntWalk.i64_in _ (by omega)
  have q0 : IntKind.i64.wrap (x0 * 16777216) = x0 * 16777216 := IntWalk.i64_in _ (by omega)
  have q1 : IntKind.i64.wrap (x1 * 65536) = x1 * 65536 := IntWalk.i64_in _ (by omega)
  have q2 : IntKind.i64.wrap (x2 * 256) = x2 * 256 := IntWalk.i64_in _ (by omega)
  have r0 : IntKind.i64.wrap (x0 * 16777216 + x1 * 65536) = x0 * 16777216 + x1 * 65536 := IntWalk.i64_in _ (by omega)
  have r1 : IntKind.i64.wrap (x0 * 16777216 + x1 * 65536 + x2 * 256) = x0 * 16777216 + x1 * 65536 + x2 * 256 := IntWalk.i64_in _ (by omega)
  have r2 : IntKind.i64.wrap (x0 * 16777216 + x1 * 65536 + x2 * 256 + x3) = x0 * 16777216 + x1 * 65536 + x2 * 256 + x3 := IntWalk.i64_in _ (by omega)
  clear hA hb hn g00 g01 g10 g11 g20 g21 g30 g31
  go_enter Tryd.func67, Tryd.ntmps67
  go_wp2
  go_quiet (fail)
  go_wp2
  go_ret
  exact ⟨rfl, _, rfl⟩
end Fr
end Go.Proofs.YtekleamkpfeifaaDoor
