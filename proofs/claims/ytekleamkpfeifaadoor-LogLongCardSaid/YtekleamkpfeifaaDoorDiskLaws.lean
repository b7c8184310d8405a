/-
  What the statements' walks ask of the program's Disk.
  D w p fp s m: at block p stands a Disk in the state s that keeps at most m bytes; fp are its blocks.
-/
import Derived.Test.YtekleamkpfeifaaDoorDiskSt
import Derived.Test.YtekleamkpfeifaaDoorTextRow
import Derived.Test.YtekleamkpfeifaaDoorMemStep
namespace Go.Proofs.YtekleamkpfeifaaDoor
namespace Dk
open Go.RowKit
/-- The Disk at p answers r0 and is then in the state s. -/
def Does (D : World → Nat → List Nat → DSt → Nat → Prop) (p : Nat) (fp : List Nat) (s : DSt) (m : Nat) (r0 : Value) (w : World) (r : Ending) (w' : World) : Prop :=
  r = .returned r0 ∧ ∃ fp', D w' p fp' s m ∧ Step w w' fp fp'
/-- Bytes that are lent: what they read as, and that they are none of the Disk's. -/
structure Lent (w : World) (fp : List Nat) (A : Option Addr) (n c : Nat) (ys : List Int) : Prop where
  row : NRow .u8 w A ys
  len : ys.length = n
  nil : A = none → c = 0
  room : n ≤ c ∧ c ≤ 9223372036854775807
  bytes : ByteList ys
  far : ∀ k ∈ rowX A ys, k ∉ fp
structure DLaws (D : World → Nat → List Nat → DSt → Nat → Prop) : Prop where
  stays : ∀ {w w' : World} {p : Nat} {fp : List Nat} {s : DSt} {m : Nat}, D w p fp s m → (∀ k ∈ fp, w'.heap[k]? = w.heap[k]?) → D w' p fp s m
  lt : ∀ {w : World} {p : Nat} {fp : List Nat} {s : DSt} {m : Nat}, D w p fp s m → ∀ k ∈ fp, k < w.heap.size
  fits : ∀ {w : World} {p : Nat} {fp : List Nat} {s : DSt} {m : Nat}, D w p fp s m → s.bs.length ≤ m
  bytes : ∀ {w : World} {p : Nat} {fp : List Nat} {s : DSt} {m : Nat}, D w p fp s m → ByteList s.bs
  ok : ∀ {w : World} {p : Nat} {fp : List Nat} {s : DSt} {m : Nat}, D w p fp s m → s.Ok
  new : ∀ (w : World), Calls Tryd.prog 11 #[] w fun r w' => ∃ p fp, r = .returned (.pointer (some ⟨p, 0, none⟩)) ∧ D w' p fp ⟨[], 0, false, none⟩ 0 ∧ Step w w' [] fp
  append : ∀ (p : Nat) (fp : List Nat) (s : DSt) (m : Nat) (A : Option Addr) (n c : Nat) (ys : List Int) (w : World), D w p fp s m → Lent w fp A n c ys → m + n ≤ 35184372088832 →
    Calls Tryd.prog 23 #[.pointer (some ⟨p, 0, none⟩), .slice A n c] w (Does D p fp (s.add ys) (m + n) (.int .i64 s.off) w)
  sync : ∀ (p : Nat) (fp : List Nat) (s : DSt) (m : Nat) (w : World), D w p fp s m → m ≤ 35184372088832 → Calls Tryd.prog 44 #[.pointer (some ⟨p, 0, none⟩)] w (Does D p fp s.sync.2 m (.int .i64 s.sync.1) w)
  cut : ∀ (p : Nat) (fp : List Nat) (s : DSt) (m : Nat) (n : Int) (w : World), D w p fp s m → m ≤ 35184372088832 → -9223372036854775808 ≤ n → n ≤ 9223372036854775807 →
    Calls Tryd.prog 38 #[.pointer (some ⟨p, 0, none⟩), .int .i64 n] w (Does D p fp (s.cut n).2 m (.int .i64 (s.cut n).1) w)
  swap : ∀ (p : Nat) (fp : List Nat) (s : DSt) (m : Nat) (A : Option Addr) (n c : Nat) (ys : List Int) (w : World), D w p fp s m → Lent w fp A n c ys → m + n ≤ 35184372088832 →
    Calls Tryd.prog 47 #[.pointer (some ⟨p, 0, none⟩), .slice A n c] w (Does D p fp (s.swap ys).2 (m + n) (.int .i64 (s.swap ys).1) w)
  read : ∀ (p : Nat) (fp : List Nat) (s : DSt) (m : Nat) (w : World), D w p fp s m → m ≤ 35184372088832 →
    Calls Tryd.prog 29 #[.pointer (some ⟨p, 0, none⟩)] w fun r w' => ∃ v fp', r = .returned (.tuple #[v, .int .i64 s.off]) ∧ TRow w' v s.read.length s.read ∧ (∀ k ∈ rowOf v, w.heap.size ≤ k ∧ k ∉ fp') ∧ D w' p fp' s m ∧ Step w w' fp fp'
  synced : ∀ (p : Nat) (fp : List Nat) (s : DSt) (m : Nat) (w : World), D w p fp s m → m ≤ 35184372088832 → Calls Tryd.prog 39 #[.pointer (some ⟨p, 0, none⟩)] w (Does D p fp s m (.int .i64 s.safe) w)
  off : ∀ (p : Nat) (fp : List Nat) (s : DSt) (m : Nat) (w : World), D w p fp s m → Calls Tryd.prog 28 #[.pointer (some ⟨p, 0, none⟩)] w (Does D p fp s m (.bool s.dead) w)
  trip : ∀ (p : Nat) (fp : List Nat) (s : DSt) (m : Nat) (k : Int) (w : World), D w p fp s m → -9223372036854775808 ≤ k → k ≤ 9223372036854775807 → Calls Tryd.prog 19 #[.pointer (some ⟨p, 0, none⟩), .int .i64 k] w (Does D p fp (s.arm k) m (.tuple #[]) w)
  crash : ∀ (p : Nat) (fp : List Nat) (s : DSt) (m : Nat) (k : Int) (w : World), D w p fp s m → m ≤ 35184372088832 → -9223372036854775808 ≤ k → k ≤ 9223372036854775807 → Calls Tryd.prog 21 #[.pointer (some ⟨p, 0, none⟩), .int .i64 k] w (Does D p fp (s.crash k) m (.tuple #[]) w)
  start : ∀ (p : Nat) (fp : List Nat) (s : DSt) (m : Nat) (w : World), D w p fp s m → m ≤ 35184372088832 → Calls Tryd.prog 34 #[.pointer (some ⟨p, 0, none⟩)] w (Does D p fp s.start m (.tuple #[]) w)
end Dk
end Go.Proofs.YtekleamkpfeifaaDoor
