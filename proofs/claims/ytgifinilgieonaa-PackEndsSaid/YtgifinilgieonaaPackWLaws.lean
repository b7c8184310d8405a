/-
  What the statements' walks ask of the program's Writer.
  Wr w p fp s m: at block p stands a Writer in the state s; fp are its blocks; it keeps at most m bytes.
-/
import Derived.Test.YtgifinilgieonaaPackReads
import Derived.Test.YtgifinilgieonaaPackCanon
namespace Go.Proofs.Ytgifinilgieonaa
namespace Pk
open Go.RowKit Am

/-- A writer: all that was written, or the first error. -/
inductive WSt where
  | ok (bs : List Int)
  | bad (e : Int)
def WSt.put (l : List Int) : WSt → WSt
  | .ok bs => .ok (bs ++ l)
  | .bad e => .bad e
def WSt.fail (e : Int) : WSt → WSt
  | .ok _ => .bad e
  | .bad e' => .bad e'
def WSt.text (l : List Int) (s : WSt) : WSt := if 131072 < l.length then s.fail 5 else s.put (enc l.length ++ l)
def WSt.out : WSt → List Int
  | .ok bs => bs
  | .bad _ => []
def WSt.err : WSt → Int
  | .ok _ => 0
  | .bad e => e

def Wrote (Wr : World → Nat → List Nat → WSt → Nat → Prop) (p : Nat) (fp : List Nat) (s : WSt) (m : Nat) (w : World) (r : Ending) (w' : World) : Prop :=
  r = .returned (.tuple #[]) ∧ ∃ fp', Wr w' p fp' s m ∧ Step w w' fp fp'

structure WLaws (Wr : World → Nat → List Nat → WSt → Nat → Prop) : Prop where
  stays : ∀ {w w' : World} {p : Nat} {fp : List Nat} {s : WSt} {m : Nat}, Wr w p fp s m → (∀ k ∈ fp, w'.heap[k]? = w.heap[k]?) → Wr w' p fp s m
  lt : ∀ {w : World} {p : Nat} {fp : List Nat} {s : WSt} {m : Nat}, Wr w p fp s m → ∀ k ∈ fp, k < w.heap.size
  fine : ∀ {w : World} {p : Nat} {fp : List Nat} {e : Int} {m : Nat}, Wr w p fp (.bad e) m → e ≠ 0
  fits : ∀ {w : World} {p : Nat} {fp : List Nat} {bs : List Int} {m : Nat}, Wr w p fp (.ok bs) m → bs.length ≤ m
  new : ∀ (w : World), Wr (w.alloc (.cells #[.slice none 0 0, .int .i64 0, .pointer none] 39)) w.heap.size [w.heap.size] (.ok []) 0
  uint : ∀ (p : Nat) (fp : List Nat) (s : WSt) (m v : Nat) (w : World), Wr w p fp s m → v < 18446744073709551616 → m ≤ 35184372088832 → Calls Try.prog 16 #[.pointer (some ⟨p, 0, none⟩), .int .u64 v] w (Wrote Wr p fp (s.put (enc v)) (m + 10) w)
  int : ∀ (p : Nat) (fp : List Nat) (s : WSt) (m : Nat) (n : Int) (w : World), Wr w p fp s m → -9223372036854775808 ≤ n → n ≤ 9223372036854775807 → m ≤ 35184372088832 → Calls Try.prog 18 #[.pointer (some ⟨p, 0, none⟩), .int .i64 n] w (Wrote Wr p fp (s.put (enc (zig n))) (m + 10) w)
  mark : ∀ (p : Nat) (fp : List Nat) (s : WSt) (m : Nat) (b : Bool) (w : World), Wr w p fp s m → m ≤ 35184372088832 → Calls Try.prog 20 #[.pointer (some ⟨p, 0, none⟩), .bool b] w (Wrote Wr p fp (s.put (enc (if b then 1 else 0))) (m + 10) w)
  text : ∀ (p : Nat) (fp : List Nat) (s : WSt) (m : Nat) (A : Option Addr) (n c : Nat) (l : List Int) (w : World), Wr w p fp s m → NRow .u8 w A l → l.length = n → (A = none → c = 0) → (∀ k ∈ rowX A l, k ∉ fp) → n ≤ 35184372088832 → m ≤ 35184372088832 →
    Calls Try.prog 22 #[.pointer (some ⟨p, 0, none⟩), .slice A n c] w (Wrote Wr p fp (s.text l) (m + 131082) w)
  amount : ∀ (p : Nat) (fp : List Nat) (s : WSt) (m n l : Nat) (w : World), Wr w p fp s m → n ≤ 1048576 → l ≤ 1048576 → m ≤ 35184372088832 → Calls Try.prog 24 #[.pointer (some ⟨p, 0, none⟩), amt n l] w (Wrote Wr p fp (s.put (enc n ++ enc l)) (m + 20) w)
  bytes : ∀ (p : Nat) (fp : List Nat) (s : WSt) (m : Nat) (w : World), Wr w p fp s m → m ≤ 35184372088832 + 131082 →
    Calls Try.prog 26 #[.pointer (some ⟨p, 0, none⟩)] w fun r w' => ∃ v, r = .returned (.tuple #[v, .int .i64 s.err]) ∧ w'.ownsRow 0 5 1 v s.out.length (s.out.map (Value.int .u8)) ∧ Step w w' [] (rowOf v)

/-- A Reader at p and a Writer at p2, their blocks apart. -/
structure Duo (R : World → Nat → List Nat → St → Prop) (Wr : World → Nat → List Nat → WSt → Nat → Prop) (w : World) (p : Nat) (fp : List Nat) (st : St) (p2 : Nat) (fp2 : List Nat) (s : WSt) (m : Nat) : Prop where
  rd : R w p fp st
  wt : Wr w p2 fp2 s m
  apart : ∀ k ∈ fp, k ∉ fp2
theorem Duo.read {R : World → Nat → List Nat → St → Prop} {Wr : World → Nat → List Nat → WSt → Nat → Prop} (V : WLaws Wr) {w w1 : World} {p : Nat} {fp fp1 : List Nat} {st st1 : St} {p2 : Nat} {fp2 : List Nat} {s : WSt} {m : Nat}
    (h : Duo R Wr w p fp st p2 fp2 s m) (h1 : R w1 p fp1 st1) (hS : Step w w1 fp fp1) : Duo R Wr w1 p fp1 st1 p2 fp2 s m ∧ Step w w1 (fp ++ fp2) (fp1 ++ fp2) := by
  refine ⟨⟨h1, V.stays h.wt (fun k hk => hS.1.block k (V.lt h.wt k hk) (fun hm => h.apart k hm hk)), fun k hk h2 => ?_⟩, hS.1.mono (fun k hk => by simp [hk]), fun k hk => ?_⟩
  · rcases hS.2 k hk with h' | h'
    · exact h.apart k h' h2
    · have := V.lt h.wt k h2; omega
  · rcases List.mem_append.1 hk with hk | hk
    · rcases hS.2 k hk with h' | h'
      · exact .inl (by simp [h'])
      · exact .inr h'
    · exact .inl (by simp [hk])
theorem Duo.write {R : World → Nat → List Nat → St → Prop} {Wr : World → Nat → List Nat → WSt → Nat → Prop} (L : RLaws R) {w w1 : World} {p : Nat} {fp fp3 : List Nat} {st : St} {p2 : Nat} {fp2 : List Nat} {s s1 : WSt} {m m1 : Nat}
    (h : Duo R Wr w p fp st p2 fp2 s m) (h1 : Wr w1 p2 fp3 s1 m1) (hS : Step w w1 fp2 fp3) : Duo R Wr w1 p fp st p2 fp3 s1 m1 ∧ Step w w1 (fp ++ fp2) (fp ++ fp3) := by
  refine ⟨⟨L.stays h.rd (fun k hk => hS.1.block k (L.lt h.rd k hk) (fun hm => h.apart k hk hm)), h1, fun k hk h2 => ?_⟩, hS.1.mono (fun k hk => by simp [hk]), fun k hk => ?_⟩
  · rcases hS.2 k h2 with h' | h'
    · exact h.apart k hk h'
    · have := L.lt h.rd k hk; omega
  · rcases List.mem_append.1 hk with hk | hk
    · exact .inl (by simp [hk])
    · rcases hS.2 k hk with h' | h'
      · exact .inl (by simp [h'])
      · exact .inr h'
end Pk
end Go.Proofs.Ytgifinilgieonaa
