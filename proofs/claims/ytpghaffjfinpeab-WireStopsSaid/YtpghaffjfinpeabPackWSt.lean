/-
  A writer's state; what a call makes of the writer.
-/
import Derived.Test.YtpghaffjfinpeabMem
import Derived.Test.YtpghaffjfinpeabPackZig
namespace Go.Proofs.Ytpghaffjfinpeab
namespace Pk
open Go.RowKit
/-- A writer: all that was written, or the first error. -/
inductive WSt where
  | ok (bs : List Int)
  | bad (e : Int)
def WSt.put (l : List Int) : WSt → WSt
  | .ok bs => .ok (bs ++ l)
  | .bad e => .bad e
def WSt.fail (e : Int) : WSt → WSt
  | .ok _ => .bad e
  | .bad e' => .bad e'
def WSt.text (l : List Int) (s : WSt) : WSt := if 131072 < l.length then s.fail 5 else s.put (enc l.length ++ l)
def WSt.out : WSt → List Int
  | .ok bs => bs
  | .bad _ => []
def WSt.err : WSt → Int
  | .ok _ => 0
  | .bad e => e

def Wrote (Wr : World → Nat → List Nat → WSt → Nat → Prop) (p : Nat) (fp : List Nat) (s : WSt) (m : Nat) (w : World) (r : Ending) (w' : World) : Prop :=
  r = .returned (.tuple #[]) ∧ ∃ fp', Wr w' p fp' s m ∧ Step w w' fp fp'
end Pk
end Go.Proofs.Ytpghaffjfinpeab
