/-
  What the statements' walks ask of the program's life.
-/
import Derived.Test.YtmaoemedodpebabDoorChecked
import Derived.Test.YtmaoemedodpebabDoorLifePlain
import Derived.Test.YtmaoemedodpebabDoorLifeLd
namespace Go.Proofs.YtmaoemedodpebabDoor
namespace Lf
open Go.RowKit
/-- A row of ints that is new, where there is one; what came in the other place: is there one? -/
def WayTold (o : Option (List Int)) (w : World) (r : Ending) (w' : World) : Prop :=
  ∃ v, r = .returned (.tuple #[v, .bool o.isSome]) ∧ w'.ownsRow 0 3 1 v (o.getD []).length ((o.getD []).map (Value.int .i64)) ∧ (∀ k ∈ rowOf v, w.heap.size ≤ k) ∧ Moved w w' []
structure LfLaws : Prop where
  next : ∀ (st ev : Int) (w : World), Ld w → Calls Tryd.prog 10 #[.int .i64 st, .int .i64 ev] w fun r w' => r = .returned (.tuple #[.int .i64 ((nxt st ev).getD 0), .bool (nxt st ev).isSome]) ∧ Moved w w' []
  walk : ∀ (st : Int) (A : Option Addr) (n c : Nat) (xs : List Int) (w : World), IRow w A xs → xs.length = n → n ≤ 1048576 → Ld w →
    Calls Tryd.prog 4 #[.int .i64 st, .slice A n c] w fun r w' => r = .returned (.tuple #[.int .i64 (walkL st xs).1, .int .i64 (walkL st xs).2]) ∧ Moved w w' []
  way : ∀ (a b : Int) (w : World), Ld w → Calls Tryd.prog 5 #[.int .i64 a, .int .i64 b] w (WayTold (wayL a b) w)
end Lf
end Go.Proofs.YtmaoemedodpebabDoor
