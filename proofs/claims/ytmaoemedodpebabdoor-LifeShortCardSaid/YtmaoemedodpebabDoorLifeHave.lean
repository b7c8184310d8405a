/-
  What the statements' walks ask of the program's life: the developers' life keeps it.
-/
import Derived.Test.YtmaoemedodpebabDoorLifeWay
namespace Go.Proofs.YtmaoemedodpebabDoor
namespace Lf
theorem lfLaws : LfLaws where
  next := next_any
  walk := fun st A n c xs w h1 h2 h3 h4 => walk_any st A n c xs w h1 h2 h3 h4
  way := way_any
end Lf
end Go.Proofs.YtmaoemedodpebabDoor
