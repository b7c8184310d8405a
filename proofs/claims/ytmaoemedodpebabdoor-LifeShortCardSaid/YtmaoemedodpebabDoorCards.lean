/-
  DERIVED. GIVEN WITH THE SEED: THE CARDS: each row of YtmaoemedodpebabDoorRows.lean that lists a variable, with what it lists TIED to the program's text (the seventh form; the later family's looks); each row that meets fmt, with fmt's text TOLD by the authors' own Lean function (tested against real Go, not proved from fmt's source: count such statements apart). THE CARD IS WHAT COUNTS. Prove the row's statement (the work); the ties are given (YtmaoemedodpebabDoorTie.lean); close each card by the builder's one call (the guide's Derived/Test/ToyasCard.lean, 'card_holds'). Laid BY PROGRAM, IN A SANDBOX (cutbox-door.mjs). By AI agents, Wed Nov 11 2026. No macro, syntax, notation, axiom, sorry.
-/
import Derived.Test.YtmaoemedodpebabDoorRows
import GoSem.ClaimSeven
namespace Go.Proofs.YtmaoemedodpebabDoor
namespace Rows

/-- THE TIED CARD OF 'hanselaw10.LifeShort'. -/
def lifeShortCard : Claim7 := { stood := { row := lifeShortRow, standIns := [], harness := (true, "bfa5f0d5ca42b20c05ebc4f0ba985d1a7e1ed602d40d679d28aacefaec79beb5"), looks := false }, kinds := [], alts := [], laidByText := true, laidKinds := [.widerDeep], laidTests := true, laidLooks := .later }
def LifeShortCardSaid : Prop := Claim7.holds Tryd.pinned (.plain (OpenSpec.ofChange lifeShortSpec)) lifeShortCard

/-- THE SECOND FORM's CARD OF 'hanselaw10.LifeShort'. -/
def lifeShortUptoCard : Claim7 := { stood := { row := lifeShortUptoRow, standIns := [], harness := (true, "bfa5f0d5ca42b20c05ebc4f0ba985d1a7e1ed602d40d679d28aacefaec79beb5"), looks := false }, kinds := [], alts := [], laidByText := true, laidKinds := [.widerDeep], laidTests := true, laidLooks := .later }
def LifeShortUptoCardSaid : Prop := Claim7.holds Tryd.pinned (.plain (OpenSpec.upto lifeShortSpec)) lifeShortUptoCard
end Rows
end Go.Proofs.YtmaoemedodpebabDoor
