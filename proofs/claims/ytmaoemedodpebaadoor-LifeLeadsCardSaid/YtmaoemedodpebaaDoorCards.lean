/-
  DERIVED. GIVEN WITH THE SEED: THE CARDS: each row of YtmaoemedodpebaaDoorRows.lean that lists a variable, with what it lists TIED to the program's text (the seventh form; the later family's looks); each row that meets fmt, with fmt's text TOLD by the authors' own Lean function (tested against real Go, not proved from fmt's source: count such statements apart). THE CARD IS WHAT COUNTS. Prove the row's statement (the work); the ties are given (YtmaoemedodpebaaDoorTie.lean); close each card by the builder's one call (the guide's Derived/Test/ToyasCard.lean, 'card_holds'). Laid BY PROGRAM, IN A SANDBOX (cutbox-door.mjs). By AI agents, Wed Nov 11 2026. No macro, syntax, notation, axiom, sorry.
-/
import Derived.Test.YtmaoemedodpebaaDoorRows
import GoSem.ClaimSeven
namespace Go.Proofs.YtmaoemedodpebaaDoor
namespace Rows

/-- THE TIED CARD OF 'hanselaw10.LifeExact'. -/
def lifeExactCard : Claim7 := { stood := { row := lifeExactRow, standIns := [], harness := (true, "ea05e561bb2d973ba4781046158cd1890c71a0f232752ab71a474f71dbff4e07"), looks := false }, kinds := [], alts := [], laidByText := true, laidKinds := [.widerDeep], laidTests := true, laidLooks := .later }
def LifeExactCardSaid : Prop := Claim7.holds Tryd.pinned (.plain (OpenSpec.ofChange lifeExactSpec)) lifeExactCard

/-- THE TIED CARD OF 'hanselaw10.LifeWays'. -/
def lifeWaysCard : Claim7 := { stood := { row := lifeWaysRow, standIns := [], harness := (true, "ea05e561bb2d973ba4781046158cd1890c71a0f232752ab71a474f71dbff4e07"), looks := false }, kinds := [], alts := [], laidByText := true, laidKinds := [.widerDeep], laidTests := true, laidLooks := .later }
def LifeWaysCardSaid : Prop := Claim7.holds Tryd.pinned (.plain (OpenSpec.ofChange lifeWaysSpec)) lifeWaysCard

/-- THE TIED CARD OF 'hanselaw10.LifeLeads'. -/
def lifeLeadsCard : Claim7 := { stood := { row := lifeLeadsRow, standIns := [], harness := (true, "ea05e561bb2d973ba4781046158cd1890c71a0f232752ab71a474f71dbff4e07"), looks := false }, kinds := [], alts := [], laidByText := true, laidKinds := [.widerDeep], laidTests := true, laidLooks := .later }
def LifeLeadsCardSaid : Prop := Claim7.holds Tryd.pinned (.plain (OpenSpec.ofChange lifeLeadsSpec)) lifeLeadsCard

/-- THE TIED CARD OF 'hanselaw10.LifeStarts'. -/
def lifeStartsCard : Claim7 := { stood := { row := lifeStartsRow, standIns := [], harness := (true, "ea05e561bb2d973ba4781046158cd1890c71a0f232752ab71a474f71dbff4e07"), looks := false }, kinds := [], alts := [], laidByText := true, laidKinds := [.widerDeep], laidTests := true, laidLooks := .later }
def LifeStartsCardSaid : Prop := Claim7.holds Tryd.pinned (.plain (OpenSpec.ofChange lifeStartsSpec)) lifeStartsCard

/-- THE TIED CARD OF 'hanselaw10.LifeParts'. -/
def lifePartsCard : Claim7 := { stood := { row := lifePartsRow, standIns := [], harness := (true, "ea05e561bb2d973ba4781046158cd1890c71a0f232752ab71a474f71dbff4e07"), looks := false }, kinds := [], alts := [], laidByText := true, laidKinds := [.widerDeep], laidTests := true, laidLooks := .later }
def LifePartsCardSaid : Prop := Claim7.holds Tryd.pinned (.plain (OpenSpec.ofChange lifePartsSpec)) lifePartsCard

/-- THE TIED CARD OF 'hanselaw10.LifeReaches'. -/
def lifeReachesCard : Claim7 := { stood := { row := lifeReachesRow, standIns := [], harness := (true, "ea05e561bb2d973ba4781046158cd1890c71a0f232752ab71a474f71dbff4e07"), looks := false }, kinds := [], alts := [], laidByText := true, laidKinds := [.widerDeep], laidTests := true, laidLooks := .later }
def LifeReachesCardSaid : Prop := Claim7.holds Tryd.pinned (.plain (OpenSpec.ofChange lifeReachesSpec)) lifeReachesCard

/-- THE SECOND FORM's CARD OF 'hanselaw10.LifeExact'. -/
def lifeExactUptoCard : Claim7 := { stood := { row := lifeExactUptoRow, standIns := [], harness := (true, "ea05e561bb2d973ba4781046158cd1890c71a0f232752ab71a474f71dbff4e07"), looks := false }, kinds := [], alts := [], laidByText := true, laidKinds := [.widerDeep], laidTests := true, laidLooks := .later }
def LifeExactUptoCardSaid : Prop := Claim7.holds Tryd.pinned (.plain (OpenSpec.upto lifeExactSpec)) lifeExactUptoCard

/-- THE SECOND FORM's CARD OF 'hanselaw10.LifeWays'. -/
def lifeWaysUptoCard : Claim7 := { stood := { row := lifeWaysUptoRow, standIns := [], harness := (true, "ea05e561bb2d973ba4781046158cd1890c71a0f232752ab71a474f71dbff4e07"), looks := false }, kinds := [], alts := [], laidByText := true, laidKinds := [.widerDeep], laidTests := true, laidLooks := .later }
def LifeWaysUptoCardSaid : Prop := Claim7.holds Tryd.pinned (.plain (OpenSpec.upto lifeWaysSpec)) lifeWaysUptoCard

/-- THE SECOND FORM's CARD OF 'hanselaw10.LifeLeads'. -/
def lifeLeadsUptoCard : Claim7 := { stood := { row := lifeLeadsUptoRow, standIns := [], harness := (true, "ea05e561bb2d973ba4781046158cd1890c71a0f232752ab71a474f71dbff4e07"), looks := false }, kinds := [], alts := [], laidByText := true, laidKinds := [.widerDeep], laidTests := true, laidLooks := .later }
def LifeLeadsUptoCardSaid : Prop := Claim7.holds Tryd.pinned (.plain (OpenSpec.upto lifeLeadsSpec)) lifeLeadsUptoCard

/-- THE SECOND FORM's CARD OF 'hanselaw10.LifeStarts'. -/
def lifeStartsUptoCard : Claim7 := { stood := { row := lifeStartsUptoRow, standIns := [], harness := (true, "ea05e561bb2d973ba4781046158cd1890c71a0f232752ab71a474f71dbff4e07"), looks := false }, kinds := [], alts := [], laidByText := true, laidKinds := [.widerDeep], laidTests := true, laidLooks := .later }
def LifeStartsUptoCardSaid : Prop := Claim7.holds Tryd.pinned (.plain (OpenSpec.upto lifeStartsSpec)) lifeStartsUptoCard

/-- THE SECOND FORM's CARD OF 'hanselaw10.LifeParts'. -/
def lifePartsUptoCard : Claim7 := { stood := { row := lifePartsUptoRow, standIns := [], harness := (true, "ea05e561bb2d973ba4781046158cd1890c71a0f232752ab71a474f71dbff4e07"), looks := false }, kinds := [], alts := [], laidByText := true, laidKinds := [.widerDeep], laidTests := true, laidLooks := .later }
def LifePartsUptoCardSaid : Prop := Claim7.holds Tryd.pinned (.plain (OpenSpec.upto lifePartsSpec)) lifePartsUptoCard

/-- THE SECOND FORM's CARD OF 'hanselaw10.LifeReaches'. -/
def lifeReachesUptoCard : Claim7 := { stood := { row := lifeReachesUptoRow, standIns := [], harness := (true, "ea05e561bb2d973ba4781046158cd1890c71a0f232752ab71a474f71dbff4e07"), looks := false }, kinds := [], alts := [], laidByText := true, laidKinds := [.widerDeep], laidTests := true, laidLooks := .later }
def LifeReachesUptoCardSaid : Prop := Claim7.holds Tryd.pinned (.plain (OpenSpec.upto lifeReachesSpec)) lifeReachesUptoCard
end Rows
end Go.Proofs.YtmaoemedodpebaaDoor
