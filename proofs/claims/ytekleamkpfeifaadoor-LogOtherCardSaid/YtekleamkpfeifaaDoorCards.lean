/-
  DERIVED. GIVEN WITH THE SEED: THE CARDS: each row of YtekleamkpfeifaaDoorRows.lean that lists a variable, with what it lists TIED to the program's text (the seventh form; the later family's looks); each row that meets fmt, with fmt's text TOLD by the authors' own Lean function (tested against real Go, not proved from fmt's source: count such statements apart). THE CARD IS WHAT COUNTS. Prove the row's statement (the work); the ties are given (YtekleamkpfeifaaDoorTie.lean); close each card by the builder's one call (the guide's Derived/Test/ToyasCard.lean, 'card_holds'). Laid BY PROGRAM, IN A SANDBOX (cutbox-door.mjs). By AI agents, Wed Nov 11 2026. No macro, syntax, notation, axiom, sorry.
-/
import Derived.Test.YtekleamkpfeifaaDoorRows
import GoSem.ClaimSeven
namespace Go.Proofs.YtekleamkpfeifaaDoor
namespace Rows

/-- THE TIED CARD OF 'hanselaw07.LogExact'. -/
def logExactCard : Claim7 := { stood := { row := logExactRow, standIns := [], harness := (true, "924008d0980ffadfe98d399c6784866c8498ddda5f8e103c44674e1a8d1d7aa5"), looks := false }, kinds := [], alts := [], laidByText := true, laidKinds := [.data], laidTests := true, laidLooks := .later }
def LogExactCardSaid : Prop := Claim7.holds Tryd.pinned (.plain (OpenSpec.ofChange logExactSpec)) logExactCard

/-- THE TIED CARD OF 'hanselaw07.LogLasts'. -/
def logLastsCard : Claim7 := { stood := { row := logLastsRow, standIns := [], harness := (true, "924008d0980ffadfe98d399c6784866c8498ddda5f8e103c44674e1a8d1d7aa5"), looks := false }, kinds := [], alts := [], laidByText := true, laidKinds := [.data], laidTests := true, laidLooks := .later }
def LogLastsCardSaid : Prop := Claim7.holds Tryd.pinned (.plain (OpenSpec.ofChange logLastsSpec)) logLastsCard

/-- THE TIED CARD OF 'hanselaw07.LogCompacts'. -/
def logCompactsCard : Claim7 := { stood := { row := logCompactsRow, standIns := [], harness := (true, "924008d0980ffadfe98d399c6784866c8498ddda5f8e103c44674e1a8d1d7aa5"), looks := false }, kinds := [], alts := [], laidByText := true, laidKinds := [.data], laidTests := true, laidLooks := .later }
def LogCompactsCardSaid : Prop := Claim7.holds Tryd.pinned (.plain (OpenSpec.ofChange logCompactsSpec)) logCompactsCard

/-- THE TIED CARD OF 'hanselaw07.LogTorn'. -/
def logTornCard : Claim7 := { stood := { row := logTornRow, standIns := [], harness := (true, "924008d0980ffadfe98d399c6784866c8498ddda5f8e103c44674e1a8d1d7aa5"), looks := false }, kinds := [], alts := [], laidByText := true, laidKinds := [.data], laidTests := true, laidLooks := .later }
def LogTornCardSaid : Prop := Claim7.holds Tryd.pinned (.plain (OpenSpec.ofChange logTornSpec)) logTornCard

/-- THE TIED CARD OF 'hanselaw07.LogLong'. -/
def logLongCard : Claim7 := { stood := { row := logLongRow, standIns := [], harness := (true, "924008d0980ffadfe98d399c6784866c8498ddda5f8e103c44674e1a8d1d7aa5"), looks := false }, kinds := [], alts := [], laidByText := true, laidKinds := [.data], laidTests := true, laidLooks := .later }
def LogLongCardSaid : Prop := Claim7.holds Tryd.pinned (.plain (OpenSpec.ofChange logLongSpec)) logLongCard

/-- THE TIED CARD OF 'hanselaw07.LogOther'. -/
def logOtherCard : Claim7 := { stood := { row := logOtherRow, standIns := [], harness := (true, "924008d0980ffadfe98d399c6784866c8498ddda5f8e103c44674e1a8d1d7aa5"), looks := false }, kinds := [], alts := [], laidByText := true, laidKinds := [.data], laidTests := true, laidLooks := .later }
def LogOtherCardSaid : Prop := Claim7.holds Tryd.pinned (.plain (OpenSpec.ofChange logOtherSpec)) logOtherCard

/-- THE TIED CARD OF 'hanselaw07.LogTwice'. -/
def logTwiceCard : Claim7 := { stood := { row := logTwiceRow, standIns := [], harness := (true, "924008d0980ffadfe98d399c6784866c8498ddda5f8e103c44674e1a8d1d7aa5"), looks := false }, kinds := [], alts := [], laidByText := true, laidKinds := [.data], laidTests := true, laidLooks := .later }
def LogTwiceCardSaid : Prop := Claim7.holds Tryd.pinned (.plain (OpenSpec.ofChange logTwiceSpec)) logTwiceCard

/-- THE SECOND FORM's CARD OF 'hanselaw07.LogExact'. -/
def logExactUptoCard : Claim7 := { stood := { row := logExactUptoRow, standIns := [], harness := (true, "924008d0980ffadfe98d399c6784866c8498ddda5f8e103c44674e1a8d1d7aa5"), looks := false }, kinds := [], alts := [], laidByText := true, laidKinds := [.data], laidTests := true, laidLooks := .later }
def LogExactUptoCardSaid : Prop := Claim7.holds Tryd.pinned (.plain (OpenSpec.upto logExactSpec)) logExactUptoCard

/-- THE SECOND FORM's CARD OF 'hanselaw07.LogLasts'. -/
def logLastsUptoCard : Claim7 := { stood := { row := logLastsUptoRow, standIns := [], harness := (true, "924008d0980ffadfe98d399c6784866c8498ddda5f8e103c44674e1a8d1d7aa5"), looks := false }, kinds := [], alts := [], laidByText := true, laidKinds := [.data], laidTests := true, laidLooks := .later }
def LogLastsUptoCardSaid : Prop := Claim7.holds Tryd.pinned (.plain (OpenSpec.upto logLastsSpec)) logLastsUptoCard

/-- THE SECOND FORM's CARD OF 'hanselaw07.LogCompacts'. -/
def logCompactsUptoCard : Claim7 := { stood := { row := logCompactsUptoRow, standIns := [], harness := (true, "924008d0980ffadfe98d399c6784866c8498ddda5f8e103c44674e1a8d1d7aa5"), looks := false }, kinds := [], alts := [], laidByText := true, laidKinds := [.data], laidTests := true, laidLooks := .later }
def LogCompactsUptoCardSaid : Prop := Claim7.holds Tryd.pinned (.plain (OpenSpec.upto logCompactsSpec)) logCompactsUptoCard

/-- THE SECOND FORM's CARD OF 'hanselaw07.LogTorn'. -/
def logTornUptoCard : Claim7 := { stood := { row := logTornUptoRow, standIns := [], harness := (true, "924008d0980ffadfe98d399c6784866c8498ddda5f8e103c44674e1a8d1d7aa5"), looks := false }, kinds := [], alts := [], laidByText := true, laidKinds := [.data], laidTests := true, laidLooks := .later }
def LogTornUptoCardSaid : Prop := Claim7.holds Tryd.pinned (.plain (OpenSpec.upto logTornSpec)) logTornUptoCard

/-- THE SECOND FORM's CARD OF 'hanselaw07.LogLong'. -/
def logLongUptoCard : Claim7 := { stood := { row := logLongUptoRow, standIns := [], harness := (true, "924008d0980ffadfe98d399c6784866c8498ddda5f8e103c44674e1a8d1d7aa5"), looks := false }, kinds := [], alts := [], laidByText := true, laidKinds := [.data], laidTests := true, laidLooks := .later }
def LogLongUptoCardSaid : Prop := Claim7.holds Tryd.pinned (.plain (OpenSpec.upto logLongSpec)) logLongUptoCard

/-- THE SECOND FORM's CARD OF 'hanselaw07.LogOther'. -/
def logOtherUptoCard : Claim7 := { stood := { row := logOtherUptoRow, standIns := [], harness := (true, "924008d0980ffadfe98d399c6784866c8498ddda5f8e103c44674e1a8d1d7aa5"), looks := false }, kinds := [], alts := [], laidByText := true, laidKinds := [.data], laidTests := true, laidLooks := .later }
def LogOtherUptoCardSaid : Prop := Claim7.holds Tryd.pinned (.plain (OpenSpec.upto logOtherSpec)) logOtherUptoCard

/-- THE SECOND FORM's CARD OF 'hanselaw07.LogTwice'. -/
def logTwiceUptoCard : Claim7 := { stood := { row := logTwiceUptoRow, standIns := [], harness := (true, "924008d0980ffadfe98d399c6784866c8498ddda5f8e103c44674e1a8d1d7aa5"), looks := false }, kinds := [], alts := [], laidByText := true, laidKinds := [.data], laidTests := true, laidLooks := .later }
def LogTwiceUptoCardSaid : Prop := Claim7.holds Tryd.pinned (.plain (OpenSpec.upto logTwiceSpec)) logTwiceUptoCard
end Rows
end Go.Proofs.YtekleamkpfeifaaDoor
