/-
  DERIVED. GIVEN WITH THE SEED: THE CARDS: each row of YtegbkpjcjlihmabGreatDoorRows.lean that lists a variable, with what it lists TIED to the program's text (the seventh form; the later family's looks); each row that meets fmt, with fmt's text TOLD by the authors' own Lean function (tested against real Go, not proved from fmt's source: count such statements apart). THE CARD IS WHAT COUNTS. Prove the row's statement (the work); the ties are given (YtegbkpjcjlihmabGreatDoorTie.lean); close each card by the builder's one call (the guide's Derived/Test/ToyasCard.lean, 'card_holds'). Laid BY PROGRAM, IN A SANDBOX (cutbox-door.mjs). By AI agents, Wed Nov 11 2026. No macro, syntax, notation, axiom, sorry.
-/
import Derived.Test.YtegbkpjcjlihmabGreatDoorRows
import GoSem.ClaimSeven
namespace Go.Proofs.YtegbkpjcjlihmabGreatDoor
namespace Rows

/-- THE TIED CARD OF 'postlaw05.SpoolKeeps'. -/
def spoolKeepsCard : Claim7 := { stood := { row := spoolKeepsRow, standIns := [], harness := (true, "bffac55951e598897f0240a329d8b66c0c169e5833cdff7c603c134b511d0176"), looks := true }, kinds := [], alts := [], laidByText := true, laidKinds := [.data, .data, .data, .data, .sentinel, .sentinel, .pinned], laidTests := true, laidLooks := .later }
def SpoolKeepsCardSaid : Prop := Claim7.holds Tryz.pinned (.plain (OpenSpec.ofChange spoolKeepsSpec)) spoolKeepsCard

/-- THE TIED CARD OF 'postlaw05.SpoolMoved'. -/
def spoolMovedCard : Claim7 := { stood := { row := spoolMovedRow, standIns := [], harness := (true, "bffac55951e598897f0240a329d8b66c0c169e5833cdff7c603c134b511d0176"), looks := true }, kinds := [], alts := [], laidByText := true, laidKinds := [.data, .data, .data, .data, .sentinel, .sentinel, .pinned], laidTests := true, laidLooks := .later }
def SpoolMovedCardSaid : Prop := Claim7.holds Tryz.pinned (.plain (OpenSpec.ofChange spoolMovedSpec)) spoolMovedCard

/-- THE TIED CARD OF 'postlaw06.BoxKeeps'. -/
def boxKeepsCard : Claim7 := { stood := { row := boxKeepsRow, standIns := [], harness := (true, "bffac55951e598897f0240a329d8b66c0c169e5833cdff7c603c134b511d0176"), looks := true }, kinds := [], alts := [], laidByText := true, laidKinds := [.data, .data, .data, .data, .sentinel, .sentinel, .pinned], laidTests := true, laidLooks := .later }
def BoxKeepsCardSaid : Prop := Claim7.holds Tryz.pinned (.plain (OpenSpec.ofChange boxKeepsSpec)) boxKeepsCard

/-- THE TIED CARD OF 'postlaw06.BoxOnce'. -/
def boxOnceCard : Claim7 := { stood := { row := boxOnceRow, standIns := [], harness := (true, "bffac55951e598897f0240a329d8b66c0c169e5833cdff7c603c134b511d0176"), looks := true }, kinds := [], alts := [], laidByText := true, laidKinds := [.data, .data, .data, .sentinel, .sentinel], laidTests := true, laidLooks := .later }
def BoxOnceCardSaid : Prop := Claim7.holds Tryz.pinned (.plain (OpenSpec.ofChange boxOnceSpec)) boxOnceCard

/-- THE TIED CARD OF 'postlaw06.BoxClean'. -/
def boxCleanCard : Claim7 := { stood := { row := boxCleanRow, standIns := [], harness := (true, "bffac55951e598897f0240a329d8b66c0c169e5833cdff7c603c134b511d0176"), looks := true }, kinds := [], alts := [], laidByText := true, laidKinds := [.data, .data, .data, .data, .sentinel, .sentinel, .pinned], laidTests := true, laidLooks := .later }
def BoxCleanCardSaid : Prop := Claim7.holds Tryz.pinned (.plain (OpenSpec.ofChange boxCleanSpec)) boxCleanCard

/-- THE SECOND FORM's CARD OF 'postlaw05.SpoolKeeps'. -/
def spoolKeepsUptoCard : Claim7 := { stood := { row := spoolKeepsUptoRow, standIns := [], harness := (true, "bffac55951e598897f0240a329d8b66c0c169e5833cdff7c603c134b511d0176"), looks := true }, kinds := [], alts := [], laidByText := true, laidKinds := [.data, .data, .data, .data, .sentinel, .sentinel, .pinned], laidTests := true, laidLooks := .later }
def SpoolKeepsUptoCardSaid : Prop := Claim7.holds Tryz.pinned (.plain (OpenSpec.upto spoolKeepsSpec)) spoolKeepsUptoCard

/-- THE SECOND FORM's CARD OF 'postlaw05.SpoolMoved'. -/
def spoolMovedUptoCard : Claim7 := { stood := { row := spoolMovedUptoRow, standIns := [], harness := (true, "bffac55951e598897f0240a329d8b66c0c169e5833cdff7c603c134b511d0176"), looks := true }, kinds := [], alts := [], laidByText := true, laidKinds := [.data, .data, .data, .data, .sentinel, .sentinel, .pinned], laidTests := true, laidLooks := .later }
def SpoolMovedUptoCardSaid : Prop := Claim7.holds Tryz.pinned (.plain (OpenSpec.upto spoolMovedSpec)) spoolMovedUptoCard

/-- THE SECOND FORM's CARD OF 'postlaw06.BoxKeeps'. -/
def boxKeepsUptoCard : Claim7 := { stood := { row := boxKeepsUptoRow, standIns := [], harness := (true, "bffac55951e598897f0240a329d8b66c0c169e5833cdff7c603c134b511d0176"), looks := true }, kinds := [], alts := [], laidByText := true, laidKinds := [.data, .data, .data, .data, .sentinel, .sentinel, .pinned], laidTests := true, laidLooks := .later }
def BoxKeepsUptoCardSaid : Prop := Claim7.holds Tryz.pinned (.plain (OpenSpec.upto boxKeepsSpec)) boxKeepsUptoCard

/-- THE SECOND FORM's CARD OF 'postlaw06.BoxOnce'. -/
def boxOnceUptoCard : Claim7 := { stood := { row := boxOnceUptoRow, standIns := [], harness := (true, "bffac55951e598897f0240a329d8b66c0c169e5833cdff7c603c134b511d0176"), looks := true }, kinds := [], alts := [], laidByText := true, laidKinds := [.data, .data, .data, .sentinel, .sentinel], laidTests := true, laidLooks := .later }
def BoxOnceUptoCardSaid : Prop := Claim7.holds Tryz.pinned (.plain (OpenSpec.upto boxOnceSpec)) boxOnceUptoCard

/-- THE SECOND FORM's CARD OF 'postlaw06.BoxClean'. -/
def boxCleanUptoCard : Claim7 := { stood := { row := boxCleanUptoRow, standIns := [], harness := (true, "bffac55951e598897f0240a329d8b66c0c169e5833cdff7c603c134b511d0176"), looks := true }, kinds := [], alts := [], laidByText := true, laidKinds := [.data, .data, .data, .data, .sentinel, .sentinel, .pinned], laidTests := true, laidLooks := .later }
def BoxCleanUptoCardSaid : Prop := Claim7.holds Tryz.pinned (.plain (OpenSpec.upto boxCleanSpec)) boxCleanUptoCard
end Rows
end Go.Proofs.YtegbkpjcjlihmabGreatDoor
