/-
  DERIVED. GIVEN WITH THE SEED: THE CARDS: each row of YtpphpkbdanbmcaaGreatDoorRows.lean that lists a variable, with what it lists TIED to the program's text (the seventh form; the later family's looks); each row that meets fmt, with fmt's text TOLD by the authors' own Lean function (tested against real Go, not proved from fmt's source: count such statements apart). THE CARD IS WHAT COUNTS. Prove the row's statement (the work); the ties are given (YtpphpkbdanbmcaaGreatDoorTie.lean); close each card by the builder's one call (the guide's Derived/Test/ToyasCard.lean, 'card_holds'). Laid BY PROGRAM, IN A SANDBOX (cutbox-door.mjs). By AI agents, Wed Nov 11 2026. No macro, syntax, notation, axiom, sorry.
-/
import Derived.Test.YtpphpkbdanbmcaaGreatDoorRows
import GoSem.ClaimSeven
namespace Go.Proofs.YtpphpkbdanbmcaaGreatDoor
namespace Rows

/-- THE TIED CARD OF 'kerflaw21.CursorNames'. -/
def cursorNamesCard : Claim7 := { stood := { row := cursorNamesRow, standIns := [], harness := (true, "f461118ef98828a83e55452792a3253ada01b0398548969528dd45e4f0a42f88"), looks := false }, kinds := [], alts := [], laidByText := true, laidKinds := [.data, .pinned], laidTests := true, laidLooks := .later }
def CursorNamesCardSaid : Prop := Claim7.holds Tryz.pinned (.plain (OpenSpec.ofChange cursorNamesSpec)) cursorNamesCard

/-- THE TIED CARD OF 'kerflaw21.CursorSteps'. -/
def cursorStepsCard : Claim7 := { stood := { row := cursorStepsRow, standIns := [], harness := (true, "f461118ef98828a83e55452792a3253ada01b0398548969528dd45e4f0a42f88"), looks := false }, kinds := [], alts := [], laidByText := true, laidKinds := [.data, .pinned], laidTests := true, laidLooks := .later }
def CursorStepsCardSaid : Prop := Claim7.holds Tryz.pinned (.plain (OpenSpec.ofChange cursorStepsSpec)) cursorStepsCard

/-- THE TIED CARD OF 'kerflaw21.CursorFar'. -/
def cursorFarCard : Claim7 := { stood := { row := cursorFarRow, standIns := [], harness := (true, "f461118ef98828a83e55452792a3253ada01b0398548969528dd45e4f0a42f88"), looks := false }, kinds := [], alts := [], laidByText := true, laidKinds := [.data, .pinned], laidTests := true, laidLooks := .later }
def CursorFarCardSaid : Prop := Claim7.holds Tryz.pinned (.plain (OpenSpec.ofChange cursorFarSpec)) cursorFarCard

/-- THE TIED CARD OF 'kerflaw21.CursorRows'. -/
def cursorRowsCard : Claim7 := { stood := { row := cursorRowsRow, standIns := [], harness := (true, "f461118ef98828a83e55452792a3253ada01b0398548969528dd45e4f0a42f88"), looks := false }, kinds := [], alts := [], laidByText := true, laidKinds := [.data, .pinned], laidTests := true, laidLooks := .later }
def CursorRowsCardSaid : Prop := Claim7.holds Tryz.pinned (.plain (OpenSpec.ofChange cursorRowsSpec)) cursorRowsCard

/-- THE TIED CARD OF 'kerflaw21.CursorPaths'. -/
def cursorPathsCard : Claim7 := { stood := { row := cursorPathsRow, standIns := [], harness := (true, "f461118ef98828a83e55452792a3253ada01b0398548969528dd45e4f0a42f88"), looks := false }, kinds := [], alts := [], laidByText := true, laidKinds := [.data, .pinned], laidTests := true, laidLooks := .later }
def CursorPathsCardSaid : Prop := Claim7.holds Tryz.pinned (.plain (OpenSpec.ofChange cursorPathsSpec)) cursorPathsCard

/-- THE TIED CARD OF 'kerflaw21.CursorErases'. -/
def cursorErasesCard : Claim7 := { stood := { row := cursorErasesRow, standIns := [], harness := (true, "f461118ef98828a83e55452792a3253ada01b0398548969528dd45e4f0a42f88"), looks := false }, kinds := [], alts := [], laidByText := true, laidKinds := [.data, .pinned], laidTests := true, laidLooks := .later }
def CursorErasesCardSaid : Prop := Claim7.holds Tryz.pinned (.plain (OpenSpec.ofChange cursorErasesSpec)) cursorErasesCard

/-- THE SECOND FORM's CARD OF 'kerflaw21.CursorNames'. -/
def cursorNamesUptoCard : Claim7 := { stood := { row := cursorNamesUptoRow, standIns := [], harness := (true, "f461118ef98828a83e55452792a3253ada01b0398548969528dd45e4f0a42f88"), looks := false }, kinds := [], alts := [], laidByText := true, laidKinds := [.data, .pinned], laidTests := true, laidLooks := .later }
def CursorNamesUptoCardSaid : Prop := Claim7.holds Tryz.pinned (.plain (OpenSpec.upto cursorNamesSpec)) cursorNamesUptoCard

/-- THE SECOND FORM's CARD OF 'kerflaw21.CursorSteps'. -/
def cursorStepsUptoCard : Claim7 := { stood := { row := cursorStepsUptoRow, standIns := [], harness := (true, "f461118ef98828a83e55452792a3253ada01b0398548969528dd45e4f0a42f88"), looks := false }, kinds := [], alts := [], laidByText := true, laidKinds := [.data, .pinned], laidTests := true, laidLooks := .later }
def CursorStepsUptoCardSaid : Prop := Claim7.holds Tryz.pinned (.plain (OpenSpec.upto cursorStepsSpec)) cursorStepsUptoCard

/-- THE SECOND FORM's CARD OF 'kerflaw21.CursorFar'. -/
def cursorFarUptoCard : Claim7 := { stood := { row := cursorFarUptoRow, standIns := [], harness := (true, "f461118ef98828a83e55452792a3253ada01b0398548969528dd45e4f0a42f88"), looks := false }, kinds := [], alts := [], laidByText := true, laidKinds := [.data, .pinned], laidTests := true, laidLooks := .later }
def CursorFarUptoCardSaid : Prop := Claim7.holds Tryz.pinned (.plain (OpenSpec.upto cursorFarSpec)) cursorFarUptoCard

/-- THE SECOND FORM's CARD OF 'kerflaw21.CursorRows'. -/
def cursorRowsUptoCard : Claim7 := { stood := { row := cursorRowsUptoRow, standIns := [], harness := (true, "f461118ef98828a83e55452792a3253ada01b0398548969528dd45e4f0a42f88"), looks := false }, kinds := [], alts := [], laidByText := true, laidKinds := [.data, .pinned], laidTests := true, laidLooks := .later }
def CursorRowsUptoCardSaid : Prop := Claim7.holds Tryz.pinned (.plain (OpenSpec.upto cursorRowsSpec)) cursorRowsUptoCard

/-- THE SECOND FORM's CARD OF 'kerflaw21.CursorPaths'. -/
def cursorPathsUptoCard : Claim7 := { stood := { row := cursorPathsUptoRow, standIns := [], harness := (true, "f461118ef98828a83e55452792a3253ada01b0398548969528dd45e4f0a42f88"), looks := false }, kinds := [], alts := [], laidByText := true, laidKinds := [.data, .pinned], laidTests := true, laidLooks := .later }
def CursorPathsUptoCardSaid : Prop := Claim7.holds Tryz.pinned (.plain (OpenSpec.upto cursorPathsSpec)) cursorPathsUptoCard

/-- THE SECOND FORM's CARD OF 'kerflaw21.CursorErases'. -/
def cursorErasesUptoCard : Claim7 := { stood := { row := cursorErasesUptoRow, standIns := [], harness := (true, "f461118ef98828a83e55452792a3253ada01b0398548969528dd45e4f0a42f88"), looks := false }, kinds := [], alts := [], laidByText := true, laidKinds := [.data, .pinned], laidTests := true, laidLooks := .later }
def CursorErasesUptoCardSaid : Prop := Claim7.holds Tryz.pinned (.plain (OpenSpec.upto cursorErasesSpec)) cursorErasesUptoCard
end Rows
end Go.Proofs.YtpphpkbdanbmcaaGreatDoor
