/-
  DERIVED. GIVEN WITH THE SEED: THE CARDS: each row of YtkmcbhdjecpmjaaDoorRows.lean that lists a variable, with what it lists TIED to the program's text (the seventh form; the later family's looks); each row that meets fmt, with fmt's text TOLD by the authors' own Lean function (tested against real Go, not proved from fmt's source: count such statements apart). THE CARD IS WHAT COUNTS. Prove the row's statement (the work); the ties are given (YtkmcbhdjecpmjaaDoorTie.lean); close each card by the builder's one call (the guide's Derived/Test/ToyasCard.lean, 'card_holds'). Laid BY PROGRAM, IN A SANDBOX (cutbox-door.mjs). By AI agents, Wed Nov 11 2026. No macro, syntax, notation, axiom, sorry.
-/
import Derived.Test.YtkmcbhdjecpmjaaDoorRows
import GoSem.ClaimSeven
namespace Go.Proofs.YtkmcbhdjecpmjaaDoor
namespace Rows

/-- THE TIED CARD OF 'kerflaw07.DfaNames'. -/
def dfaNamesCard : Claim7 := { stood := { row := dfaNamesRow, standIns := [], harness := (true, "a28056f4b3b2c66bc74a9d4780ceb5634c751bc464dba71c072289191411acd0"), looks := false }, kinds := [], alts := [], laidByText := true, laidKinds := [.data], laidTests := true, laidLooks := .later }
def DfaNamesCardSaid : Prop := Claim7.holds Tryd.pinned (.plain (OpenSpec.ofChange dfaNamesSpec)) dfaNamesCard

/-- THE TIED CARD OF 'kerflaw07.DfaBuilds'. -/
def dfaBuildsCard : Claim7 := { stood := { row := dfaBuildsRow, standIns := [], harness := (true, "a28056f4b3b2c66bc74a9d4780ceb5634c751bc464dba71c072289191411acd0"), looks := false }, kinds := [], alts := [], laidByText := true, laidKinds := [.data], laidTests := true, laidLooks := .later }
def DfaBuildsCardSaid : Prop := Claim7.holds Tryd.pinned (.plain (OpenSpec.ofChange dfaBuildsSpec)) dfaBuildsCard

/-- THE TIED CARD OF 'kerflaw07.DfaRuns'. -/
def dfaRunsCard : Claim7 := { stood := { row := dfaRunsRow, standIns := [], harness := (true, "a28056f4b3b2c66bc74a9d4780ceb5634c751bc464dba71c072289191411acd0"), looks := false }, kinds := [], alts := [], laidByText := true, laidKinds := [.data], laidTests := true, laidLooks := .later }
def DfaRunsCardSaid : Prop := Claim7.holds Tryd.pinned (.plain (OpenSpec.ofChange dfaRunsSpec)) dfaRunsCard

/-- THE TIED CARD OF 'kerflaw07.DfaLeast'. -/
def dfaLeastCard : Claim7 := { stood := { row := dfaLeastRow, standIns := [], harness := (true, "a28056f4b3b2c66bc74a9d4780ceb5634c751bc464dba71c072289191411acd0"), looks := false }, kinds := [], alts := [], laidByText := true, laidKinds := [.data], laidTests := true, laidLooks := .later }
def DfaLeastCardSaid : Prop := Claim7.holds Tryd.pinned (.plain (OpenSpec.ofChange dfaLeastSpec)) dfaLeastCard

/-- THE TIED CARD OF 'kerflaw07.DfaNerode'. -/
def dfaNerodeCard : Claim7 := { stood := { row := dfaNerodeRow, standIns := [], harness := (true, "a28056f4b3b2c66bc74a9d4780ceb5634c751bc464dba71c072289191411acd0"), looks := false }, kinds := [], alts := [], laidByText := true, laidKinds := [.data], laidTests := true, laidLooks := .later }
def DfaNerodeCardSaid : Prop := Claim7.holds Tryd.pinned (.plain (OpenSpec.ofChange dfaNerodeSpec)) dfaNerodeCard

/-- THE TIED CARD OF 'kerflaw07.DfaTwo'. -/
def dfaTwoCard : Claim7 := { stood := { row := dfaTwoRow, standIns := [], harness := (true, "a28056f4b3b2c66bc74a9d4780ceb5634c751bc464dba71c072289191411acd0"), looks := false }, kinds := [], alts := [], laidByText := true, laidKinds := [.data], laidTests := true, laidLooks := .later }
def DfaTwoCardSaid : Prop := Claim7.holds Tryd.pinned (.plain (OpenSpec.ofChange dfaTwoSpec)) dfaTwoCard

/-- THE TIED CARD OF 'kerflaw07.DfaBytes'. -/
def dfaBytesCard : Claim7 := { stood := { row := dfaBytesRow, standIns := [], harness := (true, "a28056f4b3b2c66bc74a9d4780ceb5634c751bc464dba71c072289191411acd0"), looks := false }, kinds := [], alts := [], laidByText := true, laidKinds := [.data], laidTests := true, laidLooks := .later }
def DfaBytesCardSaid : Prop := Claim7.holds Tryd.pinned (.plain (OpenSpec.ofChange dfaBytesSpec)) dfaBytesCard

/-- THE SECOND FORM's CARD OF 'kerflaw07.DfaNames'. -/
def dfaNamesUptoCard : Claim7 := { stood := { row := dfaNamesUptoRow, standIns := [], harness := (true, "a28056f4b3b2c66bc74a9d4780ceb5634c751bc464dba71c072289191411acd0"), looks := false }, kinds := [], alts := [], laidByText := true, laidKinds := [.data], laidTests := true, laidLooks := .later }
def DfaNamesUptoCardSaid : Prop := Claim7.holds Tryd.pinned (.plain (OpenSpec.upto dfaNamesSpec)) dfaNamesUptoCard

/-- THE SECOND FORM's CARD OF 'kerflaw07.DfaBuilds'. -/
def dfaBuildsUptoCard : Claim7 := { stood := { row := dfaBuildsUptoRow, standIns := [], harness := (true, "a28056f4b3b2c66bc74a9d4780ceb5634c751bc464dba71c072289191411acd0"), looks := false }, kinds := [], alts := [], laidByText := true, laidKinds := [.data], laidTests := true, laidLooks := .later }
def DfaBuildsUptoCardSaid : Prop := Claim7.holds Tryd.pinned (.plain (OpenSpec.upto dfaBuildsSpec)) dfaBuildsUptoCard

/-- THE SECOND FORM's CARD OF 'kerflaw07.DfaRuns'. -/
def dfaRunsUptoCard : Claim7 := { stood := { row := dfaRunsUptoRow, standIns := [], harness := (true, "a28056f4b3b2c66bc74a9d4780ceb5634c751bc464dba71c072289191411acd0"), looks := false }, kinds := [], alts := [], laidByText := true, laidKinds := [.data], laidTests := true, laidLooks := .later }
def DfaRunsUptoCardSaid : Prop := Claim7.holds Tryd.pinned (.plain (OpenSpec.upto dfaRunsSpec)) dfaRunsUptoCard

/-- THE SECOND FORM's CARD OF 'kerflaw07.DfaLeast'. -/
def dfaLeastUptoCard : Claim7 := { stood := { row := dfaLeastUptoRow, standIns := [], harness := (true, "a28056f4b3b2c66bc74a9d4780ceb5634c751bc464dba71c072289191411acd0"), looks := false }, kinds := [], alts := [], laidByText := true, laidKinds := [.data], laidTests := true, laidLooks := .later }
def DfaLeastUptoCardSaid : Prop := Claim7.holds Tryd.pinned (.plain (OpenSpec.upto dfaLeastSpec)) dfaLeastUptoCard

/-- THE SECOND FORM's CARD OF 'kerflaw07.DfaNerode'. -/
def dfaNerodeUptoCard : Claim7 := { stood := { row := dfaNerodeUptoRow, standIns := [], harness := (true, "a28056f4b3b2c66bc74a9d4780ceb5634c751bc464dba71c072289191411acd0"), looks := false }, kinds := [], alts := [], laidByText := true, laidKinds := [.data], laidTests := true, laidLooks := .later }
def DfaNerodeUptoCardSaid : Prop := Claim7.holds Tryd.pinned (.plain (OpenSpec.upto dfaNerodeSpec)) dfaNerodeUptoCard

/-- THE SECOND FORM's CARD OF 'kerflaw07.DfaTwo'. -/
def dfaTwoUptoCard : Claim7 := { stood := { row := dfaTwoUptoRow, standIns := [], harness := (true, "a28056f4b3b2c66bc74a9d4780ceb5634c751bc464dba71c072289191411acd0"), looks := false }, kinds := [], alts := [], laidByText := true, laidKinds := [.data], laidTests := true, laidLooks := .later }
def DfaTwoUptoCardSaid : Prop := Claim7.holds Tryd.pinned (.plain (OpenSpec.upto dfaTwoSpec)) dfaTwoUptoCard

/-- THE SECOND FORM's CARD OF 'kerflaw07.DfaBytes'. -/
def dfaBytesUptoCard : Claim7 := { stood := { row := dfaBytesUptoRow, standIns := [], harness := (true, "a28056f4b3b2c66bc74a9d4780ceb5634c751bc464dba71c072289191411acd0"), looks := false }, kinds := [], alts := [], laidByText := true, laidKinds := [.data], laidTests := true, laidLooks := .later }
def DfaBytesUptoCardSaid : Prop := Claim7.holds Tryd.pinned (.plain (OpenSpec.upto dfaBytesSpec)) dfaBytesUptoCard
end Rows
end Go.Proofs.YtkmcbhdjecpmjaaDoor
