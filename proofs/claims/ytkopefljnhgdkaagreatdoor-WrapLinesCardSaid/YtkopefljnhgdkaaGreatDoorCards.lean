/-
  DERIVED. GIVEN WITH THE SEED: THE CARDS: each row of YtkopefljnhgdkaaGreatDoorRows.lean that lists a variable, with what it lists TIED to the program's text (the seventh form; the later family's looks); each row that meets fmt, with fmt's text TOLD by the authors' own Lean function (tested against real Go, not proved from fmt's source: count such statements apart). THE CARD IS WHAT COUNTS. Prove the row's statement (the work); the ties are given (YtkopefljnhgdkaaGreatDoorTie.lean); close each card by the builder's one call (the guide's Derived/Test/ToyasCard.lean, 'card_holds'). Laid BY PROGRAM, IN A SANDBOX (cutbox-door.mjs). By AI agents, Wed Nov 11 2026. No macro, syntax, notation, axiom, sorry.
-/
import Derived.Test.YtkopefljnhgdkaaGreatDoorRows
import GoSem.ClaimSeven
namespace Go.Proofs.YtkopefljnhgdkaaGreatDoor
namespace Rows

/-- THE TIED CARD OF 'kerflaw16.WrapChecks'. -/
def wrapChecksCard : Claim7 := { stood := { row := wrapChecksRow, standIns := [], harness := (true, "22dc9cd5a1973b3db34bc19151afdb809195771abc13d3c3407f3933e7b20647"), looks := false }, kinds := [], alts := [], laidByText := true, laidKinds := [.data, .pinned], laidTests := true, laidLooks := .later }
def WrapChecksCardSaid : Prop := Claim7.holds Tryz.pinned (.plain (OpenSpec.ofChange wrapChecksSpec)) wrapChecksCard

/-- THE TIED CARD OF 'kerflaw16.WrapLines'. -/
def wrapLinesCard : Claim7 := { stood := { row := wrapLinesRow, standIns := [], harness := (true, "22dc9cd5a1973b3db34bc19151afdb809195771abc13d3c3407f3933e7b20647"), looks := false }, kinds := [], alts := [], laidByText := true, laidKinds := [.data, .pinned], laidTests := true, laidLooks := .later }
def WrapLinesCardSaid : Prop := Claim7.holds Tryz.pinned (.plain (OpenSpec.ofChange wrapLinesSpec)) wrapLinesCard

/-- THE SECOND FORM's CARD OF 'kerflaw16.WrapChecks'. -/
def wrapChecksUptoCard : Claim7 := { stood := { row := wrapChecksUptoRow, standIns := [], harness := (true, "22dc9cd5a1973b3db34bc19151afdb809195771abc13d3c3407f3933e7b20647"), looks := false }, kinds := [], alts := [], laidByText := true, laidKinds := [.data, .pinned], laidTests := true, laidLooks := .later }
def WrapChecksUptoCardSaid : Prop := Claim7.holds Tryz.pinned (.plain (OpenSpec.upto wrapChecksSpec)) wrapChecksUptoCard

/-- THE SECOND FORM's CARD OF 'kerflaw16.WrapLines'. -/
def wrapLinesUptoCard : Claim7 := { stood := { row := wrapLinesUptoRow, standIns := [], harness := (true, "22dc9cd5a1973b3db34bc19151afdb809195771abc13d3c3407f3933e7b20647"), looks := false }, kinds := [], alts := [], laidByText := true, laidKinds := [.data, .pinned], laidTests := true, laidLooks := .later }
def WrapLinesUptoCardSaid : Prop := Claim7.holds Tryz.pinned (.plain (OpenSpec.upto wrapLinesSpec)) wrapLinesUptoCard
end Rows
end Go.Proofs.YtkopefljnhgdkaaGreatDoor
