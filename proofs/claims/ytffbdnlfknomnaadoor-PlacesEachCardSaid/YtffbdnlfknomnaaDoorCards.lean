/-
  DERIVED. GIVEN WITH THE SEED: THE CARDS: each row of YtffbdnlfknomnaaDoorRows.lean that lists a variable, with what it lists TIED to the program's text (the seventh form; the later family's looks); each row that meets fmt, with fmt's text TOLD by the authors' own Lean function (tested against real Go, not proved from fmt's source: count such statements apart). THE CARD IS WHAT COUNTS. Prove the row's statement (the work); the ties are given (YtffbdnlfknomnaaDoorTie.lean); close each card by the builder's one call (the guide's Derived/Test/ToyasCard.lean, 'card_holds'). Laid BY PROGRAM, IN A SANDBOX (cutbox-door.mjs). By AI agents, Wed Nov 11 2026. No macro, syntax, notation, axiom, sorry.
-/
import Derived.Test.YtffbdnlfknomnaaDoorRows
import GoSem.ClaimSeven
namespace Go.Proofs.YtffbdnlfknomnaaDoor
namespace Rows

/-- THE TIED CARD OF 'kerflaw16.WrapWhole'. -/
def wrapWholeCard : Claim7 := { stood := { row := wrapWholeRow, standIns := [], harness := (true, "05b1f4ac073c669293dd6e15288f1417d9d71e309e2f51747ebd4f676274bbe7"), looks := false }, kinds := [], alts := [], laidByText := true, laidKinds := [.data, .pinned], laidTests := true, laidLooks := .later }
def WrapWholeCardSaid : Prop := Claim7.holds Tryd.pinned (.plain (OpenSpec.ofChange wrapWholeSpec)) wrapWholeCard

/-- THE TIED CARD OF 'kerflaw17.PlacesNames'. -/
def placesNamesCard : Claim7 := { stood := { row := placesNamesRow, standIns := [], harness := (true, "05b1f4ac073c669293dd6e15288f1417d9d71e309e2f51747ebd4f676274bbe7"), looks := false }, kinds := [], alts := [], laidByText := true, laidKinds := [.data, .pinned], laidTests := true, laidLooks := .later }
def PlacesNamesCardSaid : Prop := Claim7.holds Tryd.pinned (.plain (OpenSpec.ofChange placesNamesSpec)) placesNamesCard

/-- THE TIED CARD OF 'kerflaw17.PlacesEach'. -/
def placesEachCard : Claim7 := { stood := { row := placesEachRow, standIns := [], harness := (true, "05b1f4ac073c669293dd6e15288f1417d9d71e309e2f51747ebd4f676274bbe7"), looks := false }, kinds := [], alts := [], laidByText := true, laidKinds := [.data, .pinned], laidTests := true, laidLooks := .later }
def PlacesEachCardSaid : Prop := Claim7.holds Tryd.pinned (.plain (OpenSpec.ofChange placesEachSpec)) placesEachCard

/-- THE TIED CARD OF 'kerflaw17.PlacesBack'. -/
def placesBackCard : Claim7 := { stood := { row := placesBackRow, standIns := [], harness := (true, "05b1f4ac073c669293dd6e15288f1417d9d71e309e2f51747ebd4f676274bbe7"), looks := false }, kinds := [], alts := [], laidByText := true, laidKinds := [.data, .pinned], laidTests := true, laidLooks := .later }
def PlacesBackCardSaid : Prop := Claim7.holds Tryd.pinned (.plain (OpenSpec.ofChange placesBackSpec)) placesBackCard

/-- THE TIED CARD OF 'kerflaw17.PlacesMove'. -/
def placesMoveCard : Claim7 := { stood := { row := placesMoveRow, standIns := [], harness := (true, "05b1f4ac073c669293dd6e15288f1417d9d71e309e2f51747ebd4f676274bbe7"), looks := false }, kinds := [], alts := [], laidByText := true, laidKinds := [.data, .pinned], laidTests := true, laidLooks := .later }
def PlacesMoveCardSaid : Prop := Claim7.holds Tryd.pinned (.plain (OpenSpec.ofChange placesMoveSpec)) placesMoveCard

/-- THE SECOND FORM's CARD OF 'kerflaw16.WrapWhole'. -/
def wrapWholeUptoCard : Claim7 := { stood := { row := wrapWholeUptoRow, standIns := [], harness := (true, "05b1f4ac073c669293dd6e15288f1417d9d71e309e2f51747ebd4f676274bbe7"), looks := false }, kinds := [], alts := [], laidByText := true, laidKinds := [.data, .pinned], laidTests := true, laidLooks := .later }
def WrapWholeUptoCardSaid : Prop := Claim7.holds Tryd.pinned (.plain (OpenSpec.upto wrapWholeSpec)) wrapWholeUptoCard

/-- THE SECOND FORM's CARD OF 'kerflaw17.PlacesNames'. -/
def placesNamesUptoCard : Claim7 := { stood := { row := placesNamesUptoRow, standIns := [], harness := (true, "05b1f4ac073c669293dd6e15288f1417d9d71e309e2f51747ebd4f676274bbe7"), looks := false }, kinds := [], alts := [], laidByText := true, laidKinds := [.data, .pinned], laidTests := true, laidLooks := .later }
def PlacesNamesUptoCardSaid : Prop := Claim7.holds Tryd.pinned (.plain (OpenSpec.upto placesNamesSpec)) placesNamesUptoCard

/-- THE SECOND FORM's CARD OF 'kerflaw17.PlacesEach'. -/
def placesEachUptoCard : Claim7 := { stood := { row := placesEachUptoRow, standIns := [], harness := (true, "05b1f4ac073c669293dd6e15288f1417d9d71e309e2f51747ebd4f676274bbe7"), looks := false }, kinds := [], alts := [], laidByText := true, laidKinds := [.data, .pinned], laidTests := true, laidLooks := .later }
def PlacesEachUptoCardSaid : Prop := Claim7.holds Tryd.pinned (.plain (OpenSpec.upto placesEachSpec)) placesEachUptoCard

/-- THE SECOND FORM's CARD OF 'kerflaw17.PlacesBack'. -/
def placesBackUptoCard : Claim7 := { stood := { row := placesBackUptoRow, standIns := [], harness := (true, "05b1f4ac073c669293dd6e15288f1417d9d71e309e2f51747ebd4f676274bbe7"), looks := false }, kinds := [], alts := [], laidByText := true, laidKinds := [.data, .pinned], laidTests := true, laidLooks := .later }
def PlacesBackUptoCardSaid : Prop := Claim7.holds Tryd.pinned (.plain (OpenSpec.upto placesBackSpec)) placesBackUptoCard

/-- THE SECOND FORM's CARD OF 'kerflaw17.PlacesMove'. -/
def placesMoveUptoCard : Claim7 := { stood := { row := placesMoveUptoRow, standIns := [], harness := (true, "05b1f4ac073c669293dd6e15288f1417d9d71e309e2f51747ebd4f676274bbe7"), looks := false }, kinds := [], alts := [], laidByText := true, laidKinds := [.data, .pinned], laidTests := true, laidLooks := .later }
def PlacesMoveUptoCardSaid : Prop := Claim7.holds Tryd.pinned (.plain (OpenSpec.upto placesMoveSpec)) placesMoveUptoCard
end Rows
end Go.Proofs.YtffbdnlfknomnaaDoor
