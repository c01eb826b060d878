/-
  DERIVED. GIVEN WITH THE SEED: THE CARDS: each row of YtkopefljnhgdkaaDoorRows.lean that lists a variable, with what it lists TIED to the program's text (the seventh form; the later family's looks); each row that meets fmt, with fmt's text TOLD by the authors' own Lean function (tested against real Go, not proved from fmt's source: count such statements apart). THE CARD IS WHAT COUNTS. Prove the row's statement (the work); the ties are given (YtkopefljnhgdkaaDoorTie.lean); close each card by the builder's one call (the guide's Derived/Test/ToyasCard.lean, 'card_holds'). Laid BY PROGRAM, IN A SANDBOX (cutbox-door.mjs). By AI agents, Wed Nov 11 2026. No macro, syntax, notation, axiom, sorry.
-/
import Derived.Test.YtkopefljnhgdkaaDoorRows
import GoSem.ClaimSeven
namespace Go.Proofs.YtkopefljnhgdkaaDoor
namespace Rows

/-- THE TIED CARD OF 'kerflaw16.WrapFewest'. -/
def wrapFewestCard : Claim7 := { stood := { row := wrapFewestRow, standIns := [], harness := (true, "506647420ff1e83f510d2450d29062fb7f97620d99a11a7d3b981a6551a1e38b"), looks := false }, kinds := [], alts := [], laidByText := true, laidKinds := [.data, .pinned], laidTests := true, laidLooks := .later }
def WrapFewestCardSaid : Prop := Claim7.holds Tryd.pinned (.plain (OpenSpec.ofChange wrapFewestSpec)) wrapFewestCard

/-- THE TIED CARD OF 'kerflaw16.WrapLeast'. -/
def wrapLeastCard : Claim7 := { stood := { row := wrapLeastRow, standIns := [], harness := (true, "506647420ff1e83f510d2450d29062fb7f97620d99a11a7d3b981a6551a1e38b"), looks := false }, kinds := [], alts := [], laidByText := true, laidKinds := [.data, .pinned], laidTests := true, laidLooks := .later }
def WrapLeastCardSaid : Prop := Claim7.holds Tryd.pinned (.plain (OpenSpec.ofChange wrapLeastSpec)) wrapLeastCard

/-- THE TIED CARD OF 'kerflaw16.WrapAll'. -/
def wrapAllCard : Claim7 := { stood := { row := wrapAllRow, standIns := [], harness := (true, "506647420ff1e83f510d2450d29062fb7f97620d99a11a7d3b981a6551a1e38b"), looks := false }, kinds := [], alts := [], laidByText := true, laidKinds := [.data, .pinned], laidTests := true, laidLooks := .later }
def WrapAllCardSaid : Prop := Claim7.holds Tryd.pinned (.plain (OpenSpec.ofChange wrapAllSpec)) wrapAllCard

/-- THE TIED CARD OF 'kerflaw16.WrapWider'. -/
def wrapWiderCard : Claim7 := { stood := { row := wrapWiderRow, standIns := [], harness := (true, "506647420ff1e83f510d2450d29062fb7f97620d99a11a7d3b981a6551a1e38b"), looks := false }, kinds := [], alts := [], laidByText := true, laidKinds := [.data, .pinned], laidTests := true, laidLooks := .later }
def WrapWiderCardSaid : Prop := Claim7.holds Tryd.pinned (.plain (OpenSpec.ofChange wrapWiderSpec)) wrapWiderCard

/-- THE TIED CARD OF 'kerflaw16.WrapWhole'. -/
def wrapWholeCard : Claim7 := { stood := { row := wrapWholeRow, standIns := [], harness := (true, "506647420ff1e83f510d2450d29062fb7f97620d99a11a7d3b981a6551a1e38b"), looks := false }, kinds := [], alts := [], laidByText := true, laidKinds := [.data, .pinned], laidTests := true, laidLooks := .later }
def WrapWholeCardSaid : Prop := Claim7.holds Tryd.pinned (.plain (OpenSpec.ofChange wrapWholeSpec)) wrapWholeCard

/-- THE SECOND FORM's CARD OF 'kerflaw16.WrapFewest'. -/
def wrapFewestUptoCard : Claim7 := { stood := { row := wrapFewestUptoRow, standIns := [], harness := (true, "506647420ff1e83f510d2450d29062fb7f97620d99a11a7d3b981a6551a1e38b"), looks := false }, kinds := [], alts := [], laidByText := true, laidKinds := [.data, .pinned], laidTests := true, laidLooks := .later }
def WrapFewestUptoCardSaid : Prop := Claim7.holds Tryd.pinned (.plain (OpenSpec.upto wrapFewestSpec)) wrapFewestUptoCard

/-- THE SECOND FORM's CARD OF 'kerflaw16.WrapLeast'. -/
def wrapLeastUptoCard : Claim7 := { stood := { row := wrapLeastUptoRow, standIns := [], harness := (true, "506647420ff1e83f510d2450d29062fb7f97620d99a11a7d3b981a6551a1e38b"), looks := false }, kinds := [], alts := [], laidByText := true, laidKinds := [.data, .pinned], laidTests := true, laidLooks := .later }
def WrapLeastUptoCardSaid : Prop := Claim7.holds Tryd.pinned (.plain (OpenSpec.upto wrapLeastSpec)) wrapLeastUptoCard

/-- THE SECOND FORM's CARD OF 'kerflaw16.WrapAll'. -/
def wrapAllUptoCard : Claim7 := { stood := { row := wrapAllUptoRow, standIns := [], harness := (true, "506647420ff1e83f510d2450d29062fb7f97620d99a11a7d3b981a6551a1e38b"), looks := false }, kinds := [], alts := [], laidByText := true, laidKinds := [.data, .pinned], laidTests := true, laidLooks := .later }
def WrapAllUptoCardSaid : Prop := Claim7.holds Tryd.pinned (.plain (OpenSpec.upto wrapAllSpec)) wrapAllUptoCard

/-- THE SECOND FORM's CARD OF 'kerflaw16.WrapWider'. -/
def wrapWiderUptoCard : Claim7 := { stood := { row := wrapWiderUptoRow, standIns := [], harness := (true, "506647420ff1e83f510d2450d29062fb7f97620d99a11a7d3b981a6551a1e38b"), looks := false }, kinds := [], alts := [], laidByText := true, laidKinds := [.data, .pinned], laidTests := true, laidLooks := .later }
def WrapWiderUptoCardSaid : Prop := Claim7.holds Tryd.pinned (.plain (OpenSpec.upto wrapWiderSpec)) wrapWiderUptoCard

/-- THE SECOND FORM's CARD OF 'kerflaw16.WrapWhole'. -/
def wrapWholeUptoCard : Claim7 := { stood := { row := wrapWholeUptoRow, standIns := [], harness := (true, "506647420ff1e83f510d2450d29062fb7f97620d99a11a7d3b981a6551a1e38b"), looks := false }, kinds := [], alts := [], laidByText := true, laidKinds := [.data, .pinned], laidTests := true, laidLooks := .later }
def WrapWholeUptoCardSaid : Prop := Claim7.holds Tryd.pinned (.plain (OpenSpec.upto wrapWholeSpec)) wrapWholeUptoCard
end Rows
end Go.Proofs.YtkopefljnhgdkaaDoor
