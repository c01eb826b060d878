/-
  DERIVED. GIVEN WITH THE SEED: THE CARDS: each row of YtlfegdpclappiaaDoorRows.lean that lists a variable, with what it lists TIED to the program's text (the seventh form; the later family's looks); each row that meets fmt, with fmt's text TOLD by the authors' own Lean function (tested against real Go, not proved from fmt's source: count such statements apart). THE CARD IS WHAT COUNTS. Prove the row's statement (the work); the ties are given (YtlfegdpclappiaaDoorTie.lean); close each card by the builder's one call (the guide's Derived/Test/ToyasCard.lean, 'card_holds'). Laid BY PROGRAM, IN A SANDBOX (cutbox-door.mjs). By AI agents, Wed Nov 11 2026. No macro, syntax, notation, axiom, sorry.
-/
import Derived.Test.YtlfegdpclappiaaDoorRows
import GoSem.ClaimSeven
namespace Go.Proofs.YtlfegdpclappiaaDoor
namespace Rows

/-- THE TIED CARD OF 'kerflaw11.GraphemeWhole'. -/
def graphemeWholeCard : Claim7 := { stood := { row := graphemeWholeRow, standIns := [], harness := (true, "8196a1d05612e298625137a9a7be56d759c7857db5c7febe00146273c09509ca"), looks := false }, kinds := [], alts := [], laidByText := true, laidKinds := [.data, .pinned], laidTests := true, laidLooks := .later }
def GraphemeWholeCardSaid : Prop := Claim7.holds Tryd.pinned (.plain (OpenSpec.ofChange graphemeWholeSpec)) graphemeWholeCard

/-- THE TIED CARD OF 'kerflaw11.GraphemePlain'. -/
def graphemePlainCard : Claim7 := { stood := { row := graphemePlainRow, standIns := [], harness := (true, "8196a1d05612e298625137a9a7be56d759c7857db5c7febe00146273c09509ca"), looks := false }, kinds := [], alts := [], laidByText := true, laidKinds := [.data, .pinned], laidTests := true, laidLooks := .later }
def GraphemePlainCardSaid : Prop := Claim7.holds Tryd.pinned (.plain (OpenSpec.ofChange graphemePlainSpec)) graphemePlainCard

/-- THE TIED CARD OF 'kerflaw15.WidthJoins'. -/
def widthJoinsCard : Claim7 := { stood := { row := widthJoinsRow, standIns := [], harness := (true, "8196a1d05612e298625137a9a7be56d759c7857db5c7febe00146273c09509ca"), looks := false }, kinds := [], alts := [], laidByText := true, laidKinds := [.data, .pinned], laidTests := true, laidLooks := .later }
def WidthJoinsCardSaid : Prop := Claim7.holds Tryd.pinned (.plain (OpenSpec.ofChange widthJoinsSpec)) widthJoinsCard

/-- THE TIED CARD OF 'kerflaw15.WidthFits'. -/
def widthFitsCard : Claim7 := { stood := { row := widthFitsRow, standIns := [], harness := (true, "8196a1d05612e298625137a9a7be56d759c7857db5c7febe00146273c09509ca"), looks := false }, kinds := [], alts := [], laidByText := true, laidKinds := [.data, .pinned], laidTests := true, laidLooks := .later }
def WidthFitsCardSaid : Prop := Claim7.holds Tryd.pinned (.plain (OpenSpec.ofChange widthFitsSpec)) widthFitsCard

/-- THE SECOND FORM's CARD OF 'kerflaw11.GraphemeWhole'. -/
def graphemeWholeUptoCard : Claim7 := { stood := { row := graphemeWholeUptoRow, standIns := [], harness := (true, "8196a1d05612e298625137a9a7be56d759c7857db5c7febe00146273c09509ca"), looks := false }, kinds := [], alts := [], laidByText := true, laidKinds := [.data, .pinned], laidTests := true, laidLooks := .later }
def GraphemeWholeUptoCardSaid : Prop := Claim7.holds Tryd.pinned (.plain (OpenSpec.upto graphemeWholeSpec)) graphemeWholeUptoCard

/-- THE SECOND FORM's CARD OF 'kerflaw11.GraphemePlain'. -/
def graphemePlainUptoCard : Claim7 := { stood := { row := graphemePlainUptoRow, standIns := [], harness := (true, "8196a1d05612e298625137a9a7be56d759c7857db5c7febe00146273c09509ca"), looks := false }, kinds := [], alts := [], laidByText := true, laidKinds := [.data, .pinned], laidTests := true, laidLooks := .later }
def GraphemePlainUptoCardSaid : Prop := Claim7.holds Tryd.pinned (.plain (OpenSpec.upto graphemePlainSpec)) graphemePlainUptoCard

/-- THE SECOND FORM's CARD OF 'kerflaw15.WidthJoins'. -/
def widthJoinsUptoCard : Claim7 := { stood := { row := widthJoinsUptoRow, standIns := [], harness := (true, "8196a1d05612e298625137a9a7be56d759c7857db5c7febe00146273c09509ca"), looks := false }, kinds := [], alts := [], laidByText := true, laidKinds := [.data, .pinned], laidTests := true, laidLooks := .later }
def WidthJoinsUptoCardSaid : Prop := Claim7.holds Tryd.pinned (.plain (OpenSpec.upto widthJoinsSpec)) widthJoinsUptoCard

/-- THE SECOND FORM's CARD OF 'kerflaw15.WidthFits'. -/
def widthFitsUptoCard : Claim7 := { stood := { row := widthFitsUptoRow, standIns := [], harness := (true, "8196a1d05612e298625137a9a7be56d759c7857db5c7febe00146273c09509ca"), looks := false }, kinds := [], alts := [], laidByText := true, laidKinds := [.data, .pinned], laidTests := true, laidLooks := .later }
def WidthFitsUptoCardSaid : Prop := Claim7.holds Tryd.pinned (.plain (OpenSpec.upto widthFitsSpec)) widthFitsUptoCard
end Rows
end Go.Proofs.YtlfegdpclappiaaDoor
