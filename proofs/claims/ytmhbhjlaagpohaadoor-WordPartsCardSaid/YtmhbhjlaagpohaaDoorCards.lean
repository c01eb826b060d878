/-
  DERIVED. GIVEN WITH THE SEED: THE CARDS: each row of YtmhbhjlaagpohaaDoorRows.lean that lists a variable, with what it lists TIED to the program's text (the seventh form; the later family's looks); each row that meets fmt, with fmt's text TOLD by the authors' own Lean function (tested against real Go, not proved from fmt's source: count such statements apart). THE CARD IS WHAT COUNTS. Prove the row's statement (the work); the ties are given (YtmhbhjlaagpohaaDoorTie.lean); close each card by the builder's one call (the guide's Derived/Test/ToyasCard.lean, 'card_holds'). Laid BY PROGRAM, IN A SANDBOX (cutbox-door.mjs). By AI agents, Wed Nov 11 2026. No macro, syntax, notation, axiom, sorry.
-/
import Derived.Test.YtmhbhjlaagpohaaDoorRows
import GoSem.ClaimSeven
namespace Go.Proofs.YtmhbhjlaagpohaaDoor
namespace Rows

/-- THE TIED CARD OF 'kerflaw11.GraphemeWhole'. -/
def graphemeWholeCard : Claim7 := { stood := { row := graphemeWholeRow, standIns := [], harness := (true, "147f43c936b8e787f16d96967212eb79b8bae7202998db888dea5381e14f1792"), looks := false }, kinds := [], alts := [], laidByText := true, laidKinds := [.data, .pinned], laidTests := true, laidLooks := .later }
def GraphemeWholeCardSaid : Prop := Claim7.holds Tryd.pinned (.plain (OpenSpec.ofChange graphemeWholeSpec)) graphemeWholeCard

/-- THE TIED CARD OF 'kerflaw11.GraphemePlain'. -/
def graphemePlainCard : Claim7 := { stood := { row := graphemePlainRow, standIns := [], harness := (true, "147f43c936b8e787f16d96967212eb79b8bae7202998db888dea5381e14f1792"), looks := false }, kinds := [], alts := [], laidByText := true, laidKinds := [.data, .pinned], laidTests := true, laidLooks := .later }
def GraphemePlainCardSaid : Prop := Claim7.holds Tryd.pinned (.plain (OpenSpec.ofChange graphemePlainSpec)) graphemePlainCard

/-- THE TIED CARD OF 'kerflaw12.WordParts'. -/
def wordPartsCard : Claim7 := { stood := { row := wordPartsRow, standIns := [], harness := (true, "147f43c936b8e787f16d96967212eb79b8bae7202998db888dea5381e14f1792"), looks := false }, kinds := [], alts := [], laidByText := true, laidKinds := [.data, .pinned], laidTests := true, laidLooks := .later }
def WordPartsCardSaid : Prop := Claim7.holds Tryd.pinned (.plain (OpenSpec.ofChange wordPartsSpec)) wordPartsCard

/-- THE TIED CARD OF 'kerflaw14.LineParts'. -/
def linePartsCard : Claim7 := { stood := { row := linePartsRow, standIns := [], harness := (true, "147f43c936b8e787f16d96967212eb79b8bae7202998db888dea5381e14f1792"), looks := false }, kinds := [], alts := [], laidByText := true, laidKinds := [.data, .pinned], laidTests := true, laidLooks := .later }
def LinePartsCardSaid : Prop := Claim7.holds Tryd.pinned (.plain (OpenSpec.ofChange linePartsSpec)) linePartsCard

/-- THE SECOND FORM's CARD OF 'kerflaw11.GraphemeWhole'. -/
def graphemeWholeUptoCard : Claim7 := { stood := { row := graphemeWholeUptoRow, standIns := [], harness := (true, "147f43c936b8e787f16d96967212eb79b8bae7202998db888dea5381e14f1792"), looks := false }, kinds := [], alts := [], laidByText := true, laidKinds := [.data, .pinned], laidTests := true, laidLooks := .later }
def GraphemeWholeUptoCardSaid : Prop := Claim7.holds Tryd.pinned (.plain (OpenSpec.upto graphemeWholeSpec)) graphemeWholeUptoCard

/-- THE SECOND FORM's CARD OF 'kerflaw11.GraphemePlain'. -/
def graphemePlainUptoCard : Claim7 := { stood := { row := graphemePlainUptoRow, standIns := [], harness := (true, "147f43c936b8e787f16d96967212eb79b8bae7202998db888dea5381e14f1792"), looks := false }, kinds := [], alts := [], laidByText := true, laidKinds := [.data, .pinned], laidTests := true, laidLooks := .later }
def GraphemePlainUptoCardSaid : Prop := Claim7.holds Tryd.pinned (.plain (OpenSpec.upto graphemePlainSpec)) graphemePlainUptoCard

/-- THE SECOND FORM's CARD OF 'kerflaw12.WordParts'. -/
def wordPartsUptoCard : Claim7 := { stood := { row := wordPartsUptoRow, standIns := [], harness := (true, "147f43c936b8e787f16d96967212eb79b8bae7202998db888dea5381e14f1792"), looks := false }, kinds := [], alts := [], laidByText := true, laidKinds := [.data, .pinned], laidTests := true, laidLooks := .later }
def WordPartsUptoCardSaid : Prop := Claim7.holds Tryd.pinned (.plain (OpenSpec.upto wordPartsSpec)) wordPartsUptoCard

/-- THE SECOND FORM's CARD OF 'kerflaw14.LineParts'. -/
def linePartsUptoCard : Claim7 := { stood := { row := linePartsUptoRow, standIns := [], harness := (true, "147f43c936b8e787f16d96967212eb79b8bae7202998db888dea5381e14f1792"), looks := false }, kinds := [], alts := [], laidByText := true, laidKinds := [.data, .pinned], laidTests := true, laidLooks := .later }
def LinePartsUptoCardSaid : Prop := Claim7.holds Tryd.pinned (.plain (OpenSpec.upto linePartsSpec)) linePartsUptoCard
end Rows
end Go.Proofs.YtmhbhjlaagpohaaDoor
