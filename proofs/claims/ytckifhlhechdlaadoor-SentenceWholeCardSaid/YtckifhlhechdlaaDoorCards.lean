/-
  DERIVED. GIVEN WITH THE SEED: THE CARDS: each row of YtckifhlhechdlaaDoorRows.lean that lists a variable, with what it lists TIED to the program's text (the seventh form; the later family's looks); each row that meets fmt, with fmt's text TOLD by the authors' own Lean function (tested against real Go, not proved from fmt's source: count such statements apart). THE CARD IS WHAT COUNTS. Prove the row's statement (the work); the ties are given (YtckifhlhechdlaaDoorTie.lean); close each card by the builder's one call (the guide's Derived/Test/ToyasCard.lean, 'card_holds'). Laid BY PROGRAM, IN A SANDBOX (cutbox-door.mjs). By AI agents, Wed Nov 11 2026. No macro, syntax, notation, axiom, sorry.
-/
import Derived.Test.YtckifhlhechdlaaDoorRows
import GoSem.ClaimSeven
namespace Go.Proofs.YtckifhlhechdlaaDoor
namespace Rows

/-- THE TIED CARD OF 'kerflaw13.SentenceWhole'. -/
def sentenceWholeCard : Claim7 := { stood := { row := sentenceWholeRow, standIns := [], harness := (true, "51cbeebe0ba539d8100c16504161a5b5ca0f7e454e7de99b5070491061e8fb4e"), looks := false }, kinds := [], alts := [], laidByText := true, laidKinds := [.data, .pinned], laidTests := true, laidLooks := .later }
def SentenceWholeCardSaid : Prop := Claim7.holds Tryd.pinned (.plain (OpenSpec.ofChange sentenceWholeSpec)) sentenceWholeCard

/-- THE SECOND FORM's CARD OF 'kerflaw13.SentenceWhole'. -/
def sentenceWholeUptoCard : Claim7 := { stood := { row := sentenceWholeUptoRow, standIns := [], harness := (true, "51cbeebe0ba539d8100c16504161a5b5ca0f7e454e7de99b5070491061e8fb4e"), looks := false }, kinds := [], alts := [], laidByText := true, laidKinds := [.data, .pinned], laidTests := true, laidLooks := .later }
def SentenceWholeUptoCardSaid : Prop := Claim7.holds Tryd.pinned (.plain (OpenSpec.upto sentenceWholeSpec)) sentenceWholeUptoCard
end Rows
end Go.Proofs.YtckifhlhechdlaaDoor
