/-
  DERIVED. GIVEN WITH THE SEED: THE CARDS: each row of YtkcaffkbogchnaaDoorRows.lean that lists a variable, with what it lists TIED to the program's text (the seventh form; the later family's looks); each row that meets fmt, with fmt's text TOLD by the authors' own Lean function (tested against real Go, not proved from fmt's source: count such statements apart). THE CARD IS WHAT COUNTS. Prove the row's statement (the work); the ties are given (YtkcaffkbogchnaaDoorTie.lean); close each card by the builder's one call (the guide's Derived/Test/ToyasCard.lean, 'card_holds'). Laid BY PROGRAM, IN A SANDBOX (cutbox-door.mjs). By AI agents, Wed Nov 11 2026. No macro, syntax, notation, axiom, sorry.
-/
import Derived.Test.YtkcaffkbogchnaaDoorRows
import GoSem.ClaimSeven
namespace Go.Proofs.YtkcaffkbogchnaaDoor
namespace Rows

/-- THE TIED CARD OF 'kerflaw13.SentenceNames'. -/
def sentenceNamesCard : Claim7 := { stood := { row := sentenceNamesRow, standIns := [], harness := (true, "bbdaf5bd1131dda2f9a779600aef1e3b6c4720f9837ed1c66d8fb9d9e7d9ac75"), looks := false }, kinds := [], alts := [], laidByText := true, laidKinds := [.data, .pinned], laidTests := true, laidLooks := .later }
def SentenceNamesCardSaid : Prop := Claim7.holds Tryd.pinned (.plain (OpenSpec.ofChange sentenceNamesSpec)) sentenceNamesCard

/-- THE SECOND FORM's CARD OF 'kerflaw13.SentenceNames'. -/
def sentenceNamesUptoCard : Claim7 := { stood := { row := sentenceNamesUptoRow, standIns := [], harness := (true, "bbdaf5bd1131dda2f9a779600aef1e3b6c4720f9837ed1c66d8fb9d9e7d9ac75"), looks := false }, kinds := [], alts := [], laidByText := true, laidKinds := [.data, .pinned], laidTests := true, laidLooks := .later }
def SentenceNamesUptoCardSaid : Prop := Claim7.holds Tryd.pinned (.plain (OpenSpec.upto sentenceNamesSpec)) sentenceNamesUptoCard
end Rows
end Go.Proofs.YtkcaffkbogchnaaDoor
