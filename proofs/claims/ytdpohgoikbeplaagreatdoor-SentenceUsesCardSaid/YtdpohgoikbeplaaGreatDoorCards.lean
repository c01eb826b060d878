/-
  DERIVED. GIVEN WITH THE SEED: THE CARDS: each row of YtdpohgoikbeplaaGreatDoorRows.lean that lists a variable, with what it lists TIED to the program's text (the seventh form; the later family's looks); each row that meets fmt, with fmt's text TOLD by the authors' own Lean function (tested against real Go, not proved from fmt's source: count such statements apart). THE CARD IS WHAT COUNTS. Prove the row's statement (the work); the ties are given (YtdpohgoikbeplaaGreatDoorTie.lean); close each card by the builder's one call (the guide's Derived/Test/ToyasCard.lean, 'card_holds'). Laid BY PROGRAM, IN A SANDBOX (cutbox-door.mjs). By AI agents, Wed Nov 11 2026. No macro, syntax, notation, axiom, sorry.
-/
import Derived.Test.YtdpohgoikbeplaaGreatDoorRows
import GoSem.ClaimSeven
namespace Go.Proofs.YtdpohgoikbeplaaGreatDoor
namespace Rows

/-- THE TIED CARD OF 'kerflaw11.GraphemeBounds'. -/
def graphemeBoundsCard : Claim7 := { stood := { row := graphemeBoundsRow, standIns := [], harness := (true, "d22e4adc668dff61aa2d264f1e732b6e2f8291781f85c11ce0e83c1cbadd3045"), looks := false }, kinds := [], alts := [], laidByText := true, laidKinds := [.data, .pinned], laidTests := true, laidLooks := .later }
def GraphemeBoundsCardSaid : Prop := Claim7.holds Tryz.pinned (.plain (OpenSpec.ofChange graphemeBoundsSpec)) graphemeBoundsCard

/-- THE TIED CARD OF 'kerflaw11.GraphemeMoves'. -/
def graphemeMovesCard : Claim7 := { stood := { row := graphemeMovesRow, standIns := [], harness := (true, "d22e4adc668dff61aa2d264f1e732b6e2f8291781f85c11ce0e83c1cbadd3045"), looks := false }, kinds := [], alts := [], laidByText := true, laidKinds := [.data, .pinned], laidTests := true, laidLooks := .later }
def GraphemeMovesCardSaid : Prop := Claim7.holds Tryz.pinned (.plain (OpenSpec.ofChange graphemeMovesSpec)) graphemeMovesCard

/-- THE TIED CARD OF 'kerflaw11.GraphemePieces'. -/
def graphemePiecesCard : Claim7 := { stood := { row := graphemePiecesRow, standIns := [], harness := (true, "d22e4adc668dff61aa2d264f1e732b6e2f8291781f85c11ce0e83c1cbadd3045"), looks := false }, kinds := [], alts := [], laidByText := true, laidKinds := [.data, .pinned], laidTests := true, laidLooks := .later }
def GraphemePiecesCardSaid : Prop := Claim7.holds Tryz.pinned (.plain (OpenSpec.ofChange graphemePiecesSpec)) graphemePiecesCard

/-- THE TIED CARD OF 'kerflaw11.GraphemeUses'. -/
def graphemeUsesCard : Claim7 := { stood := { row := graphemeUsesRow, standIns := [], harness := (true, "d22e4adc668dff61aa2d264f1e732b6e2f8291781f85c11ce0e83c1cbadd3045"), looks := false }, kinds := [], alts := [], laidByText := true, laidKinds := [.data, .pinned], laidTests := true, laidLooks := .later }
def GraphemeUsesCardSaid : Prop := Claim7.holds Tryz.pinned (.plain (OpenSpec.ofChange graphemeUsesSpec)) graphemeUsesCard

/-- THE TIED CARD OF 'kerflaw11.GraphemeSafe'. -/
def graphemeSafeCard : Claim7 := { stood := { row := graphemeSafeRow, standIns := [], harness := (true, "d22e4adc668dff61aa2d264f1e732b6e2f8291781f85c11ce0e83c1cbadd3045"), looks := false }, kinds := [], alts := [], laidByText := true, laidKinds := [.data, .pinned], laidTests := true, laidLooks := .later }
def GraphemeSafeCardSaid : Prop := Claim7.holds Tryz.pinned (.plain (OpenSpec.ofChange graphemeSafeSpec)) graphemeSafeCard

/-- THE TIED CARD OF 'kerflaw13.SentenceBounds'. -/
def sentenceBoundsCard : Claim7 := { stood := { row := sentenceBoundsRow, standIns := [], harness := (true, "d22e4adc668dff61aa2d264f1e732b6e2f8291781f85c11ce0e83c1cbadd3045"), looks := false }, kinds := [], alts := [], laidByText := true, laidKinds := [.data, .pinned], laidTests := true, laidLooks := .later }
def SentenceBoundsCardSaid : Prop := Claim7.holds Tryz.pinned (.plain (OpenSpec.ofChange sentenceBoundsSpec)) sentenceBoundsCard

/-- THE TIED CARD OF 'kerflaw13.SentenceMoves'. -/
def sentenceMovesCard : Claim7 := { stood := { row := sentenceMovesRow, standIns := [], harness := (true, "d22e4adc668dff61aa2d264f1e732b6e2f8291781f85c11ce0e83c1cbadd3045"), looks := false }, kinds := [], alts := [], laidByText := true, laidKinds := [.data, .pinned], laidTests := true, laidLooks := .later }
def SentenceMovesCardSaid : Prop := Claim7.holds Tryz.pinned (.plain (OpenSpec.ofChange sentenceMovesSpec)) sentenceMovesCard

/-- THE TIED CARD OF 'kerflaw13.SentencePieces'. -/
def sentencePiecesCard : Claim7 := { stood := { row := sentencePiecesRow, standIns := [], harness := (true, "d22e4adc668dff61aa2d264f1e732b6e2f8291781f85c11ce0e83c1cbadd3045"), looks := false }, kinds := [], alts := [], laidByText := true, laidKinds := [.data, .pinned], laidTests := true, laidLooks := .later }
def SentencePiecesCardSaid : Prop := Claim7.holds Tryz.pinned (.plain (OpenSpec.ofChange sentencePiecesSpec)) sentencePiecesCard

/-- THE TIED CARD OF 'kerflaw13.SentenceUses'. -/
def sentenceUsesCard : Claim7 := { stood := { row := sentenceUsesRow, standIns := [], harness := (true, "d22e4adc668dff61aa2d264f1e732b6e2f8291781f85c11ce0e83c1cbadd3045"), looks := false }, kinds := [], alts := [], laidByText := true, laidKinds := [.data, .pinned], laidTests := true, laidLooks := .later }
def SentenceUsesCardSaid : Prop := Claim7.holds Tryz.pinned (.plain (OpenSpec.ofChange sentenceUsesSpec)) sentenceUsesCard

/-- THE SECOND FORM's CARD OF 'kerflaw11.GraphemeBounds'. -/
def graphemeBoundsUptoCard : Claim7 := { stood := { row := graphemeBoundsUptoRow, standIns := [], harness := (true, "d22e4adc668dff61aa2d264f1e732b6e2f8291781f85c11ce0e83c1cbadd3045"), looks := false }, kinds := [], alts := [], laidByText := true, laidKinds := [.data, .pinned], laidTests := true, laidLooks := .later }
def GraphemeBoundsUptoCardSaid : Prop := Claim7.holds Tryz.pinned (.plain (OpenSpec.upto graphemeBoundsSpec)) graphemeBoundsUptoCard

/-- THE SECOND FORM's CARD OF 'kerflaw11.GraphemeMoves'. -/
def graphemeMovesUptoCard : Claim7 := { stood := { row := graphemeMovesUptoRow, standIns := [], harness := (true, "d22e4adc668dff61aa2d264f1e732b6e2f8291781f85c11ce0e83c1cbadd3045"), looks := false }, kinds := [], alts := [], laidByText := true, laidKinds := [.data, .pinned], laidTests := true, laidLooks := .later }
def GraphemeMovesUptoCardSaid : Prop := Claim7.holds Tryz.pinned (.plain (OpenSpec.upto graphemeMovesSpec)) graphemeMovesUptoCard

/-- THE SECOND FORM's CARD OF 'kerflaw11.GraphemePieces'. -/
def graphemePiecesUptoCard : Claim7 := { stood := { row := graphemePiecesUptoRow, standIns := [], harness := (true, "d22e4adc668dff61aa2d264f1e732b6e2f8291781f85c11ce0e83c1cbadd3045"), looks := false }, kinds := [], alts := [], laidByText := true, laidKinds := [.data, .pinned], laidTests := true, laidLooks := .later }
def GraphemePiecesUptoCardSaid : Prop := Claim7.holds Tryz.pinned (.plain (OpenSpec.upto graphemePiecesSpec)) graphemePiecesUptoCard

/-- THE SECOND FORM's CARD OF 'kerflaw11.GraphemeUses'. -/
def graphemeUsesUptoCard : Claim7 := { stood := { row := graphemeUsesUptoRow, standIns := [], harness := (true, "d22e4adc668dff61aa2d264f1e732b6e2f8291781f85c11ce0e83c1cbadd3045"), looks := false }, kinds := [], alts := [], laidByText := true, laidKinds := [.data, .pinned], laidTests := true, laidLooks := .later }
def GraphemeUsesUptoCardSaid : Prop := Claim7.holds Tryz.pinned (.plain (OpenSpec.upto graphemeUsesSpec)) graphemeUsesUptoCard

/-- THE SECOND FORM's CARD OF 'kerflaw11.GraphemeSafe'. -/
def graphemeSafeUptoCard : Claim7 := { stood := { row := graphemeSafeUptoRow, standIns := [], harness := (true, "d22e4adc668dff61aa2d264f1e732b6e2f8291781f85c11ce0e83c1cbadd3045"), looks := false }, kinds := [], alts := [], laidByText := true, laidKinds := [.data, .pinned], laidTests := true, laidLooks := .later }
def GraphemeSafeUptoCardSaid : Prop := Claim7.holds Tryz.pinned (.plain (OpenSpec.upto graphemeSafeSpec)) graphemeSafeUptoCard

/-- THE SECOND FORM's CARD OF 'kerflaw13.SentenceBounds'. -/
def sentenceBoundsUptoCard : Claim7 := { stood := { row := sentenceBoundsUptoRow, standIns := [], harness := (true, "d22e4adc668dff61aa2d264f1e732b6e2f8291781f85c11ce0e83c1cbadd3045"), looks := false }, kinds := [], alts := [], laidByText := true, laidKinds := [.data, .pinned], laidTests := true, laidLooks := .later }
def SentenceBoundsUptoCardSaid : Prop := Claim7.holds Tryz.pinned (.plain (OpenSpec.upto sentenceBoundsSpec)) sentenceBoundsUptoCard

/-- THE SECOND FORM's CARD OF 'kerflaw13.SentenceMoves'. -/
def sentenceMovesUptoCard : Claim7 := { stood := { row := sentenceMovesUptoRow, standIns := [], harness := (true, "d22e4adc668dff61aa2d264f1e732b6e2f8291781f85c11ce0e83c1cbadd3045"), looks := false }, kinds := [], alts := [], laidByText := true, laidKinds := [.data, .pinned], laidTests := true, laidLooks := .later }
def SentenceMovesUptoCardSaid : Prop := Claim7.holds Tryz.pinned (.plain (OpenSpec.upto sentenceMovesSpec)) sentenceMovesUptoCard

/-- THE SECOND FORM's CARD OF 'kerflaw13.SentencePieces'. -/
def sentencePiecesUptoCard : Claim7 := { stood := { row := sentencePiecesUptoRow, standIns := [], harness := (true, "d22e4adc668dff61aa2d264f1e732b6e2f8291781f85c11ce0e83c1cbadd3045"), looks := false }, kinds := [], alts := [], laidByText := true, laidKinds := [.data, .pinned], laidTests := true, laidLooks := .later }
def SentencePiecesUptoCardSaid : Prop := Claim7.holds Tryz.pinned (.plain (OpenSpec.upto sentencePiecesSpec)) sentencePiecesUptoCard

/-- THE SECOND FORM's CARD OF 'kerflaw13.SentenceUses'. -/
def sentenceUsesUptoCard : Claim7 := { stood := { row := sentenceUsesUptoRow, standIns := [], harness := (true, "d22e4adc668dff61aa2d264f1e732b6e2f8291781f85c11ce0e83c1cbadd3045"), looks := false }, kinds := [], alts := [], laidByText := true, laidKinds := [.data, .pinned], laidTests := true, laidLooks := .later }
def SentenceUsesUptoCardSaid : Prop := Claim7.holds Tryz.pinned (.plain (OpenSpec.upto sentenceUsesSpec)) sentenceUsesUptoCard
end Rows
end Go.Proofs.YtdpohgoikbeplaaGreatDoor
