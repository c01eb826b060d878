/-
  DERIVED. GIVEN WITH THE SEED: THE CARDS: each row of YtfahbdlcokoghaaDoorRows.lean that lists a variable, with what it lists TIED to the program's text (the seventh form; the later family's looks); each row that meets fmt, with fmt's text TOLD by the authors' own Lean function (tested against real Go, not proved from fmt's source: count such statements apart). THE CARD IS WHAT COUNTS. Prove the row's statement (the work); the ties are given (YtfahbdlcokoghaaDoorTie.lean); close each card by the builder's one call (the guide's Derived/Test/ToyasCard.lean, 'card_holds'). Laid BY PROGRAM, IN A SANDBOX (cutbox-door.mjs). By AI agents, Wed Nov 11 2026. No macro, syntax, notation, axiom, sorry.
-/
import Derived.Test.YtfahbdlcokoghaaDoorRows
import GoSem.ClaimSeven
namespace Go.Proofs.YtfahbdlcokoghaaDoor
namespace Rows

/-- THE TIED CARD OF 'kerflaw02.RunesNorm'. -/
def runesNormCard : Claim7 := { stood := { row := runesNormRow, standIns := [], harness := (true, "9d3aa7a95276eee5bd588063db5c18ff49fbbafa0d7d77b2cc634ec00a0ad682"), looks := true }, kinds := [], alts := [], laidByText := true, laidKinds := [.data, .data, .data, .data, .sentinel, .sentinel, .pinned], laidTests := true, laidLooks := .later }
def RunesNormCardSaid : Prop := Claim7.holds Tryd.pinned (.plain (OpenSpec.ofChange runesNormSpec)) runesNormCard

/-- THE TIED CARD OF 'kerflaw02.RunesOps'. -/
def runesOpsCard : Claim7 := { stood := { row := runesOpsRow, standIns := [], harness := (true, "9d3aa7a95276eee5bd588063db5c18ff49fbbafa0d7d77b2cc634ec00a0ad682"), looks := true }, kinds := [], alts := [], laidByText := true, laidKinds := [.data, .data, .data, .data, .sentinel, .sentinel, .pinned], laidTests := true, laidLooks := .later }
def RunesOpsCardSaid : Prop := Claim7.holds Tryd.pinned (.plain (OpenSpec.ofChange runesOpsSpec)) runesOpsCard

/-- THE TIED CARD OF 'kerflaw02.RunesAlgebra'. -/
def runesAlgebraCard : Claim7 := { stood := { row := runesAlgebraRow, standIns := [], harness := (true, "9d3aa7a95276eee5bd588063db5c18ff49fbbafa0d7d77b2cc634ec00a0ad682"), looks := true }, kinds := [], alts := [], laidByText := true, laidKinds := [.data, .data, .data, .data, .sentinel, .sentinel, .pinned], laidTests := true, laidLooks := .later }
def RunesAlgebraCardSaid : Prop := Claim7.holds Tryd.pinned (.plain (OpenSpec.ofChange runesAlgebraSpec)) runesAlgebraCard

/-- THE TIED CARD OF 'kerflaw02.RunesCounts'. -/
def runesCountsCard : Claim7 := { stood := { row := runesCountsRow, standIns := [], harness := (true, "9d3aa7a95276eee5bd588063db5c18ff49fbbafa0d7d77b2cc634ec00a0ad682"), looks := true }, kinds := [], alts := [], laidByText := true, laidKinds := [.data, .data, .data, .data, .sentinel, .sentinel, .pinned], laidTests := true, laidLooks := .later }
def RunesCountsCardSaid : Prop := Claim7.holds Tryd.pinned (.plain (OpenSpec.ofChange runesCountsSpec)) runesCountsCard

/-- THE TIED CARD OF 'kerflaw02.RunesEach'. -/
def runesEachCard : Claim7 := { stood := { row := runesEachRow, standIns := [], harness := (true, "9d3aa7a95276eee5bd588063db5c18ff49fbbafa0d7d77b2cc634ec00a0ad682"), looks := true }, kinds := [], alts := [], laidByText := true, laidKinds := [.data, .data, .data, .data, .sentinel, .sentinel, .pinned], laidTests := true, laidLooks := .later }
def RunesEachCardSaid : Prop := Claim7.holds Tryd.pinned (.plain (OpenSpec.ofChange runesEachSpec)) runesEachCard

/-- THE TIED CARD OF 'kerflaw02.RunesTexts'. -/
def runesTextsCard : Claim7 := { stood := { row := runesTextsRow, standIns := [], harness := (true, "9d3aa7a95276eee5bd588063db5c18ff49fbbafa0d7d77b2cc634ec00a0ad682"), looks := true }, kinds := [], alts := [], laidByText := true, laidKinds := [.data, .data, .data, .data, .sentinel, .sentinel, .pinned], laidTests := true, laidLooks := .later }
def RunesTextsCardSaid : Prop := Claim7.holds Tryd.pinned (.plain (OpenSpec.ofChange runesTextsSpec)) runesTextsCard

/-- THE SECOND FORM's CARD OF 'kerflaw02.RunesNorm'. -/
def runesNormUptoCard : Claim7 := { stood := { row := runesNormUptoRow, standIns := [], harness := (true, "9d3aa7a95276eee5bd588063db5c18ff49fbbafa0d7d77b2cc634ec00a0ad682"), looks := true }, kinds := [], alts := [], laidByText := true, laidKinds := [.data, .data, .data, .data, .sentinel, .sentinel, .pinned], laidTests := true, laidLooks := .later }
def RunesNormUptoCardSaid : Prop := Claim7.holds Tryd.pinned (.plain (OpenSpec.upto runesNormSpec)) runesNormUptoCard

/-- THE SECOND FORM's CARD OF 'kerflaw02.RunesOps'. -/
def runesOpsUptoCard : Claim7 := { stood := { row := runesOpsUptoRow, standIns := [], harness := (true, "9d3aa7a95276eee5bd588063db5c18ff49fbbafa0d7d77b2cc634ec00a0ad682"), looks := true }, kinds := [], alts := [], laidByText := true, laidKinds := [.data, .data, .data, .data, .sentinel, .sentinel, .pinned], laidTests := true, laidLooks := .later }
def RunesOpsUptoCardSaid : Prop := Claim7.holds Tryd.pinned (.plain (OpenSpec.upto runesOpsSpec)) runesOpsUptoCard

/-- THE SECOND FORM's CARD OF 'kerflaw02.RunesAlgebra'. -/
def runesAlgebraUptoCard : Claim7 := { stood := { row := runesAlgebraUptoRow, standIns := [], harness := (true, "9d3aa7a95276eee5bd588063db5c18ff49fbbafa0d7d77b2cc634ec00a0ad682"), looks := true }, kinds := [], alts := [], laidByText := true, laidKinds := [.data, .data, .data, .data, .sentinel, .sentinel, .pinned], laidTests := true, laidLooks := .later }
def RunesAlgebraUptoCardSaid : Prop := Claim7.holds Tryd.pinned (.plain (OpenSpec.upto runesAlgebraSpec)) runesAlgebraUptoCard

/-- THE SECOND FORM's CARD OF 'kerflaw02.RunesCounts'. -/
def runesCountsUptoCard : Claim7 := { stood := { row := runesCountsUptoRow, standIns := [], harness := (true, "9d3aa7a95276eee5bd588063db5c18ff49fbbafa0d7d77b2cc634ec00a0ad682"), looks := true }, kinds := [], alts := [], laidByText := true, laidKinds := [.data, .data, .data, .data, .sentinel, .sentinel, .pinned], laidTests := true, laidLooks := .later }
def RunesCountsUptoCardSaid : Prop := Claim7.holds Tryd.pinned (.plain (OpenSpec.upto runesCountsSpec)) runesCountsUptoCard

/-- THE SECOND FORM's CARD OF 'kerflaw02.RunesEach'. -/
def runesEachUptoCard : Claim7 := { stood := { row := runesEachUptoRow, standIns := [], harness := (true, "9d3aa7a95276eee5bd588063db5c18ff49fbbafa0d7d77b2cc634ec00a0ad682"), looks := true }, kinds := [], alts := [], laidByText := true, laidKinds := [.data, .data, .data, .data, .sentinel, .sentinel, .pinned], laidTests := true, laidLooks := .later }
def RunesEachUptoCardSaid : Prop := Claim7.holds Tryd.pinned (.plain (OpenSpec.upto runesEachSpec)) runesEachUptoCard

/-- THE SECOND FORM's CARD OF 'kerflaw02.RunesTexts'. -/
def runesTextsUptoCard : Claim7 := { stood := { row := runesTextsUptoRow, standIns := [], harness := (true, "9d3aa7a95276eee5bd588063db5c18ff49fbbafa0d7d77b2cc634ec00a0ad682"), looks := true }, kinds := [], alts := [], laidByText := true, laidKinds := [.data, .data, .data, .data, .sentinel, .sentinel, .pinned], laidTests := true, laidLooks := .later }
def RunesTextsUptoCardSaid : Prop := Claim7.holds Tryd.pinned (.plain (OpenSpec.upto runesTextsSpec)) runesTextsUptoCard
end Rows
end Go.Proofs.YtfahbdlcokoghaaDoor
