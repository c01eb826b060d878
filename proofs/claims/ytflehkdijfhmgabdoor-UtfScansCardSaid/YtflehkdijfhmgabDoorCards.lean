/-
  DERIVED. GIVEN WITH THE SEED: THE CARDS: each row of YtflehkdijfhmgabDoorRows.lean that lists a variable, with what it lists TIED to the program's text (the seventh form; the later family's looks); each row that meets fmt, with fmt's text TOLD by the authors' own Lean function (tested against real Go, not proved from fmt's source: count such statements apart). THE CARD IS WHAT COUNTS. Prove the row's statement (the work); the ties are given (YtflehkdijfhmgabDoorTie.lean); close each card by the builder's one call (the guide's Derived/Test/ToyasCard.lean, 'card_holds'). Laid BY PROGRAM, IN A SANDBOX (cutbox-door.mjs). By AI agents, Wed Nov 11 2026. No macro, syntax, notation, axiom, sorry.
-/
import Derived.Test.YtflehkdijfhmgabDoorRows
import GoSem.ClaimSeven
namespace Go.Proofs.YtflehkdijfhmgabDoor
namespace Rows

/-- THE TIED CARD OF 'kerflaw01.UtfEnds'. -/
def utfEndsCard : Claim7 := { stood := { row := utfEndsRow, standIns := [], harness := (true, "ee66fef372a440a0f16950112cd99468a3e096167c2aa0e5e126fea1d44de680"), looks := false }, kinds := [], alts := [], laidByText := true, laidKinds := [.data, .pinned], laidTests := true, laidLooks := .later }
def UtfEndsCardSaid : Prop := Claim7.holds Tryd.pinned (.plain (OpenSpec.ofChange utfEndsSpec)) utfEndsCard

/-- THE TIED CARD OF 'kerflaw01.UtfScans'. -/
def utfScansCard : Claim7 := { stood := { row := utfScansRow, standIns := [], harness := (true, "ee66fef372a440a0f16950112cd99468a3e096167c2aa0e5e126fea1d44de680"), looks := false }, kinds := [], alts := [], laidByText := true, laidKinds := [.data, .pinned], laidTests := true, laidLooks := .later }
def UtfScansCardSaid : Prop := Claim7.holds Tryd.pinned (.plain (OpenSpec.ofChange utfScansSpec)) utfScansCard

/-- THE TIED CARD OF 'kerflaw01.UtfNil'. -/
def utfNilCard : Claim7 := { stood := { row := utfNilRow, standIns := [], harness := (true, "ee66fef372a440a0f16950112cd99468a3e096167c2aa0e5e126fea1d44de680"), looks := false }, kinds := [], alts := [], laidByText := true, laidKinds := [.data, .pinned], laidTests := true, laidLooks := .later }
def UtfNilCardSaid : Prop := Claim7.holds Tryd.pinned (.plain (OpenSpec.ofChange utfNilSpec)) utfNilCard

/-- THE SECOND FORM's CARD OF 'kerflaw01.UtfEnds'. -/
def utfEndsUptoCard : Claim7 := { stood := { row := utfEndsUptoRow, standIns := [], harness := (true, "ee66fef372a440a0f16950112cd99468a3e096167c2aa0e5e126fea1d44de680"), looks := false }, kinds := [], alts := [], laidByText := true, laidKinds := [.data, .pinned], laidTests := true, laidLooks := .later }
def UtfEndsUptoCardSaid : Prop := Claim7.holds Tryd.pinned (.plain (OpenSpec.upto utfEndsSpec)) utfEndsUptoCard

/-- THE SECOND FORM's CARD OF 'kerflaw01.UtfScans'. -/
def utfScansUptoCard : Claim7 := { stood := { row := utfScansUptoRow, standIns := [], harness := (true, "ee66fef372a440a0f16950112cd99468a3e096167c2aa0e5e126fea1d44de680"), looks := false }, kinds := [], alts := [], laidByText := true, laidKinds := [.data, .pinned], laidTests := true, laidLooks := .later }
def UtfScansUptoCardSaid : Prop := Claim7.holds Tryd.pinned (.plain (OpenSpec.upto utfScansSpec)) utfScansUptoCard

/-- THE SECOND FORM's CARD OF 'kerflaw01.UtfNil'. -/
def utfNilUptoCard : Claim7 := { stood := { row := utfNilUptoRow, standIns := [], harness := (true, "ee66fef372a440a0f16950112cd99468a3e096167c2aa0e5e126fea1d44de680"), looks := false }, kinds := [], alts := [], laidByText := true, laidKinds := [.data, .pinned], laidTests := true, laidLooks := .later }
def UtfNilUptoCardSaid : Prop := Claim7.holds Tryd.pinned (.plain (OpenSpec.upto utfNilSpec)) utfNilUptoCard
end Rows
end Go.Proofs.YtflehkdijfhmgabDoor
