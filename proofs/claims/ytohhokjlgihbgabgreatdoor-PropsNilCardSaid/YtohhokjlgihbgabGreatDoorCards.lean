/-
  DERIVED. GIVEN WITH THE SEED: THE CARDS: each row of YtohhokjlgihbgabGreatDoorRows.lean that lists a variable, with what it lists TIED to the program's text (the seventh form; the later family's looks); each row that meets fmt, with fmt's text TOLD by the authors' own Lean function (tested against real Go, not proved from fmt's source: count such statements apart). THE CARD IS WHAT COUNTS. Prove the row's statement (the work); the ties are given (YtohhokjlgihbgabGreatDoorTie.lean); close each card by the builder's one call (the guide's Derived/Test/ToyasCard.lean, 'card_holds'). Laid BY PROGRAM, IN A SANDBOX (cutbox-door.mjs). By AI agents, Wed Nov 11 2026. No macro, syntax, notation, axiom, sorry.
-/
import Derived.Test.YtohhokjlgihbgabGreatDoorRows
import GoSem.ClaimSeven
namespace Go.Proofs.YtohhokjlgihbgabGreatDoor
namespace Rows

/-- THE TIED CARD OF 'kerflaw04.PropsNil'. -/
def propsNilCard : Claim7 := { stood := { row := propsNilRow, standIns := [], harness := (true, "0dfec3452f5bd64a216adaaa2a06a1d15835a210dee269f0c64a85678cb73876"), looks := true }, kinds := [], alts := [], laidByText := true, laidKinds := [.data, .data, .data, .data, .sentinel, .sentinel, .pinned, .pinned], laidTests := true, laidLooks := .later }
def PropsNilCardSaid : Prop := Claim7.holds Tryz.pinned (.plain (OpenSpec.ofChange propsNilSpec)) propsNilCard

/-- THE SECOND FORM's CARD OF 'kerflaw04.PropsNil'. -/
def propsNilUptoCard : Claim7 := { stood := { row := propsNilUptoRow, standIns := [], harness := (true, "0dfec3452f5bd64a216adaaa2a06a1d15835a210dee269f0c64a85678cb73876"), looks := true }, kinds := [], alts := [], laidByText := true, laidKinds := [.data, .data, .data, .data, .sentinel, .sentinel, .pinned, .pinned], laidTests := true, laidLooks := .later }
def PropsNilUptoCardSaid : Prop := Claim7.holds Tryz.pinned (.plain (OpenSpec.upto propsNilSpec)) propsNilUptoCard
end Rows
end Go.Proofs.YtohhokjlgihbgabGreatDoor
