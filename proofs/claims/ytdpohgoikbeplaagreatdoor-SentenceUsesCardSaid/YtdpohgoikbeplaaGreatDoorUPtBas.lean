/- PtBas: parts of the proof, joined. -/
import Derived.Lib.LaidU8T
import Derived.Test.YtdpohgoikbeplaaGreatDoorProg
import Derived.Test.YtdpohgoikbeplaaGreatDoorUEv18
namespace Go.Proofs.YtdpohgoikbeplaaGreatDoor
open Ev Go.RowKit
def firstL : List Value := (List.range 256).map fun c => .int .u8 (Lib.firstT c : Int)
def acceptL : List Value := (List.range 32).map fun j => .int .u8 (if Nat.beq (j % 2) 0 then (Lib.accLo (j / 2) : Int) else Lib.accHi (j / 2))
def tabs : List Tb := [⟨0, 150, 1, firstL⟩, ⟨1, 153, 2, acceptL⟩]
def none7 : XT := fun _ => none
theorem none7_ok : SameOK Tryz.prog none7 := fun g f hg => by cases hg
theorem mixed : Tryz.prog.follows .mixedOrders = true := by kernel_rfl
end Go.Proofs.YtdpohgoikbeplaaGreatDoor
