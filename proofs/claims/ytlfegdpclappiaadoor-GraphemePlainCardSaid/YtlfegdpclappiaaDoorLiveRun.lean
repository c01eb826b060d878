/- The closing looks, worked out by the evaluator: contracts for the walks. -/
import Derived.Test.YtlfegdpclappiaaDoorEvT
import Derived.Test.YtlfegdpclappiaaDoorProg
import Derived.Lib.LaidU8T
namespace Go.Proofs.YtlfegdpclappiaaDoor
open Ev Go.RowKit
/-- The tables of package unicode/utf8. -/
def firstL : List Value := (List.range 256).map fun c => .int .u8 (Lib.firstT c : Int)
def acceptL : List Value := (List.range 32).map fun j => .int .u8 (if Nat.beq (j % 2) 0 then (Lib.accLo (j / 2) : Int) else Lib.accHi (j / 2))
def tabs : List Tb := [⟨0, 80, 1, firstL⟩, ⟨1, 83, 2, acceptL⟩]
theorem tabs_ok : tbOK tabs = true := by kernel_rfl
def none7 : XT := fun _ => none
theorem none7_ok : SameOK Tryd.prog none7 := fun g f hg => by cases hg
theorem mixed : Tryd.prog.follows .mixedOrders = true := by kernel_rfl
theorem live_width : runTb Tryd.prog none7 1000000 60 tabs 19 = true := by kernel_rfl
theorem lives_width (w : World) (hw : Tbs tabs w) : Calls Tryd.prog 19 #[] w fun e w' => e = .returned (.bool true) ∧ Below w.heap.size w w' := closed_tabs mixed none7_ok tabs_ok live_width w hw
end Go.Proofs.YtlfegdpclappiaaDoor
