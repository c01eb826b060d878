/- The closing looks of stages 12 and 14, worked out by the evaluator: contracts for the walks. -/
import Derived.Test.YtkophiklkgefnaaDoorEvA
import Derived.Test.YtkophiklkgefnaaDoorProg
import Derived.Lib.LaidU8T
namespace Go.Proofs.YtkophiklkgefnaaDoor
open Ev Go.RowKit
/-- The tables of package unicode/utf8. -/
def firstL : List Value := (List.range 256).map fun c => .int .u8 (Lib.firstT c : Int)
def acceptL : List Value := (List.range 32).map fun j => .int .u8 (if Nat.beq (j % 2) 0 then (Lib.accLo (j / 2) : Int) else Lib.accHi (j / 2))
def tabs : List Tb := [⟨0, 106, 1, firstL⟩, ⟨1, 110, 2, acceptL⟩]
theorem tabs_ok : tbOK tabs = true := by kernel_rfl
def none7 : XT := fun _ => none
theorem none7_ok : SameOK Tryd.prog none7 := fun g f hg => by cases hg
theorem mixed : Tryd.prog.follows .mixedOrders = true := by kernel_rfl
theorem live_word : runTb Tryd.prog none7 1000000 60 tabs 11 = true := by kernel_rfl
theorem lives12 (w : World) (hw : Tbs tabs w) : Calls Tryd.prog 11 #[] w fun e w' => e = .returned (.bool true) ∧ Below w.heap.size w w' := closed_tabs mixed none7_ok tabs_ok live_word w hw
theorem live_line : runTb Tryd.prog none7 1000000 60 tabs 24 = true := by kernel_rfl
theorem lives14 (w : World) (hw : Tbs tabs w) : Calls Tryd.prog 24 #[] w fun e w' => e = .returned (.bool true) ∧ Below w.heap.size w w' := closed_tabs mixed none7_ok tabs_ok live_line w hw
end Go.Proofs.YtkophiklkgefnaaDoor
