/- The closing look, worked out by the evaluator: a contract for the walks. -/
import Derived.Test.YtkopefljnhgdkaaGreatDoorLiveX
namespace Go.Proofs.YtkopefljnhgdkaaGreatDoor
open Ev Go.RowKit
theorem live_run : runTb Tryz.prog same7 1000000 60 tabs 5 = true := by kernel_rfl
theorem lives (w : World) (hw : Tbs tabs w) : Calls Tryz.prog 5 #[] w fun e w' => e = .returned (.bool true) ∧ Below w.heap.size w w' := closed_tabs mixed same7_ok tabs_ok live_run w hw
end Go.Proofs.YtkopefljnhgdkaaGreatDoor
