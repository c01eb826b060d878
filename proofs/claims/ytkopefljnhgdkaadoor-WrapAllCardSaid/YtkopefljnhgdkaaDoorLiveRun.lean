/- The closing look, worked out by the evaluator: a contract for the walks. -/
import Derived.Test.YtkopefljnhgdkaaDoorLiveX
namespace Go.Proofs.YtkopefljnhgdkaaDoor
open Ev Go.RowKit
theorem live_run : runTb Tryd.prog same7 1000000 60 tabs 8 = true := by kernel_rfl
theorem lives (w : World) (hw : Tbs tabs w) : Calls Tryd.prog 8 #[] w fun e w' => e = .returned (.bool true) ∧ Below w.heap.size w w' := closed_tabs mixed same7_ok tabs_ok live_run w hw
end Go.Proofs.YtkopefljnhgdkaaDoor
