/- The closing look of stage 17 and its closed statement, worked out by the evaluator. -/
import Derived.Test.YtffbdnlfknomnaaDoorLiveX
namespace Go.Proofs.YtffbdnlfknomnaaDoor
open Ev Go.RowKit
theorem live7_run : runTb Tryd.prog same7 1000000 60 tabs 11 = true := by kernel_rfl
theorem lives7 (w : World) (hw : Tbs tabs w) : Calls Tryd.prog 11 #[] w fun e w' => e = .returned (.bool true) ∧ Below w.heap.size w w' := closed_tabs mixed same7_ok tabs_ok live7_run w hw
theorem names_run : runTb Tryd.prog same7 1000000 60 tabs 4 = true := by kernel_rfl
theorem names (w : World) (hw : Tbs tabs w) : Calls Tryd.prog 4 #[] w fun e w' => e = .returned (.bool true) ∧ Below w.heap.size w w' := closed_tabs mixed same7_ok tabs_ok names_run w hw
end Go.Proofs.YtffbdnlfknomnaaDoor
