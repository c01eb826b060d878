/- live of stage 6's laws, worked out by the evaluator: a contract for the walks. -/
import Derived.Test.YteacehfihogmpaaDoorEvP
import Derived.Test.YteacehfihogmpaaDoorProg
namespace Go.Proofs.YteacehfihogmpaaDoor
open Ev Go.RowKit
def none6 : FuncId → Bool := fun _ => false
theorem none6_ok : SameOK Tryd.prog none6 := fun g hg => by cases hg
theorem mixed : Tryd.prog.follows .mixedOrders = true := by kernel_rfl
theorem live_run : okTab (evF Tryd.prog none6 1000000 (evDraw Tryd.prog none6) 60 17 [] wG) = true := by kernel_rfl
theorem live_any (w : World) {c : Array Value} (hw : w.heap[0]? = some (.cells c 145)) (hc : c.toList = tab) : Calls Tryd.prog 17 #[] w fun e w' => e = .returned (.bool true) ∧ Below w.heap.size w w' := closed_tab mixed none6_ok live_run w hw hc
end Go.Proofs.YteacehfihogmpaaDoor
