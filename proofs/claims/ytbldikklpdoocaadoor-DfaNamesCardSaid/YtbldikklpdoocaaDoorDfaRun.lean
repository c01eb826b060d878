/- DfaNames, worked out by the evaluator. -/
import Derived.Test.YtbldikklpdoocaaDoorEvP
import Derived.Test.YtbldikklpdoocaaDoorProg
namespace Go.Proofs.YtbldikklpdoocaaDoor
open Ev
def none7 : FuncId → Bool := fun _ => false
theorem none7_ok : SameOK Tryd.prog none7 := fun g hg => by cases hg
theorem mixed : Tryd.prog.follows .mixedOrders = true := by kernel_rfl
theorem dfa_run : okTab (evF Tryd.prog none7 1000000 (evDraw Tryd.prog none7) 60 3 [] wG) = true := by kernel_rfl
end Go.Proofs.YtbldikklpdoocaaDoor
