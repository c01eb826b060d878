/- SentenceNames, worked out by the evaluator. -/
import Derived.Test.YtkcaffkbogchnaaDoorEvT
import Derived.Test.YtkcaffkbogchnaaDoorProg
import Derived.Lib.LaidU8T
namespace Go.Proofs.YtkcaffkbogchnaaDoor
open Ev
/-- The tables of package unicode/utf8. -/
def firstL : List Value := (List.range 256).map fun c => .int .u8 (Lib.firstT c : Int)
def acceptL : List Value := (List.range 32).map fun j => .int .u8 (if Nat.beq (j % 2) 0 then (Lib.accLo (j / 2) : Int) else Lib.accHi (j / 2))
def tabs : List Tb := [⟨0, 49, 1, firstL⟩, ⟨1, 53, 2, acceptL⟩]
theorem tabs_ok : tbOK tabs = true := by kernel_rfl
def none7 : FuncId → Bool := fun _ => false
theorem none7_ok : SameOK Tryd.prog none7 := fun g hg => by cases hg
theorem mixed : Tryd.prog.follows .mixedOrders = true := by kernel_rfl
theorem names_run : runTb Tryd.prog none7 1000000 60 tabs 3 = true := by kernel_rfl
end Go.Proofs.YtkcaffkbogchnaaDoor
