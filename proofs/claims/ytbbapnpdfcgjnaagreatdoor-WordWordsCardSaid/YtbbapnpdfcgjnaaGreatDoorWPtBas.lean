/- PtBas: parts of the proof, joined. -/
import Derived.Lib.LaidU8T
import Derived.Test.YtbbapnpdfcgjnaaGreatDoorProg
import Derived.Test.YtbbapnpdfcgjnaaGreatDoorWEv18
set_option maxHeartbeats 64000000
namespace Go.Proofs.YtbbapnpdfcgjnaaGreatDoor
section
open Ev Go.RowKit
def zce:List Value:=(List.range 256).map fun c=>.int .u8 (Lib.firstT c:Int)
def l9:List Value:=(List.range 32).map fun j=>.int .u8 (if Nat.beq (j%2) 0 then (Lib.accLo (j / 2):Int)else Lib.accHi (j / 2))
def tabs:List Tb:=[⟨0,161,1,zce⟩,⟨1,164,2,l9⟩]
theorem zhZ:zmH tabs=true:=by kernel_rfl
def nG:XT:=fun _=>none
theorem dy:ck Tryz.prog nG:=fun g f hg=>by cases hg
theorem mixed:Tryz.prog.follows .mixedOrders=true:=by kernel_rfl
end
end Go.Proofs.YtbbapnpdfcgjnaaGreatDoor
