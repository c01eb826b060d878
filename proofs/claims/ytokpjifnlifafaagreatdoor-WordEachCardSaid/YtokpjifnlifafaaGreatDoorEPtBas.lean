/- PtBas: parts of the proof, joined. -/
import Derived.Lib.LaidU8T
import Derived.Test.YtokpjifnlifafaaGreatDoorProg
import Derived.Test.YtokpjifnlifafaaGreatDoorEEv18
set_option maxHeartbeats 64000000
namespace Go.Proofs.YtokpjifnlifafaaGreatDoor
section
open Ev Go.RowKit
def firstL:List Value:=(List.range 256).map fun c=>.int .u8 (Lib.firstT c:Int)
def zff:List Value:=(List.range 32).map fun j=>.int .u8 (if Nat.beq (j % 2) 0 then (Lib.accLo (j / 2):Int) else Lib.accHi (j / 2))
def tabs:List Tb:=[⟨0,161,1,firstL⟩,⟨1,164,2,zff⟩]
theorem tabs_ok:tbOK tabs=true:=by kernel_rfl
def none7:XT:=fun _=>none
theorem zbA:zbd Tryz.prog none7:=fun g f hg=>by cases hg
theorem mixed:Tryz.prog.follows .mixedOrders=true:=by kernel_rfl
end
end Go.Proofs.YtokpjifnlifafaaGreatDoor
