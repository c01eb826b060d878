/- WdLv: parts of the proof, joined. -/
import Derived.RangeFuncNested
import Derived.RangeFuncBound
import Derived.Shelf.RegionOpen
import Derived.OwnWalkIn
import Derived.LoopNIn
import Derived.LoopIn
import Derived.Test.YtbbapnpdfcgjnaaGreatDoorWBase
import Derived.Test.YtbbapnpdfcgjnaaGreatDoorWPtBas
set_option maxHeartbeats 64000000
namespace Go.Proofs.YtbbapnpdfcgjnaaGreatDoor
section
open Ev Go.RowKit
theorem zkK:zmY Tryz.prog nG 1000000 60 tabs 10=true:=by kernel_rfl
theorem zqY(w:World)(hw:q9 tabs w):Calls Tryz.prog 10 #[] w fun e w'=>e=.returned (.bool true)/\Below w.heap.size w w':=zfr mixed dy zhZ zkK w hw
end
end Go.Proofs.YtbbapnpdfcgjnaaGreatDoor
