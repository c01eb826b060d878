/- WdLv: parts of the proof, joined. -/
import Derived.RangeFuncNested
import Derived.RangeFuncBound
import Derived.Shelf.RegionOpen
import Derived.OwnWalkIn
import Derived.LoopNIn
import Derived.LoopIn
import Derived.Test.YtbbapnpdfcgjnaaGreatDoorEPtBas
import Derived.Test.YtbbapnpdfcgjnaaGreatDoorEBase
set_option maxHeartbeats 64000000
namespace Go.Proofs.YtbbapnpdfcgjnaaGreatDoor
section
open Ev Go.RowKit
theorem zkd:zlu Tryz.prog pm 1000000 60 tabs 30=true:=by kernel_rfl
theorem zqH(w:World)(hw:Tbs tabs w):Calls Tryz.prog 30 #[] w fun e w'=>e=.returned (.bool true)/\Below w.heap.size w w':=zeV mixed dP zpW zkd w hw
theorem ziW{w w':World}(h:Tbs tabs w)(hb:Below w.heap.size w w'):Tbs tabs w':=fun x hx=>by
 obtain⟨c,h1,h2⟩:=h x hx;exact⟨c,(hb.block _ (Array.getElem?_eq_some_iff.1 h1).1).trans h1,h2⟩
end
end Go.Proofs.YtbbapnpdfcgjnaaGreatDoor
