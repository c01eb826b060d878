/- WdLv: parts of the proof, joined. -/
import Derived.RangeFuncNested
import Derived.RangeFuncBound
import Derived.Shelf.RegionOpen
import Derived.OwnWalkIn
import Derived.LoopNIn
import Derived.LoopIn
import Derived.Test.YtokpjifnlifafaaGreatDoorEBase
import Derived.Test.YtokpjifnlifafaaGreatDoorEPtBas
set_option maxHeartbeats 64000000
namespace Go.Proofs.YtokpjifnlifafaaGreatDoor
section
open Ev Go.RowKit
theorem live_word:runTb Tryz.prog none7 1000000 60 tabs 10=true:=by kernel_rfl
theorem lives12 (w:World) (hw:Tbs tabs w):Calls Tryz.prog 10 #[] w fun e w'=>e= .returned (.bool true)/\Below w.heap.size w w':=closed_tabs mixed zbA tabs_ok live_word w hw
theorem tbs_below {w w':World} (h:Tbs tabs w) (hb:Below w.heap.size w w'):Tbs tabs w':=fun x hx=>by
 obtain⟨c,h1,h2⟩:=h x hx;exact⟨c,(hb.block _ (Array.getElem?_eq_some_iff.1 h1).1).trans h1,h2⟩
end
end Go.Proofs.YtokpjifnlifafaaGreatDoor
