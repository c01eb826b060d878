/- live of stage 7's laws, worked out by the evaluator: a contract for the walks. -/
import Derived.Test.YtkmcbhdjecpmjaaDoorEvP
import Derived.Test.YtkmcbhdjecpmjaaDoorProg
namespace Go.Proofs.YtkmcbhdjecpmjaaDoor
open Ev Go.RowKit
def none7 : FuncId → Bool := fun _ => false
theorem none7_ok : SameOK Tryd.prog none7 := fun g hg => by cases hg
theorem mixed : Tryd.prog.follows .mixedOrders = true := by kernel_rfl
theorem live_run : okTab (evF Tryd.prog none7 1000000 (evDraw Tryd.prog none7) 60 11 [] wG) = true := by kernel_rfl
theorem lives_any (w : World) {c : Array Value} (hw : w.heap[0]? = some (.cells c 188)) (hc : c.toList = tab) : Calls Tryd.prog 11 #[] w fun e w' => e = .returned (.bool true) ∧ Below w.heap.size w w' := closed_tab mixed none7_ok live_run w hw hc
end Go.Proofs.YtkmcbhdjecpmjaaDoor
/- The closing look at the table of package bits. -/
namespace Go.Proofs.YtkmcbhdjecpmjaaDoor
open Go.RowKit

/-- The table of package bits lies where it lay. -/
def Tb (w : World) : Prop := ∃ c : Array Value, w.heap[0]? = some (.cells c 188) ∧ c.toList = Ev.tab
theorem Tb.keep {w w' : World} {B : Nat} (h : Tb w) (hb : Below B w w') (hB : 0 < B) : Tb w' := by
  obtain ⟨c, h1, h2⟩ := h
  exact ⟨c, (hb.block 0 hB).trans h1, h2⟩
theorem Tb.pos {w : World} (h : Tb w) : 0 < w.heap.size := by
  obtain ⟨c, h1, _⟩ := h
  exact (Array.getElem?_eq_some_iff.1 h1).1
theorem lives_tb {w : World} (h : Tb w) : Calls Tryd.prog 11 #[] w fun e w' => e = .returned (.bool true) ∧ Below w.heap.size w w' := by
  obtain ⟨c, h1, h2⟩ := h
  exact lives_any w h1 h2
end Go.Proofs.YtkmcbhdjecpmjaaDoor
