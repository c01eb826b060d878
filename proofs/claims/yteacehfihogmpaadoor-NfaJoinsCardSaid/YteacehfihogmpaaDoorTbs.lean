/- Small walks that every law of the stage calls: the number of an error, and the closing look at the table of package bits. -/
import Derived.Test.YteacehfihogmpaaDoorWide
import Derived.Test.YteacehfihogmpaaDoorLiveRun
namespace Go.Proofs.YteacehfihogmpaaDoor
open Go.RowKit

theorem num_any (e : Int) (w : World) : Calls Tryd.prog 14 #[.int .i64 e] w fun r w' => r = .returned (.int .i64 e) ∧ w' = w := by
  go_enter Tryd.func14, Tryd.ntmps14
  go_wp2
  go_ret
  exact ⟨rfl, rfl⟩
/-- The table of package bits lies where it lay. -/
def Tb (w : World) : Prop := ∃ c : Array Value, w.heap[0]? = some (.cells c 145) ∧ c.toList = Ev.tab
theorem Tb.keep {w w' : World} {B : Nat} (h : Tb w) (hb : Below B w w') (hB : 0 < B) : Tb w' := by
  obtain ⟨c, h1, h2⟩ := h
  exact ⟨c, (hb.block 0 hB).trans h1, h2⟩
theorem Tb.pos {w : World} (h : Tb w) : 0 < w.heap.size := by
  obtain ⟨c, h1, _⟩ := h
  exact (Array.getElem?_eq_some_iff.1 h1).1
theorem live_tb {w : World} (h : Tb w) : Calls Tryd.prog 17 #[] w fun e w' => e = .returned (.bool true) ∧ Below w.heap.size w w' := by
  obtain ⟨c, h1, h2⟩ := h
  exact live_any w h1 h2
end Go.Proofs.YteacehfihogmpaaDoor
