/- What the rows' listed variables give the walks: the two tables of package unicode/utf8. -/
import Derived.Test.YtflehkdijfhmgabDoorLive
import Derived.Lib.LaidU8
import Derived.ProofKit
import Derived.LaidMore
import Derived.Stop.Joined
namespace Go.Proofs.YtflehkdijfhmgabDoor
open Go.RowKit

/-- The list of every row of this seat. -/
def laid2 : List (String × DataW Unit) := Rows.utfNilRow.laid
set_option maxRecDepth 100000 in
theorem first_eq : Rows.laid_unicode_utf8_first = Lib.firstData := by kernel_rfl
theorem accept_eq : (Rows.laid_unicode_utf8_acceptRanges : DataW Unit) = Lib.acceptData := by kernel_rfl
theorem xU8 : U8Extra Tryd.prog Tryd.lays260_ren := by constructor <;> kernel_rfl
theorem tabs_of_laid {W : World} (h : laidMetH Tryd.prog laid2 W) : Lib.Utf8Tabs 0 1 W ∧ 2 ≤ W.heap.size := by
  rw [MakeChecks.laidMetH_plain _ _ _ (by kernel_rfl)] at h
  have h4 := Lib.laidMet.reads h (.head _)
  have h3 := Lib.laidMet.reads h (.tail _ (.head _))
  rw [first_eq] at h3
  rw [accept_eq] at h4
  have hT : Lib.Utf8Tabs 0 1 W := utf8Tabs_of_reads Tryd.lays260 xU8 h3 h4
  exact ⟨hT, World.block_lt_of_cell? W _ (hT.2 0 (by omega)).1⟩
theorem own : ownKnob Tryd.prog.godebug = none := by kernel_rfl
theorem laidOut : laidOutB Tryd.prog = true := by kernel_rfl
end Go.Proofs.YtflehkdijfhmgabDoor
