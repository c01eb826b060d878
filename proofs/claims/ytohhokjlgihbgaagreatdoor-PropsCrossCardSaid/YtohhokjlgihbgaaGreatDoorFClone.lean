/- The contract of strings.Clone. -/
import Derived.Test.YtohhokjlgihbgaaGreatDoorFLay5
import Derived.Test.YtohhokjlgihbgaaGreatDoorFRows2
namespace Go.Proofs.YtohhokjlgihbgaaGreatDoor
open Go.RowKit Go.Shelf

theorem strClone_any (l : List UInt8) (w : World) (hl : l.length ≤ 100000) : Calls Tryz.prog 69 #[.string ⟨l.toArray⟩] w fun e w' => e = .returned (.string ⟨l.toArray⟩) ∧ Below w.heap.size w w' := by
  have HC := hid (show Calls Tryz.prog 99 #[.string ⟨l.toArray⟩] w fun e w' => e = .returned (.string ⟨l.toArray⟩) ∧ Below w.heap.size w w' from Any.stringslite_Clone Tryz.laysM316 ⟨l.toArray⟩ w (by show l.toArray.size ≤ _; simp; omega))
  go_enter Tryz.func69, Tryz.ntmps69
  go_wp2_with fail
  refine HC.out.mono ?_
  rintro e w1 ⟨rfl, b1⟩
  have HB := hid b1
  clear b1 HC
  go_wp2
  go_ret
  exact ⟨rfl, HB.out⟩
end Go.Proofs.YtohhokjlgihbgaaGreatDoor
