/- The contract of Trail (package line): the length of the text but for the blank runes and line ends behind it. -/
import Derived.Test.YtkophiklkgefnaaDoorLnFun2
namespace Go.Proofs.YtkophiklkgefnaaDoor.Ln
open Go.RowKit

/-- A text but for what may be left off at a line's end. -/
def trl (l : List UInt8) : List UInt8 := wthL [4, 1, 2, 3, 5] l
theorem trail_any (l : List UInt8) (w : World) (ht : Tb w) (hl : l.length ≤ 1000000000) :
    Calls Tryd.prog 25 #[.string ⟨l.toArray⟩] w fun e w' => e = .returned (.int .i64 ((trl l).length : Nat)) ∧ Below w.heap.size w w' := by
  have HT := hid ht
  clear ht
  go_enter Tryd.func25, Tryd.ntmps25
  go_wp2_with fail
  refine (without_lit l [4, 1, 2, 3, 5] w HT.out hl (by decide) (by decide)).mono ?_
  rintro e w1 ⟨rfl, be⟩
  have HB := hid be
  obtain ⟨b, hb⟩ : ∃ b, b = wthL [4, 1, 2, 3, 5] l := ⟨_, rfl⟩
  have HV := hid (show (trl l).length = b.length by rw [hb]; rfl)
  rw [← hb]
  clear hb be
  go_wp2
  go_ret
  exact ⟨by rw [HV.out]; simp, HB.out⟩
end Go.Proofs.YtkophiklkgefnaaDoor.Ln
