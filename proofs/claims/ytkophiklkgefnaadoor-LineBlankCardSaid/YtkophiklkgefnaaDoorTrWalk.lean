/- LineTrails. -/
import Derived.Test.YtkophiklkgefnaaDoorRTrail
import Derived.Test.YtkophiklkgefnaaDoorLiveRun
namespace Go.Proofs.YtkophiklkgefnaaDoor
open Go.RowKit
theorem tbs_below {w w' : World} (h : Ev.Tbs tabs w) (hb : Below w.heap.size w w') : Ev.Tbs tabs w' := fun x hx => by
  obtain ⟨c, h1, h2⟩ := h x hx
  exact ⟨c, (hb.block _ (Array.getElem?_eq_some_iff.1 h1).1).trans h1, h2⟩
end Go.Proofs.YtkophiklkgefnaaDoor
namespace Go.Proofs.YtkophiklkgefnaaDoor.Ln
open Go.RowKit
set_option maxHeartbeats 1000000 in
set_option maxRecDepth 100000 in
theorem trails_main (l : List UInt8) (w : World) (ht : Tb w) (hv : Ev.Tbs tabs w) : Calls Tryd.prog 7 #[.string ⟨l.toArray⟩] w fun e w' => e = .returned (.bool true) ∧ Below w.heap.size w w' := by
  have HT := hid ht
  have HV := hid hv
  clear ht hv
  by_cases hl : 5000 < l.length
  · have hl' : (5000 : Int) < (l.length : Int) := by omega
    go_enter Tryd.func7, Tryd.ntmps7
    go_wp2_with fail
    refine (lives14 w HV.out).mono ?_
    rintro e w1 ⟨rfl, be⟩
    have HB := hid be
    clear be
    go_wp2
    go_ret
    exact ⟨rfl, HB.out⟩
  · have hl' : ¬ (5000 : Int) < (l.length : Int) := by omega
    go_enter Tryd.func7, Tryd.ntmps7
    go_wp2_with fail
    refine (trail_any l w HT.out (by omega)).mono ?_
    rintro e w1 ⟨rfl, be⟩
    have HB := hid be
    clear be
    obtain ⟨n, hn⟩ : ∃ n, n = (trl l).length := ⟨_, rfl⟩
    rw [← hn]
    have HN := hid hn
    clear hn
    go_wp2_with fail
    refine (rtrail_any l w1 (by omega)).mono ?_
    rintro e w2 ⟨rfl, be⟩
    have HB2 := hid (HB.out.trans (be.mono HB.out.size))
    clear be
    rw [← HN.out]
    go_wp2_with fail
    refine (lives14 w2 (tbs_below HV.out HB2.out)).mono ?_
    rintro e w3 ⟨rfl, be⟩
    have HB3 := hid (HB2.out.trans (be.mono HB2.out.size))
    clear be
    go_wp2
    go_ret
    exact ⟨rfl, HB3.out⟩
end Go.Proofs.YtkophiklkgefnaaDoor.Ln
