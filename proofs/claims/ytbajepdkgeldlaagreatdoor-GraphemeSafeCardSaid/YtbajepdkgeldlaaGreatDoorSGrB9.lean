/- GrB9: parts of the proof, joined. -/
import Derived.Test.YtbajepdkgeldlaaGreatDoorSGr11
import Derived.Test.YtbajepdkgeldlaaGreatDoorSBr9
import Derived.Test.YtbajepdkgeldlaaGreatDoorSGrCut
import Derived.Test.YtbajepdkgeldlaaGreatDoorSGrTurn
namespace Go.Proofs.YtbajepdkgeldlaaGreatDoor.Br
open Go.RowKit Wt
theorem rl_max : ∀ (n : Nat) (l : List UInt8), l.length <= n -> ∀ x ∈ rl l, x.1 <= 1114111
 | n, l, hn, x, hx => by
  by_cases hl : l = []
  ·rw [hl, rl_nil] at hx; cases hx
  ·have h1 := dec_ge l hl
   have hp : 0 < l.length := List.length_pos_iff.2 hl
   rw [rl_cons l hl] at hx
   rcases List.mem_cons.1 hx with rfl | hx
   ·exact dec_rune l hl
   ·cases n with
    | zero => omega
    | succ n => exact rl_max n _ (by rw [List.length_drop]; omega) x hx
theorem gr_dcs (l : List UInt8) : Pt.dcs Dc.grW l = gcs l := by
 unfold Pt.dcs Pt.dcl gcs
 rw [List.map_map]
 apply List.map_congr_left
 intro x hx
 have h := rl_max _ l (Nat.le_refl _) x hx
 show ((Dc.gtp (Dc.instd (x.1 : Int)) Dc.grW : Nat) : Int) = gpcls (x.1 : Int)
 rw [show Dc.instd (x.1 : Int) = (x.1 : Int) by unfold Dc.instd; rw [if_neg (by omega)], Dc.gr_get _ (by omega) (by omega)]
end Go.Proofs.YtbajepdkgeldlaaGreatDoor.Br
