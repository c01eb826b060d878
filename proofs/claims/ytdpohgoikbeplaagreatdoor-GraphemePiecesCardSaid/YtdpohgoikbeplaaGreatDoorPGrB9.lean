/- GrB9: parts of the proof, joined. -/
import Derived.Test.YtdpohgoikbeplaaGreatDoorPGr11
import Derived.Test.YtdpohgoikbeplaaGreatDoorPBr9
import Derived.Test.YtdpohgoikbeplaaGreatDoorPGrCut
import Derived.Test.YtdpohgoikbeplaaGreatDoorPGrTurn
namespace Go.Proofs.YtdpohgoikbeplaaGreatDoor.Br
open Go.RowKit Wt
theorem rl_max : ∀ (n : Nat) (l : List UInt8), l.length <= n -> ∀ x ∈ rl l, x.1 <= 1114111
 | n, l, hn, x, hx => by
  by_cases hl : l = []
  ·rw [hl, rl_nil] at hx; cases hx
  ·have h1 := dec_ge l hl
   have hp : 0 < l.length := List.length_pos_iff.2 hl
   rw [rl_cons l hl] at hx
   rcases List.mem_cons.1 hx with rfl | hx
   ·exact dec_rune l hl
   ·cases n with
    | zero => omega
    | succ n => exact rl_max n _ (by rw [List.length_drop]; omega) x hx
theorem gr_ok : ∀ r ∈ Pt.grRs, Pt.RlOk r := Pt.okR_sound (by decide +kernel)
theorem gr_dcs (l : List UInt8) : Pt.dcs Dc.grW l = gcs l := by
 unfold Pt.dcs Pt.dcl gcs
 rw [List.map_map]
 apply List.map_congr_left
 intro x hx
 have h := rl_max _ l (Nat.le_refl _) x hx
 show ((Dc.gtp (Dc.instd (x.1 : Int)) Dc.grW : Nat) : Int) = gpcls (x.1 : Int)
 rw [show Dc.instd (x.1 : Int) = (x.1 : Int) by unfold Dc.instd; rw [if_neg (by omega)], Dc.gr_get _ (by omega) (by omega)]
theorem gr_bnd (l : List UInt8) (h : l ≠ []) : Pt.bnd Dc.grW Pt.grRs true l = gbd l := by
 unfold Pt.bnd
 rw [gr_dcs, <- gcs_len]
 exact Pt.gr_ends l h
set_option maxRecDepth 100000 in
theorem gbounds9 (X : Nat) (l : List UInt8) (hl : l.length <= 80000) (w : World) (h : BrAt Dc.grU Dc.grW Pt.grRs true X w) :
  Calls Tryz.prog 16 #[.pointer (some ⟨X, 0, none⟩), .string ⟨l.toArray⟩] w (Pt.LsQ w (gbs l)) := by
 by_cases hne : l = []
 ·subst hne
  clear h
  go_enter Tryz.func16, Tryz.ntmps16
  go_wp2
  go_ret; exact ⟨none, 0, rfl, World.ownsRow_nil _ _ _ _, Below.refl _ _⟩
 ·have e : gbs l = gbd l := if_neg hne
  rw [e, <- gr_bnd l hne]; exact Pt.rbounds_any Dc.grU Dc.grW Pt.grRs true gr_ok (by decide) Dc.gr_cov Dc.gr_cls (by decide) (by decide) X l hl hne w h
end Go.Proofs.YtdpohgoikbeplaaGreatDoor.Br
