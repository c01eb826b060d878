/- Gr11: parts of the proof, joined. -/
import Derived.Test.YtdpohgoikbeplaaGreatDoorPBr11
import Derived.Test.YtdpohgoikbeplaaGreatDoorPPtGrPs
import Derived.Test.YtdpohgoikbeplaaGreatDoorPGrDb
namespace Go.Proofs.YtdpohgoikbeplaaGreatDoor.Br
open Go.RowKit
set_option maxRecDepth 100000 in
theorem grP_len : Dc.grP.length <= 12000 := by decide +kernel
theorem grU_nm : Dc.strs Dc.grU = Pt.grNm := by rfl
set_option maxRecDepth 100000 in
theorem new11_any (w : World) : Calls Tryz.prog 15 #[] w fun e w' => Below w.heap.size w w' /\ ∃ X, e = .returned (.pointer (some ⟨X, 0, none⟩)) /\ BrAt Dc.grU Dc.grW Pt.grRs true X w' := by
 have HO := hid (of_any ⟨Dc.grP.toArray⟩ ⟨Pt.grRt.toArray⟩ Dc.grU Dc.grW Pt.grRs true (by decide) (by decide)
  (fun w => Dc.rnew_eq _ Dc.grP w rfl (.inl grP_len) Dc.grU Dc.grS Dc.grW Dc.gr_nw Dc.gr_whl)
  (fun g nc w h => Pt.gr_parse g nc w (by rw [<- grU_nm]; exact h)) w)
 go_enter Tryz.func15, Tryz.ntmps15
 go_wp2_with fail
 refine HO.out.mono ?_
 rintro e w1 ⟨hb, X, rfl, hk⟩
 have HB := hid hb
 have HK := hid hk
 clear hb hk
 go_wp2
 go_ret
 exact ⟨HB.out, X, rfl, HK.out⟩
end Go.Proofs.YtdpohgoikbeplaaGreatDoor.Br
