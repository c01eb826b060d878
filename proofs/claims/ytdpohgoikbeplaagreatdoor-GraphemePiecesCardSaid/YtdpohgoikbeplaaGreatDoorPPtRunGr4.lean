/- PtRunGr4: parts of the proof, joined. -/
import Derived.Test.YtdpohgoikbeplaaGreatDoorPPtEv
namespace Go.Proofs.YtdpohgoikbeplaaGreatDoor
open Ev Go.RowKit
namespace Pt
theorem grP0_run : runT grEv 144 grP0T grNm grP0 = true := by kernel_rfl
theorem grP0_parse (g nc : Nat) (w : World) (hN : NmAt w g nc grNm) : Calls Tryz.prog 144 #[.string grP0T, .slice (some ⟨g, 0, none⟩) 14 nc] w (PsQ g nc grNm w grP0) := parse_of grEv_ok grNm_flat grP0_run g nc w hN
theorem grP8_run : runT grEv 144 grP8T grNm grP8 = true := by kernel_rfl
theorem grP8_parse (g nc : Nat) (w : World) (hN : NmAt w g nc grNm) : Calls Tryz.prog 144 #[.string grP8T, .slice (some ⟨g, 0, none⟩) 14 nc] w (PsQ g nc grNm w grP8) := parse_of grEv_ok grNm_flat grP8_run g nc w hN
theorem grP11_run : runT grEv 144 grP11T grNm grP11 = true := by kernel_rfl
theorem grP11_parse (g nc : Nat) (w : World) (hN : NmAt w g nc grNm) : Calls Tryz.prog 144 #[.string grP11T, .slice (some ⟨g, 0, none⟩) 14 nc] w (PsQ g nc grNm w grP11) := parse_of grEv_ok grNm_flat grP11_run g nc w hN
theorem grP13_run : runT grEv 144 grP13T grNm grP13 = true := by kernel_rfl
theorem grP13_parse (g nc : Nat) (w : World) (hN : NmAt w g nc grNm) : Calls Tryz.prog 144 #[.string grP13T, .slice (some ⟨g, 0, none⟩) 14 nc] w (PsQ g nc grNm w grP13) := parse_of grEv_ok grNm_flat grP13_run g nc w hN
end Pt
end Go.Proofs.YtdpohgoikbeplaaGreatDoor
