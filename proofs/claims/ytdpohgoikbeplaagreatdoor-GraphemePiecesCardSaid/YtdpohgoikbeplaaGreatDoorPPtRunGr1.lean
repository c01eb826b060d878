/- PtRunGr1: parts of the proof, joined. -/
import Derived.Test.YtdpohgoikbeplaaGreatDoorPPtEv
namespace Go.Proofs.YtdpohgoikbeplaaGreatDoor
open Ev Go.RowKit
namespace Pt
theorem grP3_run : runT grEv 144 grP3T grNm grP3 = true := by kernel_rfl
theorem grP3_parse (g nc : Nat) (w : World) (hN : NmAt w g nc grNm) : Calls Tryz.prog 144 #[.string grP3T, .slice (some ⟨g, 0, none⟩) 14 nc] w (PsQ g nc grNm w grP3) := parse_of grEv_ok grNm_flat grP3_run g nc w hN
theorem grP7_run : runT grEv 144 grP7T grNm grP7 = true := by kernel_rfl
theorem grP7_parse (g nc : Nat) (w : World) (hN : NmAt w g nc grNm) : Calls Tryz.prog 144 #[.string grP7T, .slice (some ⟨g, 0, none⟩) 14 nc] w (PsQ g nc grNm w grP7) := parse_of grEv_ok grNm_flat grP7_run g nc w hN
theorem grP14_run : runT grEv 144 grP14T grNm grP14 = true := by kernel_rfl
theorem grP14_parse (g nc : Nat) (w : World) (hN : NmAt w g nc grNm) : Calls Tryz.prog 144 #[.string grP14T, .slice (some ⟨g, 0, none⟩) 14 nc] w (PsQ g nc grNm w grP14) := parse_of grEv_ok grNm_flat grP14_run g nc w hN
theorem grP15_run : runT grEv 144 grP15T grNm grP15 = true := by kernel_rfl
theorem grP15_parse (g nc : Nat) (w : World) (hN : NmAt w g nc grNm) : Calls Tryz.prog 144 #[.string grP15T, .slice (some ⟨g, 0, none⟩) 14 nc] w (PsQ g nc grNm w grP15) := parse_of grEv_ok grNm_flat grP15_run g nc w hN
end Pt
end Go.Proofs.YtdpohgoikbeplaaGreatDoor
