/- PtRunGr3: parts of the proof, joined. -/
import Derived.Test.YtdpohgoikbeplaaGreatDoorPPtEv
namespace Go.Proofs.YtdpohgoikbeplaaGreatDoor
open Ev Go.RowKit
namespace Pt
theorem grP1_run : runT grEv 144 grP1T grNm grP1 = true := by kernel_rfl
theorem grP1_parse (g nc : Nat) (w : World) (hN : NmAt w g nc grNm) : Calls Tryz.prog 144 #[.string grP1T, .slice (some ⟨g, 0, none⟩) 14 nc] w (PsQ g nc grNm w grP1) := parse_of grEv_ok grNm_flat grP1_run g nc w hN
theorem grP2_run : runT grEv 144 grP2T grNm grP2 = true := by kernel_rfl
theorem grP2_parse (g nc : Nat) (w : World) (hN : NmAt w g nc grNm) : Calls Tryz.prog 144 #[.string grP2T, .slice (some ⟨g, 0, none⟩) 14 nc] w (PsQ g nc grNm w grP2) := parse_of grEv_ok grNm_flat grP2_run g nc w hN
theorem grP5_run : runT grEv 144 grP5T grNm grP5 = true := by kernel_rfl
theorem grP5_parse (g nc : Nat) (w : World) (hN : NmAt w g nc grNm) : Calls Tryz.prog 144 #[.string grP5T, .slice (some ⟨g, 0, none⟩) 14 nc] w (PsQ g nc grNm w grP5) := parse_of grEv_ok grNm_flat grP5_run g nc w hN
theorem grP12_run : runT grEv 144 grP12T grNm grP12 = true := by kernel_rfl
theorem grP12_parse (g nc : Nat) (w : World) (hN : NmAt w g nc grNm) : Calls Tryz.prog 144 #[.string grP12T, .slice (some ⟨g, 0, none⟩) 14 nc] w (PsQ g nc grNm w grP12) := parse_of grEv_ok grNm_flat grP12_run g nc w hN
end Pt
end Go.Proofs.YtdpohgoikbeplaaGreatDoor
