/- PtRunGr2: parts of the proof, joined. -/
import Derived.Test.YtdpohgoikbeplaaGreatDoorPPtEv
namespace Go.Proofs.YtdpohgoikbeplaaGreatDoor
open Ev Go.RowKit
namespace Pt
theorem grP4_run : runT grEv 144 grP4T grNm grP4 = true := by kernel_rfl
theorem grP4_parse (g nc : Nat) (w : World) (hN : NmAt w g nc grNm) : Calls Tryz.prog 144 #[.string grP4T, .slice (some ⟨g, 0, none⟩) 14 nc] w (PsQ g nc grNm w grP4) := parse_of grEv_ok grNm_flat grP4_run g nc w hN
theorem grP6_run : runT grEv 144 grP6T grNm grP6 = true := by kernel_rfl
theorem grP6_parse (g nc : Nat) (w : World) (hN : NmAt w g nc grNm) : Calls Tryz.prog 144 #[.string grP6T, .slice (some ⟨g, 0, none⟩) 14 nc] w (PsQ g nc grNm w grP6) := parse_of grEv_ok grNm_flat grP6_run g nc w hN
theorem grP9_run : runT grEv 144 grP9T grNm grP9 = true := by kernel_rfl
theorem grP9_parse (g nc : Nat) (w : World) (hN : NmAt w g nc grNm) : Calls Tryz.prog 144 #[.string grP9T, .slice (some ⟨g, 0, none⟩) 14 nc] w (PsQ g nc grNm w grP9) := parse_of grEv_ok grNm_flat grP9_run g nc w hN
theorem grP10_run : runT grEv 144 grP10T grNm grP10 = true := by kernel_rfl
theorem grP10_parse (g nc : Nat) (w : World) (hN : NmAt w g nc grNm) : Calls Tryz.prog 144 #[.string grP10T, .slice (some ⟨g, 0, none⟩) 14 nc] w (PsQ g nc grNm w grP10) := parse_of grEv_ok grNm_flat grP10_run g nc w hN
end Pt
end Go.Proofs.YtdpohgoikbeplaaGreatDoor
