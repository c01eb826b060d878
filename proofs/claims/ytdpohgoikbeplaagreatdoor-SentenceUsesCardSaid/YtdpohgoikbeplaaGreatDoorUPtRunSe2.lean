/- PtRunSe2: parts of the proof, joined. -/
import Derived.Test.YtdpohgoikbeplaaGreatDoorUPtEv
namespace Go.Proofs.YtdpohgoikbeplaaGreatDoor
open Ev Go.RowKit
namespace Pt
theorem snP0_run : runT snEv 144 snP0T snNm snP0 = true := by kernel_rfl
theorem snP0_parse (g nc : Nat) (w : World) (hN : NmAt w g nc snNm) : Calls Tryz.prog 144 #[.string snP0T, .slice (some ⟨g, 0, none⟩) 14 nc] w (PsQ g nc snNm w snP0) := parse_of snEv_ok snNm_flat snP0_run g nc w hN
theorem snP2_run : runT snEv 144 snP2T snNm snP2 = true := by kernel_rfl
theorem snP2_parse (g nc : Nat) (w : World) (hN : NmAt w g nc snNm) : Calls Tryz.prog 144 #[.string snP2T, .slice (some ⟨g, 0, none⟩) 14 nc] w (PsQ g nc snNm w snP2) := parse_of snEv_ok snNm_flat snP2_run g nc w hN
theorem snP10_run : runT snEv 144 snP10T snNm snP10 = true := by kernel_rfl
theorem snP10_parse (g nc : Nat) (w : World) (hN : NmAt w g nc snNm) : Calls Tryz.prog 144 #[.string snP10T, .slice (some ⟨g, 0, none⟩) 14 nc] w (PsQ g nc snNm w snP10) := parse_of snEv_ok snNm_flat snP10_run g nc w hN
end Pt
end Go.Proofs.YtdpohgoikbeplaaGreatDoor
