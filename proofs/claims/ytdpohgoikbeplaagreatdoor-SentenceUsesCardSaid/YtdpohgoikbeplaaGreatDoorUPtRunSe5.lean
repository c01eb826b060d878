/- PtRunSe5: parts of the proof, joined. -/
import Derived.Test.YtdpohgoikbeplaaGreatDoorUPtEv
namespace Go.Proofs.YtdpohgoikbeplaaGreatDoor
open Ev Go.RowKit
namespace Pt
theorem snP1_run : runT snEv 144 snP1T snNm snP1 = true := by kernel_rfl
theorem snP1_parse (g nc : Nat) (w : World) (hN : NmAt w g nc snNm) : Calls Tryz.prog 144 #[.string snP1T, .slice (some ⟨g, 0, none⟩) 14 nc] w (PsQ g nc snNm w snP1) := parse_of snEv_ok snNm_flat snP1_run g nc w hN
theorem snP7_run : runT snEv 144 snP7T snNm snP7 = true := by kernel_rfl
theorem snP7_parse (g nc : Nat) (w : World) (hN : NmAt w g nc snNm) : Calls Tryz.prog 144 #[.string snP7T, .slice (some ⟨g, 0, none⟩) 14 nc] w (PsQ g nc snNm w snP7) := parse_of snEv_ok snNm_flat snP7_run g nc w hN
theorem snP14_run : runT snEv 144 snP14T snNm snP14 = true := by kernel_rfl
theorem snP14_parse (g nc : Nat) (w : World) (hN : NmAt w g nc snNm) : Calls Tryz.prog 144 #[.string snP14T, .slice (some ⟨g, 0, none⟩) 14 nc] w (PsQ g nc snNm w snP14) := parse_of snEv_ok snNm_flat snP14_run g nc w hN
end Pt
end Go.Proofs.YtdpohgoikbeplaaGreatDoor
