/- PtRunSe3: parts of the proof, joined. -/
import Derived.Test.YtdpohgoikbeplaaGreatDoorUPtEv
namespace Go.Proofs.YtdpohgoikbeplaaGreatDoor
open Ev Go.RowKit
namespace Pt
theorem snP6_run : runT snEv 144 snP6T snNm snP6 = true := by kernel_rfl
theorem snP6_parse (g nc : Nat) (w : World) (hN : NmAt w g nc snNm) : Calls Tryz.prog 144 #[.string snP6T, .slice (some ⟨g, 0, none⟩) 14 nc] w (PsQ g nc snNm w snP6) := parse_of snEv_ok snNm_flat snP6_run g nc w hN
theorem snP9_run : runT snEv 144 snP9T snNm snP9 = true := by kernel_rfl
theorem snP9_parse (g nc : Nat) (w : World) (hN : NmAt w g nc snNm) : Calls Tryz.prog 144 #[.string snP9T, .slice (some ⟨g, 0, none⟩) 14 nc] w (PsQ g nc snNm w snP9) := parse_of snEv_ok snNm_flat snP9_run g nc w hN
theorem snP12_run : runT snEv 144 snP12T snNm snP12 = true := by kernel_rfl
theorem snP12_parse (g nc : Nat) (w : World) (hN : NmAt w g nc snNm) : Calls Tryz.prog 144 #[.string snP12T, .slice (some ⟨g, 0, none⟩) 14 nc] w (PsQ g nc snNm w snP12) := parse_of snEv_ok snNm_flat snP12_run g nc w hN
end Pt
end Go.Proofs.YtdpohgoikbeplaaGreatDoor
