/- PtRunSe1: parts of the proof, joined. -/
import Derived.Test.YtdpohgoikbeplaaGreatDoorUPtEv
namespace Go.Proofs.YtdpohgoikbeplaaGreatDoor
open Ev Go.RowKit
namespace Pt
theorem snP5_run : runT snEv 144 snP5T snNm snP5 = true := by kernel_rfl
theorem snP5_parse (g nc : Nat) (w : World) (hN : NmAt w g nc snNm) : Calls Tryz.prog 144 #[.string snP5T, .slice (some ⟨g, 0, none⟩) 14 nc] w (PsQ g nc snNm w snP5) := parse_of snEv_ok snNm_flat snP5_run g nc w hN
theorem snP8_run : runT snEv 144 snP8T snNm snP8 = true := by kernel_rfl
theorem snP8_parse (g nc : Nat) (w : World) (hN : NmAt w g nc snNm) : Calls Tryz.prog 144 #[.string snP8T, .slice (some ⟨g, 0, none⟩) 14 nc] w (PsQ g nc snNm w snP8) := parse_of snEv_ok snNm_flat snP8_run g nc w hN
theorem snP11_run : runT snEv 144 snP11T snNm snP11 = true := by kernel_rfl
theorem snP11_parse (g nc : Nat) (w : World) (hN : NmAt w g nc snNm) : Calls Tryz.prog 144 #[.string snP11T, .slice (some ⟨g, 0, none⟩) 14 nc] w (PsQ g nc snNm w snP11) := parse_of snEv_ok snNm_flat snP11_run g nc w hN
end Pt
end Go.Proofs.YtdpohgoikbeplaaGreatDoor
