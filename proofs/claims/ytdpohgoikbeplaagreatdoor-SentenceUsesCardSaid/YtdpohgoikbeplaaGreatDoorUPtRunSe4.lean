/- PtRunSe4: parts of the proof, joined. -/
import Derived.Test.YtdpohgoikbeplaaGreatDoorUPtEv
namespace Go.Proofs.YtdpohgoikbeplaaGreatDoor
open Ev Go.RowKit
namespace Pt
theorem snP3_run : runT snEv 144 snP3T snNm snP3 = true := by kernel_rfl
theorem snP3_parse (g nc : Nat) (w : World) (hN : NmAt w g nc snNm) : Calls Tryz.prog 144 #[.string snP3T, .slice (some ⟨g, 0, none⟩) 14 nc] w (PsQ g nc snNm w snP3) := parse_of snEv_ok snNm_flat snP3_run g nc w hN
theorem snP4_run : runT snEv 144 snP4T snNm snP4 = true := by kernel_rfl
theorem snP4_parse (g nc : Nat) (w : World) (hN : NmAt w g nc snNm) : Calls Tryz.prog 144 #[.string snP4T, .slice (some ⟨g, 0, none⟩) 14 nc] w (PsQ g nc snNm w snP4) := parse_of snEv_ok snNm_flat snP4_run g nc w hN
theorem snP13_run : runT snEv 144 snP13T snNm snP13 = true := by kernel_rfl
theorem snP13_parse (g nc : Nat) (w : World) (hN : NmAt w g nc snNm) : Calls Tryz.prog 144 #[.string snP13T, .slice (some ⟨g, 0, none⟩) 14 nc] w (PsQ g nc snNm w snP13) := parse_of snEv_ok snNm_flat snP13_run g nc w hN
theorem snP15_run : runT snEv 144 snP15T snNm snP15 = true := by kernel_rfl
theorem snP15_parse (g nc : Nat) (w : World) (hN : NmAt w g nc snNm) : Calls Tryz.prog 144 #[.string snP15T, .slice (some ⟨g, 0, none⟩) 14 nc] w (PsQ g nc snNm w snP15) := parse_of snEv_ok snNm_flat snP15_run g nc w hN
end Pt
end Go.Proofs.YtdpohgoikbeplaaGreatDoor
