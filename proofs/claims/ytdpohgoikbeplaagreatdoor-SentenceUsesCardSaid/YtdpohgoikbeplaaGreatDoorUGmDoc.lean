/- GmDoc: parts of the proof, joined. -/
import Derived.Test.YtdpohgoikbeplaaGreatDoorUPtFun1
import Derived.Test.YtdpohgoikbeplaaGreatDoorUBase
namespace Go.Proofs.YtdpohgoikbeplaaGreatDoor.Br
open Go.RowKit
theorem rdi_nat {w : World} {ao : Option Addr} {D : List Nat} (h : Pt.RdI w ao (D.map fun (x : Nat) => (x : Int))) {i : Nat} (hi : i < D.length) : ∃ a : Addr, ao = some a /\ w.cell? (a.add i) = some (.int .i64 (D[i] : Nat)) := by
 obtain ⟨a, h1, _, h3⟩ := h i (D[i] : Int) (by rw [List.getElem?_map, List.getElem?_eq_getElem hi]; rfl)
 exact ⟨a, h1, h3⟩
end Go.Proofs.YtdpohgoikbeplaaGreatDoor.Br
