/- The closing look of stage 19, worked out by the evaluator, the readings of tables as they are told. -/
import Derived.Test.YtdcfflnjkjnodaaGreatDoorFoLet
namespace Go.Proofs.YtdcfflnjkjnodaaGreatDoor
open Ev Go.RowKit
namespace Fo
noncomputable def chkT (u : Value) (_ : AW) : Bool := match u with
  | .bool b => b
  | _ => false
theorem live_run : runC evL tabs 5 [] chkT = true := by kernel_rfl
theorem live_any (w : World) (hw : Tbs tabs w) : Calls Tryz.prog 5 #[] w fun e w' => e = .returned (.bool true) ∧ Below w.heap.size w w' := by
  refine (closed_memC evL_ok tabs_ok rfl live_run w hw).mono fun e w' ⟨hB, v, u, μ, A, he, hc, hv, W, hn⟩ => ⟨?_, hB⟩
  unfold chkT at hc
  split at hc
  · subst hc
    simp only [VR] at hv
    rw [he, hv]
  · cases hc
end Fo
end Go.Proofs.YtdcfflnjkjnodaaGreatDoor
