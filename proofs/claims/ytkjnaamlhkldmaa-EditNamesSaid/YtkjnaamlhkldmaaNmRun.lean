/- EditNames, worked out by the evaluator. -/
import Derived.Test.YtkjnaamlhkldmaaGrOv
namespace Go.Proofs.Ytkjnaamlhkldmaa
open Ev Go.RowKit
def isT : Value → AW → Bool
  | .bool true, _ => true
  | _, _ => false
theorem names_run : runC (evG Try.prog same7 1000000 (evDraw Try.prog same7) ovGr 60) [] 3 [] isT = true := by kernel_rfl
theorem names_walk (w : World) : Calls Try.prog 3 #[] w fun e w' => e = .returned (.bool true) ∧ Below w.heap.size w w' :=
  (closed_memC (evG_ok same7_ok (fun _ hc => evDraw_ok mixed same7_ok hc) ovGr_ok 60) rfl rfl names_run w (fun _ h => by cases h)).mono fun e w' ⟨hb, v, u, μ, A, he, hc, hv, _⟩ => by
    unfold isT at hc
    split at hc
    · simp only [VR] at hv
      subst hv
      exact ⟨he, hb⟩
    · cases hc
end Go.Proofs.Ytkjnaamlhkldmaa
