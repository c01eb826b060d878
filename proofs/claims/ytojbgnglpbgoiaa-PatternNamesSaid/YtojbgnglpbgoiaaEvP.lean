/- What a run that the evaluator works out says of the program: a call without arguments, from whatever world. -/
import Derived.Test.YtojbgnglpbgoiaaEv18
import Derived.Below
import Derived.KernelRfl
namespace Go.Proofs.Ytojbgnglpbgoiaa
namespace Ev
open Go.RowKit
variable {P : Program}

def w0 : AW := ⟨[], .nil, 0⟩
theorem WR0 (w : World) : WR (fun _ => none) w0 w :=
  ⟨fun i o h => (by cases h), fun i j oi oj li lj h => (by cases h), fun _ _ => rfl⟩
def okTrue : Except String (AE × AW) → Bool
  | .ok (.ret (.bool true), _) => true
  | _ => false
theorem closed_true {same : FuncId → Bool} {fuel depth : Nat} {f : FuncId} (hm : P.follows .mixedOrders = true) (hsame : SameOK P same) (h : okTrue (evF P same fuel (evDraw P same) depth f [] w0) = true) (w : World) :
    Calls P f #[] w fun e w' => e = .returned (.bool true) ∧ Below w.heap.size w w' := by
  unfold okTrue at h
  split at h
  · rename_i A' hr
    refine (evF_ok hsame (fun call hc => evDraw_ok hm hsame hc) depth f [] w0 _ A' hr (fun _ => none) w #[] (WR0 w) LR.nil).mono fun e w' ⟨μ', he, _, E⟩ => ?_
    cases e with
    | returned v =>
      simp only [ER, VR] at he
      subst he
      exact ⟨rfl, E.os, E.tape, E.output, E.size, fun k hk => E.stay k hk fun i o l hi => (by cases hi)⟩
    | panicked ch => exact he.elim
    | outgrown => exact he.elim
  · cases h
end Ev
end Go.Proofs.Ytojbgnglpbgoiaa
