/- The seat's evaluator: no table; a function without a body: abi.NoEscape. -/
import Derived.Test.YtkjnaamlhkldmabEvT
import Derived.Test.YtkjnaamlhkldmabProg
namespace Go.Proofs.Ytkjnaamlhkldmab
open Ev Go.RowKit
def sameX : List Value → Option Value
  | [v] => some v
  | _ => none
def same7 : XT := fun g => bif Nat.beq g 67 then some sameX else none
theorem same7_ok : SameOK Try.prog same7 := fun g fnc hg => by
  unfold same7 at hg
  cases hb : Nat.beq g 67 with
  | false =>
    rw [hb, cond_false] at hg
    cases hg
  | true =>
    rw [hb] at hg
    have e := Nat.eq_of_beq_eq_true hb
    subst e
    cases hg
    refine ⟨Try.f67, Extern.AbiNoEscape.same, Try.func67, by kernel_rfl, by kernel_rfl, by kernel_rfl, by kernel_rfl, ?_⟩
    intro args v hv μ args' w hl
    unfold sameX at hv
    split at hv
    · rename_i v0
      cases hv
      obtain ⟨v', ys, h1, h2, h3⟩ := hl
      cases h3
      obtain rfl : args' = #[v'] := Array.toList_inj.1 h1
      exact ⟨v', rfl, h2⟩
    · cases hv
theorem mixed : Try.prog.follows .mixedOrders = true := by kernel_rfl
end Go.Proofs.Ytkjnaamlhkldmab
