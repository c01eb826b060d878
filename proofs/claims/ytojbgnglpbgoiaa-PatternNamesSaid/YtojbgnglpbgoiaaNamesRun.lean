/- PatternNames, worked out by the evaluator. -/
import Derived.Test.YtojbgnglpbgoiaaEvP
import Derived.Test.YtojbgnglpbgoiaaProg
namespace Go.Proofs.Ytojbgnglpbgoiaa
open Ev
def same5 : FuncId → Bool := fun f => Nat.beq f 96
theorem same5_ok : SameOK Try.prog same5 := fun g hg => by
  have : g = 96 := Nat.eq_of_beq_eq_true hg
  subst this
  exact ⟨Try.f96, by kernel_rfl, by kernel_rfl, by kernel_rfl, by kernel_rfl, by kernel_rfl⟩
theorem mixed : Try.prog.follows .mixedOrders = true := by kernel_rfl
theorem names_run : okTrue (evF Try.prog same5 1000000 (evDraw Try.prog same5) 60 3 [] w0) = true := by kernel_rfl
end Go.Proofs.Ytojbgnglpbgoiaa
