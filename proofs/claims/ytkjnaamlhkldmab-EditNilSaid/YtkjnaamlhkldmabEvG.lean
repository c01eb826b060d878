/- The program's tables that a run may read: none. -/
import Derived.Orders
namespace Go.Proofs.Ytkjnaamlhkldmab
namespace Ev
def gloc : Nat → Option (Nat × Nat) := fun _ => none
def ng : Nat := 0
theorem gloc_lt {g : Nat} {s : Nat × Nat} (h : gloc g = some s) : g < ng := by cases h
end Ev
end Go.Proofs.Ytkjnaamlhkldmab
