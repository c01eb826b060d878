/- EvG: parts of the proof, joined. -/
import Derived.Orders
namespace Go.Proofs.YtdpohgoikbeplaaGreatDoor
namespace Ev
def gloc : Nat -> Option (Nat × Nat)
 | 0 => some (256, 1)
 | 1 => some (32, 2)
 | 3 => some (256, 1)
 | _ => none
def ng : Nat := 4
theorem gloc_lt {g : Nat} {s : Nat × Nat} (h : gloc g = some s) : g < ng := by
 unfold gloc at h
 split at h
 ·exact Nat.le_of_ble_eq_true rfl
 ·exact Nat.le_of_ble_eq_true rfl
 ·exact Nat.le_of_ble_eq_true rfl
 ·cases h
end Ev
end Go.Proofs.YtdpohgoikbeplaaGreatDoor
