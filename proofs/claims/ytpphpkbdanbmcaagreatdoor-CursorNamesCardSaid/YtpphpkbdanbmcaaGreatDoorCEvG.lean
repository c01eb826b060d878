/- EvG: parts of the proof, joined. -/
import Derived.Orders
namespace Go.Proofs.YtpphpkbdanbmcaaGreatDoor
namespace Ev
def gloc : Nat -> Option (Nat × Nat)
 | 1 => some (256, 1)
 | 2 => some (32, 2)
 | _ => none
def ng : Nat := 3
theorem gloc_lt {g : Nat} {s : Nat × Nat} (h : gloc g = some s) : g < ng := by
 unfold gloc at h
 split at h
 ·exact Nat.le_of_ble_eq_true rfl
 ·exact Nat.le_of_ble_eq_true rfl
 ·cases h
end Ev
end Go.Proofs.YtpphpkbdanbmcaaGreatDoor
