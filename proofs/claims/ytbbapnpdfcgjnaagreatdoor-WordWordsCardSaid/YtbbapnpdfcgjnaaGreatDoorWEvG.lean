/- EvG: parts of the proof, joined. -/
import Derived.Orders
set_option maxHeartbeats 64000000
namespace Go.Proofs.YtbbapnpdfcgjnaaGreatDoor
section
namespace Ev
def iK:Nat->Option (Nat×Nat)
 |0=>some (256,1)
 |1=>some (32,2)
 |_=>none
def ng:Nat:=2
theorem ziX{g:Nat}{s:Nat×Nat}(h:iK g=some s):g<ng:=by
 unfold iK at h;split at h
 ·exact Nat.le_of_ble_eq_true rfl
 ·exact Nat.le_of_ble_eq_true rfl
 ·cases h
end Ev
end
end Go.Proofs.YtbbapnpdfcgjnaaGreatDoor
