/- The program's tables that a run may read: the table's number, how many cells it has, how many one element has. -/
import Derived.Orders
namespace Go.Proofs.YtkmcbhdjecpmjaaDoor
namespace Ev
def gloc : Nat → Option (Nat × Nat)
  | 0 => some (64, 1)
  | _ => none
def ng : Nat := 1
theorem gloc_lt {g : Nat} {s : Nat × Nat} (h : gloc g = some s) : g < ng := by
  unfold gloc at h
  split at h
  · exact Nat.one_pos
  · cases h
end Ev
end Go.Proofs.YtkmcbhdjecpmjaaDoor
