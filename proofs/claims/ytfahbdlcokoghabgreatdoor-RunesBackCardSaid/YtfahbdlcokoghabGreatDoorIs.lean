/- The contract of Is (package runes): whether a list is in normal form. -/
import Derived.Test.YtfahbdlcokoghabGreatDoorSame2
namespace Go.Proofs.YtfahbdlcokoghabGreatDoor
open Go.RowKit

/-- In normal form, as a test. -/
def nfB (b : Int) : List Rg → Bool
  | [] => true
  | g :: l => decide (b ≤ g.1) && (decide (g.1 ≤ g.2) && (decide (g.2 ≤ top) && nfB (g.2 + 2) l))
theorem nfB_iff : ∀ (l : List Rg) (b : Int), nfB b l = true ↔ nfF b l
  | [], _ => by simp [nfB, nfF]
  | g :: l, b => by simp [nfB, nfF, nfB_iff l]
theorem drop_nf (l : List Rg) (k : Nat) (b : Int) (hk : k < l.length) : nfB b (l.drop k) = (decide (b ≤ l[k].1) && (decide (l[k].1 ≤ l[k].2) && (decide (l[k].2 ≤ top) && nfB (l[k].2 + 2) (l.drop (k + 1))))) := by
  rw [List.drop_eq_getElem_cons hk]; rfl

end Go.Proofs.YtfahbdlcokoghabGreatDoor

