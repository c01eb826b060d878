/- What New (package props) makes of a text. -/
import Derived.Test.YtohhokjlgihbgaaGreatDoorCReadMath
import Derived.Test.YtohhokjlgihbgaaGreatDoorCStrs
namespace Go.Proofs.YtohhokjlgihbgaaGreatDoor

/-- Lines read one behind the other: the error and its line, the names and the ranges. -/
def nwF : Nat → List (List UInt8) → List Tr → List (List UInt8) → (Int × Nat) × List (List UInt8) × List Tr
  | _, U, S, [] => ((0, 0), U, S)
  | i, U, S, l :: L => if (rdS U S l).1 = 0 then nwF (i + 1) (rdS U S l).2.1 (rdS U S l).2.2 L else (((rdS U S l).1, i + 1), U, S)
def nw (t : List UInt8) : (Int × Nat) × List (List UInt8) × List Tr := if 65536 < t.length then ((1, 0), [oth], []) else nwF 0 [oth] [] (lns t)
theorem nwF_at (i : Nat) (U : List (List UInt8)) (S : List Tr) (L : List (List UInt8)) (k : Nat) (x : List UInt8) (hx : L[k]? = some x) :
    nwF i U S (L.drop k) = if (rdS U S x).1 = 0 then nwF (i + 1) (rdS U S x).2.1 (rdS U S x).2.2 (L.drop (k + 1)) else (((rdS U S x).1, i + 1), U, S) := by
  obtain ⟨hk, rfl⟩ := List.getElem?_eq_some_iff.1 hx
  rw [List.drop_eq_getElem_cons hk]
  rfl
end Go.Proofs.YtohhokjlgihbgaaGreatDoor
