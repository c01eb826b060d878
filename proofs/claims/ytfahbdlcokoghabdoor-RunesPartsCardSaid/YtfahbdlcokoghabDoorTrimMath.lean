/- What is trimmed of a text, and its set, the mathematics. -/
import Derived.Test.YtfahbdlcokoghabDoorRRuns
namespace Go.Proofs.YtfahbdlcokoghabDoor
open Go.RowKit


/-- What the walk from behind holds: the places of the first and behind the last that are not in the set, of what lies at or behind a place. -/
def trm (p : Int → Bool) (N : Nat) : List Trp → Nat × Nat
  | [] => (N, N)
  | x :: t => if p x.1 then trm p N t else (x.2.1, if (trm p N t).1 = N then x.2.2 else (trm p N t).2)



/-- Each rune a range. -/
def sgl (xs : List (Nat × Int)) : List Rg := xs.map fun x => (x.2, x.2)
theorem sgl_snoc (xs : List (Nat × Int)) (x : Nat × Int) : sgl (xs ++ [x]) = sgl xs ++ [(x.2, x.2)] := by simp [sgl]

end Go.Proofs.YtfahbdlcokoghabDoor
