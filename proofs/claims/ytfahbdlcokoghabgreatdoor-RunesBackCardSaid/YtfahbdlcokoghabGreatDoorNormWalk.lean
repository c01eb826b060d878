/- The walk of RunesNorm. -/
import Derived.Test.YtfahbdlcokoghabGreatDoorOwn
import Derived.Deep.RegionHeld3
namespace Go.Proofs.YtfahbdlcokoghabGreatDoor
open Go.RowKit

/-- A slice of runes, nil or not, reads as a list. -/
def RdI (w : World) (ao : Option Addr) (E : List Int) : Prop := ∀ (k : Nat) (z : Int), E[k]? = some z → ∃ a : Addr, ao = some a ∧ a.block < w.heap.size ∧ w.cell? (a.add k) = some (.int .i32 z)
theorem RdI.below {w w' : World} {ao : Option Addr} {E : List Int} (h : RdI w ao E) (hb : Below w.heap.size w w') : RdI w' ao E := fun k z hk => by
  obtain ⟨a, h1, h2, h3⟩ := h k z hk
  exact ⟨a, h1, Nat.lt_of_lt_of_le h2 hb.size, (hb.cell (p := a.add k) (by rw [add_blk]; exact h2)).trans h3⟩
theorem hasR_nrm (r : Int) (l : List Rg) : hasR r (nrm l) = hasR r l := by
  have h1 : hasR r (nrm l) = true ↔ hasR r l = true := by
    rw [hasR_iff, hasR_iff]
    constructor
    · rintro ⟨_, _, h3⟩; exact (nrm_in l r).1 h3
    · intro h; exact ⟨h.1, h.2.1, (nrm_in l r).2 h⟩
  exact Bool.eq_iff_iff.2 h1
theorem nrm_nfB (l : List Rg) : nfB 0 (nrm l) = true := (nfB_iff (nrm l) 0).2 (nrm_nf l)

end Go.Proofs.YtfahbdlcokoghabGreatDoor

