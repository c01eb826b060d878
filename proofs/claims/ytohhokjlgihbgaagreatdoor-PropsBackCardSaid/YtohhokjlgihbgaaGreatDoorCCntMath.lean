/- How many numbers are in a normal form; numbers there and back: the mathematics. -/
import Derived.Test.YtohhokjlgihbgaaGreatDoorCNot
import Derived.Test.YtohhokjlgihbgaaGreatDoorCPut
namespace Go.Proofs.YtohhokjlgihbgaaGreatDoor
open Go.RowKit

def cntF : List Rg → Int
  | [] => 0
  | g :: t => (g.2 - g.1 + 1) + cntF t
theorem cnt_nn : ∀ {l : List Rg} {b : Int}, nfF b l → 0 ≤ cntF l
  | [], _, _ => Int.le_refl _
  | g :: t, b, h => by
    have := cnt_nn h.2.2.2
    have := h.2.1
    unfold cntF
    omega
theorem cnt_le : ∀ {l : List Rg} {b : Int}, nfF b l → b ≤ top + 3 → cntF l ≤ top + 3 - b
  | [], _, _, h => by unfold cntF; omega
  | g :: t, b, h, _ => by
    have h1 := h.1
    have h3 := h.2.2.1
    have := cnt_le h.2.2.2 (by omega)
    unfold cntF
    omega
theorem cnt_snoc (l : List Rg) (g : Rg) : cntF (l ++ [g]) = cntF l + (g.2 - g.1 + 1) := by
  induction l with
  | nil => simp [cntF]
  | cons x l ih => rw [List.cons_append, cntF, cntF, ih]; omega
theorem nfF_take : ∀ {l : List Rg} {b : Int} (k : Nat), nfF b l → nfF b (l.take k)
  | [], _, k, _ => by simp; exact trivial
  | g :: t, b, 0, _ => trivial
  | g :: t, b, k + 1, h => ⟨h.1, h.2.1, h.2.2.1, nfF_take k h.2.2.2⟩
theorem cnt_take {l : List Rg} {k : Nat} (hk : k < l.length) : cntF (l.take (k + 1)) = cntF (l.take k) + (l[k].2 - l[k].1 + 1) := by
  rw [List.take_succ_eq_append_getElem hk, cnt_snoc]
theorem cnt_take_bd {l : List Rg} (h : nf l) (k : Nat) : 0 ≤ cntF (l.take k) ∧ cntF (l.take k) ≤ 1114114 := by
  have h1 := nfF_take k h
  have h2 := cnt_nn h1
  have h3 := cnt_le h1 (by unfold top; omega)
  unfold top at h3
  omega
end Go.Proofs.YtohhokjlgihbgaaGreatDoor
