/- What read (package props) does to the names and the ranges that were said. -/
import Derived.Test.YtohhokjlgihbgaaGreatDoorCSayMath
import Derived.Test.YtohhokjlgihbgaaGreatDoorCStrs
import Derived.Test.YtohhokjlgihbgaaGreatDoorCQuoted
import Derived.Test.YtohhokjlgihbgaaGreatDoorCItem
import Derived.Test.YtohhokjlgihbgaaGreatDoorCName
import Derived.Test.YtohhokjlgihbgaaGreatDoorCBare
namespace Go.Proofs.YtohhokjlgihbgaaGreatDoor

def tls (l : List UInt8) : List UInt8 := Lib.trimS l [32, 9]
/-- A line without its remark, and without blanks at both ends. -/
def rlin (l : List UInt8) : List UInt8 := tls (l.take (fdp 35 l))
/-- What stands behind the first ; of it. -/
def rnm (l : List UInt8) : List UInt8 := tls (l.drop (fdp 59 l + 1))
/-- What stands ahead of it, tabs taken for blanks. -/
def rsp (l : List UInt8) : List UInt8 := (l.take (fdp 59 l)).map tbl
def rgT (c : Nat) (g : Rg) : Tr := (g.1.toNat, g.2.toNat, c)
/-- Ranges said one behind the other. -/
def sayL : List Tr → List Rg → Nat → Option (List Tr)
  | S, [], _ => some S
  | S, g :: G, c => (sayR S (rgT c g)).bind fun S' => sayL S' G c
/-- The error of a line, and the names and ranges behind it. -/
def rdS (U : List (List UInt8)) (S : List Tr) (l : List UInt8) : Int × List (List UInt8) × List Tr :=
  if rlin l = [] then (0, U, S)
  else if fdp 59 (rlin l) = (rlin l).length then (42, U, S)
  else if nam (rnm (rlin l)) = false ∨ rnm (rlin l) = oth then (40, U, S)
  else if (par (rsp (rlin l))).2.1 ≠ 0 then ((par (rsp (rlin l))).2.1, U, S)
  else if (adn (rnm (rlin l)) U).2 = 64 then (6, U, S)
  else match sayL S (par (rsp (rlin l))).1 (adn (rnm (rlin l)) U).2 with
    | none => (41, U, S)
    | some S' => (0, (adn (rnm (rlin l)) U).1, S')

theorem dw_len (p : UInt8 → Bool) : ∀ l : List UInt8, (l.dropWhile p).length ≤ l.length
  | [] => by simp
  | b :: l => by
    have ih := dw_len p l
    rw [List.dropWhile_cons]
    split
    · simp; omega
    · simp
theorem tls_len (l : List UInt8) : (tls l).length ≤ l.length := by
  unfold tls Lib.trimS Lib.trimLeftS Lib.trimRightS
  refine Nat.le_trans (dw_len _ _) ?_
  rw [List.length_reverse]
  refine Nat.le_trans (dw_len _ _) ?_
  simp
theorem rlin_len (l : List UInt8) : (rlin l).length ≤ l.length := Nat.le_trans (tls_len _) (by simp; omega)
theorem rnm_len (l : List UInt8) : (rnm l).length ≤ l.length := Nat.le_trans (tls_len _) (by simp)
theorem rsp_len (l : List UInt8) : (rsp l).length ≤ l.length := by unfold rsp; simp; omega
theorem nfF_len : ∀ (G : List Rg) (b : Int), nfF b G → b ≤ 1114112 → (G.length : Int) + b ≤ 1114112
  | [], b, _, hb => by simpa using hb
  | g :: G, b, h, hb => by
    obtain ⟨h1, h2, h3, h4⟩ := h
    have h3' : g.2 ≤ 1114111 := h3
    by_cases h5 : g.2 + 2 ≤ 1114112
    · have ih := nfF_len G (g.2 + 2) h4 h5
      rw [List.length_cons]; omega
    · cases G with
      | nil => rw [List.length_cons, List.length_nil]; omega
      | cons x G =>
        obtain ⟨k1, k2, k3, _⟩ := h4
        have k3' : x.2 ≤ 1114111 := k3
        omega
theorem parF_nf : ∀ (f : Nat) (l : List UInt8) (p : Nat) (acc : List Rg), nf (parF f l p acc).1
  | 0, l, p, acc => by unfold parF; exact trivial
  | f + 1, l, p, acc => by
    unfold parF
    repeat' split
    all_goals first
      | exact trivial
      | exact nrm_nf _
      | exact parF_nf f l _ _
theorem par_nf (l : List UInt8) : nf (par l).1 := parF_nf _ _ _ _
theorem nf_bounds (G : List Rg) (h : nf G) (g : Rg) (hg : g ∈ G) : 0 ≤ g.1 ∧ g.1 ≤ g.2 ∧ g.2 ≤ 1114111 := by
  obtain ⟨j, hj⟩ := List.getElem?_of_mem hg
  have h5 := nf_at h hj
  exact ⟨h5.1, h5.2.1, h5.2.2⟩
end Go.Proofs.YtohhokjlgihbgaaGreatDoor
