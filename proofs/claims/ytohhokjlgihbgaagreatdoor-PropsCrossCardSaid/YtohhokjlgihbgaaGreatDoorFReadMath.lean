/- What read (package props) does to the names and the ranges that were said. -/
import Derived.Test.YtohhokjlgihbgaaGreatDoorFSayMath
import Derived.Test.YtohhokjlgihbgaaGreatDoorFStrs
import Derived.Test.YtohhokjlgihbgaaGreatDoorFQuoted
import Derived.Test.YtohhokjlgihbgaaGreatDoorFItem
import Derived.Test.YtohhokjlgihbgaaGreatDoorFName
import Derived.Test.YtohhokjlgihbgaaGreatDoorFBare
namespace Go.Proofs.YtohhokjlgihbgaaGreatDoor

def tls (l : List UInt8) : List UInt8 := Lib.trimS l [32, 9]
/-- A line without its remark, and without blanks at both ends. -/
def rlin (l : List UInt8) : List UInt8 := tls (l.take (fdp 35 l))
/-- What stands behind the first ; of it. -/
def rnm (l : List UInt8) : List UInt8 := tls (l.drop (fdp 59 l + 1))
/-- What stands ahead of it, tabs taken for blanks. -/
def rsp (l : List UInt8) : List UInt8 := (l.take (fdp 59 l)).map tbl
def rgT (c : Nat) (g : Rg) : Tr := (g.1.toNat, g.2.toNat, c)
/-- Ranges said one behind the other. -/
def sayL : List Tr → List Rg → Nat → Option (List Tr)
  | S, [], _ => some S
  | S, g :: G, c => (sayR S (rgT c g)).bind fun S' => sayL S' G c
/-- The error of a line, and the names and ranges behind it. -/
def rdS (U : List (List UInt8)) (S : List Tr) (l : List UInt8) : Int × List (List UInt8) × List Tr :=
  if rlin l = [] then (0, U, S)
  else if fdp 59 (rlin l) = (rlin l).length then (42, U, S)
  else if nam (rnm (rlin l)) = false ∨ rnm (rlin l) = oth then (40, U, S)
  else if (par (rsp (rlin l))).2.1 ≠ 0 then ((par (rsp (rlin l))).2.1, U, S)
  else if (adn (rnm (rlin l)) U).2 = 64 then (6, U, S)
  else match sayL S (par (rsp (rlin l))).1 (adn (rnm (rlin l)) U).2 with
    | none => (41, U, S)
    | some S' => (0, (adn (rnm (rlin l)) U).1, S')

theorem dw_len (p : UInt8 → Bool) : ∀ l : List UInt8, (l.dropWhile p).length ≤ l.length
  | [] => by simp
  | b :: l => by
    have ih := dw_len p l
    rw [List.dropWhile_cons]
    split
    · simp; omega
    · simp
theorem tls_len (l : List UInt8) : (tls l).length ≤ l.length := by
  unfold tls Lib.trimS Lib.trimLeftS Lib.trimRightS
  refine Nat.le_trans (dw_len _ _) ?_
  rw [List.length_reverse]
  refine Nat.le_trans (dw_len _ _) ?_
  simp
theorem rlin_len (l : List UInt8) : (rlin l).length ≤ l.length := Nat.le_trans (tls_len _) (by simp; omega)
theorem rnm_len (l : List UInt8) : (rnm l).length ≤ l.length := Nat.le_trans (tls_len _) (by simp)
theorem rsp_len (l : List UInt8) : (rsp l).length ≤ l.length := by unfold rsp; simp; omega
theorem nfF_len : ∀ (G : List Rg) (b : Int), nfF b G → b ≤ 1114112 → (G.length : Int) + b ≤ 1114112
  | [], b, _, hb => by simpa using hb
  | g :: G, b, h, hb => by
    obtain ⟨h1, h2, h3, h4⟩ := h
    have h3' : g.2 ≤ 1114111 := h3
    by_cases h5 : g.2 + 2 ≤ 1114112
    · have ih := nfF_len G (g.2 + 2) h4 h5
      rw [List.length_cons]; omega
    · cases G with
      | nil => rw [List.length_cons, List.length_nil]; omega
      | cons x G =>
        obtain ⟨k1, k2, k3, _⟩ := h4
        have k3' : x.2 ≤ 1114111 := k3
        omega
theorem parF_nf : ∀ (f : Nat) (l : List UInt8) (p : Nat) (acc : List Rg), nf (parF f l p acc).1
  | 0, l, p, acc => by unfold parF; exact trivial
  | f + 1, l, p, acc => by
    unfold parF
    repeat' split
    all_goals first
      | exact trivial
      | exact nrm_nf _
      | exact parF_nf f l _ _
theorem par_nf (l : List UInt8) : nf (par l).1 := parF_nf _ _ _ _
theorem nf_bounds (G : List Rg) (h : nf G) (g : Rg) (hg : g ∈ G) : 0 ≤ g.1 ∧ g.1 ≤ g.2 ∧ g.2 ≤ 1114111 := by
  obtain ⟨j, hj⟩ := List.getElem?_of_mem hg
  have h5 := nf_at h hj
  exact ⟨h5.1, h5.2.1, h5.2.2⟩
end Go.Proofs.YtohhokjlgihbgaaGreatDoor
/- The contracts of the document's blank and trim. -/
namespace Go.Proofs.YtohhokjlgihbgaaGreatDoor
open Go.RowKit

def blk (b : UInt8) : Bool := ([32, 9] : List UInt8).contains b
def rtr (l : List UInt8) : List UInt8 := (l.reverse.dropWhile blk).reverse
/-- Blanks at the beginning taken first, then those at the end. -/
def rtm (l : List UInt8) : List UInt8 := rtr (l.dropWhile blk)
theorem tls_eq (l : List UInt8) : tls l = (rtr l).dropWhile blk := rfl
theorem rtr_cons (b : UInt8) (r : List UInt8) : rtr (b :: r) = if rtr r = [] then (if blk b then [] else [b]) else b :: rtr r := by
  unfold rtr
  rw [List.reverse_cons, List.dropWhile_append]
  by_cases h : r.reverse.dropWhile blk = []
  · rw [h]
    simp only [List.isEmpty_nil, List.reverse_nil, if_true]
    rw [List.dropWhile_cons]
    split <;> simp
  · have h2 : (r.reverse.dropWhile blk).isEmpty = false := by
      cases h5 : r.reverse.dropWhile blk with
      | nil => exact absurd h5 h
      | cons => rfl
    rw [h2, if_neg (by decide), if_neg (by simpa using h)]
    simp
theorem rtm_tls : ∀ l : List UInt8, rtm l = tls l
  | [] => rfl
  | b :: r => by
    rw [tls_eq]
    unfold rtm
    by_cases hb : blk b = true
    · have ih := rtm_tls r
      rw [tls_eq] at ih
      unfold rtm at ih
      rw [List.dropWhile_cons, if_pos hb, ih, rtr_cons, if_pos hb]
      split
      · rename_i h; rw [h]
      · rw [List.dropWhile_cons, if_pos hb]
    · rw [List.dropWhile_cons, if_neg hb, rtr_cons, if_neg hb]
      split
      · rw [List.dropWhile_cons, if_neg hb]
      · rw [List.dropWhile_cons, if_neg hb]
theorem rtr_snoc (l : List UInt8) (b : UInt8) : rtr (l ++ [b]) = if blk b then rtr l else l ++ [b] := by
  unfold rtr
  rw [List.reverse_append]
  show ((b :: l.reverse).dropWhile blk).reverse = _
  rw [List.dropWhile_cons]
  split <;> simp
set_option maxRecDepth 100000 in
theorem blank_any (b : UInt8) (w : World) : Calls Tryz.prog 103 #[.int .u8 (b.toNat : Int)] w fun e w' => e = .returned (.bool (blk b)) ∧ w' = w := by
  by_cases h1 : b = 32
  · subst h1
    go_enter Tryz.func103, Tryz.ntmps103
    go_wp2
    go_ret
    exact ⟨rfl, rfl⟩
  · have h1' : ((b.toNat : Int) == 32) = false := beq_eq_false_iff_ne.2 (fun e => h1 (UInt8.toNat_inj.1 (show b.toNat = 32 by omega)))
    by_cases h2 : b = 9
    · subst h2
      go_enter Tryz.func103, Tryz.ntmps103
      go_wp2
      go_ret
      exact ⟨rfl, rfl⟩
    · have h2' : ((b.toNat : Int) == 9) = false := beq_eq_false_iff_ne.2 (fun e => h2 (UInt8.toNat_inj.1 (show b.toNat = 9 by omega)))
      have HV := hid (show blk b = false by unfold blk; simp [h1, h2])
      go_enter Tryz.func103, Tryz.ntmps103
      go_wp2
      go_ret
      exact ⟨by rw [HV.out]; rfl, rfl⟩
end Go.Proofs.YtohhokjlgihbgaaGreatDoor
/- What New (package props) makes of a text. -/
namespace Go.Proofs.YtohhokjlgihbgaaGreatDoor

/-- Lines read one behind the other: the error and its line, the names and the ranges. -/
def nwF : Nat → List (List UInt8) → List Tr → List (List UInt8) → (Int × Nat) × List (List UInt8) × List Tr
  | _, U, S, [] => ((0, 0), U, S)
  | i, U, S, l :: L => if (rdS U S l).1 = 0 then nwF (i + 1) (rdS U S l).2.1 (rdS U S l).2.2 L else (((rdS U S l).1, i + 1), U, S)
def nw (t : List UInt8) : (Int × Nat) × List (List UInt8) × List Tr := if 65536 < t.length then ((1, 0), [oth], []) else nwF 0 [oth] [] (lns t)
theorem nwF_at (i : Nat) (U : List (List UInt8)) (S : List Tr) (L : List (List UInt8)) (k : Nat) (x : List UInt8) (hx : L[k]? = some x) :
    nwF i U S (L.drop k) = if (rdS U S x).1 = 0 then nwF (i + 1) (rdS U S x).2.1 (rdS U S x).2.2 (L.drop (k + 1)) else (((rdS U S x).1, i + 1), U, S) := by
  obtain ⟨hk, rfl⟩ := List.getElem?_eq_some_iff.1 hx
  rw [List.drop_eq_getElem_cons hk]
  rfl
end Go.Proofs.YtohhokjlgihbgaaGreatDoor
