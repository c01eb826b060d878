/- RfPl: parts of the proof, joined. -/
import Derived.Test.YtdpohgoikbeplaaGreatDoorUSnMov
import Derived.Test.YtdpohgoikbeplaaGreatDoorUGmDoc
namespace Go.Proofs.YtdpohgoikbeplaaGreatDoor.Sn
open Go.RowKit Wt Br
def plE (D : List Nat) (n : Int) (e : Nat) : Nat := if n < 0 then 0 else D.getD n.toNat e
set_option maxRecDepth 100000 in
theorem rplace_any (ao : Option Addr) (n ac : Nat) (D : List Nat) (z : Int) (d : Nat) (w : World) (ha : Pt.RdI w ao (D.map fun (x : Nat) => (x : Int))) (hn : n = D.length) :
  Calls Tryz.prog 28 #[.slice ao n ac, .int .i64 z, .int .i64 d] w fun e w' => e = .returned (.int .i64 (plE D z d : Nat)) /\ w' = w := by
 by_cases h0 : z < 0
 ·have HN := hid (show plE D z d = 0 from if_pos h0)
  rw [HN.out]; clear ha hn HN
  go_enter Tryz.func28, Tryz.ntmps28
  go_wp2
  go_ret; exact ⟨rfl, rfl⟩
 by_cases h1 : (n : Int) <= z
 ·have HN := hid (show plE D z d = d by unfold plE; rw [if_neg h0, List.getD_eq_getElem?_getD, List.getElem?_eq_none (by omega)]; rfl)
  rw [HN.out]; clear ha hn HN
  go_enter Tryz.func28, Tryz.ntmps28
  go_wp2
  go_ret; exact ⟨rfl, rfl⟩
 obtain ⟨i, rfl⟩ : ∃ i : Nat, z = i := ⟨z.toNat, by omega⟩
 have hil : i < D.length := by omega
 obtain ⟨a, rfl, c1⟩ := rdi_nat ha hil
 have HN := hid (show plE D i d = D[i] by unfold plE; rw [if_neg h0, Int.toNat_natCast, List.getD_eq_getElem?_getD, List.getElem?_eq_getElem hil]; rfl)
 obtain ⟨x, hx⟩ : ∃ x, x = D[i] := ⟨_, rfl⟩
 rw [<- hx] at c1 HN
 rw [HN.out]
 have i0 : (0 : Int) <= (i : Int) := by omega
 have i1 : (i : Int) < (n : Int) := by omega
 clear ha hn HN hx hil
 go_enter Tryz.func28, Tryz.ntmps28
 go_wp2
 go_ret
 exact ⟨rfl, rfl⟩
theorem bds_at {p e : Nat} {P : List (Nat × Nat)} (h : Chn p e P) : ∀ (k : Nat) (x : Nat × Nat), P[k]? = some x -> (bds p P)[k]? = some x.1 /\ (bds p P)[k + 1]? = some x.2 := by
 induction h with
 | nil => intro k x hk; simp at hk
 | @cons p t e P k1 k2 ih =>
  intro k x hk
  rw [bds_cons]
  cases k with
  | zero => cases hk; exact ⟨rfl, rfl⟩
  | succ k =>
   rw [List.getElem?_cons_succ] at hk
   obtain ⟨h1, h2⟩ := ih k x hk
   exact ⟨by rw [List.getElem?_cons_succ]; exact h1, by rw [List.getElem?_cons_succ]; exact h2⟩
theorem bds_len (p : Nat) (P : List (Nat × Nat)) : (bds p P).length = P.length + 1 := by simp [bds]
end Go.Proofs.YtdpohgoikbeplaaGreatDoor.Sn
