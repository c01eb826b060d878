/- What the functions of package word answer, said of bytes; those of classes alone by the evaluator. -/
import Derived.Test.YtkophiklkgefnaaDoorWdCls
import Derived.Test.YtkophiklkgefnaaDoorRMath
namespace Go.Proofs.YtkophiklkgefnaaDoor.Wd
open Go.RowKit

def wends (c : Int) : Bool := c == 1 || c == 2 || c == 3
def wclings (c : Int) : Bool := c == 4 || c == 6 || c == 5
def wletter (c : Int) : Bool := c == 10 || c == 9
def wmakes (c : Int) : Bool := wletter c || c == 8 || c == 16
def wtog (a b : Int) : Bool :=
  if a == 10 then wletter b || b == 16 || b == 17 else if a == 16 then wletter b || b == 16 || b == 17 else if a == 9 then wletter b || b == 16 || b == 17 || b == 11 else
  if a == 8 then b == 8 || b == 17 else if a == 17 then wletter b || b == 8 || b == 16 || b == 17 else false
def wmid (c : Int) : Bool := c == 14 || c == 15 || c == 13 || c == 11 || c == 12
def wbri (a m b : Int) : Bool :=
  if m == 14 then wletter a && wletter b else if m == 15 then a == 16 && b == 16 else if m == 13 then wletter a && wletter b || a == 16 && b == 16 else if m == 11 then wletter a && wletter b || a == 16 && b == 16 else if m == 12 then a == 9 && b == 9 else false
/-- A class. -/
def Cl (c : Int) : Prop := 0 ≤ c ∧ c ≤ 19
theorem Cl.nat {c : Int} (h : Cl c) : ∃ n : Nat, n < 20 ∧ c = (n : Int) := ⟨c.toNat, by have := h.1; have := h.2; omega, by have := h.1; omega⟩
theorem ite_cl {p : Prop} [Decidable p] {a b : Int} (ha : Cl a) (hb : Cl b) : Cl (if p then a else b) := by
  split
  · exact ha
  · exact hb
theorem wdcls_bd (r : Int) : Cl (wdcls r) := by
  have h1 : Cl (wdascii r) := by unfold wdascii; repeat (first | exact ⟨by decide, by decide⟩ | refine ite_cl ⟨by decide, by decide⟩ ?_)
  have h2 : Cl (wdlatin r) := by unfold wdlatin; repeat (first | exact ⟨by decide, by decide⟩ | refine ite_cl ⟨by decide, by decide⟩ ?_)
  have h3 : Cl (wdscripts r) := by unfold wdscripts; repeat (first | exact ⟨by decide, by decide⟩ | refine ite_cl ⟨by decide, by decide⟩ ?_)
  have h4 : Cl (wdpunct r) := by unfold wdpunct; repeat (first | exact ⟨by decide, by decide⟩ | refine ite_cl ⟨by decide, by decide⟩ ?_)
  have h5 : Cl (wdasian r) := by unfold wdasian; repeat (first | exact ⟨by decide, by decide⟩ | refine ite_cl ⟨by decide, by decide⟩ ?_)
  have h6 : Cl (wdhigh r) := by unfold wdhigh; repeat (first | exact ⟨by decide, by decide⟩ | refine ite_cl ⟨by decide, by decide⟩ ?_)
  unfold wdcls
  exact ite_cl h1 (ite_cl h2 (ite_cl h3 (ite_cl h4 (ite_cl h5 (ite_cl ⟨by decide, by decide⟩ h6)))))
end Go.Proofs.YtkophiklkgefnaaDoor.Wd
