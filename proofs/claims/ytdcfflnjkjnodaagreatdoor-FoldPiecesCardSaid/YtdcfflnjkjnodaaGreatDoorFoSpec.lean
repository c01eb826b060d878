/- readSpecials, worked out by the evaluator: the forms lie in a new map. -/
import Derived.Test.YtdcfflnjkjnodaaGreatDoorFoFormA
import Derived.Test.YtdcfflnjkjnodaaGreatDoorFoFormB
import Derived.Test.YtdcfflnjkjnodaaGreatDoorFoFormC
namespace Go.Proofs.YtdcfflnjkjnodaaGreatDoor
open Ev Go.RowKit
namespace Fo
def fTs : List Pl := [fT0, fT1, fT2, fT3, fT4, fT5, fT6, fT7, fT8, fT9, fT10, fT11, fT12, fT13, fT14, fT15, fT16]
theorem fTs_ok : ∀ p, p ∈ fTs → PlOK Tryz.prog tabs p := fun p hp => by
  simp only [fTs, List.mem_cons, List.mem_nil_iff, or_false] at hp
  rcases hp with rfl | rfl | rfl | rfl | rfl | rfl | rfl | rfl | rfl | rfl | rfl | rfl | rfl | rfl | rfl | rfl | rfl
  · exact form0_ok
  · exact form1_ok
  · exact form2_ok
  · exact form3_ok
  · exact form4_ok
  · exact form5_ok
  · exact form6_ok
  · exact form7_ok
  · exact form8_ok
  · exact form9_ok
  · exact form10_ok
  · exact form11_ok
  · exact form12_ok
  · exact form13_ok
  · exact form14_ok
  · exact form15_ok
  · exact form16_ok
theorem spec_run : runC (evG Tryz.prog same7 1000000 (evDraw Tryz.prog same7) (ovP tabs fTs) 60) tabs 40 [] chkS = true := by kernel_rfl
theorem tab_id2 {i : Nat} (h : Nat.ble 4 i = true) : ∀ x, x ∈ tabs → x.g ≠ i := fun x hx => by
  have := Nat.le_of_ble_eq_true h
  simp only [tabs, List.mem_cons, List.mem_nil_iff, or_false] at hx
  rcases hx with rfl | rfl | rfl <;> simp only <;> omega
theorem spec_any (w : World) (hw : Tbs tabs w) : Calls Tryz.prog 40 #[] w fun e w' => Below w.heap.size w w' ∧ ∃ v K, e = .returned v ∧ SpAt w' v K ∧ w.heap.size ≤ K := by
  refine (closed_memC (evG_ok same7_ok (fun _ hc => evDraw_ok mixed same7_ok hc) (ovP_ok tabs_ok fTs_ok) 60) tabs_ok rfl spec_run w hw).mono fun e w' ⟨hB, v, u, μ, A, he, hc, hv, W, hn⟩ => ⟨hB, v, ?_⟩
  unfold chkS at hc
  split at hc
  · rename_i i
    simp only [Bool.and_eq_true] at hc
    obtain ⟨h3, h4⟩ := hc
    split at h4
    · rename_i es c hobj
      simp only [Bool.and_eq_true] at h4
      have e1 := mEq_eq h4.1
      have e2 := beqN h4.2
      subst e1 e2
      simp only [VR] at hv
      obtain ⟨l, rfl, hl⟩ := hv
      obtain ⟨o', g1, es', rfl, g3⟩ := W.has i _ _ hobj hl
      have g4 := MR_flat spE_flat g3
      have g5 : es' = ⟨spE⟩ := Array.toList_inj.1 g4
      subst g5
      exact ⟨l.b, he, ⟨rfl, g1⟩, hn i _ l hobj hl (tab_id2 h3)⟩
    · cases h4
  · cases hc
end Fo
end Go.Proofs.YtdcfflnjkjnodaaGreatDoor
