/- readPairs, worked out by the evaluator: the lines of pairs lie in a new row. -/
import Derived.Test.YtdcfflnjkjnodaaGreatDoorFoTab
import Derived.Test.YtdcfflnjkjnodaaGreatDoorLiveX
namespace Go.Proofs.YtdcfflnjkjnodaaGreatDoor
open Ev Go.RowKit
namespace Fo
theorem pairs_run : runM Tryz.prog same7 1000000 60 tabs 20 [] chkP = true := by kernel_rfl
theorem tab_id {i : Nat} (h : Nat.ble 4 i = true) : ∀ x, x ∈ tabs → x.g ≠ i := fun x hx => by
  have := Nat.le_of_ble_eq_true h
  simp only [tabs, List.mem_cons, List.mem_nil_iff, or_false] at hx
  rcases hx with rfl | rfl | rfl <;> simp only <;> omega
theorem pairs_any (w : World) (hw : Tbs tabs w) : Calls Tryz.prog 20 #[] w fun e w' => Below w.heap.size w w' ∧ ∃ v g, e = .returned v ∧ PrAt w' v g ∧ w.heap.size ≤ g := by
  refine (closed_mem mixed same7_ok tabs_ok rfl pairs_run w hw).mono fun e w' ⟨hB, v, u, μ, A, he, hc, hv, W, hn⟩ => ⟨hB, v, ?_⟩
  unfold chkP at hc
  split at hc
  · rename_i i n c
    simp only [Bool.and_eq_true] at hc
    obtain ⟨⟨⟨h1, h2⟩, h3⟩, h4⟩ := hc
    split at h4
    · rename_i obj hobj
      have ho := objEq_eq h4
      subst ho
      have e1 := beqN h1
      have e2 := beqN h2
      subst e1 e2
      simp only [VR] at hv
      obtain ⟨a', c', rfl, hs⟩ := hv
      rcases hs with ⟨_, rfl, _, l, hl, rfl⟩ | ⟨h5, _⟩
      · simp only at hl
        obtain ⟨o', g1, c', fr, rfl, g3, g4, g5, g6, g7, g8⟩ := W.has i _ _ hobj hl
        obtain ⟨g9, g10⟩ := g5 rfl
        have g11 := flatL_eq prV_flat g7
        rw [g9, List.drop_zero, List.take_of_length_le (by rw [Array.length_toList, g3, ← g10]; exact Nat.le_refl _)] at g11
        have g12 : c' = ⟨prV⟩ := Array.toList_inj.1 g11
        simp only [FZ] at g8
        subst g12 g8
        exact ⟨l.b, he, ⟨by simp [g9], g1⟩, hn i _ l hobj hl (tab_id h3)⟩
      · exact absurd h5 (by decide)
    · cases h4
  · cases hc
end Fo
end Go.Proofs.YtdcfflnjkjnodaaGreatDoor
