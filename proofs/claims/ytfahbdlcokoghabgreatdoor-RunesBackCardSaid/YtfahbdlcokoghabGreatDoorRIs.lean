/- The contract of the document's Is. -/
import Derived.Test.YtfahbdlcokoghabGreatDoorRNorm
namespace Go.Proofs.YtfahbdlcokoghabGreatDoor
open Go.RowKit

/-- A row of the call's own, read as a slice that came in. -/
theorem rdr_row {w : World} {B : Nat} {v : Value} {l : List Rg} (h : w.ownsRow B 33 2 v l.length (rgcs l)) : ∃ ao cap, v = .slice ao l.length cap ∧ RdR w ao l := by
  obtain ⟨ao, cap, e, _, hc⟩ := row_reads h
  refine ⟨ao, cap, e, fun k g hk => ?_⟩
  obtain ⟨b, rfl, h1, h2, h3⟩ := hc k g hk
  have ea : (⟨b, 0, none⟩ : Addr).add (k * 2) = ⟨b, k * 2, none⟩ := by unfold Addr.add; split <;> simp_all
  exact ⟨_, rfl, h1, by rw [ea]; exact h2, by rw [ea]; exact h3⟩
theorem nrm_dec (l : List Rg) : decide (l = nrm l) = nfB 0 l := by
  cases h : nfB 0 l with
  | true => exact decide_eq_true ((nrm_same l).2 ((nfB_iff l 0).1 h))
  | false => exact decide_eq_false (fun e => by
      have := (nfB_iff l 0).2 ((nrm_same l).1 e)
      rw [h] at this; cases this)

end Go.Proofs.YtfahbdlcokoghabGreatDoor

