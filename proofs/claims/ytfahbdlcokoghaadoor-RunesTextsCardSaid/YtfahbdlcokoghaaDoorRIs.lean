/- The contract of the document's Is. -/
import Derived.Test.YtfahbdlcokoghaaDoorRNorm
namespace Go.Proofs.YtfahbdlcokoghaaDoor
open Go.RowKit

/-- A row of the call's own, read as a slice that came in. -/
theorem rdr_row {w : World} {B : Nat} {v : Value} {l : List Rg} (h : w.ownsRow B 30 2 v l.length (rgcs l)) : ∃ ao cap, v = .slice ao l.length cap ∧ RdR w ao l := by
  obtain ⟨ao, cap, e, _, hc⟩ := row_reads h
  refine ⟨ao, cap, e, fun k g hk => ?_⟩
  obtain ⟨b, rfl, h1, h2, h3⟩ := hc k g hk
  have ea : (⟨b, 0, none⟩ : Addr).add (k * 2) = ⟨b, k * 2, none⟩ := by unfold Addr.add; split <;> simp_all
  exact ⟨_, rfl, h1, by rw [ea]; exact h2, by rw [ea]; exact h3⟩
theorem nrm_dec (l : List Rg) : decide (l = nrm l) = nfB 0 l := by
  cases h : nfB 0 l with
  | true => exact decide_eq_true ((nrm_same l).2 ((nfB_iff l 0).1 h))
  | false => exact decide_eq_false (fun e => by
      have := (nfB_iff l 0).2 ((nrm_same l).1 e)
      rw [h] at this; cases this)

set_option maxHeartbeats 1000000 in
theorem ris_any (ao : Option Addr) (ac : Nat) (l : List Rg) (w : World) (ha : RdR w ao l) (hl : l.length ≤ 100000) :
    Calls Tryd.prog 15 #[.slice ao l.length ac] w fun e w' => e = .returned (.bool (nfB 0 l)) ∧ Below w.heap.size w w' := by
  have HA := hid ha
  clear ha
  go_enter Tryd.func15, Tryd.ntmps15
  go_wp2_with fail
  refine (rnorm_any ao ac l _ HA.out hl).mono ?_
  rintro e w1 ⟨v, rfl, o1, b1⟩
  obtain ⟨bo, bc, rfl, hb⟩ := rdr_row o1
  have HB1 := hid b1
  have HR := hid hb
  clear o1 b1 hb
  go_wp2_with fail
  refine (same2_any ao bo ac bc l (nrm l) w1 (HA.out.below HB1.out) HR.out (by omega)).mono ?_
  rintro e w2 ⟨rfl, b2⟩
  have HB2 := hid (HB1.out.trans (b2.mono HB1.out.size))
  rw [nrm_dec]
  go_wp2
  go_ret
  exact ⟨rfl, HB2.out⟩
end Go.Proofs.YtfahbdlcokoghaaDoor
