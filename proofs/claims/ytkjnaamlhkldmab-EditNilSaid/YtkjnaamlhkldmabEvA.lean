/- Closed calls with plain arguments and plain answers, worked out by the evaluator. -/
import Derived.Test.YtkjnaamlhkldmabEvT
namespace Go.Proofs.Ytkjnaamlhkldmab
namespace Ev
open Go.RowKit
variable {P : Program}
/-- Plain values held against each other, one level deeper. -/
def veqM : List Value → List Value → Bool
  | [], [] => true
  | x :: xs, y :: ys => veq x y && veqM xs ys
  | _, _ => false
theorem veqM_eq : ∀ {xs ys : List Value}, veqM xs ys = true → xs = ys
  | [], [], _ => rfl
  | x :: xs, y :: ys, h => by
    simp only [veqM, Bool.and_eq_true] at h
    rw [veq_eq h.1, veqM_eq h.2]
  | [], _ :: _, h => by cases h
  | _ :: _, [], h => by cases h
def veqT : Value → Value → Bool
  | .tuple ⟨x⟩, .tuple ⟨y⟩ => veqM x y
  | x, y => veq x y
theorem veqT_eq {x y : Value} (h : veqT x y = true) : x = y := by
  unfold veqT at h
  split at h
  · rw [veqM_eq h]
  · exact veq_eq h
noncomputable def okA (l : List Tb) (v : Value) : Except String (AE × AW) → Bool
  | .ok (.ret u, A) => veqT u v && flat u && l.all fun x => match A.get x.g with
    | some obj => objEq obj x.obj
    | none => false
  | _ => false
noncomputable def runA (P : Program) (same : XT) (fuel depth : Nat) (l : List Tb) (f : FuncId) (args : List Value) (v : Value) : Bool := fTree l fun t => okA l v (evF P same fuel (evDraw P same) depth false f args ⟨[], t, ng⟩)
theorem closed_args {same : XT} {fuel depth : Nat} {f : FuncId} {l : List Tb} {args : List Value} {v0 : Value} (hm : P.follows .mixedOrders = true) (hsame : SameOK P same) (hl : tbOK l = true) (ha : flatL args = true) (h : runA P same fuel depth l f args v0 = true) (w : World) (hw : Tbs l w) :
    Calls P f ⟨args⟩ w fun e w' => e = .returned v0 ∧ Below w.heap.size w w' := by
  unfold runA at h
  rw [fTree_eq] at h
  unfold okA at h
  split at h
  · rename_i u A' hr
    rw [Bool.and_eq_true, Bool.and_eq_true] at h
    obtain ⟨⟨hv, hfl⟩, h⟩ := h
    have hv := veqT_eq hv
    subst hv
    refine ((evF_ok hsame (fun call hc => evDraw_ok hm hsame hc) depth).fn f args (wT l) _ A' hr mu0 w ⟨args⟩ (WRT hl hw) (flatL_LR ha)).mono fun e w' ⟨μ', he, W', E⟩ => ?_
    cases e with
    | returned v =>
      simp only [ER] at he
      obtain rfl := flat_eq hfl he
      refine ⟨rfl, E.os, E.tape, E.output, E.size, fun k hk => ?_⟩
      by_cases hk0 : ∃ x, x ∈ l ∧ x.g = k
      · obtain ⟨x, hx, rfl⟩ := hk0
        have h1 := List.all_eq_true.1 h x hx
        split at h1
        · rename_i obj hobj
          have ho := objEq_eq h1
          subst ho
          obtain ⟨hf, hg⟩ := tbOK_spec hl hx
          obtain ⟨c, hc, hct⟩ := hw x hx
          obtain ⟨o', h1, c', fr, rfl, h3, h4, h5, h6, h7, h8⟩ := W'.has x.g _ _ hobj (μ'.glob x.g _ hg)
          simp only at h1 h3 h7 h8
          have h9 := flatL_eq hf h7
          rw [List.drop_zero, List.take_of_length_le (by rw [Array.length_toList, h3]; exact Nat.le_refl _)] at h9
          have h10 : c' = c := Array.toList_inj.1 (by rw [h9, hct])
          simp only [FZ] at h8
          rw [h1, hc, h10, h8]
        · cases h1
      · refine E.stay k hk fun i o lo hi hlo e => ?_
        obtain ⟨x, hx, rfl, rfl⟩ := wT_get hi
        obtain ⟨s, _, rfl⟩ := mu0_get hlo
        exact hk0 ⟨x, hx, e⟩
    | panicked ch => exact he.elim
    | outgrown => exact he.elim
  · cases h
end Ev
end Go.Proofs.Ytkjnaamlhkldmab
