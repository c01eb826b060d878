/- What a run that the evaluator works out says of the program: a call without arguments, from whatever world whose table holds what the text lays. -/
import Derived.Test.YtkmcbhdjecpmjaaDoorEv18
import Derived.Below
import Derived.KernelRfl
namespace Go.Proofs.YtkmcbhdjecpmjaaDoor
namespace Ev
open Go.RowKit
variable {P : Program}

/-- The table of package bits. -/
def tab : List Value := [0, 1, 56, 2, 57, 49, 28, 3, 61, 58, 42, 50, 38, 29, 17, 4, 62, 47, 59, 36, 45, 43, 51, 22, 53, 39, 33, 30, 24, 18, 12, 5, 63, 55, 48, 27, 60, 41, 37, 16, 46, 35, 44, 21, 52, 32, 23, 11, 54, 26, 40, 15, 34, 20, 31, 10, 25, 14, 19, 9, 13, 8, 7, 6].map fun (n : Nat) => .int .u8 (n : Int)
noncomputable def wG : AW := ⟨[], .node (some (.cells tab 188 false none 1)) .nil .nil, 1⟩
theorem tab_flat : flatL tab = true := by kernel_rfl
theorem tab_len : tab.length = 64 := by kernel_rfl
theorem wG_get (i : Nat) : wG.get i = if i = 0 then some (.cells tab 188 false none 1) else none := by
  show Tr.get (.node (some (AObj.cells tab 188 false none 1)) .nil .nil) i = _
  rw [Tr.get_node]
  by_cases h : i = 0
  · rw [if_pos h, if_pos h]
  · rw [if_neg h, if_neg h, Tr.get_nil, Tr.get_nil]; split <;> rfl
theorem WRG {w : World} {c : Array Value} (hw : w.heap[0]? = some (.cells c 188)) (hc : c.toList = tab) : WR mu0 wG w := by
  refine ⟨fun i o l h hl => ?_, fun i j oi oj li lj hi hj _ _ _ => ?_, fun i hi => (WR00 w).dom i hi⟩
  · rw [wG_get] at h
    split at h
    · rename_i e
      subst e
      cases h
      have : l = ⟨0, 0, 64, 1⟩ := (Option.some.inj (show some (⟨0, 0, 64, 1⟩ : Loc) = some l from hl)).symm
      subst this
      have hsz : c.size = 64 := by rw [← Array.length_toList, hc]; exact tab_len
      refine ⟨_, hw, c, (0, 0), rfl, hsz, by rw [tab_len]; exact Nat.le_refl _, fun _ => ⟨rfl, tab_len⟩, rfl, ?_, rfl⟩
      simp only [List.drop_zero]
      rw [List.take_of_length_le (by rw [hc]; exact Nat.le_refl _), hc]
      exact flatL_LR tab_flat
    · cases h
  · rw [wG_get] at hi hj
    split at hi
    · split at hj
      · omega
      · cases hj
    · cases hi
noncomputable def okTab : Except String (AE × AW) → Bool
  | .ok (.ret (.bool true), A) => (match A.get 0 with
    | some obj => objEq obj (.cells tab 188 false none 1)
    | none => false)
  | _ => false
theorem closed_tab {same : FuncId → Bool} {fuel depth : Nat} {f : FuncId} (hm : P.follows .mixedOrders = true) (hsame : SameOK P same) (h : okTab (evF P same fuel (evDraw P same) depth f [] wG) = true) (w : World) {c : Array Value} (hw : w.heap[0]? = some (.cells c 188)) (hc : c.toList = tab) :
    Calls P f #[] w fun e w' => e = .returned (.bool true) ∧ Below w.heap.size w w' := by
  unfold okTab at h
  split at h
  · rename_i A' hr
    split at h
    · rename_i obj hobj
      have ho := objEq_eq h
      subst ho
      refine (evF_ok hsame (fun call hc => evDraw_ok hm hsame hc) depth f [] wG _ A' hr mu0 w #[] (WRG hw hc) LR.nil).mono fun e w' ⟨μ', he, W', E⟩ => ?_
      cases e with
      | returned v =>
        simp only [ER, VR] at he
        subst he
        refine ⟨rfl, E.os, E.tape, E.output, E.size, fun k hk => ?_⟩
        by_cases hk0 : k = 0
        · subst hk0
          obtain ⟨o', h1, c', fr, rfl, h3, h4, h5, h6, h7, h8⟩ := W'.has 0 _ ⟨0, 0, 64, 1⟩ hobj (μ'.glob 0 (64, 1) rfl)
          simp only at h1 h3 h7 h8
          have h9 := flatL_eq tab_flat h7
          rw [List.drop_zero, List.take_of_length_le (by rw [Array.length_toList, h3, tab_len]; exact Nat.le_refl _)] at h9
          have h10 : c' = c := Array.toList_inj.1 (by rw [h9, hc])
          simp only [FZ] at h8
          rw [h1, hw, h10, h8]
        · refine E.stay k hk fun i o l hi hl e => ?_
          rw [wG_get] at hi
          split at hi
          · rename_i e0
            subst e0
            have : l = ⟨0, 0, 64, 1⟩ := (Option.some.inj (show some (⟨0, 0, 64, 1⟩ : Loc) = some l from hl)).symm
            subst this
            exact hk0 e.symm
          · cases hi
      | panicked ch => exact he.elim
      | outgrown => exact he.elim
    · cases h
  · cases h
end Ev
end Go.Proofs.YtkmcbhdjecpmjaaDoor
