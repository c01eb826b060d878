/- What a run that the evaluator works out says of the program: a call without arguments, from whatever world whose tables hold what the text lays. -/
import Derived.Test.YtkjnaamlhkldmabEv18
import Derived.Below
import Derived.KernelRfl
namespace Go.Proofs.Ytkjnaamlhkldmab
namespace Ev
open Go.RowKit
variable {P : Program}

/-- A table: its number, its type, how many cells an element has, its cells. -/
structure Tb where
  g : Nat
  t : TypeId
  es : Nat
  cells : List Value
def Tb.obj (x : Tb) : AObj := .cells x.cells x.t false none x.es
noncomputable def treeOf : List Tb → Tr AObj
  | [] => .nil
  | x :: r => Tr.put (some x.obj) (x.g + 1) (treeOf r) x.g
noncomputable def fTree {α : Type} : List Tb → (Tr AObj → α) → α
  | [], k => k .nil
  | x :: r, k => fTree r fun t => fVs0 x.cells fun vs => Tr.fput (some (.cells vs x.t false none x.es)) (Nat.succ x.g) t x.g k
theorem fTree_eq {α : Type} : ∀ (l : List Tb) (k : Tr AObj → α), fTree l k = k (treeOf l)
  | [], k => rfl
  | x :: r, k => by simp only [fTree, treeOf, fTree_eq r, fVs0_eq, Tr.fput_eq, Tb.obj]
noncomputable def wT (l : List Tb) : AW := ⟨[], treeOf l, ng⟩
theorem wT_get : ∀ {l : List Tb} {i : Nat} {o : AObj}, (wT l).get i = some o → ∃ x, x ∈ l ∧ x.g = i ∧ o = x.obj
  | [], i, o, h => by
    have h' : (Tr.nil : Tr AObj).get i = some o := h
    rw [Tr.get_nil] at h'; cases h'
  | x :: r, i, o, h => by
    have h' : (Tr.put (some x.obj) (x.g + 1) (treeOf r) x.g).get i = some o := h
    rw [Tr.get_put _ _ _ _ _ (by omega)] at h'
    split at h'
    · rename_i e
      exact ⟨x, by simp, e.symm, (Option.some.inj h').symm⟩
    · obtain ⟨y, h1, h2, h3⟩ := wT_get (l := r) (i := i) (o := o) h'
      exact ⟨y, by simp [h1], h2, h3⟩
/-- What is asked of the tables by the text alone. -/
def tbOK (l : List Tb) : Bool := l.all fun x => flatL x.cells && (match gloc x.g with
  | some (a, b) => Nat.beq a x.cells.length && Nat.beq b x.es
  | none => false)
theorem tbOK_spec {l : List Tb} (h : tbOK l = true) {x : Tb} (hx : x ∈ l) : flatL x.cells = true ∧ gloc x.g = some (x.cells.length, x.es) := by
  have h1 := List.all_eq_true.1 h x hx
  rw [Bool.and_eq_true] at h1
  refine ⟨h1.1, ?_⟩
  have h2 := h1.2
  split at h2
  · rename_i a b hg
    rw [Bool.and_eq_true] at h2
    rw [hg, beqN h2.1, beqN h2.2]
  · cases h2
/-- The world's tables hold that. -/
def Tbs (l : List Tb) (w : World) : Prop := ∀ x, x ∈ l → ∃ c, w.heap[x.g]? = some (.cells c x.t) ∧ c.toList = x.cells
theorem mu0_get {i : Nat} {l : Loc} (h : mu0 i = some l) : ∃ s, gloc i = some s ∧ l = ⟨i, 0, s.1, s.2⟩ := by
  have h' : (gloc i).map (fun s => (⟨i, 0, s.1, s.2⟩ : Loc)) = some l := h
  cases hg : gloc i with
  | none => rw [hg] at h'; cases h'
  | some s => rw [hg] at h'; exact ⟨s, rfl, (Option.some.inj h').symm⟩
theorem WRT {l : List Tb} {w : World} (hl : tbOK l = true) (hw : Tbs l w) : WR mu0 (wT l) w := by
  refine ⟨fun i o lo h hlo => ?_, fun i j oi oj li lj hi hj h1 h2 hb => ?_, fun i hi => (WR00 w).dom i hi⟩
  · obtain ⟨x, hx, rfl, rfl⟩ := wT_get h
    obtain ⟨hf, hg⟩ := tbOK_spec hl hx
    obtain ⟨s, hs, rfl⟩ := mu0_get hlo
    rw [hg] at hs
    obtain rfl := Option.some.inj hs
    obtain ⟨c, hc, hct⟩ := hw x hx
    have hsz : c.size = x.cells.length := by rw [← hct]; simp
    refine ⟨_, hc, c, (0, 0), rfl, hsz, by simp, fun _ => ⟨rfl, rfl⟩, rfl, ?_, rfl⟩
    simp only [List.drop_zero]
    rw [List.take_of_length_le (by rw [hct]; exact Nat.le_refl _), hct]
    exact flatL_LR hf
  · obtain ⟨s, _, rfl⟩ := mu0_get h1
    obtain ⟨s', _, rfl⟩ := mu0_get h2
    exact hb
noncomputable def okT (l : List Tb) : Except String (AE × AW) → Bool
  | .ok (.ret (.bool true), A) => l.all fun x => match A.get x.g with
    | some obj => objEq obj x.obj
    | none => false
  | _ => false
noncomputable def runTb (P : Program) (same : XT) (fuel depth : Nat) (l : List Tb) (f : FuncId) : Bool := fTree l fun t => okT l (evF P same fuel (evDraw P same) depth false f [] ⟨[], t, ng⟩)
theorem closed_tabs {same : XT} {fuel depth : Nat} {f : FuncId} {l : List Tb} (hm : P.follows .mixedOrders = true) (hsame : SameOK P same) (hl : tbOK l = true) (h : runTb P same fuel depth l f = true) (w : World) (hw : Tbs l w) :
    Calls P f #[] w fun e w' => e = .returned (.bool true) ∧ Below w.heap.size w w' := by
  unfold runTb at h
  rw [fTree_eq] at h
  unfold okT at h
  split at h
  · rename_i A' hr
    refine ((evF_ok hsame (fun call hc => evDraw_ok hm hsame hc) depth).fn f [] (wT l) _ A' hr mu0 w #[] (WRT hl hw) LR.nil).mono fun e w' ⟨μ', he, W', E⟩ => ?_
    cases e with
    | returned v =>
      simp only [ER, VR] at he
      subst he
      refine ⟨rfl, E.os, E.tape, E.output, E.size, fun k hk => ?_⟩
      by_cases hk0 : ∃ x, x ∈ l ∧ x.g = k
      · obtain ⟨x, hx, rfl⟩ := hk0
        have h1 := List.all_eq_true.1 h x hx
        split at h1
        · rename_i obj hobj
          have ho := objEq_eq h1
          subst ho
          obtain ⟨hf, hg⟩ := tbOK_spec hl hx
          obtain ⟨c, hc, hct⟩ := hw x hx
          obtain ⟨o', h1, c', fr, rfl, h3, h4, h5, h6, h7, h8⟩ := W'.has x.g _ _ hobj (μ'.glob x.g _ hg)
          simp only at h1 h3 h7 h8
          have h9 := flatL_eq hf h7
          rw [List.drop_zero, List.take_of_length_le (by rw [Array.length_toList, h3]; exact Nat.le_refl _)] at h9
          have h10 : c' = c := Array.toList_inj.1 (by rw [h9, hct])
          simp only [FZ] at h8
          rw [h1, hc, h10, h8]
        · cases h1
      · refine E.stay k hk fun i o lo hi hlo e => ?_
        obtain ⟨x, hx, rfl, rfl⟩ := wT_get hi
        obtain ⟨s, _, rfl⟩ := mu0_get hlo
        exact hk0 ⟨x, hx, e⟩
    | panicked ch => exact he.elim
    | outgrown => exact he.elim
  · cases h
end Ev
end Go.Proofs.Ytkjnaamlhkldmab
