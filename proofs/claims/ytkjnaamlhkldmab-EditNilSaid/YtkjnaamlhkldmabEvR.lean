/- Closed calls whose answer lies in memory, worked out by the evaluator. -/
import Derived.Test.YtkjnaamlhkldmabEvA
namespace Go.Proofs.Ytkjnaamlhkldmab
namespace Ev
open Go.RowKit
variable {P : Program}
noncomputable def okM (l : List Tb) (chk : Value → AW → Bool) : Except String (AE × AW) → Bool
  | .ok (.ret u, A) => chk u A && l.all fun x => match A.get x.g with
    | some obj => objEq obj x.obj
    | none => false
  | _ => false
noncomputable def runC (call : CallT) (l : List Tb) (f : FuncId) (args : List Value) (chk : Value → AW → Bool) : Bool := fTree l fun t => okM l chk (call false f args ⟨[], t, ng⟩)
/-- What the run tells: the answer and the memory that it made are like those that the test was run on; what is new lies behind all that was there. -/
theorem closed_memC {call : CallT} {f : FuncId} {l : List Tb} {args : List Value} {chk : Value → AW → Bool} (hcall : CallOK P call) (hl : tbOK l = true) (ha : flatL args = true) (h : runC call l f args chk = true) (w : World) (hw : Tbs l w) :
    Calls P f ⟨args⟩ w fun e w' => Below w.heap.size w w' ∧ ∃ (v u : Value) (μ : Mu) (A : AW), e = .returned v ∧ chk u A = true ∧ VR μ u v ∧ WR μ A w' ∧
      ∀ i o lo, A.get i = some o → μ i = some lo → (∀ x, x ∈ l → x.g ≠ i) → w.heap.size ≤ lo.b := by
  unfold runC at h
  rw [fTree_eq] at h
  unfold okM at h
  split at h
  · rename_i u A' hr
    rw [Bool.and_eq_true] at h
    obtain ⟨hv, h⟩ := h
    refine (hcall.fn f args (wT l) _ A' hr mu0 w ⟨args⟩ (WRT hl hw) (flatL_LR ha)).mono fun e w' ⟨μ', he, W', E⟩ => ?_
    cases e with
    | returned v =>
      simp only [ER] at he
      refine ⟨⟨E.os, E.tape, E.output, E.size, fun k hk => ?_⟩, v, u, μ', A', rfl, hv, he, W', fun i o lo hi hlo hx => ?_⟩
      · by_cases hk0 : ∃ x, x ∈ l ∧ x.g = k
        · obtain ⟨x, hx, rfl⟩ := hk0
          have h1 := List.all_eq_true.1 h x hx
          split at h1
          · rename_i obj hobj
            have ho := objEq_eq h1
            subst ho
            obtain ⟨hf, hg⟩ := tbOK_spec hl hx
            obtain ⟨c, hc, hct⟩ := hw x hx
            obtain ⟨o', h1, c', fr, rfl, h3, h4, h5, h6, h7, h8⟩ := W'.has x.g _ _ hobj (μ'.glob x.g _ hg)
            simp only at h1 h3 h7 h8
            have h9 := flatL_eq hf h7
            rw [List.drop_zero, List.take_of_length_le (by rw [Array.length_toList, h3]; exact Nat.le_refl _)] at h9
            have h10 : c' = c := Array.toList_inj.1 (by rw [h9, hct])
            simp only [FZ] at h8
            rw [h1, hc, h10, h8]
          · cases h1
        · refine E.stay k hk fun i o lo hi hlo e => ?_
          obtain ⟨x, hx, rfl, rfl⟩ := wT_get hi
          obtain ⟨s, _, rfl⟩ := mu0_get hlo
          exact hk0 ⟨x, hx, e⟩
      · rcases E.img i o lo hi hlo with h5 | ⟨j, oj, lj, h5, h6, h7⟩
        · exact h5
        · obtain ⟨x, hx2, rfl, rfl⟩ := wT_get h5
          obtain ⟨s, _, rfl⟩ := mu0_get h6
          have h1 := List.all_eq_true.1 h x hx2
          split at h1
          · rename_i obj hobj
            obtain ⟨hf, hg⟩ := tbOK_spec hl hx2
            exact absurd (W'.inj x.g i _ _ _ _ hobj hi (μ'.glob x.g _ hg) hlo h7) (hx x hx2)
          · cases h1
    | panicked ch => exact he.elim
    | outgrown => exact he.elim
  · cases h
noncomputable def runM (P : Program) (same : XT) (fuel depth : Nat) (l : List Tb) (f : FuncId) (args : List Value) (chk : Value → AW → Bool) : Bool := runC (evF P same fuel (evDraw P same) depth) l f args chk
theorem closed_mem {same : XT} {fuel depth : Nat} {f : FuncId} {l : List Tb} {args : List Value} {chk : Value → AW → Bool} (hm : P.follows .mixedOrders = true) (hsame : SameOK P same) (hl : tbOK l = true) (ha : flatL args = true) (h : runM P same fuel depth l f args chk = true) (w : World) (hw : Tbs l w) :
    Calls P f ⟨args⟩ w fun e w' => Below w.heap.size w w' ∧ ∃ (v u : Value) (μ : Mu) (A : AW), e = .returned v ∧ chk u A = true ∧ VR μ u v ∧ WR μ A w' ∧
      ∀ i o lo, A.get i = some o → μ i = some lo → (∀ x, x ∈ l → x.g ≠ i) → w.heap.size ≤ lo.b :=
  closed_memC (evF_ok hsame (fun _ hc => evDraw_ok hm hsame hc) depth) hl ha h w hw
/-! ### Calls whose contracts stand: the evaluator takes them as they are told -/
abbrev OvT := FuncId → List Value → AW → Option (Value × AW)
def OvOK (P : Program) (ov : OvT) : Prop := ∀ f args A v A', ov f args A = some (v, A') → ∀ (μ : Mu) (w : World) (args' : Array Value), WR μ A w → LR μ args args'.toList →
  Calls P f args' w fun e' w' => ∃ μ', ER μ' (.ret v) e' ∧ WR μ' A' w' ∧ Ext μ A w μ' A' w'
noncomputable def evG (P : Program) (same : XT) (fuel : Nat) (dr : CallT → DrawT) (ov : OvT) : Nat → CallT
  | 0 => fun _ _ _ _ => .error "too deep"
  | n + 1 => fun y f args A => if y then stepR P same fuel dr (evG P same fuel dr ov n) f args A else match ov f args A with
    | some (v, A') => .ok (.ret v, A')
    | none => stepF P same fuel dr (evG P same fuel dr ov n) f args A
theorem evG_ok {same : XT} {fuel : Nat} {dr : CallT → DrawT} {ov : OvT} (hsame : SameOK P same) (hdr : ∀ call, CallOK P call → DrawOK P (dr call)) (hov : OvOK P ov) : ∀ n, CallOK P (evG P same fuel dr ov n)
  | 0 => ⟨fun f args A e A' h => (by cases h), fun f args A e A' h => (by cases h)⟩
  | n + 1 => ⟨fun f args A e A' h => by
      have h' : (match ov f args A with
        | some (v, A') => (Except.ok (.ret v, A') : Except String (AE × AW))
        | none => stepF P same fuel dr (evG P same fuel dr ov n) f args A) = Except.ok (e, A') := h
      split at h'
      · rename_i v A2 ho
        cases h'
        exact hov f args A v _ ho
      · exact stepF_ok (evG_ok hsame hdr hov n) hsame (hdr _ (evG_ok hsame hdr hov n)) h', fun r args A e A' h => stepR_ok (evG_ok hsame hdr hov n) hsame (hdr _ (evG_ok hsame hdr hov n)) (show stepR P same fuel dr (evG P same fuel dr ov n) r args A = .ok (e, A') from h)⟩
/-- What was there stays: the memory is like as before. -/
theorem WR.keeps {μ : Mu} {A : AW} {w w' : World} (W : WR μ A w) (hB : Below w.heap.size w w') : WR μ A w' ∧ Ext μ A w μ A w' := by
  obtain ⟨b1, b2, b3, b4, b5⟩ := hB
  refine ⟨⟨fun i o l hi hl => ?_, W.inj, W.dom⟩, Le.refl _, b4, b2, b1, b3, fun b hb _ => b5 b hb, fun i o l hi hl => .inr ⟨i, o, l, hi, hl, rfl⟩, Nat.le_refl _, fun _ _ => rfl⟩
  obtain ⟨o', h1, h2⟩ := W.has i o l hi hl
  exact ⟨o', (b5 _ (W.lt hi hl)).trans h1, h2⟩
/-- A block that was made since becomes known. -/
theorem WR.found {μ0 μ : Mu} {A0 A : AW} {w w' : World} (W : WR μ A w') (E : Ext μ0 A0 w μ A w') {g d sz k : Nat} {o : AObj} {o' : Obj} (hg : w.heap.size ≤ g) (hh : w'.heap[g]? = some o') (hne : ∀ i oi li, A.get i = some oi → μ i = some li → li.b ≠ g)
    (ho : OR (μ.add A.next ⟨g, d, sz, k⟩) ⟨g, d, sz, k⟩ o o') : WR (μ.add A.next ⟨g, d, sz, k⟩) (A.push o) w' ∧ Ext μ0 A0 w (μ.add A.next ⟨g, d, sz, k⟩) (A.push o) w' := by
  have hd := W.dom A.next (Nat.le_refl _)
  have hle : Le μ (μ.add A.next ⟨g, d, sz, k⟩) := Mu.add_le hd
  constructor
  · refine ⟨fun j oj l1 hj h1 => ?_, fun j m oj om lj lm hj hl h1 h2 h3 => ?_, fun i hi => ?_⟩
    · rw [AW.get_push] at hj
      split at hj
      · rename_i e; subst e; cases hj
        rw [Mu.add_get hd] at h1; cases h1
        exact ⟨o', hh, ho⟩
      · rename_i e
        rw [Mu.add_ne e] at h1
        obtain ⟨o1, h2, h3⟩ := W.has j oj l1 hj h1
        exact ⟨o1, h2, h3.mono hle⟩
    · rw [AW.get_push] at hj hl
      by_cases ej : j = A.next
      · by_cases el : m = A.next
        · rw [ej, el]
        · rw [if_neg el] at hl
          subst ej
          rw [Mu.add_get hd] at h1
          cases h1
          rw [Mu.add_ne el] at h2
          exact absurd h3.symm (hne m om lm hl h2)
      · rw [if_neg ej] at hj
        rw [Mu.add_ne ej] at h1
        by_cases el : m = A.next
        · subst el
          rw [Mu.add_get hd] at h2
          cases h2
          exact absurd h3 (hne j oj lj hj h1)
        · rw [if_neg el] at hl
          rw [Mu.add_ne el] at h2
          exact W.inj j m oj om lj lm hj hl h1 h2 h3
    · have : i ≠ A.next := by simp only [AW.push] at hi; omega
      rw [Mu.add_ne this]
      exact W.dom i (by simp only [AW.push] at hi; omega)
  · refine ⟨E.le.trans hle, E.size, E.tape, E.os, E.output, E.stay, fun j oj lj hj h1 => ?_, Nat.le_trans E.next (by simp [AW.push]), fun i hi => ?_⟩
    · rw [AW.get_push] at hj
      split at hj
      · rename_i e; subst e
        rw [Mu.add_get hd] at h1
        cases h1
        exact .inl hg
      · rename_i e
        rw [Mu.add_ne e] at h1
        exact E.img j oj lj hj h1
    · rw [Mu.add_ne (by have := E.next; omega)]
      exact E.keep i hi
/-- The memory knows the tables. -/
noncomputable def knows (l : List Tb) (A : AW) : Bool := l.all fun x => match A.get x.g with
  | some obj => objEq obj x.obj
  | none => false
theorem knows_tbs {l : List Tb} {μ : Mu} {A : AW} {w : World} (hl : tbOK l = true) (h : knows l A = true) (W : WR μ A w) : Tbs l w := fun x hx => by
  have h1 := List.all_eq_true.1 h x hx
  split at h1
  · rename_i obj hobj
    have ho := objEq_eq h1
    subst ho
    obtain ⟨hf, hg⟩ := tbOK_spec hl hx
    obtain ⟨o', h1, c', fr, rfl, h3, h4, h5, h6, h7, h8⟩ := W.has x.g _ _ hobj (μ.glob x.g _ hg)
    simp only at h1 h3 h7 h8
    have h9 := flatL_eq hf h7
    rw [List.drop_zero, List.take_of_length_le (by rw [Array.length_toList, h3]; exact Nat.le_refl _)] at h9
    simp only [FZ] at h8
    subst h8
    exact ⟨c', h1, h9⟩
  · cases h1
/-- A plain call: plain arguments, a plain answer, nothing old is written. -/
structure Pl where
  f : FuncId
  args : List Value
  v : Value
noncomputable def ovP (l : List Tb) (ps : List Pl) : OvT := fun f args A => match ps.find? fun p => Nat.beq f p.f && veqL args p.args with
  | some p => bif knows l A then some (p.v, A) else none
  | none => none
def PlOK (P : Program) (l : List Tb) (p : Pl) : Prop := flatL p.args = true ∧ flat p.v = true ∧ ∀ w, Tbs l w → Calls P p.f ⟨p.args⟩ w fun e w' => e = .returned p.v ∧ Below w.heap.size w w'
theorem ovP_ok {l : List Tb} {ps : List Pl} (hl : tbOK l = true) (hp : ∀ p, p ∈ ps → PlOK P l p) : OvOK P (ovP l ps) := by
  intro f args A v A' h μ w args' W hargs
  unfold ovP at h
  split at h
  · rename_i p hf
    have hm := List.mem_of_find?_eq_some hf
    have hq := List.find?_some hf
    simp only [Bool.and_eq_true] at hq
    have e1 := beqN hq.1
    have e2 := veqL_eq hq.2
    subst e1 e2
    cases hk : knows l A with
    | false => rw [hk] at h; cases h
    | true =>
      rw [hk] at h
      cases h
      obtain ⟨h1, h2, h3⟩ := hp p hm
      have e3 : args' = ⟨p.args⟩ := Array.toList_inj.1 (by rw [flatL_eq h1 hargs])
      subst e3
      refine (h3 w (knows_tbs hl hk W)).mono fun e w' ⟨he, hB⟩ => ?_
      subst he
      obtain ⟨W', E'⟩ := W.keeps hB
      exact ⟨μ, (show VR μ p.v p.v from flat_VR h2), W', E'⟩
  · cases h
end Ev
end Go.Proofs.Ytkjnaamlhkldmab
