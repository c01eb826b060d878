/- Regions that draw their order, whose beginning only reads what the middle leaves alone, and whose end may write what the beginning read. -/
import Derived.OrdersHeld
import Derived.StillTail
import Derived.Tactics
namespace Go.Proofs.YtkophiklkgefnaaDoor

section
variable {P : Program} {ops : Array Oper} {Q : Exit → Act → World → Prop} {md : Region.Mode} {S : World → Prop} {fin : Nat → Bool}

/-- Whatever order is picked from here on, and S holds behind every operation but the final ones. -/
def anyT (P : Program) (md : Region.Mode) (ops : Array Oper) (Q : Exit → Act → World → Prop) (S : World → Prop) (fin : Nat → Bool) : Nat → Array Bool → Act → World → Prop
  | 0, listed, a, w => Region.ready md ops listed = [] ∧ Q .normal a w
  | f + 1, listed, a, w => (Region.ready md ops listed = [] → Q .normal a w) ∧
      ∀ i ∈ Region.ready md ops listed, wpOp P ops Q i (fun a' w' => (fin i = false → S w') ∧ anyT P md ops Q S fin f (listed.setIfInBounds i true) a' w') a w
theorem anyT_any : ∀ (f : Nat) (listed : Array Bool) (a : Act) (w : World), anyT P md ops Q S fin f listed a w → wpAny P md ops Q f listed a w
  | 0, _, _, _, h => h
  | f + 1, _, _, _, h => ⟨h.1, fun i hi => wpOp_mono (fun a' w' h' => anyT_any f _ a' w' h'.2) (h.2 i hi)⟩

theorem anyT_first {i : Nat} {oi : Oper} {v : Value} (hi : ops[i]? = some oi) (hsel : ∀ (j : Nat) (o : Oper) cs b, ops[j]? = some o → o.op ≠ .select cs b)
    (hQ : ∀ c a w, Q (.panic c) (a.put oi.dst v) w → Q (.panic c) a w) (hfi : fin i = false) (hfin : ∀ j, fin j = true → Region.waitsFor md ops j i = true) :
    ∀ (f : Nat) (listed : Array Bool) (a : Act) (w : World),
      (∀ j oj, ops[j]? = some oj → j ≠ i → listed.getD j true = false → (∀ e ∈ oj.after, Region.binds md e = true → e.on ≠ i) → oi.apart ops oj = true) →
      i ∈ Region.ready md ops listed → YieldsIf P ops S oi v a → S w →
      anyT P md ops Q S fin f (listed.setIfInBounds i true) (a.put oi.dst v) w → anyT P md ops Q S fin (f + 1) listed a w := by
  intro f
  induction f with
  | zero =>
    intro listed a w _ hr hy hS H
    refine ⟨fun h => (by rw [h] at hr; cases hr), fun j hj => ?_⟩
    by_cases hji : j = i
    · subst hji; exact hy.wpOp hi hS ⟨fun _ => hS, H⟩
    · have h9 := ready_mono hj hji
      rw [H.1] at h9
      cases h9
  | succ f ih =>
    intro listed a w hfree hr hy hS H
    refine ⟨fun h => (by rw [h] at hr; cases hr), fun j hj => ?_⟩
    by_cases hji : j = i
    · subst hji; exact hy.wpOp hi hS ⟨fun _ => hS, H⟩
    · have h1 := H.2 j (ready_mono hj hji)
      obtain ⟨hjun, oj, hoj, hall⟩ := mem_ready.1 hj
      have hnot : ∀ e ∈ oj.after, Region.binds md e = true → e.on ≠ i := fun e he hb heq => by
        have h5 := hall e he hb
        have h0 := (mem_ready.1 hr).1
        rw [heq] at h5
        rcases Nat.lt_or_ge i listed.size with h' | h'
        · simp [h'] at h0 h5; rw [h0] at h5; cases h5
        · simp [Array.getElem?_eq_none h'] at h5
      have hfj : fin j = false := by
        cases hf : fin j with
        | false => rfl
        | true =>
          obtain ⟨ok, hok, e, he, hb, heq⟩ := Region.waitsFor_spec (hfin j hf)
          rw [hoj] at hok
          cases hok
          exact absurd heq (hnot e he hb)
      have h2 := wpOp_putIf hoj (hfree j oj hoj hji hjun hnot) (fun cs b => hsel i oi cs b hi) (fun cs b => hsel j oj cs b hoj) hQ hy h1
      have hfree' : ∀ k ok, ops[k]? = some ok → k ≠ i → (listed.setIfInBounds j true).getD k true = false →
          (∀ e ∈ ok.after, Region.binds md e = true → e.on ≠ i) → oi.apart ops ok = true := fun k ok hk hki hun hno => by
        refine hfree k ok hk hki ?_ hno
        by_cases hjk : j = k
        · subst hjk; exact hjun
        · rw [getD_set_ne true hjk] at hun; exact hun
      refine wpOp_mono (fun a' w' h3 => ⟨h3.2.1, ih (listed.setIfInBounds j true) a' w' hfree' (ready_mono hr (Ne.symm hji)) h3.1 (h3.2.1 hfj) ?_⟩) h2
      rw [Array.setIfInBounds_comm _ _ hji]
      exact h3.2.2

/-- The beginning, in the order of the text. -/
def wpHold (P : Program) (ops : Array Oper) (S : World → Prop) (L : Act → Prop) : List Oper → Act → Prop
  | [], a => L a
  | o :: r, a => ∃ v, YieldsIf P ops S o v a ∧ wpHold P ops S L r (a.put o.dst v)
/-- The end, in the order of the text. -/
def wpTail (P : Program) (ops : Array Oper) (Q : Exit → Act → World → Prop) (S : World → Prop) (fin : Nat → Bool) : Nat → List Oper → Act → World → Prop
  | _, [], a, w => Q .normal a w
  | k, o :: r, a, w => o.wp P a w (fun a' w' => (fin k = false → S w') ∧ wpTail P ops Q S fin (k + 1) r a' w') Q
theorem wpHold_step {L : Act → Prop} {o : Oper} {r : List Oper} {a : Act} (v : Value) (hg : o.guard = none) (h1 : ∀ w, S w → (execOp a.eval o).run P w = .ok (.value v) w) (h2 : wpHold P ops S L r (a.put o.dst v)) : wpHold P ops S L (o :: r) a :=
  ⟨v, .inl ⟨by simp [Region.wanted, hg], h1⟩, h2⟩
theorem wpTail_step {o : Oper} {r : List Oper} {a : Act} {w : World} {k : Nat} (h : ∀ K : Act → World → Prop, (∀ a w, (fin k = false → S w) → wpTail P ops Q S fin (k + 1) r a w → K a w) → o.wp P a w K Q) : wpTail P ops Q S fin k (o :: r) a w :=
  h _ fun _ _ h1 h2 => ⟨h1, h2⟩

theorem anyT_tail : ∀ (l : List Oper) (k : Nat) (listed : Array Bool) (a : Act) (w : World), (∀ j, l[j]? = ops[k + j]?) → (∀ o ∈ l, o.guard = none) →
    Region.seqB md ops l.length k listed = true → wpTail P ops Q S fin k l a w → anyT P md ops Q S fin l.length listed a w
  | [], _, _, _, _, _, _, hB, h => ⟨by simpa [Region.seqB] using hB, h⟩
  | o :: l, k, listed, a, w, hl, hg, hB, h => by
    have h0 : ops[k]? = some o := by simpa using (hl 0).symm
    simp only [List.length_cons, Region.seqB, Bool.and_eq_true, decide_eq_true_eq] at hB
    refine ⟨fun h1 => (by rw [hB.1] at h1; cases h1), fun i hi => ?_⟩
    rw [hB.1] at hi
    have hik : i = k := by simpa using hi
    subst hik
    have hw : wpOp P ops Q i (fun a' w' => (fin i = false → S w') ∧ wpTail P ops Q S fin (i + 1) l a' w') a w := by
      unfold wpOp
      simp only [h0]
      rw [if_pos (by simp [Region.wanted, hg o (by simp)])]
      exact .inl h
    exact wpOp_mono (fun a' w' h' => ⟨h'.1, anyT_tail l (i + 1) _ a' w' (fun j => by have h5 := hl (j + 1); simpa [Nat.add_assoc, Nat.add_comm 1 j] using h5) (fun o ho => hg o (by simp [ho])) hB.2 h'.2⟩) hw

def Region.finB (md : Region.Mode) (ops : Array Oper) (fin : Nat → Bool) (i : Nat) : Bool := !fin i && (List.range ops.size).all fun j => !fin j || Region.waitsFor md ops j i
def Region.holdB (md : Region.Mode) (ops : Array Oper) (fin : Nat → Bool) (g : Nat) : Nat → Nat → Array Bool → Bool
  | 0, k, listed => Region.seqB md ops g k listed
  | f + 1, k, listed => (Region.ready md ops listed).contains k && Region.free md ops listed k && Region.finB md ops fin k && Region.holdB md ops fin g f (k + 1) (listed.setIfInBounds k true)
theorem finB_spec {i : Nat} (hs : ∀ j, fin j = true → j < ops.size) (h : Region.finB md ops fin i = true) : fin i = false ∧ ∀ j, fin j = true → Region.waitsFor md ops j i = true := by
  simp only [Region.finB, Bool.and_eq_true, Bool.not_eq_true', List.all_eq_true, List.mem_range, Bool.or_eq_true] at h
  refine ⟨h.1, fun j hj => ?_⟩
  rcases h.2 j (hs j hj) with h5 | h5
  · rw [hj] at h5; cases h5
  · exact h5

theorem anyT_hold {w : World} {g : Nat} {L : Act → Prop} (hsel : Region.noSelect ops = true) (hs : ∀ j, fin j = true → j < ops.size) (hQ : ∀ c (a : Act) d v w, Q (.panic c) (a.put d v) w → Q (.panic c) a w) (hS : S w)
    (hL : ∀ (n : Nat) listed a, Region.seqB md ops g n listed = true → L a → n + g = ops.size → anyT P md ops Q S fin g listed a w) :
    ∀ (l : List Oper) (k : Nat) (listed : Array Bool) (a : Act), (∀ j, j < l.length → l[j]? = ops[k + j]?) → k + l.length + g = ops.size →
    Region.holdB md ops fin g l.length k listed = true → wpHold P ops S L l a → anyT P md ops Q S fin (l.length + g) listed a w
  | [], k, listed, a, _, hk, hB, h => by
    have e : ([] : List Oper).length + g = g := by simp
    rw [e]
    exact hL k listed a (by simpa [Region.holdB] using hB) h (by simpa using hk)
  | o :: l, k, listed, a, hl, hk, hB, h => by
    have h0 : ops[k]? = some o := by simpa using (hl 0 (by simp)).symm
    simp only [List.length_cons, Region.holdB, Bool.and_eq_true] at hB
    obtain ⟨⟨⟨hr, hf⟩, hfb⟩, hB'⟩ := hB
    obtain ⟨hf1, hf2⟩ := finB_spec hs hfb
    obtain ⟨v, hy, hK⟩ := h
    have e : (o :: l).length + g = (l.length + g) + 1 := by simp; omega
    rw [e]
    exact anyT_first h0 (Region.noSelect_spec hsel) (fun c a w => hQ c a _ _ w) hf1 hf2 (l.length + g) listed a w (Region.free_spec h0 hf) (by simpa using hr) hy hS
      (anyT_hold hsel hs hQ hS hL l (k + 1) _ _ (fun j hj => by have h5 := hl (j + 1) (by simp; omega); simpa [Nat.add_assoc, Nat.add_comm 1 j] using h5) (by simp at hk; omega) hB' hK)

/-- The law. -/
theorem wp_region_hold {id : Nat} {a : Act} {w : World} {l : List Oper} (n : Nat) (S : World → Prop) (fin : Nat → Bool) (hm : P.follows .mixedOrders = true) (hsel : Region.noSelect l.toArray = true) (hn : n ≤ l.length) (hs : ∀ j, fin j = true → j < l.length) (hg : (l.drop n).all (fun o => o.guard.isNone) = true)
    (hB : Region.holdB .any l.toArray fin (l.drop n).length n 0 (Array.replicate l.length false) = true) (hQ : ∀ c (a : Act) d v w, Q (.panic c) (a.put d v) w → Q (.panic c) a w) (hS : S w.drew)
    (h : wpHold P l.toArray S (fun a' => wpTail P l.toArray Q S fin n (l.drop n) a' w.drew) (l.take n) a) : (Code.region id l.toArray true).wp P Q a w := by
  have htl : (l.take n).length = n := by simp; omega
  have hdl : (l.drop n).length = l.length - n := by simp
  refine wp_region_any hm (anyT_any (S := S) (fin := fin) _ _ _ _ ?_)
  have H := anyT_hold (P := P) (ops := l.toArray) (Q := Q) (md := .any) (S := S) (fin := fin) (w := w.drew) (g := (l.drop n).length) hsel (by simpa using hs) hQ hS
    (fun n' listed a' hq hL hng => by
      have hnn : n' = n := by rw [hdl] at hng; simp at hng; omega
      subst hnn
      refine anyT_tail (l.drop n') n' listed a' w.drew (fun j => by simp [List.getElem?_drop]) (fun o ho => ?_) hq hL
      have := List.all_eq_true.1 hg o ho
      cases hgo : o.guard with
      | none => rfl
      | some x => rw [hgo] at this; cases this)
    (l.take n) 0 (Array.replicate l.length false) a (fun j hj => by
      have hj' : j < n := by rw [htl] at hj; exact hj
      simp [hj']) (by rw [htl, hdl]; simp; omega) (by rw [htl]; exact hB) h
  rw [htl, hdl, show n + (l.length - n) = l.length by omega] at H
  simpa using H
end
end Go.Proofs.YtkophiklkgefnaaDoor
