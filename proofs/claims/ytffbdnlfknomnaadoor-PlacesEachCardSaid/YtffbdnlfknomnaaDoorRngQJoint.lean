/- Regions that draw their order, gone through in an order of one's own, where a store may come ahead of a read that it does not touch: S holds as long as no final operation has run, T always. -/
import Derived.Test.YtffbdnlfknomnaaDoorMix
import Derived.OrdersIn
import Derived.RangeFuncCalls
import Derived.TacticsIn
import Derived.RangeFuncNested
import Derived.RangeFuncBound
import Derived.RangeFuncLeaves
import Derived.RangeFuncBox
namespace Go.Proofs.YtffbdnlfknomnaaDoor

section
variable {P : Program} {ops : Array Oper} {Q : Exit → Act → World → Prop} {md : Region.Mode} {S T : World → Prop} {fin : Nat → Bool}

def Clean (fin : Nat → Bool) (listed : Array Bool) : Prop := ∀ j, fin j = true → listed.getD j false = false
theorem Clean.of_set {listed : Array Bool} {i : Nat} (h : Clean fin (listed.setIfInBounds i true)) : Clean fin listed := fun j hj => by
  have h5 := h j hj
  by_cases e : i = j
  · subst e
    rcases Nat.lt_or_ge i listed.size with h' | h'
    · simp [h'] at h5
    · simp [Array.getElem?_eq_none h']
  · rw [getD_set_ne false e] at h5; exact h5
theorem Clean.set {listed : Array Bool} {i : Nat} (h : Clean fin listed) (hf : fin i = false) : Clean fin (listed.setIfInBounds i true) := fun j hj => by
  by_cases e : i = j
  · subst e; rw [hf] at hj; cases hj
  · rw [getD_set_ne false e]; exact h j hj
def anyU (P : Program) (md : Region.Mode) (ops : Array Oper) (Q : Exit → Act → World → Prop) (S T : World → Prop) (fin : Nat → Bool) : Nat → Array Bool → Act → World → Prop
  | 0, listed, a, w => Region.ready md ops listed = [] ∧ Q .normal a w
  | f + 1, listed, a, w => (Region.ready md ops listed = [] → Q .normal a w) ∧
      ∀ i ∈ Region.ready md ops listed, wpOp P ops Q i (fun a' w' => ((Clean fin (listed.setIfInBounds i true) → S w') ∧ T w') ∧ anyU P md ops Q S T fin f (listed.setIfInBounds i true) a' w') a w
theorem anyU_any : ∀ (f : Nat) (listed : Array Bool) (a : Act) (w : World), anyU P md ops Q S T fin f listed a w → wpAny P md ops Q f listed a w
  | 0, _, _, _, h => h
  | f + 1, _, _, _, h => ⟨h.1, fun i hi => wpOp_mono (fun a' w' h' => anyU_any f _ a' w' h'.2) (h.2 i hi)⟩

/-- An operation that yields the same wherever R holds; R follows from what stands at every list at which it may still come up. -/
theorem anyU_first {R : World → Prop} {i : Nat} {oi : Oper} {v : Value} (C : Array Bool → Prop) (hi : ops[i]? = some oi) (hfi : fin i = false) (hsel : ∀ (j : Nat) (o : Oper) cs b, ops[j]? = some o → o.op ≠ .select cs b)
    (hQ : ∀ c a w, Q (.panic c) (a.put oi.dst v) w → Q (.panic c) a w) (hC : ∀ listed j oj, C listed → ops[j]? = some oj → (∀ e ∈ oj.after, Region.binds md e = true → e.on ≠ i) → C (listed.setIfInBounds j true))
    (hR : ∀ listed w, C listed → (Clean fin listed → S w) → T w → R w) :
    ∀ (f : Nat) (listed : Array Bool) (a : Act) (w : World), C listed →
      (∀ j oj, ops[j]? = some oj → j ≠ i → listed.getD j true = false → (∀ e ∈ oj.after, Region.binds md e = true → e.on ≠ i) → oi.apart ops oj = true) →
      i ∈ Region.ready md ops listed → YieldsIf P ops R oi v a → (Clean fin listed → S w) → T w →
      anyU P md ops Q S T fin f (listed.setIfInBounds i true) (a.put oi.dst v) w → anyU P md ops Q S T fin (f + 1) listed a w := by
  intro f
  induction f with
  | zero =>
    intro listed a w hc _ hr hy hS hT H
    refine ⟨fun h => (by rw [h] at hr; cases hr), fun j hj => ?_⟩
    by_cases hji : j = i
    · subst hji; exact hy.wpOp hi (hR _ _ hc hS hT) ⟨⟨fun h => hS h.of_set, hT⟩, H⟩
    · have h9 := ready_mono hj hji
      rw [H.1] at h9
      cases h9
  | succ f ih =>
    intro listed a w hc hfree hr hy hS hT H
    refine ⟨fun h => (by rw [h] at hr; cases hr), fun j hj => ?_⟩
    by_cases hji : j = i
    · subst hji; exact hy.wpOp hi (hR _ _ hc hS hT) ⟨⟨fun h => hS h.of_set, hT⟩, H⟩
    · have h1 := H.2 j (ready_mono hj hji)
      obtain ⟨hjun, oj, hoj, hall⟩ := mem_ready.1 hj
      have hnot : ∀ e ∈ oj.after, Region.binds md e = true → e.on ≠ i := fun e he hb heq => by
        have h5 := hall e he hb
        have h0 := (mem_ready.1 hr).1
        rw [heq] at h5
        rcases Nat.lt_or_ge i listed.size with h' | h'
        · simp [h'] at h0 h5; rw [h0] at h5; cases h5
        · simp [Array.getElem?_eq_none h'] at h5
      have h2 := wpOp_putIf hoj (hfree j oj hoj hji hjun hnot) (fun cs b => hsel i oi cs b hi) (fun cs b => hsel j oj cs b hoj) hQ hy h1
      have hfree' : ∀ k ok, ops[k]? = some ok → k ≠ i → (listed.setIfInBounds j true).getD k true = false →
          (∀ e ∈ ok.after, Region.binds md e = true → e.on ≠ i) → oi.apart ops ok = true := fun k ok hk hki hun hno => by
        refine hfree k ok hk hki ?_ hno
        by_cases hjk : j = k
        · subst hjk; exact hjun
        · rw [getD_set_ne true hjk] at hun; exact hun
      refine wpOp_mono (fun a' w' h3 => ?_) h2
      have hcl : Clean fin (listed.setIfInBounds j true) → S w' := fun h => h3.2.1.1 (by rw [Array.setIfInBounds_comm _ _ (Ne.symm hji)]; exact h.set hfi)
      refine ⟨⟨hcl, h3.2.1.2⟩, ih (listed.setIfInBounds j true) a' w' (hC _ _ _ hc hoj hnot) hfree' (ready_mono hr (Ne.symm hji)) h3.1 hcl h3.2.1.2 ?_⟩
      rw [Array.setIfInBounds_comm _ _ hji]
      exact h3.2.2

def Region.mixC (md : Region.Mode) (ops : Array Oper) (fin : Nat → Bool) : Bool → List (Nat × Nat) → Array Bool → Bool
  | _, [], listed => Region.ready md ops listed == []
  | d, (k, 0) :: r, listed => !d && (Region.ready md ops listed).contains k && Region.free md ops listed k && Region.finB md ops fin k && Region.mixC md ops fin d r (listed.setIfInBounds k true)
  | d, (k, 1) :: r, listed => (Region.ready md ops listed).contains k && Region.free md ops listed k && !fin k && Region.mixC md ops fin d r (listed.setIfInBounds k true)
  | d, (k, _ + 2) :: r, listed => (Region.ready md ops listed == [k]) && Region.mixC md ops fin (d || fin k) r (listed.setIfInBounds k true)
def wpMixC (P : Program) (ops : Array Oper) (Q : Exit → Act → World → Prop) (S T : World → Prop) (fin : Nat → Bool) : Bool → List (Nat × Nat) → Act → World → Prop
  | _, [], a, w => Q .normal a w
  | d, (k, 0) :: r, a, w => ∃ o v, ops[k]? = some o ∧ YieldsIf P ops S o v a ∧ wpMixC P ops Q S T fin d r (a.put o.dst v) w
  | d, (k, 1) :: r, a, w => ∃ o v, ops[k]? = some o ∧ YieldsIf P ops T o v a ∧ wpMixC P ops Q S T fin d r (a.put o.dst v) w
  | d, (k, _ + 2) :: r, a, w => ∃ o, ops[k]? = some o ∧ if Region.wanted o (yielded ops a.tmps) = true then o.wp P a w (fun a' w' => (((d || fin k) = false → S w') ∧ T w') ∧ wpMixC P ops Q S T fin (d || fin k) r a' w') Q else (((d || fin k) = false → S w) ∧ T w) ∧ wpMixC P ops Q S T fin (d || fin k) r (a.put o.dst undef) w
theorem anyU_mix (hsel : Region.noSelect ops = true) (hs : ∀ j, fin j = true → j < ops.size) (hQ : ∀ c (a : Act) d v w, Q (.panic c) (a.put d v) w → Q (.panic c) a w) :
    ∀ (l : List (Nat × Nat)) (d : Bool) (listed : Array Bool) (a : Act) (w : World), Region.mixC md ops fin d l listed = true → (d = false ↔ Clean fin listed) → (Clean fin listed → S w) → T w → wpMixC P ops Q S T fin d l a w → anyU P md ops Q S T fin l.length listed a w
  | [], d, listed, a, w, hB, _, _, _, h => ⟨by simpa [Region.mixC] using hB, h⟩
  | (k, 0) :: r, d, listed, a, w, hB, hd, hS, hT, h => by
    simp only [Region.mixC, Bool.and_eq_true, Bool.not_eq_true'] at hB
    obtain ⟨⟨⟨⟨hd0, hr⟩, hf⟩, hfb⟩, hB'⟩ := hB
    obtain ⟨hf1, hf2⟩ := finB_spec hs hfb
    obtain ⟨o, v, h0, hy, hK⟩ := h
    have hcl := hd.1 hd0
    refine anyU_first (R := S) (Clean fin) h0 hf1 (Region.noSelect_spec hsel) (fun c a w => hQ c a _ _ w) (fun ls j oj hc hoj hno => hc.set ?_) (fun _ w hc hS _ => hS hc) r.length listed a w hcl (Region.free_spec h0 hf) (by simpa using hr) hy hS hT
      (anyU_mix hsel hs hQ r d _ _ w hB' ⟨fun _ => hcl.set hf1, fun _ => hd0⟩ (fun h => hS h.of_set) hT hK)
    cases hfj : fin j with
    | false => rfl
    | true =>
      obtain ⟨ok, hok, e, he, hb, heq⟩ := Region.waitsFor_spec (hf2 j hfj)
      rw [hoj] at hok
      cases hok
      exact absurd heq (hno e he hb)
  | (k, 1) :: r, d, listed, a, w, hB, hd, hS, hT, h => by
    simp only [Region.mixC, Bool.and_eq_true, Bool.not_eq_true'] at hB
    obtain ⟨⟨⟨hr, hf⟩, hf1⟩, hB'⟩ := hB
    obtain ⟨o, v, h0, hy, hK⟩ := h
    exact anyU_first (R := T) (fun _ => True) h0 hf1 (Region.noSelect_spec hsel) (fun c a w => hQ c a _ _ w) (fun _ _ _ _ _ _ => trivial) (fun _ _ _ _ hT => hT) r.length listed a w trivial (Region.free_spec h0 hf) (by simpa using hr) hy hS hT
      (anyU_mix hsel hs hQ r d _ _ w hB' ⟨fun h => (hd.1 h).set hf1, fun h => hd.2 h.of_set⟩ (fun h => hS h.of_set) hT hK)
  | (k, m + 2) :: r, d, listed, a, w, hB, hd, hS, hT, h => by
    simp only [Region.mixC, Bool.and_eq_true, beq_iff_eq] at hB
    obtain ⟨hr, hB'⟩ := hB
    obtain ⟨o, h0, h⟩ := h
    refine ⟨fun h1 => (by rw [hr] at h1; cases h1), fun i hi => ?_⟩
    have hkr := hi
    rw [hr] at hi
    have hik : i = k := by simpa using hi
    subst hik
    have hlt : i < listed.size := by
      have h5 := (mem_ready.1 hkr).1
      rcases Nat.lt_or_ge i listed.size with h' | h'
      · exact h'
      · simp [Array.getElem?_eq_none h'] at h5
    have hdc : (d || fin i) = false ↔ Clean fin (listed.setIfInBounds i true) := by
      constructor
      · intro h5
        rw [Bool.or_eq_false_iff] at h5
        exact (hd.1 h5.1).set h5.2
      · intro h5
        rw [Bool.or_eq_false_iff]
        refine ⟨hd.2 h5.of_set, ?_⟩
        cases hfi : fin i with
        | false => rfl
        | true =>
          have h6 := h5 i hfi
          simp [hlt] at h6
    have hw : wpOp P ops Q i (fun a' w' => (((d || fin i) = false → S w') ∧ T w') ∧ wpMixC P ops Q S T fin (d || fin i) r a' w') a w := by
      unfold wpOp
      simp only [h0]
      split
      · rename_i hc
        rw [if_pos hc] at h
        exact .inl h
      · rename_i hc
        rw [if_neg hc] at h
        exact h
    exact wpOp_mono (fun a' w' h' => ⟨⟨fun h5 => h'.1.1 (hdc.2 h5), h'.1.2⟩, anyU_mix hsel hs hQ r _ _ a' w' hB' hdc (fun h5 => h'.1.1 (hdc.2 h5)) h'.1.2 h'.2⟩) hw
/-- The law. -/
theorem wp_region_mixC {id : Nat} {a : Act} {w : World} {l : List Oper} (ord : List (Nat × Nat)) (S T : World → Prop) (fin : Nat → Bool) (hm : P.follows .mixedOrders = true) (hsel : Region.noSelect l.toArray = true) (hs : ∀ j, fin j = true → j < l.length)
    (hlen : ord.length = l.length) (hB : Region.mixC .any l.toArray fin false ord (Array.replicate l.length false) = true) (hS : S w.drew) (hT : T w.drew)
    (h : wpMixC P l.toArray (NoPanic Q) S T fin false ord a w.drew) : (Code.region id l.toArray true).wp P Q a w := by
  refine wp_region_noPanic (wp_region_any hm (anyU_any (S := S) (T := T) (fin := fin) _ _ _ _ ?_))
  have H := anyU_mix (P := P) (ops := l.toArray) (Q := NoPanic Q) (md := .any) (S := S) (T := T) (fin := fin) hsel (by simpa using hs) (fun _ _ _ _ _ h => h) ord false (Array.replicate l.length false) a w.drew hB
    ⟨fun _ j hj => (by have h5 := hs j hj; simp [h5]), fun _ => rfl⟩ (fun _ => hS) hT h
  rw [hlen] at H
  simpa using H
theorem mixC_s {d : Bool} {o : Oper} {k : Nat} {r : List (Nat × Nat)} {a : Act} {w : World} (v : Value) (h0 : ops[k]? = some o) (hw : Region.wanted o (yielded ops a.tmps) = true) (h1 : ∀ w, S w → (execOp a.eval o).run P w = .ok (.value v) w) (h2 : wpMixC P ops Q S T fin d r (a.put o.dst v) w) : wpMixC P ops Q S T fin d ((k, 0) :: r) a w :=
  ⟨o, v, h0, .inl ⟨hw, h1⟩, h2⟩
theorem mixC_t {d : Bool} {o : Oper} {k : Nat} {r : List (Nat × Nat)} {a : Act} {w : World} (v : Value) (h0 : ops[k]? = some o) (hw : Region.wanted o (yielded ops a.tmps) = true) (h1 : ∀ w, T w → (execOp a.eval o).run P w = .ok (.value v) w) (h2 : wpMixC P ops Q S T fin d r (a.put o.dst v) w) : wpMixC P ops Q S T fin d ((k, 1) :: r) a w :=
  ⟨o, v, h0, .inl ⟨hw, h1⟩, h2⟩
theorem mixC_go {d : Bool} {o : Oper} {k : Nat} {r : List (Nat × Nat)} {a : Act} {w : World} (h0 : ops[k]? = some o) (hw : Region.wanted o (yielded ops a.tmps) = true) (h : ∀ K : Act → World → Prop, (∀ a w, ((d || fin k) = false → S w) → T w → wpMixC P ops Q S T fin (d || fin k) r a w → K a w) → o.wp P a w K Q) : wpMixC P ops Q S T fin d ((k, 2) :: r) a w := by
  refine ⟨o, h0, ?_⟩
  rw [if_pos hw]
  exact h _ fun _ _ h1 h2 h3 => ⟨⟨h1, h2⟩, h3⟩
theorem mixC_end {d : Bool} {a : Act} {w : World} (h : Q .normal a w) : wpMixC P ops Q S T fin d [] a w := h
end
end Go.Proofs.YtffbdnlfknomnaaDoor
/- A region that draws, gone through by hand also where two operations may come first. -/
namespace Go.Proofs.YtffbdnlfknomnaaDoor

/-- The orders that are gone through: one operation next (mode 0: S holds, 1: T holds, 2: by hand), or either of two by hand. -/
inductive Ot where
  | nil : Ot
  | one : Nat → Nat → Ot → Ot
  | two : Nat → Nat → Ot → Ot → Ot
def Ot.len : Ot → Nat
  | .nil => 0
  | .one _ _ r => r.len + 1
  | .two _ _ r _ => r.len + 1
section
variable {P : Program} {md : Region.Mode} {ops : Array Oper} {Q : Exit → Act → World → Prop} {S T : World → Prop} {fin : Nat → Bool}
def Region.mixT (md : Region.Mode) (ops : Array Oper) (fin : Nat → Bool) : Bool → Ot → Array Bool → Bool
  | _, .nil, listed => Region.ready md ops listed == []
  | d, .one k 0 r, listed => !d && (Region.ready md ops listed).contains k && Region.free md ops listed k && Region.finB md ops fin k && Region.mixT md ops fin d r (listed.setIfInBounds k true)
  | d, .one k 1 r, listed => (Region.ready md ops listed).contains k && Region.free md ops listed k && !fin k && Region.mixT md ops fin d r (listed.setIfInBounds k true)
  | d, .one k (_ + 2) r, listed => (Region.ready md ops listed == [k]) && Region.mixT md ops fin (d || fin k) r (listed.setIfInBounds k true)
  | d, .two i j r s, listed => (Region.ready md ops listed == [i, j]) && (r.len == s.len) && Region.mixT md ops fin (d || fin i) r (listed.setIfInBounds i true) && Region.mixT md ops fin (d || fin j) s (listed.setIfInBounds j true)
/-- One operation, by hand. -/
def wpHand (P : Program) (ops : Array Oper) (Q : Exit → Act → World → Prop) (S T : World → Prop) (fin : Nat → Bool) (d : Bool) (k : Nat) (K : Act → World → Prop) (a : Act) (w : World) : Prop :=
  ∃ o, ops[k]? = some o ∧ if Region.wanted o (yielded ops a.tmps) = true then o.wp P a w (fun a' w' => (((d || fin k) = false → S w') ∧ T w') ∧ K a' w') Q else (((d || fin k) = false → S w) ∧ T w) ∧ K (a.put o.dst undef) w
def wpMixT (P : Program) (ops : Array Oper) (Q : Exit → Act → World → Prop) (S T : World → Prop) (fin : Nat → Bool) : Bool → Ot → Act → World → Prop
  | _, .nil, a, w => Q .normal a w
  | d, .one k 0 r, a, w => ∃ o v, ops[k]? = some o ∧ YieldsIf P ops S o v a ∧ wpMixT P ops Q S T fin d r (a.put o.dst v) w
  | d, .one k 1 r, a, w => ∃ o v, ops[k]? = some o ∧ YieldsIf P ops T o v a ∧ wpMixT P ops Q S T fin d r (a.put o.dst v) w
  | d, .one k (_ + 2) r, a, w => wpHand P ops Q S T fin d k (wpMixT P ops Q S T fin (d || fin k) r) a w
  | d, .two i j r s, a, w => wpHand P ops Q S T fin d i (wpMixT P ops Q S T fin (d || fin i) r) a w ∧ wpHand P ops Q S T fin d j (wpMixT P ops Q S T fin (d || fin j) s) a w
theorem hand_any {d : Bool} {listed : Array Bool} {i f : Nat} {K : Act → World → Prop} {a : Act} {w : World} (hkr : i ∈ Region.ready md ops listed) (hd : d = false ↔ Clean fin listed) (h : wpHand P ops Q S T fin d i K a w)
    (nx : ((d || fin i) = false ↔ Clean fin (listed.setIfInBounds i true)) → ∀ a' w', (Clean fin (listed.setIfInBounds i true) → S w') → T w' → K a' w' → anyU P md ops Q S T fin f (listed.setIfInBounds i true) a' w') :
    wpOp P ops Q i (fun a' w' => ((Clean fin (listed.setIfInBounds i true) → S w') ∧ T w') ∧ anyU P md ops Q S T fin f (listed.setIfInBounds i true) a' w') a w := by
  obtain ⟨o, h0, h⟩ := h
  have hlt : i < listed.size := by
    have h5 := (mem_ready.1 hkr).1
    rcases Nat.lt_or_ge i listed.size with h' | h'
    · exact h'
    · simp [Array.getElem?_eq_none h'] at h5
  have hdc : (d || fin i) = false ↔ Clean fin (listed.setIfInBounds i true) := by
    constructor
    · intro h5
      rw [Bool.or_eq_false_iff] at h5
      exact (hd.1 h5.1).set h5.2
    · intro h5
      rw [Bool.or_eq_false_iff]
      refine ⟨hd.2 h5.of_set, ?_⟩
      cases hfi : fin i with
      | false => rfl
      | true =>
        have h6 := h5 i hfi
        simp [hlt] at h6
  have hw : wpOp P ops Q i (fun a' w' => (((d || fin i) = false → S w') ∧ T w') ∧ K a' w') a w := by
    unfold wpOp
    simp only [h0]
    split
    · rename_i hc
      rw [if_pos hc] at h
      exact .inl h
    · rename_i hc
      rw [if_neg hc] at h
      exact h
  exact wpOp_mono (fun a' w' h' => ⟨⟨fun h5 => h'.1.1 (hdc.2 h5), h'.1.2⟩, nx hdc a' w' (fun h5 => h'.1.1 (hdc.2 h5)) h'.1.2 h'.2⟩) hw
theorem anyU_tree (hsel : Region.noSelect ops = true) (hs : ∀ j, fin j = true → j < ops.size) (hQ : ∀ c (a : Act) d v w, Q (.panic c) (a.put d v) w → Q (.panic c) a w) :
    ∀ (l : Ot) (d : Bool) (listed : Array Bool) (a : Act) (w : World), Region.mixT md ops fin d l listed = true → (d = false ↔ Clean fin listed) → (Clean fin listed → S w) → T w → wpMixT P ops Q S T fin d l a w → anyU P md ops Q S T fin l.len listed a w
  | .nil, d, listed, a, w, hB, _, _, _, h => ⟨by simpa [Region.mixT] using hB, h⟩
  | .one k 0 r, d, listed, a, w, hB, hd, hS, hT, h => by
    simp only [Region.mixT, Bool.and_eq_true, Bool.not_eq_true'] at hB
    obtain ⟨⟨⟨⟨hd0, hr⟩, hf⟩, hfb⟩, hB'⟩ := hB
    obtain ⟨hf1, hf2⟩ := finB_spec hs hfb
    obtain ⟨o, v, h0, hy, hK⟩ := h
    have hcl := hd.1 hd0
    refine anyU_first (R := S) (Clean fin) h0 hf1 (Region.noSelect_spec hsel) (fun c a w => hQ c a _ _ w) (fun ls j oj hc hoj hno => hc.set ?_) (fun _ w hc hS _ => hS hc) r.len listed a w hcl (Region.free_spec h0 hf) (by simpa using hr) hy hS hT
      (anyU_tree hsel hs hQ r d _ _ w hB' ⟨fun _ => hcl.set hf1, fun _ => hd0⟩ (fun h => hS h.of_set) hT hK)
    cases hfj : fin j with
    | false => rfl
    | true =>
      obtain ⟨ok, hok, e, he, hb, heq⟩ := Region.waitsFor_spec (hf2 j hfj)
      rw [hoj] at hok
      cases hok
      exact absurd heq (hno e he hb)
  | .one k 1 r, d, listed, a, w, hB, hd, hS, hT, h => by
    simp only [Region.mixT, Bool.and_eq_true, Bool.not_eq_true'] at hB
    obtain ⟨⟨⟨hr, hf⟩, hf1⟩, hB'⟩ := hB
    obtain ⟨o, v, h0, hy, hK⟩ := h
    exact anyU_first (R := T) (fun _ => True) h0 hf1 (Region.noSelect_spec hsel) (fun c a w => hQ c a _ _ w) (fun _ _ _ _ _ _ => trivial) (fun _ _ _ _ hT => hT) r.len listed a w trivial (Region.free_spec h0 hf) (by simpa using hr) hy hS hT
      (anyU_tree hsel hs hQ r d _ _ w hB' ⟨fun h => (hd.1 h).set hf1, fun h => hd.2 h.of_set⟩ (fun h => hS h.of_set) hT hK)
  | .one k (m + 2) r, d, listed, a, w, hB, hd, hS, hT, h => by
    simp only [Region.mixT, Bool.and_eq_true, beq_iff_eq] at hB
    obtain ⟨hr, hB'⟩ := hB
    refine ⟨fun h1 => (by rw [hr] at h1; cases h1), fun i hi => ?_⟩
    have hik : i = k := by rw [hr] at hi; simpa using hi
    subst hik
    exact hand_any hi hd h (fun hdc a' w' h1 h2 h3 => anyU_tree hsel hs hQ r _ _ a' w' hB' hdc h1 h2 h3)
  | .two i j r s, d, listed, a, w, hB, hd, hS, hT, h => by
    simp only [Region.mixT, Bool.and_eq_true, beq_iff_eq] at hB
    obtain ⟨⟨⟨hr, hl⟩, hB1⟩, hB2⟩ := hB
    obtain ⟨g1, g2⟩ := h
    refine ⟨fun h1 => (by rw [hr] at h1; cases h1), fun k hk => ?_⟩
    have hkk : k = i ∨ k = j := by rw [hr] at hk; simpa using hk
    rcases hkk with e | e
    · subst e
      exact hand_any hk hd g1 (fun hdc a' w' h1 h2 h3 => anyU_tree hsel hs hQ r _ _ a' w' hB1 hdc h1 h2 h3)
    · subst e
      refine hand_any hk hd g2 (fun hdc a' w' h1 h2 h3 => ?_)
      have h5 := anyU_tree hsel hs hQ s _ _ a' w' hB2 hdc h1 h2 h3
      rw [← hl] at h5
      exact h5
/-- The law. -/
theorem wp_region_mixT {id : Nat} {a : Act} {w : World} {l : List Oper} (ord : Ot) (S T : World → Prop) (fin : Nat → Bool) (hm : P.follows .mixedOrders = true) (hsel : Region.noSelect l.toArray = true) (hs : ∀ j, fin j = true → j < l.length)
    (hlen : ord.len = l.length) (hB : Region.mixT .any l.toArray fin false ord (Array.replicate l.length false) = true) (hS : S w.drew) (hT : T w.drew)
    (h : wpMixT P l.toArray (NoPanic Q) S T fin false ord a w.drew) : (Code.region id l.toArray true).wp P Q a w := by
  refine wp_region_noPanic (wp_region_any hm (anyU_any (S := S) (T := T) (fin := fin) _ _ _ _ ?_))
  have H := anyU_tree (P := P) (ops := l.toArray) (Q := NoPanic Q) (md := .any) (S := S) (T := T) (fin := fin) hsel (by simpa using hs) (fun _ _ _ _ _ h => h) ord false (Array.replicate l.length false) a w.drew hB
    ⟨fun _ j hj => (by have h5 := hs j hj; simp [h5]), fun _ => rfl⟩ (fun _ => hS) hT h
  rw [hlen] at H
  simpa using H
theorem mixT_s {d : Bool} {o : Oper} {k : Nat} {r : Ot} {a : Act} {w : World} (v : Value) (h0 : ops[k]? = some o) (hw : Region.wanted o (yielded ops a.tmps) = true) (h1 : ∀ w, S w → (execOp a.eval o).run P w = .ok (.value v) w) (h2 : wpMixT P ops Q S T fin d r (a.put o.dst v) w) : wpMixT P ops Q S T fin d (.one k 0 r) a w :=
  ⟨o, v, h0, .inl ⟨hw, h1⟩, h2⟩
theorem mixT_t {d : Bool} {o : Oper} {k : Nat} {r : Ot} {a : Act} {w : World} (v : Value) (h0 : ops[k]? = some o) (hw : Region.wanted o (yielded ops a.tmps) = true) (h1 : ∀ w, T w → (execOp a.eval o).run P w = .ok (.value v) w) (h2 : wpMixT P ops Q S T fin d r (a.put o.dst v) w) : wpMixT P ops Q S T fin d (.one k 1 r) a w :=
  ⟨o, v, h0, .inl ⟨hw, h1⟩, h2⟩
theorem hand_go {d : Bool} {o : Oper} {k : Nat} {K : Act → World → Prop} {a : Act} {w : World} (h0 : ops[k]? = some o) (hw : Region.wanted o (yielded ops a.tmps) = true) (h : ∀ K' : Act → World → Prop, (∀ a w, ((d || fin k) = false → S w) → T w → K a w → K' a w) → o.wp P a w K' Q) : wpHand P ops Q S T fin d k K a w := by
  refine ⟨o, h0, ?_⟩
  rw [if_pos hw]
  exact h _ fun _ _ h1 h2 h3 => ⟨⟨h1, h2⟩, h3⟩
theorem mixT_go {d : Bool} {o : Oper} {k : Nat} {r : Ot} {a : Act} {w : World} (h0 : ops[k]? = some o) (hw : Region.wanted o (yielded ops a.tmps) = true) (h : ∀ K : Act → World → Prop, (∀ a w, ((d || fin k) = false → S w) → T w → wpMixT P ops Q S T fin (d || fin k) r a w → K a w) → o.wp P a w K Q) : wpMixT P ops Q S T fin d (.one k 2 r) a w :=
  hand_go h0 hw h
theorem mixT_two {d : Bool} {i j : Nat} {r s : Ot} {a : Act} {w : World} (h1 : wpHand P ops Q S T fin d i (wpMixT P ops Q S T fin (d || fin i) r) a w) (h2 : wpHand P ops Q S T fin d j (wpMixT P ops Q S T fin (d || fin j) s) a w) : wpMixT P ops Q S T fin d (.two i j r s) a w := ⟨h1, h2⟩
theorem mixT_end {d : Bool} {a : Act} {w : World} (h : Q .normal a w) : wpMixT P ops Q S T fin d .nil a w := h
end
end Go.Proofs.YtffbdnlfknomnaaDoor
/- A region that draws its order, within a round of a range over a function, gone through in an order of one's own. -/
namespace Go.Proofs.YtffbdnlfknomnaaDoor

/-- Q at a normal end alone. -/
def OnlyN (Q : Exit → Act → World → Prop) : Exit → Act → World → Prop
  | .normal, a, w => Q .normal a w
  | _, _, _ => False
theorem OnlyN.imp {Q : Exit → Act → World → Prop} : ∀ (e : Exit) (a : Act) (w : World), OnlyN Q e a w → Q e a w := fun e a w h => by
  cases e <;> first | exact h | exact (h : False).elim
theorem OnlyN.in {Q : Exit → Act → World → Prop} {a : Act} {w : World} (h : Q .normal a w) : OnlyN Q .normal a w := h

section
variable {P : Program} {ops : Array Oper} {Q : Exit → Act → World → Prop} {md : Region.Mode}
theorem operIn_of {o : Oper} {a : Act} {w : World} {K : Act → World → Prop} (l n : Nat) (hnd : ∀ c, o.op ≠ .defer c) (h : o.wp P a w K Q) : o.wpIn (Fence.wide.inRound l) n P a w K Q := by
  unfold Oper.wpIn
  refine ⟨fun _ _ => trivial, ?_⟩
  rw [Oper.semAt_eq _ _ _ hnd]
  unfold Oper.wp at h
  generalize (execOp a.eval o).run P w = r at *
  cases r with
  | ok x w' =>
    cases x <;> simp only [Oper.uponIn, Oper.upon] at h ⊢
    case value => exact h
    case skip => exact h
    case defer => exact h
    case enter => exact ⟨fun hd => by simp [Fence.wide] at hd, CallsIn.inRound l (callsIn_wide.2 h)⟩
    case row => exact ⟨fun hd => by simp [Fence.wide] at hd, fun c cs _ => let ⟨v, w', r, s⟩ := h c cs; ⟨v, w', r, stepsIn_wide.2 s⟩⟩
  | halt x w' => cases x <;> simp only [Oper.uponIn, Oper.upon] at h ⊢ <;> exact h
theorem wpAnyIn_of (l n : Nat) (hnd : ∀ (j : Nat) (o : Oper), ops[j]? = some o → ∀ c, o.op ≠ .defer c) (hQ : ¬ LetsOut Q) : ∀ (f : Nat) (listed : Array Bool) (a : Act) (w : World), wpAny P md ops Q f listed a w → wpAnyIn (Fence.wide.inRound l) n P md ops Q f listed a w
  | 0, _, _, _, h => h
  | f + 1, listed, a, w, h => by
    refine ⟨h.1, fun i hi => ?_⟩
    have h1 := h.2 i hi
    unfold wpOp at h1
    unfold wpOpIn
    cases ho : ops[i]? with
    | none =>
      simp only [ho] at h1 ⊢
      exact wpAnyIn_of l n hnd hQ f _ _ _ h1
    | some o =>
      simp only [ho] at h1 ⊢
      split
      · rename_i hw
        simp only [hw, if_true] at h1
        rcases h1 with h1 | h1
        · exact operIn_of l n (hnd i o ho) (Oper.wp_mono (fun a' w' h' => wpAnyIn_of l n hnd hQ f _ a' w' h') h1)
        · exact absurd h1.2 hQ
      · rename_i hw
        simp only [hw] at h1
        exact ⟨fun _ _ => trivial, wpAnyIn_of l n hnd hQ f _ _ _ h1⟩
theorem wpIn_region_mix {id : Nat} {a : Act} {w : World} {l : List Oper} (lp m : Nat) (ord : List (Nat × Bool)) (S : World → Prop) (fin : Nat → Bool) (hm : P.follows .mixedOrders = true) (hsel : Region.noSelect l.toArray = true) (hnd : l.all (fun o => match o.op with | .defer _ => false | _ => true) = true) (hs : ∀ j, fin j = true → j < l.length)
    (hlen : ord.length = l.length) (hB : Region.mixB .any l.toArray fin ord (Array.replicate l.length false) = true) (hS : S w.drew)
    (h : wpMix P l.toArray (OnlyN Q) S fin ord a w.drew) : (Code.region id l.toArray true).wpIn (Fence.wide.inRound lp) m P Q a w := by
  refine Code.wpIn_mono OnlyN.imp ?_
  refine wpIn_region_any hm (wpAnyIn_of lp m (fun j o ho c hc => ?_) (fun ⟨_, _, hq⟩ => hq) _ _ _ _ (anyT_any (S := S) (fin := fin) _ _ _ _ ?_))
  · have h5 := List.all_eq_true.1 hnd o (List.mem_of_getElem? (i := j) (by simpa using ho))
    rw [hc] at h5
    cases h5
  · have H := anyT_mix (P := P) (ops := l.toArray) (Q := OnlyN Q) (md := .any) (S := S) (fin := fin) hsel (by simpa using hs) (fun _ _ _ _ _ h => h) ord (Array.replicate l.length false) a w.drew hB (fun _ => hS) h
    rw [hlen] at H
    simpa using H
/-- The same with a tree of orders. -/
theorem wpIn_region_mixT {id : Nat} {a : Act} {w : World} {l : List Oper} (lp m : Nat) (ord : Ot) (S T : World → Prop) (fin : Nat → Bool) (hm : P.follows .mixedOrders = true) (hsel : Region.noSelect l.toArray = true) (hnd : l.all (fun o => match o.op with | .defer _ => false | _ => true) = true) (hs : ∀ j, fin j = true → j < l.length)
    (hlen : ord.len = l.length) (hB : Region.mixT .any l.toArray fin false ord (Array.replicate l.length false) = true) (hS : S w.drew) (hT : T w.drew)
    (h : wpMixT P l.toArray (OnlyN Q) S T fin false ord a w.drew) : (Code.region id l.toArray true).wpIn (Fence.wide.inRound lp) m P Q a w := by
  refine Code.wpIn_mono OnlyN.imp ?_
  refine wpIn_region_any hm (wpAnyIn_of lp m (fun j o ho c hc => ?_) (fun ⟨_, _, hq⟩ => hq) _ _ _ _ (anyU_any (S := S) (T := T) (fin := fin) _ _ _ _ ?_))
  · have h5 := List.all_eq_true.1 hnd o (List.mem_of_getElem? (i := j) (by simpa using ho))
    rw [hc] at h5
    cases h5
  · have H := anyU_tree (P := P) (ops := l.toArray) (Q := OnlyN Q) (md := .any) (S := S) (T := T) (fin := fin) hsel (by simpa using hs) (fun _ _ _ _ _ h => h) ord false (Array.replicate l.length false) a w.drew hB
      ⟨fun _ j hj => (by have h5 := hs j hj; simp [h5]), fun _ => rfl⟩ (fun _ => hS) hT h
    rw [hlen] at H
    simpa using H
end
end Go.Proofs.YtffbdnlfknomnaaDoor
/- A region that draws its order, in a fenced walk, gone through in an order of one's own. -/
namespace Go.Proofs.YtffbdnlfknomnaaDoor

section
variable {P : Program} {ops : Array Oper} {Q : Exit → Act → World → Prop} {md : Region.Mode}
theorem operIn_ofW {o : Oper} {a : Act} {w : World} {K : Act → World → Prop} (n : Nat) (hnd : ∀ c, o.op ≠ .defer c) (h : o.wp P a w K Q) : o.wpIn Fence.wide n P a w K Q := by
  unfold Oper.wpIn
  refine ⟨fun _ _ => trivial, ?_⟩
  rw [Oper.semAt_eq _ _ _ hnd]
  unfold Oper.wp at h
  generalize (execOp a.eval o).run P w = r at *
  cases r with
  | ok x w' =>
    cases x <;> simp only [Oper.uponIn, Oper.upon] at h ⊢
    case value => exact h
    case skip => exact h
    case defer => exact h
    case enter => exact ⟨fun hd => by simp [Fence.wide] at hd, callsIn_wide.2 h⟩
    case row => exact ⟨fun hd => by simp [Fence.wide] at hd, fun c cs _ => let ⟨v, w', r, s⟩ := h c cs; ⟨v, w', r, stepsIn_wide.2 s⟩⟩
  | halt x w' => cases x <;> simp only [Oper.uponIn, Oper.upon] at h ⊢ <;> exact h
theorem wpAnyIn_ofW (n : Nat) (hnd : ∀ (j : Nat) (o : Oper), ops[j]? = some o → ∀ c, o.op ≠ .defer c) (hQ : ¬ LetsOut Q) : ∀ (f : Nat) (listed : Array Bool) (a : Act) (w : World), wpAny P md ops Q f listed a w → wpAnyIn Fence.wide n P md ops Q f listed a w
  | 0, _, _, _, h => h
  | f + 1, listed, a, w, h => by
    refine ⟨h.1, fun i hi => ?_⟩
    have h1 := h.2 i hi
    unfold wpOp at h1
    unfold wpOpIn
    cases ho : ops[i]? with
    | none =>
      simp only [ho] at h1 ⊢
      exact wpAnyIn_ofW n hnd hQ f _ _ _ h1
    | some o =>
      simp only [ho] at h1 ⊢
      split
      · rename_i hw
        simp only [hw, if_true] at h1
        rcases h1 with h1 | h1
        · exact operIn_ofW n (hnd i o ho) (Oper.wp_mono (fun a' w' h' => wpAnyIn_ofW n hnd hQ f _ a' w' h') h1)
        · exact absurd h1.2 hQ
      · rename_i hw
        simp only [hw] at h1
        exact ⟨fun _ _ => trivial, wpAnyIn_ofW n hnd hQ f _ _ _ h1⟩
theorem wpIn_region_mixW {id : Nat} {a : Act} {w : World} {l : List Oper} (m : Nat) (ord : List (Nat × Bool)) (S : World → Prop) (fin : Nat → Bool) (hm : P.follows .mixedOrders = true) (hsel : Region.noSelect l.toArray = true) (hnd : l.all (fun o => match o.op with | .defer _ => false | _ => true) = true) (hs : ∀ j, fin j = true → j < l.length)
    (hlen : ord.length = l.length) (hB : Region.mixB .any l.toArray fin ord (Array.replicate l.length false) = true) (hS : S w.drew)
    (h : wpMix P l.toArray (OnlyN Q) S fin ord a w.drew) : (Code.region id l.toArray true).wpIn Fence.wide m P Q a w := by
  refine Code.wpIn_mono OnlyN.imp ?_
  refine wpIn_region_any hm (wpAnyIn_ofW m (fun j o ho c hc => ?_) (fun ⟨_, _, hq⟩ => hq) _ _ _ _ (anyT_any (S := S) (fin := fin) _ _ _ _ ?_))
  · have h5 := List.all_eq_true.1 hnd o (List.mem_of_getElem? (i := j) (by simpa using ho))
    rw [hc] at h5
    cases h5
  · have H := anyT_mix (P := P) (ops := l.toArray) (Q := OnlyN Q) (md := .any) (S := S) (fin := fin) hsel (by simpa using hs) (fun _ _ _ _ _ h => h) ord (Array.replicate l.length false) a w.drew hB (fun _ => hS) h
    rw [hlen] at H
    simpa using H
end
end Go.Proofs.YtffbdnlfknomnaaDoor
/- A region that draws its order, within a round, whose beginning only reads and whose end is a call of yield: gone through in an order of one's own up to that call. -/
namespace Go.Proofs.YtffbdnlfknomnaaDoor

section
variable {P : Program} {ops : Array Oper} {Q : Exit → Act → World → Prop} {md : Region.Mode} {S : World → Prop} {y : Nat} {R : Nat → Array Bool → Act → World → Prop}
/-- Whatever order is picked, up to where y alone can come. -/
def anyE (P : Program) (md : Region.Mode) (ops : Array Oper) (Q : Exit → Act → World → Prop) (S : World → Prop) (y : Nat) (R : Nat → Array Bool → Act → World → Prop) : Nat → Array Bool → Act → World → Prop
  | 0, _, _, _ => False
  | f + 1, listed, a, w => (Region.ready md ops listed = [y] ∧ R f listed a w) ∨ (y ∉ Region.ready md ops listed ∧ Region.ready md ops listed ≠ [] ∧
      ∀ i ∈ Region.ready md ops listed, wpOp P ops Q i (fun a' w' => S w' ∧ anyE P md ops Q S y R f (listed.setIfInBounds i true) a' w') a w)
/-- All that a listed operation waits for is listed. -/
def Shut (md : Region.Mode) (ops : Array Oper) (L : Array Bool) : Prop := ∀ (j : Nat) (o : Oper), L.getD j false = true → ops[j]? = some o → ∀ e ∈ o.after, Region.binds md e = true → L.getD e.on false = true
theorem shut_set {L : Array Bool} {j : Nat} (h : Shut md ops L) (hj : j ∈ Region.ready md ops L) : Shut md ops (L.setIfInBounds j true) := fun k o hk ho e he hb => by
  obtain ⟨_, oj, hoj, hall⟩ := mem_ready.1 hj
  have up : ∀ i, L.getD i false = true → (L.setIfInBounds j true).getD i false = true := fun i hi => by
    by_cases hij : j = i
    · subst hij
      rcases Nat.lt_or_ge j L.size with h1 | h1
      · simp [h1]
      · simp [Array.getElem?_eq_none h1] at hi
    · rw [getD_set_ne false hij]; exact hi
  by_cases hkj : j = k
  · subst hkj
    rw [hoj] at ho
    cases ho
    exact up _ (hall e he hb)
  · rw [getD_set_ne false hkj] at hk
    exact up _ (h k o hk ho e he hb)
/-- Each operation ahead of y is waited for by a later one, or by y. -/
def chainB (md : Region.Mode) (ops : Array Oper) (y : Nat) : Bool := (List.range y).all fun k => (List.range (y + 1)).any fun j => decide (k < j) && Region.waitsFor md ops j k
theorem chain_all (hc : chainB md ops y = true) {L : Array Bool} (h : Shut md ops L) (hy : y ∈ Region.ready md ops L) : ∀ m d k, d ≤ m → k + d = y → 0 < d → L.getD k false = true
  | 0, d, k, hm, hk, hd => by omega
  | m + 1, d, k, hm, hk, hd => by
    have h1 := List.all_eq_true.1 hc k (List.mem_range.2 (by omega))
    obtain ⟨j, hj, h2⟩ := List.any_eq_true.1 h1
    have hj' := List.mem_range.1 hj
    simp only [Bool.and_eq_true, decide_eq_true_eq] at h2
    obtain ⟨oj, hoj, e, he, hb, heq⟩ := Region.waitsFor_spec h2.2
    by_cases hjy : j = y
    · subst hjy
      obtain ⟨_, o', ho', hall⟩ := mem_ready.1 hy
      rw [hoj] at ho'
      cases ho'
      have := hall e he hb
      rw [heq] at this
      exact this
    · have hl := chain_all hc h hy m (y - j) j (by omega) (by omega) (by omega)
      have := h j oj hl hoj e he hb
      rw [heq] at this
      exact this
theorem anyE_first {i : Nat} {oi : Oper} {v : Value} (hi : ops[i]? = some oi) (hiy : i < y) (hc : chainB md ops y = true) (hsel : ∀ (j : Nat) (o : Oper) cs b, ops[j]? = some o → o.op ≠ .select cs b)
    (hQ : ∀ c a w, Q (.panic c) (a.put oi.dst v) w → Q (.panic c) a w) :
    ∀ (f : Nat) (listed : Array Bool) (a : Act) (w : World), Shut md ops listed →
      (∀ j oj, ops[j]? = some oj → j ≠ i → listed.getD j true = false → (∀ e ∈ oj.after, Region.binds md e = true → e.on ≠ i) → oi.apart ops oj = true) →
      i ∈ Region.ready md ops listed → YieldsIf P ops S oi v a → S w →
      anyE P md ops Q S y R f (listed.setIfInBounds i true) (a.put oi.dst v) w → anyE P md ops Q S y R (f + 1) listed a w := by
  have hno : ∀ L : Array Bool, Shut md ops L → i ∈ Region.ready md ops L → y ∉ Region.ready md ops L := fun L hL hr hy => by
    have h1 := chain_all hc hL hy y (y - i) i (by omega) (by omega) (by omega)
    have h2 := (mem_ready.1 hr).1
    rcases Nat.lt_or_ge i L.size with h' | h'
    · simp [h'] at h1 h2; rw [h1] at h2; cases h2
    · simp [Array.getElem?_eq_none h'] at h1
  intro f
  induction f with
  | zero => intro listed a w _ _ _ _ _ H; exact H.elim
  | succ f ih =>
    intro listed a w hsh hfree hr hy hS H
    refine .inr ⟨hno listed hsh hr, fun h => (by rw [h] at hr; cases hr), fun j hj => ?_⟩
    by_cases hji : j = i
    · subst hji; exact hy.wpOp hi hS ⟨hS, H⟩
    · have hj2 := ready_mono hj hji
      rcases H with ⟨h9, _⟩ | H
      · rw [h9] at hj2
        have : j = y := by simpa using hj2
        subst this
        exact absurd hj (hno listed hsh hr)
      · have h1 := H.2.2 j hj2
        obtain ⟨hjun, oj, hoj, hall⟩ := mem_ready.1 hj
        have hnot : ∀ e ∈ oj.after, Region.binds md e = true → e.on ≠ i := fun e he hb heq => by
          have h5 := hall e he hb
          have h0 := (mem_ready.1 hr).1
          rw [heq] at h5
          rcases Nat.lt_or_ge i listed.size with h' | h'
          · simp [h'] at h0 h5; rw [h0] at h5; cases h5
          · simp [Array.getElem?_eq_none h'] at h5
        have h2 := wpOp_putIf hoj (hfree j oj hoj hji hjun hnot) (fun cs b => hsel i oi cs b hi) (fun cs b => hsel j oj cs b hoj) hQ hy h1
        have hfree' : ∀ k ok, ops[k]? = some ok → k ≠ i → (listed.setIfInBounds j true).getD k true = false →
            (∀ e ∈ ok.after, Region.binds md e = true → e.on ≠ i) → oi.apart ops ok = true := fun k ok hk hki hun hn => by
          refine hfree k ok hk hki ?_ hn
          by_cases hjk : j = k
          · subst hjk; exact hjun
          · rw [getD_set_ne true hjk] at hun; exact hun
        refine wpOp_mono (fun a' w' h3 => ⟨h3.2.1, ih (listed.setIfInBounds j true) a' w' (shut_set hsh hj) hfree' (ready_mono hr (Ne.symm hji)) h3.1 h3.2.1 ?_⟩) h2
        rw [Array.setIfInBounds_comm _ _ hji]
        exact h3.2.2
/-- The reads, in an order of one's own. -/
def wpRd (P : Program) (ops : Array Oper) (S : World → Prop) (L : Act → Prop) : List Nat → Act → Prop
  | [], a => L a
  | k :: r, a => ∃ o v, ops[k]? = some o ∧ YieldsIf P ops S o v a ∧ wpRd P ops S L r (a.put o.dst v)
def rdB (md : Region.Mode) (ops : Array Oper) (y : Nat) : List Nat → Array Bool → Bool
  | [], listed => Region.ready md ops listed == [y]
  | k :: r, listed => decide (k < y) && (Region.ready md ops listed).contains k && Region.free md ops listed k && rdB md ops y r (listed.setIfInBounds k true)
def lst (L : Array Bool) : List Nat → Array Bool
  | [] => L
  | k :: r => lst (L.setIfInBounds k true) r
theorem anyE_rd {w : World} {L : Act → Prop} {f : Nat} (hsel : Region.noSelect ops = true) (hc : chainB md ops y = true) (hQ : ∀ c (a : Act) d v w, Q (.panic c) (a.put d v) w → Q (.panic c) a w) (hS : S w) :
    ∀ (ord : List Nat) (listed : Array Bool) (a : Act), Shut md ops listed → rdB md ops y ord listed = true → (∀ a, L a → R f (lst listed ord) a w) → wpRd P ops S L ord a → anyE P md ops Q S y R (f + ord.length + 1) listed a w
  | [], listed, a, _, hB, hL, h => .inl ⟨by simpa [rdB] using hB, hL a h⟩
  | k :: r, listed, a, hsh, hB, hL, h => by
    simp only [rdB, Bool.and_eq_true, decide_eq_true_eq] at hB
    obtain ⟨⟨⟨hk, hr⟩, hf⟩, hB'⟩ := hB
    obtain ⟨o, v, h0, hy, hK⟩ := h
    have hr' : k ∈ Region.ready md ops listed := by simpa using hr
    exact anyE_first h0 hk hc (Region.noSelect_spec hsel) (fun c a w => hQ c a _ _ w) (f + r.length + 1) listed a w hsh (Region.free_spec h0 hf) hr' hy hS
      (anyE_rd hsel hc hQ hS r _ _ (shut_set hsh hr') hB' hL hK)
theorem anyE_in {F : Fence} (n : Nat) (hF : ∀ (o : Oper) (a : Act) (w : World) (K : Act → World → Prop), (∀ c, o.op ≠ .defer c) → o.wp P a w K Q → o.wpIn F n P a w K Q) (hT : ∀ f, F.fn f) (hnd : ∀ (j : Nat) (o : Oper), ops[j]? = some o → ∀ c, o.op ≠ .defer c) (hQ : ¬ LetsOut Q)
    (hR : ∀ f listed a w, Region.ready md ops listed = [y] → R f listed a w → wpAnyIn F n P md ops Q (f + 1) listed a w) :
    ∀ (f : Nat) (listed : Array Bool) (a : Act) (w : World), anyE P md ops Q S y R f listed a w → wpAnyIn F n P md ops Q f listed a w
  | 0, _, _, _, h => h.elim
  | f + 1, listed, a, w, h => by
    rcases h with ⟨h1, h2⟩ | ⟨_, h0, h⟩
    · exact hR f listed a w h1 h2
    · refine ⟨fun h' => absurd h' h0, fun i hi => ?_⟩
      have h1 := h i hi
      unfold wpOp at h1
      unfold wpOpIn
      cases ho : ops[i]? with
      | none =>
        simp only [ho] at h1 ⊢
        exact anyE_in n hF hT hnd hQ hR f _ _ _ h1.2
      | some o =>
        simp only [ho] at h1 ⊢
        split
        · rename_i hw
          simp only [hw, if_true] at h1
          rcases h1 with h1 | h1
          · exact hF o a w _ (hnd i o ho) (Oper.wp_mono (fun a' w' h' => anyE_in n hF hT hnd hQ hR f _ a' w' h'.2) h1)
          · exact absurd h1.2 hQ
        · rename_i hw
          simp only [hw] at h1
          exact ⟨fun f' _ => hT f', anyE_in n hF hT hnd hQ hR f _ _ _ h1.2⟩
theorem shut_start (n : Nat) : Shut md ops (Array.replicate n false) := fun j o h => by
  rcases Nat.lt_or_ge j n with h1 | h1
  · simp [h1] at h
  · simp [h1] at h
theorem rd_free {L : Act → Prop} {o : Oper} {k : Nat} {r : List Nat} {a : Act} (v : Value) (h0 : ops[k]? = some o) (hw : Region.wanted o (yielded ops a.tmps) = true) (h1 : ∀ w, S w → (execOp a.eval o).run P w = .ok (.value v) w) (h2 : wpRd P ops S L r (a.put o.dst v)) : wpRd P ops S L (k :: r) a :=
  ⟨o, v, h0, .inl ⟨hw, h1⟩, h2⟩
/-- The law: behind the reads the order goes on as it may. -/
theorem wpIn_region_rd {F : Fence} {n id : Nat} {a : Act} {w : World} {l : List Oper} (y : Nat) (ord : List Nat) (S : World → Prop) (hF : ∀ (o : Oper) (a : Act) (w : World) (K : Act → World → Prop), (∀ c, o.op ≠ .defer c) → o.wp P a w K (OnlyN Q) → o.wpIn F n P a w K (OnlyN Q)) (hT : ∀ f, F.fn f)
    (hm : P.follows .mixedOrders = true) (hsel : Region.noSelect l.toArray = true) (hnd : l.all (fun o => match o.op with | .defer _ => false | _ => true) = true) (hlen : ord.length < l.length) (hc : chainB .any l.toArray y = true) (hB : rdB .any l.toArray y ord (Array.replicate l.length false) = true) (hS : S w.drew)
    (h : wpRd P l.toArray S (fun a' => wpAnyIn F n P .any l.toArray (OnlyN Q) (l.length - ord.length) (lst (Array.replicate l.length false) ord) a' w.drew) ord a) : (Code.region id l.toArray true).wpIn F n P Q a w := by
  refine Code.wpIn_mono OnlyN.imp ?_
  have hnd' : ∀ (j : Nat) (o : Oper), l.toArray[j]? = some o → ∀ c, o.op ≠ .defer c := fun j o ho c hcc => by
    have h5 := List.all_eq_true.1 hnd o (List.mem_of_getElem? (i := j) (by simpa using ho))
    rw [hcc] at h5
    cases h5
  refine wpIn_region_any hm (anyE_in (S := S) (y := y) (R := fun f listed a w => wpAnyIn F n P .any l.toArray (OnlyN Q) (f + 1) listed a w) n hF hT hnd' (fun ⟨_, _, hq⟩ => hq) (fun _ _ _ _ _ h => h) _ _ _ _ ?_)
  have H := anyE_rd (P := P) (ops := l.toArray) (Q := OnlyN Q) (md := .any) (S := S) (y := y) (R := fun f listed a w => wpAnyIn F n P .any l.toArray (OnlyN Q) (f + 1) listed a w) (w := w.drew) (f := l.length - ord.length - 1)
    (L := fun a' => wpAnyIn F n P .any l.toArray (OnlyN Q) (l.length - ord.length) (lst (Array.replicate l.length false) ord) a' w.drew) hsel hc (fun _ _ _ _ _ h => h) hS ord (Array.replicate l.length false) a (shut_start _) hB
    (fun a ha => by rw [show l.length - ord.length - 1 + 1 = l.length - ord.length by omega]; exact ha) h
  rw [show l.length - ord.length - 1 + ord.length + 1 = l.length by omega] at H
  simpa using H
theorem wpAnyIn_ofF {F : Fence} (n : Nat) (hF : ∀ (o : Oper) (a : Act) (w : World) (K : Act → World → Prop), (∀ c, o.op ≠ .defer c) → o.wp P a w K Q → o.wpIn F n P a w K Q) (hT : ∀ f, F.fn f) (hnd : ∀ (j : Nat) (o : Oper), ops[j]? = some o → ∀ c, o.op ≠ .defer c) (hQ : ¬ LetsOut Q) :
    ∀ (f : Nat) (listed : Array Bool) (a : Act) (w : World), wpAny P md ops Q f listed a w → wpAnyIn F n P md ops Q f listed a w
  | 0, _, _, _, h => h
  | f + 1, listed, a, w, h => by
    refine ⟨h.1, fun i hi => ?_⟩
    have h1 := h.2 i hi
    unfold wpOp at h1
    unfold wpOpIn
    cases ho : ops[i]? with
    | none =>
      simp only [ho] at h1 ⊢
      exact wpAnyIn_ofF n hF hT hnd hQ f _ _ _ h1
    | some o =>
      simp only [ho] at h1 ⊢
      split
      · rename_i hw
        simp only [hw, if_true] at h1
        rcases h1 with h1 | h1
        · exact hF o a w _ (hnd i o ho) (Oper.wp_mono (fun a' w' h' => wpAnyIn_ofF n hF hT hnd hQ f _ a' w' h') h1)
        · exact absurd h1.2 hQ
      · rename_i hw
        simp only [hw] at h1
        exact ⟨fun f' _ => hT f', wpAnyIn_ofF n hF hT hnd hQ f _ _ _ h1⟩
/-- A region in a round, an order of one's own, S ahead of the final ones, T always. -/
theorem wpIn_region_mixC {F : Fence} {n id : Nat} {a : Act} {w : World} {l : List Oper} (ord : List (Nat × Nat)) (S T : World → Prop) (fin : Nat → Bool) (hF : ∀ (o : Oper) (a : Act) (w : World) (K : Act → World → Prop), (∀ c, o.op ≠ .defer c) → o.wp P a w K (OnlyN Q) → o.wpIn F n P a w K (OnlyN Q)) (hT' : ∀ f, F.fn f)
    (hm : P.follows .mixedOrders = true) (hsel : Region.noSelect l.toArray = true) (hnd : l.all (fun o => match o.op with | .defer _ => false | _ => true) = true) (hs : ∀ j, fin j = true → j < l.length)
    (hlen : ord.length = l.length) (hB : Region.mixC .any l.toArray fin false ord (Array.replicate l.length false) = true) (hS : S w.drew) (hT : T w.drew)
    (h : wpMixC P l.toArray (OnlyN Q) S T fin false ord a w.drew) : (Code.region id l.toArray true).wpIn F n P Q a w := by
  refine Code.wpIn_mono OnlyN.imp ?_
  have hnd' : ∀ (j : Nat) (o : Oper), l.toArray[j]? = some o → ∀ c, o.op ≠ .defer c := fun j o ho c hcc => by
    have h5 := List.all_eq_true.1 hnd o (List.mem_of_getElem? (i := j) (by simpa using ho))
    rw [hcc] at h5
    cases h5
  refine wpIn_region_any hm (wpAnyIn_ofF n hF hT' hnd' (fun ⟨_, _, hq⟩ => hq) _ _ _ _ (anyU_any (S := S) (T := T) (fin := fin) _ _ _ _ ?_))
  have H := anyU_mix (P := P) (ops := l.toArray) (Q := OnlyN Q) (md := .any) (S := S) (T := T) (fin := fin) hsel (by simpa using hs) (fun _ _ _ _ _ h => h) ord false (Array.replicate l.length false) a w.drew hB
    ⟨fun _ j hj => (by have h5 := hs j hj; simp [h5]), fun _ => rfl⟩ (fun _ => hS) hT h
  rw [hlen] at H
  simpa using H
end
theorem wide_round {P : Program} {Q : Exit → Act → World → Prop} (lp n : Nat) : ∀ (o : Oper) (a : Act) (w : World) (K : Act → World → Prop), (∀ c, o.op ≠ .defer c) → o.wp P a w K Q → o.wpIn (Fence.wide.inRound lp) n P a w K Q := fun _ _ _ _ h k => operIn_of lp n h k
end Go.Proofs.YtffbdnlfknomnaaDoor
/- Iterators that range over other iterators: a contract whose caller's word abides the book-keeping of a loop within the iterator too, and the laws of a range over such an iterator, by itself and within a round. -/
namespace Go.Proofs.YtffbdnlfknomnaaDoor
open Go.RowKit

variable {F : Fence} {n : Nat} {P : Program}

/-- The contract of an iterator that may turn whatever it laid itself, cells aside. -/
def SeqO {α : Type} (F : Fence) (n : Nat) (P : Program) (g : Nat) (lb : Array Value) (encs : α → Array Value) (Kp : World → World → Prop) (S Sp : List α → Prop) (N : Nat) (w : World) : Prop :=
  ∀ (l : Nat) (J Jx : List α → World → Prop) (W : World), Below w.heap.size w W → OwnFrom W.heap.size J → OwnFrom W.heap.size Jx →
    (∀ pre x W1, J pre W1 → pre.length < N → YieldAt F (n - 1) P l (encs x) W1 fun e W' =>
      KeepsFrom W.heap.size W1 W' ∧ ((e = .returned (.bool true) ∧ J (pre ++ [x]) W' ∧ Kp W1 W') ∨ (e = .returned (.bool false) ∧ Jx (pre ++ [x]) W'))) →
    J [] W →
    CallsIn F n P g (#[.func (.yield l) #[] #[]] ++ lb) W fun e W' => (∃ v, e = .returned v) ∧ ((∃ xs, S xs ∧ J xs W') ∨ (∃ pre, Sp pre ∧ Jx pre W'))
/-- A loop's record. -/
def lrec (fn : FuncId) (tm : Array Value) (ps : Array Tmp) (assign body : Code) (df : Nat) (st : LoopState) (pe : Option Code) : Loop := { state := st, pending := pe, fn, tmps := tm, params := ps, assign, body, defers := df }
/-- A turn of blocks behind the record leaves the record. -/
theorem rec_stays {A C : World} {row : Option Nat} {m k : Nat} {o : Obj} (hg : A.grownBy C row) (hr : ∀ r, row = some r → m ≤ r ∧ ∃ o : Obj, A.heap[r]? = some o ∧ o.isCells = false) (hk : k < m) (h : A.heap[k]? = some o) : C.heap[k]? = some o :=
  (hg.block k (Array.getElem?_eq_some_iff.1 h).1 fun e => by have := (hr k e.symm).1; omega).trans h
theorem own_le {β : Type} {B C : Nat} {J : β → World → Prop} (h : OwnFrom B J) (hBC : B ≤ C) : OwnFrom C J := fun s W W' row hs hg hr =>
  h s W W' row hs hg fun r e => ⟨Nat.le_trans hBC (hr r e).1, (hr r e).2⟩
theorem keeps_le {B C : Nat} {X Y : World} (h : KeepsFrom B X Y) (hBC : B ≤ C) : KeepsFrom C X Y := ⟨h.size, fun k o hk => h.same k o (Nat.le_trans hBC hk)⟩
theorem keeps_put (X : World) (k : Nat) (o : Obj) : KeepsFrom (k + 1) X (X.putObj k o) := ⟨by simp, fun i o' hi h _ => (World.putObj_heap_other (by omega)).trans h⟩
theorem seqO_core {α : Type} {fn : FuncId} (hfn : F.fn fn) {ps : Array Tmp} {assign body : Code} {tm : Array Value} {df lr B : Nat} {W1 w0 : World} (hB : B ≤ lr) (hsz : W1.heap.size = lr + 1)
    (hL : W1.heap[lr]? = some (.loop (lrec fn tm ps assign body df .ready none)))
    {gf : Nat} {lb : Array Value} {encs : α → Array Value} {Kp : World → World → Prop} {S Sp : List α → Prop} {N : Nat} (hseq : SeqO F n P gf lb encs Kp S Sp N w0) (hb1 : Below w0.heap.size w0 W1)
    (hKt : ∀ {A B C : World}, Kp A B → Kp B C → Kp A C) (hKb : ∀ (W : World) (o o' : Obj), W.heap[lr]? = some o → o.isCells = false → o.isWalk = false → Kp W (W.putObj lr o')) (hps : ∀ x, (encs x).size = ps.size)
    (I : List α → World → Prop) (Ix : Code → List α → World → Prop) (hI : OwnFrom lr I) (hIx : ∀ c, OwnFrom lr (Ix c)) (h0 : I [] W1) (Ax : α → Act → World → Prop) (hAx : ∀ x a', OwnFrom lr (fun (_ : Unit) W => Ax x a' W))
    (hassign : ∀ (pre : List α) (x : α) (W : World) (K : Act → World → Prop), I pre W → (∀ a' W', KeepsFrom B W W' → Kp W W' → I pre W' → Ax x a' W' → K a' W') →
      assign.wpIn (F.inRound lr) (n - 1) P (Exit.then K (fun _ _ _ => False)) { tmps := (ps.zip (encs x)).foldl (fun t (p, v) => t.setIfInBounds p v) tm, defers := [] } W)
    (hbody : ∀ (pre : List α) (x : α) (a' : Act) (W : World), (∃ r, W.heap[lr]? = some (.loop r)) → I pre W → Ax x a' W → pre.length < N → body.wpIn (F.inRound lr) (n - 1) P (ownPostG B Kp I Ix (pre ++ [x]) W) a' W) :
    CallsIn F n P gf (#[.func (.yield lr) #[] #[]] ++ lb) W1 fun e W => (∃ v, e = .returned v) ∧
      ((∃ xs, S xs ∧ I xs W ∧ W.heap[lr]? = some (.loop (lrec fn tm ps assign body df .ready none))) ∨ ∃ pre, Sp pre ∧ ∃ c, Ix c pre W ∧ W.heap[lr]? = some (.loop (lrec fn tm ps assign body df .done (some c)))) := by
  refine hseq lr (fun pre W => I pre W ∧ W.heap[lr]? = some (.loop (lrec fn tm ps assign body df .ready none))) (fun pre W => ∃ c, Ix c pre W ∧ W.heap[lr]? = some (.loop (lrec fn tm ps assign body df .done (some c)))) W1 hb1 ?_ ?_ ?_ ⟨h0, hL⟩
  · intro s A C row hs hg hr
    exact ⟨own_le hI (by omega) s A C row hs.1 hg hr, rec_stays hg hr (by omega) hs.2⟩
  · rintro s A C row ⟨c, h1, h2⟩ hg hr
    exact ⟨c, own_le (hIx c) (by omega) s A C row h1 hg hr, rec_stays hg hr (by omega) h2⟩
  rintro pre x W ⟨hi, hl⟩ hlen
  refine ⟨fn, _, assign, body, run_yield (P := P) (args := encs x) hl (hps x), roundIn_of_wpIn hfn (hassign pre x W _ hi fun a' V hkf hkp hi' hax => ?_)⟩
  have hv := hkf.same lr _ hB hl rfl
  have hlt : lr < V.heap.size := (Array.getElem?_eq_some_iff.1 hv).1
  refine ⟨_, run_beginRound hv rfl, ?_⟩
  have hbz : (V.putObj lr (.loop (lrec fn tm ps assign body df .busy none))).heap[lr]? = some (.loop (lrec fn tm ps assign body df .busy none)) := World.putObj_heap_same hlt
  refine wpIn_mono (hbody pre x a' _ ⟨_, hbz⟩ (hI.putObj _ hi' (Nat.le_refl _) hv rfl) ((hAx x a').putObj (s := ()) _ hax (Nat.le_refl _) hv rfl) hlen) ?_
  have hK0 := hKb V _ (.loop (lrec fn tm ps assign body df .busy none)) hv rfl rfl
  have hk0 : KeepsFrom (lr + 1) W (V.putObj lr (.loop (lrec fn tm ps assign body df .busy none))) := (keeps_le hkf (by omega)).trans (keeps_put V lr _)
  have fin : ∀ (j : Option Code) (U : World), KeepsFrom B (V.putObj lr (.loop (lrec fn tm ps assign body df .busy none))) U → ∃ U' : World, KeepsFrom (lr + 1) W U' ∧ (Instr.endRound lr j).run P U = .ok (.bool j.isNone) U' ∧ U' = U.putObj lr (.loop (lrec fn tm ps assign body df (if j.isNone then .ready else .done) j)) ∧ (∃ o, U.heap[lr]? = some o ∧ o.isCells = false ∧ o.isWalk = false) ∧ U'.heap[lr]? = some (.loop (lrec fn tm ps assign body df (if j.isNone then .ready else .done) j)) := fun j U hk => by
    have h3 := hk.same lr _ hB hbz rfl
    exact ⟨_, (hk0.trans (keeps_le hk (by omega))).trans (keeps_put U lr _), run_endRound (P := P) j h3, rfl, ⟨_, h3, rfl, rfl⟩, World.putObj_heap_same (Array.getElem?_eq_some_iff.1 h3).1⟩
  have leave : ∀ (c : Code) (U : World), KeepsFrom B (V.putObj lr (.loop (lrec fn tm ps assign body df .busy none))) U → Ix c (pre ++ [x]) U → ∃ (v : Value) (U' : World), KeepsFrom (lr + 1) W U' ∧ (Instr.endRound lr (some c)).run P U = .ok v U' ∧ (v = .bool false ∧ ∃ c, Ix c (pre ++ [x]) U' ∧ U'.heap[lr]? = some (.loop (lrec fn tm ps assign body df .done (some c)))) := fun c U hk hx => by
    obtain ⟨U', hkk, hr, rfl, ⟨o, ho, hc, _⟩, hl'⟩ := fin (some c) U hk
    exact ⟨_, _, hkk, hr, rfl, c, (hIx c).putObj _ hx (Nat.le_refl _) ho hc, hl'⟩
  rintro e a3 U hp
  cases e with
  | normal =>
    obtain ⟨hk, hkp', hi3⟩ := hp
    obtain ⟨U', hkk, hr, rfl, ⟨o, ho, hc, hw⟩, hl'⟩ := fin none U hk
    exact ⟨_, _, hr, by rw [hsz]; exact hkk, .inl ⟨rfl, ⟨hI.putObj _ hi3 (Nat.le_refl _) ho hc, hl'⟩, hKt hkp (hKt hK0 (hKt hkp' (hKb U o _ ho hc hw)))⟩⟩
  | ret =>
    obtain ⟨v, U', hkk, hr, rfl, h⟩ := leave .ret U hp.1 hp.2
    exact ⟨_, _, hr, by rw [hsz]; exact hkk, .inr ⟨rfl, h⟩⟩
  | exit i =>
    obtain ⟨v, U', hkk, hr, rfl, h⟩ := leave (.exit i) U hp.1 hp.2
    exact ⟨_, _, hr, by rw [hsz]; exact hkk, .inr ⟨rfl, h⟩⟩
  | goto t =>
    obtain ⟨v, U', hkk, hr, rfl, h⟩ := leave (.goto t) U hp.1 hp.2
    exact ⟨_, _, hr, by rw [hsz]; exact hkk, .inr ⟨rfl, h⟩⟩
  | panic c => exact hp.elim
  | outgrown => exact hp.elim
/-- A range over an iterator, by itself: the body may leave; loop variables may be boxed. -/
theorem rangeO {α : Type} {g : Operand} {ps : Array Tmp} {assign body : Code} {Q : Exit → Act → World → Prop} {a : Act} {w : World}
    (hro : F.round = none) (h1 : 1 ≤ n) {gf : Nat} {lb : Array Value} (hg : a.eval g = .func (.func gf) #[] lb) (hFg : F.fn gf) (eg : ∀ args w, (callFunc gf args).run P w = .ok (.enter gf args) w)
    {encs : α → Array Value} {Kp : World → World → Prop} {S Sp : List α → Prop} {N : Nat} {w0 : World} (hseq : SeqO F (n - 1) P gf lb encs Kp S Sp N w0)
    (hKt : ∀ {A B C : World}, Kp A B → Kp B C → Kp A C) (hKb : ∀ (W : World) (l : Nat) (o o' : Obj), w.heap.size ≤ l → W.heap[l]? = some o → o.isCells = false → o.isWalk = false → Kp W (W.putObj l o')) (hb0 : Below w0.heap.size w0 w) (hps : ∀ x, (encs x).size = ps.size)
    (I : List α → World → Prop) (Ix : Code → List α → World → Prop) (hI : OwnFrom w.heap.size I) (hIx : ∀ c, OwnFrom w.heap.size (Ix c)) (h0 : I [] w) (Ax : α → Act → World → Prop) (hAx : ∀ x a', OwnFrom w.heap.size (fun (_ : Unit) W => Ax x a' W))
    (hassign : ∀ (l : Nat) (pre : List α) (x : α) (W : World) (K : Act → World → Prop), I pre W → (∀ a' W', KeepsFrom w.heap.size W W' → Kp W W' → I pre W' → Ax x a' W' → K a' W') →
      assign.wpIn (F.inRound l) (n - 1 - 1) P (Exit.then K (fun _ _ _ => False)) { tmps := (ps.zip (encs x)).foldl (fun t (p, v) => t.setIfInBounds p v) a.tmps, defers := [] } W)
    (hbody : ∀ (l : Nat) (pre : List α) (x : α) (a' : Act) (W : World), w.heap.size ≤ l → (∃ r, W.heap[l]? = some (.loop r)) → I pre W → Ax x a' W → pre.length < N → body.wpIn (F.inRound l) (n - 1 - 1) P (ownPostG w.heap.size Kp I Ix (pre ++ [x]) W) a' W)
    (hdone : ∀ (D : Nat) (xs : List α) (W : World), w.heap.size ≤ D → S xs → I xs W → W.heap[D]? = some (.deferred (some [])) → Q .normal { a with defers := { target := .collected D, args := #[] } :: a.defers } W)
    (hstop : ∀ (D : Nat) (c : Code) (pre : List α) (W : World), w.heap.size ≤ D → Sp pre → Ix c pre W → W.heap[D]? = some (.deferred (some [])) → c.wpIn F n P Q { a with defers := { target := .collected D, args := #[] } :: a.defers } W) :
    (Code.rangeFunc g ps assign body).wpIn F n P Q a w := by
  refine wpIn_rangeFunc fun fn hfn => ?_
  rw [hro]
  have hs : (w.alloc (.deferred (some []))).heap.size = w.heap.size + 1 := by simp
  have hD0 : ((w.alloc (.deferred (some []))).alloc (.loop (lrec fn a.tmps ps assign body w.heap.size .ready none))).heap[w.heap.size]? = some (.deferred (some [])) := (Below.heap_alloc _ _ _ (by simp)).trans (World.alloc_heap_new w _)
  have hL0 := World.alloc_heap_new (w.alloc (.deferred (some []))) (.loop (lrec fn a.tmps ps assign body w.heap.size .ready none))
  rw [hs] at hL0
  have hI1 : OwnFrom (w.heap.size + 1) (fun pre W => I pre W ∧ W.heap[w.heap.size]? = some (.deferred (some []))) := fun s A C row hq hgr hr => ⟨own_le hI (Nat.le_succ _) s A C row hq.1 hgr hr, rec_stays hgr hr (Nat.lt_succ_self _) hq.2⟩
  have hX1 : ∀ c, OwnFrom (w.heap.size + 1) (fun pre W => Ix c pre W ∧ W.heap[w.heap.size]? = some (.deferred (some []))) := fun c s A C row hq hgr hr => ⟨own_le (hIx c) (Nat.le_succ _) s A C row hq.1 hgr hr, rec_stays hgr hr (Nat.lt_succ_self _) hq.2⟩
  have hE := run_enterLoop_outer (P := P) (w := w) fn a.tmps ps assign body
  have hbW := hb0.trans ((((Below.refl _ w).alloc (Nat.le_refl _) (.deferred (some []))).alloc (by simp) (.loop (lrec fn a.tmps ps assign body w.heap.size .ready none))).mono hb0.size)
  have hiW := hI.alloc (.loop (lrec fn a.tmps ps assign body w.heap.size .ready none)) (hI.alloc (.deferred (some [])) h0)
  have hsW : ((w.alloc (.deferred (some []))).alloc (.loop (lrec fn a.tmps ps assign body w.heap.size .ready none))).heap.size = w.heap.size + 1 + 1 := by simp
  change _ = Result.ok _ ((w.alloc (.deferred (some []))).alloc (.loop (lrec fn a.tmps ps assign body w.heap.size .ready none))) at hE
  generalize (w.alloc (.deferred (some []))).alloc (.loop (lrec fn a.tmps ps assign body w.heap.size .ready none)) = W1 at *
  refine ⟨w.heap.size + 1, [{ target := .collected w.heap.size, args := #[] }], W1, { target := .fn (.func gf) lb, args := #[.func (.yield (w.heap.size + 1)) #[] #[]] }, W1, gf, #[.func (.yield (w.heap.size + 1)) #[] #[]] ++ lb, W1, hE, ?_, ?_, ?_, fun _ => h1, ?_⟩
  · simp only [resolve, hg]
    simp [go_sem]
  · intro f' hf'; simp [Target.leads] at hf'; subst hf'; exact hFg
  · simp [invoke, go_sem, eg]
  refine (seqO_core (B := w.heap.size) hfn (Nat.le_succ _) hsW hL0 hseq hbW (fun h k => hKt h k) (fun W o o' => hKb W _ o o' (Nat.le_succ _)) hps _ _ hI1 hX1 ⟨hiW, hD0⟩ Ax (fun x a' => own_le (hAx x a') (Nat.le_succ _)) ?_ ?_).mono ?_
  · rintro pre x W K ⟨hi, hd⟩ hK
    exact hassign _ pre x W K hi fun a' W' k1 k2 k3 k4 => hK a' W' k1 k2 ⟨k3, k1.same _ _ (Nat.le_refl _) hd rfl⟩ k4
  · rintro pre x a' W hr ⟨hi, hd⟩ hax hlen
    refine wpIn_mono (hbody _ pre x a' W (Nat.le_succ _) hr hi hax hlen) ?_
    rintro e a3 U hp
    cases e with
    | normal => exact ⟨hp.1, hp.2.1, hp.2.2, hp.1.same _ _ (Nat.le_refl _) hd rfl⟩
    | ret => exact ⟨hp.1, hp.2, hp.1.same _ _ (Nat.le_refl _) hd rfl⟩
    | exit i => exact ⟨hp.1, hp.2, hp.1.same _ _ (Nat.le_refl _) hd rfl⟩
    | goto t => exact ⟨hp.1, hp.2, hp.1.same _ _ (Nat.le_refl _) hd rfl⟩
    | panic c => exact hp.elim
    | outgrown => exact hp.elim
  · rintro e W2 ⟨⟨v, rfl⟩, (⟨xs, hS, ⟨hi, hd⟩, hl⟩ | ⟨pre, hSp, c, ⟨hi, hd⟩, hl⟩)⟩
    · exact ⟨none, _, run_endLoop (P := P) hl (by simp [lrec]), hdone _ xs _ (Nat.le_refl _) hS (hI.putObj _ hi (Nat.le_succ _) hl rfl) ((World.putObj_heap_other (by omega)).trans hd)⟩
    · exact ⟨some c, _, run_endLoop (P := P) hl (by simp [lrec]), hstop _ c pre _ (Nat.le_refl _) hSp ((hIx c).putObj _ hi (Nat.le_succ _) hl rfl) ((World.putObj_heap_other (by omega)).trans hd)⟩
/-- The same within a round of another loop. -/
theorem rangeO_in {α : Type} {g : Operand} {ps : Array Tmp} {assign body : Code} {Q : Exit → Act → World → Prop} {a : Act} {w : World}
    {l₀ : Nat} {r₀ : Loop} (hro : F.round = some l₀) (hl₀ : w.heap[l₀]? = some (.loop r₀)) (h1 : 1 ≤ n) {gf : Nat} {lb : Array Value} (hg : a.eval g = .func (.func gf) #[] lb) (hFg : F.fn gf) (eg : ∀ args w, (callFunc gf args).run P w = .ok (.enter gf args) w)
    {encs : α → Array Value} {Kp : World → World → Prop} {S Sp : List α → Prop} {N : Nat} {w0 : World} (hseq : SeqO F (n - 1) P gf lb encs Kp S Sp N w0)
    (hKt : ∀ {A B C : World}, Kp A B → Kp B C → Kp A C) (hKb : ∀ (W : World) (l : Nat) (o o' : Obj), w.heap.size ≤ l → W.heap[l]? = some o → o.isCells = false → o.isWalk = false → Kp W (W.putObj l o')) (hb0 : Below w0.heap.size w0 w) (hps : ∀ x, (encs x).size = ps.size)
    (I : List α → World → Prop) (Ix : Code → List α → World → Prop) (hI : OwnFrom w.heap.size I) (hIx : ∀ c, OwnFrom w.heap.size (Ix c)) (h0 : I [] w) (Ax : α → Act → World → Prop) (hAx : ∀ x a', OwnFrom w.heap.size (fun (_ : Unit) W => Ax x a' W))
    (hassign : ∀ (l : Nat) (pre : List α) (x : α) (W : World) (K : Act → World → Prop), I pre W → (∀ a' W', KeepsFrom w.heap.size W W' → Kp W W' → I pre W' → Ax x a' W' → K a' W') →
      assign.wpIn (F.inRound l) (n - 1 - 1) P (Exit.then K (fun _ _ _ => False)) { tmps := (ps.zip (encs x)).foldl (fun t (p, v) => t.setIfInBounds p v) a.tmps, defers := [] } W)
    (hbody : ∀ (l : Nat) (pre : List α) (x : α) (a' : Act) (W : World), w.heap.size ≤ l → (∃ r, W.heap[l]? = some (.loop r)) → I pre W → Ax x a' W → pre.length < N → body.wpIn (F.inRound l) (n - 1 - 1) P (ownPostG w.heap.size Kp I Ix (pre ++ [x]) W) a' W)
    (hdone : ∀ (xs : List α) (W : World), S xs → I xs W → Q .normal a W)
    (hstop : ∀ (c : Code) (pre : List α) (W : World), Sp pre → Ix c pre W → c.wpIn F n P Q a W) :
    (Code.rangeFunc g ps assign body).wpIn F n P Q a w := by
  refine wpIn_rangeFunc fun fn hfn => ?_
  rw [hro]
  have hL0 := World.alloc_heap_new w (.loop (lrec fn a.tmps ps assign body r₀.defers .ready none))
  have hE := run_enterLoop_inner (P := P) hl₀ fn a.tmps ps assign body
  have hbW := hb0.trans (((Below.refl _ w).alloc (Nat.le_refl _) (.loop (lrec fn a.tmps ps assign body r₀.defers .ready none))).mono hb0.size)
  have hiW := hI.alloc (.loop (lrec fn a.tmps ps assign body r₀.defers .ready none)) h0
  have hsW : (w.alloc (.loop (lrec fn a.tmps ps assign body r₀.defers .ready none))).heap.size = w.heap.size + 1 := by simp
  change _ = Result.ok _ (w.alloc (.loop (lrec fn a.tmps ps assign body r₀.defers .ready none))) at hE
  generalize w.alloc (.loop (lrec fn a.tmps ps assign body r₀.defers .ready none)) = W1 at *
  refine ⟨w.heap.size, [], W1, { target := .fn (.func gf) lb, args := #[.func (.yield w.heap.size) #[] #[]] }, W1, gf, #[.func (.yield w.heap.size) #[] #[]] ++ lb, W1, hE, ?_, ?_, ?_, fun _ => h1, ?_⟩
  · simp only [resolve, hg]
    simp [go_sem]
  · intro f' hf'; simp [Target.leads] at hf'; subst hf'; exact hFg
  · simp [invoke, go_sem, eg]
  refine (seqO_core (B := w.heap.size) hfn (Nat.le_refl _) hsW hL0 hseq hbW (fun h k => hKt h k) (fun W o o' => hKb W _ o o' (Nat.le_refl _)) hps _ _ hI hIx hiW Ax hAx (fun pre x W K => hassign _ pre x W K) (fun pre x a' W => hbody _ pre x a' W (Nat.le_refl _))).mono ?_
  rintro e W2 ⟨⟨v, rfl⟩, (⟨xs, hS, hi, hl⟩ | ⟨pre, hSp, c, hi, hl⟩)⟩
  · exact ⟨none, _, run_endLoop (P := P) hl (by simp [lrec]), hdone xs _ hS (hI.putObj _ hi (Nat.le_refl _) hl rfl)⟩
  · exact ⟨some c, _, run_endLoop (P := P) hl (by simp [lrec]), hstop c pre _ hSp ((hIx c).putObj _ hi (Nat.le_refl _) hl rfl)⟩
end Go.Proofs.YtffbdnlfknomnaaDoor
/- Iterators whose bodies know what comes: a contract and its laws, by itself and within a round. -/
namespace Go.Proofs.YtffbdnlfknomnaaDoor
open Go.RowKit

variable {F : Fence} {n : Nat} {P : Program}

/-- The contract of an iterator whose body is told that what comes is what is to come, and may be asked to leave what was laid since. -/
def SeqP {α : Type} (F : Fence) (n : Nat) (P : Program) (g : Nat) (lb : Array Value) (encs : α → Array Value) (Kp : Nat → World → World → Prop) (S Sp : List α → Prop) (w : World) : Prop :=
  ∀ (l : Nat) (J Jx : List α → World → Prop) (W : World), Below w.heap.size w W → OwnFrom W.heap.size J → OwnFrom W.heap.size Jx →
    (∀ pre x W1, J pre W1 → Sp (pre ++ [x]) → YieldAt F (n - 1) P l (encs x) W1 fun e W' =>
      KeepsFrom W.heap.size W1 W' ∧ ((e = .returned (.bool true) ∧ J (pre ++ [x]) W' ∧ Kp W.heap.size W1 W') ∨ (e = .returned (.bool false) ∧ Jx (pre ++ [x]) W'))) →
    J [] W →
    CallsIn F n P g (#[.func (.yield l) #[] #[]] ++ lb) W fun e W' => (∃ v, e = .returned v) ∧ ((∃ xs, S xs ∧ J xs W') ∨ (∃ pre, Sp pre ∧ Jx pre W'))
theorem seqP_core {α : Type} {fn : FuncId} (hfn : F.fn fn) {ps : Array Tmp} {assign body : Code} {tm : Array Value} {df lr B : Nat} {W1 w0 : World} (hB : B ≤ lr) (hsz : W1.heap.size = lr + 1)
    (hL : W1.heap[lr]? = some (.loop (lrec fn tm ps assign body df .ready none)))
    {gf : Nat} {lb : Array Value} {encs : α → Array Value} {Kp : Nat → World → World → Prop} {S Sp : List α → Prop} (hseq : SeqP F n P gf lb encs Kp S Sp w0) (hb1 : Below w0.heap.size w0 W1)
    (hKt : ∀ {A B C : World}, Kp (lr + 1) A B → Kp (lr + 1) B C → Kp (lr + 1) A C) (hKb : ∀ (W : World) (o o' : Obj), W.heap[lr]? = some o → o.isCells = false → o.isWalk = false → Kp (lr + 1) W (W.putObj lr o')) (hps : ∀ x, (encs x).size = ps.size)
    (I : List α → World → Prop) (Ix : Code → List α → World → Prop) (hI : OwnFrom lr I) (hIx : ∀ c, OwnFrom lr (Ix c)) (h0 : I [] W1) (Ax : α → Act → World → Prop) (hAx : ∀ x a', OwnFrom lr (fun (_ : Unit) W => Ax x a' W))
    (hassign : ∀ (pre : List α) (x : α) (W : World) (K : Act → World → Prop), I pre W → (∀ a' W', KeepsFrom B W W' → Kp (lr + 1) W W' → I pre W' → Ax x a' W' → K a' W') →
      assign.wpIn (F.inRound lr) (n - 1) P (Exit.then K (fun _ _ _ => False)) { tmps := (ps.zip (encs x)).foldl (fun t (p, v) => t.setIfInBounds p v) tm, defers := [] } W)
    (hbody : ∀ (pre : List α) (x : α) (a' : Act) (W : World), (∃ r, W.heap[lr]? = some (.loop r)) → I pre W → Ax x a' W → Sp (pre ++ [x]) → body.wpIn (F.inRound lr) (n - 1) P (ownPostG B (Kp (lr + 1)) I Ix (pre ++ [x]) W) a' W) :
    CallsIn F n P gf (#[.func (.yield lr) #[] #[]] ++ lb) W1 fun e W => (∃ v, e = .returned v) ∧
      ((∃ xs, S xs ∧ I xs W ∧ W.heap[lr]? = some (.loop (lrec fn tm ps assign body df .ready none))) ∨ ∃ pre, Sp pre ∧ ∃ c, Ix c pre W ∧ W.heap[lr]? = some (.loop (lrec fn tm ps assign body df .done (some c)))) := by
  refine hseq lr (fun pre W => I pre W ∧ W.heap[lr]? = some (.loop (lrec fn tm ps assign body df .ready none))) (fun pre W => ∃ c, Ix c pre W ∧ W.heap[lr]? = some (.loop (lrec fn tm ps assign body df .done (some c)))) W1 hb1 ?_ ?_ ?_ ⟨h0, hL⟩
  · intro s A C row hs hg hr
    exact ⟨own_le hI (by omega) s A C row hs.1 hg hr, rec_stays hg hr (by omega) hs.2⟩
  · rintro s A C row ⟨c, h1, h2⟩ hg hr
    exact ⟨c, own_le (hIx c) (by omega) s A C row h1 hg hr, rec_stays hg hr (by omega) h2⟩
  rintro pre x W ⟨hi, hl⟩ hlen
  refine ⟨fn, _, assign, body, run_yield (P := P) (args := encs x) hl (hps x), roundIn_of_wpIn hfn (hassign pre x W _ hi fun a' V hkf hkp hi' hax => ?_)⟩
  have hv := hkf.same lr _ hB hl rfl
  have hlt : lr < V.heap.size := (Array.getElem?_eq_some_iff.1 hv).1
  refine ⟨_, run_beginRound hv rfl, ?_⟩
  have hbz : (V.putObj lr (.loop (lrec fn tm ps assign body df .busy none))).heap[lr]? = some (.loop (lrec fn tm ps assign body df .busy none)) := World.putObj_heap_same hlt
  refine wpIn_mono (hbody pre x a' _ ⟨_, hbz⟩ (hI.putObj _ hi' (Nat.le_refl _) hv rfl) ((hAx x a').putObj (s := ()) _ hax (Nat.le_refl _) hv rfl) hlen) ?_
  have hK0 := hKb V _ (.loop (lrec fn tm ps assign body df .busy none)) hv rfl rfl
  have hk0 : KeepsFrom (lr + 1) W (V.putObj lr (.loop (lrec fn tm ps assign body df .busy none))) := (keeps_le hkf (by omega)).trans (keeps_put V lr _)
  have fin : ∀ (j : Option Code) (U : World), KeepsFrom B (V.putObj lr (.loop (lrec fn tm ps assign body df .busy none))) U → ∃ U' : World, KeepsFrom (lr + 1) W U' ∧ (Instr.endRound lr j).run P U = .ok (.bool j.isNone) U' ∧ U' = U.putObj lr (.loop (lrec fn tm ps assign body df (if j.isNone then .ready else .done) j)) ∧ (∃ o, U.heap[lr]? = some o ∧ o.isCells = false ∧ o.isWalk = false) ∧ U'.heap[lr]? = some (.loop (lrec fn tm ps assign body df (if j.isNone then .ready else .done) j)) := fun j U hk => by
    have h3 := hk.same lr _ hB hbz rfl
    exact ⟨_, (hk0.trans (keeps_le hk (by omega))).trans (keeps_put U lr _), run_endRound (P := P) j h3, rfl, ⟨_, h3, rfl, rfl⟩, World.putObj_heap_same (Array.getElem?_eq_some_iff.1 h3).1⟩
  have leave : ∀ (c : Code) (U : World), KeepsFrom B (V.putObj lr (.loop (lrec fn tm ps assign body df .busy none))) U → Ix c (pre ++ [x]) U → ∃ (v : Value) (U' : World), KeepsFrom (lr + 1) W U' ∧ (Instr.endRound lr (some c)).run P U = .ok v U' ∧ (v = .bool false ∧ ∃ c, Ix c (pre ++ [x]) U' ∧ U'.heap[lr]? = some (.loop (lrec fn tm ps assign body df .done (some c)))) := fun c U hk hx => by
    obtain ⟨U', hkk, hr, rfl, ⟨o, ho, hc, _⟩, hl'⟩ := fin (some c) U hk
    exact ⟨_, _, hkk, hr, rfl, c, (hIx c).putObj _ hx (Nat.le_refl _) ho hc, hl'⟩
  rintro e a3 U hp
  cases e with
  | normal =>
    obtain ⟨hk, hkp', hi3⟩ := hp
    obtain ⟨U', hkk, hr, rfl, ⟨o, ho, hc, hw⟩, hl'⟩ := fin none U hk
    exact ⟨_, _, hr, by rw [hsz]; exact hkk, .inl ⟨rfl, ⟨hI.putObj _ hi3 (Nat.le_refl _) ho hc, hl'⟩, by rw [hsz]; exact hKt hkp (hKt hK0 (hKt hkp' (hKb U o _ ho hc hw)))⟩⟩
  | ret =>
    obtain ⟨v, U', hkk, hr, rfl, h⟩ := leave .ret U hp.1 hp.2
    exact ⟨_, _, hr, by rw [hsz]; exact hkk, .inr ⟨rfl, h⟩⟩
  | exit i =>
    obtain ⟨v, U', hkk, hr, rfl, h⟩ := leave (.exit i) U hp.1 hp.2
    exact ⟨_, _, hr, by rw [hsz]; exact hkk, .inr ⟨rfl, h⟩⟩
  | goto t =>
    obtain ⟨v, U', hkk, hr, rfl, h⟩ := leave (.goto t) U hp.1 hp.2
    exact ⟨_, _, hr, by rw [hsz]; exact hkk, .inr ⟨rfl, h⟩⟩
  | panic c => exact hp.elim
  | outgrown => exact hp.elim
/-- A range over an iterator, by itself: the body may leave; loop variables may be boxed. -/
theorem rangeP {α : Type} {g : Operand} {ps : Array Tmp} {assign body : Code} {Q : Exit → Act → World → Prop} {a : Act} {w : World}
    (hro : F.round = none) (h1 : 1 ≤ n) {gf : Nat} {lb : Array Value} (hg : a.eval g = .func (.func gf) #[] lb) (hFg : F.fn gf) (eg : ∀ args w, (callFunc gf args).run P w = .ok (.enter gf args) w)
    {encs : α → Array Value} {Kp : Nat → World → World → Prop} {S Sp : List α → Prop} {w0 : World} (hseq : SeqP F (n - 1) P gf lb encs Kp S Sp w0)
    (hKt : ∀ (N : Nat) {A B C : World}, Kp N A B → Kp N B C → Kp N A C) (hKb : ∀ (W : World) (l : Nat) (o o' : Obj), w.heap.size ≤ l → W.heap[l]? = some o → o.isCells = false → o.isWalk = false → Kp (l + 1) W (W.putObj l o')) (hb0 : Below w0.heap.size w0 w) (hps : ∀ x, (encs x).size = ps.size)
    (I : List α → World → Prop) (Ix : Code → List α → World → Prop) (hI : OwnFrom w.heap.size I) (hIx : ∀ c, OwnFrom w.heap.size (Ix c)) (h0 : I [] w) (Ax : α → Act → World → Prop) (hAx : ∀ x a', OwnFrom w.heap.size (fun (_ : Unit) W => Ax x a' W))
    (hassign : ∀ (l : Nat) (pre : List α) (x : α) (W : World) (K : Act → World → Prop), w.heap.size ≤ l → I pre W → (∀ a' W', KeepsFrom w.heap.size W W' → Kp (l + 1) W W' → I pre W' → Ax x a' W' → K a' W') →
      assign.wpIn (F.inRound l) (n - 1 - 1) P (Exit.then K (fun _ _ _ => False)) { tmps := (ps.zip (encs x)).foldl (fun t (p, v) => t.setIfInBounds p v) a.tmps, defers := [] } W)
    (hbody : ∀ (l : Nat) (pre : List α) (x : α) (a' : Act) (W : World), w.heap.size ≤ l → (∃ r, W.heap[l]? = some (.loop r)) → I pre W → Ax x a' W → Sp (pre ++ [x]) → body.wpIn (F.inRound l) (n - 1 - 1) P (ownPostG w.heap.size (Kp (l + 1)) I Ix (pre ++ [x]) W) a' W)
    (hdone : ∀ (D : Nat) (xs : List α) (W : World), w.heap.size ≤ D → S xs → I xs W → W.heap[D]? = some (.deferred (some [])) → Q .normal { a with defers := { target := .collected D, args := #[] } :: a.defers } W)
    (hstop : ∀ (D : Nat) (c : Code) (pre : List α) (W : World), w.heap.size ≤ D → Sp pre → Ix c pre W → W.heap[D]? = some (.deferred (some [])) → c.wpIn F n P Q { a with defers := { target := .collected D, args := #[] } :: a.defers } W) :
    (Code.rangeFunc g ps assign body).wpIn F n P Q a w := by
  refine wpIn_rangeFunc fun fn hfn => ?_
  rw [hro]
  have hs : (w.alloc (.deferred (some []))).heap.size = w.heap.size + 1 := by simp
  have hD0 : ((w.alloc (.deferred (some []))).alloc (.loop (lrec fn a.tmps ps assign body w.heap.size .ready none))).heap[w.heap.size]? = some (.deferred (some [])) := (Below.heap_alloc _ _ _ (by simp)).trans (World.alloc_heap_new w _)
  have hL0 := World.alloc_heap_new (w.alloc (.deferred (some []))) (.loop (lrec fn a.tmps ps assign body w.heap.size .ready none))
  rw [hs] at hL0
  have hI1 : OwnFrom (w.heap.size + 1) (fun pre W => I pre W ∧ W.heap[w.heap.size]? = some (.deferred (some []))) := fun s A C row hq hgr hr => ⟨own_le hI (Nat.le_succ _) s A C row hq.1 hgr hr, rec_stays hgr hr (Nat.lt_succ_self _) hq.2⟩
  have hX1 : ∀ c, OwnFrom (w.heap.size + 1) (fun pre W => Ix c pre W ∧ W.heap[w.heap.size]? = some (.deferred (some []))) := fun c s A C row hq hgr hr => ⟨own_le (hIx c) (Nat.le_succ _) s A C row hq.1 hgr hr, rec_stays hgr hr (Nat.lt_succ_self _) hq.2⟩
  have hE := run_enterLoop_outer (P := P) (w := w) fn a.tmps ps assign body
  have hbW := hb0.trans ((((Below.refl _ w).alloc (Nat.le_refl _) (.deferred (some []))).alloc (by simp) (.loop (lrec fn a.tmps ps assign body w.heap.size .ready none))).mono hb0.size)
  have hiW := hI.alloc (.loop (lrec fn a.tmps ps assign body w.heap.size .ready none)) (hI.alloc (.deferred (some [])) h0)
  have hsW : ((w.alloc (.deferred (some []))).alloc (.loop (lrec fn a.tmps ps assign body w.heap.size .ready none))).heap.size = w.heap.size + 1 + 1 := by simp
  change _ = Result.ok _ ((w.alloc (.deferred (some []))).alloc (.loop (lrec fn a.tmps ps assign body w.heap.size .ready none))) at hE
  generalize (w.alloc (.deferred (some []))).alloc (.loop (lrec fn a.tmps ps assign body w.heap.size .ready none)) = W1 at *
  refine ⟨w.heap.size + 1, [{ target := .collected w.heap.size, args := #[] }], W1, { target := .fn (.func gf) lb, args := #[.func (.yield (w.heap.size + 1)) #[] #[]] }, W1, gf, #[.func (.yield (w.heap.size + 1)) #[] #[]] ++ lb, W1, hE, ?_, ?_, ?_, fun _ => h1, ?_⟩
  · simp only [resolve, hg]
    simp [go_sem]
  · intro f' hf'; simp [Target.leads] at hf'; subst hf'; exact hFg
  · simp [invoke, go_sem, eg]
  refine (seqP_core (B := w.heap.size) hfn (Nat.le_succ _) hsW hL0 hseq hbW (fun h k => hKt _ h k) (fun W o o' => hKb W _ o o' (Nat.le_succ _)) hps _ _ hI1 hX1 ⟨hiW, hD0⟩ Ax (fun x a' => own_le (hAx x a') (Nat.le_succ _)) ?_ ?_).mono ?_
  · rintro pre x W K ⟨hi, hd⟩ hK
    exact hassign _ pre x W K (Nat.le_succ _) hi fun a' W' k1 k2 k3 k4 => hK a' W' k1 k2 ⟨k3, k1.same _ _ (Nat.le_refl _) hd rfl⟩ k4
  · rintro pre x a' W hr ⟨hi, hd⟩ hax hlen
    refine wpIn_mono (hbody _ pre x a' W (Nat.le_succ _) hr hi hax hlen) ?_
    rintro e a3 U hp
    cases e with
    | normal => exact ⟨hp.1, hp.2.1, hp.2.2, hp.1.same _ _ (Nat.le_refl _) hd rfl⟩
    | ret => exact ⟨hp.1, hp.2, hp.1.same _ _ (Nat.le_refl _) hd rfl⟩
    | exit i => exact ⟨hp.1, hp.2, hp.1.same _ _ (Nat.le_refl _) hd rfl⟩
    | goto t => exact ⟨hp.1, hp.2, hp.1.same _ _ (Nat.le_refl _) hd rfl⟩
    | panic c => exact hp.elim
    | outgrown => exact hp.elim
  · rintro e W2 ⟨⟨v, rfl⟩, (⟨xs, hS, ⟨hi, hd⟩, hl⟩ | ⟨pre, hSp, c, ⟨hi, hd⟩, hl⟩)⟩
    · exact ⟨none, _, run_endLoop (P := P) hl (by simp [lrec]), hdone _ xs _ (Nat.le_refl _) hS (hI.putObj _ hi (Nat.le_succ _) hl rfl) ((World.putObj_heap_other (by omega)).trans hd)⟩
    · exact ⟨some c, _, run_endLoop (P := P) hl (by simp [lrec]), hstop _ c pre _ (Nat.le_refl _) hSp ((hIx c).putObj _ hi (Nat.le_succ _) hl rfl) ((World.putObj_heap_other (by omega)).trans hd)⟩
/-- The same within a round of another loop. -/
theorem rangeP_in {α : Type} {g : Operand} {ps : Array Tmp} {assign body : Code} {Q : Exit → Act → World → Prop} {a : Act} {w : World}
    {l₀ : Nat} {r₀ : Loop} (hro : F.round = some l₀) (hl₀ : w.heap[l₀]? = some (.loop r₀)) (h1 : 1 ≤ n) {gf : Nat} {lb : Array Value} (hg : a.eval g = .func (.func gf) #[] lb) (hFg : F.fn gf) (eg : ∀ args w, (callFunc gf args).run P w = .ok (.enter gf args) w)
    {encs : α → Array Value} {Kp : Nat → World → World → Prop} {S Sp : List α → Prop} {w0 : World} (hseq : SeqP F (n - 1) P gf lb encs Kp S Sp w0)
    (hKt : ∀ (N : Nat) {A B C : World}, Kp N A B → Kp N B C → Kp N A C) (hKb : ∀ (W : World) (l : Nat) (o o' : Obj), w.heap.size ≤ l → W.heap[l]? = some o → o.isCells = false → o.isWalk = false → Kp (l + 1) W (W.putObj l o')) (hb0 : Below w0.heap.size w0 w) (hps : ∀ x, (encs x).size = ps.size)
    (I : List α → World → Prop) (Ix : Code → List α → World → Prop) (hI : OwnFrom w.heap.size I) (hIx : ∀ c, OwnFrom w.heap.size (Ix c)) (h0 : I [] w) (Ax : α → Act → World → Prop) (hAx : ∀ x a', OwnFrom w.heap.size (fun (_ : Unit) W => Ax x a' W))
    (hassign : ∀ (l : Nat) (pre : List α) (x : α) (W : World) (K : Act → World → Prop), w.heap.size ≤ l → I pre W → (∀ a' W', KeepsFrom w.heap.size W W' → Kp (l + 1) W W' → I pre W' → Ax x a' W' → K a' W') →
      assign.wpIn (F.inRound l) (n - 1 - 1) P (Exit.then K (fun _ _ _ => False)) { tmps := (ps.zip (encs x)).foldl (fun t (p, v) => t.setIfInBounds p v) a.tmps, defers := [] } W)
    (hbody : ∀ (l : Nat) (pre : List α) (x : α) (a' : Act) (W : World), w.heap.size ≤ l → (∃ r, W.heap[l]? = some (.loop r)) → I pre W → Ax x a' W → Sp (pre ++ [x]) → body.wpIn (F.inRound l) (n - 1 - 1) P (ownPostG w.heap.size (Kp (l + 1)) I Ix (pre ++ [x]) W) a' W)
    (hdone : ∀ (xs : List α) (W : World), S xs → I xs W → Q .normal a W)
    (hstop : ∀ (c : Code) (pre : List α) (W : World), Sp pre → Ix c pre W → c.wpIn F n P Q a W) :
    (Code.rangeFunc g ps assign body).wpIn F n P Q a w := by
  refine wpIn_rangeFunc fun fn hfn => ?_
  rw [hro]
  have hL0 := World.alloc_heap_new w (.loop (lrec fn a.tmps ps assign body r₀.defers .ready none))
  have hE := run_enterLoop_inner (P := P) hl₀ fn a.tmps ps assign body
  have hbW := hb0.trans (((Below.refl _ w).alloc (Nat.le_refl _) (.loop (lrec fn a.tmps ps assign body r₀.defers .ready none))).mono hb0.size)
  have hiW := hI.alloc (.loop (lrec fn a.tmps ps assign body r₀.defers .ready none)) h0
  have hsW : (w.alloc (.loop (lrec fn a.tmps ps assign body r₀.defers .ready none))).heap.size = w.heap.size + 1 := by simp
  change _ = Result.ok _ (w.alloc (.loop (lrec fn a.tmps ps assign body r₀.defers .ready none))) at hE
  generalize w.alloc (.loop (lrec fn a.tmps ps assign body r₀.defers .ready none)) = W1 at *
  refine ⟨w.heap.size, [], W1, { target := .fn (.func gf) lb, args := #[.func (.yield w.heap.size) #[] #[]] }, W1, gf, #[.func (.yield w.heap.size) #[] #[]] ++ lb, W1, hE, ?_, ?_, ?_, fun _ => h1, ?_⟩
  · simp only [resolve, hg]
    simp [go_sem]
  · intro f' hf'; simp [Target.leads] at hf'; subst hf'; exact hFg
  · simp [invoke, go_sem, eg]
  refine (seqP_core (B := w.heap.size) hfn (Nat.le_refl _) hsW hL0 hseq hbW (fun h k => hKt _ h k) (fun W o o' => hKb W _ o o' (Nat.le_refl _)) hps _ _ hI hIx hiW Ax hAx (fun pre x W K => hassign _ pre x W K (Nat.le_refl _)) (fun pre x a' W => hbody _ pre x a' W (Nat.le_refl _))).mono ?_
  rintro e W2 ⟨⟨v, rfl⟩, (⟨xs, hS, hi, hl⟩ | ⟨pre, hSp, c, hi, hl⟩)⟩
  · exact ⟨none, _, run_endLoop (P := P) hl (by simp [lrec]), hdone xs _ hS (hI.putObj _ hi (Nat.le_refl _) hl rfl)⟩
  · exact ⟨some c, _, run_endLoop (P := P) hl (by simp [lrec]), hstop c pre _ hSp ((hIx c).putObj _ hi (Nat.le_refl _) hl rfl)⟩
end Go.Proofs.YtffbdnlfknomnaaDoor
/- Iterators that write cells of their own between the rounds: as RngP, the caller's word abides any turn of what was laid since the call. -/
namespace Go.Proofs.YtffbdnlfknomnaaDoor
open Go.RowKit

variable {F : Fence} {n : Nat} {P : Program}

/-- A word that abides any turn of one block from B on. -/
def OwnAll {β : Type} (B : Nat) (I : β → World → Prop) : Prop := ∀ s W W' row, I s W → W.grownBy W' row → (∀ r, row = some r → B ≤ r) → I s W'
theorem OwnAll.from {β : Type} {B : Nat} {I : β → World → Prop} (h : OwnAll B I) : OwnFrom B I := fun s W W' row hs hg hr => h s W W' row hs hg fun r e => (hr r e).1
theorem OwnAll.putObj {β : Type} {B : Nat} {I : β → World → Prop} (h : OwnAll B I) {s : β} {W : World} {l : Nat} {o : Obj} (o' : Obj) (hs : I s W) (hB : B ≤ l) (_ : W.heap[l]? = some o) (_ : o.isCells = false) : I s (W.putObj l o') :=
  h s W _ (some l) hs (grownBy_putObj' W l o') (fun r e => by cases e; exact hB)
theorem OwnAll.alloc {β : Type} {B : Nat} {I : β → World → Prop} (h : OwnAll B I) {s : β} {W : World} (o : Obj) (hs : I s W) : I s (W.alloc o) := h s W _ none hs (World.grownBy_alloc W o none) (fun r e => by cases e)
theorem OwnAll.setCell {β : Type} {B : Nat} {I : β → World → Prop} (h : OwnAll B I) {s : β} {W : World} {l : Nat} (v : Value) (hs : I s W) (hB : B ≤ l) : I s (W.setCell ⟨l, 0, none⟩ v) :=
  h s W _ (some l) hs (grownBy_setCell' W l v) (fun r e => by cases e; exact hB)
theorem own_leA {β : Type} {B C : Nat} {J : β → World → Prop} (h : OwnAll B J) (hBC : B ≤ C) : OwnAll C J := fun s W W' row hs hg hr => h s W W' row hs hg fun r e => Nat.le_trans hBC (hr r e)
theorem recA_stays {A C : World} {row : Option Nat} {m k : Nat} {o : Obj} (hg : A.grownBy C row) (hr : ∀ r, row = some r → m ≤ r) (hk : k < m) (h : A.heap[k]? = some o) : C.heap[k]? = some o :=
  (hg.block k (Array.getElem?_eq_some_iff.1 h).1 fun e => by have := hr k e.symm; omega).trans h
/-- The contract of an iterator whose body is told that what comes is what is to come, and may be asked to leave what was laid since. -/
def SeqQ {α : Type} (F : Fence) (n : Nat) (P : Program) (g : Nat) (lb : Array Value) (encs : α → Array Value) (Kp : Nat → World → World → Prop) (S Sp : List α → Prop) (w : World) : Prop :=
  ∀ (l : Nat) (J Jx : List α → World → Prop) (W : World), Below w.heap.size w W → OwnAll W.heap.size J → OwnAll W.heap.size Jx →
    (∀ pre x W1, J pre W1 → Sp (pre ++ [x]) → YieldAt F (n - 1) P l (encs x) W1 fun e W' =>
      KeepsFrom W.heap.size W1 W' ∧ ((e = .returned (.bool true) ∧ J (pre ++ [x]) W' ∧ Kp W.heap.size W1 W') ∨ (e = .returned (.bool false) ∧ Jx (pre ++ [x]) W'))) →
    J [] W →
    CallsIn F n P g (#[.func (.yield l) #[] #[]] ++ lb) W fun e W' => (∃ v, e = .returned v) ∧ ((∃ xs, S xs ∧ J xs W') ∨ (∃ pre, Sp pre ∧ Jx pre W'))
theorem seqQ_core {α : Type} {fn : FuncId} (hfn : F.fn fn) {ps : Array Tmp} {assign body : Code} {tm : Array Value} {df lr B : Nat} {W1 w0 : World} (hB : B ≤ lr) (hsz : W1.heap.size = lr + 1)
    (hL : W1.heap[lr]? = some (.loop (lrec fn tm ps assign body df .ready none)))
    {gf : Nat} {lb : Array Value} {encs : α → Array Value} {Kp : Nat → World → World → Prop} {S Sp : List α → Prop} (hseq : SeqQ F n P gf lb encs Kp S Sp w0) (hb1 : Below w0.heap.size w0 W1)
    (hKt : ∀ {A B C : World}, Kp (lr + 1) A B → Kp (lr + 1) B C → Kp (lr + 1) A C) (hKb : ∀ (W : World) (o o' : Obj), W.heap[lr]? = some o → o.isCells = false → o.isWalk = false → Kp (lr + 1) W (W.putObj lr o')) (hps : ∀ x, (encs x).size = ps.size)
    (I : List α → World → Prop) (Ix : Code → List α → World → Prop) (hI : OwnAll lr I) (hIx : ∀ c, OwnAll lr (Ix c)) (h0 : I [] W1) (Ax : α → Act → World → Prop) (hAx : ∀ x a', OwnAll lr (fun (_ : Unit) W => Ax x a' W))
    (hassign : ∀ (pre : List α) (x : α) (W : World) (K : Act → World → Prop), I pre W → (∀ a' W', KeepsFrom B W W' → Kp (lr + 1) W W' → I pre W' → Ax x a' W' → K a' W') →
      assign.wpIn (F.inRound lr) (n - 1) P (Exit.then K (fun _ _ _ => False)) { tmps := (ps.zip (encs x)).foldl (fun t (p, v) => t.setIfInBounds p v) tm, defers := [] } W)
    (hbody : ∀ (pre : List α) (x : α) (a' : Act) (W : World), (∃ r, W.heap[lr]? = some (.loop r)) → I pre W → Ax x a' W → Sp (pre ++ [x]) → body.wpIn (F.inRound lr) (n - 1) P (ownPostG B (Kp (lr + 1)) I Ix (pre ++ [x]) W) a' W) :
    CallsIn F n P gf (#[.func (.yield lr) #[] #[]] ++ lb) W1 fun e W => (∃ v, e = .returned v) ∧
      ((∃ xs, S xs ∧ I xs W ∧ W.heap[lr]? = some (.loop (lrec fn tm ps assign body df .ready none))) ∨ ∃ pre, Sp pre ∧ ∃ c, Ix c pre W ∧ W.heap[lr]? = some (.loop (lrec fn tm ps assign body df .done (some c)))) := by
  refine hseq lr (fun pre W => I pre W ∧ W.heap[lr]? = some (.loop (lrec fn tm ps assign body df .ready none))) (fun pre W => ∃ c, Ix c pre W ∧ W.heap[lr]? = some (.loop (lrec fn tm ps assign body df .done (some c)))) W1 hb1 ?_ ?_ ?_ ⟨h0, hL⟩
  · intro s A C row hs hg hr
    exact ⟨own_leA hI (by omega) s A C row hs.1 hg hr, recA_stays hg hr (by omega) hs.2⟩
  · rintro s A C row ⟨c, h1, h2⟩ hg hr
    exact ⟨c, own_leA (hIx c) (by omega) s A C row h1 hg hr, recA_stays hg hr (by omega) h2⟩
  rintro pre x W ⟨hi, hl⟩ hlen
  refine ⟨fn, _, assign, body, run_yield (P := P) (args := encs x) hl (hps x), roundIn_of_wpIn hfn (hassign pre x W _ hi fun a' V hkf hkp hi' hax => ?_)⟩
  have hv := hkf.same lr _ hB hl rfl
  have hlt : lr < V.heap.size := (Array.getElem?_eq_some_iff.1 hv).1
  refine ⟨_, run_beginRound hv rfl, ?_⟩
  have hbz : (V.putObj lr (.loop (lrec fn tm ps assign body df .busy none))).heap[lr]? = some (.loop (lrec fn tm ps assign body df .busy none)) := World.putObj_heap_same hlt
  refine wpIn_mono (hbody pre x a' _ ⟨_, hbz⟩ (hI.putObj _ hi' (Nat.le_refl _) hv rfl) ((hAx x a').putObj (s := ()) _ hax (Nat.le_refl _) hv rfl) hlen) ?_
  have hK0 := hKb V _ (.loop (lrec fn tm ps assign body df .busy none)) hv rfl rfl
  have hk0 : KeepsFrom (lr + 1) W (V.putObj lr (.loop (lrec fn tm ps assign body df .busy none))) := (keeps_le hkf (by omega)).trans (keeps_put V lr _)
  have fin : ∀ (j : Option Code) (U : World), KeepsFrom B (V.putObj lr (.loop (lrec fn tm ps assign body df .busy none))) U → ∃ U' : World, KeepsFrom (lr + 1) W U' ∧ (Instr.endRound lr j).run P U = .ok (.bool j.isNone) U' ∧ U' = U.putObj lr (.loop (lrec fn tm ps assign body df (if j.isNone then .ready else .done) j)) ∧ (∃ o, U.heap[lr]? = some o ∧ o.isCells = false ∧ o.isWalk = false) ∧ U'.heap[lr]? = some (.loop (lrec fn tm ps assign body df (if j.isNone then .ready else .done) j)) := fun j U hk => by
    have h3 := hk.same lr _ hB hbz rfl
    exact ⟨_, (hk0.trans (keeps_le hk (by omega))).trans (keeps_put U lr _), run_endRound (P := P) j h3, rfl, ⟨_, h3, rfl, rfl⟩, World.putObj_heap_same (Array.getElem?_eq_some_iff.1 h3).1⟩
  have leave : ∀ (c : Code) (U : World), KeepsFrom B (V.putObj lr (.loop (lrec fn tm ps assign body df .busy none))) U → Ix c (pre ++ [x]) U → ∃ (v : Value) (U' : World), KeepsFrom (lr + 1) W U' ∧ (Instr.endRound lr (some c)).run P U = .ok v U' ∧ (v = .bool false ∧ ∃ c, Ix c (pre ++ [x]) U' ∧ U'.heap[lr]? = some (.loop (lrec fn tm ps assign body df .done (some c)))) := fun c U hk hx => by
    obtain ⟨U', hkk, hr, rfl, ⟨o, ho, hc, _⟩, hl'⟩ := fin (some c) U hk
    exact ⟨_, _, hkk, hr, rfl, c, (hIx c).putObj _ hx (Nat.le_refl _) ho hc, hl'⟩
  rintro e a3 U hp
  cases e with
  | normal =>
    obtain ⟨hk, hkp', hi3⟩ := hp
    obtain ⟨U', hkk, hr, rfl, ⟨o, ho, hc, hw⟩, hl'⟩ := fin none U hk
    exact ⟨_, _, hr, by rw [hsz]; exact hkk, .inl ⟨rfl, ⟨hI.putObj _ hi3 (Nat.le_refl _) ho hc, hl'⟩, by rw [hsz]; exact hKt hkp (hKt hK0 (hKt hkp' (hKb U o _ ho hc hw)))⟩⟩
  | ret =>
    obtain ⟨v, U', hkk, hr, rfl, h⟩ := leave .ret U hp.1 hp.2
    exact ⟨_, _, hr, by rw [hsz]; exact hkk, .inr ⟨rfl, h⟩⟩
  | exit i =>
    obtain ⟨v, U', hkk, hr, rfl, h⟩ := leave (.exit i) U hp.1 hp.2
    exact ⟨_, _, hr, by rw [hsz]; exact hkk, .inr ⟨rfl, h⟩⟩
  | goto t =>
    obtain ⟨v, U', hkk, hr, rfl, h⟩ := leave (.goto t) U hp.1 hp.2
    exact ⟨_, _, hr, by rw [hsz]; exact hkk, .inr ⟨rfl, h⟩⟩
  | panic c => exact hp.elim
  | outgrown => exact hp.elim
/-- A range over an iterator, by itself: the body may leave; loop variables may be boxed. -/
theorem rangeQ {α : Type} {g : Operand} {ps : Array Tmp} {assign body : Code} {Q : Exit → Act → World → Prop} {a : Act} {w : World}
    (hro : F.round = none) (h1 : 1 ≤ n) {gf : Nat} {lb : Array Value} (hg : a.eval g = .func (.func gf) #[] lb) (hFg : F.fn gf) (eg : ∀ args w, (callFunc gf args).run P w = .ok (.enter gf args) w)
    {encs : α → Array Value} {Kp : Nat → World → World → Prop} {S Sp : List α → Prop} {w0 : World} (hseq : SeqQ F (n - 1) P gf lb encs Kp S Sp w0)
    (hKt : ∀ (N : Nat) {A B C : World}, Kp N A B → Kp N B C → Kp N A C) (hKb : ∀ (W : World) (l : Nat) (o o' : Obj), w.heap.size ≤ l → W.heap[l]? = some o → o.isCells = false → o.isWalk = false → Kp (l + 1) W (W.putObj l o')) (hb0 : Below w0.heap.size w0 w) (hps : ∀ x, (encs x).size = ps.size)
    (I : List α → World → Prop) (Ix : Code → List α → World → Prop) (hI : OwnAll w.heap.size I) (hIx : ∀ c, OwnAll w.heap.size (Ix c)) (h0 : I [] w) (Ax : α → Act → World → Prop) (hAx : ∀ x a', OwnAll w.heap.size (fun (_ : Unit) W => Ax x a' W))
    (hassign : ∀ (l : Nat) (pre : List α) (x : α) (W : World) (K : Act → World → Prop), w.heap.size ≤ l → I pre W → (∀ a' W', KeepsFrom w.heap.size W W' → Kp (l + 1) W W' → I pre W' → Ax x a' W' → K a' W') →
      assign.wpIn (F.inRound l) (n - 1 - 1) P (Exit.then K (fun _ _ _ => False)) { tmps := (ps.zip (encs x)).foldl (fun t (p, v) => t.setIfInBounds p v) a.tmps, defers := [] } W)
    (hbody : ∀ (l : Nat) (pre : List α) (x : α) (a' : Act) (W : World), w.heap.size ≤ l → (∃ r, W.heap[l]? = some (.loop r)) → I pre W → Ax x a' W → Sp (pre ++ [x]) → body.wpIn (F.inRound l) (n - 1 - 1) P (ownPostG w.heap.size (Kp (l + 1)) I Ix (pre ++ [x]) W) a' W)
    (hdone : ∀ (D : Nat) (xs : List α) (W : World), w.heap.size ≤ D → S xs → I xs W → W.heap[D]? = some (.deferred (some [])) → Q .normal { a with defers := { target := .collected D, args := #[] } :: a.defers } W)
    (hstop : ∀ (D : Nat) (c : Code) (pre : List α) (W : World), w.heap.size ≤ D → Sp pre → Ix c pre W → W.heap[D]? = some (.deferred (some [])) → c.wpIn F n P Q { a with defers := { target := .collected D, args := #[] } :: a.defers } W) :
    (Code.rangeFunc g ps assign body).wpIn F n P Q a w := by
  refine wpIn_rangeFunc fun fn hfn => ?_
  rw [hro]
  have hs : (w.alloc (.deferred (some []))).heap.size = w.heap.size + 1 := by simp
  have hD0 : ((w.alloc (.deferred (some []))).alloc (.loop (lrec fn a.tmps ps assign body w.heap.size .ready none))).heap[w.heap.size]? = some (.deferred (some [])) := (Below.heap_alloc _ _ _ (by simp)).trans (World.alloc_heap_new w _)
  have hL0 := World.alloc_heap_new (w.alloc (.deferred (some []))) (.loop (lrec fn a.tmps ps assign body w.heap.size .ready none))
  rw [hs] at hL0
  have hI1 : OwnAll (w.heap.size + 1) (fun pre W => I pre W ∧ W.heap[w.heap.size]? = some (.deferred (some []))) := fun s A C row hq hgr hr => ⟨own_leA hI (Nat.le_succ _) s A C row hq.1 hgr hr, recA_stays hgr hr (Nat.lt_succ_self _) hq.2⟩
  have hX1 : ∀ c, OwnAll (w.heap.size + 1) (fun pre W => Ix c pre W ∧ W.heap[w.heap.size]? = some (.deferred (some []))) := fun c s A C row hq hgr hr => ⟨own_leA (hIx c) (Nat.le_succ _) s A C row hq.1 hgr hr, recA_stays hgr hr (Nat.lt_succ_self _) hq.2⟩
  have hE := run_enterLoop_outer (P := P) (w := w) fn a.tmps ps assign body
  have hbW := hb0.trans ((((Below.refl _ w).alloc (Nat.le_refl _) (.deferred (some []))).alloc (by simp) (.loop (lrec fn a.tmps ps assign body w.heap.size .ready none))).mono hb0.size)
  have hiW := hI.alloc (.loop (lrec fn a.tmps ps assign body w.heap.size .ready none)) (hI.alloc (.deferred (some [])) h0)
  have hsW : ((w.alloc (.deferred (some []))).alloc (.loop (lrec fn a.tmps ps assign body w.heap.size .ready none))).heap.size = w.heap.size + 1 + 1 := by simp
  change _ = Result.ok _ ((w.alloc (.deferred (some []))).alloc (.loop (lrec fn a.tmps ps assign body w.heap.size .ready none))) at hE
  generalize (w.alloc (.deferred (some []))).alloc (.loop (lrec fn a.tmps ps assign body w.heap.size .ready none)) = W1 at *
  refine ⟨w.heap.size + 1, [{ target := .collected w.heap.size, args := #[] }], W1, { target := .fn (.func gf) lb, args := #[.func (.yield (w.heap.size + 1)) #[] #[]] }, W1, gf, #[.func (.yield (w.heap.size + 1)) #[] #[]] ++ lb, W1, hE, ?_, ?_, ?_, fun _ => h1, ?_⟩
  · simp only [resolve, hg]
    simp [go_sem]
  · intro f' hf'; simp [Target.leads] at hf'; subst hf'; exact hFg
  · simp [invoke, go_sem, eg]
  refine (seqQ_core (B := w.heap.size) hfn (Nat.le_succ _) hsW hL0 hseq hbW (fun h k => hKt _ h k) (fun W o o' => hKb W _ o o' (Nat.le_succ _)) hps _ _ hI1 hX1 ⟨hiW, hD0⟩ Ax (fun x a' => own_leA (hAx x a') (Nat.le_succ _)) ?_ ?_).mono ?_
  · rintro pre x W K ⟨hi, hd⟩ hK
    exact hassign _ pre x W K (Nat.le_succ _) hi fun a' W' k1 k2 k3 k4 => hK a' W' k1 k2 ⟨k3, k1.same _ _ (Nat.le_refl _) hd rfl⟩ k4
  · rintro pre x a' W hr ⟨hi, hd⟩ hax hlen
    refine wpIn_mono (hbody _ pre x a' W (Nat.le_succ _) hr hi hax hlen) ?_
    rintro e a3 U hp
    cases e with
    | normal => exact ⟨hp.1, hp.2.1, hp.2.2, hp.1.same _ _ (Nat.le_refl _) hd rfl⟩
    | ret => exact ⟨hp.1, hp.2, hp.1.same _ _ (Nat.le_refl _) hd rfl⟩
    | exit i => exact ⟨hp.1, hp.2, hp.1.same _ _ (Nat.le_refl _) hd rfl⟩
    | goto t => exact ⟨hp.1, hp.2, hp.1.same _ _ (Nat.le_refl _) hd rfl⟩
    | panic c => exact hp.elim
    | outgrown => exact hp.elim
  · rintro e W2 ⟨⟨v, rfl⟩, (⟨xs, hS, ⟨hi, hd⟩, hl⟩ | ⟨pre, hSp, c, ⟨hi, hd⟩, hl⟩)⟩
    · exact ⟨none, _, run_endLoop (P := P) hl (by simp [lrec]), hdone _ xs _ (Nat.le_refl _) hS (hI.putObj _ hi (Nat.le_succ _) hl rfl) ((World.putObj_heap_other (by omega)).trans hd)⟩
    · exact ⟨some c, _, run_endLoop (P := P) hl (by simp [lrec]), hstop _ c pre _ (Nat.le_refl _) hSp ((hIx c).putObj _ hi (Nat.le_succ _) hl rfl) ((World.putObj_heap_other (by omega)).trans hd)⟩
/-- The same within a round of another loop. -/
theorem rangeQ_in {α : Type} {g : Operand} {ps : Array Tmp} {assign body : Code} {Q : Exit → Act → World → Prop} {a : Act} {w : World}
    {l₀ : Nat} {r₀ : Loop} (hro : F.round = some l₀) (hl₀ : w.heap[l₀]? = some (.loop r₀)) (h1 : 1 ≤ n) {gf : Nat} {lb : Array Value} (hg : a.eval g = .func (.func gf) #[] lb) (hFg : F.fn gf) (eg : ∀ args w, (callFunc gf args).run P w = .ok (.enter gf args) w)
    {encs : α → Array Value} {Kp : Nat → World → World → Prop} {S Sp : List α → Prop} {w0 : World} (hseq : SeqQ F (n - 1) P gf lb encs Kp S Sp w0)
    (hKt : ∀ (N : Nat) {A B C : World}, Kp N A B → Kp N B C → Kp N A C) (hKb : ∀ (W : World) (l : Nat) (o o' : Obj), w.heap.size ≤ l → W.heap[l]? = some o → o.isCells = false → o.isWalk = false → Kp (l + 1) W (W.putObj l o')) (hb0 : Below w0.heap.size w0 w) (hps : ∀ x, (encs x).size = ps.size)
    (I : List α → World → Prop) (Ix : Code → List α → World → Prop) (hI : OwnAll w.heap.size I) (hIx : ∀ c, OwnAll w.heap.size (Ix c)) (h0 : I [] w) (Ax : α → Act → World → Prop) (hAx : ∀ x a', OwnAll w.heap.size (fun (_ : Unit) W => Ax x a' W))
    (hassign : ∀ (l : Nat) (pre : List α) (x : α) (W : World) (K : Act → World → Prop), w.heap.size ≤ l → I pre W → (∀ a' W', KeepsFrom w.heap.size W W' → Kp (l + 1) W W' → I pre W' → Ax x a' W' → K a' W') →
      assign.wpIn (F.inRound l) (n - 1 - 1) P (Exit.then K (fun _ _ _ => False)) { tmps := (ps.zip (encs x)).foldl (fun t (p, v) => t.setIfInBounds p v) a.tmps, defers := [] } W)
    (hbody : ∀ (l : Nat) (pre : List α) (x : α) (a' : Act) (W : World), w.heap.size ≤ l → (∃ r, W.heap[l]? = some (.loop r)) → I pre W → Ax x a' W → Sp (pre ++ [x]) → body.wpIn (F.inRound l) (n - 1 - 1) P (ownPostG w.heap.size (Kp (l + 1)) I Ix (pre ++ [x]) W) a' W)
    (hdone : ∀ (xs : List α) (W : World), S xs → I xs W → Q .normal a W)
    (hstop : ∀ (c : Code) (pre : List α) (W : World), Sp pre → Ix c pre W → c.wpIn F n P Q a W) :
    (Code.rangeFunc g ps assign body).wpIn F n P Q a w := by
  refine wpIn_rangeFunc fun fn hfn => ?_
  rw [hro]
  have hL0 := World.alloc_heap_new w (.loop (lrec fn a.tmps ps assign body r₀.defers .ready none))
  have hE := run_enterLoop_inner (P := P) hl₀ fn a.tmps ps assign body
  have hbW := hb0.trans (((Below.refl _ w).alloc (Nat.le_refl _) (.loop (lrec fn a.tmps ps assign body r₀.defers .ready none))).mono hb0.size)
  have hiW := hI.alloc (.loop (lrec fn a.tmps ps assign body r₀.defers .ready none)) h0
  have hsW : (w.alloc (.loop (lrec fn a.tmps ps assign body r₀.defers .ready none))).heap.size = w.heap.size + 1 := by simp
  change _ = Result.ok _ (w.alloc (.loop (lrec fn a.tmps ps assign body r₀.defers .ready none))) at hE
  generalize w.alloc (.loop (lrec fn a.tmps ps assign body r₀.defers .ready none)) = W1 at *
  refine ⟨w.heap.size, [], W1, { target := .fn (.func gf) lb, args := #[.func (.yield w.heap.size) #[] #[]] }, W1, gf, #[.func (.yield w.heap.size) #[] #[]] ++ lb, W1, hE, ?_, ?_, ?_, fun _ => h1, ?_⟩
  · simp only [resolve, hg]
    simp [go_sem]
  · intro f' hf'; simp [Target.leads] at hf'; subst hf'; exact hFg
  · simp [invoke, go_sem, eg]
  refine (seqQ_core (B := w.heap.size) hfn (Nat.le_refl _) hsW hL0 hseq hbW (fun h k => hKt _ h k) (fun W o o' => hKb W _ o o' (Nat.le_refl _)) hps _ _ hI hIx hiW Ax hAx (fun pre x W K => hassign _ pre x W K (Nat.le_refl _)) (fun pre x a' W => hbody _ pre x a' W (Nat.le_refl _))).mono ?_
  rintro e W2 ⟨⟨v, rfl⟩, (⟨xs, hS, hi, hl⟩ | ⟨pre, hSp, c, hi, hl⟩)⟩
  · exact ⟨none, _, run_endLoop (P := P) hl (by simp [lrec]), hdone xs _ hS (hI.putObj _ hi (Nat.le_refl _) hl rfl)⟩
  · exact ⟨some c, _, run_endLoop (P := P) hl (by simp [lrec]), hstop c pre _ hSp ((hIx c).putObj _ hi (Nat.le_refl _) hl rfl)⟩
end Go.Proofs.YtffbdnlfknomnaaDoor
