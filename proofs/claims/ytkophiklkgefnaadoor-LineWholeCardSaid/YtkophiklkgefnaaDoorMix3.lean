/- A region that draws, gone through by hand also where two operations may come first. -/
import Derived.Test.YtkophiklkgefnaaDoorMix2
namespace Go.Proofs.YtkophiklkgefnaaDoor

/-- The orders that are gone through: one operation next (mode 0: S holds, 1: T holds, 2: by hand), or either of two by hand. -/
inductive Ot where
  | nil : Ot
  | one : Nat → Nat → Ot → Ot
  | two : Nat → Nat → Ot → Ot → Ot
def Ot.len : Ot → Nat
  | .nil => 0
  | .one _ _ r => r.len + 1
  | .two _ _ r _ => r.len + 1
section
variable {P : Program} {md : Region.Mode} {ops : Array Oper} {Q : Exit → Act → World → Prop} {S T : World → Prop} {fin : Nat → Bool}
def Region.mixT (md : Region.Mode) (ops : Array Oper) (fin : Nat → Bool) : Bool → Ot → Array Bool → Bool
  | _, .nil, listed => Region.ready md ops listed == []
  | d, .one k 0 r, listed => !d && (Region.ready md ops listed).contains k && Region.free md ops listed k && Region.finB md ops fin k && Region.mixT md ops fin d r (listed.setIfInBounds k true)
  | d, .one k 1 r, listed => (Region.ready md ops listed).contains k && Region.free md ops listed k && !fin k && Region.mixT md ops fin d r (listed.setIfInBounds k true)
  | d, .one k (_ + 2) r, listed => (Region.ready md ops listed == [k]) && Region.mixT md ops fin (d || fin k) r (listed.setIfInBounds k true)
  | d, .two i j r s, listed => (Region.ready md ops listed == [i, j]) && (r.len == s.len) && Region.mixT md ops fin (d || fin i) r (listed.setIfInBounds i true) && Region.mixT md ops fin (d || fin j) s (listed.setIfInBounds j true)
/-- One operation, by hand. -/
def wpHand (P : Program) (ops : Array Oper) (Q : Exit → Act → World → Prop) (S T : World → Prop) (fin : Nat → Bool) (d : Bool) (k : Nat) (K : Act → World → Prop) (a : Act) (w : World) : Prop :=
  ∃ o, ops[k]? = some o ∧ if Region.wanted o (yielded ops a.tmps) = true then o.wp P a w (fun a' w' => (((d || fin k) = false → S w') ∧ T w') ∧ K a' w') Q else (((d || fin k) = false → S w) ∧ T w) ∧ K (a.put o.dst undef) w
def wpMixT (P : Program) (ops : Array Oper) (Q : Exit → Act → World → Prop) (S T : World → Prop) (fin : Nat → Bool) : Bool → Ot → Act → World → Prop
  | _, .nil, a, w => Q .normal a w
  | d, .one k 0 r, a, w => ∃ o v, ops[k]? = some o ∧ YieldsIf P ops S o v a ∧ wpMixT P ops Q S T fin d r (a.put o.dst v) w
  | d, .one k 1 r, a, w => ∃ o v, ops[k]? = some o ∧ YieldsIf P ops T o v a ∧ wpMixT P ops Q S T fin d r (a.put o.dst v) w
  | d, .one k (_ + 2) r, a, w => wpHand P ops Q S T fin d k (wpMixT P ops Q S T fin (d || fin k) r) a w
  | d, .two i j r s, a, w => wpHand P ops Q S T fin d i (wpMixT P ops Q S T fin (d || fin i) r) a w ∧ wpHand P ops Q S T fin d j (wpMixT P ops Q S T fin (d || fin j) s) a w
theorem hand_any {d : Bool} {listed : Array Bool} {i f : Nat} {K : Act → World → Prop} {a : Act} {w : World} (hkr : i ∈ Region.ready md ops listed) (hd : d = false ↔ Clean fin listed) (h : wpHand P ops Q S T fin d i K a w)
    (nx : ((d || fin i) = false ↔ Clean fin (listed.setIfInBounds i true)) → ∀ a' w', (Clean fin (listed.setIfInBounds i true) → S w') → T w' → K a' w' → anyU P md ops Q S T fin f (listed.setIfInBounds i true) a' w') :
    wpOp P ops Q i (fun a' w' => ((Clean fin (listed.setIfInBounds i true) → S w') ∧ T w') ∧ anyU P md ops Q S T fin f (listed.setIfInBounds i true) a' w') a w := by
  obtain ⟨o, h0, h⟩ := h
  have hlt : i < listed.size := by
    have h5 := (mem_ready.1 hkr).1
    rcases Nat.lt_or_ge i listed.size with h' | h'
    · exact h'
    · simp [Array.getElem?_eq_none h'] at h5
  have hdc : (d || fin i) = false ↔ Clean fin (listed.setIfInBounds i true) := by
    constructor
    · intro h5
      rw [Bool.or_eq_false_iff] at h5
      exact (hd.1 h5.1).set h5.2
    · intro h5
      rw [Bool.or_eq_false_iff]
      refine ⟨hd.2 h5.of_set, ?_⟩
      cases hfi : fin i with
      | false => rfl
      | true =>
        have h6 := h5 i hfi
        simp [hlt] at h6
  have hw : wpOp P ops Q i (fun a' w' => (((d || fin i) = false → S w') ∧ T w') ∧ K a' w') a w := by
    unfold wpOp
    simp only [h0]
    split
    · rename_i hc
      rw [if_pos hc] at h
      exact .inl h
    · rename_i hc
      rw [if_neg hc] at h
      exact h
  exact wpOp_mono (fun a' w' h' => ⟨⟨fun h5 => h'.1.1 (hdc.2 h5), h'.1.2⟩, nx hdc a' w' (fun h5 => h'.1.1 (hdc.2 h5)) h'.1.2 h'.2⟩) hw
theorem anyU_tree (hsel : Region.noSelect ops = true) (hs : ∀ j, fin j = true → j < ops.size) (hQ : ∀ c (a : Act) d v w, Q (.panic c) (a.put d v) w → Q (.panic c) a w) :
    ∀ (l : Ot) (d : Bool) (listed : Array Bool) (a : Act) (w : World), Region.mixT md ops fin d l listed = true → (d = false ↔ Clean fin listed) → (Clean fin listed → S w) → T w → wpMixT P ops Q S T fin d l a w → anyU P md ops Q S T fin l.len listed a w
  | .nil, d, listed, a, w, hB, _, _, _, h => ⟨by simpa [Region.mixT] using hB, h⟩
  | .one k 0 r, d, listed, a, w, hB, hd, hS, hT, h => by
    simp only [Region.mixT, Bool.and_eq_true, Bool.not_eq_true'] at hB
    obtain ⟨⟨⟨⟨hd0, hr⟩, hf⟩, hfb⟩, hB'⟩ := hB
    obtain ⟨hf1, hf2⟩ := finB_spec hs hfb
    obtain ⟨o, v, h0, hy, hK⟩ := h
    have hcl := hd.1 hd0
    refine anyU_first (R := S) (Clean fin) h0 hf1 (Region.noSelect_spec hsel) (fun c a w => hQ c a _ _ w) (fun ls j oj hc hoj hno => hc.set ?_) (fun _ w hc hS _ => hS hc) r.len listed a w hcl (Region.free_spec h0 hf) (by simpa using hr) hy hS hT
      (anyU_tree hsel hs hQ r d _ _ w hB' ⟨fun _ => hcl.set hf1, fun _ => hd0⟩ (fun h => hS h.of_set) hT hK)
    cases hfj : fin j with
    | false => rfl
    | true =>
      obtain ⟨ok, hok, e, he, hb, heq⟩ := Region.waitsFor_spec (hf2 j hfj)
      rw [hoj] at hok
      cases hok
      exact absurd heq (hno e he hb)
  | .one k 1 r, d, listed, a, w, hB, hd, hS, hT, h => by
    simp only [Region.mixT, Bool.and_eq_true, Bool.not_eq_true'] at hB
    obtain ⟨⟨⟨hr, hf⟩, hf1⟩, hB'⟩ := hB
    obtain ⟨o, v, h0, hy, hK⟩ := h
    exact anyU_first (R := T) (fun _ => True) h0 hf1 (Region.noSelect_spec hsel) (fun c a w => hQ c a _ _ w) (fun _ _ _ _ _ _ => trivial) (fun _ _ _ _ hT => hT) r.len listed a w trivial (Region.free_spec h0 hf) (by simpa using hr) hy hS hT
      (anyU_tree hsel hs hQ r d _ _ w hB' ⟨fun h => (hd.1 h).set hf1, fun h => hd.2 h.of_set⟩ (fun h => hS h.of_set) hT hK)
  | .one k (m + 2) r, d, listed, a, w, hB, hd, hS, hT, h => by
    simp only [Region.mixT, Bool.and_eq_true, beq_iff_eq] at hB
    obtain ⟨hr, hB'⟩ := hB
    refine ⟨fun h1 => (by rw [hr] at h1; cases h1), fun i hi => ?_⟩
    have hik : i = k := by rw [hr] at hi; simpa using hi
    subst hik
    exact hand_any hi hd h (fun hdc a' w' h1 h2 h3 => anyU_tree hsel hs hQ r _ _ a' w' hB' hdc h1 h2 h3)
  | .two i j r s, d, listed, a, w, hB, hd, hS, hT, h => by
    simp only [Region.mixT, Bool.and_eq_true, beq_iff_eq] at hB
    obtain ⟨⟨⟨hr, hl⟩, hB1⟩, hB2⟩ := hB
    obtain ⟨g1, g2⟩ := h
    refine ⟨fun h1 => (by rw [hr] at h1; cases h1), fun k hk => ?_⟩
    have hkk : k = i ∨ k = j := by rw [hr] at hk; simpa using hk
    rcases hkk with e | e
    · subst e
      exact hand_any hk hd g1 (fun hdc a' w' h1 h2 h3 => anyU_tree hsel hs hQ r _ _ a' w' hB1 hdc h1 h2 h3)
    · subst e
      refine hand_any hk hd g2 (fun hdc a' w' h1 h2 h3 => ?_)
      have h5 := anyU_tree hsel hs hQ s _ _ a' w' hB2 hdc h1 h2 h3
      rw [← hl] at h5
      exact h5
/-- The law. -/
theorem wp_region_mixT {id : Nat} {a : Act} {w : World} {l : List Oper} (ord : Ot) (S T : World → Prop) (fin : Nat → Bool) (hm : P.follows .mixedOrders = true) (hsel : Region.noSelect l.toArray = true) (hs : ∀ j, fin j = true → j < l.length)
    (hlen : ord.len = l.length) (hB : Region.mixT .any l.toArray fin false ord (Array.replicate l.length false) = true) (hS : S w.drew) (hT : T w.drew)
    (h : wpMixT P l.toArray (NoPanic Q) S T fin false ord a w.drew) : (Code.region id l.toArray true).wp P Q a w := by
  refine wp_region_noPanic (wp_region_any hm (anyU_any (S := S) (T := T) (fin := fin) _ _ _ _ ?_))
  have H := anyU_tree (P := P) (ops := l.toArray) (Q := NoPanic Q) (md := .any) (S := S) (T := T) (fin := fin) hsel (by simpa using hs) (fun _ _ _ _ _ h => h) ord false (Array.replicate l.length false) a w.drew hB
    ⟨fun _ j hj => (by have h5 := hs j hj; simp [h5]), fun _ => rfl⟩ (fun _ => hS) hT h
  rw [hlen] at H
  simpa using H
theorem mixT_s {d : Bool} {o : Oper} {k : Nat} {r : Ot} {a : Act} {w : World} (v : Value) (h0 : ops[k]? = some o) (hw : Region.wanted o (yielded ops a.tmps) = true) (h1 : ∀ w, S w → (execOp a.eval o).run P w = .ok (.value v) w) (h2 : wpMixT P ops Q S T fin d r (a.put o.dst v) w) : wpMixT P ops Q S T fin d (.one k 0 r) a w :=
  ⟨o, v, h0, .inl ⟨hw, h1⟩, h2⟩
theorem mixT_t {d : Bool} {o : Oper} {k : Nat} {r : Ot} {a : Act} {w : World} (v : Value) (h0 : ops[k]? = some o) (hw : Region.wanted o (yielded ops a.tmps) = true) (h1 : ∀ w, T w → (execOp a.eval o).run P w = .ok (.value v) w) (h2 : wpMixT P ops Q S T fin d r (a.put o.dst v) w) : wpMixT P ops Q S T fin d (.one k 1 r) a w :=
  ⟨o, v, h0, .inl ⟨hw, h1⟩, h2⟩
theorem hand_go {d : Bool} {o : Oper} {k : Nat} {K : Act → World → Prop} {a : Act} {w : World} (h0 : ops[k]? = some o) (hw : Region.wanted o (yielded ops a.tmps) = true) (h : ∀ K' : Act → World → Prop, (∀ a w, ((d || fin k) = false → S w) → T w → K a w → K' a w) → o.wp P a w K' Q) : wpHand P ops Q S T fin d k K a w := by
  refine ⟨o, h0, ?_⟩
  rw [if_pos hw]
  exact h _ fun _ _ h1 h2 h3 => ⟨⟨h1, h2⟩, h3⟩
theorem mixT_go {d : Bool} {o : Oper} {k : Nat} {r : Ot} {a : Act} {w : World} (h0 : ops[k]? = some o) (hw : Region.wanted o (yielded ops a.tmps) = true) (h : ∀ K : Act → World → Prop, (∀ a w, ((d || fin k) = false → S w) → T w → wpMixT P ops Q S T fin (d || fin k) r a w → K a w) → o.wp P a w K Q) : wpMixT P ops Q S T fin d (.one k 2 r) a w :=
  hand_go h0 hw h
theorem mixT_two {d : Bool} {i j : Nat} {r s : Ot} {a : Act} {w : World} (h1 : wpHand P ops Q S T fin d i (wpMixT P ops Q S T fin (d || fin i) r) a w) (h2 : wpHand P ops Q S T fin d j (wpMixT P ops Q S T fin (d || fin j) s) a w) : wpMixT P ops Q S T fin d (.two i j r s) a w := ⟨h1, h2⟩
theorem mixT_end {d : Bool} {a : Act} {w : World} (h : Q .normal a w) : wpMixT P ops Q S T fin d .nil a w := h
end
end Go.Proofs.YtkophiklkgefnaaDoor
