/- Regions that draw their order, whose beginning only reads, and whose end may be guarded. -/
import Derived.Test.YtkophiklkgefnaaDoorHeld
namespace Go.Proofs.YtkophiklkgefnaaDoor

section
variable {P : Program} {ops : Array Oper} {Q : Exit → Act → World → Prop} {md : Region.Mode} {S : World → Prop} {fin : Nat → Bool}

/-- The end, in the order of the text, what is not wanted passed over. -/
def wpTailG (P : Program) (ops : Array Oper) (Q : Exit → Act → World → Prop) (S : World → Prop) (fin : Nat → Bool) : Nat → List Oper → Act → World → Prop
  | _, [], a, w => Q .normal a w
  | k, o :: r, a, w => if Region.wanted o (yielded ops a.tmps) = true then o.wp P a w (fun a' w' => (fin k = false → S w') ∧ wpTailG P ops Q S fin (k + 1) r a' w') Q else (fin k = false → S w) ∧ wpTailG P ops Q S fin (k + 1) r (a.put o.dst undef) w
theorem tailG_nil {k : Nat} {a : Act} {w : World} (h : Q .normal a w) : wpTailG P ops Q S fin k [] a w := h
theorem tailG_yes {o : Oper} {r : List Oper} {a : Act} {w : World} {k : Nat} (hw : Region.wanted o (yielded ops a.tmps) = true) (h : ∀ K : Act → World → Prop, (∀ a w, (fin k = false → S w) → wpTailG P ops Q S fin (k + 1) r a w → K a w) → o.wp P a w K Q) : wpTailG P ops Q S fin k (o :: r) a w := by
  unfold wpTailG
  rw [if_pos hw]
  exact h _ fun _ _ h1 h2 => ⟨h1, h2⟩
theorem tailG_no {o : Oper} {r : List Oper} {a : Act} {w : World} {k : Nat} (hw : Region.wanted o (yielded ops a.tmps) = false) (hS : S w) (h : wpTailG P ops Q S fin (k + 1) r (a.put o.dst undef) w) : wpTailG P ops Q S fin k (o :: r) a w := by
  unfold wpTailG
  rw [if_neg (by rw [hw]; decide)]
  exact ⟨fun _ => hS, h⟩
theorem holdG_yes {L : Act → Prop} {o : Oper} {r : List Oper} {a : Act} (v : Value) (hw : Region.wanted o (yielded ops a.tmps) = true) (h1 : ∀ w, S w → (execOp a.eval o).run P w = .ok (.value v) w) (h2 : wpHold P ops S L r (a.put o.dst v)) : wpHold P ops S L (o :: r) a :=
  ⟨v, .inl ⟨hw, h1⟩, h2⟩
theorem holdG_no {L : Act → Prop} {o : Oper} {r : List Oper} {a : Act} (hw : Region.wanted o (yielded ops a.tmps) = false) (h2 : wpHold P ops S L r (a.put o.dst undef)) : wpHold P ops S L (o :: r) a :=
  ⟨undef, .inr ⟨hw, rfl⟩, h2⟩

theorem anyT_tailG : ∀ (l : List Oper) (k : Nat) (listed : Array Bool) (a : Act) (w : World), (∀ j, l[j]? = ops[k + j]?) →
    Region.seqB md ops l.length k listed = true → wpTailG P ops Q S fin k l a w → anyT P md ops Q S fin l.length listed a w
  | [], _, _, _, _, _, hB, h => ⟨by simpa [Region.seqB] using hB, h⟩
  | o :: l, k, listed, a, w, hl, hB, h => by
    have h0 : ops[k]? = some o := by simpa using (hl 0).symm
    simp only [List.length_cons, Region.seqB, Bool.and_eq_true, decide_eq_true_eq] at hB
    refine ⟨fun h1 => (by rw [hB.1] at h1; cases h1), fun i hi => ?_⟩
    rw [hB.1] at hi
    have hik : i = k := by simpa using hi
    subst hik
    have hw : wpOp P ops Q i (fun a' w' => (fin i = false → S w') ∧ wpTailG P ops Q S fin (i + 1) l a' w') a w := by
      unfold wpOp
      simp only [h0]
      unfold wpTailG at h
      split
      · rename_i hc
        rw [if_pos hc] at h
        exact .inl h
      · rename_i hc
        rw [if_neg hc] at h
        exact h
    exact wpOp_mono (fun a' w' h' => ⟨h'.1, anyT_tailG l (i + 1) _ a' w' (fun j => by have h5 := hl (j + 1); simpa [Nat.add_assoc, Nat.add_comm 1 j] using h5) hB.2 h'.2⟩) hw

/-- The law. -/
theorem wp_region_holdG {id : Nat} {a : Act} {w : World} {l : List Oper} (n : Nat) (S : World → Prop) (fin : Nat → Bool) (hm : P.follows .mixedOrders = true) (hsel : Region.noSelect l.toArray = true) (hn : n ≤ l.length) (hs : ∀ j, fin j = true → j < l.length)
    (hB : Region.holdB .any l.toArray fin (l.drop n).length n 0 (Array.replicate l.length false) = true) (hQ : ∀ c (a : Act) d v w, Q (.panic c) (a.put d v) w → Q (.panic c) a w) (hS : S w.drew)
    (h : wpHold P l.toArray S (fun a' => wpTailG P l.toArray Q S fin n (l.drop n) a' w.drew) (l.take n) a) : (Code.region id l.toArray true).wp P Q a w := by
  have htl : (l.take n).length = n := by simp; omega
  have hdl : (l.drop n).length = l.length - n := by simp
  refine wp_region_any hm (anyT_any (S := S) (fin := fin) _ _ _ _ ?_)
  have H := anyT_hold (P := P) (ops := l.toArray) (Q := Q) (md := .any) (S := S) (fin := fin) (w := w.drew) (g := (l.drop n).length) hsel (by simpa using hs) hQ hS
    (fun n' listed a' hq hL hng => by
      have hnn : n' = n := by rw [hdl] at hng; simp at hng; omega
      subst hnn
      exact anyT_tailG (l.drop n') n' listed a' w.drew (fun j => by simp [List.getElem?_drop]) hq hL)
    (l.take n) 0 (Array.replicate l.length false) a (fun j hj => by
      have hj' : j < n := by rw [htl] at hj; exact hj
      simp [hj']) (by rw [htl, hdl]; simp; omega) (by rw [htl]; exact hB) h
  rw [htl, hdl, show n + (l.length - n) = l.length by omega] at H
  simpa using H
end
end Go.Proofs.YtkophiklkgefnaaDoor
