/- The document's runes of a text, said by the list of runes and widths; a text but for its last rune. -/
import Derived.Test.YtkophiklkgefnaaDoorRMath
import Derived.Test.YtkophiklkgefnaaDoorDcE
namespace Go.Proofs.YtkophiklkgefnaaDoor

/-- The entries of a list of runes with widths, from a place on. -/
def ent : Nat → List (Nat × Nat) → List Dc.Trp
  | _, [] => []
  | p, x :: X => ((x.1 : Int), p, p + x.2) :: ent (p + x.2) X
theorem cls_ent (l : List UInt8) : ∀ (n p : Nat), l.length - p ≤ n → p ≤ l.length → Dc.cls l.length (Dc.plr l p) = ent p (rl (l.drop p))
  | 0, p, h, hp => by
    rw [Dc.plr_end l p (by omega), List.drop_of_length_le (by omega)]
    rfl
  | n + 1, p, h, hp => by
    by_cases hlt : p < l.length
    · have hne := drop_ne l p hlt
      have w1 := wid_ge l p hlt
      have w2 := wid_le l p hlt
      have ih := cls_ent l n (p + wid l p) (by omega) w2
      rw [Dc.plr_step l p hlt, decode_place l p hlt, rl_cons _ hne, List.drop_drop]
      show Dc.cls l.length ((p, ((dec (l.drop p)).1 : Int)) :: Dc.plr l (p + wid l p)) = (((dec (l.drop p)).1 : Int), p, p + wid l p) :: ent (p + wid l p) (rl (l.drop (p + wid l p)))
      rw [Dc.cls, ih]
      congr 3
      by_cases h5 : p + wid l p < l.length
      · rw [Dc.plr_step l _ h5]; rfl
      · rw [Dc.plr_end l _ h5]; show l.length = _; omega
    · rw [Dc.plr_end l p hlt, List.drop_of_length_le (by omega)]
      rfl
theorem txt_ent (l : List UInt8) : Dc.txt l = ent 0 (rl l) := by
  have h := cls_ent l l.length 0 (by omega) (by omega)
  rw [List.drop_zero] at h
  exact h
theorem ent_len : ∀ (X : List (Nat × Nat)) (p : Nat), (ent p X).length = X.length
  | [], _ => rfl
  | x :: X, p => by rw [ent, List.length_cons, List.length_cons, ent_len X]
theorem ent_at : ∀ (X : List (Nat × Nat)) (p k : Nat) (x : Nat × Nat), X[k]? = some x → (ent p X)[k]? = some ((x.1 : Int), p + psm (X.take k), p + psm (X.take (k + 1)))
  | [], _, _, _, h => by cases h
  | y :: X, p, 0, x, h => by cases h; simp [ent, psm]
  | y :: X, p, k + 1, x, h => by
    have ih := ent_at X (p + y.2) k x (by simpa using h)
    rw [ent, List.getElem?_cons_succ, ih, List.take_succ_cons, List.take_succ_cons, psm_cons, psm_cons]
    simp only [Option.some.injEq, Prod.mk.injEq, true_and]
    omega
theorem txt_len (l : List UInt8) : (Dc.txt l).length = (rl l).length := by rw [txt_ent, ent_len]
/-- The place behind k runes. -/
def plc (l : List UInt8) (k : Nat) : Nat := psm ((rl l).take k)
theorem plc_zero (l : List UInt8) : plc l 0 = 0 := rfl
theorem plc_all (l : List UInt8) (k : Nat) (h : (rl l).length ≤ k) : plc l k = l.length := by
  unfold plc
  rw [List.take_of_length_le h, rl_sum l.length l (Nat.le_refl _)]
theorem psm_mono (X : List (Nat × Nat)) : ∀ (k : Nat), psm (X.take k) ≤ psm X := fun k => by
  conv => rhs; rw [← List.take_append_drop k X, psm_app]
  omega
theorem plc_le (l : List UInt8) (k : Nat) : plc l k ≤ l.length := by
  have h := psm_mono (rl l) k
  rw [rl_sum l.length l (Nat.le_refl _)] at h
  exact h
theorem plc_succ (l : List UInt8) (k : Nat) (x : Nat × Nat) (h : (rl l)[k]? = some x) : plc l (k + 1) = plc l k + x.2 := by
  obtain ⟨hk, rfl⟩ := List.getElem?_eq_some_iff.1 h
  unfold plc
  rw [List.take_succ_eq_append_getElem hk, psm_app, psm_cons, psm_nil]
  rfl
theorem txt_at (l : List UInt8) (k : Nat) (x : Nat × Nat) (h : (rl l)[k]? = some x) : (Dc.txt l)[k]? = some ((x.1 : Int), plc l k, plc l (k + 1)) := by
  rw [txt_ent, ent_at (rl l) 0 k x h]
  simp [plc]
theorem rl_take (l : List UInt8) (k : Nat) (h : k ≤ (rl l).length) : rl (l.take (plc l k)) = (rl l).take k := (rl_cut k l h).1
theorem rl_drop (l : List UInt8) (k : Nat) (h : k ≤ (rl l).length) : rl (l.drop (plc l k)) = (rl l).drop k := (rl_cut k l h).2
theorem rl_ne {l : List UInt8} (h : l ≠ []) : rl l ≠ [] := by rw [rl_cons l h]; exact fun e => by cases e
theorem rl_rune (l : List UInt8) : ∀ x ∈ rl l, x.1 ≤ 1114111 := by
  have H : ∀ (n : Nat) (l : List UInt8), l.length ≤ n → ∀ x ∈ rl l, x.1 ≤ 1114111 := by
    intro n
    induction n with
    | zero => intro l h x hx; rw [List.length_eq_zero_iff.1 (by omega : l.length = 0)] at hx; cases hx
    | succ n ih =>
      intro l h x hx
      by_cases hl : l = []
      · subst hl; cases hx
      · rw [rl_cons l hl] at hx
        have w1 := dec_ge l hl
        rcases List.mem_cons.1 hx with rfl | hx
        · exact dec_rune l hl
        · exact ih (l.drop (dec l).2) (by rw [List.length_drop]; have : l.length ≠ 0 := fun e => hl (List.length_eq_zero_iff.1 e); omega) x hx
  exact H l.length l (Nat.le_refl _)
/-- The beginning of k + 1 runes: its last rune, and what is left without it. -/
theorem take_last (l : List UInt8) (k : Nat) (x : Nat × Nat) (h : (rl l)[k]? = some x) : l.take (plc l (k + 1)) ≠ [] ∧ decLast (l.take (plc l (k + 1))) = x ∧ ltl (l.take (plc l (k + 1))) = l.take (plc l k) := by
  obtain ⟨hk, hx⟩ := List.getElem?_eq_some_iff.1 h
  have h1 := rl_take l (k + 1) (by omega)
  have h2 : l.take (plc l (k + 1)) ≠ [] := fun e => by
    rw [e, rl_nil, List.take_succ_eq_append_getElem hk] at h1
    have h9 := congrArg List.length h1
    rw [List.length_append] at h9
    simp at h9
  have h3 := rl_snoc _ h2
  rw [h1, List.take_succ_eq_append_getElem hk] at h3
  have h4 : (rl l).take k = rl (ltl (l.take (plc l (k + 1)))) ∧ [(rl l)[k]] = [decLast (l.take (plc l (k + 1)))] := List.append_inj' h3 rfl
  have h5 : decLast (l.take (plc l (k + 1))) = x := by
    have h6 := h4.2
    simp only [List.cons.injEq, and_true] at h6
    rw [← h6, hx]
  refine ⟨h2, h5, ?_⟩
  have h7 := plc_succ l k x h
  have h8 := plc_le l (k + 1)
  unfold ltl
  rw [h5, List.length_take, List.take_take]
  congr 1
  omega
end Go.Proofs.YtkophiklkgefnaaDoor
