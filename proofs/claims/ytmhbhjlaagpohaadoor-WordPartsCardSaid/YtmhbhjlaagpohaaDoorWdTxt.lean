/- What the functions of package word that look at texts answer, said of bytes. -/
import Derived.Test.YtmhbhjlaagpohaaDoorWdDef
namespace Go.Proofs.YtmhbhjlaagpohaaDoor

def wlast (l : List UInt8) : Int := wdcls (decLast l).1
def wfirst (l : List UInt8) : Int := wdcls (dec l).1
theorem wlast_nil : wlast [] = 0 := by decide
def wbsF : Nat → List UInt8 → Int × Nat
  | 0, _ => (0, 0)
  | f + 1, l => if l = [] then (0, 0) else if wclings (wlast l) then wbsF f (ltl l) else (wlast l, (ltl l).length)
theorem wlast_bd (l : List UInt8) (h : l ≠ []) : 1 ≤ (decLast l).2 ∧ (decLast l).2 ≤ l.length := by
  obtain ⟨e, n, c, h1, h2, h3, _⟩ := last_step l h
  rw [h1]
  exact ⟨h2, by show n ≤ _; omega⟩
theorem wltl_lt (l : List UInt8) (h : l ≠ []) : (ltl l).length < l.length := by
  have := wlast_bd l h
  have : 0 < l.length := List.length_pos_iff.2 h
  unfold ltl
  rw [List.length_take]
  omega
theorem wbsF_any : ∀ (f g : Nat) (l : List UInt8), l.length ≤ f → l.length ≤ g → wbsF f l = wbsF g l
  | 0, 0, _, _, _ => rfl
  | 0, g + 1, l, hf, hg => by
    have : l = [] := List.length_eq_zero_iff.1 (by omega)
    subst this; rfl
  | f + 1, 0, l, hf, hg => by
    have : l = [] := List.length_eq_zero_iff.1 (by omega)
    subst this; rfl
  | f + 1, g + 1, l, hf, hg => by
    unfold wbsF
    by_cases h : l = []
    · rw [if_pos h, if_pos h]
    · have := wltl_lt l h
      rw [if_neg h, if_neg h, wbsF_any f g (ltl l) (by omega) (by omega)]
def wbs (l : List UInt8) : Int × Nat := wbsF l.length l
theorem wbs_nil : wbs [] = (0, 0) := rfl
theorem wbs_yes (l : List UInt8) (h : l ≠ []) (hk : wclings (wlast l) = true) : wbs l = wbs (ltl l) := by
  have h1 := wltl_lt l h
  unfold wbs
  rw [wbsF_any l.length (l.length - 1 + 1) l (by omega) (by omega)]
  conv => lhs; unfold wbsF
  rw [if_neg h, if_pos hk]
  exact wbsF_any _ _ _ (by omega) (by omega)
theorem wbs_no (l : List UInt8) (h : l ≠ []) (hk : wclings (wlast l) = false) : wbs l = (wlast l, (ltl l).length) := by
  have hp : 0 < l.length := List.length_pos_iff.2 h
  unfold wbs
  obtain ⟨n, hn⟩ : ∃ n, l.length = n + 1 := ⟨l.length - 1, by omega⟩
  rw [hn]
  unfold wbsF
  rw [if_neg h, if_neg (by rw [hk]; simp)]
theorem wbs_le : ∀ (n : Nat) (l : List UInt8), l.length ≤ n → (wbs l).2 ≤ l.length
  | 0, l, hl => by
    have : l = [] := List.length_eq_zero_iff.1 (by omega)
    subst this
    exact Nat.le_refl _
  | n + 1, l, hl => by
    by_cases h : l = []
    · subst h; exact Nat.le_refl _
    · have h1 := wltl_lt l h
      cases hk : wclings (wlast l) with
      | true => rw [wbs_yes l h hk]; exact Nat.le_trans (wbs_le n (ltl l) (by omega)) (Nat.le_of_lt h1)
      | false => rw [wbs_no l h hk]; exact Nat.le_of_lt h1
/-- The class of the first rune that does not cling. -/
def wonF : Nat → List UInt8 → Int
  | 0, _ => 0
  | f + 1, l => if l = [] then 0 else if wclings (wfirst l) then wonF f (l.drop (dec l).2) else wfirst l
theorem wonF_any : ∀ (f g : Nat) (l : List UInt8), l.length ≤ f → l.length ≤ g → wonF f l = wonF g l
  | 0, 0, _, _, _ => rfl
  | 0, g + 1, l, hf, hg => by
    have : l = [] := List.length_eq_zero_iff.1 (by omega)
    subst this; rfl
  | f + 1, 0, l, hf, hg => by
    have : l = [] := List.length_eq_zero_iff.1 (by omega)
    subst this; rfl
  | f + 1, g + 1, l, hf, hg => by
    unfold wonF
    by_cases h : l = []
    · rw [if_pos h, if_pos h]
    · have := dec_ge l h
      rw [if_neg h, if_neg h, wonF_any f g _ (by rw [List.length_drop]; omega) (by rw [List.length_drop]; omega)]
def won (l : List UInt8) : Int := wonF l.length l
theorem won_nil : won [] = 0 := rfl
theorem won_yes (l : List UInt8) (h : l ≠ []) (hk : wclings (wfirst l) = true) : won l = won (l.drop (dec l).2) := by
  have h1 := dec_ge l h
  have hp : 0 < l.length := List.length_pos_iff.2 h
  unfold won
  rw [wonF_any l.length (l.length - 1 + 1) l (by omega) (by omega)]
  conv => lhs; unfold wonF
  rw [if_neg h, if_pos hk]
  exact wonF_any _ _ _ (by rw [List.length_drop]; omega) (Nat.le_refl _)
theorem won_no (l : List UInt8) (h : l ≠ []) (hk : wclings (wfirst l) = false) : won l = wfirst l := by
  have hp : 0 < l.length := List.length_pos_iff.2 h
  unfold won
  obtain ⟨n, hn⟩ : ∃ n, l.length = n + 1 := ⟨l.length - 1, by omega⟩
  rw [hn]
  unfold wonF
  rw [if_neg h, if_neg (by rw [hk]; simp)]
def wodF : Nat → List UInt8 → Bool → Bool
  | 0, _, o => o
  | f + 1, l, o => if l = [] then o else if wlast l == 7 then wodF f (ltl l) (!o) else if wclings (wlast l) then wodF f (ltl l) o else o
theorem wodF_any : ∀ (f g : Nat) (l : List UInt8) (o : Bool), l.length ≤ f → l.length ≤ g → wodF f l o = wodF g l o
  | 0, 0, _, _, _, _ => rfl
  | 0, g + 1, l, o, hf, hg => by
    have : l = [] := List.length_eq_zero_iff.1 (by omega)
    subst this; rfl
  | f + 1, 0, l, o, hf, hg => by
    have : l = [] := List.length_eq_zero_iff.1 (by omega)
    subst this; rfl
  | f + 1, g + 1, l, o, hf, hg => by
    unfold wodF
    by_cases h : l = []
    · rw [if_pos h, if_pos h]
    · have := wltl_lt l h
      rw [if_neg h, if_neg h, wodF_any f g (ltl l) (!o) (by omega) (by omega), wodF_any f g (ltl l) o (by omega) (by omega)]
def wod (l : List UInt8) (o : Bool) : Bool := wodF l.length l o
theorem wod_nil (o : Bool) : wod [] o = o := rfl
theorem wod_step (l : List UInt8) (o : Bool) (h : l ≠ []) : wod l o = if wlast l == 7 then wod (ltl l) (!o) else if wclings (wlast l) then wod (ltl l) o else o := by
  have h1 := wltl_lt l h
  unfold wod
  rw [wodF_any l.length (l.length - 1 + 1) l o (by omega) (by omega)]
  conv => lhs; unfold wodF
  rw [if_neg h, wodF_any _ (ltl l).length (ltl l) (!o) (by omega) (Nat.le_refl _), wodF_any _ (ltl l).length (ltl l) o (by omega) (Nat.le_refl _)]
def wjoin (s : List UInt8) (p : Nat) : Bool :=
  if wtog (wbs (s.take p)).1 (wfirst (s.drop p)) then true else
  if (wbs (s.take p)).1 == 7 && wfirst (s.drop p) == 7 then wod (s.take p) false else
  if wmid (wfirst (s.drop p)) then wbri (wbs (s.take p)).1 (wfirst (s.drop p)) (won (s.drop (p + (dec (s.drop p)).2))) else
  if wmid (wbs (s.take p)).1 then wbri (wbs (s.take (wbs (s.take p)).2)).1 (wbs (s.take p)).1 (wfirst (s.drop p)) else false
def wcut (s : List UInt8) (p : Nat) : Bool :=
  if wlast (s.take p) == 1 && wfirst (s.drop p) == 2 then false else if wends (wlast (s.take p)) then true else if wends (wfirst (s.drop p)) then true else
  if wlast (s.take p) == 5 && wfirst (s.drop p) == 19 then false else if wlast (s.take p) == 18 && wfirst (s.drop p) == 18 then false else
  if wclings (wfirst (s.drop p)) then false else !wjoin s p
end Go.Proofs.YtmhbhjlaagpohaaDoor
