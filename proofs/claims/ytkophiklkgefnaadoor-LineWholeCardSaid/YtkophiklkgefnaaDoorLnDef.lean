/- What the functions of package line answer, said of bytes. -/
import Derived.Test.YtkophiklkgefnaaDoorLnCls
import Derived.Test.YtkophiklkgefnaaDoorRMath
namespace Go.Proofs.YtkophiklkgefnaaDoor.Ln

/-- Whether a number is one of several. -/
def amg (K : List Int) (c : Int) : Bool := K.contains c
theorem amg_cons (x : Int) (K : List Int) (c : Int) : amg (x :: K) c = ((c == x) || amg K c) := by unfold amg; rw [List.contains_cons]
def lnlast (l : List UInt8) : Int := if l = [] then -1 else lncls (decLast l).1
def lnfirst (l : List UInt8) : Int := if l = [] then -1 else lncls (dec l).1
def wth (K : List Int) : Nat → List UInt8 → List UInt8
  | 0, l => l
  | f + 1, l => if l = [] then l else if amg K (lnlast l) then wth K f (ltl l) else l
def wthL (K : List Int) (l : List UInt8) : List UInt8 := wth K l.length l
def lnbase (l : List UInt8) : Int := lnlast (wthL [8] l)
def lnone (K : List Int) (l : List UInt8) : List UInt8 := if amg K (lnlast (wthL [8] l)) then ltl (wthL [8] l) else l
def lnnum (l : List UInt8) : Bool := lnbase (lnone [14, 15] (lnone [11, 10] l)) == 20
def lnodd : Nat → List UInt8 → Bool → Bool
  | 0, _, o => o
  | f + 1, l, o => if lnbase l = 25 then lnodd f (lnone [25] l) (!o) else o
def lnends (c : Int) : Bool := amg [1, 2, 3] c
def lnheld (a b : Int) : Bool :=
  if amg [6, 11, 10, 13, 14, 15] b then true else if a = 9 then true else if a = 12 then b == 9 else if a = 11 then b == 24 else if a = 10 then b == 24 else if a = 18 then b == 18 else false
def lnglued (a b : Int) : Bool := amg [6, 7] a || (b == 7 && !amg [4, 17, 16] a)
def lntog (a b : Int) : Bool :=
  if a = 12 then true else if a = 0 then amg [0, 20, 9, 21, 22] b else if a = 20 then amg [0, 20, 9, 21, 22] b else if a = 14 then amg [0, 20] b else if a = 10 then amg [0, 20] b else if a = 21 then amg [0, 20] b else if a = 22 then amg [0, 20, 23] b else if a = 16 then b == 20 else if a = 15 then b == 20 else if a = 23 then b == 21 else false
def lnjoin (s : List UInt8) (fr at' : Nat) : Bool :=
  if lnglued (lnbase (s.take at')) (lnfirst (s.drop at')) then true else if amg [12, 17, 16, 24, 19] (lnfirst (s.drop at')) then true else if lntog (lnbase (s.take at')) (lnfirst (s.drop at')) then true else
  if amg [21, 22] (lnfirst (s.drop at')) then lnnum (s.take at') else
  if amg [21, 22] (lnbase (s.take at')) && lnfirst (s.drop at') == 9 then lnfirst (s.drop (at' + (dec (s.drop at')).2)) == 20 else
  if lnbase (s.take at') = 25 ∧ lnfirst (s.drop at') = 25 then lnodd ((s.take at').drop fr).length ((s.take at').drop fr) false else false
def lncut (s : List UInt8) (fr at' : Nat) : Bool :=
  if lnlast (s.take at') = 2 ∧ lnfirst (s.drop at') = 3 then false else if lnends (lnlast (s.take at')) then true else
  if lnends (lnfirst (s.drop at')) then false else if amg [4, 5] (lnfirst (s.drop at')) then false else
  if lnlast (wthL [4] (s.take at')) = 5 then true else
  if lnlast (s.take at') = 4 then !lnheld (lnbase (wthL [4] (s.take at'))) (lnfirst (s.drop at')) else
  !(lnfirst (s.drop at') == 8) && !lnheld (lnbase (wthL [4] (s.take at'))) (lnfirst (s.drop at')) && !lnjoin s fr at'
/-- How a last rune parts a text. -/
theorem last_bd (l : List UInt8) (h : l ≠ []) : 1 ≤ (decLast l).2 ∧ (decLast l).2 ≤ l.length := by
  obtain ⟨e, n, c, h1, h2, h3, _⟩ := last_step l h
  rw [h1]
  exact ⟨h2, by show n ≤ _; omega⟩
theorem ltl_lt (l : List UInt8) (h : l ≠ []) : (ltl l).length < l.length := by
  have := last_bd l h
  have : 0 < l.length := List.length_pos_iff.2 h
  unfold ltl
  rw [List.length_take]
  omega
theorem ltl_le (l : List UInt8) : (ltl l).length ≤ l.length := by unfold ltl; rw [List.length_take]; omega
theorem wth_any (K : List Int) : ∀ (f g : Nat) (l : List UInt8), l.length ≤ f → l.length ≤ g → wth K f l = wth K g l
  | 0, g, l, hf, hg => by
    have : l = [] := List.length_eq_zero_iff.1 (by omega)
    subst this
    cases g <;> simp [wth]
  | f + 1, 0, l, hf, hg => by
    have : l = [] := List.length_eq_zero_iff.1 (by omega)
    subst this
    simp [wth]
  | f + 1, g + 1, l, hf, hg => by
    unfold wth
    by_cases h : l = []
    · rw [if_pos h, if_pos h]
    · have := ltl_lt l h
      rw [if_neg h, if_neg h, wth_any K f g (ltl l) (by omega) (by omega)]
theorem wthL_nil (K : List Int) : wthL K [] = [] := rfl
theorem wthL_yes (K : List Int) (l : List UInt8) (h : l ≠ []) (hk : amg K (lnlast l) = true) : wthL K l = wthL K (ltl l) := by
  have h1 := ltl_lt l h
  unfold wthL
  rw [wth_any K l.length (l.length - 1 + 1) l (by omega) (by omega)]
  conv => lhs; unfold wth
  rw [if_neg h, if_pos hk]
  exact wth_any K _ _ _ (by omega) (by omega)
theorem wthL_no (K : List Int) (l : List UInt8) (hk : amg K (lnlast l) = false) : wthL K l = l := by
  unfold wthL
  cases l.length with
  | zero => rfl
  | succ n =>
    unfold wth
    by_cases h : l = []
    · rw [if_pos h]
    · rw [if_neg h, hk]; rfl
theorem wthL_le (K : List Int) : ∀ (n : Nat) (l : List UInt8), l.length ≤ n → (wthL K l).length ≤ l.length
  | 0, l, hl => by
    have : l = [] := List.length_eq_zero_iff.1 (by omega)
    subst this
    exact Nat.le_refl _
  | n + 1, l, hl => by
    by_cases h : l = []
    · subst h; exact Nat.le_refl _
    · cases hk : amg K (lnlast l) with
      | true =>
        have h1 := ltl_lt l h
        rw [wthL_yes K l h hk]
        exact Nat.le_trans (wthL_le K n (ltl l) (by omega)) (Nat.le_of_lt h1)
      | false => rw [wthL_no K l hk]; exact Nat.le_refl _
theorem lnlast_ne {l : List UInt8} {K : List Int} (hK : amg K (-1) = false) (h : amg K (lnlast l) = true) : l ≠ [] := fun e => by
  subst e
  rw [show lnlast [] = -1 from rfl, hK] at h
  cases h
theorem lnone_le (K : List Int) (l : List UInt8) : (lnone K l).length ≤ l.length := by
  unfold lnone
  split
  · exact Nat.le_trans (ltl_le _) (wthL_le _ _ l (Nat.le_refl _))
  · exact Nat.le_refl _
theorem lnone_lt (K : List Int) (l : List UInt8) (hK : amg K (-1) = false) (h : amg K (lnbase l) = true) : (lnone K l).length < l.length := by
  have h' : amg K (lnlast (wthL [8] l)) = true := h
  unfold lnone
  rw [if_pos h']
  exact Nat.lt_of_lt_of_le (ltl_lt _ (lnlast_ne hK h')) (wthL_le _ _ l (Nat.le_refl _))
theorem lnodd_any : ∀ (f g : Nat) (l : List UInt8) (o : Bool), l.length ≤ f → l.length ≤ g → lnodd f l o = lnodd g l o
  | 0, g, l, o, hf, hg => by
    have : l = [] := List.length_eq_zero_iff.1 (by omega)
    subst this
    cases g with
    | zero => rfl
    | succ g => unfold lnodd; rw [if_neg (show ¬ lnbase [] = 25 by decide)]
  | f + 1, 0, l, o, hf, hg => by
    have : l = [] := List.length_eq_zero_iff.1 (by omega)
    subst this
    unfold lnodd; rw [if_neg (show ¬ lnbase [] = 25 by decide)]
  | f + 1, g + 1, l, o, hf, hg => by
    unfold lnodd
    by_cases h : lnbase l = 25
    · have h1 := lnone_lt [25] l (by decide) (by rw [h]; decide)
      rw [if_pos h, if_pos h, lnodd_any f g _ _ (by omega) (by omega)]
    · rw [if_neg h, if_neg h]
theorem lnodd_yes (l : List UInt8) (o : Bool) (h : lnbase l = 25) : lnodd l.length l o = lnodd (lnone [25] l).length (lnone [25] l) (!o) := by
  have h1 := lnone_lt [25] l (by decide) (by rw [h]; decide)
  rw [lnodd_any l.length (l.length - 1 + 1) l o (by omega) (by omega)]
  conv => lhs; unfold lnodd
  rw [if_pos h]
  exact lnodd_any _ _ _ _ (by omega) (by omega)
theorem lnodd_no (l : List UInt8) (o : Bool) (h : ¬ lnbase l = 25) : lnodd l.length l o = o := by
  cases l.length with
  | zero => rfl
  | succ n => unfold lnodd; rw [if_neg h]
end Go.Proofs.YtkophiklkgefnaaDoor.Ln
