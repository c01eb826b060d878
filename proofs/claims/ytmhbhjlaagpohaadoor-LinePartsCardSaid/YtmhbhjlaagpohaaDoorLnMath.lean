/- Chances by classes: what a text's classes say of each of its edges; a line's end parts a text. Mathematics alone. -/
import Derived.Test.YtmhbhjlaagpohaaDoorLnEach
namespace Go.Proofs.YtmhbhjlaagpohaaDoor

/-- Classes from the end of a text on. -/
def bk (l : List UInt8) : List Int := ((rl l).map fun x => lncls x.1).reverse
/-- Classes from its beginning on. -/
def fw (l : List UInt8) : List Int := (rl l).map fun x => lncls x.1
def hd (r : List Int) : Int := r.headD (-1)
theorem bk_cons (l : List UInt8) (h : l ≠ []) : bk l = lnlast l :: bk (ltl l) := by
  unfold bk
  rw [rl_snoc l h]
  simp [lnlast, h]
theorem lnlast_bk (l : List UInt8) : lnlast l = hd (bk l) := by
  by_cases h : l = []
  · subst h; rfl
  · rw [bk_cons l h]; rfl
theorem fw_cons (l : List UInt8) (h : l ≠ []) : fw l = lnfirst l :: fw (l.drop (dec l).2) := by
  unfold fw
  rw [rl_cons l h]
  simp [lnfirst, h]
theorem lnfirst_fw (l : List UInt8) : lnfirst l = hd (fw l) := by
  by_cases h : l = []
  · subst h; rfl
  · rw [fw_cons l h]; rfl
theorem fw_tail (l : List UInt8) : fw (l.drop (dec l).2) = (fw l).tail := by
  by_cases h : l = []
  · subst h; rfl
  · rw [fw_cons l h]; rfl
theorem bk_wth (K : List Int) : ∀ (n : Nat) (l : List UInt8), l.length ≤ n → bk (wthL K l) = (bk l).dropWhile (amg K)
  | 0, l, hn => by
    have : l = [] := List.length_eq_zero_iff.1 (by omega)
    subst this; rfl
  | n + 1, l, hn => by
    by_cases h : l = []
    · subst h; rfl
    · have h1 := ltl_lt l h
      rw [bk_cons l h]
      cases hk : amg K (lnlast l) with
      | true => rw [wthL_yes K l h hk, bk_wth K n (ltl l) (by omega), List.dropWhile_cons_of_pos hk]
      | false => rw [wthL_no K l hk, List.dropWhile_cons_of_neg (by rw [hk]; simp), bk_cons l h]
/-- What the functions say of classes. -/
def bsR (r : List Int) : Int := hd (r.dropWhile (amg [8]))
def oneR (K : List Int) (r : List Int) : List Int := if amg K (hd (r.dropWhile (amg [8]))) then (r.dropWhile (amg [8])).tail else r
def numR (r : List Int) : Bool := bsR (oneR [14, 15] (oneR [11, 10] r)) == 20
def oddR : Nat → List Int → Bool → Bool
  | 0, _, o => o
  | f + 1, r, o => if bsR r = 25 then oddR f (oneR [25] r) (!o) else o
theorem lnbase_bk (l : List UInt8) : lnbase l = bsR (bk l) := by
  unfold lnbase bsR
  rw [lnlast_bk, bk_wth [8] _ l (Nat.le_refl _)]
theorem bk_ltl (l : List UInt8) : bk (ltl l) = (bk l).tail := by
  by_cases h : l = []
  · subst h; rfl
  · rw [bk_cons l h]; rfl
theorem bk_one (K : List Int) (l : List UInt8) : bk (lnone K l) = oneR K (bk l) := by
  unfold lnone oneR
  rw [lnlast_bk, bk_wth [8] _ l (Nat.le_refl _)]
  split
  · rw [bk_ltl, bk_wth [8] _ l (Nat.le_refl _)]
  · rfl
theorem lnnum_bk (l : List UInt8) : lnnum l = numR (bk l) := by
  unfold lnnum numR
  rw [lnbase_bk, bk_one, bk_one]
theorem lnodd_bk : ∀ (f : Nat) (l : List UInt8) (o : Bool), lnodd f l o = oddR f (bk l) o
  | 0, _, _ => rfl
  | f + 1, l, o => by
    unfold lnodd oddR
    rw [lnbase_bk, lnodd_bk f, bk_one]
def joinR (r rf : List Int) (n : Nat) (f : List Int) : Bool :=
  if lnglued (bsR r) (hd f) then true else if amg [12, 17, 16, 24, 19] (hd f) then true else if lntog (bsR r) (hd f) then true else
  if amg [21, 22] (hd f) then numR r else
  if amg [21, 22] (bsR r) && hd f == 9 then hd f.tail == 20 else
  if bsR r = 25 ∧ hd f = 25 then oddR n rf false else false
def cutR (r rf : List Int) (n : Nat) (f : List Int) : Bool :=
  if hd r = 2 ∧ hd f = 3 then false else if lnends (hd r) then true else
  if lnends (hd f) then false else if amg [4, 5] (hd f) then false else
  if hd (r.dropWhile (amg [4])) = 5 then true else
  if hd r = 4 then !lnheld (bsR (r.dropWhile (amg [4]))) (hd f) else
  !(hd f == 8) && !lnheld (bsR (r.dropWhile (amg [4]))) (hd f) && !joinR r rf n f
theorem lncut_R (s : List UInt8) (fr p : Nat) : lncut s fr p = cutR (bk (s.take p)) (bk ((s.take p).drop fr)) ((s.take p).drop fr).length (fw (s.drop p)) := by
  have hj : lnjoin s fr p = joinR (bk (s.take p)) (bk ((s.take p).drop fr)) ((s.take p).drop fr).length (fw (s.drop p)) := by
    unfold lnjoin joinR
    rw [lnbase_bk, lnfirst_fw, lnnum_bk, lnodd_bk, ← List.drop_drop, lnfirst_fw ((s.drop p).drop _), fw_tail]
  unfold lncut cutR
  rw [hj, lnlast_bk, lnlast_bk (wthL _ _), lnfirst_fw, lnbase_bk, bk_wth [4] _ _ (Nat.le_refl _)]
/-- What stands ahead of a line's end has no part in what is said behind it. -/
theorem dw_app (K : List Int) (x : Int) (r q : List Int) (hx : amg K x = false) : (r ++ x :: q).dropWhile (amg K) = r.dropWhile (amg K) ++ x :: q := by
  induction r with
  | nil => rw [List.nil_append, List.dropWhile_cons_of_neg (by rw [hx]; simp)]; rfl
  | cons y r ih =>
    rw [List.cons_append]
    cases h : amg K y with
    | true => rw [List.dropWhile_cons_of_pos h, List.dropWhile_cons_of_pos h, ih]
    | false => rw [List.dropWhile_cons_of_neg (by rw [h]; simp), List.dropWhile_cons_of_neg (by rw [h]; simp)]; rfl
/-- A class that ends a line and holds on to nothing. -/
def Ends (x : Int) : Prop := x = 1 ∨ x = 3
theorem hd_app (r q : List Int) (x : Int) : hd (r ++ x :: q) = if r = [] then x else hd r := by
  cases r <;> simp [hd]
theorem bsR_app (r q : List Int) (x : Int) (hx : Ends x) : bsR (r ++ x :: q) = bsR r ∨ (bsR (r ++ x :: q) = x ∧ bsR r = -1) := by
  unfold bsR
  rw [dw_app _ x r q (by rcases hx with rfl | rfl <;> decide), hd_app]
  split
  · rename_i h
    right
    rw [h]
    exact ⟨rfl, rfl⟩
  · left; rfl
theorem oneR_app (K r q : List Int) (x : Int) (hx : Ends x) (hK : amg K x = false) (hn : amg K (-1) = false) : oneR K (r ++ x :: q) = oneR K r ++ x :: q := by
  unfold oneR
  rw [dw_app _ x r q (by rcases hx with rfl | rfl <;> decide), hd_app]
  by_cases h : r.dropWhile (amg [8]) = []
  · rw [if_pos h, h, hK]
    rw [show hd [] = -1 from rfl, hn]; rfl
  · rw [if_neg h]
    split
    · cases hc : r.dropWhile (amg [8]) with
      | nil => exact absurd hc h
      | cons y ys => rfl
    · rfl
theorem numR_app (r q : List Int) (x : Int) (hx : Ends x) : numR (r ++ x :: q) = numR r := by
  unfold numR
  rw [oneR_app [11, 10] r q x hx (by rcases hx with rfl | rfl <;> decide) (by decide), oneR_app [14, 15] _ q x hx (by rcases hx with rfl | rfl <;> decide) (by decide)]
  rcases bsR_app (oneR [14, 15] (oneR [11, 10] r)) q x hx with h | ⟨h1, h2⟩
  · rw [h]
  · rw [h1, h2]; rcases hx with rfl | rfl <;> rfl
theorem joinR_app (r q rf f : List Int) (x : Int) (n : Nat) (hx : Ends x) : joinR (r ++ x :: q) rf n f = joinR r rf n f := by
  unfold joinR
  rw [numR_app r q x hx]
  rcases bsR_app r q x hx with h | ⟨h1, h2⟩
  · rw [h]
  · rw [h1, h2]
    have e1 : ∀ b, lnglued x b = lnglued (-1) b := fun b => by rcases hx with rfl | rfl <;> rfl
    have e2 : ∀ b, lntog x b = lntog (-1) b := fun b => by rcases hx with rfl | rfl <;> rfl
    have e3 : amg [21, 22] x = amg [21, 22] (-1) := by rcases hx with rfl | rfl <;> rfl
    have e4 : (x = 25) = ((-1 : Int) = 25) := by rcases hx with rfl | rfl <;> decide
    rw [e1, e2, e3]
    simp only [e4]
theorem cutR_app (r q rf f : List Int) (x : Int) (n : Nat) (hx : Ends x) (hr : r ≠ []) : cutR (r ++ x :: q) rf n f = cutR r rf n f := by
  unfold cutR
  rw [joinR_app r q rf f x n hx, hd_app, if_neg hr, dw_app [4] x r q (by rcases hx with rfl | rfl <;> decide), hd_app]
  have e5 : ((if r.dropWhile (amg [4]) = [] then x else hd (r.dropWhile (amg [4]))) = 5) = (hd (r.dropWhile (amg [4])) = 5) := by
    split
    · rename_i h
      rw [h]
      rcases hx with rfl | rfl <;> decide
    · rfl
  have e6 : ∀ b, lnheld (bsR (r.dropWhile (amg [4]) ++ x :: q)) b = lnheld (bsR (r.dropWhile (amg [4]))) b := fun b => by
    rcases bsR_app (r.dropWhile (amg [4])) q x hx with h | ⟨h1, h2⟩
    · rw [h]
    · rw [h1, h2]
      rcases hx with rfl | rfl <;> rfl
  rw [e6]
  simp only [e5]
/-- What stands further on than the second rune has no part in it, nor that one, but behind what opens. -/
theorem cutR_front (r rf f g : List Int) (n : Nat) (hf : f ≠ []) (h2 : f.tail ≠ [] ∨ hd f ≠ 9) : cutR r rf n (f ++ g) = cutR r rf n f := by
  have hh : hd (f ++ g) = hd f := by cases f with
    | nil => exact absurd rfl hf
    | cons y ys => rfl
  have hj : joinR r rf n (f ++ g) = joinR r rf n f := by
    unfold joinR
    rw [hh]
    rcases h2 with h2 | h2
    · have ht : hd (f ++ g).tail = hd f.tail := by
        cases f with
        | nil => exact absurd rfl hf
        | cons y ys =>
          cases ys with
          | nil => exact absurd rfl h2
          | cons z zs => rfl
      rw [ht]
    · have e : (amg [21, 22] (bsR r) && hd f == 9) = false := by
        rw [beq_eq_false_iff_ne.2 h2, Bool.and_false]
      rw [e]; rfl
  unfold cutR
  rw [hj, hh]
theorem cutR_end (q rf f : List Int) (x : Int) (n : Nat) (hx : Ends x) : cutR (x :: q) rf n f = true := by
  unfold cutR
  rcases hx with rfl | rfl <;> rfl
end Go.Proofs.YtmhbhjlaagpohaaDoor
