/- What the functions of package sentence that look at texts answer, said of the classes of runes. -/
import Derived.Test.YtckifhlhechdlaaDoorSnCls
import Derived.Test.YtckifhlhechdlaaDoorRMath
namespace Go.Proofs.YtckifhlhechdlaaDoor

def slast (l : List UInt8) : Int := sncls (decLast l).1
def sfirst (l : List UInt8) : Int := sncls (dec l).1
def shas (x : Nat) (c : Int) : Bool := bits BinOp.and IntKind.u32 ((x : Int) / 2 ^ c.toNat) 1 == 1
/-- The classes of a text's runes, from its beginning and from its end. -/
def fw (l : List UInt8) : List Int := (rl l).map fun x => sncls x.1
def bk (l : List UInt8) : List Int := (rl l).reverse.map fun x => sncls x.1
theorem fw_nil : fw [] = [] := rfl
theorem bk_nil : bk [] = [] := rfl
theorem fw_cons (l : List UInt8) (h : l ≠ []) : fw l = sfirst l :: fw (l.drop (dec l).2) := by unfold fw; rw [rl_cons l h]; rfl
theorem bk_cons (l : List UInt8) (h : l ≠ []) : bk l = slast l :: bk (ltl l) := by unfold bk; rw [rl_snoc l h]; simp [slast]
theorem sncls_0 : sncls 0 = 0 := by decide
theorem slast_nil : slast [] = 0 := sncls_0
theorem sfirst_nil : sfirst [] = 0 := sncls_0
theorem slast_hd (l : List UInt8) : slast l = (bk l).headD 0 := by
  by_cases h : l = []
  · subst h; exact slast_nil
  · rw [bk_cons l h, List.headD_cons]
theorem sfirst_hd (l : List UInt8) : sfirst l = (fw l).headD 0 := by
  by_cases h : l = []
  · subst h; exact sfirst_nil
  · rw [fw_cons l h, List.headD_cons]
theorem slast_bd (l : List UInt8) (h : l ≠ []) : 1 ≤ (decLast l).2 ∧ (decLast l).2 ≤ l.length := by
  obtain ⟨e, n, c, h1, h2, h3, _⟩ := last_step l h
  rw [h1]
  exact ⟨h2, by show n ≤ _; omega⟩
theorem sltl_lt (l : List UInt8) (h : l ≠ []) : (ltl l).length < l.length := by
  have := slast_bd l h
  have : 0 < l.length := List.length_pos_iff.2 h
  unfold ltl
  rw [List.length_take]
  omega
def swthF (x : Nat) : Nat → List UInt8 → List UInt8
  | 0, _ => []
  | f + 1, l => if l = [] then [] else if shas x (slast l) then swthF x f (ltl l) else l
theorem swthF_any (x : Nat) : ∀ (f g : Nat) (l : List UInt8), l.length ≤ f → l.length ≤ g → swthF x f l = swthF x g l
  | 0, 0, _, _, _ => rfl
  | 0, g + 1, l, hf, hg => by
    have : l = [] := List.length_eq_zero_iff.1 (by omega)
    subst this; rfl
  | f + 1, 0, l, hf, hg => by
    have : l = [] := List.length_eq_zero_iff.1 (by omega)
    subst this; rfl
  | f + 1, g + 1, l, hf, hg => by
    unfold swthF
    by_cases h : l = []
    · rw [if_pos h, if_pos h]
    · have := sltl_lt l h
      rw [if_neg h, if_neg h, swthF_any x f g (ltl l) (by omega) (by omega)]
/-- A text but for the runes of some classes at its end. -/
def swth (x : Nat) (l : List UInt8) : List UInt8 := swthF x l.length l
theorem swth_nil (x : Nat) : swth x [] = [] := rfl
theorem swth_yes (x : Nat) (l : List UInt8) (h : l ≠ []) (hk : shas x (slast l) = true) : swth x l = swth x (ltl l) := by
  have h1 := sltl_lt l h
  unfold swth
  rw [swthF_any x l.length (l.length - 1 + 1) l (by omega) (by omega)]
  conv => lhs; unfold swthF
  rw [if_neg h, if_pos hk]
  exact swthF_any x _ _ _ (by omega) (by omega)
theorem swth_no (x : Nat) (l : List UInt8) (h : l ≠ []) (hk : shas x (slast l) = false) : swth x l = l := by
  have hp : 0 < l.length := List.length_pos_iff.2 h
  unfold swth
  obtain ⟨n, hn⟩ : ∃ n, l.length = n + 1 := ⟨l.length - 1, by omega⟩
  rw [hn]
  unfold swthF
  rw [if_neg h, if_neg (by rw [hk]; simp)]
theorem swth_le (x : Nat) : ∀ (n : Nat) (l : List UInt8), l.length ≤ n → (swth x l).length ≤ l.length
  | 0, l, hl => by
    have : l = [] := List.length_eq_zero_iff.1 (by omega)
    subst this
    exact Nat.le_refl _
  | n + 1, l, hl => by
    by_cases h : l = []
    · subst h; exact Nat.le_refl _
    · have h1 := sltl_lt l h
      cases hk : shas x (slast l) with
      | true => rw [swth_yes x l h hk]; exact Nat.le_trans (swth_le x n (ltl l) (by omega)) (Nat.le_of_lt h1)
      | false => rw [swth_no x l h hk]; exact Nat.le_refl _
theorem swth_bk (x : Nat) : ∀ (n : Nat) (l : List UInt8), l.length ≤ n → bk (swth x l) = (bk l).dropWhile (shas x)
  | 0, l, hl => by
    have : l = [] := List.length_eq_zero_iff.1 (by omega)
    subst this; rfl
  | n + 1, l, hl => by
    by_cases h : l = []
    · subst h; rfl
    · have h1 := sltl_lt l h
      cases hk : shas x (slast l) with
      | true => rw [swth_yes x l h hk, swth_bk x n (ltl l) (by omega), bk_cons l h, List.dropWhile_cons_of_pos hk]
      | false => rw [swth_no x l h hk, bk_cons l h, List.dropWhile_cons_of_neg (by rw [hk]; simp)]
/-- cased, mark, goesOn, parts and cut, said of classes. -/
def csdR (A : List Int) : Bool := ((A.dropWhile (shas 8192)).headD 0) == 6 || ((A.dropWhile (shas 8192)).headD 0) == 5
def mrkR (A : List Int) : Int := ((A.dropWhile (shas 8208)).dropWhile (shas 10240)).headD 0
def goR : List Int → Bool
  | [] => false
  | c :: B => if shas 14609 c then goR B else c == 5
def prtR (A B : List Int) : Bool :=
  if B.headD 0 == 11 && (A.dropWhile (shas 8192)).headD 0 != 4 then false else
  if (A.dropWhile (shas 8192)).headD 0 == 9 && B.headD 0 == 8 then false else
  if (A.dropWhile (shas 8192)).headD 0 == 9 && B.headD 0 == 6 && csdR (A.dropWhile (shas 8192)).tail then false else
  if mrkR (A.dropWhile (shas 8192)) == 10 then true else if mrkR (A.dropWhile (shas 8192)) == 9 then !goR B else false
def cutR (A B : List Int) : Bool :=
  if A.headD 0 == 1 && B.headD 0 == 2 then false else if shas 14 (A.headD 0) then true else if shas 13854 (B.headD 0) then false else prtR A B
def scut (s : List UInt8) (p : Nat) : Bool := cutR (bk (s.take p)) (fw (s.drop p))
end Go.Proofs.YtckifhlhechdlaaDoor
