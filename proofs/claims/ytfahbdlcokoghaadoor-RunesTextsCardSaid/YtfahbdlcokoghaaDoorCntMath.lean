/- How many numbers are in a normal form; numbers there and back: the mathematics. -/
import Derived.Test.YtfahbdlcokoghaaDoorAlgMath
import Derived.Test.YtfahbdlcokoghaaDoorNormWalk
namespace Go.Proofs.YtfahbdlcokoghaaDoor
open Go.RowKit

def cntF : List Rg → Int
  | [] => 0
  | g :: t => (g.2 - g.1 + 1) + cntF t
theorem cnt_nn : ∀ {l : List Rg} {b : Int}, nfF b l → 0 ≤ cntF l
  | [], _, _ => Int.le_refl _
  | g :: t, b, h => by
    have := cnt_nn h.2.2.2
    have := h.2.1
    unfold cntF
    omega
theorem cnt_le : ∀ {l : List Rg} {b : Int}, nfF b l → b ≤ top + 3 → cntF l ≤ top + 3 - b
  | [], _, _, h => by unfold cntF; omega
  | g :: t, b, h, _ => by
    have h1 := h.1
    have h3 := h.2.2.1
    have := cnt_le h.2.2.2 (by omega)
    unfold cntF
    omega
theorem cnt_snoc (l : List Rg) (g : Rg) : cntF (l ++ [g]) = cntF l + (g.2 - g.1 + 1) := by
  induction l with
  | nil => simp [cntF]
  | cons x l ih => rw [List.cons_append, cntF, cntF, ih]; omega
theorem nfF_take : ∀ {l : List Rg} {b : Int} (k : Nat), nfF b l → nfF b (l.take k)
  | [], _, k, _ => by simp; exact trivial
  | g :: t, b, 0, _ => trivial
  | g :: t, b, k + 1, h => ⟨h.1, h.2.1, h.2.2.1, nfF_take k h.2.2.2⟩
theorem cnt_take {l : List Rg} {k : Nat} (hk : k < l.length) : cntF (l.take (k + 1)) = cntF (l.take k) + (l[k].2 - l[k].1 + 1) := by
  rw [List.take_succ_eq_append_getElem hk, cnt_snoc]
theorem cnt_take_bd {l : List Rg} (h : nf l) (k : Nat) : 0 ≤ cntF (l.take k) ∧ cntF (l.take k) ≤ 1114114 := by
  have h1 := nfF_take k h
  have h2 := cnt_nn h1
  have h3 := cnt_le h1 (by unfold top; omega)
  unfold top at h3
  omega

/-- How many numbers below n have a property. -/
def card (p : Int → Bool) : Nat → Int
  | 0 => 0
  | n + 1 => card p n + if p n then 1 else 0
theorem card_iv (a b : Int) (h0 : 0 ≤ a) (h1 : a ≤ b) : ∀ n : Nat, card (fun r => decide (a ≤ r) && decide (r ≤ b)) n = if (n : Int) ≤ a then 0 else if (n : Int) ≤ b + 1 then n - a else b - a + 1
  | 0 => by unfold card; rw [if_pos (by omega)]
  | n + 1 => by
    unfold card
    rw [card_iv a b h0 h1 n]
    by_cases c1 : a ≤ (n : Int)
    · by_cases c2 : (n : Int) ≤ b
      · simp only [c1, c2, decide_true, Bool.and_self, if_true]
        split <;> split <;> (try split) <;> omega
      · simp only [c1, c2, decide_true, decide_false, Bool.and_false, Bool.false_eq_true, if_false]
        split <;> split <;> (try split) <;> omega
    · simp only [c1, decide_false, Bool.false_and, Bool.false_eq_true, if_false]
      split <;> split <;> (try split) <;> omega
theorem card_or (p q : Int → Bool) : ∀ n, card (fun r => p r || q r) n + card (fun r => p r && q r) n = card p n + card q n
  | 0 => rfl
  | n + 1 => by
    have ih := card_or p q n
    unfold card
    cases p n <;> cases q n <;> simp <;> omega
theorem card_ext {p q : Int → Bool} (h : ∀ r, p r = q r) (n : Nat) : card p n = card q n := by rw [show p = q from funext h]
theorem card_no (n : Nat) : card (fun _ => false) n = 0 := by
  induction n with
  | zero => rfl
  | succ n ih => unfold card; rw [ih]; rfl
theorem hasB_cons (r : Int) (g : Rg) (l : List Rg) : hasB r (g :: l) = ((decide (g.1 ≤ r) && decide (r ≤ g.2)) || hasB r l) := rfl
theorem cnt_card : ∀ {l : List Rg} {b : Int}, 0 ≤ b → nfF b l → cntF l = card (fun r => hasB r l) 1114112
  | [], _, _, _ => (card_no _).symm
  | g :: t, b, h0, h => by
    obtain ⟨p1, p2, p3, p4⟩ := h
    unfold top at p3
    have ih := cnt_card (by omega) p4
    have h1 := card_or (fun r => decide (g.1 ≤ r) && decide (r ≤ g.2)) (fun r => hasB r t) 1114112
    have h2 : card (fun r => decide (g.1 ≤ r) && decide (r ≤ g.2)) 1114112 = g.2 - g.1 + 1 := by
      rw [card_iv g.1 g.2 (by omega) p2 1114112, if_neg (by omega)]
      split <;> omega
    have h3 : card (fun r => (decide (g.1 ≤ r) && decide (r ≤ g.2)) && hasB r t) 1114112 = 0 := by
      rw [← card_no 1114112]
      refine card_ext (fun r => ?_) _
      cases hb : hasB r t with
      | false => simp
      | true =>
        have := isin_ge p4 ((hasB_iff r t).1 hb)
        have : ¬ r ≤ g.2 := by omega
        simp [this]
    unfold cntF
    rw [ih, card_ext (fun r => hasB_cons r g t)]
    omega

theorem hasB_nf (r : Int) {l : List Rg} (h : nf l) : hasB r l = hasR r l := Bool.eq_iff_iff.2 (by rw [hasB_iff, hasR_iff, means_nf h])
/-- How many are in either and in both. -/
theorem cnt_both (a b : List Rg) : cntF (orN a b) + cntF (andN a b) = cntF (nrm a) + cntF (nrm b) := by
  rw [cnt_card (Int.le_refl 0) (orN_nf a b), cnt_card (Int.le_refl 0) (andN_nf a b), cnt_card (Int.le_refl 0) (nrm_nf a), cnt_card (Int.le_refl 0) (nrm_nf b)]
  generalize (1114112 : Nat) = N
  have e1 : ∀ r, hasB r (orN a b) = (hasB r (nrm a) || hasB r (nrm b)) := fun r => by
    rw [hasB_nf r (orN_nf a b), hasB_nf r (nrm_nf a), hasB_nf r (nrm_nf b), has_or, hasR_nrm, hasR_nrm]
  have e2 : ∀ r, hasB r (andN a b) = (hasB r (nrm a) && hasB r (nrm b)) := fun r => by
    rw [hasB_nf r (andN_nf a b), hasB_nf r (nrm_nf a), hasB_nf r (nrm_nf b), has_and, hasR_nrm, hasR_nrm]
  rw [card_ext e1 N, card_ext e2 N]
  exact card_or _ _ N

/-- The number of a rune, in a normal form. -/
def idxF : List Rg → Int → Int → Option Int
  | [], _, _ => none
  | g :: t, c, r => if g.1 ≤ r ∧ r ≤ g.2 then some (c + (r - g.1)) else idxF t (c + (g.2 - g.1 + 1)) r
def idxN (l : List Rg) (r : Int) : Option Int := idxF (nrm l) 0 r
theorem atF_in : ∀ {s : List Rg} {b i x : Int}, nfF b s → 0 ≤ i → atF s i = some x → isin x s
  | [], _, _, _, _, _, h => by simp [atF] at h
  | g :: t, b, i, x, hn, h0, h => by
    unfold atF at h
    split at h
    · cases h; exact .inl ⟨by omega, by omega⟩
    · exact .inr (atF_in hn.2.2.2 (by omega) h)
theorem at_idx : ∀ {s : List Rg} {b i x : Int} (c : Int), nfF b s → 0 ≤ i → atF s i = some x → idxF s c x = some (c + i)
  | [], _, _, _, _, _, _, h => by simp [atF] at h
  | g :: t, b, i, x, c, hn, h0, h => by
    unfold atF at h
    unfold idxF
    split at h
    · cases h
      rw [if_pos ⟨by omega, by omega⟩]
      congr 1; omega
    · have h1 := atF_in hn.2.2.2 (by omega) h
      have h2 := isin_ge hn.2.2.2 h1
      rw [if_neg (by omega), at_idx (c + (g.2 - g.1 + 1)) hn.2.2.2 (by omega) h]
      congr 1; omega
theorem idx_at : ∀ {s : List Rg} {b c r n : Int}, nfF b s → idxF s c r = some n → c ≤ n ∧ atF s (n - c) = some r
  | [], _, _, _, _, _, h => by simp [idxF] at h
  | g :: t, b, c, r, n, hn, h => by
    have h12 := hn.2.1
    unfold idxF at h
    unfold atF
    split at h
    · rename_i hg
      cases h
      refine ⟨by omega, ?_⟩
      rw [if_pos (by omega)]
      congr 1; omega
    · obtain ⟨h1, h2⟩ := idx_at hn.2.2.2 h
      refine ⟨by omega, ?_⟩
      rw [if_neg (by omega), ← h2]
      congr 1; omega
theorem idx_none {r : Int} : ∀ {s : List Rg} (c : Int), hasB r s = false → idxF s c r = none
  | [], _, _ => rfl
  | g :: t, c, h => by
    rw [hasB_cons, Bool.or_eq_false_iff] at h
    unfold idxF
    rw [if_neg (fun x => by rw [decide_eq_true x.1, decide_eq_true x.2] at h; exact absurd h.1 (by decide)), idx_none _ h.2]
theorem idx_here {r : Int} : ∀ {s : List Rg} {b : Int} {k : Nat} {g : Rg} (c : Int), nfF b s → s[k]? = some g → g.1 ≤ r → r ≤ g.2 → idxF s c r = some (c + cntF (s.take k) + (r - g.1))
  | [], _, _, _, _, _, h, _, _ => by cases h
  | x :: t, b, 0, g, c, hn, h, h1, h2 => by
    cases h
    unfold idxF
    rw [if_pos ⟨h1, h2⟩]
    simp [cntF]
  | x :: t, b, k + 1, g, c, hn, h, h1, h2 => by
    have h3 := nf_at hn.2.2.2 (show t[k]? = some g from h)
    unfold idxF
    rw [if_neg (by omega), idx_here (c + (x.2 - x.1 + 1)) hn.2.2.2 (show t[k]? = some g from h) h1 h2, List.take_succ_cons, cntF]
    congr 1; omega
theorem idx_step {r c : Int} {s : List Rg} {k : Nat} (hk : k < s.length) : idxF (s.drop k) c r = if s[k].1 ≤ r ∧ r ≤ s[k].2 then some (c + (r - s[k].1)) else idxF (s.drop (k + 1)) (c + (s[k].2 - s[k].1 + 1)) r := by
  rw [List.drop_eq_getElem_cons hk, idxF]
def twoI (o : Option Int) : Value := .tuple #[.int .i64 (o.getD 0), .bool o.isSome]
end Go.Proofs.YtfahbdlcokoghaaDoor
