/- All numbers of a normal form, one behind the other: the mathematics. -/
import Derived.Test.YtfahbdlcokoghaaDoorCntMath
namespace Go.Proofs.YtfahbdlcokoghaaDoor

/-- So many numbers from one on. -/
def frm (a : Int) : Nat → List Int
  | 0 => []
  | n + 1 => frm a n ++ [a + n]
theorem frm_len (a : Int) : ∀ n, (frm a n).length = n
  | 0 => rfl
  | n + 1 => by rw [frm, List.length_append, frm_len a n]; rfl
theorem frm_get (a : Int) : ∀ (n k : Nat), k < n → (frm a n)[k]? = some (a + k)
  | 0, k, h => by omega
  | n + 1, k, h => by
    rw [frm]
    by_cases hk : k < n
    · rw [List.getElem?_append_left (by rw [frm_len]; exact hk), frm_get a n k hk]
    · have : k = n := by omega
      subst this
      rw [List.getElem?_append_right (by rw [frm_len]; exact Nat.le_refl _), frm_len, Nat.sub_self]
      rfl
def els : List Rg → List Int
  | [] => []
  | g :: t => frm g.1 (g.2 - g.1 + 1).toNat ++ els t
theorem els_snoc (l : List Rg) (g : Rg) : els (l ++ [g]) = els l ++ frm g.1 (g.2 - g.1 + 1).toNat := by
  induction l with
  | nil => simp [els]
  | cons x l ih => rw [List.cons_append, els, ih, els, List.append_assoc]
theorem els_take {s : List Rg} {k : Nat} (hk : k < s.length) : els (s.take (k + 1)) = els (s.take k) ++ frm s[k].1 (s[k].2 - s[k].1 + 1).toNat := by
  rw [List.take_succ_eq_append_getElem hk, els_snoc]
theorem els_app (a b : List Rg) : els (a ++ b) = els a ++ els b := by
  induction a with
  | nil => rfl
  | cons x a ih => rw [List.cons_append, els, ih, els, List.append_assoc]
theorem els_prefix (s : List Rg) (k : Nat) : els (s.take k) <+: els s := ⟨els (s.drop k), by rw [← els_app, List.take_append_drop]⟩
theorem frm_prefix (a : Int) (m n : Nat) (h : m ≤ n) : frm a m <+: frm a n := by
  induction n with
  | zero => obtain rfl : m = 0 := by omega
            exact List.prefix_refl _
  | succ n ih =>
    by_cases hm : m = n + 1
    · subst hm; exact List.prefix_refl _
    · exact (ih (by omega)).trans (by rw [frm]; exact List.prefix_append _ _)
theorem els_mid {s : List Rg} {k m : Nat} (hk : k < s.length) (hm : m ≤ (s[k].2 - s[k].1 + 1).toNat) : els (s.take k) ++ frm s[k].1 m <+: els s := by
  refine List.IsPrefix.trans ?_ (els_prefix s (k + 1))
  rw [els_take hk]
  exact (List.prefix_append_right_inj _).2 (frm_prefix _ _ _ hm)
theorem els_len : ∀ {s : List Rg} {b : Int}, nfF b s → ((els s).length : Int) = cntF s
  | [], _, _ => rfl
  | g :: t, b, h => by
    have := els_len h.2.2.2
    have := h.2.1
    unfold els cntF
    rw [List.length_append, frm_len]
    omega
/-- The rune of a number is the one that stands there. -/
theorem at_els : ∀ {s : List Rg} {b : Int} (n : Nat), nfF b s → atF s n = (els s)[n]?
  | [], _, n, _ => rfl
  | g :: t, b, n, h => by
    have h1 := h.2.1
    unfold atF els
    by_cases hc : (n : Int) < g.2 - g.1 + 1
    · rw [if_pos hc, List.getElem?_append_left (by rw [frm_len]; omega), frm_get _ _ _ (by omega)]
    · rw [if_neg hc, List.getElem?_append_right (by rw [frm_len]; omega), frm_len]
      have e : (n : Int) - (g.2 - g.1 + 1) = ((n - (g.2 - g.1 + 1).toNat : Nat) : Int) := by omega
      rw [e, at_els _ h.2.2.2]
theorem atN_els (l : List Rg) (n : Nat) : atN l n = (els (nrm l))[n]? := by
  unfold atN
  rw [if_neg (by omega), at_els n (nrm_nf l)]
end Go.Proofs.YtfahbdlcokoghaaDoor
