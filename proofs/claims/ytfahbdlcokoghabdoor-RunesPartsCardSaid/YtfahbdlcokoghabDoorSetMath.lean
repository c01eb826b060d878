/- Sets of runes, the mathematics: the operations and their laws. -/
import Derived.Test.YtfahbdlcokoghabDoorOwn
namespace Go.Proofs.YtfahbdlcokoghabDoor
open Go.RowKit


def andF : Nat → List Rg → List Rg → List Rg
  | 0, _, _ => []
  | n + 1, g :: a, h :: b => (if max g.1 h.1 ≤ min g.2 h.2 then [(max g.1 h.1, min g.2 h.2)] else []) ++ (if g.2 = min g.2 h.2 then andF n a (h :: b) else andF n (g :: a) b)
  | _ + 1, [], _ => []
  | _ + 1, _ :: _, [] => []
theorem andF_nf : ∀ (n : Nat) {a b : List Rg} {b0 b1 b2 : Int}, nfF b1 a → nfF b2 b → (b0 ≤ b1 ∨ b0 ≤ b2) → nfF b0 (andF n a b)
  | 0, _, _, _, _, _, _, _, _ => trivial
  | n + 1, [], _, _, _, _, _, _, _ => trivial
  | n + 1, g :: a, [], _, _, _, _, _, _ => trivial
  | n + 1, g :: a, h :: b, b0, b1, b2, h1, h2, h0 => by
    obtain ⟨p1, p2, p3, p4⟩ := h1
    obtain ⟨q1, q2, q3, q4⟩ := h2
    have hb : nfF b2 (h :: b) := ⟨q1, q2, q3, q4⟩
    have ha : nfF b1 (g :: a) := ⟨p1, p2, p3, p4⟩
    rw [andF]
    by_cases c1 : max g.1 h.1 ≤ min g.2 h.2
    · rw [if_pos c1]
      refine ⟨by show b0 ≤ max g.1 h.1; omega, c1, by show min g.2 h.2 ≤ top; omega, ?_⟩
      show nfF (min g.2 h.2 + 2) (if g.2 = min g.2 h.2 then andF n a (h :: b) else andF n (g :: a) b)
      split
      · exact andF_nf n p4 hb (.inl (by omega))
      · exact andF_nf n ha q4 (.inr (by omega))
    · rw [if_neg c1, List.nil_append]
      split
      · exact andF_nf n p4 hb (h0.imp (fun h => by omega) id)
      · exact andF_nf n ha q4 (h0.imp id (fun h => by omega))
theorem andF_in (r : Int) : ∀ (n : Nat) {a b : List Rg} {b1 b2 : Int}, nfF b1 a → nfF b2 b → a.length + b.length ≤ n → (isin r (andF n a b) ↔ isin r a ∧ isin r b)
  | 0, [], b, _, _, _, _, _ => by simp [andF, isin]
  | 0, g :: a, b, _, _, _, _, h => by simp at h
  | n + 1, [], _, _, _, _, _, _ => by simp [andF, isin]
  | n + 1, g :: a, [], _, _, _, _, _ => by simp [andF, isin]
  | n + 1, g :: a, h :: b, b1, b2, h1, h2, hn => by
    obtain ⟨p1, p2, p3, p4⟩ := h1
    obtain ⟨q1, q2, q3, q4⟩ := h2
    have hb : nfF b2 (h :: b) := ⟨q1, q2, q3, q4⟩
    have ha : nfF b1 (g :: a) := ⟨p1, p2, p3, p4⟩
    simp only [List.length_cons] at hn
    have ea : isin r (g :: a) ↔ (g.1 ≤ r ∧ r ≤ g.2) ∨ isin r a := Iff.rfl
    have eb : isin r (h :: b) ↔ (h.1 ≤ r ∧ r ≤ h.2) ∨ isin r b := Iff.rfl
    have hpre : isin r (if max g.1 h.1 ≤ min g.2 h.2 then [(max g.1 h.1, min g.2 h.2)] else []) ↔ (g.1 ≤ r ∧ r ≤ g.2) ∧ (h.1 ≤ r ∧ r ≤ h.2) := by
      split
      · show (max g.1 h.1 ≤ r ∧ r ≤ min g.2 h.2) ∨ False ↔ _
        rw [or_false]
        constructor
        · intro x; refine ⟨⟨?_, ?_⟩, ?_, ?_⟩ <;> omega
        · intro x; refine ⟨?_, ?_⟩ <;> omega
      · refine ⟨fun x => x.elim, fun x => ?_⟩
        exfalso; omega
    rw [andF, isin_app, hpre]
    split
    · rw [andF_in r n p4 hb (by simp only [List.length_cons]; omega), ea, eb]
      constructor
      · rintro (⟨x, y⟩ | ⟨x, y⟩)
        · exact ⟨.inl x, .inl y⟩
        · exact ⟨.inr x, y⟩
      · rintro ⟨x | x, y | y⟩
        · exact .inl ⟨x, y⟩
        · have := isin_ge q4 y; omega
        · exact .inr ⟨x, .inl y⟩
        · exact .inr ⟨x, .inr y⟩
    · rw [andF_in r n ha q4 (by simp only [List.length_cons]; omega), ea, eb]
      constructor
      · rintro (⟨x, y⟩ | ⟨x, y⟩)
        · exact ⟨.inl x, .inl y⟩
        · exact ⟨x, .inr y⟩
      · rintro ⟨x | x, y | y⟩
        · exact .inl ⟨x, y⟩
        · exact .inr ⟨.inl x, y⟩
        · have := isin_ge p4 x; omega
        · exact .inr ⟨.inr x, y⟩
/-- The two lists meet. -/
def andN (a b : List Rg) : List Rg := andF ((nrm a).length + (nrm b).length) (nrm a) (nrm b)
theorem andN_nf (a b : List Rg) : nf (andN a b) := andF_nf _ (nrm_nf a) (nrm_nf b) (.inl (Int.le_refl _))
theorem andN_in (a b : List Rg) (r : Int) : isin r (andN a b) ↔ means r a ∧ means r b := by
  unfold andN
  rw [andF_in r _ (nrm_nf a) (nrm_nf b) (Nat.le_refl _), nrm_in, nrm_in]
/-- What is in either. -/
def orN (a b : List Rg) : List Rg := nrm (a ++ b)
theorem means_app (r : Int) (a b : List Rg) : means r (a ++ b) ↔ means r a ∨ means r b := by
  unfold means
  rw [isin_app]
  constructor
  · rintro ⟨h1, h2, h3 | h3⟩
    · exact .inl ⟨h1, h2, h3⟩
    · exact .inr ⟨h1, h2, h3⟩
  · rintro (⟨h1, h2, h3⟩ | ⟨h1, h2, h3⟩)
    · exact ⟨h1, h2, .inl h3⟩
    · exact ⟨h1, h2, .inr h3⟩
theorem orN_in (a b : List Rg) (r : Int) : isin r (orN a b) ↔ means r a ∨ means r b := by
  unfold orN; rw [nrm_in, means_app]
/-- A number in a normal form is one that it means. -/
theorem means_nf {l : List Rg} (h : nf l) (r : Int) : means r l ↔ isin r l :=
  ⟨fun x => x.2.2, fun x => ⟨isin_ge h x, isin_le h x, x⟩⟩
theorem nt_means (l : List Rg) (r : Int) : means r (nt l) ↔ 0 ≤ r ∧ r ≤ top ∧ ¬ means r l := by
  rw [means_nf (nt_nf l), nt_in]
/-- The document's way to what is in both. -/
theorem rand_eq (a b : List Rg) : nt (orN (nt a) (nt b)) = andN a b := by
  refine nf_one (nt_nf _) (andN_nf a b) (fun r => ?_)
  rw [nt_in, andN_in, means_nf (show nf (orN (nt a) (nt b)) from nrm_nf _), orN_in, nt_means, nt_means]
  constructor
  · rintro ⟨h1, h2, h3⟩
    exact ⟨Classical.not_not.1 fun h => h3 (.inl ⟨h1, h2, h⟩), Classical.not_not.1 fun h => h3 (.inr ⟨h1, h2, h⟩)⟩
  · rintro ⟨h1, h2⟩
    exact ⟨h1.1, h1.2.1, fun h => h.elim (fun x => x.2.2 h1) (fun x => x.2.2 h2)⟩
/-- What is in one alone. -/
def minN (a b : List Rg) : List Rg := andN a (nt b)
/-- Meeting so far. -/
def Anm (A B O : List Rg) (i j : Nat) : Prop := ∃ n, (A.length - i) + (B.length - j) ≤ n ∧ O ++ andF n (A.drop i) (B.drop j) = andF (A.length + B.length) A B
theorem Anm.start (A B : List Rg) : Anm A B [] 0 0 := ⟨_, Nat.le_refl _, by simp⟩
theorem andF_nil (n : Nat) (a b : List Rg) (h : a = [] ∨ b = []) : andF n a b = [] := by
  rcases h with rfl | rfl
  · cases n <;> rfl
  · cases n with
    | zero => rfl
    | succ n => cases a <;> rfl
theorem Anm.done {A B O : List Rg} {i j : Nat} (h : Anm A B O i j) (he : A.length ≤ i ∨ B.length ≤ j) : O = andF (A.length + B.length) A B := by
  obtain ⟨n, _, h⟩ := h
  rw [andF_nil n _ _ (he.imp (fun x => List.drop_of_length_le x) (fun x => List.drop_of_length_le x))] at h
  simpa using h
theorem Anm.step {A B O : List Rg} {i j : Nat} (h : Anm A B O i j) (hi : i < A.length) (hj : j < B.length) (lo hi' : Int) (h1 : lo = max A[i].1 B[j].1) (h2 : hi' = min A[i].2 B[j].2) :
    (lo ≤ hi' → A[i].2 = hi' → Anm A B (O ++ [(lo, hi')]) (i + 1) j) ∧ (lo ≤ hi' → ¬ A[i].2 = hi' → Anm A B (O ++ [(lo, hi')]) i (j + 1)) ∧ (¬ lo ≤ hi' → A[i].2 = hi' → Anm A B O (i + 1) j) ∧ (¬ lo ≤ hi' → ¬ A[i].2 = hi' → Anm A B O i (j + 1)) := by
  obtain ⟨n, hn, h⟩ := h
  obtain ⟨m, rfl⟩ : ∃ m, n = m + 1 := ⟨n - 1, by omega⟩
  rw [List.drop_eq_getElem_cons hi, List.drop_eq_getElem_cons hj, andF, ← h1, ← h2] at h
  refine ⟨fun a b => ?_, fun a b => ?_, fun a b => ?_, fun a b => ?_⟩
  · rw [if_pos a, if_pos b] at h
    exact ⟨m, by omega, by rw [← h, ← List.drop_eq_getElem_cons hj]; simp⟩
  · rw [if_pos a, if_neg b] at h
    exact ⟨m, by omega, by rw [← h, ← List.drop_eq_getElem_cons hi]; simp⟩
  · rw [if_neg a, if_pos b] at h
    exact ⟨m, by omega, by rw [← h, ← List.drop_eq_getElem_cons hj]; simp⟩
  · rw [if_neg a, if_neg b] at h
    exact ⟨m, by omega, by rw [← h, ← List.drop_eq_getElem_cons hi]; simp⟩


theorem means_rng {r : Int} {l : List Rg} (h : means r l) : 0 ≤ r ∧ r ≤ top := ⟨h.1, h.2.1⟩
theorem means_nt (r : Int) (l : List Rg) : means r (nt l) ↔ (0 ≤ r ∧ r ≤ top) ∧ ¬ means r l := by rw [nt_means, and_assoc]
theorem means_or (r : Int) (a b : List Rg) : means r (orN a b) ↔ means r a ∨ means r b := by rw [means_nf (show nf (orN a b) from nrm_nf _), orN_in]
theorem means_and (r : Int) (a b : List Rg) : means r (andN a b) ↔ means r a ∧ means r b := by rw [means_nf (andN_nf a b), andN_in]
theorem means_nrm (r : Int) (l : List Rg) : means r (nrm l) ↔ means r l := by rw [means_nf (nrm_nf l), nrm_in]
theorem means_none (r : Int) : ¬ means r [] := fun h => h.2.2
/-- Two normal forms that mean the same are one. -/
theorem nf_same {l m : List Rg} (h1 : nf l) (h2 : nf m) (h : ∀ r, means r l ↔ means r m) : l = m :=
  nf_one h1 h2 fun r => by rw [← means_nf h1, ← means_nf h2]; exact h r
theorem orN_nf (a b : List Rg) : nf (orN a b) := nrm_nf _
theorem alg1 (a : List Rg) : nt (nt a) = nrm a := nf_same (nt_nf _) (nrm_nf a) fun r => by
  rw [means_nt, means_nt, means_nrm]
  constructor
  · rintro ⟨h1, h2⟩; exact Classical.not_not.1 fun h => h2 ⟨h1, h⟩
  · intro h; exact ⟨means_rng h, fun x => x.2 h⟩
theorem alg2 (a : List Rg) : orN a a = nrm a := nf_same (orN_nf _ _) (nrm_nf a) fun r => by
  rw [means_or, means_nrm, or_self]
theorem alg3 (a : List Rg) : andN a a = nrm a := nf_same (andN_nf _ _) (nrm_nf a) fun r => by
  rw [means_and, means_nrm, and_self]
theorem alg4 (a : List Rg) : andN a (nt a) = [] := nf_same (andN_nf _ _) trivial fun r => by
  rw [means_and, means_nt]
  exact ⟨fun h => (h.2.2 h.1).elim, fun h => (means_none r h).elim⟩
theorem alg5 (a : List Rg) : orN a (nt a) = nt [] := nf_same (orN_nf _ _) (nt_nf _) fun r => by
  rw [means_or, means_nt, means_nt]
  constructor
  · rintro (h | h)
    · exact ⟨means_rng h, means_none r⟩
    · exact ⟨h.1, means_none r⟩
  · intro h
    by_cases x : means r a
    · exact .inl x
    · exact .inr ⟨h.1, x⟩
theorem alg6 (a : List Rg) : andN a (nt []) = nrm a := nf_same (andN_nf _ _) (nrm_nf a) fun r => by
  rw [means_and, means_nt, means_nrm]
  exact ⟨fun h => h.1, fun h => ⟨h, means_rng h, means_none r⟩⟩
theorem alg7 (a b : List Rg) : orN a b = orN b a := nf_same (orN_nf _ _) (orN_nf _ _) fun r => by
  rw [means_or, means_or, or_comm]
theorem alg8 (a b : List Rg) : andN a b = andN b a := nf_same (andN_nf _ _) (andN_nf _ _) fun r => by
  rw [means_and, means_and, and_comm]
theorem alg10 (a b : List Rg) : nt (orN a b) = andN (nt a) (nt b) := nf_same (nt_nf _) (andN_nf _ _) fun r => by
  rw [means_nt, means_or, means_and, means_nt, means_nt]
  constructor
  · rintro ⟨h1, h2⟩; exact ⟨⟨h1, fun h => h2 (.inl h)⟩, h1, fun h => h2 (.inr h)⟩
  · rintro ⟨⟨h1, h2⟩, _, h3⟩; exact ⟨h1, fun h => h.elim h2 h3⟩
theorem alg11 (a b : List Rg) : orN a (andN a b) = nrm a := nf_same (orN_nf _ _) (nrm_nf a) fun r => by
  rw [means_or, means_and, means_nrm]
  exact ⟨fun h => h.elim id (fun x => x.1), .inl⟩
theorem alg12 (a b c : List Rg) : andN a (orN b c) = orN (andN a b) (andN a c) := nf_same (andN_nf _ _) (orN_nf _ _) fun r => by
  rw [means_and, means_or, means_or, means_and, means_and, and_or_left]
theorem alg13 (a b c : List Rg) : orN a (orN b c) = orN (orN a b) c := nf_same (orN_nf _ _) (orN_nf _ _) fun r => by
  rw [means_or, means_or, means_or, means_or, or_assoc]
theorem has_or (r : Int) (a b : List Rg) : hasR r (orN a b) = (hasR r a || hasR r b) := Bool.eq_iff_iff.2 (by rw [Bool.or_eq_true, hasR_iff, hasR_iff, hasR_iff, means_or])
theorem has_and (r : Int) (a b : List Rg) : hasR r (andN a b) = (hasR r a && hasR r b) := Bool.eq_iff_iff.2 (by rw [Bool.and_eq_true, hasR_iff, hasR_iff, hasR_iff, means_and])
theorem has_nt (r : Int) (a : List Rg) : hasR r (nt a) = ((decide (0 ≤ r) && decide (r ≤ 1114111)) && !hasR r a) := Bool.eq_iff_iff.2 (by
  rw [Bool.and_eq_true, Bool.and_eq_true, hasR_iff, means_nt, decide_eq_true_iff, decide_eq_true_iff, Bool.not_eq_true', ← Bool.not_eq_true, hasR_iff]
  rfl)
theorem has_min (r : Int) (a b : List Rg) : hasR r (minN a b) = (hasR r a && !hasR r b) := Bool.eq_iff_iff.2 (by
  rw [Bool.and_eq_true, Bool.not_eq_true', ← Bool.not_eq_true, hasR_iff, hasR_iff, hasR_iff]
  unfold minN
  rw [means_and, means_nt]
  exact ⟨fun h => ⟨h.1, h.2.2⟩, fun h => ⟨h.1, means_rng h.1, h.2⟩⟩)


theorem rdr_row3 {w : World} {B : Nat} {v : Value} {l : List Rg} (h : w.ownsRow B 46 2 v l.length (rgcs l)) : ∃ ao cap, v = .slice ao l.length cap ∧ RdR w ao l ∧ (ao = none → cap = 0) := by
  obtain ⟨ao, cap, e, hr⟩ := rdr_row h
  refine ⟨ao, cap, e, hr, fun hn => ?_⟩
  rcases h.2 with ⟨h1, _⟩ | ⟨gg, cc, cur, h1, _⟩
  · rw [e] at h1; injection h1
  · rw [e, hn] at h1; cases h1

theorem nt_len (l : List Rg) : (nt l).length ≤ l.length + 1 := by
  have h1 := nrm_len l
  have h2 : ∀ (s : List Rg) (b : Int), (ntF b s).length ≤ s.length + 1 := fun s => by
    induction s with
    | nil => intro b; unfold ntF; split <;> simp
    | cons g t ih =>
      intro b
      unfold ntF
      have := ih (g.2 + 1)
      split <;> simp <;> omega
  have := h2 (nrm l) 0
  unfold nt
  omega
theorem orN_len (a b : List Rg) : (orN a b).length ≤ a.length + b.length := by
  have := nrm_len (a ++ b)
  rw [List.length_append] at this
  exact this

end Go.Proofs.YtfahbdlcokoghabDoor
