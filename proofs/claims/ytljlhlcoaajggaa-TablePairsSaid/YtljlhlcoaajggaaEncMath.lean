/- The bytes of rising ranges; the ranges of classes rise. -/
import Derived.Test.YtljlhlcoaajggaaRanges
namespace Go.Proofs.Ytljlhlcoaajggaa

/-- The bytes of ranges from b on. -/
def enL : Nat → List Tr → List Nat
  | _, [] => []
  | b, g :: L => vn (g.1 - b) ++ (vn (g.2.1 - g.1) ++ (g.2.2 :: enL (g.2.1 + 1) L))
/-- The bytes of a table. -/
def enb (r : Nat) (L : List Tr) : List Nat := r :: (vn L.length ++ enL 0 L)
theorem vn3 (n : Nat) (h : n < 2097152) : (vn n).length ≤ 3 := by
  by_cases h1 : 128 ≤ n
  · rw [vn_more n h1]
    by_cases h2 : 128 ≤ n / 128
    · rw [vn_more _ h2]
      by_cases h3 : 128 ≤ n / 128 / 128
      · omega
      · rw [vn_last _ h3]; simp
    · rw [vn_last _ h2]; simp
  · rw [vn_last _ h1]; simp
theorem ris_weak {A : List Tr} {b b' : Nat} (h : Ris b A) (hb : b' ≤ b) : Ris b' A := by
  cases A with
  | nil => trivial
  | cons g A => obtain ⟨h1, h2⟩ := h; exact ⟨by omega, h2⟩
theorem ris_fil (r : Nat) : ∀ (A : List Tr) (b : Nat), Ris b A → Ris b (fil r A)
  | [], _, _ => trivial
  | g :: A, b, h => by
    obtain ⟨h1, h2, h3, h4, h5⟩ := h
    have ih := ris_fil r A _ h5
    by_cases hc : g.2.2 = r
    · have e : fil r (g :: A) = fil r A := by simp [fil, hc]
      rw [e]
      exact ris_weak ih (by omega)
    · have e : fil r (g :: A) = g :: fil r A := by simp [fil, hc]
      rw [e]
      exact ⟨h1, h2, h3, h4, ih⟩
/-- Where ranges end. -/
def endR (b : Nat) (L : List Tr) : Nat := match L.getLast? with | some z => z.2.1 + 1 | none => b
theorem endR_snoc (b : Nat) (L : List Tr) (g : Tr) : endR b (L ++ [g]) = g.2.1 + 1 := by unfold endR; simp
theorem ris_snoc : ∀ (L : List Tr) (b : Nat) (g : Tr), Ris b (L ++ [g]) ↔ Ris b L ∧ endR b L ≤ g.1 ∧ g.1 ≤ g.2.1 ∧ g.2.1 ≤ 1114111 ∧ g.2.2 < 256
  | [], b, g => by
    show (b ≤ g.1 ∧ g.1 ≤ g.2.1 ∧ g.2.1 ≤ 1114111 ∧ g.2.2 < 256 ∧ True) ↔ True ∧ b ≤ g.1 ∧ _
    simp
  | x :: L, b, g => by
    have ih := ris_snoc L (x.2.1 + 1) g
    have he : endR b (x :: L) = endR (x.2.1 + 1) L := by
      unfold endR
      cases L with
      | nil => rfl
      | cons y L => rfl
    rw [he]
    show (b ≤ x.1 ∧ x.1 ≤ x.2.1 ∧ x.2.1 ≤ 1114111 ∧ x.2.2 < 256 ∧ Ris (x.2.1 + 1) (L ++ [g])) ↔ (b ≤ x.1 ∧ x.1 ≤ x.2.1 ∧ x.2.1 ≤ 1114111 ∧ x.2.2 < 256 ∧ Ris (x.2.1 + 1) L) ∧ _
    rw [ih]
    constructor
    · rintro ⟨h1, h2, h3, h4, h5, h6⟩
      exact ⟨⟨h1, h2, h3, h4, h5⟩, h6⟩
    · rintro ⟨⟨h1, h2, h3, h4, h5⟩, h6⟩
      exact ⟨h1, h2, h3, h4, h5, h6⟩
theorem rlA_ris : ∀ (n : Nat) (C : List Nat), C.length = n → n ≤ 1114112 → (∀ c ∈ C, c < 256) → Ris 0 (rlA 0 [] C) ∧ endR 0 (rlA 0 [] C) = n
  | 0, C, h, _, _ => by
    have : C = [] := List.length_eq_zero_iff.1 h
    subst this
    exact ⟨trivial, rfl⟩
  | n + 1, C, h, hn, hc => by
    rcases List.eq_nil_or_concat C with rfl | ⟨D, c, rfl⟩
    · simp at h
    · rw [List.concat_eq_append] at h hc ⊢
      have hl : D.length = n := by simpa using h
      obtain ⟨ih1, ih2⟩ := rlA_ris n D hl (by omega) (fun x hx => hc x (by simp [hx]))
      have hc' := hc c (by simp)
      rw [rlA_snoc, Nat.zero_add, hl]
      rcases List.eq_nil_or_concat (rlA 0 [] D) with h2 | ⟨Q, z, h2⟩
      · rw [h2] at ih2 ⊢
        rw [jn_nil]
        exact ⟨⟨by omega, Nat.le_refl _, by show n ≤ 1114111; omega, hc', trivial⟩, rfl⟩
      · rw [List.concat_eq_append] at h2
        rw [h2] at ih1 ih2 ⊢
        rw [endR_snoc] at ih2
        obtain ⟨a1, a2, a3, a4, a5⟩ := (ris_snoc Q 0 z).1 ih1
        rw [jn_snoc]
        split
        · refine ⟨(ris_snoc _ _ _).2 ⟨a1, a2, by show z.1 ≤ n; omega, by show n ≤ 1114111; omega, hc'⟩, endR_snoc _ _ _⟩
        · rw [show Q ++ [z, (n, n, c)] = (Q ++ [z]) ++ [(n, n, c)] by simp]
          refine ⟨(ris_snoc _ _ _).2 ⟨ih1, by rw [endR_snoc]; show z.2.1 + 1 ≤ n; omega, Nat.le_refl _, by show n ≤ 1114111; omega, hc'⟩, endR_snoc _ _ _⟩
theorem rgs_ris (r : Nat) (C : List Nat) (h : C.length = 1114112) (hc : ∀ c ∈ C, c < 256) : Ris 0 (rgs r C) := ris_fil r _ 0 (rlA_ris _ C h (Nat.le_refl _) hc).1
theorem ris_len : ∀ (A : List Tr) (b : Nat), b ≤ 1114112 → Ris b A → b + A.length ≤ 1114112
  | [], b, hb, _ => by simpa using hb
  | g :: A, b, hb, h => by
    obtain ⟨h1, h2, h3, h4, h5⟩ := h
    have := ris_len A (g.2.1 + 1) (by omega) h5
    rw [List.length_cons]; omega
end Go.Proofs.Ytljlhlcoaajggaa
