/- The parts of a database: they cover all numbers, neighbours have unlike classes; the sets of classes and what they count. -/
import Derived.Test.YtohhokjlgihbgaaGreatDoorFReadMath
import Derived.Test.YtohhokjlgihbgaaGreatDoorFBare
import Derived.Test.YtohhokjlgihbgaaGreatDoorFSearch
import Derived.Test.YtohhokjlgihbgaaGreatDoorFRows2
import Derived.Test.YtohhokjlgihbgaaGreatDoorFNot
namespace Go.Proofs.YtohhokjlgihbgaaGreatDoor

/-- Ranges one behind the other, without a gap, from a to b. -/
def Cov : Nat → List Tr → Nat → Prop
  | a, [], b => a = b
  | a, g :: R, b => g.1 = a ∧ g.1 ≤ g.2.1 ∧ Cov (g.2.1 + 1) R b
/-- Neighbours have unlike classes. -/
def Alt : List Tr → Prop
  | [] => True
  | [_] => True
  | x :: y :: R => x.2.2 ≠ y.2.2 ∧ Alt (y :: R)
theorem cov_snoc : ∀ (Q : List Tr) (a b : Nat) (g : Tr), Cov a Q b → g.1 = b → g.1 ≤ g.2.1 → Cov a (Q ++ [g]) (g.2.1 + 1)
  | [], a, b, g, h, h1, h2 => ⟨by have h' : a = b := h; omega, h2, rfl⟩
  | x :: Q, a, b, g, h, h1, h2 => ⟨h.1, h.2.1, cov_snoc Q _ b g h.2.2 h1 h2⟩
theorem cov_last : ∀ (Q : List Tr) (a b : Nat) (z : Tr), Cov a (Q ++ [z]) b → Cov a Q z.1 ∧ z.1 ≤ z.2.1 ∧ z.2.1 + 1 = b
  | [], a, b, z, h => ⟨h.1.symm, h.2.1, h.2.2⟩
  | x :: Q, a, b, z, h => by
    obtain ⟨h1, h2, h3⟩ := cov_last Q _ b z h.2.2
    exact ⟨⟨h.1, h.2.1, h1⟩, h2, h3⟩
theorem alt_snoc : ∀ (Q : List Tr) (z g : Tr), Alt (Q ++ [z]) → z.2.2 ≠ g.2.2 → Alt (Q ++ [z] ++ [g])
  | [], _, _, _, h => ⟨h, trivial⟩
  | [_], _, _, h1, h => ⟨h1.1, h, trivial⟩
  | _ :: y :: Q, z, g, h1, h => ⟨h1.1, alt_snoc (y :: Q) z g h1.2 h⟩
theorem alt_set : ∀ (Q : List Tr) (z z' : Tr), Alt (Q ++ [z]) → z'.2.2 = z.2.2 → Alt (Q ++ [z'])
  | [], z, z', _, _ => trivial
  | [x], z, z', h1, h => ⟨by rw [h]; exact h1.1, trivial⟩
  | x :: y :: Q, z, z', h1, h => ⟨h1.1, alt_set (y :: Q) z z' h1.2 h⟩
/-- What stands between the rounds of whole. -/
def InvW (o : List Tr) (nx : Nat) : Prop := Cov 0 o nx ∧ Alt o ∧ ∀ Q z, o = Q ++ [z] → z.2.2 ≠ 0
theorem inv_step (o : List Tr) (nx : Nat) (g : Tr) (h : InvW o nx) (h1 : nx ≤ g.1) (h2 : g.1 ≤ g.2.1) (h3 : g.2.2 ≠ 0) : InvW (jn (gp o nx g) g) (g.2.1 + 1) := by
  obtain ⟨c, a, l⟩ := h
  have fresh : ∀ (o' : List Tr), Cov 0 o' g.1 → Alt o' → (∀ Q z, o' = Q ++ [z] → z.2.2 ≠ g.2.2) → InvW (o' ++ [g]) (g.2.1 + 1) := fun o' c' a' l' => by
    refine ⟨cov_snoc o' 0 g.1 g c' rfl h2, ?_, fun Q z e => ?_⟩
    · rcases List.eq_nil_or_concat o' with rfl | ⟨Q, z, rfl⟩
      · exact trivial
      · rw [List.concat_eq_append] at *
        exact alt_snoc Q z g a' (l' Q z rfl)
    · obtain ⟨_, e2⟩ := List.append_inj' e rfl
      injection e2 with e2 _
      rw [← e2]; exact h3
  unfold gp
  split
  · rename_i hlt
    rw [jn_snoc, if_neg (fun e => h3 e.symm)]
    refine fresh (o ++ [(nx, g.1 - 1, 0)]) ?_ ?_ ?_
    · have h5 := cov_snoc o 0 nx (nx, g.1 - 1, 0) c rfl (by show nx ≤ g.1 - 1; omega)
      rw [show (g.1 - 1) + 1 = g.1 by omega] at h5
      exact h5
    · rcases List.eq_nil_or_concat o with rfl | ⟨Q, z, rfl⟩
      · exact trivial
      · rw [List.concat_eq_append] at *
        exact alt_snoc Q z _ a (l Q z rfl)
    · intro Q z e
      obtain ⟨_, e2⟩ := List.append_inj' e rfl
      injection e2 with e2 _
      rw [← e2]; exact fun e => h3 e.symm
  · have hnx : nx = g.1 := by omega
    subst hnx
    rcases List.eq_nil_or_concat o with rfl | ⟨Q, z, rfl⟩
    · rw [jn_nil]
      exact fresh [] c a (fun Q z e => by simp at e)
    · rw [List.concat_eq_append] at *
      rw [jn_snoc]
      split
      · rename_i hz
        obtain ⟨k1, k2, k3⟩ := cov_last Q 0 _ z c
        refine ⟨?_, alt_set Q z _ a (by show g.2.2 = z.2.2; exact hz.symm), fun Q' z' e => ?_⟩
        · exact cov_snoc Q 0 z.1 (z.1, g.2.1, g.2.2) k1 rfl (by show z.1 ≤ g.2.1; omega)
        · obtain ⟨_, e2⟩ := List.append_inj' e rfl
          injection e2 with e2 _
          rw [← e2]; exact h3
      · rename_i hz
        exact fresh (Q ++ [z]) c a (fun Q' z' e => by
          obtain ⟨_, e2⟩ := List.append_inj' e rfl
          injection e2 with e2 _
          rw [← e2]; exact hz)
theorem inv_whF : ∀ (L o : List Tr) (nx : Nat), InvW o nx → Rs nx L → (∀ g ∈ L, g.2.2 ≠ 0) → nx ≤ 1114112 → Cov 0 (whF o nx L) 1114112 ∧ Alt (whF o nx L)
  | [], o, nx, h, _, _, hn => by
    unfold whF
    split
    · rename_i hlt
      refine ⟨cov_snoc o 0 nx (nx, 1114111, 0) h.1 rfl (by show nx ≤ 1114111; omega), ?_⟩
      rcases List.eq_nil_or_concat o with rfl | ⟨Q, z, rfl⟩
      · exact trivial
      · rw [List.concat_eq_append] at *
        exact alt_snoc Q z _ h.2.1 (h.2.2 Q z rfl)
    · have e : nx = 1114112 := by omega
      subst e
      exact ⟨h.1, h.2.1⟩
  | g :: L, o, nx, h, hR, hc, hn => by
    obtain ⟨r1, r2, r3, r4⟩ := hR
    exact inv_whF L _ (g.2.1 + 1) (inv_step o nx g h r1 r2 (hc g (by simp))) r4 (fun x hx => hc x (by simp [hx])) (by omega)
theorem whl_cov (S : List Tr) (h : Rs 0 S) (hc : ∀ g ∈ S, g.2.2 ≠ 0) : Cov 0 (whl S) 1114112 ∧ Alt (whl S) :=
  inv_whF S [] 0 ⟨rfl, trivial, fun Q z e => by simp at e⟩ h hc (by omega)
end Go.Proofs.YtohhokjlgihbgaaGreatDoor
/- The sets of classes: each in normal form, apart, and all numbers; what the names and the ranges of a text keep to. -/
namespace Go.Proofs.YtohhokjlgihbgaaGreatDoor

theorem cov_ge : ∀ (R : List Tr) (a b : Nat) (g : Tr), Cov a R b → g ∈ R → a ≤ g.1
  | [], _, _, _, _, hg => by cases hg
  | x :: R, a, b, g, h, hg => by
    obtain ⟨c1, c2, c3⟩ := h
    rcases List.mem_cons.1 hg with rfl | hg
    · omega
    · have := cov_ge R _ b g c3 hg; omega
theorem gtp_in : ∀ (A : List Tr) (a b : Nat) (r : Int) (g : Tr), Cov a A b → g ∈ A → (g.1 : Int) ≤ r → r ≤ (g.2.1 : Int) → gtp r A = g.2.2
  | [], _, _, _, g, _, hg, _, _ => by cases hg
  | x :: R, a, b, r, g, h, hg, h1, h2 => by
    obtain ⟨c1, c2, c3⟩ := h
    unfold gtp
    rcases List.mem_cons.1 hg with rfl | hg
    · rw [if_neg (by omega)]
    · have h5 := cov_ge R _ b g c3 hg
      rw [if_pos (by omega)]
      exact gtp_in R _ b r g c3 hg h1 h2
theorem cov_ex : ∀ (A : List Tr) (a b : Nat) (r : Int), Cov a A b → (a : Int) ≤ r → r < (b : Int) → ∃ g ∈ A, (g.1 : Int) ≤ r ∧ r ≤ (g.2.1 : Int)
  | [], a, b, r, h, h1, h2 => by have h' : a = b := h; omega
  | x :: R, a, b, r, h, h1, h2 => by
    obtain ⟨c1, c2, c3⟩ := h
    by_cases hr : r ≤ (x.2.1 : Int)
    · exact ⟨x, by simp, by omega, hr⟩
    · obtain ⟨g, hg, h5⟩ := cov_ex R _ b r c3 (by omega) h2
      exact ⟨g, by simp [hg], h5⟩
theorem isin_stc (r c : Int) (A : List Tr) : isin r (stc c A) ↔ ∃ g ∈ A, (g.2.2 : Int) = c ∧ (g.1 : Int) ≤ r ∧ r ≤ (g.2.1 : Int) := by
  rw [isin_iff]
  unfold stc
  constructor
  · rintro ⟨x, hx, h1, h2⟩
    obtain ⟨g, hg, rfl⟩ := List.mem_map.1 hx
    obtain ⟨h3, h4⟩ := List.mem_filter.1 hg
    exact ⟨g, h3, by simpa using h4, h1, h2⟩
  · rintro ⟨g, h1, h2, h3, h4⟩
    exact ⟨_, List.mem_map.2 ⟨g, List.mem_filter.2 ⟨h1, by simpa using h2⟩, rfl⟩, h3, h4⟩
/-- Whether a number is in the set of a class. -/
theorem has_stc (A : List Tr) (h : Cov 0 A 1114112) (r : Int) (i : Nat) (h0 : 0 ≤ r) (h1 : r ≤ 1114111) : hasR r (stc (i : Int) A) = decide (gtp r A = i) := by
  rw [Bool.eq_iff_iff, hasR_iff, decide_eq_true_iff]
  unfold means
  rw [isin_stc]
  constructor
  · rintro ⟨_, _, g, hg, h2, h3, h4⟩
    rw [gtp_in A 0 _ r g h hg h3 h4]; omega
  · intro he
    obtain ⟨g, hg, h3, h4⟩ := cov_ex A 0 1114112 r h (by omega) (by omega)
    refine ⟨h0, h1, g, hg, ?_, h3, h4⟩
    rw [gtp_in A 0 _ r g h hg h3 h4] at he
    omega
theorem stc_cons (c : Int) (g : Tr) (R : List Tr) : stc c (g :: R) = (if (g.2.2 : Int) = c then [((g.1 : Int), (g.2.1 : Int))] else []) ++ stc c R := by
  unfold stc
  rw [List.filter_cons]
  split
  · rename_i h; rw [if_pos (by simpa using h)]; rfl
  · rename_i h; rw [if_neg (by simpa using h)]; rfl
theorem nfF_mono' : ∀ (l : List Rg) (a b : Int), a ≤ b → nfF b l → nfF a l
  | [], _, _, _, _ => trivial
  | g :: l, a, b, h, hb => ⟨by have := hb.1; omega, hb.2⟩
theorem cov_le : ∀ (R : List Tr) (a e : Nat), Cov a R e → a ≤ e
  | [], a, e, h => by have h' : a = e := h; omega
  | x :: R, a, e, h => by have := cov_le R _ e h.2.2; have := h.1; have := h.2.1; omega
theorem nf_stc : ∀ (A : List Tr) (a e : Nat) (c : Int), Cov a A e → Alt A → e ≤ 1114112 → nfF (a : Int) (stc c A) ∧ ((∀ x R, A = x :: R → (x.2.2 : Int) ≠ c) → nfF ((a : Int) + 1) (stc c A))
  | [], a, e, c, _, _, _ => ⟨trivial, fun _ => trivial⟩
  | g :: R, a, e, c, h, hA, he => by
    obtain ⟨c1, c2, c3⟩ := h
    have hle := cov_le R _ e c3
    have hAR : Alt R := by
      cases R with
      | nil => exact trivial
      | cons y R => exact hA.2
    obtain ⟨i1, i2⟩ := nf_stc R (g.2.1 + 1) e c c3 hAR he
    rw [stc_cons]
    by_cases hc : (g.2.2 : Int) = c
    · rw [if_pos hc]
      have hh : nfF (((g.2.1 + 1 : Nat) : Int) + 1) (stc c R) := i2 (fun x R' e => by
        subst e
        intro h5
        exact hA.1 (by omega))
      have base : nfF (a : Int) (((g.1 : Int), (g.2.1 : Int)) :: stc c R) := ⟨by show (a : Int) ≤ (g.1 : Int); omega, by show (g.1 : Int) ≤ (g.2.1 : Int); omega, by show (g.2.1 : Int) ≤ top; unfold top; omega, by
        have e : ((g.1 : Int), (g.2.1 : Int)).2 + 2 = ((g.2.1 + 1 : Nat) : Int) + 1 := by show (g.2.1 : Int) + 2 = _; omega
        rw [e]; exact hh⟩
      exact ⟨base, fun hx => absurd hc (hx g R rfl)⟩
    · rw [if_neg hc]
      exact ⟨nfF_mono' _ _ _ (by omega) i1, fun _ => nfF_mono' _ _ _ (by omega) i1⟩
theorem nrm_self (l : List Rg) (h : nf l) : nrm l = l := nf_one (nrm_nf l) h (fun r => by
  rw [nrm_in]
  unfold means
  constructor
  · exact fun h => h.2.2
  · intro hi
    obtain ⟨g, hg, h1, h2⟩ := isin_iff.1 hi
    obtain ⟨b1, b2, b3⟩ := nf_bounds l h g hg
    exact ⟨by omega, by unfold top; omega, hi⟩)
/-- How many numbers have a class below k. -/
def szk (k : Nat) : List Tr → Int
  | [] => 0
  | g :: R => (if g.2.2 < k then (g.2.1 : Int) - (g.1 : Int) + 1 else 0) + szk k R
theorem szk_zero : ∀ A, szk 0 A = 0
  | [] => rfl
  | g :: R => by unfold szk; rw [szk_zero R]; simp
theorem szk_succ (k : Nat) : ∀ A : List Tr, szk (k + 1) A = szk k A + cntF (stc (k : Int) A)
  | [] => rfl
  | g :: R => by
    unfold szk
    rw [szk_succ k R, stc_cons]
    by_cases h1 : g.2.2 < k
    · rw [if_pos (by omega), if_pos h1, if_neg (by omega)]
      show _ = _ + cntF (stc (k : Int) R)
      omega
    · by_cases h2 : g.2.2 = k
      · rw [if_pos (by omega), if_neg h1, if_pos (by omega)]
        show _ = _ + (((g.2.1 : Int) - (g.1 : Int) + 1) + cntF (stc (k : Int) R))
        omega
      · rw [if_neg (by omega), if_neg h1, if_neg (by omega)]
        show _ = _ + cntF (stc (k : Int) R)
        omega
theorem szk_all : ∀ (A : List Tr) (a b n : Nat), Cov a A b → (∀ g ∈ A, g.2.2 < n) → szk n A = (b : Int) - (a : Int)
  | [], a, b, n, h, _ => by have h' : a = b := h; unfold szk; omega
  | g :: R, a, b, n, h, hc => by
    obtain ⟨c1, c2, c3⟩ := h
    have ih := szk_all R _ b n c3 (fun x hx => hc x (by simp [hx]))
    unfold szk
    rw [if_pos (hc g (by simp)), ih]
    omega
/-- The sets of the classes below k, one behind the other. -/
def alS (A : List Tr) : Nat → List Rg
  | 0 => []
  | k + 1 => alS A k ++ stc (k : Int) A
theorem isin_app' (r : Int) (l m : List Rg) : isin r (l ++ m) ↔ isin r l ∨ isin r m := by
  rw [isin_iff, isin_iff, isin_iff]
  constructor
  · rintro ⟨g, hg, h⟩
    rcases List.mem_append.1 hg with hg | hg
    · exact .inl ⟨g, hg, h⟩
    · exact .inr ⟨g, hg, h⟩
  · rintro (⟨g, hg, h⟩ | ⟨g, hg, h⟩)
    · exact ⟨g, List.mem_append.2 (.inl hg), h⟩
    · exact ⟨g, List.mem_append.2 (.inr hg), h⟩
theorem isin_alS (A : List Tr) (r : Int) : ∀ (k : Nat), (∃ g ∈ A, g.2.2 < k ∧ (g.1 : Int) ≤ r ∧ r ≤ (g.2.1 : Int)) → isin r (alS A k)
  | 0, h => by obtain ⟨g, _, h1, _⟩ := h; omega
  | k + 1, h => by
    obtain ⟨g, hg, h1, h2, h3⟩ := h
    unfold alS
    rw [isin_app']
    by_cases e : g.2.2 = k
    · exact .inr ((isin_stc r _ A).2 ⟨g, hg, by omega, h2, h3⟩)
    · exact .inl (isin_alS A r k ⟨g, hg, by omega, h2, h3⟩)
theorem nrm_alS (A : List Tr) (n : Nat) (h : Cov 0 A 1114112) (hc : ∀ g ∈ A, g.2.2 < n) : nrm (alS A n) = [(0, 1114111)] := by
  refine nf_one (nrm_nf _) (show nfF 0 [(0, 1114111)] from ⟨Int.le_refl _, by decide, by decide, trivial⟩) (fun r => ?_)
  rw [nrm_in]
  unfold means
  constructor
  · rintro ⟨h1, h2, _⟩
    exact .inl ⟨h1, h2⟩
  · rintro (⟨h1, h2⟩ | h1)
    · have h1' : (0 : Int) ≤ r := h1
      have h2' : r ≤ 1114111 := h2
      obtain ⟨g, hg, h3, h4⟩ := cov_ex A 0 1114112 r h (by omega) (by omega)
      exact ⟨h1, h2, isin_alS A r n ⟨g, hg, hc g hg, h3, h4⟩⟩
    · cases h1
theorem alS_len (A : List Tr) : ∀ k, (alS A k).length ≤ k * A.length
  | 0 => by simp [alS]
  | k + 1 => by
    have ih := alS_len A k
    have h5 := stc_len (k : Int) A
    unfold alS
    rw [List.length_append, Nat.succ_mul]
    omega
end Go.Proofs.YtohhokjlgihbgaaGreatDoor
/- What the names and the ranges of a text that New takes keep to: the first name is Other, each range has a class from 1 on below the number of names; how many ranges there are at most. -/
namespace Go.Proofs.YtohhokjlgihbgaaGreatDoor

def GoodR (U : List (List UInt8)) (S : List Tr) : Prop := U[0]? = some oth ∧ ∀ g ∈ S, 1 ≤ g.2.2 ∧ g.2.2 < U.length
theorem sayD_cls : ∀ (D : List Tr) (g x : Tr) (R : List Tr), sayD D g = some (x, R) → x.2.2 = g.2.2 ∧ (∀ y ∈ R, y ∈ D) ∧ R.length ≤ D.length
  | [], g, x, R, h => by
    simp only [sayD, Option.some.injEq, Prod.mk.injEq] at h
    obtain ⟨rfl, rfl⟩ := h
    exact ⟨rfl, fun y hy => (by cases hy), Nat.le_refl _⟩
  | d :: D, g, x, R, h => by
    unfold sayD at h
    split at h
    · split at h
      · obtain ⟨h1, h2, h3⟩ := sayD_cls D _ x R h
        exact ⟨h1, fun y hy => by simp [h2 y hy], by simp; omega⟩
      · cases h
    · simp only [Option.some.injEq, Prod.mk.injEq] at h
      obtain ⟨rfl, rfl⟩ := h
      exact ⟨rfl, fun y hy => hy, Nat.le_refl _⟩
theorem sayR_cls : ∀ (S : List Tr) (g : Tr) (S' : List Tr), sayR S g = some S' → (∀ x ∈ S', x.2.2 = g.2.2 ∨ x ∈ S) ∧ S'.length ≤ S.length + 1
  | [], g, S', h => by
    simp only [sayR, Option.some.injEq] at h
    subst h
    exact ⟨fun x hx => .inl (by simp at hx; rw [hx]), by simp⟩
  | d :: S, g, S', h => by
    unfold sayR at h
    split at h
    · cases hs : sayR S g with
      | none => rw [hs] at h; cases h
      | some T =>
        rw [hs] at h
        simp only [Option.map_some, Option.some.injEq] at h
        subst h
        obtain ⟨h1, h2⟩ := sayR_cls S g T hs
        refine ⟨fun x hx => ?_, by simp; omega⟩
        rcases List.mem_cons.1 hx with rfl | hx
        · exact .inr (by simp)
        · rcases h1 x hx with h5 | h5
          · exact .inl h5
          · exact .inr (by simp [h5])
    · cases hs : sayD (d :: S) g with
      | none => rw [hs] at h; cases h
      | some y =>
        rw [hs] at h
        simp only [Option.map_some, Option.some.injEq] at h
        subst h
        obtain ⟨h1, h2, h3⟩ := sayD_cls (d :: S) g y.1 y.2 hs
        refine ⟨fun x hx => ?_, by rw [List.length_cons]; omega⟩
        rcases List.mem_cons.1 hx with rfl | hx
        · exact .inl h1
        · exact .inr (h2 x hx)
theorem sayL_cls : ∀ (G : List Rg) (S : List Tr) (c : Nat) (S' : List Tr), sayL S G c = some S' → (∀ x ∈ S', x.2.2 = c ∨ x ∈ S) ∧ S'.length ≤ S.length + G.length
  | [], S, c, S', h => by
    simp only [sayL, Option.some.injEq] at h
    subst h
    exact ⟨fun x hx => .inr hx, by simp⟩
  | g :: G, S, c, S', h => by
    unfold sayL at h
    cases hs : sayR S (rgT c g) with
    | none => rw [hs] at h; cases h
    | some T =>
      rw [hs] at h
      obtain ⟨h1, h2⟩ := sayR_cls S _ T hs
      obtain ⟨h3, h4⟩ := sayL_cls G T c S' h
      refine ⟨fun x hx => ?_, by rw [List.length_cons]; omega⟩
      rcases h3 x hx with h5 | h5
      · exact .inl h5
      · exact h1 x h5
theorem parF_len : ∀ (f : Nat) (l : List UInt8) (p : Nat) (acc : List Rg), p ≤ l.length → (parF f l p acc).1.length ≤ acc.length + (l.length - p)
  | 0, l, p, acc, _ => by unfold parF; simp
  | f + 1, l, p, acc, hp => by
    unfold parF
    split
    · have := nrm_len acc
      show (nrm acc).length ≤ _
      omega
    · split
      · have := parF_len f l (p + 1) acc (by omega)
        omega
      · split
        · simp
        · split
          · simp
          · rename_i h1 h2 h3 h4
            obtain ⟨i1, i2, _⟩ := itm_le l p hp
            have i2' := i2 (by simpa using h3)
            have := parF_len f l (itm l p).2.1 (acc ++ [(itm l p).1]) i1
            rw [List.length_append] at this
            simp at this
            omega
theorem par_len (l : List UInt8) : (par l).1.length ≤ l.length := by
  have := parF_len (l.length + 1) l 0 [] (Nat.zero_le _)
  unfold par
  simpa using this
theorem rdS_good (U : List (List UInt8)) (S : List Tr) (l : List UInt8) (h : GoodR U S) (h0 : (rdS U S l).1 = 0) : GoodR (rdS U S l).2.1 (rdS U S l).2.2 ∧ (rdS U S l).2.2.length ≤ S.length + l.length := by
  have hl1 := rlin_len l
  have hsl := rsp_len (rlin l)
  have hpl := par_len (rsp (rlin l))
  obtain ⟨u0, hS⟩ := h
  have hU : 0 < U.length := (List.getElem?_eq_some_iff.1 u0).1
  unfold rdS at h0 ⊢
  split
  · exact ⟨⟨u0, hS⟩, by simp⟩
  · rename_i c1
    rw [if_neg c1] at h0
    split
    · rename_i c2; rw [if_pos c2] at h0; cases h0
    · rename_i c2
      rw [if_neg c2] at h0
      split
      · rename_i c3; rw [if_pos c3] at h0; cases h0
      · rename_i c3
        rw [if_neg c3] at h0
        split
        · rename_i c4; rw [if_pos c4] at h0; exact absurd h0 c4
        · rename_i c4
          rw [if_neg c4] at h0
          split
          · rename_i c5; rw [if_pos c5] at h0; cases h0
          · rename_i c5
            rw [if_neg c5] at h0
            have hne : rnm (rlin l) ≠ oth := fun e => c3 (.inr e)
            cases hs : sayL S (par (rsp (rlin l))).1 (adn (rnm (rlin l)) U).2 with
            | none => rw [hs] at h0; cases h0
            | some S' =>
              show GoodR (adn (rnm (rlin l)) U).1 S' ∧ S'.length ≤ S.length + l.length
              obtain ⟨k1, k2⟩ := sayL_cls _ S _ S' hs
              generalize rnm (rlin l) = nm at *
              have hadn : (adn nm U).1[0]? = some oth ∧ 1 ≤ (adn nm U).2 ∧ (adn nm U).2 < (adn nm U).1.length ∧ U.length ≤ (adn nm U).1.length := by
                unfold adn
                split
                · rename_i hm
                  have h5 := List.idxOf_lt_length_of_mem hm
                  refine ⟨u0, ?_, h5, Nat.le_refl _⟩
                  show 1 ≤ U.idxOf nm
                  rcases Nat.eq_zero_or_pos (U.idxOf nm) with h6 | h6
                  · exfalso
                    have h7 : U[U.idxOf nm]? = some nm := by rw [List.getElem?_eq_getElem h5, List.getElem_idxOf]
                    rw [h6, u0] at h7
                    injection h7 with h7
                    exact hne h7.symm
                  · exact h6
                · refine ⟨?_, hU, by simp, by simp⟩
                  show (U ++ [nm])[0]? = some oth
                  rw [List.getElem?_append_left hU]; exact u0
              obtain ⟨a1, a2, a3, a4⟩ := hadn
              refine ⟨⟨a1, fun g hg => ?_⟩, by omega⟩
              rcases k1 g hg with h5 | h5
              · rw [h5]; exact ⟨a2, a3⟩
              · have := hS g h5; omega
/-- How long lines are together. -/
def sumL : List (List UInt8) → Nat
  | [] => 0
  | x :: L => x.length + sumL L
theorem sum_lns : ∀ l : List UInt8, sumL (lns l) ≤ l.length
  | [] => by simp [lns, sumL]
  | b :: r => by
    have ih := sum_lns r
    rw [lns_cons]
    split
    · show 0 + sumL (lns r) ≤ _
      rw [List.length_cons]; omega
    · show (b :: (lns r).headD []).length + sumL (lns r).tail ≤ _
      cases hr : lns r with
      | nil => simp [sumL]
      | cons y ys =>
        rw [hr] at ih
        have ih' : y.length + sumL ys ≤ r.length := ih
        show (b :: y).length + sumL ys ≤ _
        rw [List.length_cons, List.length_cons]; omega
theorem nwF_good : ∀ (L : List (List UInt8)) (i : Nat) (U : List (List UInt8)) (S : List Tr), GoodR U S → (nwF i U S L).1.1 = 0 → GoodR (nwF i U S L).2.1 (nwF i U S L).2.2 ∧ (nwF i U S L).2.2.length ≤ S.length + sumL L
  | [], i, U, S, h, _ => ⟨h, by simp [nwF, sumL]⟩
  | l :: L, i, U, S, h, h0 => by
    unfold nwF at h0 ⊢
    split at h0
    · rename_i hc
      rw [if_pos hc]
      obtain ⟨g1, g2⟩ := rdS_good U S l h hc
      obtain ⟨g3, g4⟩ := nwF_good L (i + 1) _ _ g1 h0
      exact ⟨g3, by show _ ≤ S.length + (l.length + sumL L); omega⟩
    · rename_i hc
      exact absurd h0 hc
theorem nw_good (t : List UInt8) (h : (nw t).1.1 = 0) : GoodR (nw t).2.1 (nw t).2.2 ∧ (nw t).2.2.length ≤ t.length := by
  unfold nw at h ⊢
  split
  · rename_i hc; rw [if_pos hc] at h; cases h
  · rename_i hc
    rw [if_neg hc] at h
    obtain ⟨g1, g2⟩ := nwF_good (lns t) 0 [oth] [] ⟨rfl, fun g hg => by cases hg⟩ h
    have := sum_lns t
    exact ⟨g1, by simp at g2; omega⟩
theorem jn_cls (o : List Tr) (g : Tr) : ∀ x ∈ jn o g, x.2.2 = g.2.2 ∨ x ∈ o := fun x hx => by
  rcases List.eq_nil_or_concat o with rfl | ⟨Q, z, rfl⟩
  · rw [jn_nil] at hx; simp at hx; exact .inl (by rw [hx])
  · rw [List.concat_eq_append] at *
    rw [jn_snoc] at hx
    split at hx
    · rcases List.mem_append.1 hx with hx | hx
      · exact .inr (by simp [hx])
      · simp at hx; exact .inl (by rw [hx])
    · rcases List.mem_append.1 hx with hx | hx
      · exact .inr hx
      · simp at hx; exact .inl (by rw [hx])
theorem whF_cls : ∀ (L o : List Tr) (nx : Nat), ∀ x ∈ whF o nx L, x.2.2 = 0 ∨ x ∈ o ∨ ∃ g ∈ L, x.2.2 = g.2.2
  | [], o, nx, x, hx => by
    unfold whF at hx
    split at hx
    · rcases List.mem_append.1 hx with hx | hx
      · exact .inr (.inl hx)
      · simp at hx; exact .inl (by rw [hx])
    · exact .inr (.inl hx)
  | g :: L, o, nx, x, hx => by
    rcases whF_cls L _ _ x hx with h | h | ⟨y, hy, h⟩
    · exact .inl h
    · rcases jn_cls _ g x h with h5 | h5
      · exact .inr (.inr ⟨g, by simp, h5⟩)
      · unfold gp at h5
        split at h5
        · rcases List.mem_append.1 h5 with h5 | h5
          · exact .inr (.inl h5)
          · simp at h5; exact .inl (by rw [h5])
        · exact .inr (.inl h5)
    · exact .inr (.inr ⟨y, by simp [hy], h⟩)
/-- What the parts of a database keep to. -/
theorem whl_good (U : List (List UInt8)) (S : List Tr) (h : GoodR U S) (hR : Rs 0 S) : Cov 0 (whl S) 1114112 ∧ Alt (whl S) ∧ (∀ g ∈ whl S, g.2.2 < U.length) ∧ (whl S).length ≤ 2 * S.length + 1 := by
  obtain ⟨c1, c2⟩ := whl_cov S hR (fun g hg => by have := (h.2 g hg).1; omega)
  have hU : 0 < U.length := (List.getElem?_eq_some_iff.1 h.1).1
  refine ⟨c1, c2, fun g hg => ?_, ?_⟩
  · rcases whF_cls S [] 0 g hg with h5 | h5 | ⟨y, hy, h5⟩
    · omega
    · cases h5
    · have := (h.2 y hy).2; omega
  · have := whF_len S [] 0
    unfold whl
    simpa using this
end Go.Proofs.YtohhokjlgihbgaaGreatDoor
/- For PropsBack: ranges that lie apart are said one behind the other into their places; what is made whole again of what has a class is what it was. -/
namespace Go.Proofs.YtohhokjlgihbgaaGreatDoor

theorem sayR_ins : ∀ (P Q : List Tr) (g : Tr), (∀ h ∈ P, h.2.1 < g.1) → (∀ h ∈ Q, g.2.1 < h.1 ∧ h.1 ≤ h.2.1) → g.1 ≤ g.2.1 → sayR (P ++ Q) g = some (P ++ g :: Q)
  | [], [], g, _, _, _ => rfl
  | [], h :: R, g, _, hq, hg => by
    obtain ⟨q1, q2⟩ := hq h (List.mem_cons_self ..)
    rw [List.nil_append, List.nil_append]
    unfold sayR
    rw [if_neg (by omega)]
    unfold sayD
    rw [if_neg (by omega)]
    rfl
  | h :: P, Q, g, hp, hq, hg => by
    have h1 := hp h (List.mem_cons_self ..)
    rw [List.cons_append, List.cons_append]
    unfold sayR
    rw [if_pos (by omega), sayR_ins P Q g (fun x hx => hp x (List.mem_cons_of_mem _ hx)) hq hg]
    rfl
/-- What has a class from 1 on below c. -/
def blw (c : Nat) (A : List Tr) : List Tr := A.filter fun g => decide (0 < g.2.2) && decide (g.2.2 < c)
theorem blw_cons (c : Nat) (g : Tr) (A : List Tr) : blw c (g :: A) = if 0 < g.2.2 ∧ g.2.2 < c then g :: blw c A else blw c A := by
  unfold blw
  rw [List.filter_cons]
  by_cases h : 0 < g.2.2 ∧ g.2.2 < c
  · rw [if_pos h, if_pos (by simp [h.1, h.2])]
  · rw [if_neg h, if_neg (by rw [Bool.and_eq_true, decide_eq_true_iff, decide_eq_true_iff]; exact h)]
theorem blw_mem {c : Nat} {A : List Tr} {g : Tr} (h : g ∈ blw c A) : g ∈ A := (List.mem_filter.1 h).1
theorem cov_mem : ∀ (A : List Tr) (a b : Nat), Cov a A b → a ≤ b ∧ ∀ g ∈ A, a ≤ g.1 ∧ g.1 ≤ g.2.1 ∧ g.2.1 < b
  | [], a, b, h => ⟨Nat.le_of_eq h, fun _ hg => by cases hg⟩
  | x :: A, a, b, h => by
    obtain ⟨h1, h2, h3⟩ := h
    obtain ⟨k1, k2⟩ := cov_mem A _ b h3
    refine ⟨by omega, fun g hg => ?_⟩
    rcases List.mem_cons.1 hg with rfl | hg
    · omega
    · have h5 := k2 g hg
      omega
theorem sayL_ins (c : Nat) (hc : 0 < c) : ∀ (A P : List Tr) (a b : Nat), Cov a A b → (∀ h ∈ P, h.2.1 < a) → sayL (P ++ blw c A) (stc (c : Int) A) c = some (P ++ blw (c + 1) A)
  | [], P, a, b, _, _ => rfl
  | g :: A, P, a, b, h, hP => by
    obtain ⟨h1, h2, h3⟩ := h
    obtain ⟨k1, k2⟩ := cov_mem A _ b h3
    rw [stc_cons, blw_cons, blw_cons]
    by_cases hg : g.2.2 = c
    · rw [if_neg (by omega), if_pos (by omega), if_pos (by omega)]
      show sayL (P ++ blw c A) (((g.1 : Int), (g.2.1 : Int)) :: stc (c : Int) A) c = _
      unfold sayL
      have e : rgT c ((g.1 : Int), (g.2.1 : Int)) = g := by
        unfold rgT
        obtain ⟨x, y, z⟩ := g
        simp only [Int.toNat_natCast] at hg ⊢
        rw [hg]
      rw [e, sayR_ins P (blw c A) g (fun x hx => by have h5 := hP x hx; omega) (fun x hx => by have h5 := k2 x (blw_mem hx); omega) h2]
      have ih := sayL_ins c hc A (P ++ [g]) _ b h3 (fun x hx => by
        rcases List.mem_append.1 hx with hx | hx
        · have h5 := hP x hx; omega
        · rw [List.mem_singleton.1 hx]; omega)
      simpa using ih
    · rw [if_neg (by omega : ¬ (g.2.2 : Int) = (c : Int)), List.nil_append]
      by_cases h0 : 0 < g.2.2 ∧ g.2.2 < c
      · rw [if_pos h0, if_pos (by omega)]
        have ih := sayL_ins c hc A (P ++ [g]) _ b h3 (fun x hx => by
          rcases List.mem_append.1 hx with hx | hx
          · have h5 := hP x hx; omega
          · rw [List.mem_singleton.1 hx]; omega)
        simpa using ih
      · rw [if_neg h0, if_neg (by omega)]
        exact sayL_ins c hc A P _ b h3 (fun x hx => by have h5 := hP x hx; omega)
/-- A list's last range has no class that the range behind it has. -/
def Nxt (o : List Tr) (A : List Tr) : Prop := ∀ Q z g R, o = Q ++ [z] → A = g :: R → z.2.2 ≠ g.2.2
theorem jn_nxt (o : List Tr) (g : Tr) (h : ∀ Q z, o = Q ++ [z] → z.2.2 ≠ g.2.2) : jn o g = o ++ [g] := by
  rcases List.eq_nil_or_concat o with rfl | ⟨Q, z, rfl⟩
  · rfl
  · rw [List.concat_eq_append] at h ⊢
    rw [jn_snoc, if_neg (h Q z rfl)]
theorem rgd_cons (g : Tr) (A : List Tr) : rgd (g :: A) = if 0 < g.2.2 then g :: rgd A else rgd A := by
  unfold rgd
  rw [List.filter_cons]
  by_cases h : 0 < g.2.2
  · rw [if_pos h, if_pos (by simpa using h)]
  · rw [if_neg h, if_neg (by simpa using h)]
theorem whF_rgd : ∀ (A o : List Tr) (nx : Nat), Cov nx A 1114112 → Alt A → Nxt o A → whF o nx (rgd A) = o ++ A
  | [], o, nx, h, _, _ => by
    have h' : nx = 1114112 := h
    show (if nx ≤ 1114111 then _ else o) = _
    rw [if_neg (by omega), List.append_nil]
  | [g], o, nx, h, _, hn => by
    obtain ⟨h1, h2, h3⟩ := h
    have h3' : g.2.1 + 1 = 1114112 := h3
    rw [rgd_cons]
    by_cases h0 : 0 < g.2.2
    · rw [if_pos h0]
      show whF (jn (gp o nx g) g) (g.2.1 + 1) [] = _
      unfold gp
      rw [if_neg (by omega), jn_nxt o g (fun Q z e => hn Q z g [] e rfl)]
      show (if g.2.1 + 1 ≤ 1114111 then _ else o ++ [g]) = _
      rw [if_neg (by omega)]
    · rw [if_neg h0]
      show (if nx ≤ 1114111 then o ++ [(nx, 1114111, 0)] else o) = _
      rw [if_pos (by omega)]
      obtain ⟨x, y, z⟩ := g
      have hx : x = nx := h1
      have hy : y + 1 = 1114112 := h3'
      have hz : ¬ 0 < z := h0
      obtain rfl : z = 0 := by omega
      obtain rfl : y = 1114111 := by omega
      rw [hx]
  | g :: k :: A, o, nx, h, ha, hn => by
    obtain ⟨h1, h2, h3⟩ := h
    obtain ⟨a1, a2⟩ := ha
    by_cases h0 : 0 < g.2.2
    · rw [rgd_cons, if_pos h0]
      show whF (jn (gp o nx g) g) (g.2.1 + 1) (rgd (k :: A)) = _
      unfold gp
      rw [if_neg (by omega), jn_nxt o g (fun Q z e => hn Q z g _ e rfl)]
      have ih := whF_rgd (k :: A) (o ++ [g]) _ h3 a2 (fun Q z k' R e1 e2 => by
        have e3 := (List.append_inj' e1 rfl).2
        injection e3 with e3; injection e2 with e2
        rw [← e3, ← e2]; exact a1)
      simpa using ih
    · have hk : 0 < k.2.2 := by omega
      obtain ⟨c1, c2, c3⟩ := h3
      rw [rgd_cons, if_neg h0, rgd_cons, if_pos hk]
      show whF (jn (gp o nx k) k) (k.2.1 + 1) (rgd A) = _
      have e : gp o nx k = o ++ [g] := by
        unfold gp
        rw [if_pos (by omega)]
        obtain ⟨x, y, z⟩ := g
        have hx : x = nx := h1
        have hz : ¬ 0 < z := h0
        obtain rfl : z = 0 := by omega
        have hy : k.1 = y + 1 := c1
        rw [hy, hx]
        rfl
      rw [e, jn_nxt (o ++ [g]) k (fun Q z e1 => by
        have e3 := (List.append_inj' e1 rfl).2
        injection e3 with e3
        rw [← e3]; exact a1)]
      have ih := whF_rgd A (o ++ [g] ++ [k]) _ c3 (by cases A with | nil => trivial | cons y A => exact a2.2) (fun Q z k' R e1 e2 => by
        have e3 := (List.append_inj' e1 rfl).2
        injection e3 with e3
        subst e2
        rw [← e3]; exact a2.1)
      simpa using ih
theorem whl_rgd (A : List Tr) (h : Cov 0 A 1114112) (ha : Alt A) : whl (rgd A) = A := by
  have h5 := whF_rgd A [] 0 h ha (fun Q z g R e _ => by simp at e)
  simpa [whl] using h5
theorem blw_all (A : List Tr) (n : Nat) (h : ∀ g ∈ A, g.2.2 < n) : blw n A = rgd A := by
  unfold blw rgd
  exact List.filter_congr fun g hg => by rw [decide_eq_true (h g hg), Bool.and_true]
theorem blw_one (A : List Tr) : blw 1 A = [] := by
  unfold blw
  rw [List.filter_eq_nil_iff]
  intro g _
  rw [Bool.and_eq_true, decide_eq_true_iff, decide_eq_true_iff]
  omega
end Go.Proofs.YtohhokjlgihbgaaGreatDoor
/- What is said of numbers and classes: a clash is a number with another class; what is said is what was said, and the ranges. -/
namespace Go.Proofs.YtohhokjlgihbgaaGreatDoor

/-- A number has a class. -/
def Hd (d r : Nat) (S : List Tr) : Prop := ∃ g ∈ S, g.2.2 = d ∧ g.1 ≤ r ∧ r ≤ g.2.1
theorem hd_cons (d r : Nat) (h : Tr) (S : List Tr) : Hd d r (h :: S) ↔ (h.2.2 = d ∧ h.1 ≤ r ∧ r ≤ h.2.1) ∨ Hd d r S := by
  unfold Hd
  simp
theorem hd_nil (d r : Nat) : ¬ Hd d r [] := by unfold Hd; simp
theorem rs_inn : ∀ (S : List Tr) (b : Nat), Rs b S → ∀ g ∈ S, b ≤ g.1 ∧ g.1 ≤ g.2.1 ∧ g.2.1 ≤ 1114111
  | [], _, _, g, hg => by cases hg
  | h :: S, b, hR, g, hg => by
    obtain ⟨r1, r2, r3, r4⟩ := hR
    rcases List.mem_cons.1 hg with rfl | hg
    · exact ⟨r1, r2, r3⟩
    · obtain ⟨p1, p2, p3⟩ := rs_inn S _ r4 g hg
      exact ⟨by omega, p2, p3⟩
theorem sayD_none : ∀ (D : List Tr) (g : Tr) (b : Nat), Rs b D → (sayD D g = none ↔ ∃ h ∈ D, h.2.2 ≠ g.2.2 ∧ h.1 ≤ g.2.1)
  | [], g, b, _ => by simp [sayD]
  | h :: D, g, b, hR => by
    obtain ⟨r1, r2, r3, r4⟩ := hR
    unfold sayD
    by_cases c1 : h.1 ≤ g.2.1
    · rw [if_pos c1]
      by_cases c2 : h.2.2 = g.2.2
      · rw [if_pos c2, sayD_none D _ _ r4]
        constructor
        · rintro ⟨x, hx, h1, h2⟩
          have h5 := rs_inn D _ r4 x hx
          refine ⟨x, by simp [hx], h1, ?_⟩
          have h6 : x.1 ≤ max g.2.1 h.2.1 := h2
          omega
        · rintro ⟨x, hx, h1, h2⟩
          rcases List.mem_cons.1 hx with rfl | hx
          · exact absurd c2 h1
          · exact ⟨x, hx, h1, by show x.1 ≤ max g.2.1 h.2.1; omega⟩
      · rw [if_neg c2]
        exact ⟨fun _ => ⟨h, by simp, c2, c1⟩, fun _ => rfl⟩
    · rw [if_neg c1]
      constructor
      · intro h5; cases h5
      · rintro ⟨x, hx, h1, h2⟩
        exfalso
        rcases List.mem_cons.1 hx with rfl | hx
        · exact c1 h2
        · have h5 := rs_inn D _ r4 x hx; omega
theorem sayD_hd : ∀ (D : List Tr) (g : Tr) (b : Nat) (x : Tr) (R : List Tr), Rs b D → (∀ y ∈ D, g.1 ≤ y.2.1) → g.1 ≤ g.2.1 → sayD D g = some (x, R) → ∀ d r, Hd d r (x :: R) ↔ Hd d r D ∨ (d = g.2.2 ∧ g.1 ≤ r ∧ r ≤ g.2.1)
  | [], g, b, x, R, _, _, _, he, d, r => by
    simp only [sayD, Option.some.injEq, Prod.mk.injEq] at he
    obtain ⟨rfl, rfl⟩ := he
    rw [hd_cons]
    constructor
    · rintro (⟨h1, h2⟩ | h)
      · exact .inr ⟨h1.symm, h2⟩
      · exact .inl h
    · rintro (h | ⟨h1, h2⟩)
      · exact .inr h
      · exact .inl ⟨h1.symm, h2⟩
  | h :: D, g, b, x, R, hR, hy, h2, he, d, r => by
    obtain ⟨r1, r2, r3, r4⟩ := hR
    have hh := hy h (by simp)
    unfold sayD at he
    by_cases c1 : h.1 ≤ g.2.1
    · rw [if_pos c1] at he
      by_cases c2 : h.2.2 = g.2.2
      · rw [if_pos c2] at he
        have ih := sayD_hd D (min g.1 h.1, max g.2.1 h.2.1, g.2.2) _ x R r4 (fun y hq => by have h5 := hy y (by simp [hq]); show min g.1 h.1 ≤ _; omega) (by show min g.1 h.1 ≤ max g.2.1 h.2.1; omega) he d r
        rw [ih, hd_cons, c2]
        show _ ∨ (d = g.2.2 ∧ min g.1 h.1 ≤ r ∧ r ≤ max g.2.1 h.2.1) ↔ _
        constructor
        · rintro (h5 | ⟨h5, h6, h7⟩)
          · exact .inl (.inr h5)
          · by_cases h8 : h.1 ≤ r ∧ r ≤ h.2.1
            · exact .inl (.inl ⟨h5.symm, h8⟩)
            · exact .inr ⟨h5, by omega, by omega⟩
        · rintro ((⟨h5, h6, h7⟩ | h5) | ⟨h5, h6, h7⟩)
          · exact .inr ⟨h5.symm, by omega, by omega⟩
          · exact .inl h5
          · exact .inr ⟨h5, by omega, by omega⟩
      · rw [if_neg c2] at he; cases he
    · rw [if_neg c1] at he
      simp only [Option.some.injEq, Prod.mk.injEq] at he
      obtain ⟨rfl, rfl⟩ := he
      rw [hd_cons]
      constructor
      · rintro (⟨h5, h6⟩ | h5)
        · exact .inr ⟨h5.symm, h6⟩
        · exact .inl h5
      · rintro (h5 | ⟨h5, h6⟩)
        · exact .inr h5
        · exact .inl ⟨h5.symm, h6⟩
theorem sayR_none : ∀ (S : List Tr) (g : Tr) (b : Nat), Rs b S → g.1 ≤ g.2.1 → (sayR S g = none ↔ ∃ d r, d ≠ g.2.2 ∧ Hd d r S ∧ g.1 ≤ r ∧ r ≤ g.2.1)
  | [], g, b, _, _ => by
    constructor
    · intro h; cases h
    · rintro ⟨d, r, _, h, _⟩; exact absurd h (hd_nil d r)
  | h :: S, g, b, hR, hg => by
    obtain ⟨r1, r2, r3, r4⟩ := hR
    unfold sayR
    by_cases c1 : (h.2.1 : Int) < (g.1 : Int)
    · rw [if_pos c1, Option.map_eq_none_iff, sayR_none S g _ r4 hg]
      constructor
      · rintro ⟨d, r, h1, h2, h3⟩
        exact ⟨d, r, h1, (hd_cons d r h S).2 (.inr h2), h3⟩
      · rintro ⟨d, r, h1, h2, h3⟩
        rcases (hd_cons d r h S).1 h2 with h4 | h4
        · omega
        · exact ⟨d, r, h1, h4, h3⟩
    · rw [if_neg c1, Option.map_eq_none_iff, sayD_none (h :: S) g b ⟨r1, r2, r3, r4⟩]
      constructor
      · rintro ⟨x, hx, h1, h2⟩
        have h5 : g.1 ≤ x.2.1 ∧ x.1 ≤ x.2.1 := by
          rcases List.mem_cons.1 hx with rfl | hx
          · omega
          · have h6 := rs_inn S _ r4 x hx; omega
        exact ⟨x.2.2, max g.1 x.1, h1, ⟨x, hx, rfl, by omega, by omega⟩, by omega, by omega⟩
      · rintro ⟨d, r, h1, ⟨x, hx, h2, h3, h4⟩, h5, h6⟩
        exact ⟨x, hx, by rw [h2]; exact h1, by omega⟩
theorem sayR_hd : ∀ (S : List Tr) (g : Tr) (b : Nat) (S' : List Tr), Rs b S → g.1 ≤ g.2.1 → sayR S g = some S' → ∀ d r, Hd d r S' ↔ Hd d r S ∨ (d = g.2.2 ∧ g.1 ≤ r ∧ r ≤ g.2.1)
  | [], g, b, S', _, _, he, d, r => by
    simp only [sayR, Option.some.injEq] at he
    subst he
    rw [hd_cons]
    constructor
    · rintro (⟨h1, h2⟩ | h)
      · exact .inr ⟨h1.symm, h2⟩
      · exact .inl h
    · rintro (h | ⟨h1, h2⟩)
      · exact .inr h
      · exact .inl ⟨h1.symm, h2⟩
  | h :: S, g, b, S', hR, hg, he, d, r => by
    obtain ⟨r1, r2, r3, r4⟩ := hR
    unfold sayR at he
    by_cases c1 : (h.2.1 : Int) < (g.1 : Int)
    · rw [if_pos c1] at he
      cases hs : sayR S g with
      | none => rw [hs] at he; cases he
      | some T =>
        rw [hs] at he
        simp only [Option.map_some, Option.some.injEq] at he
        subst he
        rw [hd_cons, hd_cons, sayR_hd S g _ T r4 hg hs d r, or_assoc]
    · rw [if_neg c1] at he
      cases hs : sayD (h :: S) g with
      | none => rw [hs] at he; cases he
      | some x =>
        rw [hs] at he
        simp only [Option.map_some, Option.some.injEq] at he
        subst he
        exact sayD_hd (h :: S) g b x.1 x.2 ⟨r1, r2, r3, r4⟩ (fun y hy => by
          rcases List.mem_cons.1 hy with rfl | hy
          · omega
          · have h6 := rs_inn S _ r4 y hy; omega) hg hs d r
theorem isin_hd (r d : Nat) (S : List Tr) : isin (r : Int) (stc (d : Int) S) ↔ Hd d r S := by
  rw [isin_stc]
  unfold Hd
  constructor
  · rintro ⟨g, h1, h2, h3, h4⟩; exact ⟨g, h1, by omega, by omega, by omega⟩
  · rintro ⟨g, h1, h2, h3, h4⟩; exact ⟨g, h1, by omega, by omega, by omega⟩
/-- Ranges of numbers from 0 on. -/
def okR (G : List Rg) : Prop := ∀ g ∈ G, 0 ≤ g.1 ∧ g.1 ≤ g.2 ∧ g.2 ≤ 1114111
theorem sayL_none : ∀ (G : List Rg) (S : List Tr) (c : Nat), Rs 0 S → okR G → (sayL S G c = none ↔ ∃ d r : Nat, d ≠ c ∧ Hd d r S ∧ isin (r : Int) G)
  | [], S, c, _, _ => by
    constructor
    · intro h; cases h
    · rintro ⟨d, r, _, _, h⟩; exact absurd h (by simp [isin])
  | g :: G, S, c, hR, hG => by
    obtain ⟨g0, g1, g2⟩ := hG g (by simp)
    have hG' : okR G := fun x hx => hG x (by simp [hx])
    have hle : (rgT c g).1 ≤ (rgT c g).2.1 := by show g.1.toNat ≤ g.2.toNat; omega
    have hc : (rgT c g).2.2 = c := rfl
    have hin : ∀ r : Nat, isin (r : Int) (g :: G) ↔ ((rgT c g).1 ≤ r ∧ r ≤ (rgT c g).2.1) ∨ isin (r : Int) G := fun r => by
      show (_ ∨ _) ↔ (g.1.toNat ≤ r ∧ r ≤ g.2.toNat) ∨ _
      have h5 : (g.1 ≤ (r : Int) ∧ (r : Int) ≤ g.2) ↔ (g.1.toNat ≤ r ∧ r ≤ g.2.toNat) := by omega
      rw [h5]
    have h1 := sayR_none S (rgT c g) 0 hR hle
    unfold sayL
    cases hs : sayR S (rgT c g) with
    | none =>
      obtain ⟨d, r, p1, p2, p3⟩ := h1.1 hs
      exact ⟨fun _ => ⟨d, r, p1, p2, (hin r).2 (.inl p3)⟩, fun _ => rfl⟩
    | some T =>
      have hT := sayR_hd S (rgT c g) 0 T hR hle hs
      have hTR := sayR_rs S (rgT c g) 0 T hR (Nat.zero_le _) hle (by show g.2.toNat ≤ 1114111; omega) hs
      show sayL T G c = none ↔ _
      rw [sayL_none G T c hTR hG']
      constructor
      · rintro ⟨d, r, p1, p2, p3⟩
        rcases (hT d r).1 p2 with p4 | p4
        · exact ⟨d, r, p1, p4, (hin r).2 (.inr p3)⟩
        · exact absurd (p4.1.trans hc) p1
      · rintro ⟨d, r, p1, p2, p3⟩
        rcases (hin r).1 p3 with p4 | p4
        · exact absurd (h1.2 ⟨d, r, by rw [hc]; exact p1, p2, p4⟩) (by rw [hs]; simp)
        · exact ⟨d, r, p1, (hT d r).2 (.inl p2), p4⟩
theorem sayL_some : ∀ (G : List Rg) (S : List Tr) (c : Nat) (S' : List Tr), Rs 0 S → okR G → sayL S G c = some S' → Rs 0 S' ∧ ∀ d r : Nat, Hd d r S' ↔ Hd d r S ∨ (d = c ∧ isin (r : Int) G)
  | [], S, c, S', hR, _, he => by
    cases he
    exact ⟨hR, fun d r => by simp [isin]⟩
  | g :: G, S, c, S', hR, hG, he => by
    obtain ⟨g0, g1, g2⟩ := hG g (by simp)
    have hG' : okR G := fun x hx => hG x (by simp [hx])
    have hle : (rgT c g).1 ≤ (rgT c g).2.1 := by show g.1.toNat ≤ g.2.toNat; omega
    have hc : (rgT c g).2.2 = c := rfl
    have hin : ∀ r : Nat, isin (r : Int) (g :: G) ↔ ((rgT c g).1 ≤ r ∧ r ≤ (rgT c g).2.1) ∨ isin (r : Int) G := fun r => by
      show (_ ∨ _) ↔ (g.1.toNat ≤ r ∧ r ≤ g.2.toNat) ∨ _
      have h5 : (g.1 ≤ (r : Int) ∧ (r : Int) ≤ g.2) ↔ (g.1.toNat ≤ r ∧ r ≤ g.2.toNat) := by omega
      rw [h5]
    unfold sayL at he
    cases hs : sayR S (rgT c g) with
    | none => rw [hs] at he; cases he
    | some T =>
      rw [hs] at he
      have hT := sayR_hd S (rgT c g) 0 T hR hle hs
      have hTR := sayR_rs S (rgT c g) 0 T hR (Nat.zero_le _) hle (by show g.2.toNat ≤ 1114111; omega) hs
      obtain ⟨q1, q2⟩ := sayL_some G T c S' hTR hG' he
      refine ⟨q1, fun d r => ?_⟩
      rw [q2, hT, hin, hc, or_assoc]
      constructor
      · rintro (p | p | p)
        · exact .inl p
        · exact .inr ⟨p.1, .inl p.2⟩
        · exact .inr ⟨p.1, .inr p.2⟩
      · rintro (p | ⟨p, q | q⟩)
        · exact .inl p
        · exact .inr (.inl ⟨p, q⟩)
        · exact .inr (.inr ⟨p, q⟩)
end Go.Proofs.YtohhokjlgihbgaaGreatDoor
/- Ranges laid in one by one, class by class: the ranges of the classes above 0, in their order. -/
namespace Go.Proofs.YtohhokjlgihbgaaGreatDoor

/-- A range laid in by where it begins. -/
def ing (g : Tr) : List Tr → List Tr
  | [] => [g]
  | h :: R => if g.1 < h.1 then g :: h :: R else h :: ing g R
def Srt (A : List Tr) : Prop := A.Pairwise fun x y => x.1 < y.1
theorem ing_filter (p : Tr → Bool) (g : Tr) (hp : p g = false) : ∀ (A : List Tr), Srt A → g ∈ A → ing g (A.filter p) = A.filter fun x => p x || decide (x = g)
  | [], _, h => by cases h
  | h :: R, hs, hg => by
    obtain ⟨s1, s2⟩ := List.pairwise_cons.1 hs
    by_cases he : h = g
    · subst he
      have hn : h ∉ R := fun h5 => Nat.lt_irrefl _ (s1 h h5)
      rw [List.filter_cons_of_neg (by rw [hp]; decide), List.filter_cons_of_pos (by simp)]
      have e1 : R.filter (fun x => p x || decide (x = h)) = R.filter p := List.filter_congr (fun x hx => by
        have : x ≠ h := fun e => hn (e ▸ hx)
        simp [this])
      rw [e1]
      cases hR : R.filter p with
      | nil => rfl
      | cons y T =>
        have hy : y ∈ R := (List.mem_filter.1 (show y ∈ R.filter p by rw [hR]; simp)).1
        show (if h.1 < y.1 then h :: y :: T else y :: ing h T) = _
        rw [if_pos (s1 y hy)]
    · have hgR : g ∈ R := by
        rcases List.mem_cons.1 hg with h5 | h5
        · exact absurd h5.symm he
        · exact h5
      have ih := ing_filter p g hp R s2 hgR
      have hlt := s1 g hgR
      cases hph : p h with
      | true =>
        rw [List.filter_cons_of_pos hph, List.filter_cons_of_pos (by simp [hph])]
        show (if g.1 < h.1 then g :: h :: R.filter p else h :: ing g (R.filter p)) = _
        rw [if_neg (by omega), ih]
      | false =>
        rw [List.filter_cons_of_neg (by rw [hph]; decide), List.filter_cons_of_neg (by simp [hph, he]), ih]
def bub (g : Tr) (S : List Tr) (k : Nat) : List Tr := S.take k ++ g :: S.drop k
theorem ing_at (g : Tr) : ∀ (S : List Tr) (k : Nat), (∀ x ∈ S.take k, x.1 ≤ g.1) → (∀ x ∈ S.drop k, g.1 < x.1) → ing g S = bub g S k
  | [], k, _, _ => by simp [ing, bub]
  | h :: S, 0, _, h2 => by
    have h5 := h2 h (by simp)
    show (if g.1 < h.1 then _ else _) = _
    rw [if_pos h5]; rfl
  | h :: S, k + 1, h1, h2 => by
    have h5 := h1 h (by simp)
    show (if g.1 < h.1 then _ else h :: ing g S) = _
    rw [if_neg (by omega), ing_at g S k (fun x hx => h1 x (by simp [hx])) (fun x hx => h2 x (by simpa using hx))]
    rfl
theorem bub_len (g : Tr) (S : List Tr) (k : Nat) (hk : k ≤ S.length) : (bub g S k).length = S.length + 1 := by
  unfold bub
  rw [List.length_append, List.length_cons, List.length_take, List.length_drop]
  omega
theorem bub_end (g : Tr) (S : List Tr) : bub g S S.length = S ++ [g] := by
  unfold bub
  rw [List.take_of_length_le (Nat.le_refl _), List.drop_of_length_le (Nat.le_refl _)]
theorem bub_at (g : Tr) (S : List Tr) (k : Nat) (hk : k ≤ S.length) : (bub g S k)[k]? = some g := by
  unfold bub
  rw [List.getElem?_append_right (by rw [List.length_take]; omega), List.length_take, show k - min k S.length = 0 by omega]
  rfl
theorem bub_pre (g : Tr) (S : List Tr) (k : Nat) (hk : k < S.length) : (bub g S (k + 1))[k]? = some S[k] := by
  unfold bub
  rw [List.getElem?_append_left (by rw [List.length_take]; omega), List.getElem?_take, if_pos (by omega), List.getElem?_eq_getElem hk]
theorem bub_swap (g : Tr) (S : List Tr) (k : Nat) (hk : k < S.length) : ((bub g S (k + 1)).set k g).set (k + 1) S[k] = bub g S k := by
  have hl : (S.take k).length = k := by rw [List.length_take]; omega
  unfold bub
  rw [List.take_succ_eq_append_getElem hk, List.append_assoc, List.set_append_right _ _ (by omega), hl, Nat.sub_self, List.set_append_right _ _ (by omega), hl, show k + 1 - k = 1 by omega]
  conv => rhs; rw [List.drop_eq_getElem_cons hk]
  rfl
/-- The ranges of a class. -/
def cel (A : List Tr) (c : Nat) : List Tr := A.filter fun g => decide (g.2.2 = c)
def rgP (A : List Tr) (c i : Nat) (x : Tr) : Bool := (decide (0 < x.2.2) && decide (x.2.2 < c)) || decide (x ∈ (cel A c).take i)
def rgS (A : List Tr) (c i : Nat) : List Tr := A.filter (rgP A c i)
theorem srt_nodup {A : List Tr} (h : Srt A) : A.Nodup := h.imp (fun h5 e => by rw [e] at h5; exact Nat.lt_irrefl _ h5)
theorem rgS_step (A : List Tr) (h : Srt A) (c i : Nat) (hi : i < (cel A c).length) : rgS A c (i + 1) = ing (cel A c)[i] (rgS A c i) := by
  have hnd : (cel A c).Nodup := (srt_nodup h).sublist List.filter_sublist
  have hm := List.mem_filter.1 (show (cel A c)[i] ∈ A.filter (fun g => decide (g.2.2 = c)) from List.getElem_mem hi)
  have hc : (cel A c)[i].2.2 = c := by simpa using hm.2
  have hp : rgP A c i (cel A c)[i] = false := by
    unfold rgP
    rw [hc]
    have hn : (cel A c)[i] ∉ (cel A c).take i := fun h5 => by
      obtain ⟨j, hj⟩ := List.mem_iff_getElem?.1 h5
      rw [List.getElem?_take] at hj
      split at hj
      · rename_i hji
        have h6 := (List.getElem?_eq_some_iff.1 hj)
        obtain ⟨h7, h8⟩ := h6
        exact List.pairwise_iff_getElem.1 hnd j i h7 hi hji h8
      · cases hj
    simp [hn]
  unfold rgS
  rw [ing_filter (rgP A c i) _ hp A h hm.1]
  refine List.filter_congr (fun x _ => ?_)
  unfold rgP
  rw [List.take_succ_eq_append_getElem hi]
  simp only [List.mem_append, List.mem_singleton, Bool.or_assoc, Bool.decide_or]
theorem rgS_next (A : List Tr) (c i : Nat) (hc : 0 < c) (hi : (cel A c).length ≤ i) : rgS A c i = rgS A (c + 1) 0 := by
  unfold rgS
  refine List.filter_congr (fun x hx => ?_)
  unfold rgP
  rw [List.take_of_length_le hi]
  have e : decide (x ∈ cel A c) = decide (x.2.2 = c) := by
    unfold cel
    simp [List.mem_filter, hx]
  rw [e, Bool.eq_iff_iff]
  simp
  omega
theorem rgS_start (A : List Tr) : rgS A 1 0 = [] := by
  unfold rgS
  rw [List.filter_eq_nil_iff]
  intro x _
  unfold rgP
  simp
  omega
theorem rgS_end (A : List Tr) (n : Nat) (h : ∀ g ∈ A, g.2.2 < n) : rgS A n 0 = rgd A := by
  unfold rgS rgd
  refine List.filter_congr (fun x hx => ?_)
  unfold rgP
  have := h x hx
  simp [this]
theorem rgS_sub (A : List Tr) (h : Srt A) (c i : Nat) : Srt (rgS A c i) := h.sublist List.filter_sublist
theorem rgS_len (A : List Tr) (c i : Nat) : (rgS A c i).length ≤ A.length := List.length_filter_le _ _
theorem cel_stc (A : List Tr) (c : Nat) : stc (c : Int) A = (cel A c).map fun g => ((g.1 : Int), (g.2.1 : Int)) := by
  unfold stc cel
  congr 1
  refine List.filter_congr (fun x _ => ?_)
  rw [Bool.eq_iff_iff]
  simp
  omega
theorem cov_srt : ∀ (A : List Tr) (a b : Nat), Cov a A b → Srt A
  | [], _, _, _ => List.Pairwise.nil
  | g :: R, a, b, h => by
    obtain ⟨c1, c2, c3⟩ := h
    refine List.Pairwise.cons (fun x hx => ?_) (cov_srt R _ b c3)
    have h5 := cov_ge R _ b x c3 hx
    omega
end Go.Proofs.YtohhokjlgihbgaaGreatDoor
/- Two lists of ranges that cover all numbers, side by side: their pieces, the pairs of classes numbered as they come. -/
namespace Go.Proofs.YtohhokjlgihbgaaGreatDoor

theorem cov_lt : ∀ (R : List Tr) (a b : Nat) (g : Tr), Cov a R b → g ∈ R → g.1 < b
  | [], _, _, _, _, h => by cases h
  | x :: R, a, b, g, h, hg => by
    rcases List.mem_cons.1 hg with rfl | h5
    · have := cov_le _ _ _ h.2.2; have := h.2.1; omega
    · exact cov_lt R _ b g h.2.2 h5
/-- A pair of classes. -/
abbrev Pr := Int × Int
/-- Where a pair stands in a list. -/
def fnd (x : Pr) : List Pr → Int
  | [] => -1
  | y :: l => if y = x then 0 else if fnd x l < 0 then -1 else fnd x l + 1
theorem fnd_no (x : Pr) : ∀ l : List Pr, x ∉ l → fnd x l = -1
  | [], _ => rfl
  | y :: l, h => by
    have h1 : ¬ y = x := fun e => h (by simp [e])
    show (if y = x then _ else if fnd x l < 0 then -1 else _) = _
    rw [if_neg h1, fnd_no x l (fun hh => h (by simp [hh])), if_pos (by omega)]
theorem fnd_yes (x : Pr) : ∀ l : List Pr, x ∈ l → ∃ n : Nat, fnd x l = (n : Int) ∧ l[n]? = some x
  | [], h => by cases h
  | y :: l, h => by
    by_cases e : y = x
    · exact ⟨0, by show (if y = x then _ else _) = _; rw [if_pos e]; rfl, by simp [e]⟩
    · have hm : x ∈ l := by
        rcases List.mem_cons.1 h with h5 | h5
        · exact absurd h5.symm e
        · exact h5
      obtain ⟨n, i1, i2⟩ := fnd_yes x l hm
      exact ⟨n + 1, by show (if y = x then _ else if fnd x l < 0 then -1 else fnd x l + 1) = _; rw [if_neg e, i1, if_neg (by omega)]; omega, by simpa using i2⟩
theorem fnd_at (x : Pr) : ∀ (l : List Pr) (k : Nat), l[k]? = some x → (∀ j : Nat, j < k → l[j]? ≠ some x) → fnd x l = (k : Int)
  | [], k, h, _ => by simp at h
  | y :: l, 0, h, _ => by
    have h1 : y = x := by simpa using h
    show (if y = x then _ else _) = _
    rw [if_pos h1]; rfl
  | y :: l, k + 1, h, hj => by
    have h1 : ¬ y = x := fun e => hj 0 (by omega) (by simp [e])
    have ih := fnd_at x l k (by simpa using h) (fun j hjk => by have h5 := hj (j + 1) (by omega); simpa using h5)
    show (if y = x then _ else if fnd x l < 0 then -1 else fnd x l + 1) = _
    rw [if_neg h1, ih, if_neg (by omega)]
    omega
/-- A pair's number, and the list with it. -/
def ad (p : Pr) (T : List Pr) : List Pr × Nat := if p ∈ T then (T, (fnd p T).toNat) else (T ++ [p], T.length)
theorem ad_at (p : Pr) (T : List Pr) : (ad p T).1[(ad p T).2]? = some p := by
  unfold ad
  split
  · rename_i h
    obtain ⟨n, h1, h2⟩ := fnd_yes p T h
    rw [h1]; simpa using h2
  · simp
theorem ad_len (p : Pr) (T : List Pr) : (ad p T).1.length ≤ T.length + 1 := by
  unfold ad
  split <;> simp
theorem ad_pre (p : Pr) (T : List Pr) : T <+: (ad p T).1 := by
  unfold ad
  split
  · exact List.prefix_refl _
  · exact List.prefix_append _ _
theorem ad_mem (p : Pr) (T : List Pr) : p ∈ (ad p T).1 := List.mem_of_getElem? (ad_at p T)
theorem ad_twice (p : Pr) (T : List Pr) : (ad p (ad p T).1).1 = (ad p T).1 := by
  have h := ad_mem p T
  show (if p ∈ (ad p T).1 then _ else _ : List Pr × Nat).1 = _
  rw [if_pos h]
theorem ad_nodup (p : Pr) (T : List Pr) (h : T.Nodup) : (ad p T).1.Nodup := by
  unfold ad
  split
  · exact h
  · rename_i hn
    rw [List.nodup_append]
    refine ⟨h, by simp, fun a ha b hb => ?_⟩
    simp at hb
    subst hb
    exact fun e => hn (e ▸ ha)
/-- Two lists of ranges side by side. -/
def zp : Nat → List Tr → List Tr → Nat → List (Nat × Nat × Pr)
  | f + 1, x :: X, y :: Y, lo => (lo, min x.2.1 y.2.1, ((x.2.2 : Int), (y.2.2 : Int))) :: zp f (if x.2.1 = min x.2.1 y.2.1 then X else x :: X) (if y.2.1 = min x.2.1 y.2.1 then Y else y :: Y) (min x.2.1 y.2.1 + 1)
  | _, _, _, _ => []
/-- Pairs numbered as they come. -/
def nb (T : List Pr) : List (Nat × Nat × Pr) → List Pr × List Tr
  | [] => (T, [])
  | z :: R => ((nb (ad z.2.2 T).1 R).1, (z.1, z.2.1, (ad z.2.2 T).2) :: (nb (ad z.2.2 T).1 R).2)
/-- What is left of a list of ranges when all up to lo has been gone through. -/
def Cv (lo : Nat) : List Tr → Prop
  | [] => lo = 1114112
  | g :: R => g.1 ≤ lo ∧ lo ≤ g.2.1 ∧ Cov (g.2.1 + 1) R 1114112
theorem cv_cov (b : Nat) (A : List Tr) (h : Cov b A 1114112) : Cv b A := by
  cases A with
  | nil => exact h
  | cons g R =>
    obtain ⟨h1, h2, h3⟩ := h
    exact ⟨by omega, by omega, h3⟩
theorem cv_top {lo : Nat} {g : Tr} {R : List Tr} (h : Cv lo (g :: R)) : g.2.1 ≤ 1114111 := by
  have := cov_le _ _ _ h.2.2; omega
theorem cv_next (lo hi : Nat) (x : Tr) (X : List Tr) (h : Cv lo (x :: X)) (h1 : lo ≤ hi) (h2 : hi ≤ x.2.1) : Cv (hi + 1) (if x.2.1 = hi then X else x :: X) := by
  obtain ⟨k1, k2, k3⟩ := h
  split
  · rename_i e
    rw [← e]
    exact cv_cov _ _ k3
  · exact ⟨by omega, by omega, k3⟩
theorem next_le (x y : Tr) (X Y : List Tr) (f : Nat) (hf : X.length + 1 + (Y.length + 1) ≤ f + 1) : (if x.2.1 = min x.2.1 y.2.1 then X else x :: X).length + (if y.2.1 = min x.2.1 y.2.1 then Y else y :: Y).length ≤ f := by
  rcases Nat.le_total x.2.1 y.2.1 with h | h
  · rw [if_pos (show x.2.1 = min x.2.1 y.2.1 by omega)]
    split
    · omega
    · simp only [List.length_cons]; omega
  · rw [if_pos (show y.2.1 = min x.2.1 y.2.1 by omega)]
    split
    · omega
    · simp only [List.length_cons]; omega
/-- Pieces that follow one another from lo to the end. -/
def Zc : Nat → List (Nat × Nat × Pr) → Prop
  | lo, [] => lo = 1114112
  | lo, z :: R => z.1 = lo ∧ z.1 ≤ z.2.1 ∧ Zc (z.2.1 + 1) R
theorem zc_ge : ∀ (Z : List (Nat × Nat × Pr)) (lo : Nat) (z : Nat × Nat × Pr), Zc lo Z → z ∈ Z → lo ≤ z.1
  | [], _, _, _, h => by cases h
  | x :: R, lo, z, h, hz => by
    rcases List.mem_cons.1 hz with rfl | h5
    · exact Nat.le_of_eq h.1.symm
    · have := zc_ge R _ z h.2.2 h5
      have := h.1; have := h.2.1; omega
theorem zc_rise : ∀ (Z : List (Nat × Nat × Pr)) (lo : Nat), Zc lo Z → (Z.map fun z => z.1).Pairwise (· < ·)
  | [], _, _ => List.Pairwise.nil
  | x :: R, lo, h => by
    rw [List.map_cons]
    refine List.Pairwise.cons (fun s hs => ?_) (zc_rise R _ h.2.2)
    obtain ⟨z, hz, rfl⟩ := List.mem_map.1 hs
    have := zc_ge R _ z h.2.2 hz
    have := h.2.1; omega
/-- What the pieces are. -/
theorem zp_is : ∀ (f : Nat) (X Y : List Tr) (lo : Nat), Cv lo X → Cv lo Y → X.length + Y.length ≤ f → Zc lo (zp f X Y lo) ∧ (zp f X Y lo).length ≤ f ∧
    (∀ z ∈ zp f X Y lo, ∀ r : Nat, z.1 ≤ r → r ≤ z.2.1 → z.2.2 = ((gtp (r : Int) X : Int), (gtp (r : Int) Y : Int))) ∧
    (∀ s, s ∈ (zp f X Y lo).map (fun z => z.1) ↔ (s = lo ∧ lo ≤ 1114111) ∨ (lo < s ∧ (s ∈ X.map (fun g => g.1) ∨ s ∈ Y.map (fun g => g.1))))
  | 0, X, Y, lo, hX, hY, hf => by
    have e1 : X = [] := List.length_eq_zero_iff.1 (by omega)
    have e2 : Y = [] := List.length_eq_zero_iff.1 (by omega)
    subst e1 e2
    have hl : lo = 1114112 := hX
    exact ⟨hl, Nat.le_refl _, fun z hz => (by cases hz), fun s => by simp [zp, hl]⟩
  | f + 1, [], Y, lo, hX, hY, _ => by
    have hl : lo = 1114112 := hX
    have e2 : Y = [] := by
      cases Y with
      | nil => rfl
      | cons g R => have := cv_top hY; have := hY.2.1; omega
    subst e2
    exact ⟨hl, Nat.zero_le _, fun z hz => (by cases hz), fun s => by simp [zp, hl]⟩
  | f + 1, x :: X, [], lo, hX, hY, _ => by
    have h1 : lo = 1114112 := hY
    have h2 := hX.2.1
    have h3 := cv_top hX
    omega
  | f + 1, x :: X, y :: Y, lo, hX, hY, hf => by
    have hx1 := hX.2.1
    have hy1 := hY.2.1
    have hx0 := hX.1
    have hy0 := hY.1
    have hx2 := cv_top hX
    have hy2 := cv_top hY
    have hm : lo ≤ min x.2.1 y.2.1 := by omega
    have cX := cv_next lo (min x.2.1 y.2.1) x X hX hm (by omega)
    have cY := cv_next lo (min x.2.1 y.2.1) y Y hY hm (by omega)
    obtain ⟨i1, i2, i3, i4⟩ := zp_is f _ _ (min x.2.1 y.2.1 + 1) cX cY (next_le x y X Y f hf)
    have hstep : zp (f + 1) (x :: X) (y :: Y) lo = (lo, min x.2.1 y.2.1, ((x.2.2 : Int), (y.2.2 : Int))) :: zp f (if x.2.1 = min x.2.1 y.2.1 then X else x :: X) (if y.2.1 = min x.2.1 y.2.1 then Y else y :: Y) (min x.2.1 y.2.1 + 1) := rfl
    rw [hstep]
    refine ⟨⟨rfl, hm, i1⟩, by simp; omega, fun z hz r h1 h2 => ?_, fun s => ?_⟩
    · rcases List.mem_cons.1 hz with rfl | hz
      · have h2' : r ≤ min x.2.1 y.2.1 := h2
        show ((x.2.2 : Int), (y.2.2 : Int)) = _
        unfold gtp
        rw [if_neg (by omega), if_neg (by omega)]
      · have h5 := zc_ge _ _ z i1 hz
        rw [i3 z hz r h1 h2]
        have e1 : gtp (r : Int) (if x.2.1 = min x.2.1 y.2.1 then X else x :: X) = gtp (r : Int) (x :: X) := by
          split
          · show _ = if (x.2.1 : Int) < r then _ else _
            rw [if_pos (by omega)]
          · rfl
        have e2 : gtp (r : Int) (if y.2.1 = min x.2.1 y.2.1 then Y else y :: Y) = gtp (r : Int) (y :: Y) := by
          split
          · show _ = if (y.2.1 : Int) < r then _ else _
            rw [if_pos (by omega)]
          · rfl
        rw [e1, e2]
    · rw [List.map_cons, List.mem_cons, i4 s]
      have gX : ∀ s, s ∈ X.map (fun g => g.1) → x.2.1 + 1 ≤ s ∧ s ≤ 1114111 := fun s hs => by
        obtain ⟨g, hg, rfl⟩ := List.mem_map.1 hs
        refine ⟨cov_ge X _ _ g hX.2.2 hg, ?_⟩
        have h5 := cov_lt X _ _ g hX.2.2 hg; omega
      have gY : ∀ s, s ∈ Y.map (fun g => g.1) → y.2.1 + 1 ≤ s ∧ s ≤ 1114111 := fun s hs => by
        obtain ⟨g, hg, rfl⟩ := List.mem_map.1 hs
        refine ⟨cov_ge Y _ _ g hY.2.2 hg, ?_⟩
        have h5 := cov_lt Y _ _ g hY.2.2 hg; omega
      have mX : ∀ s, x.1 < s → (s ∈ (if x.2.1 = min x.2.1 y.2.1 then X else x :: X).map (fun g => g.1) ↔ s ∈ X.map (fun g => g.1)) := fun s hs => by
        split
        · rfl
        · rw [List.map_cons, List.mem_cons]
          exact ⟨fun h => h.resolve_left (by omega), .inr⟩
      have mY : ∀ s, y.1 < s → (s ∈ (if y.2.1 = min x.2.1 y.2.1 then Y else y :: Y).map (fun g => g.1) ↔ s ∈ Y.map (fun g => g.1)) := fun s hs => by
        split
        · rfl
        · rw [List.map_cons, List.mem_cons]
          exact ⟨fun h => h.resolve_left (by omega), .inr⟩
      rw [List.map_cons, List.map_cons, List.mem_cons, List.mem_cons]
      constructor
      · rintro (h | ⟨h1, h2⟩ | ⟨h1, h2⟩)
        · exact .inl ⟨h, by omega⟩
        · refine .inr ⟨by omega, ?_⟩
          rcases Nat.le_total x.2.1 y.2.1 with h | h
          · refine .inl (.inr ?_)
            cases X with
            | nil => have h5 : x.2.1 + 1 = 1114112 := hX.2.2; omega
            | cons g R => have h5 := hX.2.2.1; simp; exact .inl (by omega)
          · refine .inr (.inr ?_)
            cases Y with
            | nil => have h5 : y.2.1 + 1 = 1114112 := hY.2.2; omega
            | cons g R => have h5 := hY.2.2.1; simp; exact .inl (by omega)
        · rw [mX s (by omega), mY s (by omega)] at h2
          exact .inr ⟨by omega, h2.elim (fun h => .inl (.inr h)) (fun h => .inr (.inr h))⟩
      · rintro (⟨h1, h2⟩ | ⟨h1, h2⟩)
        · exact .inl h1
        · have h3 : s ∈ X.map (fun g => g.1) ∨ s ∈ Y.map (fun g => g.1) := by
            rcases h2 with (h2 | h2) | (h2 | h2)
            · omega
            · exact .inl h2
            · omega
            · exact .inr h2
          have h4 : min x.2.1 y.2.1 + 1 ≤ s ∧ s ≤ 1114111 := by
            rcases h3 with h3 | h3
            · have := gX s h3; omega
            · have := gY s h3; omega
          right
          by_cases e : s = min x.2.1 y.2.1 + 1
          · exact .inl ⟨e, by omega⟩
          · exact .inr ⟨by omega, by rw [mX s (by omega), mY s (by omega)]; exact h3⟩
theorem zp_alt : ∀ (f : Nat) (X Y : List Tr) (lo : Nat), Alt X → Alt Y → ∀ (P R : List (Nat × Nat × Pr)) (a b : Nat × Nat × Pr), zp f X Y lo = P ++ a :: b :: R → a.2.2 ≠ b.2.2
  | 0, X, Y, lo, _, _, P, R, a, b, h => by simp [zp] at h
  | f + 1, [], Y, lo, _, _, P, R, a, b, h => by simp [zp] at h
  | f + 1, x :: X, [], lo, _, _, P, R, a, b, h => by simp [zp] at h
  | f + 1, x :: X, y :: Y, lo, hX, hY, P, R, a, b, h => by
    have aX : Alt X := by
      cases X with
      | nil => trivial
      | cons g R => exact hX.2
    have aY : Alt Y := by
      cases Y with
      | nil => trivial
      | cons g R => exact hY.2
    have h1 : Alt (if x.2.1 = min x.2.1 y.2.1 then X else x :: X) := by split; exact aX; exact hX
    have h2 : Alt (if y.2.1 = min x.2.1 y.2.1 then Y else y :: Y) := by split; exact aY; exact hY
    have hstep : zp (f + 1) (x :: X) (y :: Y) lo = (lo, min x.2.1 y.2.1, ((x.2.2 : Int), (y.2.2 : Int))) :: zp f (if x.2.1 = min x.2.1 y.2.1 then X else x :: X) (if y.2.1 = min x.2.1 y.2.1 then Y else y :: Y) (min x.2.1 y.2.1 + 1) := rfl
    rw [hstep] at h
    cases P with
    | cons p P => exact zp_alt f _ _ _ h1 h2 P R a b (by simpa using (List.cons.inj h).2)
    | nil =>
      obtain ⟨e1, e2⟩ := List.cons.inj h
      rw [← e1]
      show ((x.2.2 : Int), (y.2.2 : Int)) ≠ b.2.2
      have key : ∀ (X' Y' : List Tr) (l : Nat), zp f X' Y' l = b :: R → ∃ x' X'' y' Y'', X' = x' :: X'' ∧ Y' = y' :: Y'' ∧ b.2.2 = ((x'.2.2 : Int), (y'.2.2 : Int)) := fun X' Y' l h => by
        cases f with
        | zero => simp [zp] at h
        | succ f =>
          cases X' with
          | nil => simp [zp] at h
          | cons x' X'' =>
            cases Y' with
            | nil => simp [zp] at h
            | cons y' Y'' =>
              obtain ⟨e1, _⟩ := List.cons.inj (show _ :: _ = b :: R from h)
              exact ⟨x', X'', y', Y'', rfl, rfl, by rw [← e1]⟩
      obtain ⟨x', X'', y', Y'', k1, k2, k3⟩ := key _ _ _ e2
      rw [k3]
      intro e
      have e3 : x.2.2 = x'.2.2 := by have := congrArg Prod.fst e; dsimp only at this; omega
      have e4 : y.2.2 = y'.2.2 := by have := congrArg Prod.snd e; dsimp only at this; omega
      rcases Nat.le_total x.2.1 y.2.1 with h5 | h5
      · rw [if_pos (show x.2.1 = min x.2.1 y.2.1 by omega)] at k1
        subst k1
        exact hX.1 e3
      · rw [if_pos (show y.2.1 = min x.2.1 y.2.1 by omega)] at k2
        subst k2
        exact hY.1 e4
theorem nb_pre : ∀ (Z : List (Nat × Nat × Pr)) (T : List Pr), T <+: (nb T Z).1 ∧ (nb T Z).1.length ≤ T.length + Z.length ∧ (nb T Z).2.length = Z.length ∧ (T.Nodup → (nb T Z).1.Nodup)
  | [], T => ⟨List.prefix_refl _, Nat.le_refl _, rfl, id⟩
  | z :: R, T => by
    obtain ⟨i1, i2, i3, i4⟩ := nb_pre R (ad z.2.2 T).1
    have h1 := ad_len z.2.2 T
    exact ⟨(ad_pre z.2.2 T).trans i1, by show (nb (ad z.2.2 T).1 R).1.length ≤ _; simp; omega, by show (nb (ad z.2.2 T).1 R).2.length + 1 = _; rw [i3]; rfl, fun h => i4 (ad_nodup _ _ h)⟩
/-- Each piece has its pair's number. -/
theorem nb_at : ∀ (Z : List (Nat × Nat × Pr)) (T : List Pr) (k : Nat) (z : Nat × Nat × Pr), Z[k]? = some z → ∃ n, (nb T Z).2[k]? = some (z.1, z.2.1, n) ∧ (nb T Z).1[n]? = some z.2.2
  | [], _, _, _, h => by cases h
  | x :: R, T, 0, z, h => by
    cases h
    refine ⟨(ad x.2.2 T).2, rfl, ?_⟩
    obtain ⟨i1, _⟩ := nb_pre R (ad x.2.2 T).1
    obtain ⟨q, hq⟩ := i1
    have h5 := ad_at x.2.2 T
    show (nb (ad x.2.2 T).1 R).1[_]? = _
    rw [← hq, List.getElem?_append_left (List.getElem?_eq_some_iff.1 h5).1, h5]
  | x :: R, T, k + 1, z, h => nb_at R (ad x.2.2 T).1 k z h
theorem nb_fold : ∀ (Z : List (Nat × Nat × Pr)) (T : List Pr) (p : Nat → Pr), (∀ z ∈ Z, z.2.2 = p z.1) → (nb T Z).1 = (Z.map fun z => z.1).foldl (fun T s => (ad (p s) T).1) T
  | [], _, _, _ => rfl
  | z :: R, T, p, h => by
    rw [List.map_cons, List.foldl_cons, ← h z (by simp)]
    exact nb_fold R _ p (fun z hz => h z (by simp [hz]))
theorem nb_cov : ∀ (Z : List (Nat × Nat × Pr)) (T : List Pr) (lo : Nat), Zc lo Z → Cov lo (nb T Z).2 1114112
  | [], _, _, h => h
  | _ :: R, _, _, h => ⟨h.1, h.2.1, nb_cov R _ _ h.2.2⟩
/-- A list that rises, with repeats, and one without. -/
theorem fold_sorted (p : Nat → Pr) : ∀ (s z : List Nat) (T : List Pr), s.Pairwise (· ≤ ·) → z.Pairwise (· < ·) → (∀ x, x ∈ s ↔ x ∈ z) → s.foldl (fun T s => (ad (p s) T).1) T = z.foldl (fun T s => (ad (p s) T).1) T
  | [], z, T, _, _, h => by
    cases z with
    | nil => rfl
    | cons y z => exact absurd ((h y).2 (by simp)) (by simp)
  | x :: s, [], T, _, _, h => absurd ((h x).1 (by simp)) (by simp)
  | x :: s, y :: z, T, hs, hz, h => by
    rw [List.pairwise_cons] at hs hz
    have exy : x = y := by
      have h1 : y ≤ x := by
        rcases List.mem_cons.1 ((h x).1 (by simp)) with h5 | h5
        · omega
        · have := hz.1 x h5; omega
      have h2 : x ≤ y := by
        rcases List.mem_cons.1 ((h y).2 (by simp)) with h5 | h5
        · omega
        · exact hs.1 y h5
      omega
    subst exy
    by_cases hm : x ∈ s
    · cases s with
      | nil => cases hm
      | cons x' s =>
        have e : x' = x := by
          have h1 := hs.1 x' (by simp)
          have h2 : x' ≤ x := by
            rcases List.mem_cons.1 hm with h5 | h5
            · omega
            · exact (List.pairwise_cons.1 hs.2).1 x h5
          omega
        subst e
        have ih := fold_sorted p (x' :: s) (x' :: z) T hs.2 (List.pairwise_cons.2 hz) (fun v => by
          have h5 := h v
          simp only [List.mem_cons] at h5 ⊢
          constructor
          · intro h6; exact h5.1 (.inr h6)
          · intro h6
            rcases h5.2 h6 with h7 | h7
            · exact .inl h7
            · exact h7)
        rw [← ih, List.foldl_cons, List.foldl_cons, List.foldl_cons, ad_twice]
    · rw [List.foldl_cons, List.foldl_cons]
      refine fold_sorted p s z _ hs.2 hz.2 (fun v => ?_)
      have h5 := h v
      simp only [List.mem_cons] at h5
      constructor
      · intro h6
        rcases h5.1 (.inr h6) with h7 | h7
        · exact absurd (h7 ▸ h6) hm
        · exact h7
      · intro h6
        rcases h5.2 (.inr h6) with h7 | h7
        · exact absurd (h7 ▸ hz.1 v h6) (by omega)
        · exact h7
theorem nodup_inj {α : Type} {l : List α} (h : l.Nodup) {i j : Nat} {x : α} (hi : l[i]? = some x) (hj : l[j]? = some x) : i = j := by
  obtain ⟨i1, i2⟩ := List.getElem?_eq_some_iff.1 hi
  obtain ⟨j1, j2⟩ := List.getElem?_eq_some_iff.1 hj
  have h5 := List.pairwise_iff_getElem.1 h
  rcases Nat.lt_trichotomy i j with h6 | h6 | h6
  · exact absurd (i2.trans j2.symm) (h5 i j i1 j1 h6)
  · exact h6
  · exact absurd (j2.trans i2.symm) (h5 j i j1 i1 h6)
/-- The pairs of two databases, numbered; the first is that of the two first classes. -/
def crP (A D : List Tr) : List Pr := (nb [(0, 0)] (zp (A.length + D.length) A D 0)).1
/-- The parts that have them. -/
def crL (A D : List Tr) : List Tr := (nb [(0, 0)] (zp (A.length + D.length) A D 0)).2
section
variable {A D : List Tr}
theorem cr_is (hA : Cov 0 A 1114112) (hD : Cov 0 D 1114112) : Zc 0 (zp (A.length + D.length) A D 0) ∧ (zp (A.length + D.length) A D 0).length ≤ A.length + D.length ∧
    (∀ z ∈ zp (A.length + D.length) A D 0, ∀ r : Nat, z.1 ≤ r → r ≤ z.2.1 → z.2.2 = ((gtp (r : Int) A : Int), (gtp (r : Int) D : Int))) ∧
    (∀ s, s ∈ (zp (A.length + D.length) A D 0).map (fun z => z.1) ↔ s ∈ A.map (fun g => g.1) ∨ s ∈ D.map (fun g => g.1)) := by
  obtain ⟨h1, h2, h3, h4⟩ := zp_is _ A D 0 (cv_cov 0 A hA) (cv_cov 0 D hD) (Nat.le_refl _)
  refine ⟨h1, h2, h3, fun s => ?_⟩
  rw [h4 s]
  constructor
  · rintro (⟨rfl, _⟩ | ⟨_, h⟩)
    · left
      cases A with
      | nil => have h5 : 0 = 1114112 := hA; omega
      | cons g R => have h5 := hA.1; simp; exact .inl h5.symm
    · exact h
  · intro h
    by_cases h0 : s = 0
    · exact .inl ⟨h0, by omega⟩
    · exact .inr ⟨by omega, h⟩
theorem crP_nodup : (crP A D).Nodup := (nb_pre _ _).2.2.2 (by simp)
theorem crP_zero : ∃ R, crP A D = (0, 0) :: R := by
  obtain ⟨q, hq⟩ := (nb_pre (zp (A.length + D.length) A D 0) [(0, 0)]).1
  exact ⟨q, hq.symm⟩
theorem crP_len (hA : Cov 0 A 1114112) (hD : Cov 0 D 1114112) : 1 ≤ (crP A D).length ∧ (crP A D).length ≤ 1 + (A.length + D.length) := by
  obtain ⟨h1, h2, _⟩ := cr_is hA hD
  obtain ⟨i1, i2, _⟩ := nb_pre (zp (A.length + D.length) A D 0) [(0, 0)]
  have h5 := i1.length_le
  simp at h5 i2
  unfold crP
  omega
theorem crL_len (hA : Cov 0 A 1114112) (hD : Cov 0 D 1114112) : (crL A D).length ≤ A.length + D.length := by
  obtain ⟨h1, h2, _⟩ := cr_is hA hD
  have h5 := (nb_pre (zp (A.length + D.length) A D 0) [(0, 0)]).2.2.1
  unfold crL
  omega
theorem crL_cov (hA : Cov 0 A 1114112) (hD : Cov 0 D 1114112) : Cov 0 (crL A D) 1114112 := nb_cov _ _ _ (cr_is hA hD).1
/-- A part's number is that of the pair that all its numbers have. -/
theorem crL_at (hA : Cov 0 A 1114112) (hD : Cov 0 D 1114112) (k : Nat) (g : Tr) (h : (crL A D)[k]? = some g) : ∃ z, (zp (A.length + D.length) A D 0)[k]? = some z ∧ g.1 = z.1 ∧ g.2.1 = z.2.1 ∧ (crP A D)[g.2.2]? = some z.2.2 ∧ ∀ r : Nat, g.1 ≤ r → r ≤ g.2.1 → (crP A D)[g.2.2]? = some ((gtp (r : Int) A : Int), (gtp (r : Int) D : Int)) := by
  obtain ⟨h1, h2, h3, _⟩ := cr_is hA hD
  have hl := (nb_pre (zp (A.length + D.length) A D 0) [(0, 0)]).2.2.1
  have hk : k < (zp (A.length + D.length) A D 0).length := by
    have h5 := (List.getElem?_eq_some_iff.1 h).1
    unfold crL at h5; omega
  obtain ⟨n, j1, j2⟩ := nb_at _ [(0, 0)] k _ (List.getElem?_eq_getElem hk)
  unfold crL at h
  rw [h] at j1
  injection j1 with j1
  refine ⟨_, List.getElem?_eq_getElem hk, by rw [j1], by rw [j1], by rw [j1]; exact j2, fun r r1 r2 => ?_⟩
  rw [j1] at r1 r2 ⊢
  rw [← h3 _ (List.getElem_mem hk) r r1 r2]
  exact j2
theorem crL_alt (hA : Cov 0 A 1114112) (hD : Cov 0 D 1114112) (aA : Alt A) (aD : Alt D) : Alt (crL A D) := by
  have key : ∀ (k : Nat) (g g' : Tr), (crL A D)[k]? = some g → (crL A D)[k + 1]? = some g' → g.2.2 ≠ g'.2.2 := fun k g g' h1 h2 e => by
    obtain ⟨z, a1, _, _, a4, _⟩ := crL_at hA hD k g h1
    obtain ⟨z', b1, _, _, b4, _⟩ := crL_at hA hD (k + 1) g' h2
    rw [e, b4] at a4
    injection a4 with a4
    have hk := (List.getElem?_eq_some_iff.1 a1).1
    have hk1 := (List.getElem?_eq_some_iff.1 b1).1
    refine zp_alt (A.length + D.length) A D 0 aA aD ((zp (A.length + D.length) A D 0).take k) ((zp (A.length + D.length) A D 0).drop (k + 2)) z z' ?_ a4.symm
    have e1 : z = (zp (A.length + D.length) A D 0)[k] := by rw [List.getElem?_eq_getElem hk] at a1; injection a1 with a1; exact a1.symm
    have e2 : z' = (zp (A.length + D.length) A D 0)[k + 1] := by rw [List.getElem?_eq_getElem hk1] at b1; injection b1 with b1; exact b1.symm
    rw [e1, e2, List.getElem_cons_drop hk1, List.getElem_cons_drop hk, List.take_append_drop]
  have gen : ∀ (L : List Tr), (∀ (k : Nat) (g g' : Tr), L[k]? = some g → L[k + 1]? = some g' → g.2.2 ≠ g'.2.2) → Alt L := by
    intro L
    induction L with
    | nil => intro _; trivial
    | cons x L ih =>
      intro h
      cases L with
      | nil => trivial
      | cons y R => exact ⟨h 0 x y rfl rfl, ih (fun k g g' h1 h2 => h (k + 1) g g' h1 h2)⟩
  exact gen _ key
theorem crL_cls (hA : Cov 0 A 1114112) (hD : Cov 0 D 1114112) : ∀ g ∈ crL A D, g.2.2 < (crP A D).length := fun g hg => by
  obtain ⟨k, hk⟩ := List.mem_iff_getElem?.1 hg
  obtain ⟨z, _, _, _, h4, _⟩ := crL_at hA hD k g hk
  exact (List.getElem?_eq_some_iff.1 h4).1
/-- A number's class is the number of its pair. -/
theorem crL_get (hA : Cov 0 A 1114112) (hD : Cov 0 D 1114112) (r : Nat) (hr : r ≤ 1114111) : (crP A D)[gtp (r : Int) (crL A D)]? = some ((gtp (r : Int) A : Int), (gtp (r : Int) D : Int)) := by
  have hc := crL_cov hA hD
  obtain ⟨g, hg, h1, h2⟩ := cov_ex (crL A D) 0 1114112 (r : Int) hc (by omega) (by omega)
  rw [gtp_in (crL A D) 0 1114112 (r : Int) g hc hg h1 h2]
  obtain ⟨k, hk⟩ := List.mem_iff_getElem?.1 hg
  obtain ⟨z, _, _, _, _, h5⟩ := crL_at hA hD k g hk
  exact h5 r (by omega) (by omega)
/-- Two numbers have one class just if they have one of both. -/
theorem crL_same (hA : Cov 0 A 1114112) (hD : Cov 0 D 1114112) (r q : Nat) (hr : r ≤ 1114111) (hq : q ≤ 1114111) : gtp (r : Int) (crL A D) = gtp (q : Int) (crL A D) ↔ gtp (r : Int) A = gtp (q : Int) A ∧ gtp (r : Int) D = gtp (q : Int) D := by
  have h1 := crL_get hA hD r hr
  have h2 := crL_get hA hD q hq
  constructor
  · intro e
    rw [e, h2] at h1
    injection h1 with h1
    have := congrArg Prod.fst h1
    have := congrArg Prod.snd h1
    dsimp only at *
    omega
  · rintro ⟨e1, e2⟩
    rw [← e1, ← e2] at h2
    exact nodup_inj crP_nodup h1 h2
/-- The pairs by a list of beginnings, in their order, repeats or not. -/
theorem crP_sorted (hA : Cov 0 A 1114112) (hD : Cov 0 D 1114112) (s : List Nat) (hs : s.Pairwise (· ≤ ·)) (hm : ∀ x, x ∈ s ↔ x ∈ A.map (fun g => g.1) ∨ x ∈ D.map (fun g => g.1)) :
    s.foldl (fun T (s : Nat) => (ad ((gtp (s : Int) A : Int), (gtp (s : Int) D : Int)) T).1) [(0, 0)] = crP A D := by
  obtain ⟨h1, h2, h3, h4⟩ := cr_is hA hD
  unfold crP
  rw [nb_fold _ [(0, 0)] (fun s : Nat => ((gtp (s : Int) A : Int), (gtp (s : Int) D : Int))) (fun z hz => ?_)]
  · exact fold_sorted _ s _ _ hs (zc_rise _ 0 h1) (fun x => by rw [hm x, h4 x])
  · have h5 : z.1 ≤ z.2.1 := by
      have gen : ∀ (Z : List (Nat × Nat × Pr)) (lo : Nat), Zc lo Z → ∀ z ∈ Z, z.1 ≤ z.2.1 := by
        intro Z
        induction Z with
        | nil => intro _ _ z hz; cases hz
        | cons x R ih =>
          intro lo h z hz
          rcases List.mem_cons.1 hz with rfl | h5
          · exact h.2.1
          · exact ih _ h.2.2 z h5
      exact gen _ 0 h1 z hz
    exact h3 z hz z.1 (Nat.le_refl _) h5
end
end Go.Proofs.YtohhokjlgihbgaaGreatDoor
/- Two lists of ranges gone through side by side: what stands between the rounds. -/
namespace Go.Proofs.YtohhokjlgihbgaaGreatDoor

def hdl : List Tr → Nat
  | [] => 0
  | g :: _ => g.1
theorem cov_hd (b : Nat) (R : List Tr) (h : Cov b R 1114112) (hne : R ≠ []) : hdl R = b := by
  cases R with
  | nil => exact absurd rfl hne
  | cons g R => exact h.1
/-- What stands between the rounds: X and Y are left, T and Lc are done. -/
def Iv (A D : List Tr) (T : List Pr) (Lc X Y : List Tr) (lo : Nat) : Prop :=
  ∃ f : Nat, Cv lo X ∧ Cv lo Y ∧ X.length + Y.length ≤ f ∧ crP A D = (nb T (zp f X Y lo)).1 ∧ crL A D = Lc ++ (nb T (zp f X Y lo)).2 ∧ Lc.length + f ≤ A.length + D.length ∧ T.length ≤ Lc.length + 1 ∧ (X ≠ [] → max (hdl X) (hdl Y) = lo) ∧ (∀ g ∈ X, g.2.2 < 256) ∧ (∀ g ∈ Y, g.2.2 < 256)
theorem iv_start (A D : List Tr) (hA : Cov 0 A 1114112) (hD : Cov 0 D 1114112) (cA : ∀ g ∈ A, g.2.2 < 256) (cD : ∀ g ∈ D, g.2.2 < 256) : Iv A D [(0, 0)] [] A D 0 :=
  ⟨A.length + D.length, cv_cov 0 A hA, cv_cov 0 D hD, Nat.le_refl _, rfl, rfl, by simp, Nat.le_refl _, fun _ => by
    have h1 : hdl A = 0 := by
      cases A with
      | nil => rfl
      | cons g R => exact hA.1
    have h2 : hdl D = 0 := by
      cases D with
      | nil => rfl
      | cons g R => exact hD.1
    rw [h1, h2]; rfl, cA, cD⟩
theorem iv_step (A D : List Tr) (T : List Pr) (Lc X Y : List Tr) (lo : Nat) (h : Iv A D T Lc X Y lo) (hX : lo ≤ 1114111) :
    ∃ x X' y Y', X = x :: X' ∧ Y = y :: Y' ∧ max x.1 y.1 = lo ∧ x.1 ≤ lo ∧ y.1 ≤ lo ∧ lo ≤ min x.2.1 y.2.1 ∧ x.2.1 ≤ 1114111 ∧ y.2.1 ≤ 1114111 ∧ x.2.2 < 256 ∧ y.2.2 < 256 ∧
      Iv A D (ad ((x.2.2 : Int), (y.2.2 : Int)) T).1 (Lc ++ [(lo, min x.2.1 y.2.1, (ad ((x.2.2 : Int), (y.2.2 : Int)) T).2)]) (if x.2.1 = min x.2.1 y.2.1 then X' else x :: X') (if y.2.1 = min x.2.1 y.2.1 then Y' else y :: Y') (min x.2.1 y.2.1 + 1) := by
  obtain ⟨f, cX, cY, hf, he, he2, hl, ht, hm, kX, kY⟩ := h
  match X, Y, cX, cY, hf, he, he2, hm, kX, kY with
  | [], _, cX, _, _, _, _, _, _, _ => exact absurd (show lo = 1114112 from cX) (by omega)
  | _ :: _, [], _, cY, _, _, _, _, _, _ => exact absurd (show lo = 1114112 from cY) (by omega)
  | x :: X', y :: Y', cX, cY, hf, he, he2, hm, kX, kY =>
    have x3 := cv_top cX
    have y3 := cv_top cY
    obtain ⟨x1, x2, x5⟩ := cX
    obtain ⟨y1, y2, y5⟩ := cY
    have hlo : lo ≤ min x.2.1 y.2.1 := by omega
    refine ⟨x, X', y, Y', rfl, rfl, hm (by simp), x1, y1, hlo, x3, y3, kX x (by simp), kY y (by simp), ?_⟩
    cases f with
    | zero => simp at hf
    | succ f =>
      have cX' := cv_next lo (min x.2.1 y.2.1) x X' ⟨x1, x2, x5⟩ hlo (by omega)
      have cY' := cv_next lo (min x.2.1 y.2.1) y Y' ⟨y1, y2, y5⟩ hlo (by omega)
      have hstep : zp (f + 1) (x :: X') (y :: Y') lo = (lo, min x.2.1 y.2.1, ((x.2.2 : Int), (y.2.2 : Int))) :: zp f (if x.2.1 = min x.2.1 y.2.1 then X' else x :: X') (if y.2.1 = min x.2.1 y.2.1 then Y' else y :: Y') (min x.2.1 y.2.1 + 1) := rfl
      rw [hstep] at he he2
      refine ⟨f, cX', cY', next_le x y X' Y' f hf, he, ?_, ?_, ?_, ?_, ?_, ?_⟩
      · rw [he2]
        show Lc ++ (_ :: _) = _
        simp
      · simp; omega
      · have := ad_len ((x.2.2 : Int), (y.2.2 : Int)) T
        simp; omega
      · intro hne
        rcases Nat.lt_trichotomy x.2.1 y.2.1 with h | h | h
        · rw [if_pos (show x.2.1 = min x.2.1 y.2.1 by omega)] at hne ⊢
          rw [if_neg (show ¬ y.2.1 = min x.2.1 y.2.1 by omega), cov_hd _ _ x5 hne]
          show max (x.2.1 + 1) y.1 = _
          omega
        · rw [if_pos (show x.2.1 = min x.2.1 y.2.1 by omega)] at hne ⊢
          rw [if_pos (show y.2.1 = min x.2.1 y.2.1 by omega), cov_hd _ _ x5 hne]
          by_cases hY : Y' = []
          · subst hY
            show max (x.2.1 + 1) 0 = _
            omega
          · rw [cov_hd _ _ y5 hY]
            omega
        · rw [if_neg (show ¬ x.2.1 = min x.2.1 y.2.1 by omega)] at hne ⊢
          rw [if_pos (show y.2.1 = min x.2.1 y.2.1 by omega)]
          by_cases hY : Y' = []
          · subst hY
            have h5 : y.2.1 + 1 = 1114112 := y5
            omega
          · rw [cov_hd _ _ y5 hY]
            show max x.1 (y.2.1 + 1) = _
            omega
      · split
        · exact fun g hg => kX g (by simp [hg])
        · exact kX
      · split
        · exact fun g hg => kY g (by simp [hg])
        · exact kY
theorem iv_end (A D : List Tr) (T : List Pr) (Lc X Y : List Tr) (lo : Nat) (h : Iv A D T Lc X Y lo) (hX : ¬ lo ≤ 1114111) : crP A D = T ∧ crL A D = Lc := by
  obtain ⟨f, cX, cY, hf, he, he2, hl, ht, hm, _⟩ := h
  have hX0 : X = [] := by
    cases X with
    | nil => rfl
    | cons g R => exact absurd cX.2.1 (by have := cv_top cX; omega)
  subst hX0
  have e : zp f [] Y lo = [] := by cases f <;> rfl
  rw [e] at he he2
  exact ⟨he, by rw [he2]; show Lc ++ [] = _; rw [List.append_nil]⟩
theorem iv_len {A D : List Tr} {T : List Pr} {Lc X Y : List Tr} {lo : Nat} (h : Iv A D T Lc X Y lo) : Lc.length + X.length + Y.length ≤ A.length + D.length ∧ T.length ≤ Lc.length + 1 ∧ lo ≤ 1114112 := by
  obtain ⟨f, cX, cY, hf, he, he2, hl, ht, hm, _⟩ := h
  refine ⟨by omega, ht, ?_⟩
  cases X with
  | nil => exact Nat.le_of_eq cX
  | cons g R => have := cX.2.1; have := cv_top cX; omega
theorem iv_nil {A D : List Tr} {T : List Pr} {Lc X Y : List Tr} {lo : Nat} (h : Iv A D T Lc X Y lo) : X = [] ↔ ¬ lo ≤ 1114111 := by
  obtain ⟨f, cX, cY, hf, he, he2, hl, ht, hm, _⟩ := h
  cases X with
  | nil => simp [show lo = 1114112 from cX]
  | cons g R => have := cX.2.1; have := cv_top cX; simp; omega
end Go.Proofs.YtohhokjlgihbgaaGreatDoor
