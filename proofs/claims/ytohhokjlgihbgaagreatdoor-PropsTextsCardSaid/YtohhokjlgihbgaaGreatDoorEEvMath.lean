/- The parts of a database: they cover all numbers, neighbours have unlike classes; the sets of classes and what they count. -/
import Derived.Test.YtohhokjlgihbgaaGreatDoorEReadMath
import Derived.Test.YtohhokjlgihbgaaGreatDoorEBare
import Derived.Test.YtohhokjlgihbgaaGreatDoorESearch
import Derived.Test.YtohhokjlgihbgaaGreatDoorERows2
import Derived.Test.YtohhokjlgihbgaaGreatDoorENot
namespace Go.Proofs.YtohhokjlgihbgaaGreatDoor

/-- Ranges one behind the other, without a gap, from a to b. -/
def Cov : Nat → List Tr → Nat → Prop
  | a, [], b => a = b
  | a, g :: R, b => g.1 = a ∧ g.1 ≤ g.2.1 ∧ Cov (g.2.1 + 1) R b
/-- Neighbours have unlike classes. -/
def Alt : List Tr → Prop
  | [] => True
  | [_] => True
  | x :: y :: R => x.2.2 ≠ y.2.2 ∧ Alt (y :: R)
theorem cov_snoc : ∀ (Q : List Tr) (a b : Nat) (g : Tr), Cov a Q b → g.1 = b → g.1 ≤ g.2.1 → Cov a (Q ++ [g]) (g.2.1 + 1)
  | [], a, b, g, h, h1, h2 => ⟨by have h' : a = b := h; omega, h2, rfl⟩
  | x :: Q, a, b, g, h, h1, h2 => ⟨h.1, h.2.1, cov_snoc Q _ b g h.2.2 h1 h2⟩
theorem cov_last : ∀ (Q : List Tr) (a b : Nat) (z : Tr), Cov a (Q ++ [z]) b → Cov a Q z.1 ∧ z.1 ≤ z.2.1 ∧ z.2.1 + 1 = b
  | [], a, b, z, h => ⟨h.1.symm, h.2.1, h.2.2⟩
  | x :: Q, a, b, z, h => by
    obtain ⟨h1, h2, h3⟩ := cov_last Q _ b z h.2.2
    exact ⟨⟨h.1, h.2.1, h1⟩, h2, h3⟩
theorem alt_snoc : ∀ (Q : List Tr) (z g : Tr), Alt (Q ++ [z]) → z.2.2 ≠ g.2.2 → Alt (Q ++ [z] ++ [g])
  | [], _, _, _, h => ⟨h, trivial⟩
  | [_], _, _, h1, h => ⟨h1.1, h, trivial⟩
  | _ :: y :: Q, z, g, h1, h => ⟨h1.1, alt_snoc (y :: Q) z g h1.2 h⟩
theorem alt_set : ∀ (Q : List Tr) (z z' : Tr), Alt (Q ++ [z]) → z'.2.2 = z.2.2 → Alt (Q ++ [z'])
  | [], z, z', _, _ => trivial
  | [x], z, z', h1, h => ⟨by rw [h]; exact h1.1, trivial⟩
  | x :: y :: Q, z, z', h1, h => ⟨h1.1, alt_set (y :: Q) z z' h1.2 h⟩
/-- What stands between the rounds of whole. -/
def InvW (o : List Tr) (nx : Nat) : Prop := Cov 0 o nx ∧ Alt o ∧ ∀ Q z, o = Q ++ [z] → z.2.2 ≠ 0
theorem inv_step (o : List Tr) (nx : Nat) (g : Tr) (h : InvW o nx) (h1 : nx ≤ g.1) (h2 : g.1 ≤ g.2.1) (h3 : g.2.2 ≠ 0) : InvW (jn (gp o nx g) g) (g.2.1 + 1) := by
  obtain ⟨c, a, l⟩ := h
  have fresh : ∀ (o' : List Tr), Cov 0 o' g.1 → Alt o' → (∀ Q z, o' = Q ++ [z] → z.2.2 ≠ g.2.2) → InvW (o' ++ [g]) (g.2.1 + 1) := fun o' c' a' l' => by
    refine ⟨cov_snoc o' 0 g.1 g c' rfl h2, ?_, fun Q z e => ?_⟩
    · rcases List.eq_nil_or_concat o' with rfl | ⟨Q, z, rfl⟩
      · exact trivial
      · rw [List.concat_eq_append] at *
        exact alt_snoc Q z g a' (l' Q z rfl)
    · obtain ⟨_, e2⟩ := List.append_inj' e rfl
      injection e2 with e2 _
      rw [← e2]; exact h3
  unfold gp
  split
  · rename_i hlt
    rw [jn_snoc, if_neg (fun e => h3 e.symm)]
    refine fresh (o ++ [(nx, g.1 - 1, 0)]) ?_ ?_ ?_
    · have h5 := cov_snoc o 0 nx (nx, g.1 - 1, 0) c rfl (by show nx ≤ g.1 - 1; omega)
      rw [show (g.1 - 1) + 1 = g.1 by omega] at h5
      exact h5
    · rcases List.eq_nil_or_concat o with rfl | ⟨Q, z, rfl⟩
      · exact trivial
      · rw [List.concat_eq_append] at *
        exact alt_snoc Q z _ a (l Q z rfl)
    · intro Q z e
      obtain ⟨_, e2⟩ := List.append_inj' e rfl
      injection e2 with e2 _
      rw [← e2]; exact fun e => h3 e.symm
  · have hnx : nx = g.1 := by omega
    subst hnx
    rcases List.eq_nil_or_concat o with rfl | ⟨Q, z, rfl⟩
    · rw [jn_nil]
      exact fresh [] c a (fun Q z e => by simp at e)
    · rw [List.concat_eq_append] at *
      rw [jn_snoc]
      split
      · rename_i hz
        obtain ⟨k1, k2, k3⟩ := cov_last Q 0 _ z c
        refine ⟨?_, alt_set Q z _ a (by show g.2.2 = z.2.2; exact hz.symm), fun Q' z' e => ?_⟩
        · exact cov_snoc Q 0 z.1 (z.1, g.2.1, g.2.2) k1 rfl (by show z.1 ≤ g.2.1; omega)
        · obtain ⟨_, e2⟩ := List.append_inj' e rfl
          injection e2 with e2 _
          rw [← e2]; exact h3
      · rename_i hz
        exact fresh (Q ++ [z]) c a (fun Q' z' e => by
          obtain ⟨_, e2⟩ := List.append_inj' e rfl
          injection e2 with e2 _
          rw [← e2]; exact hz)
theorem inv_whF : ∀ (L o : List Tr) (nx : Nat), InvW o nx → Rs nx L → (∀ g ∈ L, g.2.2 ≠ 0) → nx ≤ 1114112 → Cov 0 (whF o nx L) 1114112 ∧ Alt (whF o nx L)
  | [], o, nx, h, _, _, hn => by
    unfold whF
    split
    · rename_i hlt
      refine ⟨cov_snoc o 0 nx (nx, 1114111, 0) h.1 rfl (by show nx ≤ 1114111; omega), ?_⟩
      rcases List.eq_nil_or_concat o with rfl | ⟨Q, z, rfl⟩
      · exact trivial
      · rw [List.concat_eq_append] at *
        exact alt_snoc Q z _ h.2.1 (h.2.2 Q z rfl)
    · have e : nx = 1114112 := by omega
      subst e
      exact ⟨h.1, h.2.1⟩
  | g :: L, o, nx, h, hR, hc, hn => by
    obtain ⟨r1, r2, r3, r4⟩ := hR
    exact inv_whF L _ (g.2.1 + 1) (inv_step o nx g h r1 r2 (hc g (by simp))) r4 (fun x hx => hc x (by simp [hx])) (by omega)
theorem whl_cov (S : List Tr) (h : Rs 0 S) (hc : ∀ g ∈ S, g.2.2 ≠ 0) : Cov 0 (whl S) 1114112 ∧ Alt (whl S) :=
  inv_whF S [] 0 ⟨rfl, trivial, fun Q z e => by simp at e⟩ h hc (by omega)
end Go.Proofs.YtohhokjlgihbgaaGreatDoor
/- The sets of classes: each in normal form, apart, and all numbers; what the names and the ranges of a text keep to. -/
namespace Go.Proofs.YtohhokjlgihbgaaGreatDoor

theorem cov_ge : ∀ (R : List Tr) (a b : Nat) (g : Tr), Cov a R b → g ∈ R → a ≤ g.1
  | [], _, _, _, _, hg => by cases hg
  | x :: R, a, b, g, h, hg => by
    obtain ⟨c1, c2, c3⟩ := h
    rcases List.mem_cons.1 hg with rfl | hg
    · omega
    · have := cov_ge R _ b g c3 hg; omega
theorem gtp_in : ∀ (A : List Tr) (a b : Nat) (r : Int) (g : Tr), Cov a A b → g ∈ A → (g.1 : Int) ≤ r → r ≤ (g.2.1 : Int) → gtp r A = g.2.2
  | [], _, _, _, g, _, hg, _, _ => by cases hg
  | x :: R, a, b, r, g, h, hg, h1, h2 => by
    obtain ⟨c1, c2, c3⟩ := h
    unfold gtp
    rcases List.mem_cons.1 hg with rfl | hg
    · rw [if_neg (by omega)]
    · have h5 := cov_ge R _ b g c3 hg
      rw [if_pos (by omega)]
      exact gtp_in R _ b r g c3 hg h1 h2
theorem cov_ex : ∀ (A : List Tr) (a b : Nat) (r : Int), Cov a A b → (a : Int) ≤ r → r < (b : Int) → ∃ g ∈ A, (g.1 : Int) ≤ r ∧ r ≤ (g.2.1 : Int)
  | [], a, b, r, h, h1, h2 => by have h' : a = b := h; omega
  | x :: R, a, b, r, h, h1, h2 => by
    obtain ⟨c1, c2, c3⟩ := h
    by_cases hr : r ≤ (x.2.1 : Int)
    · exact ⟨x, by simp, by omega, hr⟩
    · obtain ⟨g, hg, h5⟩ := cov_ex R _ b r c3 (by omega) h2
      exact ⟨g, by simp [hg], h5⟩
theorem isin_stc (r c : Int) (A : List Tr) : isin r (stc c A) ↔ ∃ g ∈ A, (g.2.2 : Int) = c ∧ (g.1 : Int) ≤ r ∧ r ≤ (g.2.1 : Int) := by
  rw [isin_iff]
  unfold stc
  constructor
  · rintro ⟨x, hx, h1, h2⟩
    obtain ⟨g, hg, rfl⟩ := List.mem_map.1 hx
    obtain ⟨h3, h4⟩ := List.mem_filter.1 hg
    exact ⟨g, h3, by simpa using h4, h1, h2⟩
  · rintro ⟨g, h1, h2, h3, h4⟩
    exact ⟨_, List.mem_map.2 ⟨g, List.mem_filter.2 ⟨h1, by simpa using h2⟩, rfl⟩, h3, h4⟩
/-- Whether a number is in the set of a class. -/
theorem has_stc (A : List Tr) (h : Cov 0 A 1114112) (r : Int) (i : Nat) (h0 : 0 ≤ r) (h1 : r ≤ 1114111) : hasR r (stc (i : Int) A) = decide (gtp r A = i) := by
  rw [Bool.eq_iff_iff, hasR_iff, decide_eq_true_iff]
  unfold means
  rw [isin_stc]
  constructor
  · rintro ⟨_, _, g, hg, h2, h3, h4⟩
    rw [gtp_in A 0 _ r g h hg h3 h4]; omega
  · intro he
    obtain ⟨g, hg, h3, h4⟩ := cov_ex A 0 1114112 r h (by omega) (by omega)
    refine ⟨h0, h1, g, hg, ?_, h3, h4⟩
    rw [gtp_in A 0 _ r g h hg h3 h4] at he
    omega
theorem stc_cons (c : Int) (g : Tr) (R : List Tr) : stc c (g :: R) = (if (g.2.2 : Int) = c then [((g.1 : Int), (g.2.1 : Int))] else []) ++ stc c R := by
  unfold stc
  rw [List.filter_cons]
  split
  · rename_i h; rw [if_pos (by simpa using h)]; rfl
  · rename_i h; rw [if_neg (by simpa using h)]; rfl
theorem nfF_mono' : ∀ (l : List Rg) (a b : Int), a ≤ b → nfF b l → nfF a l
  | [], _, _, _, _ => trivial
  | g :: l, a, b, h, hb => ⟨by have := hb.1; omega, hb.2⟩
theorem cov_le : ∀ (R : List Tr) (a e : Nat), Cov a R e → a ≤ e
  | [], a, e, h => by have h' : a = e := h; omega
  | x :: R, a, e, h => by have := cov_le R _ e h.2.2; have := h.1; have := h.2.1; omega
theorem nf_stc : ∀ (A : List Tr) (a e : Nat) (c : Int), Cov a A e → Alt A → e ≤ 1114112 → nfF (a : Int) (stc c A) ∧ ((∀ x R, A = x :: R → (x.2.2 : Int) ≠ c) → nfF ((a : Int) + 1) (stc c A))
  | [], a, e, c, _, _, _ => ⟨trivial, fun _ => trivial⟩
  | g :: R, a, e, c, h, hA, he => by
    obtain ⟨c1, c2, c3⟩ := h
    have hle := cov_le R _ e c3
    have hAR : Alt R := by
      cases R with
      | nil => exact trivial
      | cons y R => exact hA.2
    obtain ⟨i1, i2⟩ := nf_stc R (g.2.1 + 1) e c c3 hAR he
    rw [stc_cons]
    by_cases hc : (g.2.2 : Int) = c
    · rw [if_pos hc]
      have hh : nfF (((g.2.1 + 1 : Nat) : Int) + 1) (stc c R) := i2 (fun x R' e => by
        subst e
        intro h5
        exact hA.1 (by omega))
      have base : nfF (a : Int) (((g.1 : Int), (g.2.1 : Int)) :: stc c R) := ⟨by show (a : Int) ≤ (g.1 : Int); omega, by show (g.1 : Int) ≤ (g.2.1 : Int); omega, by show (g.2.1 : Int) ≤ top; unfold top; omega, by
        have e : ((g.1 : Int), (g.2.1 : Int)).2 + 2 = ((g.2.1 + 1 : Nat) : Int) + 1 := by show (g.2.1 : Int) + 2 = _; omega
        rw [e]; exact hh⟩
      exact ⟨base, fun hx => absurd hc (hx g R rfl)⟩
    · rw [if_neg hc]
      exact ⟨nfF_mono' _ _ _ (by omega) i1, fun _ => nfF_mono' _ _ _ (by omega) i1⟩
theorem nrm_self (l : List Rg) (h : nf l) : nrm l = l := nf_one (nrm_nf l) h (fun r => by
  rw [nrm_in]
  unfold means
  constructor
  · exact fun h => h.2.2
  · intro hi
    obtain ⟨g, hg, h1, h2⟩ := isin_iff.1 hi
    obtain ⟨b1, b2, b3⟩ := nf_bounds l h g hg
    exact ⟨by omega, by unfold top; omega, hi⟩)
/-- How many numbers have a class below k. -/
def szk (k : Nat) : List Tr → Int
  | [] => 0
  | g :: R => (if g.2.2 < k then (g.2.1 : Int) - (g.1 : Int) + 1 else 0) + szk k R
theorem szk_zero : ∀ A, szk 0 A = 0
  | [] => rfl
  | g :: R => by unfold szk; rw [szk_zero R]; simp
theorem szk_succ (k : Nat) : ∀ A : List Tr, szk (k + 1) A = szk k A + cntF (stc (k : Int) A)
  | [] => rfl
  | g :: R => by
    unfold szk
    rw [szk_succ k R, stc_cons]
    by_cases h1 : g.2.2 < k
    · rw [if_pos (by omega), if_pos h1, if_neg (by omega)]
      show _ = _ + cntF (stc (k : Int) R)
      omega
    · by_cases h2 : g.2.2 = k
      · rw [if_pos (by omega), if_neg h1, if_pos (by omega)]
        show _ = _ + (((g.2.1 : Int) - (g.1 : Int) + 1) + cntF (stc (k : Int) R))
        omega
      · rw [if_neg (by omega), if_neg h1, if_neg (by omega)]
        show _ = _ + cntF (stc (k : Int) R)
        omega
theorem szk_all : ∀ (A : List Tr) (a b n : Nat), Cov a A b → (∀ g ∈ A, g.2.2 < n) → szk n A = (b : Int) - (a : Int)
  | [], a, b, n, h, _ => by have h' : a = b := h; unfold szk; omega
  | g :: R, a, b, n, h, hc => by
    obtain ⟨c1, c2, c3⟩ := h
    have ih := szk_all R _ b n c3 (fun x hx => hc x (by simp [hx]))
    unfold szk
    rw [if_pos (hc g (by simp)), ih]
    omega
/-- The sets of the classes below k, one behind the other. -/
def alS (A : List Tr) : Nat → List Rg
  | 0 => []
  | k + 1 => alS A k ++ stc (k : Int) A
theorem isin_app' (r : Int) (l m : List Rg) : isin r (l ++ m) ↔ isin r l ∨ isin r m := by
  rw [isin_iff, isin_iff, isin_iff]
  constructor
  · rintro ⟨g, hg, h⟩
    rcases List.mem_append.1 hg with hg | hg
    · exact .inl ⟨g, hg, h⟩
    · exact .inr ⟨g, hg, h⟩
  · rintro (⟨g, hg, h⟩ | ⟨g, hg, h⟩)
    · exact ⟨g, List.mem_append.2 (.inl hg), h⟩
    · exact ⟨g, List.mem_append.2 (.inr hg), h⟩
theorem isin_alS (A : List Tr) (r : Int) : ∀ (k : Nat), (∃ g ∈ A, g.2.2 < k ∧ (g.1 : Int) ≤ r ∧ r ≤ (g.2.1 : Int)) → isin r (alS A k)
  | 0, h => by obtain ⟨g, _, h1, _⟩ := h; omega
  | k + 1, h => by
    obtain ⟨g, hg, h1, h2, h3⟩ := h
    unfold alS
    rw [isin_app']
    by_cases e : g.2.2 = k
    · exact .inr ((isin_stc r _ A).2 ⟨g, hg, by omega, h2, h3⟩)
    · exact .inl (isin_alS A r k ⟨g, hg, by omega, h2, h3⟩)
theorem nrm_alS (A : List Tr) (n : Nat) (h : Cov 0 A 1114112) (hc : ∀ g ∈ A, g.2.2 < n) : nrm (alS A n) = [(0, 1114111)] := by
  refine nf_one (nrm_nf _) (show nfF 0 [(0, 1114111)] from ⟨Int.le_refl _, by decide, by decide, trivial⟩) (fun r => ?_)
  rw [nrm_in]
  unfold means
  constructor
  · rintro ⟨h1, h2, _⟩
    exact .inl ⟨h1, h2⟩
  · rintro (⟨h1, h2⟩ | h1)
    · have h1' : (0 : Int) ≤ r := h1
      have h2' : r ≤ 1114111 := h2
      obtain ⟨g, hg, h3, h4⟩ := cov_ex A 0 1114112 r h (by omega) (by omega)
      exact ⟨h1, h2, isin_alS A r n ⟨g, hg, hc g hg, h3, h4⟩⟩
    · cases h1
theorem alS_len (A : List Tr) : ∀ k, (alS A k).length ≤ k * A.length
  | 0 => by simp [alS]
  | k + 1 => by
    have ih := alS_len A k
    have h5 := stc_len (k : Int) A
    unfold alS
    rw [List.length_append, Nat.succ_mul]
    omega
end Go.Proofs.YtohhokjlgihbgaaGreatDoor
/- What the names and the ranges of a text that New takes keep to: the first name is Other, each range has a class from 1 on below the number of names; how many ranges there are at most. -/
namespace Go.Proofs.YtohhokjlgihbgaaGreatDoor

def GoodR (U : List (List UInt8)) (S : List Tr) : Prop := U[0]? = some oth ∧ ∀ g ∈ S, 1 ≤ g.2.2 ∧ g.2.2 < U.length
theorem sayD_cls : ∀ (D : List Tr) (g x : Tr) (R : List Tr), sayD D g = some (x, R) → x.2.2 = g.2.2 ∧ (∀ y ∈ R, y ∈ D) ∧ R.length ≤ D.length
  | [], g, x, R, h => by
    simp only [sayD, Option.some.injEq, Prod.mk.injEq] at h
    obtain ⟨rfl, rfl⟩ := h
    exact ⟨rfl, fun y hy => (by cases hy), Nat.le_refl _⟩
  | d :: D, g, x, R, h => by
    unfold sayD at h
    split at h
    · split at h
      · obtain ⟨h1, h2, h3⟩ := sayD_cls D _ x R h
        exact ⟨h1, fun y hy => by simp [h2 y hy], by simp; omega⟩
      · cases h
    · simp only [Option.some.injEq, Prod.mk.injEq] at h
      obtain ⟨rfl, rfl⟩ := h
      exact ⟨rfl, fun y hy => hy, Nat.le_refl _⟩
theorem sayR_cls : ∀ (S : List Tr) (g : Tr) (S' : List Tr), sayR S g = some S' → (∀ x ∈ S', x.2.2 = g.2.2 ∨ x ∈ S) ∧ S'.length ≤ S.length + 1
  | [], g, S', h => by
    simp only [sayR, Option.some.injEq] at h
    subst h
    exact ⟨fun x hx => .inl (by simp at hx; rw [hx]), by simp⟩
  | d :: S, g, S', h => by
    unfold sayR at h
    split at h
    · cases hs : sayR S g with
      | none => rw [hs] at h; cases h
      | some T =>
        rw [hs] at h
        simp only [Option.map_some, Option.some.injEq] at h
        subst h
        obtain ⟨h1, h2⟩ := sayR_cls S g T hs
        refine ⟨fun x hx => ?_, by simp; omega⟩
        rcases List.mem_cons.1 hx with rfl | hx
        · exact .inr (by simp)
        · rcases h1 x hx with h5 | h5
          · exact .inl h5
          · exact .inr (by simp [h5])
    · cases hs : sayD (d :: S) g with
      | none => rw [hs] at h; cases h
      | some y =>
        rw [hs] at h
        simp only [Option.map_some, Option.some.injEq] at h
        subst h
        obtain ⟨h1, h2, h3⟩ := sayD_cls (d :: S) g y.1 y.2 hs
        refine ⟨fun x hx => ?_, by rw [List.length_cons]; omega⟩
        rcases List.mem_cons.1 hx with rfl | hx
        · exact .inl h1
        · exact .inr (h2 x hx)
theorem sayL_cls : ∀ (G : List Rg) (S : List Tr) (c : Nat) (S' : List Tr), sayL S G c = some S' → (∀ x ∈ S', x.2.2 = c ∨ x ∈ S) ∧ S'.length ≤ S.length + G.length
  | [], S, c, S', h => by
    simp only [sayL, Option.some.injEq] at h
    subst h
    exact ⟨fun x hx => .inr hx, by simp⟩
  | g :: G, S, c, S', h => by
    unfold sayL at h
    cases hs : sayR S (rgT c g) with
    | none => rw [hs] at h; cases h
    | some T =>
      rw [hs] at h
      obtain ⟨h1, h2⟩ := sayR_cls S _ T hs
      obtain ⟨h3, h4⟩ := sayL_cls G T c S' h
      refine ⟨fun x hx => ?_, by rw [List.length_cons]; omega⟩
      rcases h3 x hx with h5 | h5
      · exact .inl h5
      · exact h1 x h5
theorem parF_len : ∀ (f : Nat) (l : List UInt8) (p : Nat) (acc : List Rg), p ≤ l.length → (parF f l p acc).1.length ≤ acc.length + (l.length - p)
  | 0, l, p, acc, _ => by unfold parF; simp
  | f + 1, l, p, acc, hp => by
    unfold parF
    split
    · have := nrm_len acc
      show (nrm acc).length ≤ _
      omega
    · split
      · have := parF_len f l (p + 1) acc (by omega)
        omega
      · split
        · simp
        · split
          · simp
          · rename_i h1 h2 h3 h4
            obtain ⟨i1, i2, _⟩ := itm_le l p hp
            have i2' := i2 (by simpa using h3)
            have := parF_len f l (itm l p).2.1 (acc ++ [(itm l p).1]) i1
            rw [List.length_append] at this
            simp at this
            omega
theorem par_len (l : List UInt8) : (par l).1.length ≤ l.length := by
  have := parF_len (l.length + 1) l 0 [] (Nat.zero_le _)
  unfold par
  simpa using this
theorem rdS_good (U : List (List UInt8)) (S : List Tr) (l : List UInt8) (h : GoodR U S) (h0 : (rdS U S l).1 = 0) : GoodR (rdS U S l).2.1 (rdS U S l).2.2 ∧ (rdS U S l).2.2.length ≤ S.length + l.length := by
  have hl1 := rlin_len l
  have hsl := rsp_len (rlin l)
  have hpl := par_len (rsp (rlin l))
  obtain ⟨u0, hS⟩ := h
  have hU : 0 < U.length := (List.getElem?_eq_some_iff.1 u0).1
  unfold rdS at h0 ⊢
  split
  · exact ⟨⟨u0, hS⟩, by simp⟩
  · rename_i c1
    rw [if_neg c1] at h0
    split
    · rename_i c2; rw [if_pos c2] at h0; cases h0
    · rename_i c2
      rw [if_neg c2] at h0
      split
      · rename_i c3; rw [if_pos c3] at h0; cases h0
      · rename_i c3
        rw [if_neg c3] at h0
        split
        · rename_i c4; rw [if_pos c4] at h0; exact absurd h0 c4
        · rename_i c4
          rw [if_neg c4] at h0
          split
          · rename_i c5; rw [if_pos c5] at h0; cases h0
          · rename_i c5
            rw [if_neg c5] at h0
            have hne : rnm (rlin l) ≠ oth := fun e => c3 (.inr e)
            cases hs : sayL S (par (rsp (rlin l))).1 (adn (rnm (rlin l)) U).2 with
            | none => rw [hs] at h0; cases h0
            | some S' =>
              show GoodR (adn (rnm (rlin l)) U).1 S' ∧ S'.length ≤ S.length + l.length
              obtain ⟨k1, k2⟩ := sayL_cls _ S _ S' hs
              generalize rnm (rlin l) = nm at *
              have hadn : (adn nm U).1[0]? = some oth ∧ 1 ≤ (adn nm U).2 ∧ (adn nm U).2 < (adn nm U).1.length ∧ U.length ≤ (adn nm U).1.length := by
                unfold adn
                split
                · rename_i hm
                  have h5 := List.idxOf_lt_length_of_mem hm
                  refine ⟨u0, ?_, h5, Nat.le_refl _⟩
                  show 1 ≤ U.idxOf nm
                  rcases Nat.eq_zero_or_pos (U.idxOf nm) with h6 | h6
                  · exfalso
                    have h7 : U[U.idxOf nm]? = some nm := by rw [List.getElem?_eq_getElem h5, List.getElem_idxOf]
                    rw [h6, u0] at h7
                    injection h7 with h7
                    exact hne h7.symm
                  · exact h6
                · refine ⟨?_, hU, by simp, by simp⟩
                  show (U ++ [nm])[0]? = some oth
                  rw [List.getElem?_append_left hU]; exact u0
              obtain ⟨a1, a2, a3, a4⟩ := hadn
              refine ⟨⟨a1, fun g hg => ?_⟩, by omega⟩
              rcases k1 g hg with h5 | h5
              · rw [h5]; exact ⟨a2, a3⟩
              · have := hS g h5; omega
/-- How long lines are together. -/
def sumL : List (List UInt8) → Nat
  | [] => 0
  | x :: L => x.length + sumL L
theorem sum_lns : ∀ l : List UInt8, sumL (lns l) ≤ l.length
  | [] => by simp [lns, sumL]
  | b :: r => by
    have ih := sum_lns r
    rw [lns_cons]
    split
    · show 0 + sumL (lns r) ≤ _
      rw [List.length_cons]; omega
    · show (b :: (lns r).headD []).length + sumL (lns r).tail ≤ _
      cases hr : lns r with
      | nil => simp [sumL]
      | cons y ys =>
        rw [hr] at ih
        have ih' : y.length + sumL ys ≤ r.length := ih
        show (b :: y).length + sumL ys ≤ _
        rw [List.length_cons, List.length_cons]; omega
theorem nwF_good : ∀ (L : List (List UInt8)) (i : Nat) (U : List (List UInt8)) (S : List Tr), GoodR U S → (nwF i U S L).1.1 = 0 → GoodR (nwF i U S L).2.1 (nwF i U S L).2.2 ∧ (nwF i U S L).2.2.length ≤ S.length + sumL L
  | [], i, U, S, h, _ => ⟨h, by simp [nwF, sumL]⟩
  | l :: L, i, U, S, h, h0 => by
    unfold nwF at h0 ⊢
    split at h0
    · rename_i hc
      rw [if_pos hc]
      obtain ⟨g1, g2⟩ := rdS_good U S l h hc
      obtain ⟨g3, g4⟩ := nwF_good L (i + 1) _ _ g1 h0
      exact ⟨g3, by show _ ≤ S.length + (l.length + sumL L); omega⟩
    · rename_i hc
      exact absurd h0 hc
theorem nw_good (t : List UInt8) (h : (nw t).1.1 = 0) : GoodR (nw t).2.1 (nw t).2.2 ∧ (nw t).2.2.length ≤ t.length := by
  unfold nw at h ⊢
  split
  · rename_i hc; rw [if_pos hc] at h; cases h
  · rename_i hc
    rw [if_neg hc] at h
    obtain ⟨g1, g2⟩ := nwF_good (lns t) 0 [oth] [] ⟨rfl, fun g hg => by cases hg⟩ h
    have := sum_lns t
    exact ⟨g1, by simp at g2; omega⟩
theorem jn_cls (o : List Tr) (g : Tr) : ∀ x ∈ jn o g, x.2.2 = g.2.2 ∨ x ∈ o := fun x hx => by
  rcases List.eq_nil_or_concat o with rfl | ⟨Q, z, rfl⟩
  · rw [jn_nil] at hx; simp at hx; exact .inl (by rw [hx])
  · rw [List.concat_eq_append] at *
    rw [jn_snoc] at hx
    split at hx
    · rcases List.mem_append.1 hx with hx | hx
      · exact .inr (by simp [hx])
      · simp at hx; exact .inl (by rw [hx])
    · rcases List.mem_append.1 hx with hx | hx
      · exact .inr hx
      · simp at hx; exact .inl (by rw [hx])
theorem whF_cls : ∀ (L o : List Tr) (nx : Nat), ∀ x ∈ whF o nx L, x.2.2 = 0 ∨ x ∈ o ∨ ∃ g ∈ L, x.2.2 = g.2.2
  | [], o, nx, x, hx => by
    unfold whF at hx
    split at hx
    · rcases List.mem_append.1 hx with hx | hx
      · exact .inr (.inl hx)
      · simp at hx; exact .inl (by rw [hx])
    · exact .inr (.inl hx)
  | g :: L, o, nx, x, hx => by
    rcases whF_cls L _ _ x hx with h | h | ⟨y, hy, h⟩
    · exact .inl h
    · rcases jn_cls _ g x h with h5 | h5
      · exact .inr (.inr ⟨g, by simp, h5⟩)
      · unfold gp at h5
        split at h5
        · rcases List.mem_append.1 h5 with h5 | h5
          · exact .inr (.inl h5)
          · simp at h5; exact .inl (by rw [h5])
        · exact .inr (.inl h5)
    · exact .inr (.inr ⟨y, by simp [hy], h⟩)
/-- What the parts of a database keep to. -/
theorem whl_good (U : List (List UInt8)) (S : List Tr) (h : GoodR U S) (hR : Rs 0 S) : Cov 0 (whl S) 1114112 ∧ Alt (whl S) ∧ (∀ g ∈ whl S, g.2.2 < U.length) ∧ (whl S).length ≤ 2 * S.length + 1 := by
  obtain ⟨c1, c2⟩ := whl_cov S hR (fun g hg => by have := (h.2 g hg).1; omega)
  have hU : 0 < U.length := (List.getElem?_eq_some_iff.1 h.1).1
  refine ⟨c1, c2, fun g hg => ?_, ?_⟩
  · rcases whF_cls S [] 0 g hg with h5 | h5 | ⟨y, hy, h5⟩
    · omega
    · cases h5
    · have := (h.2 y hy).2; omega
  · have := whF_len S [] 0
    unfold whl
    simpa using this
end Go.Proofs.YtohhokjlgihbgaaGreatDoor
/- For PropsBack: ranges that lie apart are said one behind the other into their places; what is made whole again of what has a class is what it was. -/
namespace Go.Proofs.YtohhokjlgihbgaaGreatDoor

theorem sayR_ins : ∀ (P Q : List Tr) (g : Tr), (∀ h ∈ P, h.2.1 < g.1) → (∀ h ∈ Q, g.2.1 < h.1 ∧ h.1 ≤ h.2.1) → g.1 ≤ g.2.1 → sayR (P ++ Q) g = some (P ++ g :: Q)
  | [], [], g, _, _, _ => rfl
  | [], h :: R, g, _, hq, hg => by
    obtain ⟨q1, q2⟩ := hq h (List.mem_cons_self ..)
    rw [List.nil_append, List.nil_append]
    unfold sayR
    rw [if_neg (by omega)]
    unfold sayD
    rw [if_neg (by omega)]
    rfl
  | h :: P, Q, g, hp, hq, hg => by
    have h1 := hp h (List.mem_cons_self ..)
    rw [List.cons_append, List.cons_append]
    unfold sayR
    rw [if_pos (by omega), sayR_ins P Q g (fun x hx => hp x (List.mem_cons_of_mem _ hx)) hq hg]
    rfl
/-- What has a class from 1 on below c. -/
def blw (c : Nat) (A : List Tr) : List Tr := A.filter fun g => decide (0 < g.2.2) && decide (g.2.2 < c)
theorem blw_cons (c : Nat) (g : Tr) (A : List Tr) : blw c (g :: A) = if 0 < g.2.2 ∧ g.2.2 < c then g :: blw c A else blw c A := by
  unfold blw
  rw [List.filter_cons]
  by_cases h : 0 < g.2.2 ∧ g.2.2 < c
  · rw [if_pos h, if_pos (by simp [h.1, h.2])]
  · rw [if_neg h, if_neg (by rw [Bool.and_eq_true, decide_eq_true_iff, decide_eq_true_iff]; exact h)]
theorem blw_mem {c : Nat} {A : List Tr} {g : Tr} (h : g ∈ blw c A) : g ∈ A := (List.mem_filter.1 h).1
theorem cov_mem : ∀ (A : List Tr) (a b : Nat), Cov a A b → a ≤ b ∧ ∀ g ∈ A, a ≤ g.1 ∧ g.1 ≤ g.2.1 ∧ g.2.1 < b
  | [], a, b, h => ⟨Nat.le_of_eq h, fun _ hg => by cases hg⟩
  | x :: A, a, b, h => by
    obtain ⟨h1, h2, h3⟩ := h
    obtain ⟨k1, k2⟩ := cov_mem A _ b h3
    refine ⟨by omega, fun g hg => ?_⟩
    rcases List.mem_cons.1 hg with rfl | hg
    · omega
    · have h5 := k2 g hg
      omega
theorem sayL_ins (c : Nat) (hc : 0 < c) : ∀ (A P : List Tr) (a b : Nat), Cov a A b → (∀ h ∈ P, h.2.1 < a) → sayL (P ++ blw c A) (stc (c : Int) A) c = some (P ++ blw (c + 1) A)
  | [], P, a, b, _, _ => rfl
  | g :: A, P, a, b, h, hP => by
    obtain ⟨h1, h2, h3⟩ := h
    obtain ⟨k1, k2⟩ := cov_mem A _ b h3
    rw [stc_cons, blw_cons, blw_cons]
    by_cases hg : g.2.2 = c
    · rw [if_neg (by omega), if_pos (by omega), if_pos (by omega)]
      show sayL (P ++ blw c A) (((g.1 : Int), (g.2.1 : Int)) :: stc (c : Int) A) c = _
      unfold sayL
      have e : rgT c ((g.1 : Int), (g.2.1 : Int)) = g := by
        unfold rgT
        obtain ⟨x, y, z⟩ := g
        simp only [Int.toNat_natCast] at hg ⊢
        rw [hg]
      rw [e, sayR_ins P (blw c A) g (fun x hx => by have h5 := hP x hx; omega) (fun x hx => by have h5 := k2 x (blw_mem hx); omega) h2]
      have ih := sayL_ins c hc A (P ++ [g]) _ b h3 (fun x hx => by
        rcases List.mem_append.1 hx with hx | hx
        · have h5 := hP x hx; omega
        · rw [List.mem_singleton.1 hx]; omega)
      simpa using ih
    · rw [if_neg (by omega : ¬ (g.2.2 : Int) = (c : Int)), List.nil_append]
      by_cases h0 : 0 < g.2.2 ∧ g.2.2 < c
      · rw [if_pos h0, if_pos (by omega)]
        have ih := sayL_ins c hc A (P ++ [g]) _ b h3 (fun x hx => by
          rcases List.mem_append.1 hx with hx | hx
          · have h5 := hP x hx; omega
          · rw [List.mem_singleton.1 hx]; omega)
        simpa using ih
      · rw [if_neg h0, if_neg (by omega)]
        exact sayL_ins c hc A P _ b h3 (fun x hx => by have h5 := hP x hx; omega)
/-- A list's last range has no class that the range behind it has. -/
def Nxt (o : List Tr) (A : List Tr) : Prop := ∀ Q z g R, o = Q ++ [z] → A = g :: R → z.2.2 ≠ g.2.2
theorem jn_nxt (o : List Tr) (g : Tr) (h : ∀ Q z, o = Q ++ [z] → z.2.2 ≠ g.2.2) : jn o g = o ++ [g] := by
  rcases List.eq_nil_or_concat o with rfl | ⟨Q, z, rfl⟩
  · rfl
  · rw [List.concat_eq_append] at h ⊢
    rw [jn_snoc, if_neg (h Q z rfl)]
theorem rgd_cons (g : Tr) (A : List Tr) : rgd (g :: A) = if 0 < g.2.2 then g :: rgd A else rgd A := by
  unfold rgd
  rw [List.filter_cons]
  by_cases h : 0 < g.2.2
  · rw [if_pos h, if_pos (by simpa using h)]
  · rw [if_neg h, if_neg (by simpa using h)]
theorem whF_rgd : ∀ (A o : List Tr) (nx : Nat), Cov nx A 1114112 → Alt A → Nxt o A → whF o nx (rgd A) = o ++ A
  | [], o, nx, h, _, _ => by
    have h' : nx = 1114112 := h
    show (if nx ≤ 1114111 then _ else o) = _
    rw [if_neg (by omega), List.append_nil]
  | [g], o, nx, h, _, hn => by
    obtain ⟨h1, h2, h3⟩ := h
    have h3' : g.2.1 + 1 = 1114112 := h3
    rw [rgd_cons]
    by_cases h0 : 0 < g.2.2
    · rw [if_pos h0]
      show whF (jn (gp o nx g) g) (g.2.1 + 1) [] = _
      unfold gp
      rw [if_neg (by omega), jn_nxt o g (fun Q z e => hn Q z g [] e rfl)]
      show (if g.2.1 + 1 ≤ 1114111 then _ else o ++ [g]) = _
      rw [if_neg (by omega)]
    · rw [if_neg h0]
      show (if nx ≤ 1114111 then o ++ [(nx, 1114111, 0)] else o) = _
      rw [if_pos (by omega)]
      obtain ⟨x, y, z⟩ := g
      have hx : x = nx := h1
      have hy : y + 1 = 1114112 := h3'
      have hz : ¬ 0 < z := h0
      obtain rfl : z = 0 := by omega
      obtain rfl : y = 1114111 := by omega
      rw [hx]
  | g :: k :: A, o, nx, h, ha, hn => by
    obtain ⟨h1, h2, h3⟩ := h
    obtain ⟨a1, a2⟩ := ha
    by_cases h0 : 0 < g.2.2
    · rw [rgd_cons, if_pos h0]
      show whF (jn (gp o nx g) g) (g.2.1 + 1) (rgd (k :: A)) = _
      unfold gp
      rw [if_neg (by omega), jn_nxt o g (fun Q z e => hn Q z g _ e rfl)]
      have ih := whF_rgd (k :: A) (o ++ [g]) _ h3 a2 (fun Q z k' R e1 e2 => by
        have e3 := (List.append_inj' e1 rfl).2
        injection e3 with e3; injection e2 with e2
        rw [← e3, ← e2]; exact a1)
      simpa using ih
    · have hk : 0 < k.2.2 := by omega
      obtain ⟨c1, c2, c3⟩ := h3
      rw [rgd_cons, if_neg h0, rgd_cons, if_pos hk]
      show whF (jn (gp o nx k) k) (k.2.1 + 1) (rgd A) = _
      have e : gp o nx k = o ++ [g] := by
        unfold gp
        rw [if_pos (by omega)]
        obtain ⟨x, y, z⟩ := g
        have hx : x = nx := h1
        have hz : ¬ 0 < z := h0
        obtain rfl : z = 0 := by omega
        have hy : k.1 = y + 1 := c1
        rw [hy, hx]
        rfl
      rw [e, jn_nxt (o ++ [g]) k (fun Q z e1 => by
        have e3 := (List.append_inj' e1 rfl).2
        injection e3 with e3
        rw [← e3]; exact a1)]
      have ih := whF_rgd A (o ++ [g] ++ [k]) _ c3 (by cases A with | nil => trivial | cons y A => exact a2.2) (fun Q z k' R e1 e2 => by
        have e3 := (List.append_inj' e1 rfl).2
        injection e3 with e3
        subst e2
        rw [← e3]; exact a2.1)
      simpa using ih
theorem whl_rgd (A : List Tr) (h : Cov 0 A 1114112) (ha : Alt A) : whl (rgd A) = A := by
  have h5 := whF_rgd A [] 0 h ha (fun Q z g R e _ => by simp at e)
  simpa [whl] using h5
theorem blw_all (A : List Tr) (n : Nat) (h : ∀ g ∈ A, g.2.2 < n) : blw n A = rgd A := by
  unfold blw rgd
  exact List.filter_congr fun g hg => by rw [decide_eq_true (h g hg), Bool.and_true]
theorem blw_one (A : List Tr) : blw 1 A = [] := by
  unfold blw
  rw [List.filter_eq_nil_iff]
  intro g _
  rw [Bool.and_eq_true, decide_eq_true_iff, decide_eq_true_iff]
  omega
end Go.Proofs.YtohhokjlgihbgaaGreatDoor
/- What is said of numbers and classes: a clash is a number with another class; what is said is what was said, and the ranges. -/
namespace Go.Proofs.YtohhokjlgihbgaaGreatDoor

/-- A number has a class. -/
def Hd (d r : Nat) (S : List Tr) : Prop := ∃ g ∈ S, g.2.2 = d ∧ g.1 ≤ r ∧ r ≤ g.2.1
theorem hd_cons (d r : Nat) (h : Tr) (S : List Tr) : Hd d r (h :: S) ↔ (h.2.2 = d ∧ h.1 ≤ r ∧ r ≤ h.2.1) ∨ Hd d r S := by
  unfold Hd
  simp
theorem hd_nil (d r : Nat) : ¬ Hd d r [] := by unfold Hd; simp
theorem rs_inn : ∀ (S : List Tr) (b : Nat), Rs b S → ∀ g ∈ S, b ≤ g.1 ∧ g.1 ≤ g.2.1 ∧ g.2.1 ≤ 1114111
  | [], _, _, g, hg => by cases hg
  | h :: S, b, hR, g, hg => by
    obtain ⟨r1, r2, r3, r4⟩ := hR
    rcases List.mem_cons.1 hg with rfl | hg
    · exact ⟨r1, r2, r3⟩
    · obtain ⟨p1, p2, p3⟩ := rs_inn S _ r4 g hg
      exact ⟨by omega, p2, p3⟩
theorem sayD_none : ∀ (D : List Tr) (g : Tr) (b : Nat), Rs b D → (sayD D g = none ↔ ∃ h ∈ D, h.2.2 ≠ g.2.2 ∧ h.1 ≤ g.2.1)
  | [], g, b, _ => by simp [sayD]
  | h :: D, g, b, hR => by
    obtain ⟨r1, r2, r3, r4⟩ := hR
    unfold sayD
    by_cases c1 : h.1 ≤ g.2.1
    · rw [if_pos c1]
      by_cases c2 : h.2.2 = g.2.2
      · rw [if_pos c2, sayD_none D _ _ r4]
        constructor
        · rintro ⟨x, hx, h1, h2⟩
          have h5 := rs_inn D _ r4 x hx
          refine ⟨x, by simp [hx], h1, ?_⟩
          have h6 : x.1 ≤ max g.2.1 h.2.1 := h2
          omega
        · rintro ⟨x, hx, h1, h2⟩
          rcases List.mem_cons.1 hx with rfl | hx
          · exact absurd c2 h1
          · exact ⟨x, hx, h1, by show x.1 ≤ max g.2.1 h.2.1; omega⟩
      · rw [if_neg c2]
        exact ⟨fun _ => ⟨h, by simp, c2, c1⟩, fun _ => rfl⟩
    · rw [if_neg c1]
      constructor
      · intro h5; cases h5
      · rintro ⟨x, hx, h1, h2⟩
        exfalso
        rcases List.mem_cons.1 hx with rfl | hx
        · exact c1 h2
        · have h5 := rs_inn D _ r4 x hx; omega
theorem sayD_hd : ∀ (D : List Tr) (g : Tr) (b : Nat) (x : Tr) (R : List Tr), Rs b D → (∀ y ∈ D, g.1 ≤ y.2.1) → g.1 ≤ g.2.1 → sayD D g = some (x, R) → ∀ d r, Hd d r (x :: R) ↔ Hd d r D ∨ (d = g.2.2 ∧ g.1 ≤ r ∧ r ≤ g.2.1)
  | [], g, b, x, R, _, _, _, he, d, r => by
    simp only [sayD, Option.some.injEq, Prod.mk.injEq] at he
    obtain ⟨rfl, rfl⟩ := he
    rw [hd_cons]
    constructor
    · rintro (⟨h1, h2⟩ | h)
      · exact .inr ⟨h1.symm, h2⟩
      · exact .inl h
    · rintro (h | ⟨h1, h2⟩)
      · exact .inr h
      · exact .inl ⟨h1.symm, h2⟩
  | h :: D, g, b, x, R, hR, hy, h2, he, d, r => by
    obtain ⟨r1, r2, r3, r4⟩ := hR
    have hh := hy h (by simp)
    unfold sayD at he
    by_cases c1 : h.1 ≤ g.2.1
    · rw [if_pos c1] at he
      by_cases c2 : h.2.2 = g.2.2
      · rw [if_pos c2] at he
        have ih := sayD_hd D (min g.1 h.1, max g.2.1 h.2.1, g.2.2) _ x R r4 (fun y hq => by have h5 := hy y (by simp [hq]); show min g.1 h.1 ≤ _; omega) (by show min g.1 h.1 ≤ max g.2.1 h.2.1; omega) he d r
        rw [ih, hd_cons, c2]
        show _ ∨ (d = g.2.2 ∧ min g.1 h.1 ≤ r ∧ r ≤ max g.2.1 h.2.1) ↔ _
        constructor
        · rintro (h5 | ⟨h5, h6, h7⟩)
          · exact .inl (.inr h5)
          · by_cases h8 : h.1 ≤ r ∧ r ≤ h.2.1
            · exact .inl (.inl ⟨h5.symm, h8⟩)
            · exact .inr ⟨h5, by omega, by omega⟩
        · rintro ((⟨h5, h6, h7⟩ | h5) | ⟨h5, h6, h7⟩)
          · exact .inr ⟨h5.symm, by omega, by omega⟩
          · exact .inl h5
          · exact .inr ⟨h5, by omega, by omega⟩
      · rw [if_neg c2] at he; cases he
    · rw [if_neg c1] at he
      simp only [Option.some.injEq, Prod.mk.injEq] at he
      obtain ⟨rfl, rfl⟩ := he
      rw [hd_cons]
      constructor
      · rintro (⟨h5, h6⟩ | h5)
        · exact .inr ⟨h5.symm, h6⟩
        · exact .inl h5
      · rintro (h5 | ⟨h5, h6⟩)
        · exact .inr h5
        · exact .inl ⟨h5.symm, h6⟩
theorem sayR_none : ∀ (S : List Tr) (g : Tr) (b : Nat), Rs b S → g.1 ≤ g.2.1 → (sayR S g = none ↔ ∃ d r, d ≠ g.2.2 ∧ Hd d r S ∧ g.1 ≤ r ∧ r ≤ g.2.1)
  | [], g, b, _, _ => by
    constructor
    · intro h; cases h
    · rintro ⟨d, r, _, h, _⟩; exact absurd h (hd_nil d r)
  | h :: S, g, b, hR, hg => by
    obtain ⟨r1, r2, r3, r4⟩ := hR
    unfold sayR
    by_cases c1 : (h.2.1 : Int) < (g.1 : Int)
    · rw [if_pos c1, Option.map_eq_none_iff, sayR_none S g _ r4 hg]
      constructor
      · rintro ⟨d, r, h1, h2, h3⟩
        exact ⟨d, r, h1, (hd_cons d r h S).2 (.inr h2), h3⟩
      · rintro ⟨d, r, h1, h2, h3⟩
        rcases (hd_cons d r h S).1 h2 with h4 | h4
        · omega
        · exact ⟨d, r, h1, h4, h3⟩
    · rw [if_neg c1, Option.map_eq_none_iff, sayD_none (h :: S) g b ⟨r1, r2, r3, r4⟩]
      constructor
      · rintro ⟨x, hx, h1, h2⟩
        have h5 : g.1 ≤ x.2.1 ∧ x.1 ≤ x.2.1 := by
          rcases List.mem_cons.1 hx with rfl | hx
          · omega
          · have h6 := rs_inn S _ r4 x hx; omega
        exact ⟨x.2.2, max g.1 x.1, h1, ⟨x, hx, rfl, by omega, by omega⟩, by omega, by omega⟩
      · rintro ⟨d, r, h1, ⟨x, hx, h2, h3, h4⟩, h5, h6⟩
        exact ⟨x, hx, by rw [h2]; exact h1, by omega⟩
theorem sayR_hd : ∀ (S : List Tr) (g : Tr) (b : Nat) (S' : List Tr), Rs b S → g.1 ≤ g.2.1 → sayR S g = some S' → ∀ d r, Hd d r S' ↔ Hd d r S ∨ (d = g.2.2 ∧ g.1 ≤ r ∧ r ≤ g.2.1)
  | [], g, b, S', _, _, he, d, r => by
    simp only [sayR, Option.some.injEq] at he
    subst he
    rw [hd_cons]
    constructor
    · rintro (⟨h1, h2⟩ | h)
      · exact .inr ⟨h1.symm, h2⟩
      · exact .inl h
    · rintro (h | ⟨h1, h2⟩)
      · exact .inr h
      · exact .inl ⟨h1.symm, h2⟩
  | h :: S, g, b, S', hR, hg, he, d, r => by
    obtain ⟨r1, r2, r3, r4⟩ := hR
    unfold sayR at he
    by_cases c1 : (h.2.1 : Int) < (g.1 : Int)
    · rw [if_pos c1] at he
      cases hs : sayR S g with
      | none => rw [hs] at he; cases he
      | some T =>
        rw [hs] at he
        simp only [Option.map_some, Option.some.injEq] at he
        subst he
        rw [hd_cons, hd_cons, sayR_hd S g _ T r4 hg hs d r, or_assoc]
    · rw [if_neg c1] at he
      cases hs : sayD (h :: S) g with
      | none => rw [hs] at he; cases he
      | some x =>
        rw [hs] at he
        simp only [Option.map_some, Option.some.injEq] at he
        subst he
        exact sayD_hd (h :: S) g b x.1 x.2 ⟨r1, r2, r3, r4⟩ (fun y hy => by
          rcases List.mem_cons.1 hy with rfl | hy
          · omega
          · have h6 := rs_inn S _ r4 y hy; omega) hg hs d r
theorem isin_hd (r d : Nat) (S : List Tr) : isin (r : Int) (stc (d : Int) S) ↔ Hd d r S := by
  rw [isin_stc]
  unfold Hd
  constructor
  · rintro ⟨g, h1, h2, h3, h4⟩; exact ⟨g, h1, by omega, by omega, by omega⟩
  · rintro ⟨g, h1, h2, h3, h4⟩; exact ⟨g, h1, by omega, by omega, by omega⟩
/-- Ranges of numbers from 0 on. -/
def okR (G : List Rg) : Prop := ∀ g ∈ G, 0 ≤ g.1 ∧ g.1 ≤ g.2 ∧ g.2 ≤ 1114111
theorem sayL_none : ∀ (G : List Rg) (S : List Tr) (c : Nat), Rs 0 S → okR G → (sayL S G c = none ↔ ∃ d r : Nat, d ≠ c ∧ Hd d r S ∧ isin (r : Int) G)
  | [], S, c, _, _ => by
    constructor
    · intro h; cases h
    · rintro ⟨d, r, _, _, h⟩; exact absurd h (by simp [isin])
  | g :: G, S, c, hR, hG => by
    obtain ⟨g0, g1, g2⟩ := hG g (by simp)
    have hG' : okR G := fun x hx => hG x (by simp [hx])
    have hle : (rgT c g).1 ≤ (rgT c g).2.1 := by show g.1.toNat ≤ g.2.toNat; omega
    have hc : (rgT c g).2.2 = c := rfl
    have hin : ∀ r : Nat, isin (r : Int) (g :: G) ↔ ((rgT c g).1 ≤ r ∧ r ≤ (rgT c g).2.1) ∨ isin (r : Int) G := fun r => by
      show (_ ∨ _) ↔ (g.1.toNat ≤ r ∧ r ≤ g.2.toNat) ∨ _
      have h5 : (g.1 ≤ (r : Int) ∧ (r : Int) ≤ g.2) ↔ (g.1.toNat ≤ r ∧ r ≤ g.2.toNat) := by omega
      rw [h5]
    have h1 := sayR_none S (rgT c g) 0 hR hle
    unfold sayL
    cases hs : sayR S (rgT c g) with
    | none =>
      obtain ⟨d, r, p1, p2, p3⟩ := h1.1 hs
      exact ⟨fun _ => ⟨d, r, p1, p2, (hin r).2 (.inl p3)⟩, fun _ => rfl⟩
    | some T =>
      have hT := sayR_hd S (rgT c g) 0 T hR hle hs
      have hTR := sayR_rs S (rgT c g) 0 T hR (Nat.zero_le _) hle (by show g.2.toNat ≤ 1114111; omega) hs
      show sayL T G c = none ↔ _
      rw [sayL_none G T c hTR hG']
      constructor
      · rintro ⟨d, r, p1, p2, p3⟩
        rcases (hT d r).1 p2 with p4 | p4
        · exact ⟨d, r, p1, p4, (hin r).2 (.inr p3)⟩
        · exact absurd (p4.1.trans hc) p1
      · rintro ⟨d, r, p1, p2, p3⟩
        rcases (hin r).1 p3 with p4 | p4
        · exact absurd (h1.2 ⟨d, r, by rw [hc]; exact p1, p2, p4⟩) (by rw [hs]; simp)
        · exact ⟨d, r, p1, (hT d r).2 (.inl p2), p4⟩
theorem sayL_some : ∀ (G : List Rg) (S : List Tr) (c : Nat) (S' : List Tr), Rs 0 S → okR G → sayL S G c = some S' → Rs 0 S' ∧ ∀ d r : Nat, Hd d r S' ↔ Hd d r S ∨ (d = c ∧ isin (r : Int) G)
  | [], S, c, S', hR, _, he => by
    cases he
    exact ⟨hR, fun d r => by simp [isin]⟩
  | g :: G, S, c, S', hR, hG, he => by
    obtain ⟨g0, g1, g2⟩ := hG g (by simp)
    have hG' : okR G := fun x hx => hG x (by simp [hx])
    have hle : (rgT c g).1 ≤ (rgT c g).2.1 := by show g.1.toNat ≤ g.2.toNat; omega
    have hc : (rgT c g).2.2 = c := rfl
    have hin : ∀ r : Nat, isin (r : Int) (g :: G) ↔ ((rgT c g).1 ≤ r ∧ r ≤ (rgT c g).2.1) ∨ isin (r : Int) G := fun r => by
      show (_ ∨ _) ↔ (g.1.toNat ≤ r ∧ r ≤ g.2.toNat) ∨ _
      have h5 : (g.1 ≤ (r : Int) ∧ (r : Int) ≤ g.2) ↔ (g.1.toNat ≤ r ∧ r ≤ g.2.toNat) := by omega
      rw [h5]
    unfold sayL at he
    cases hs : sayR S (rgT c g) with
    | none => rw [hs] at he; cases he
    | some T =>
      rw [hs] at he
      have hT := sayR_hd S (rgT c g) 0 T hR hle hs
      have hTR := sayR_rs S (rgT c g) 0 T hR (Nat.zero_le _) hle (by show g.2.toNat ≤ 1114111; omega) hs
      obtain ⟨q1, q2⟩ := sayL_some G T c S' hTR hG' he
      refine ⟨q1, fun d r => ?_⟩
      rw [q2, hT, hin, hc, or_assoc]
      constructor
      · rintro (p | p | p)
        · exact .inl p
        · exact .inr ⟨p.1, .inl p.2⟩
        · exact .inr ⟨p.1, .inr p.2⟩
      · rintro (p | ⟨p, q | q⟩)
        · exact .inl p
        · exact .inr (.inl ⟨p, q⟩)
        · exact .inr (.inr ⟨p, q⟩)
end Go.Proofs.YtohhokjlgihbgaaGreatDoor
