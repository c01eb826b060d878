/- The order of ranges has no part; the ranges of a table make it anew; all counts make all numbers. -/
import Derived.Test.YtljlhlcoaajggaaLiveMathAll
namespace Go.Proofs.Ytljlhlcoaajggaa

theorem mt_sym (x g : Tr) (h1 : x.1 ≤ x.2.1) (h2 : g.1 ≤ g.2.1) : mt x g = mt g x := by
  rw [Bool.eq_iff_iff, mt_yes x g h1, mt_yes g x h2]
  constructor
  · rintro ⟨a, b⟩; exact ⟨b, a⟩
  · rintro ⟨a, b⟩; exact ⟨b, a⟩
/-- Ranges that may be so, no two of which meet. -/
def Fin (l : List Rk) : Prop := (∀ g ∈ l, okR g = true) ∧ l.Pairwise fun x y => mt (toT x) (toT y) = false
theorem flt_none : ∀ (l : List Rk) (D : List Tr) (i : Nat), flt D i l = none ↔ (∀ g ∈ l, okR g = true) ∧ (∀ g ∈ l, D.any (fun x => mt x (toT g)) = false) ∧ l.Pairwise fun x y => mt (toT x) (toT y) = false
  | [], D, i => by simp [flt]
  | g :: l, D, i => by
    have ih := flt_none l (insR (toT g) D) (i + 1)
    have hany : ∀ y, (insR (toT g) D).any (fun x => mt x y) = (mt (toT g) y || D.any (fun x => mt x y)) := fun y => by
      rw [(insR_perm (toT g) D).any_eq, List.any_cons]
    unfold flt
    by_cases hg : okR g = true
    · rw [if_pos hg]
      by_cases ha : D.any (fun x => mt x (toT g)) = true
      · rw [if_pos ha]
        constructor
        · intro h; cases h
        · rintro ⟨_, h2, _⟩
          have := h2 g (by simp)
          rw [ha] at this; cases this
      · rw [if_neg ha, ih]
        have ha' : D.any (fun x => mt x (toT g)) = false := by simpa using ha
        constructor
        · rintro ⟨h1, h2, h3⟩
          refine ⟨fun x hx => ?_, fun x hx => ?_, ?_⟩
          · rcases List.mem_cons.1 hx with rfl | hx
            · exact hg
            · exact h1 x hx
          · rcases List.mem_cons.1 hx with rfl | hx
            · exact ha'
            · have := h2 x hx
              rw [hany, Bool.or_eq_false_iff] at this
              exact this.2
          · refine List.pairwise_cons.2 ⟨fun x hx => ?_, h3⟩
            have := h2 x hx
            rw [hany, Bool.or_eq_false_iff] at this
            exact this.1
        · rintro ⟨h1, h2, h3⟩
          obtain ⟨h4, h5⟩ := List.pairwise_cons.1 h3
          refine ⟨fun x hx => h1 x (by simp [hx]), fun x hx => ?_, h5⟩
          rw [hany, Bool.or_eq_false_iff]
          exact ⟨h4 x hx, h2 x (by simp [hx])⟩
    · rw [if_neg hg]
      constructor
      · intro h; cases h
      · rintro ⟨h1, _, _⟩
        exact absurd (h1 g (by simp)) hg
theorem flt_fin (l : List Rk) : flt [] 0 l = none ↔ Fin l := by
  rw [flt_none]
  unfold Fin
  constructor
  · rintro ⟨a, _, c⟩; exact ⟨a, c⟩
  · rintro ⟨a, c⟩; exact ⟨a, fun _ _ => rfl, c⟩
theorem Fin.perm {l m : List Rk} (h : Fin l) (hp : List.Perm l m) : Fin m := by
  obtain ⟨h1, h2⟩ := h
  have h1' : ∀ g ∈ m, okR g = true := fun g hg => h1 g (hp.mem_iff.2 hg)
  refine ⟨h1', ?_⟩
  have h3 : l.Pairwise fun x y => okR x = true ∧ okR y = true ∧ mt (toT x) (toT y) = false := by
    refine List.Pairwise.imp_of_mem (fun ha hb h => ⟨h1 _ ha, h1 _ hb, h⟩) h2
  have h4 := (hp.pairwise_iff (fun {x y} (h : okR x = true ∧ okR y = true ∧ mt (toT x) (toT y) = false) => ⟨h.2.1, h.1, by rw [mt_sym _ _ (toT_ok h.2.1).1 (toT_ok h.1).1]; exact h.2.2⟩)).1 h3
  exact h4.imp fun h => h.2.2
theorem srt_perm : ∀ (l : List Rk) (D : List Tr), List.Perm (srt D l) (D ++ l.map toT)
  | [], D => by simp [srt]
  | g :: l, D => by
    have ih := srt_perm l (insR (toT g) D)
    show List.Perm (srt (insR (toT g) D) l) _
    refine ih.trans ?_
    refine ((insR_perm (toT g) D).append_right _).trans ?_
    show List.Perm (toT g :: D ++ l.map toT) (D ++ (toT g :: l.map toT))
    exact List.perm_middle.symm
theorem ris_one : ∀ (A B : List Tr) (b c : Nat), Ris b A → Ris c B → List.Perm A B → A = B
  | [], B, _, _, _, _, h => (List.nil_perm.1 h).symm
  | x :: A, [], _, _, _, _, h => by simpa using h.length_eq
  | x :: A, y :: B, b, c, h1, h2, h => by
    obtain ⟨a1, a2, a3, a4, a5⟩ := h1
    obtain ⟨b1, b2, b3, b4, b5⟩ := h2
    have hxy : x = y := by
      have hx : x ∈ y :: B := h.mem_iff.1 (by simp)
      have hy : y ∈ x :: A := h.mem_iff.2 (by simp)
      rcases List.mem_cons.1 hx with e | hx
      · exact e
      · rcases List.mem_cons.1 hy with e | hy
        · exact e.symm
        · have p1 := ris_mem a5 y hy
          have p2 := ris_mem b5 x hx
          omega
    subst hxy
    rw [ris_one A B _ _ a5 b5 ((List.perm_cons x).1 h)]
theorem srt_same {l m : List Rk} (h : flt [] 0 l = none) (hp : List.Perm l m) : flt [] 0 m = none ∧ srt [] m = srt [] l := by
  have hm : flt [] 0 m = none := (flt_fin m).2 (((flt_fin l).1 h).perm hp)
  refine ⟨hm, ?_⟩
  refine ris_one _ _ 0 0 (srt_ris m [] 0 trivial hm) (srt_ris l [] 0 trivial h) ?_
  exact (srt_perm m []).trans (((hp.symm).map toT).trans (srt_perm l []).symm)
theorem toT_rkT (g : Tr) : toT (rkT g) = g := by
  obtain ⟨a, b, c⟩ := g
  simp [toT, rkT]
theorem okR_rkT {g : Tr} (h1 : g.1 ≤ g.2.1) (h2 : g.2.1 ≤ 1114111) (h3 : g.2.2 < 256) : okR (rkT g) = true := by
  rw [okR_iff]
  unfold rkT
  dsimp only
  omega
theorem ris_fin : ∀ (A : List Tr) (b : Nat), Ris b A → Fin (A.map rkT)
  | [], _, _ => ⟨fun _ h => (by cases h), List.Pairwise.nil⟩
  | g :: A, b, h => by
    obtain ⟨h1, h2, h3, h4, h5⟩ := h
    obtain ⟨i1, i2⟩ := ris_fin A _ h5
    refine ⟨fun x hx => ?_, ?_⟩
    · rcases List.mem_cons.1 hx with rfl | hx
      · exact okR_rkT h2 h3 h4
      · exact i1 x hx
    · refine List.pairwise_cons.2 ⟨fun x hx => ?_, i2⟩
      obtain ⟨y, hy, rfl⟩ := List.mem_map.1 hx
      rw [toT_rkT, toT_rkT]
      have hm := ris_mem h5 y hy
      cases hmt : mt g y with
      | false => rfl
      | true =>
        have := (mt_yes g y h2).1 hmt
        omega
theorem srt_self (A : List Tr) (h : Ris 0 A) : flt [] 0 (A.map rkT) = none ∧ srt [] (A.map rkT) = A := by
  have h1 := (flt_fin _).2 (ris_fin A 0 h)
  refine ⟨h1, ris_one _ _ 0 0 (srt_ris _ [] 0 trivial h1) h ?_⟩
  have := srt_perm (A.map rkT) []
  rw [List.nil_append, List.map_map] at this
  have e : A.map (toT ∘ rkT) = A := by
    conv => rhs; rw [← List.map_id A]
    apply List.map_congr_left
    intro x _
    exact toT_rkT x
  rw [e] at this
  exact this
/-! How many ranges. -/
def cps (r : Nat) : Nat → List Tr → List (Nat × Nat)
  | _, [] => []
  | b, g :: l => (g.1 - b, r) :: (g.2.1 + 1 - g.1, g.2.2) :: cps r (g.2.1 + 1) l
theorem clq_pcs (r : Nat) : ∀ (A : List Tr) (b : Nat), clq r b A = pcs (cps r b A)
  | [], _ => rfl
  | g :: A, b => by
    show List.replicate (g.1 - b) r ++ (List.replicate (g.2.1 + 1 - g.1) g.2.2 ++ clq r (g.2.1 + 1) A) = _
    rw [clq_pcs r A]
    rfl
theorem cps_len (r : Nat) : ∀ (A : List Tr) (b : Nat), (cps r b A).length = 2 * A.length
  | [], _ => rfl
  | g :: A, b => by
    show (cps r (g.2.1 + 1) A).length + 1 + 1 = _
    rw [cps_len r A, List.length_cons]; omega
theorem rlP_len : ∀ (ps : List (Nat × Nat)) (b : Nat) (o : List Tr), (rlP b o ps).length ≤ o.length + ps.length
  | [], _, _ => by simp [rlP]
  | p :: ps, b, o => by
    have h1 := rlP_len ps (b + p.1) (if p.1 = 0 then o else jn o (b, b + (p.1 - 1), p.2))
    have h2 := jn_len o (b, b + (p.1 - 1), p.2)
    show (rlP (b + p.1) (if p.1 = 0 then o else jn o (b, b + (p.1 - 1), p.2)) ps).length ≤ _
    rw [List.length_cons]
    split at h1 <;> rename_i hc
    · rw [if_pos hc]; omega
    · rw [if_neg hc]; omega
theorem rgs_len (r : Nat) (A : List Tr) : (rgs r (clA r A)).length ≤ 2 * A.length + 1 := by
  have e : clA r A = pcs (cps r 0 A ++ [(1114112 - (clq r 0 A).length, r)]) := by
    unfold clA
    rw [clq_pcs]
    unfold pcs
    rw [List.flatMap_append]
    simp
  unfold rgs
  have h1 := fil_len r (rlA 0 [] (clA r A))
  rw [e, rlA_pcs] at h1 ⊢
  have h2 := rlP_len (cps r 0 A ++ [(1114112 - (clq r 0 A).length, r)]) 0 []
  rw [List.length_append, cps_len] at h2
  simp at h2
  omega
/-! There and back. -/
theorem clq_snoc (r : Nat) : ∀ (P : List Tr) (b : Nat) (g : Tr), clq r b (P ++ [g]) = clq r b P ++ (List.replicate (g.1 - endR b P) r ++ List.replicate (g.2.1 + 1 - g.1) g.2.2)
  | [], b, g => by
    show List.replicate (g.1 - b) r ++ (List.replicate (g.2.1 + 1 - g.1) g.2.2 ++ []) = _
    rw [List.append_nil]; rfl
  | x :: P, b, g => by
    have he : endR b (x :: P) = endR (x.2.1 + 1) P := by
      unfold endR
      cases P with
      | nil => rfl
      | cons y P => rfl
    rw [he]
    show List.replicate (x.1 - b) r ++ (List.replicate (x.2.1 + 1 - x.1) x.2.2 ++ clq r (x.2.1 + 1) (P ++ [g])) = _
    rw [clq_snoc r P]
    show _ = (List.replicate (x.1 - b) r ++ (List.replicate (x.2.1 + 1 - x.1) x.2.2 ++ clq r (x.2.1 + 1) P)) ++ _
    simp only [List.append_assoc]
theorem clq_end (r : Nat) : ∀ (P : List Tr) (b : Nat), Ris b P → b + (clq r b P).length = endR b P
  | [], b, _ => rfl
  | x :: P, b, h => by
    obtain ⟨h1, h2, h3, h4, h5⟩ := h
    have ih := clq_end r P (x.2.1 + 1) h5
    have he : endR b (x :: P) = endR (x.2.1 + 1) P := by
      unfold endR
      cases P with
      | nil => rfl
      | cons y P => rfl
    rw [he, ← ih]
    show b + (List.replicate (x.1 - b) r ++ (List.replicate (x.2.1 + 1 - x.1) x.2.2 ++ clq r (x.2.1 + 1) P)).length = _
    simp only [List.length_append, List.length_replicate]
    omega
theorem fil_snoc_no {r : Nat} {L : List Tr} {g : Tr} (h : g.2.2 = r) : fil r (L ++ [g]) = fil r L := by rw [fil_app, fil_one_no h, List.append_nil]
theorem fil_snoc_yes {r : Nat} {L : List Tr} {g : Tr} (h : g.2.2 ≠ r) : fil r (L ++ [g]) = fil r L ++ [g] := by rw [fil_app, fil_one_yes h]
theorem back_all (r : Nat) : ∀ (n : Nat) (C : List Nat), C.length = n → n ≤ 1114112 → (∀ c ∈ C, c < 256) → clq r 0 (fil r (rlA 0 [] C)) ++ List.replicate (n - (clq r 0 (fil r (rlA 0 [] C))).length) r = C ∧ (clq r 0 (fil r (rlA 0 [] C))).length ≤ n
  | 0, C, h, _, _ => by
    have : C = [] := List.length_eq_zero_iff.1 h
    subst this
    exact ⟨rfl, Nat.le_refl _⟩
  | n + 1, C, h, hn, hc => by
    rcases List.eq_nil_or_concat C with rfl | ⟨D, c, rfl⟩
    · simp at h
    · rw [List.concat_eq_append] at h hc ⊢
      have hl : D.length = n := by simpa using h
      have hcD : ∀ x ∈ D, x < 256 := fun x hx => hc x (by simp [hx])
      obtain ⟨ih, ihl⟩ := back_all r n D hl (by omega) hcD
      obtain ⟨hR, hE⟩ := rlA_ris n D hl (by omega) hcD
      have hfR := ris_fil r _ 0 hR
      have hfe := clq_end r _ 0 hfR
      rw [rlA_snoc, Nat.zero_add, hl]
      have key : ∀ k, k ≤ n → List.replicate (n + 1 - k) r = List.replicate (n - k) r ++ [r] := fun k hk => by
        rw [show n + 1 - k = (n - k) + 1 by omega, List.replicate_succ']
      rcases List.eq_nil_or_concat (rlA 0 [] D) with h2 | ⟨Q, z, h2⟩
      · have hn0 : n = 0 := by rw [h2] at hE; exact hE.symm
        subst hn0
        have hD0 : D = [] := List.length_eq_zero_iff.1 hl
        subst hD0
        rw [h2, jn_nil]
        by_cases hcr : c = r
        · have e : fil r [((0 : Nat), (0 : Nat), c)] = [] := fil_one_no hcr
          rw [e, hcr]; exact ⟨rfl, Nat.zero_le _⟩
        · have e : fil r [((0 : Nat), (0 : Nat), c)] = [(0, 0, c)] := fil_one_yes hcr
          rw [e]; exact ⟨rfl, Nat.le_refl _⟩
      · rw [List.concat_eq_append] at h2
        rw [h2] at ih ihl hR hE hfR hfe ⊢
        rw [endR_snoc] at hE
        obtain ⟨a1, a2, a3, a4, a5⟩ := (ris_snoc Q 0 z).1 hR
        rw [jn_snoc]
        by_cases hzc : z.2.2 = c
        · rw [if_pos hzc]
          by_cases hcr : c = r
          · have e1 : fil r (Q ++ [(z.1, n, c)]) = fil r Q := fil_snoc_no hcr
            have e2 : fil r (Q ++ [z]) = fil r Q := fil_snoc_no (hzc.trans hcr)
            rw [e2] at ih ihl
            rw [e1]
            refine ⟨?_, by omega⟩
            rw [key _ ihl, ← List.append_assoc, ih, hcr]
          · have e1 : fil r (Q ++ [(z.1, n, c)]) = fil r Q ++ [(z.1, n, c)] := fil_snoc_yes hcr
            have e2 : fil r (Q ++ [z]) = fil r Q ++ [z] := fil_snoc_yes (by rw [hzc]; exact hcr)
            rw [e2] at ih ihl hfe hfR
            rw [e1]
            have hqe := clq_end r (fil r Q) 0 (ris_fil r Q 0 a1)
            have hqz := (ris_snoc (fil r Q) 0 z).1 hfR
            rw [clq_snoc] at ih ihl ⊢
            simp only [List.length_append, List.length_replicate] at ih ihl ⊢
            have hz0 : n - ((clq r 0 (fil r Q)).length + (z.1 - endR 0 (fil r Q) + (z.2.1 + 1 - z.1))) = 0 := by omega
            rw [hz0, List.replicate_zero, List.append_nil] at ih
            refine ⟨?_, by omega⟩
            rw [show n + 1 - ((clq r 0 (fil r Q)).length + (z.1 - endR 0 (fil r Q) + (n + 1 - z.1))) = 0 by omega, List.replicate_zero, List.append_nil]
            rw [← ih, show n + 1 - z.1 = (z.2.1 + 1 - z.1) + 1 by omega, List.replicate_succ', hzc]
            simp only [List.append_assoc]
        · rw [if_neg hzc, show Q ++ [z, (n, n, c)] = (Q ++ [z]) ++ [(n, n, c)] by simp]
          by_cases hcr : c = r
          · have e1 : fil r ((Q ++ [z]) ++ [(n, n, c)]) = fil r (Q ++ [z]) := fil_snoc_no hcr
            rw [e1]
            refine ⟨?_, by omega⟩
            rw [key _ ihl, ← List.append_assoc, ih, hcr]
          · have e1 : fil r ((Q ++ [z]) ++ [(n, n, c)]) = fil r (Q ++ [z]) ++ [(n, n, c)] := fil_snoc_yes hcr
            rw [e1, clq_snoc]
            simp only [List.length_append, List.length_replicate]
            refine ⟨?_, by omega⟩
            rw [show n + 1 - ((clq r 0 (fil r (Q ++ [z]))).length + (n - endR 0 (fil r (Q ++ [z])) + (n + 1 - n))) = 0 by omega, List.replicate_zero, List.append_nil]
            rw [show n - endR 0 (fil r (Q ++ [z])) = n - (clq r 0 (fil r (Q ++ [z]))).length by omega, ← List.append_assoc, ih, show n + 1 - n = 1 by omega]
            rfl
theorem clA_rgs (r : Nat) (C : List Nat) (h : C.length = 1114112) (hc : ∀ c ∈ C, c < 256) : clA r (rgs r C) = C := (back_all r 1114112 C h (Nat.le_refl _) hc).1
/-! All counts. -/
def cb (k : Nat) (C : List Nat) : Nat := C.countP fun c => decide (c < k)
theorem cb_next (k : Nat) : ∀ C : List Nat, cb (k + 1) C = cb k C + cz (k : Int) C
  | [] => rfl
  | c :: C => by
    have ih := cb_next k C
    unfold cb cz at ih ⊢
    rw [List.countP_cons, List.countP_cons, List.countP_cons, ih]
    by_cases h1 : c < k
    · have e1 : decide (c < k + 1) = true := decide_eq_true (by omega)
      have e2 : decide (c < k) = true := decide_eq_true h1
      have e3 : decide ((c : Int) = (k : Int)) = false := decide_eq_false (by omega)
      rw [e1, e2, e3]; simp; omega
    · by_cases h2 : c = k
      · have e1 : decide (c < k + 1) = true := decide_eq_true (by omega)
        have e2 : decide (c < k) = false := decide_eq_false h1
        have e3 : decide ((c : Int) = (k : Int)) = true := decide_eq_true (by omega)
        rw [e1, e2, e3]; simp; omega
      · have e1 : decide (c < k + 1) = false := decide_eq_false (by omega)
        have e2 : decide (c < k) = false := decide_eq_false h1
        have e3 : decide ((c : Int) = (k : Int)) = false := decide_eq_false (by omega)
        rw [e1, e2, e3]; simp
theorem cb_zero (C : List Nat) : cb 0 C = 0 := by unfold cb; simp
theorem cb_all (C : List Nat) (h : ∀ c ∈ C, c < 256) : cb 256 C = C.length := by
  unfold cb
  rw [List.countP_eq_length]
  intro c hc
  exact decide_eq_true (h c hc)
end Go.Proofs.Ytljlhlcoaajggaa
