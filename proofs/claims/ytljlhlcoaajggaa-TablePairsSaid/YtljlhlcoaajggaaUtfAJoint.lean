/- The order of ranges has no part; the ranges of a table make it anew; all counts make all numbers. -/
import Derived.Test.YtljlhlcoaajggaaLiveMath
import Derived.Test.YtljlhlcoaajggaaDelete
import Derived.Test.YtljlhlcoaajggaaLive
import Derived.Test.YtljlhlcoaajggaaLoad
import Derived.Deep.RegionHeld3
import Derived.Test.YtljlhlcoaajggaaSmall
import Derived.Test.YtljlhlcoaajggaaReadN
import Derived.Test.YtljlhlcoaajggaaBuilds
import Derived.DeepKeys3
import Derived.Test.YtljlhlcoaajggaaFresh
import Derived.Test.YtljlhlcoaajggaaHeld2
import Derived.Test.YtljlhlcoaajggaaTbl2
import Derived.Test.YtljlhlcoaajggaaWhole2
import Derived.Shelf.Small.Utf8
import Derived.Shelf.Utf8.RuneCount
import Derived.Shelf.Strings.RuneCount
import Derived.Lib.DecodeN
import Derived.Shelf.Unicode.DecodeSlow
import Derived.Deep.AppendLies
import Derived.Lib.MapLaws
import Derived.Test.YtljlhlcoaajggaaNum
namespace Go.Proofs.Ytljlhlcoaajggaa

theorem mt_sym (x g : Tr) (h1 : x.1 ≤ x.2.1) (h2 : g.1 ≤ g.2.1) : mt x g = mt g x := by
  rw [Bool.eq_iff_iff, mt_yes x g h1, mt_yes g x h2]
  constructor
  · rintro ⟨a, b⟩; exact ⟨b, a⟩
  · rintro ⟨a, b⟩; exact ⟨b, a⟩
/-- Ranges that may be so, no two of which meet. -/
def Fin (l : List Rk) : Prop := (∀ g ∈ l, okR g = true) ∧ l.Pairwise fun x y => mt (toT x) (toT y) = false
theorem flt_none : ∀ (l : List Rk) (D : List Tr) (i : Nat), flt D i l = none ↔ (∀ g ∈ l, okR g = true) ∧ (∀ g ∈ l, D.any (fun x => mt x (toT g)) = false) ∧ l.Pairwise fun x y => mt (toT x) (toT y) = false
  | [], D, i => by simp [flt]
  | g :: l, D, i => by
    have ih := flt_none l (insR (toT g) D) (i + 1)
    have hany : ∀ y, (insR (toT g) D).any (fun x => mt x y) = (mt (toT g) y || D.any (fun x => mt x y)) := fun y => by
      rw [(insR_perm (toT g) D).any_eq, List.any_cons]
    unfold flt
    by_cases hg : okR g = true
    · rw [if_pos hg]
      by_cases ha : D.any (fun x => mt x (toT g)) = true
      · rw [if_pos ha]
        constructor
        · intro h; cases h
        · rintro ⟨_, h2, _⟩
          have := h2 g (by simp)
          rw [ha] at this; cases this
      · rw [if_neg ha, ih]
        have ha' : D.any (fun x => mt x (toT g)) = false := by simpa using ha
        constructor
        · rintro ⟨h1, h2, h3⟩
          refine ⟨fun x hx => ?_, fun x hx => ?_, ?_⟩
          · rcases List.mem_cons.1 hx with rfl | hx
            · exact hg
            · exact h1 x hx
          · rcases List.mem_cons.1 hx with rfl | hx
            · exact ha'
            · have := h2 x hx
              rw [hany, Bool.or_eq_false_iff] at this
              exact this.2
          · refine List.pairwise_cons.2 ⟨fun x hx => ?_, h3⟩
            have := h2 x hx
            rw [hany, Bool.or_eq_false_iff] at this
            exact this.1
        · rintro ⟨h1, h2, h3⟩
          obtain ⟨h4, h5⟩ := List.pairwise_cons.1 h3
          refine ⟨fun x hx => h1 x (by simp [hx]), fun x hx => ?_, h5⟩
          rw [hany, Bool.or_eq_false_iff]
          exact ⟨h4 x hx, h2 x (by simp [hx])⟩
    · rw [if_neg hg]
      constructor
      · intro h; cases h
      · rintro ⟨h1, _, _⟩
        exact absurd (h1 g (by simp)) hg
theorem flt_fin (l : List Rk) : flt [] 0 l = none ↔ Fin l := by
  rw [flt_none]
  unfold Fin
  constructor
  · rintro ⟨a, _, c⟩; exact ⟨a, c⟩
  · rintro ⟨a, c⟩; exact ⟨a, fun _ _ => rfl, c⟩
theorem Fin.perm {l m : List Rk} (h : Fin l) (hp : List.Perm l m) : Fin m := by
  obtain ⟨h1, h2⟩ := h
  have h1' : ∀ g ∈ m, okR g = true := fun g hg => h1 g (hp.mem_iff.2 hg)
  refine ⟨h1', ?_⟩
  have h3 : l.Pairwise fun x y => okR x = true ∧ okR y = true ∧ mt (toT x) (toT y) = false := by
    refine List.Pairwise.imp_of_mem (fun ha hb h => ⟨h1 _ ha, h1 _ hb, h⟩) h2
  have h4 := (hp.pairwise_iff (fun {x y} (h : okR x = true ∧ okR y = true ∧ mt (toT x) (toT y) = false) => ⟨h.2.1, h.1, by rw [mt_sym _ _ (toT_ok h.2.1).1 (toT_ok h.1).1]; exact h.2.2⟩)).1 h3
  exact h4.imp fun h => h.2.2
theorem srt_perm : ∀ (l : List Rk) (D : List Tr), List.Perm (srt D l) (D ++ l.map toT)
  | [], D => by simp [srt]
  | g :: l, D => by
    have ih := srt_perm l (insR (toT g) D)
    show List.Perm (srt (insR (toT g) D) l) _
    refine ih.trans ?_
    refine ((insR_perm (toT g) D).append_right _).trans ?_
    show List.Perm (toT g :: D ++ l.map toT) (D ++ (toT g :: l.map toT))
    exact List.perm_middle.symm
theorem ris_one : ∀ (A B : List Tr) (b c : Nat), Ris b A → Ris c B → List.Perm A B → A = B
  | [], B, _, _, _, _, h => (List.nil_perm.1 h).symm
  | x :: A, [], _, _, _, _, h => by simpa using h.length_eq
  | x :: A, y :: B, b, c, h1, h2, h => by
    obtain ⟨a1, a2, a3, a4, a5⟩ := h1
    obtain ⟨b1, b2, b3, b4, b5⟩ := h2
    have hxy : x = y := by
      have hx : x ∈ y :: B := h.mem_iff.1 (by simp)
      have hy : y ∈ x :: A := h.mem_iff.2 (by simp)
      rcases List.mem_cons.1 hx with e | hx
      · exact e
      · rcases List.mem_cons.1 hy with e | hy
        · exact e.symm
        · have p1 := ris_mem a5 y hy
          have p2 := ris_mem b5 x hx
          omega
    subst hxy
    rw [ris_one A B _ _ a5 b5 ((List.perm_cons x).1 h)]
theorem srt_same {l m : List Rk} (h : flt [] 0 l = none) (hp : List.Perm l m) : flt [] 0 m = none ∧ srt [] m = srt [] l := by
  have hm : flt [] 0 m = none := (flt_fin m).2 (((flt_fin l).1 h).perm hp)
  refine ⟨hm, ?_⟩
  refine ris_one _ _ 0 0 (srt_ris m [] 0 trivial hm) (srt_ris l [] 0 trivial h) ?_
  exact (srt_perm m []).trans (((hp.symm).map toT).trans (srt_perm l []).symm)
theorem toT_rkT (g : Tr) : toT (rkT g) = g := by
  obtain ⟨a, b, c⟩ := g
  simp [toT, rkT]
theorem okR_rkT {g : Tr} (h1 : g.1 ≤ g.2.1) (h2 : g.2.1 ≤ 1114111) (h3 : g.2.2 < 256) : okR (rkT g) = true := by
  rw [okR_iff]
  unfold rkT
  dsimp only
  omega
theorem ris_fin : ∀ (A : List Tr) (b : Nat), Ris b A → Fin (A.map rkT)
  | [], _, _ => ⟨fun _ h => (by cases h), List.Pairwise.nil⟩
  | g :: A, b, h => by
    obtain ⟨h1, h2, h3, h4, h5⟩ := h
    obtain ⟨i1, i2⟩ := ris_fin A _ h5
    refine ⟨fun x hx => ?_, ?_⟩
    · rcases List.mem_cons.1 hx with rfl | hx
      · exact okR_rkT h2 h3 h4
      · exact i1 x hx
    · refine List.pairwise_cons.2 ⟨fun x hx => ?_, i2⟩
      obtain ⟨y, hy, rfl⟩ := List.mem_map.1 hx
      rw [toT_rkT, toT_rkT]
      have hm := ris_mem h5 y hy
      cases hmt : mt g y with
      | false => rfl
      | true =>
        have := (mt_yes g y h2).1 hmt
        omega
theorem srt_self (A : List Tr) (h : Ris 0 A) : flt [] 0 (A.map rkT) = none ∧ srt [] (A.map rkT) = A := by
  have h1 := (flt_fin _).2 (ris_fin A 0 h)
  refine ⟨h1, ris_one _ _ 0 0 (srt_ris _ [] 0 trivial h1) h ?_⟩
  have := srt_perm (A.map rkT) []
  rw [List.nil_append, List.map_map] at this
  have e : A.map (toT ∘ rkT) = A := by
    conv => rhs; rw [← List.map_id A]
    apply List.map_congr_left
    intro x _
    exact toT_rkT x
  rw [e] at this
  exact this
/-! How many ranges. -/
def cps (r : Nat) : Nat → List Tr → List (Nat × Nat)
  | _, [] => []
  | b, g :: l => (g.1 - b, r) :: (g.2.1 + 1 - g.1, g.2.2) :: cps r (g.2.1 + 1) l
theorem clq_pcs (r : Nat) : ∀ (A : List Tr) (b : Nat), clq r b A = pcs (cps r b A)
  | [], _ => rfl
  | g :: A, b => by
    show List.replicate (g.1 - b) r ++ (List.replicate (g.2.1 + 1 - g.1) g.2.2 ++ clq r (g.2.1 + 1) A) = _
    rw [clq_pcs r A]
    rfl
theorem cps_len (r : Nat) : ∀ (A : List Tr) (b : Nat), (cps r b A).length = 2 * A.length
  | [], _ => rfl
  | g :: A, b => by
    show (cps r (g.2.1 + 1) A).length + 1 + 1 = _
    rw [cps_len r A, List.length_cons]; omega
theorem rlP_len : ∀ (ps : List (Nat × Nat)) (b : Nat) (o : List Tr), (rlP b o ps).length ≤ o.length + ps.length
  | [], _, _ => by simp [rlP]
  | p :: ps, b, o => by
    have h1 := rlP_len ps (b + p.1) (if p.1 = 0 then o else jn o (b, b + (p.1 - 1), p.2))
    have h2 := jn_len o (b, b + (p.1 - 1), p.2)
    show (rlP (b + p.1) (if p.1 = 0 then o else jn o (b, b + (p.1 - 1), p.2)) ps).length ≤ _
    rw [List.length_cons]
    split at h1 <;> rename_i hc
    · rw [if_pos hc]; omega
    · rw [if_neg hc]; omega
theorem rgs_len (r : Nat) (A : List Tr) : (rgs r (clA r A)).length ≤ 2 * A.length + 1 := by
  have e : clA r A = pcs (cps r 0 A ++ [(1114112 - (clq r 0 A).length, r)]) := by
    unfold clA
    rw [clq_pcs]
    unfold pcs
    rw [List.flatMap_append]
    simp
  unfold rgs
  have h1 := fil_len r (rlA 0 [] (clA r A))
  rw [e, rlA_pcs] at h1 ⊢
  have h2 := rlP_len (cps r 0 A ++ [(1114112 - (clq r 0 A).length, r)]) 0 []
  rw [List.length_append, cps_len] at h2
  simp at h2
  omega
/-! There and back. -/
theorem clq_snoc (r : Nat) : ∀ (P : List Tr) (b : Nat) (g : Tr), clq r b (P ++ [g]) = clq r b P ++ (List.replicate (g.1 - endR b P) r ++ List.replicate (g.2.1 + 1 - g.1) g.2.2)
  | [], b, g => by
    show List.replicate (g.1 - b) r ++ (List.replicate (g.2.1 + 1 - g.1) g.2.2 ++ []) = _
    rw [List.append_nil]; rfl
  | x :: P, b, g => by
    have he : endR b (x :: P) = endR (x.2.1 + 1) P := by
      unfold endR
      cases P with
      | nil => rfl
      | cons y P => rfl
    rw [he]
    show List.replicate (x.1 - b) r ++ (List.replicate (x.2.1 + 1 - x.1) x.2.2 ++ clq r (x.2.1 + 1) (P ++ [g])) = _
    rw [clq_snoc r P]
    show _ = (List.replicate (x.1 - b) r ++ (List.replicate (x.2.1 + 1 - x.1) x.2.2 ++ clq r (x.2.1 + 1) P)) ++ _
    simp only [List.append_assoc]
theorem clq_end (r : Nat) : ∀ (P : List Tr) (b : Nat), Ris b P → b + (clq r b P).length = endR b P
  | [], b, _ => rfl
  | x :: P, b, h => by
    obtain ⟨h1, h2, h3, h4, h5⟩ := h
    have ih := clq_end r P (x.2.1 + 1) h5
    have he : endR b (x :: P) = endR (x.2.1 + 1) P := by
      unfold endR
      cases P with
      | nil => rfl
      | cons y P => rfl
    rw [he, ← ih]
    show b + (List.replicate (x.1 - b) r ++ (List.replicate (x.2.1 + 1 - x.1) x.2.2 ++ clq r (x.2.1 + 1) P)).length = _
    simp only [List.length_append, List.length_replicate]
    omega
theorem fil_snoc_no {r : Nat} {L : List Tr} {g : Tr} (h : g.2.2 = r) : fil r (L ++ [g]) = fil r L := by rw [fil_app, fil_one_no h, List.append_nil]
theorem fil_snoc_yes {r : Nat} {L : List Tr} {g : Tr} (h : g.2.2 ≠ r) : fil r (L ++ [g]) = fil r L ++ [g] := by rw [fil_app, fil_one_yes h]
theorem back_all (r : Nat) : ∀ (n : Nat) (C : List Nat), C.length = n → n ≤ 1114112 → (∀ c ∈ C, c < 256) → clq r 0 (fil r (rlA 0 [] C)) ++ List.replicate (n - (clq r 0 (fil r (rlA 0 [] C))).length) r = C ∧ (clq r 0 (fil r (rlA 0 [] C))).length ≤ n
  | 0, C, h, _, _ => by
    have : C = [] := List.length_eq_zero_iff.1 h
    subst this
    exact ⟨rfl, Nat.le_refl _⟩
  | n + 1, C, h, hn, hc => by
    rcases List.eq_nil_or_concat C with rfl | ⟨D, c, rfl⟩
    · simp at h
    · rw [List.concat_eq_append] at h hc ⊢
      have hl : D.length = n := by simpa using h
      have hcD : ∀ x ∈ D, x < 256 := fun x hx => hc x (by simp [hx])
      obtain ⟨ih, ihl⟩ := back_all r n D hl (by omega) hcD
      obtain ⟨hR, hE⟩ := rlA_ris n D hl (by omega) hcD
      have hfR := ris_fil r _ 0 hR
      have hfe := clq_end r _ 0 hfR
      rw [rlA_snoc, Nat.zero_add, hl]
      have key : ∀ k, k ≤ n → List.replicate (n + 1 - k) r = List.replicate (n - k) r ++ [r] := fun k hk => by
        rw [show n + 1 - k = (n - k) + 1 by omega, List.replicate_succ']
      rcases List.eq_nil_or_concat (rlA 0 [] D) with h2 | ⟨Q, z, h2⟩
      · have hn0 : n = 0 := by rw [h2] at hE; exact hE.symm
        subst hn0
        have hD0 : D = [] := List.length_eq_zero_iff.1 hl
        subst hD0
        rw [h2, jn_nil]
        by_cases hcr : c = r
        · have e : fil r [((0 : Nat), (0 : Nat), c)] = [] := fil_one_no hcr
          rw [e, hcr]; exact ⟨rfl, Nat.zero_le _⟩
        · have e : fil r [((0 : Nat), (0 : Nat), c)] = [(0, 0, c)] := fil_one_yes hcr
          rw [e]; exact ⟨rfl, Nat.le_refl _⟩
      · rw [List.concat_eq_append] at h2
        rw [h2] at ih ihl hR hE hfR hfe ⊢
        rw [endR_snoc] at hE
        obtain ⟨a1, a2, a3, a4, a5⟩ := (ris_snoc Q 0 z).1 hR
        rw [jn_snoc]
        by_cases hzc : z.2.2 = c
        · rw [if_pos hzc]
          by_cases hcr : c = r
          · have e1 : fil r (Q ++ [(z.1, n, c)]) = fil r Q := fil_snoc_no hcr
            have e2 : fil r (Q ++ [z]) = fil r Q := fil_snoc_no (hzc.trans hcr)
            rw [e2] at ih ihl
            rw [e1]
            refine ⟨?_, by omega⟩
            rw [key _ ihl, ← List.append_assoc, ih, hcr]
          · have e1 : fil r (Q ++ [(z.1, n, c)]) = fil r Q ++ [(z.1, n, c)] := fil_snoc_yes hcr
            have e2 : fil r (Q ++ [z]) = fil r Q ++ [z] := fil_snoc_yes (by rw [hzc]; exact hcr)
            rw [e2] at ih ihl hfe hfR
            rw [e1]
            have hqe := clq_end r (fil r Q) 0 (ris_fil r Q 0 a1)
            have hqz := (ris_snoc (fil r Q) 0 z).1 hfR
            rw [clq_snoc] at ih ihl ⊢
            simp only [List.length_append, List.length_replicate] at ih ihl ⊢
            have hz0 : n - ((clq r 0 (fil r Q)).length + (z.1 - endR 0 (fil r Q) + (z.2.1 + 1 - z.1))) = 0 := by omega
            rw [hz0, List.replicate_zero, List.append_nil] at ih
            refine ⟨?_, by omega⟩
            rw [show n + 1 - ((clq r 0 (fil r Q)).length + (z.1 - endR 0 (fil r Q) + (n + 1 - z.1))) = 0 by omega, List.replicate_zero, List.append_nil]
            rw [← ih, show n + 1 - z.1 = (z.2.1 + 1 - z.1) + 1 by omega, List.replicate_succ', hzc]
            simp only [List.append_assoc]
        · rw [if_neg hzc, show Q ++ [z, (n, n, c)] = (Q ++ [z]) ++ [(n, n, c)] by simp]
          by_cases hcr : c = r
          · have e1 : fil r ((Q ++ [z]) ++ [(n, n, c)]) = fil r (Q ++ [z]) := fil_snoc_no hcr
            rw [e1]
            refine ⟨?_, by omega⟩
            rw [key _ ihl, ← List.append_assoc, ih, hcr]
          · have e1 : fil r ((Q ++ [z]) ++ [(n, n, c)]) = fil r (Q ++ [z]) ++ [(n, n, c)] := fil_snoc_yes hcr
            rw [e1, clq_snoc]
            simp only [List.length_append, List.length_replicate]
            refine ⟨?_, by omega⟩
            rw [show n + 1 - ((clq r 0 (fil r (Q ++ [z]))).length + (n - endR 0 (fil r (Q ++ [z])) + (n + 1 - n))) = 0 by omega, List.replicate_zero, List.append_nil]
            rw [show n - endR 0 (fil r (Q ++ [z])) = n - (clq r 0 (fil r (Q ++ [z]))).length by omega, ← List.append_assoc, ih, show n + 1 - n = 1 by omega]
            rfl
theorem clA_rgs (r : Nat) (C : List Nat) (h : C.length = 1114112) (hc : ∀ c ∈ C, c < 256) : clA r (rgs r C) = C := (back_all r 1114112 C h (Nat.le_refl _) hc).1
/-! All counts. -/
def cb (k : Nat) (C : List Nat) : Nat := C.countP fun c => decide (c < k)
theorem cb_next (k : Nat) : ∀ C : List Nat, cb (k + 1) C = cb k C + cz (k : Int) C
  | [] => rfl
  | c :: C => by
    have ih := cb_next k C
    unfold cb cz at ih ⊢
    rw [List.countP_cons, List.countP_cons, List.countP_cons, ih]
    by_cases h1 : c < k
    · have e1 : decide (c < k + 1) = true := decide_eq_true (by omega)
      have e2 : decide (c < k) = true := decide_eq_true h1
      have e3 : decide ((c : Int) = (k : Int)) = false := decide_eq_false (by omega)
      rw [e1, e2, e3]; simp; omega
    · by_cases h2 : c = k
      · have e1 : decide (c < k + 1) = true := decide_eq_true (by omega)
        have e2 : decide (c < k) = false := decide_eq_false h1
        have e3 : decide ((c : Int) = (k : Int)) = true := decide_eq_true (by omega)
        rw [e1, e2, e3]; simp; omega
      · have e1 : decide (c < k + 1) = false := decide_eq_false (by omega)
        have e2 : decide (c < k) = false := decide_eq_false h1
        have e3 : decide ((c : Int) = (k : Int)) = false := decide_eq_false (by omega)
        rw [e1, e2, e3]; simp
theorem cb_zero (C : List Nat) : cb 0 C = 0 := by unfold cb; simp
theorem cb_all (C : List Nat) (h : ∀ c ∈ C, c < 256) : cb 256 C = C.length := by
  unfold cb
  rw [List.countP_eq_length]
  intro c hc
  exact decide_eq_true (h c hc)
end Go.Proofs.Ytljlhlcoaajggaa
/- The document's normal form of rising ranges is the ranges of their table. -/
namespace Go.Proofs.Ytljlhlcoaajggaa

/-- A range behind others: it makes the last one longer, if that ends right ahead of it and has its class. -/
def jA (o : List Tr) (g : Tr) : List Tr := match o.getLast? with
  | some z => if z.2.1 + 1 = g.1 ∧ z.2.2 = g.2.2 then o.dropLast ++ [(z.1, g.2.1, z.2.2)] else o ++ [g]
  | none => [g]
theorem jA_nil (g : Tr) : jA [] g = [g] := rfl
theorem jA_snoc (Q : List Tr) (z g : Tr) : jA (Q ++ [z]) g = if z.2.1 + 1 = g.1 ∧ z.2.2 = g.2.2 then Q ++ [(z.1, g.2.1, z.2.2)] else Q ++ [z, g] := by
  have h : (Q ++ [z]).getLast? = some z := by simp
  unfold jA
  rw [h]
  dsimp only
  rw [List.dropLast_concat]
  split
  · rfl
  · simp
/-- The document's normal form. -/
def nrA (r : Nat) : List Tr → List Tr → List Tr
  | o, [] => o
  | o, g :: A => if g.2.2 = r then nrA r o A else nrA r (jA o g) A
theorem nrA_snoc (r : Nat) : ∀ (A : List Tr) (o : List Tr) (g : Tr), nrA r o (A ++ [g]) = if g.2.2 = r then nrA r o A else jA (nrA r o A) g
  | [], o, g => rfl
  | x :: A, o, g => by
    show (if x.2.2 = r then nrA r o (A ++ [g]) else nrA r (jA o x) (A ++ [g])) = _
    have e : nrA r o (x :: A) = if x.2.2 = r then nrA r o A else nrA r (jA o x) A := rfl
    rw [e]
    split
    · exact nrA_snoc r A o g
    · exact nrA_snoc r A (jA o x) g
theorem fil_jn (r : Nat) (R : List Tr) (x : Tr) (h : x.2.2 = r) : fil r (jn R x) = fil r R := by
  rcases List.eq_nil_or_concat R with rfl | ⟨Q, z, rfl⟩
  · rw [jn_nil]; exact fil_one_no h
  · rw [List.concat_eq_append, jn_snoc]
    split
    · rename_i hz
      rw [fil_snoc_no (show ((z.1, x.2.1, x.2.2) : Tr).2.2 = r from h), fil_snoc_no (hz.trans h)]
    · rw [show Q ++ [z, x] = (Q ++ [z]) ++ [x] by simp, fil_snoc_no h]
theorem endR_le {L : List Tr} {b : Nat} (h : Ris b L) : ∀ x ∈ L, x.2.1 + 1 ≤ endR b L := by
  intro x hx
  rcases List.eq_nil_or_concat L with rfl | ⟨Q, z, rfl⟩
  · cases hx
  · rw [List.concat_eq_append] at h hx ⊢
    rw [endR_snoc]
    rcases List.mem_append.1 hx with hx | hx
    · have h1 := (ris_snoc Q b z).1 h
      have h2 := endR_le (L := Q) h1.1 x hx
      omega
    · simp at hx; rw [hx]; exact Nat.le_refl _
  termination_by L.length
  decreasing_by simp_all
theorem fil_mem {r : Nat} {L : List Tr} {x : Tr} (h : x ∈ fil r L) : x ∈ L := by
  unfold fil at h
  exact (List.mem_filter.1 h).1
/-- What is appended: the last of o does not end right ahead of g. -/
theorem jA_far (o : List Tr) (g : Tr) (h : ∀ x ∈ o, x.2.1 + 1 < g.1) : jA o g = o ++ [g] := by
  rcases List.eq_nil_or_concat o with rfl | ⟨Q, z, rfl⟩
  · rfl
  · rw [List.concat_eq_append] at h ⊢
    rw [jA_snoc, if_neg (fun hc => by have := h z (by simp); omega)]
    simp
theorem jn_gap (R : List Tr) (b k c : Nat) (hk : 0 < k) : rlA b R (List.replicate k c) = jn R (b, b + (k - 1), c) := by
  obtain ⟨j, rfl⟩ : ∃ j, k = j + 1 := ⟨k - 1, by omega⟩
  rw [rlA_rep]; rfl
theorem clq_256 (r : Nat) (A : List Tr) (hr : r < 256) (h : Ris 0 A) : ∀ c ∈ clq r 0 A, c < 256 := fun c hc => clA_256 r A hr h c (by unfold clA; exact List.mem_append_left _ hc)
theorem nrA_eq (r : Nat) (hr : r < 256) : ∀ (n : Nat) (A : List Tr), A.length = n → Ris 0 A → nrA r [] A = fil r (rlA 0 [] (clq r 0 A))
  | 0, A, h, _ => by
    have : A = [] := List.length_eq_zero_iff.1 h
    subst this; rfl
  | n + 1, A, h, hR => by
    rcases List.eq_nil_or_concat A with rfl | ⟨P, g, rfl⟩
    · simp at h
    · rw [List.concat_eq_append] at h hR ⊢
      have hl : P.length = n := by simpa using h
      obtain ⟨hP, he, hg1, hg2, hg3⟩ := (ris_snoc P 0 g).1 hR
      have ih := nrA_eq r hr n P hl hP
      have hlen := clq_end r P 0 hP
      rw [Nat.zero_add] at hlen
      have hb := clq_len r P 0 (by omega) hP
      obtain ⟨hLR, hLE⟩ := rlA_ris _ (clq r 0 P) rfl (by omega) (clq_256 r P hr hP)
      rw [nrA_snoc, clq_snoc, rlA_app, rlA_app, Nat.zero_add, hlen, List.length_replicate]
      rw [hlen] at hLE
      rw [jn_gap _ _ (g.2.1 + 1 - g.1) g.2.2 (by omega)]
      rw [show endR 0 P + (g.1 - endR 0 P) = g.1 by omega, show g.1 + (g.2.1 + 1 - g.1 - 1) = g.2.1 by omega]
      obtain ⟨L, hL⟩ : ∃ L, L = rlA 0 [] (clq r 0 P) := ⟨_, rfl⟩
      rw [← hL] at ih hLR hLE ⊢
      obtain ⟨e, hee⟩ : ∃ e, e = endR 0 P := ⟨_, rfl⟩
      rw [← hee] at hLE he ⊢
      have hR1 : fil r (rlA e L (List.replicate (g.1 - e) r)) = fil r L := by
        by_cases hgap : g.1 - e = 0
        · rw [hgap]; rfl
        · rw [jn_gap _ _ _ _ (by omega)]
          exact fil_jn r L _ rfl
      by_cases hc : g.2.2 = r
      · rw [if_pos hc, fil_jn r _ _ hc, hR1, ih]
      · rw [if_neg hc, ih]
        by_cases hgap : g.1 - e = 0
        · have hge : g.1 = e := by omega
          rw [hgap]
          show jA (fil r L) g = fil r (jn L (g.1, g.2.1, g.2.2))
          rcases List.eq_nil_or_concat L with h2 | ⟨Q, z, h2⟩
          · rw [h2]
            show [g] = fil r [g]
            rw [fil_one_yes hc]
          · rw [List.concat_eq_append] at h2
            rw [h2] at hLR hLE ⊢
            rw [endR_snoc] at hLE
            obtain ⟨q1, q2, q3, q4, q5⟩ := (ris_snoc Q 0 z).1 hLR
            rw [jn_snoc]
            by_cases hzc : z.2.2 = g.2.2
            · rw [if_pos hzc, fil_snoc_yes (show ((z.1, g.2.1, g.2.2) : Tr).2.2 ≠ r from hc), fil_snoc_yes (by rw [hzc]; exact hc), jA_snoc, if_pos ⟨by omega, hzc⟩, hzc]
            · rw [if_neg hzc, show Q ++ [z, (g.1, g.2.1, g.2.2)] = (Q ++ [z]) ++ [g] by simp, fil_snoc_yes hc]
              by_cases hzr : z.2.2 = r
              · rw [fil_snoc_no hzr]
                refine jA_far _ _ (fun x hx => ?_)
                have h3 := endR_le q1 x (fil_mem hx)
                omega
              · rw [fil_snoc_yes hzr, jA_snoc, if_neg (fun h => hzc h.2)]
                simp
        · rw [jn_gap _ _ _ _ (by omega)]
          have hfar : jA (fil r L) g = fil r L ++ [g] := jA_far _ _ (fun x hx => by
            have h3 := endR_le hLR x (fil_mem hx)
            omega)
          rw [hfar]
          have hjj : fil r (jn (jn L (e, e + (g.1 - e - 1), r)) (g.1, g.2.1, g.2.2)) = fil r (jn L (e, e + (g.1 - e - 1), r)) ++ [g] := by
            rcases List.eq_nil_or_concat L with h2 | ⟨Q, z, h2⟩
            · rw [h2, jn_nil]
              have := jn_snoc [] (e, e + (g.1 - e - 1), r) (g.1, g.2.1, g.2.2)
              rw [if_neg (fun h => hc h.symm)] at this
              rw [List.nil_append] at this
              rw [this, show ([] : List Tr) ++ [(e, e + (g.1 - e - 1), r), (g.1, g.2.1, g.2.2)] = [(e, e + (g.1 - e - 1), r)] ++ [g] by simp, fil_snoc_yes hc]
            · rw [List.concat_eq_append] at h2
              rw [h2, jn_snoc]
              split
              · rw [jn_snoc, if_neg (fun h => hc h.symm), show Q ++ [(z.1, e + (g.1 - e - 1), r), (g.1, g.2.1, g.2.2)] = (Q ++ [(z.1, e + (g.1 - e - 1), r)]) ++ [g] by simp, fil_snoc_yes hc]
              · rw [show Q ++ [z, (e, e + (g.1 - e - 1), r)] = (Q ++ [z]) ++ [(e, e + (g.1 - e - 1), r)] by simp, jn_snoc, if_neg (fun h => hc h.symm), show (Q ++ [z]) ++ [(e, e + (g.1 - e - 1), r), (g.1, g.2.1, g.2.2)] = ((Q ++ [z]) ++ [(e, e + (g.1 - e - 1), r)]) ++ [g] by simp, fil_snoc_yes hc]
          rw [hjj, fil_jn r L _ rfl]
theorem nrA_rgs (r : Nat) (hr : r < 256) (A : List Tr) (h : Ris 0 A) : nrA r [] A = rgs r (clA r A) := by
  rw [nrA_eq r hr _ A rfl h]
  unfold rgs clA
  rw [rlA_app]
  by_cases hk : 1114112 - (clq r 0 A).length = 0
  · rw [hk]; rfl
  · rw [jn_gap _ _ _ _ (by omega), fil_jn r _ _ rfl]
end Go.Proofs.Ytljlhlcoaajggaa
/- The contracts of class, right and sorted (package kerfref03). -/
namespace Go.Proofs.Ytljlhlcoaajggaa
open Go.RowKit

theorem rclass_any (n : Int) (w : World) :
    Calls Try.prog 40 #[.int .i64 n] w fun e w' => e = .returned (.bool (icl n)) ∧ w' = w := by
  by_cases h0 : 0 ≤ n
  · by_cases h1 : n ≤ 255
    · have HZ := hid (show icl n = true from decide_eq_true (show 0 ≤ n ∧ n ≤ 255 from ⟨h0, h1⟩))
      go_enter Try.func40, Try.ntmps40
      go_wp2
      go_ret
      exact ⟨by rw [HZ.out]; rfl, rfl⟩
    · have HZ := hid (show icl n = false from decide_eq_false (show ¬ (0 ≤ n ∧ n ≤ 255) from fun h => h1 h.2))
      go_enter Try.func40, Try.ntmps40
      go_wp2
      go_ret
      exact ⟨by rw [HZ.out]; rfl, rfl⟩
  · have HZ := hid (show icl n = false from decide_eq_false (show ¬ (0 ≤ n ∧ n ≤ 255) from fun h => h0 h.1))
    go_enter Try.func40, Try.ntmps40
    go_wp2
    go_ret
    exact ⟨by rw [HZ.out]; rfl, rfl⟩
theorem right_any (g : Rk) (w : World) :
    Calls Try.prog 41 #[rkv g] w fun e w' => e = .returned (.bool (okR g)) ∧ Below w.heap.size w w' := by
  obtain ⟨a, b, c⟩ := g
  unfold rkv
  have HB := hid ((Below.refl w.heap.size w).alloc (Nat.le_refl _) (.cells #[.int .i32 a, .int .i32 b, .int .i64 c] 36))
  by_cases h0 : 0 ≤ a
  · by_cases h1 : b ≤ 1114111
    · by_cases h2 : a ≤ b
      · have HZ := hid (show okR (a, b, c) = icl c by
          unfold okR
          rw [decide_eq_true (show 0 ≤ a ∧ b ≤ 1114111 ∧ a ≤ b from ⟨h0, h1, h2⟩), Bool.true_and])
        cases hc : icl c with
        | true =>
          go_enter Try.func41, Try.ntmps41
          go_wp2_with (go_at_call 40; refine (rclass_any _ _).mono ?_; rintro e w2 ⟨rfl, hw2⟩; obtain rfl := hw2.symm; rw [hc])
          go_ret
          exact ⟨by rw [HZ.out, hc]; rfl, HB.out⟩
        | false =>
          go_enter Try.func41, Try.ntmps41
          go_wp2_with (go_at_call 40; refine (rclass_any _ _).mono ?_; rintro e w2 ⟨rfl, hw2⟩; obtain rfl := hw2.symm; rw [hc])
          go_ret
          exact ⟨by rw [HZ.out, hc]; rfl, HB.out⟩
      · have HZ := hid (show okR (a, b, c) = false by
          unfold okR
          rw [decide_eq_false (fun (h : 0 ≤ a ∧ b ≤ 1114111 ∧ a ≤ b) => h2 h.2.2), Bool.false_and])
        go_enter Try.func41, Try.ntmps41
        go_wp2
        go_ret
        exact ⟨by rw [HZ.out]; rfl, HB.out⟩
    · have HZ := hid (show okR (a, b, c) = false by
        unfold okR
        rw [decide_eq_false (fun (h : 0 ≤ a ∧ b ≤ 1114111 ∧ a ≤ b) => h1 h.2.1), Bool.false_and])
      go_enter Try.func41, Try.ntmps41
      go_wp2
      go_ret
      exact ⟨by rw [HZ.out]; rfl, HB.out⟩
  · have HZ := hid (show okR (a, b, c) = false by
      unfold okR
      rw [decide_eq_false (fun (h : 0 ≤ a ∧ b ≤ 1114111 ∧ a ≤ b) => h0 h.1), Bool.false_and])
    go_enter Try.func41, Try.ntmps41
    go_wp2
    go_ret
    exact ⟨by rw [HZ.out]; rfl, HB.out⟩
end Go.Proofs.Ytljlhlcoaajggaa
/- The contract of sorted (package kerfref03). -/
namespace Go.Proofs.Ytljlhlcoaajggaa
open Go.RowKit

theorem srt_snoc : ∀ (l : List Rk) (D : List Tr) (g : Rk), srt D (l ++ [g]) = insR (toT g) (srt D l)
  | [], _, _ => rfl
  | x :: l, D, g => srt_snoc l (insR (toT x) D) g
theorem flt_snoc : ∀ (l : List Rk) (D : List Tr) (i : Nat) (g : Rk), flt D i (l ++ [g]) = none → flt D i l = none ∧ okR g = true ∧ (srt D l).any (fun x => mt x (toT g)) = false
  | [], D, i, g, h => by
    have h' : (if okR g = true then (if D.any (fun x => mt x (toT g)) = true then some (8, i) else flt (insR (toT g) D) (i + 1) []) else some (30, i)) = none := h
    split at h'
    · rename_i hg
      split at h'
      · cases h'
      · rename_i ha
        exact ⟨rfl, hg, eq_false_of_ne_true ha⟩
    · cases h'
  | x :: l, D, i, g, h => by
    have h' : (if okR x = true then (if D.any (fun y => mt y (toT x)) = true then some (8, i) else flt (insR (toT x) D) (i + 1) (l ++ [g])) else some (30, i)) = none := h
    split at h'
    · rename_i hx
      split at h'
      · cases h'
      · rename_i ha
        obtain ⟨h1, h2, h3⟩ := flt_snoc l _ _ g h'
        refine ⟨?_, h2, h3⟩
        unfold flt
        rw [if_pos hx, if_neg ha]
        exact h1
    · cases h'
theorem flt_take (l : List Rk) (h : flt [] 0 l = none) (i : Nat) : flt [] 0 (l.take i) = none := by
  have hF := (flt_fin l).1 h
  refine (flt_fin _).2 ⟨fun g hg => hF.1 g (List.mem_of_mem_take hg), hF.2.sublist (List.take_sublist i l)⟩
theorem srt_len (l : List Rk) : (srt [] l).length = l.length := by
  have := (srt_perm l []).length_eq
  simpa using this
/-- Where a range is laid in: those behind begin behind it. -/
theorem spt_gt {A : List Tr} {g : Tr} (hR : Ris 0 A) (hg : g.1 ≤ g.2.1) (ha : A.any (fun x => mt x g) = false) (k : Nat) (x : Tr) (hk : spt g A ≤ k) (hx : A[k]? = some x) : g.1 < x.1 := by
  have h1 := spt_high g A 0 k x hR hk hx
  have hm := List.mem_of_getElem? hx
  have h2 := ris_mem hR x hm
  have h3 := List.any_eq_false.1 ha x hm
  rcases Nat.lt_or_ge g.2.1 x.1 with h | h
  · omega
  · exact absurd ((mt_yes x g h2.2.1).2 ⟨h1, by omega⟩) h3
theorem spt_le2 {A : List Tr} {g : Tr} (hR : Ris 0 A) (k : Nat) (x : Tr) (hk : k < spt g A) (hx : A[k]? = some x) : x.1 < g.1 := by
  have h1 := spt_low g A k x hk hx
  have h2 := ris_mem hR x (List.mem_of_getElem? hx)
  omega
/-- A row with a hole at k. -/
def HlR (A : List Tr) (k : Nat) (xs : List Value) : Prop := ∃ m : List Value, m.length = 3 ∧ xs = rks (A.take k) ++ m ++ rks (A.drop k)
theorem HlR.start (A : List Tr) (g : Tr) : HlR A A.length (rks A ++ rkc (rkT g)) := ⟨rkc (rkT g), rfl, by
  rw [List.take_of_length_le (Nat.le_refl _), List.drop_of_length_le (Nat.le_refl _)]
  simp [rks]⟩
theorem HlR.move {A : List Tr} {k : Nat} {xs : List Value} (h : HlR A (k + 1) xs) (hk : k < A.length) : HlR A k (lset xs ((k + 1) * 3) (rkc (rkT (A[k]'hk)))) := by
  obtain ⟨m, hm, rfl⟩ := h
  have hl : (rks (A.take (k + 1))).length = (k + 1) * 3 := by rw [rks_len, List.length_take]; omega
  have e1 := lset_mid (rkc (rkT A[k])) (rks (A.take (k + 1))) m (rks (A.drop (k + 1))) hm
  rw [hl] at e1
  rw [e1]
  refine ⟨rkc (rkT A[k]), rfl, ?_⟩
  rw [List.take_succ_eq_append_getElem hk, rks_snoc, List.drop_eq_getElem_cons hk]
  show _ = rks (A.take k) ++ rkc (rkT A[k]) ++ (rkc (rkT A[k]) ++ rks (A.drop (k + 1)))
  simp only [List.append_assoc]
theorem HlR.fill {A : List Tr} {g : Tr} {xs : List Value} (h : HlR A (spt g A) xs) : lset xs (spt g A * 3) (rkc (rkT g)) = rks (insR g A) := by
  obtain ⟨m, hm, rfl⟩ := h
  have hs := spt_le g A
  have hl : (rks (A.take (spt g A))).length = spt g A * 3 := by rw [rks_len, List.length_take]; omega
  have e1 := lset_mid (rkc (rkT g)) (rks (A.take (spt g A))) m (rks (A.drop (spt g A))) hm
  rw [hl] at e1
  rw [e1, insR_eq]
  simp [rks]
theorem HlR.elem {A : List Tr} {k : Nat} {xs : List Value} (h : HlR A (k + 1) xs) (hk : k < A.length) (c : Nat) (v : Value) (hv : (rkc (rkT (A[k]'hk)))[c]? = some v) : xs[k * 3 + c]? = some v := by
  obtain ⟨m, hm, rfl⟩ := h
  have hc : c < 3 := (List.getElem?_eq_some_iff.1 hv).1
  have hl : (rks (A.take k)).length = k * 3 := by rw [rks_len, List.length_take]; omega
  rw [List.take_succ_eq_append_getElem hk, rks_snoc, List.append_assoc, List.append_assoc, List.getElem?_append_right (by omega), hl, show k * 3 + c - k * 3 = c by omega, List.getElem?_append_left hc]
  exact hv

set_option maxHeartbeats 6000000 in
set_option maxRecDepth 100000 in
theorem sorted_any (ao : Option Addr) (ac : Nat) (L : List Rk) (w : World) (ha : RdK w ao L) (hl : L.length ≤ 1000000) (hf : flt [] 0 L = none) :
    Calls Try.prog 43 #[.slice ao L.length ac] w fun e w' => ∃ v', e = .returned v' ∧ w'.ownsRow w.heap.size 36 3 v' L.length (rks (srt [] L)) ∧ Below w.heap.size w w' := by
  obtain ⟨i0, hi36, hz0, hz1, hz2⟩ := info_parts Try.info36
  have HA := hid ha
  have HFL := hid hf
  obtain ⟨n, hn⟩ : ∃ n, n = L.length := ⟨_, rfl⟩
  rw [← hn] at hl ⊢
  have HN := hid hn
  obtain ⟨B, hB⟩ : ∃ B, B = w.heap.size := ⟨_, rfl⟩
  have HBE := hid hB
  rw [← hB]
  clear ha hf hn hB
  go_enter Try.func43, Try.ntmps43
  go_wp2
  go_loopw [4, 3] (fun x y wr => ∃ (i : Nat) (vo : Option Addr) (vc : Nat), x = .int .i64 (i : Int) ∧ y = .slice vo i vc ∧ i ≤ n ∧ Hid (wr.ownsRow B 36 3 (.slice vo i vc) i (rks (srt [] (L.take i)))) ∧ Hid (Below B w wr)) (fun x _ _ => n - (intOf x).toNat)
  case atStart => exact ⟨0, none, 0, rfl, rfl, by omega, World.ownsRow_nil w B 36 3, Below.refl _ _⟩
  case round =>
    obtain ⟨i, vo, vc, rfl, rfl, hi, HO, HB⟩ := hrel
    have hwB : B ≤ wr.heap.size := by have h5 := HBE.out; have h6 := HB.out.size; omega
    by_cases hlt : i < n
    · have hiL : i < L.length := by have h5 := HN.out; omega
      have HRD := hid (show ∀ W, Below B w W → RdK W ao L from fun W hW => HA.out.below (by have h5 := HBE.out; rw [← h5]; exact hW))
      have htk : L.take (i + 1) = L.take i ++ [L[i]] := List.take_succ_eq_append_getElem hiL
      have hft := flt_take L HFL.out (i + 1)
      rw [htk] at hft
      obtain ⟨hf1, hok, hany⟩ := flt_snoc _ _ _ _ hft
      have HRA := hid (srt_ris _ [] 0 trivial hf1)
      have HAL := hid (show (srt [] (L.take i)).length = i by rw [srt_len, List.length_take]; omega)
      have HSN := hid (show srt [] (L.take (i + 1)) = insR (toT L[i]) (srt [] (L.take i)) by rw [htk, srt_snoc])
      obtain ⟨t1, t2, t3⟩ := toT_ok hok
      have hrt := rkT_toT hok
      obtain ⟨a, rfl, hab, a0, a1, a2⟩ := HRD.out wr HB.out i L[i] (List.getElem?_eq_getElem hiL)
      have HAC := hid (show ∀ W, Below B w W → W.cell? (a.add (i * 3)) = some (.int .i32 L[i].1) ∧ W.cell? ⟨(a.add (i * 3)).block, (a.add (i * 3)).off + 1, none⟩ = some (.int .i32 L[i].2.1) ∧ W.cell? ⟨(a.add (i * 3)).block, (a.add (i * 3)).off + 2, none⟩ = some (.int .i64 L[i].2.2) from fun W hW => by
        obtain ⟨a', e, _, c0, c1, c2⟩ := HRD.out W hW i L[i] (List.getElem?_eq_getElem hiL)
        cases e
        exact ⟨c0, c1, c2⟩)
      obtain ⟨A, hA⟩ : ∃ A, A = srt [] (L.take i) := ⟨_, rfl⟩
      obtain ⟨g, hg⟩ : ∃ g, g = toT L[i] := ⟨_, rfl⟩
      rw [← hA] at HO HRA HAL HSN hany
      rw [← hg] at HSN t1 t2 t3 hrt hany
      rw [← hrt] at a0 a1 a2 HAC
      obtain ⟨lo, hh, cl⟩ := g
      dsimp only [rkT] at a0 a1 a2 HAC t1 t2 t3
      have HANY := hid hany
      have HGT := hid (fun k x hk hx => spt_gt (g := (lo, hh, cl)) HRA.out t1 hany k x hk hx)
      have HLT := hid (fun k x hk hx => spt_le2 (g := (lo, hh, cl)) HRA.out k x hk hx)
      have HSP := hid (show spt (lo, hh, cl) A ≤ i by have h5 := spt_le (lo, hh, cl) A; have h6 := HAL.out; omega)
      have i3 : (i : Int) < (n : Int) := by omega
      have i0' : (0 : Int) ≤ (i : Int) := by omega
      have HST := hid (HlR.start A (lo, hh, cl))
      rw [HAL.out] at HST
      clear hA hg htk hft hf1 hok hany hrt
      go_wp2_with (at_builtin; refine wpList_append_lies _ rfl _ _ 25 rfl B 36 i0 (.agg #[.int .i32 0, .int .i32 0, .int .i64 0]) 3 16 Try.underlying25 hi36 hz0 hz1 hz2 rfl (by decide) _ i (rks A) rfl (HO.out.alloc _) ⟨wr.heap.size, 0, none⟩ 1 1 (rkc ((lo : Int), (hh : Int), (cl : Int))) rfl rfl (news_k wr ((lo : Int), (hh : Int), (cl : Int)) 36) (rkc_one _) (by decide) (by unfold maxLen; omega) (by omega) (by simp; omega) (wr.heap.size + 1) (by simp) ?_; intro q qc w1 o1 gr1 hlie1 hlt1)
      have HB1 := hid ((HB.out.alloc hwB (.cells #[.int .i32 (lo : Int), .int .i32 (hh : Int), .int .i64 (cl : Int)] 36)).grown gr1 (by simp; omega) (fun k hk => (HO.out.lt k hk).1))
      have HO1 := hid o1
      clear o1 gr1 hlie1 hlt1 a0 a1 a2 HO
      obtain ⟨S, hS⟩ : ∃ S, S = spt (lo, hh, cl) A := ⟨_, rfl⟩
      rw [← hS] at HGT HLT HSP
      have HSE := hid hS
      have hsp := HSP.out
      clear hS
      go_loopw [5] (fun x wi => ∃ (k : Nat) (xs : List Value), x = .int .i64 (k : Int) ∧ k ≤ i ∧ S ≤ k ∧ Hid (HlR A k xs) ∧ Hid (wi.ownsRow B 36 3 (.slice (some ⟨q, 0, none⟩) (i + 1) qc) (i + 1) xs) ∧ Hid (Below B w wi)) (fun x _ => (intOf x).toNat)
      case atStart => exact ⟨i, _, rfl, by omega, hsp, HST, HO1, HB1⟩
      case round =>
        obtain ⟨k, xs, rfl, hki, hSk, HHL, HOX, HBX⟩ := hrel
        have hxl : xs.length = (i + 1) * 3 := HOX.out.1
        have hql := HOX.out.lt q rfl
        obtain ⟨c0, c1, c2⟩ := HAC.out wr HBX.out
        by_cases hk : S < k
        · obtain ⟨j, hj⟩ : ∃ j, k = j + 1 := ⟨k - 1, by omega⟩
          have hHL : HlR A (j + 1) xs := by rw [← hj]; exact HHL.out
          have HLX := hid (show j ≤ i ∧ S ≤ j by omega)
          have hjA : j < A.length := by have h5 := HAL.out; omega
          have hgt := HGT.out j A[j] (by omega) (List.getElem?_eq_getElem hjA)
          have e0 : wr.cell? ⟨q, j * 3, none⟩ = some (.int .i32 (A[j].1 : Int)) := by rw [HOX.out.cellAt _ (by omega)]; exact hHL.elem hjA 0 _ rfl
          have e1 : wr.cell? ⟨q, j * 3 + 1, none⟩ = some (.int .i32 (A[j].2.1 : Int)) := by rw [HOX.out.cellAt _ (by omega)]; exact hHL.elem hjA 1 _ rfl
          have e2 : wr.cell? ⟨q, j * 3 + 2, none⟩ = some (.int .i64 (A[j].2.2 : Int)) := by rw [HOX.out.cellAt _ (by omega)]; exact hHL.elem hjA 2 _ rfl
          have HMV := hid (hHL.move hjA)
          rw [← hj] at HMV
          obtain ⟨x, hx⟩ : ∃ x, x = A[j] := ⟨_, rfl⟩
          rw [← hx] at e0 e1 e2 HMV hgt
          obtain ⟨x1, x2, x3⟩ := x
          dsimp only at e0 e1 e2 hgt
          obtain ⟨n1, hn1⟩ : ∃ n1, n1 = i + 1 := ⟨_, rfl⟩
          have g1 : (lo : Int) < (x1 : Int) := by omega
          have k1 : (0 : Int) < (k : Int) := by omega
          have k2 : (k : Int) - 1 = (j : Int) := by omega
          have k3 : IntKind.i64.wrap (j : Int) = (j : Int) := by rw [IntKind.wrap_i64]; omega
          have k4 : (j : Int) < (n1 : Int) := by omega
          have k5 : (k : Int) < (n1 : Int) := by omega
          have k6 : (0 : Int) ≤ (j : Int) := by omega
          have k7 : (0 : Int) ≤ (k : Int) := by omega
          have k8 : 0 < k := by omega
          obtain ⟨o2, b2⟩ := own_sets (rkc (rkT (x1, x2, x3))) (k * 3) xs wr HOX.out
          have HWQ := hid (fun nq => (show Below B wr (wr.drewN nq) from below_drewN B wr nq))
          have HTHX := hid (show wr.there q (k * 3) 3 from fun t ht => ⟨by rw [HOX.out.cellAt _ (by omega), List.getElem?_eq_getElem (by omega)]; rfl, HOX.out.frozenAt _⟩)
          have HOXQ := hid HOX.out
          have HJK := hid hj
          clear hx hk hj o2 b2 hHL hsp hxl
          rw [← hn1] at HOX HOXQ ⊢
          have HN1 := hid hn1
          clear hn1
          go_wp2_with fail
          go_quiet (fail)
          have e0W : (wr.drewN nq).cell? ⟨q, j * 3, none⟩ = some (.int .i32 (x1 : Int)) := e0
          have e1W : (wr.drewN nq).cell? ⟨q, j * 3 + 1, none⟩ = some (.int .i32 (x2 : Int)) := e1
          have e2W : (wr.drewN nq).cell? ⟨q, j * 3 + 2, none⟩ = some (.int .i64 (x3 : Int)) := e2
          have HOW := hid (show (wr.drewN nq).ownsRow B 36 3 (.slice (some ⟨q, 0, none⟩) n1 qc) n1 xs from HOX.out)
          have HBW := hid (HBX.out.trans (below_drewN B wr nq))
          have HTW := hid (show (wr.drewN nq).there q (k * 3) 3 from HTHX.out)
          obtain ⟨W, hW⟩ : ∃ W, W = wr.drewN nq := ⟨_, rfl⟩
          rw [← hW] at e0W e1W e2W HOW HBW HTW ⊢
          obtain ⟨o2, b2⟩ := own_sets (rkc (rkT (x1, x2, x3))) (k * 3) xs W HOW.out
          have HO2 := hid o2
          have HB2 := hid (HBW.out.trans b2)
          have HALL := hid (show (#[.int .i32 (x1 : Int), .int .i32 (x2 : Int), .int .i64 (x3 : Int)] : Array Value).all (·.oneCell') = true from all_oneCell_toArray (rkc_one ((x1 : Int), (x2 : Int), (x3 : Int))))
          clear hW e0 e1 e2 o2 b2 c0 c1 c2 HOX HBX HTHX HWQ HOXQ
          go_wp2_with (refine wpList_store_mid rfl 36 _ _ rfl q (k * 3) #[.int .i32 (x1 : Int), .int .i32 (x2 : Int), .int .i64 (x3 : Int)] rfl rfl HTW.out size36 HALL.out ?_)
          go_roundw
          case rel => exact ⟨j, _, rfl, HLX.out.1, HLX.out.2, HMV, HO2, HB2⟩
          case measure => simp [intOf]; have h5 := HJK.out; omega
        · have hkS : k = S := by omega
          subst hkS
          have HTS := hid (show wr.there q (k * 3) 3 from fun t ht => ⟨by rw [HOX.out.cellAt _ (by omega), List.getElem?_eq_getElem (by omega)]; rfl, HOX.out.frozenAt _⟩)
          have hHL := HHL.out
          have hfill : lset xs (k * 3) (rkc (rkT (lo, hh, cl))) = rks (insR (lo, hh, cl) A) := by
            have h5 := HSE.out
            rw [h5] at hHL ⊢
            exact hHL.fill
          rw [← HSN.out] at hfill
          have HFI := hid hfill
          have HALL := hid (show (#[.int .i32 (lo : Int), .int .i32 (hh : Int), .int .i64 (cl : Int)] : Array Value).all (·.oneCell') = true from all_oneCell_toArray (rkc_one ((lo : Int), (hh : Int), (cl : Int))))
          obtain ⟨n1, hn1⟩ : ∃ n1, n1 = i + 1 := ⟨_, rfl⟩
          rw [← hn1] at HOX ⊢
          have HN1 := hid hn1
          have k5 : (k : Int) < (n1 : Int) := by omega
          have k7 : (0 : Int) ≤ (k : Int) := by omega
          have HQQ := hid (fun nq => (show (wr.drewN nq).cell? (a.add (i * 3)) = some (.int .i32 (lo : Int)) ∧ (wr.drewN nq).cell? ⟨(a.add (i * 3)).block, (a.add (i * 3)).off + 1, none⟩ = some (.int .i32 (hh : Int)) ∧ (wr.drewN nq).cell? ⟨(a.add (i * 3)).block, (a.add (i * 3)).off + 2, none⟩ = some (.int .i64 (cl : Int)) from ⟨c0, c1, c2⟩))
          clear hn1 hfill hHL hsp hxl hk hSk
          rcases Nat.eq_zero_or_pos k with h0 | h0
          · have HK0 := hid h0
            have k1 : ¬ (0 : Int) < (k : Int) := by omega
            have k8 : ¬ 0 < k := by omega
            clear h0
            go_wp2_with fail
            go_quiet (fail)
            obtain ⟨z0, z1, z2⟩ := HQQ.out nq
            have HOW := hid (show (wr.drewN nq).ownsRow B 36 3 (.slice (some ⟨q, 0, none⟩) n1 qc) n1 xs from HOX.out)
            have HBW := hid (HBX.out.trans (below_drewN B wr nq))
            have HTW := hid (show (wr.drewN nq).there q (k * 3) 3 from HTS.out)
            obtain ⟨W, hW⟩ : ∃ W, W = wr.drewN nq := ⟨_, rfl⟩
            rw [← hW] at z0 z1 z2 HOW HBW HTW ⊢
            obtain ⟨o2, b2⟩ := own_sets (rkc (rkT (lo, hh, cl))) (k * 3) xs W HOW.out
            rw [HFI.out, HN1.out] at o2
            have HO2 := hid o2
            have HB2 := hid (HBW.out.trans b2)
            clear hW o2 b2 c0 c1 c2 HOX HBX HTS
            go_wp2_with (refine wpList_store_mid rfl 36 _ _ rfl q (k * 3) #[.int .i32 (lo : Int), .int .i32 (hh : Int), .int .i64 (cl : Int)] rfl rfl HTW.out size36 HALL.out ?_)
            go_roundw
            case rel => exact ⟨i + 1, some ⟨q, 0, none⟩, qc, by go_num, by rw [HN1.out], by omega, HO2, HB2⟩
            case measure => simp [intOf]; omega
          · obtain ⟨j, hj⟩ : ∃ j, k = j + 1 := ⟨k - 1, by omega⟩
            have hHL2 : HlR A (j + 1) xs := by rw [← hj]; exact HHL.out
            have hjA : j < A.length := by have h5 := HAL.out; omega
            have hlt2 := HLT.out j A[j] (by omega) (List.getElem?_eq_getElem hjA)
            have e0 : wr.cell? ⟨q, j * 3, none⟩ = some (.int .i32 (A[j].1 : Int)) := by rw [HOX.out.cellAt _ (by have h5 := HN1.out; omega)]; exact hHL2.elem hjA 0 _ rfl
            obtain ⟨x1, hx1⟩ : ∃ x1, x1 = A[j].1 := ⟨_, rfl⟩
            rw [← hx1] at e0 hlt2
            have hlt3 : x1 < lo := hlt2
            have g1 : ¬ (lo : Int) < (x1 : Int) := by omega
            have g2 : ¬ lo < x1 := by omega
            have k1 : (0 : Int) < (k : Int) := by omega
            have k2 : (k : Int) - 1 = (j : Int) := by omega
            have k3 : IntKind.i64.wrap (j : Int) = (j : Int) := by rw [IntKind.wrap_i64]; omega
            have k4 : (j : Int) < (n1 : Int) := by omega
            have k6 : (0 : Int) ≤ (j : Int) := by omega
            have HJK := hid hj
            clear hx1 hHL2 hj hlt2 hlt3
            go_wp2_with fail
            go_quiet (fail)
            obtain ⟨z0, z1, z2⟩ := HQQ.out nq
            have HOW := hid (show (wr.drewN nq).ownsRow B 36 3 (.slice (some ⟨q, 0, none⟩) n1 qc) n1 xs from HOX.out)
            have HBW := hid (HBX.out.trans (below_drewN B wr nq))
            have HTW := hid (show (wr.drewN nq).there q (k * 3) 3 from HTS.out)
            obtain ⟨W, hW⟩ : ∃ W, W = wr.drewN nq := ⟨_, rfl⟩
            rw [← hW] at z0 z1 z2 HOW HBW HTW ⊢
            obtain ⟨o2, b2⟩ := own_sets (rkc (rkT (lo, hh, cl))) (k * 3) xs W HOW.out
            rw [HFI.out, HN1.out] at o2
            have HO2 := hid o2
            have HB2 := hid (HBW.out.trans b2)
            clear hW o2 b2 c0 c1 c2 HOX HBX HTS
            go_wp2_with (refine wpList_store_mid rfl 36 _ _ rfl q (k * 3) #[.int .i32 (lo : Int), .int .i32 (hh : Int), .int .i64 (cl : Int)] rfl rfl HTW.out size36 HALL.out ?_)
            go_roundw
            case rel => exact ⟨i + 1, some ⟨q, 0, none⟩, qc, by go_num, by rw [HN1.out], by omega, HO2, HB2⟩
            case measure => simp [intOf]; omega
    · have i3 : ¬ (i : Int) < (n : Int) := by omega
      have hie : i = n := by omega
      have HTE := hid (show L.take i = L by rw [List.take_of_length_le (by have h5 := HN.out; omega)])
      rw [HTE.out, hie] at HO
      subst hie
      go_wp2
      go_ret
      exact ⟨_, rfl, HO.out, HB.out⟩
end Go.Proofs.Ytljlhlcoaajggaa
/- The contract of normal (package kerfref03). -/
namespace Go.Proofs.Ytljlhlcoaajggaa
open Go.RowKit

theorem ris_take : ∀ (A : List Tr) (b i : Nat), Ris b A → Ris b (A.take i)
  | [], _, _, _ => by simp [Ris]
  | g :: A, b, 0, _ => trivial
  | g :: A, b, i + 1, h => by
    obtain ⟨h1, h2, h3, h4, h5⟩ := h
    exact ⟨h1, h2, h3, h4, ris_take A _ i h5⟩
theorem nrA_ris (r : Nat) (hr : r < 256) (A : List Tr) (h : Ris 0 A) : Ris 0 (nrA r [] A) := by
  rw [nrA_eq r hr _ A rfl h]
  have := clq_len r A 0 (by omega) h
  exact ris_fil r _ 0 (rlA_ris _ (clq r 0 A) rfl (by omega) (clq_256 r A hr h)).1
theorem jA_len (o : List Tr) (g : Tr) : (jA o g).length ≤ o.length + 1 := by
  rcases List.eq_nil_or_concat o with rfl | ⟨Q, z, rfl⟩
  · rw [jA_nil]; simp
  · rw [List.concat_eq_append, jA_snoc]
    split <;> simp
theorem nrA_len (r : Nat) : ∀ (A o : List Tr), (nrA r o A).length ≤ o.length + A.length
  | [], o => by simp [nrA]
  | g :: A, o => by
    show (if g.2.2 = r then nrA r o A else nrA r (jA o g) A).length ≤ _
    have h1 := nrA_len r A o
    have h2 := nrA_len r A (jA o g)
    have h3 := jA_len o g
    rw [List.length_cons]
    split <;> omega

set_option maxHeartbeats 6000000 in
set_option maxRecDepth 100000 in
theorem normal_any (ao : Option Addr) (ac : Nat) (A : List Tr) (r : Nat) (w : World) (ha : RdK w ao (A.map rkT)) (hl : A.length ≤ 1000000) (hr : r < 256) (hR : Ris 0 A) :
    Calls Try.prog 42 #[.slice ao A.length ac, .int .i64 (r : Int)] w fun e w' => ∃ v', e = .returned v' ∧ w'.ownsRow w.heap.size 36 3 v' (nrA r [] A).length (rks (nrA r [] A)) ∧ Below w.heap.size w w' := by
  obtain ⟨i0, hi36, hz0, hz1, hz2⟩ := info_parts Try.info36
  have HA := hid ha
  have HR := hid hR
  obtain ⟨n, hn⟩ : ∃ n, n = A.length := ⟨_, rfl⟩
  rw [← hn] at hl ⊢
  have HN := hid hn
  obtain ⟨B, hB⟩ : ∃ B, B = w.heap.size := ⟨_, rfl⟩
  have HBE := hid hB
  rw [← hB]
  clear ha hR hn hB
  go_enter Try.func42, Try.ntmps42
  go_wp2
  go_loopw [6, 5] (fun x y wr => ∃ (i m : Nat) (vo : Option Addr) (vc : Nat), x = .int .i64 (i : Int) ∧ y = .slice vo m vc ∧ i ≤ n ∧ Hid (m = (nrA r [] (A.take i)).length) ∧ Hid (wr.ownsRow B 36 3 (.slice vo m vc) m (rks (nrA r [] (A.take i)))) ∧ Hid (Below B w wr)) (fun x _ _ => n - (intOf x).toNat)
  case atStart => exact ⟨0, 0, none, 0, rfl, rfl, by omega, rfl, World.ownsRow_nil w B 36 3, Below.refl _ _⟩
  case round =>
    obtain ⟨i, m, vo, vc, rfl, rfl, hi, HM, HO, HB⟩ := hrel
    have hwB : B ≤ wr.heap.size := by have h5 := HBE.out; have h6 := HB.out.size; omega
    by_cases hlt : i < n
    · have hiA : i < A.length := by have h5 := HN.out; omega
      have HAC := hid (show ∀ W, Below B w W → ∃ a : Addr, ao = some a ∧ W.cell? (a.add (i * 3)) = some (.int .i32 (A[i].1 : Int)) ∧ W.cell? ⟨(a.add (i * 3)).block, (a.add (i * 3)).off + 1, none⟩ = some (.int .i32 (A[i].2.1 : Int)) ∧ W.cell? ⟨(a.add (i * 3)).block, (a.add (i * 3)).off + 2, none⟩ = some (.int .i64 (A[i].2.2 : Int)) from fun W hW => by
        obtain ⟨a, e, _, c0, c1, c2⟩ := HA.out.below (show Below w.heap.size w W by have h5 := HBE.out; rw [← h5]; exact hW) i (rkT A[i]) (by rw [List.getElem?_map, List.getElem?_eq_getElem hiA]; rfl)
        exact ⟨a, e, c0, c1, c2⟩)
      have HSN := hid (show nrA r [] (A.take (i + 1)) = if A[i].2.2 = r then nrA r [] (A.take i) else jA (nrA r [] (A.take i)) A[i] by rw [List.take_succ_eq_append_getElem hiA, nrA_snoc])
      have HRO := hid (nrA_ris r hr _ (ris_take A 0 i HR.out))
      have hml : m ≤ 1000000 := by
        have h5 := nrA_len r (A.take i) []
        rw [List.length_take] at h5
        have h6 := HM.out
        simp at h5; omega
      obtain ⟨a, rfl, c0, c1, c2⟩ := HAC.out wr HB.out
      obtain ⟨h1, h2, h3, h4⟩ := ris_mem HR.out A[i] (List.getElem_mem hiA)
      obtain ⟨g, hg⟩ : ∃ g, g = A[i] := ⟨_, rfl⟩
      rw [← hg] at c0 c1 c2 HSN h1 h2 h3 h4
      obtain ⟨o, ho⟩ : ∃ o, o = nrA r [] (A.take i) := ⟨_, rfl⟩
      rw [← ho] at HM HO HSN HRO
      obtain ⟨lo, hh, cl⟩ := g
      dsimp only at c0 c1 c2 h1 h2 h3 h4
      have i3 : (i : Int) < (n : Int) := by omega
      have i0' : (0 : Int) ≤ (i : Int) := by omega
      clear hg ho HAC h1
      by_cases hc : cl = r
      · have hc' : ((cl : Int) == (r : Int)) = true := by simp; omega
        rw [if_pos (show ((lo, hh, cl) : Tr).2.2 = r from hc)] at HSN
        rw [← HSN.out] at HM HO
        clear hc
        go_wp2
        go_roundw
        case rel => exact ⟨i + 1, m, vo, vc, by go_num, rfl, by omega, HM, HO, HB⟩
        case measure => simp [intOf]; omega
      · have hc' : ((cl : Int) == (r : Int)) = false := by simp; omega
        rw [if_neg (show ¬ ((lo, hh, cl) : Tr).2.2 = r from hc)] at HSN
        clear hc
        rcases List.eq_nil_or_concat o with h0 | ⟨Q, z, h0⟩
        · have hm0 : m = 0 := by have h5 := HM.out; rw [h0] at h5; exact h5
          subst hm0
          rw [h0] at HO HSN
          rw [jA_nil] at HSN
          clear h0 HM HRO
          go_wp2_with fail
          go_quiet (fail)
          have d0 : (wr.drewN nq).cell? (a.add (i * 3)) = some (.int .i32 (lo : Int)) := c0
          have d1 : (wr.drewN nq).cell? ⟨(a.add (i * 3)).block, (a.add (i * 3)).off + 1, none⟩ = some (.int .i32 (hh : Int)) := c1
          have d2 : (wr.drewN nq).cell? ⟨(a.add (i * 3)).block, (a.add (i * 3)).off + 2, none⟩ = some (.int .i64 (cl : Int)) := c2
          have HOW := hid (show (wr.drewN nq).ownsRow B 36 3 (.slice vo 0 vc) 0 (rks []) from HO.out)
          have HBW := hid (HB.out.trans (below_drewN B wr nq))
          obtain ⟨W, hW⟩ : ∃ W, W = wr.drewN nq := ⟨_, rfl⟩
          rw [← hW] at d0 d1 d2 HOW HBW ⊢
          have hwW : B ≤ W.heap.size := by have h5 := HBE.out; have h6 := HBW.out.size; omega
          clear hW c0 c1 c2 HO HB
          go_wp2_with (at_builtin; refine wpList_append_lies _ rfl _ _ 25 rfl B 36 i0 (.agg #[.int .i32 0, .int .i32 0, .int .i64 0]) 3 16 Try.underlying25 hi36 hz0 hz1 hz2 rfl (by decide) _ 0 (rks []) rfl (HOW.out.alloc _) ⟨W.heap.size, 0, none⟩ 1 1 (rkc ((lo : Int), (hh : Int), (cl : Int))) rfl rfl (news_k W ((lo : Int), (hh : Int), (cl : Int)) 36) (rkc_one _) (by decide) (by unfold maxLen; omega) (by omega) (by simp; omega) (W.heap.size + 1) (by simp) ?_; intro q2 c2' w2 o2 gr2 hl2 hlt2)
          have HB2 := hid ((HBW.out.alloc hwW (.cells #[.int .i32 (lo : Int), .int .i32 (hh : Int), .int .i64 (cl : Int)] 36)).grown gr2 (by simp; omega) (fun k hk => (HOW.out.lt k hk).1))
          have HO2 := hid (show w2.ownsRow B 36 3 (.slice (some ⟨q2, 0, none⟩) (0 + 1) c2') (0 + 1) (rks (nrA r [] (A.take (i + 1)))) by rw [HSN.out, show rks [(lo, hh, cl)] = rks [] ++ rkc ((lo : Int), (hh : Int), (cl : Int)) by simp [rks, rkT]]; exact o2)
          have HM2 := hid (show 0 + 1 = (nrA r [] (A.take (i + 1))).length by rw [HSN.out]; rfl)
          clear o2 gr2 hl2 hlt2
          go_roundw
          case rel => exact ⟨i + 1, 0 + 1, some ⟨q2, 0, none⟩, c2', by go_num, rfl, by omega, HM2, HO2, HB2⟩
          case measure => simp [intOf]; omega
        · rw [List.concat_eq_append] at h0
          have hmQ : m = Q.length + 1 := by have h5 := HM.out; rw [h0] at h5; simpa using h5
          rw [h0] at HO HSN HRO
          rw [jA_snoc] at HSN
          obtain ⟨y1, y2, y3, y4⟩ := ris_mem HRO.out z (by simp)
          obtain ⟨q, cap', hve, hqB, hqw⟩ := HO.out.form (by omega)
          cases hve
          obtain ⟨k, hk⟩ : ∃ k, k = Q.length := ⟨_, rfl⟩
          have e1 : wr.cell? ⟨q, k * 3 + 1, none⟩ = some (.int .i32 (z.2.1 : Int)) := by rw [hk, HO.out.cellAt _ (by omega)]; exact rks_at Q z 1 _ rfl
          have e2 : wr.cell? ⟨q, k * 3 + 2, none⟩ = some (.int .i64 (z.2.2 : Int)) := by rw [hk, HO.out.cellAt _ (by omega)]; exact rks_at Q z 2 _ rfl
          have k0 : (0 : Int) < (m : Int) := by omega
          have kN : 0 < m := by omega
          have k1 : (m : Int) - 1 = (k : Int) := by omega
          have k2 : IntKind.i64.wrap (k : Int) = (k : Int) := by rw [IntKind.wrap_i64]; omega
          have k3 : (k : Int) < (m : Int) := by omega
          have k4 : (0 : Int) ≤ (k : Int) := by omega
          have HKQ := hid hk
          have HMQ := hid hmQ
          obtain ⟨zl, zh, zc⟩ := z
          dsimp only at e1 e2 y1 y2 y3 y4
          have k5 : IntKind.i32.wrap ((zh : Int) + 1) = ((zh + 1 : Nat) : Int) := by rw [IntKind.wrap_i32]; omega
          clear h0 hk hmQ HM HRO
          by_cases hadj : zh + 1 = lo
          · by_cases hcls : zc = cl
            · have t1 : (((zh + 1 : Nat) : Int) == (lo : Int)) = true := by simp; omega
              have t2 : ((zc : Int) == (cl : Int)) = true := by simp; omega
              rw [if_pos (show ((zl, zh, zc) : Tr).2.1 + 1 = ((lo, hh, cl) : Tr).1 ∧ ((zl, zh, zc) : Tr).2.2 = ((lo, hh, cl) : Tr).2.2 from ⟨hadj, hcls⟩)] at HSN
              have t3 : ((zh : Int) + 1 == (lo : Int)) = true := by simp; omega
              have HAD := hid hadj
              have HCL := hid hcls
              clear hadj hcls
              go_wp2_with fail
              go_quiet (fail)
              have d0 : (wr.drewN nq).cell? (a.add (i * 3)) = some (.int .i32 (lo : Int)) := c0
              have d1 : (wr.drewN nq).cell? ⟨(a.add (i * 3)).block, (a.add (i * 3)).off + 1, none⟩ = some (.int .i32 (hh : Int)) := c1
              have d2 : (wr.drewN nq).cell? ⟨(a.add (i * 3)).block, (a.add (i * 3)).off + 2, none⟩ = some (.int .i64 (cl : Int)) := c2
              have HOW := hid (show (wr.drewN nq).ownsRow B 36 3 (.slice (some ⟨q, 0, none⟩) m vc) m (rks (Q ++ [(zl, zh, zc)])) from HO.out)
              have HBW := hid (HB.out.trans (below_drewN B wr nq))
              have x1 : (wr.drewN nq).cell? ⟨q, k * 3 + 1, none⟩ = some (.int .i32 (zh : Int)) := e1
              obtain ⟨W, hW⟩ : ∃ W, W = wr.drewN nq := ⟨_, rfl⟩
              rw [← hW] at d0 d1 d2 HOW HBW x1 ⊢
              have fz : W.frozen? ⟨q, k * 3 + 1, none⟩ = false := HOW.out.frozenAt _
              have HO2 := hid (show (W.setCell ⟨q, k * 3 + 1, none⟩ (.int .i32 (hh : Int))).ownsRow B 36 3 (.slice (some ⟨q, 0, none⟩) m vc) m (rks (nrA r [] (A.take (i + 1)))) by
                have h5 := (HOW.out.stored (k * 3 + 1) (.int .i32 (hh : Int))).1
                rw [HKQ.out, rks_set] at h5
                rw [HSN.out, HKQ.out]
                exact h5)
              have HB2 := hid (HBW.out.setCell (p := ⟨q, k * 3 + 1, none⟩) hqB (.int .i32 (hh : Int)))
              have HM2 := hid (show m = (nrA r [] (A.take (i + 1))).length by rw [HSN.out, HMQ.out]; simp)
              clear hW c0 c1 c2 HO HB e1 e2
              go_wp2
              go_roundw
              case rel => exact ⟨i + 1, m, some ⟨q, 0, none⟩, vc, by go_num, rfl, by omega, HM2, HO2, HB2⟩
              case measure => simp [intOf]; omega
            · have t3 : ((zh : Int) + 1 == (lo : Int)) = true := by simp; omega
              have t2 : ((zc : Int) == (cl : Int)) = false := by simp; omega
              rw [if_neg (show ¬ (((zl, zh, zc) : Tr).2.1 + 1 = ((lo, hh, cl) : Tr).1 ∧ ((zl, zh, zc) : Tr).2.2 = ((lo, hh, cl) : Tr).2.2) from fun h => hcls h.2)] at HSN
              clear hadj hcls
              go_wp2_with fail
              go_quiet (fail)
              have d0 : (wr.drewN nq).cell? (a.add (i * 3)) = some (.int .i32 (lo : Int)) := c0
              have d1 : (wr.drewN nq).cell? ⟨(a.add (i * 3)).block, (a.add (i * 3)).off + 1, none⟩ = some (.int .i32 (hh : Int)) := c1
              have d2 : (wr.drewN nq).cell? ⟨(a.add (i * 3)).block, (a.add (i * 3)).off + 2, none⟩ = some (.int .i64 (cl : Int)) := c2
              have HOW := hid (show (wr.drewN nq).ownsRow B 36 3 (.slice (some ⟨q, 0, none⟩) m vc) m (rks (Q ++ [(zl, zh, zc)])) from HO.out)
              have HBW := hid (HB.out.trans (below_drewN B wr nq))
              obtain ⟨W, hW⟩ : ∃ W, W = wr.drewN nq := ⟨_, rfl⟩
              rw [← hW] at d0 d1 d2 HOW HBW ⊢
              have hwW : B ≤ W.heap.size := by have h5 := HBE.out; have h6 := HBW.out.size; omega
              clear hW c0 c1 c2 HO HB e1 e2
              go_wp2_with (at_builtin; refine wpList_append_lies _ rfl _ _ 25 rfl B 36 i0 (.agg #[.int .i32 0, .int .i32 0, .int .i64 0]) 3 16 Try.underlying25 hi36 hz0 hz1 hz2 rfl (by decide) _ m (rks (Q ++ [(zl, zh, zc)])) rfl (HOW.out.alloc _) ⟨W.heap.size, 0, none⟩ 1 1 (rkc ((lo : Int), (hh : Int), (cl : Int))) rfl rfl (news_k W ((lo : Int), (hh : Int), (cl : Int)) 36) (rkc_one _) (by decide) (by unfold maxLen; omega) (by omega) (by simp; omega) (W.heap.size + 1) (by simp) ?_; intro q2 c2' w2 o2 gr2 hl2 hlt2)
              have HB2 := hid ((HBW.out.alloc hwW (.cells #[.int .i32 (lo : Int), .int .i32 (hh : Int), .int .i64 (cl : Int)] 36)).grown gr2 (by simp; omega) (fun k hk => (HOW.out.lt k hk).1))
              have HO2 := hid (show w2.ownsRow B 36 3 (.slice (some ⟨q2, 0, none⟩) (m + 1) c2') (m + 1) (rks (nrA r [] (A.take (i + 1)))) by
                rw [HSN.out, show Q ++ [(zl, zh, zc), (lo, hh, cl)] = (Q ++ [(zl, zh, zc)]) ++ [(lo, hh, cl)] by simp, rks_snoc (Q ++ [(zl, zh, zc)])]
                exact o2)
              have HM2 := hid (show m + 1 = (nrA r [] (A.take (i + 1))).length by rw [HSN.out, HMQ.out]; simp)
              clear o2 gr2 hl2 hlt2
              go_roundw
              case rel => exact ⟨i + 1, m + 1, some ⟨q2, 0, none⟩, c2', by go_num, rfl, by omega, HM2, HO2, HB2⟩
              case measure => simp [intOf]; omega
          · have t3 : ((zh : Int) + 1 == (lo : Int)) = false := by simp; omega
            rw [if_neg (show ¬ (((zl, zh, zc) : Tr).2.1 + 1 = ((lo, hh, cl) : Tr).1 ∧ ((zl, zh, zc) : Tr).2.2 = ((lo, hh, cl) : Tr).2.2) from fun h => hadj h.1)] at HSN
            clear hadj
            go_wp2_with fail
            go_quiet (fail)
            have d0 : (wr.drewN nq).cell? (a.add (i * 3)) = some (.int .i32 (lo : Int)) := c0
            have d1 : (wr.drewN nq).cell? ⟨(a.add (i * 3)).block, (a.add (i * 3)).off + 1, none⟩ = some (.int .i32 (hh : Int)) := c1
            have d2 : (wr.drewN nq).cell? ⟨(a.add (i * 3)).block, (a.add (i * 3)).off + 2, none⟩ = some (.int .i64 (cl : Int)) := c2
            have HOW := hid (show (wr.drewN nq).ownsRow B 36 3 (.slice (some ⟨q, 0, none⟩) m vc) m (rks (Q ++ [(zl, zh, zc)])) from HO.out)
            have HBW := hid (HB.out.trans (below_drewN B wr nq))
            obtain ⟨W, hW⟩ : ∃ W, W = wr.drewN nq := ⟨_, rfl⟩
            rw [← hW] at d0 d1 d2 HOW HBW ⊢
            have hwW : B ≤ W.heap.size := by have h5 := HBE.out; have h6 := HBW.out.size; omega
            clear hW c0 c1 c2 HO HB e1 e2
            go_wp2_with (at_builtin; refine wpList_append_lies _ rfl _ _ 25 rfl B 36 i0 (.agg #[.int .i32 0, .int .i32 0, .int .i64 0]) 3 16 Try.underlying25 hi36 hz0 hz1 hz2 rfl (by decide) _ m (rks (Q ++ [(zl, zh, zc)])) rfl (HOW.out.alloc _) ⟨W.heap.size, 0, none⟩ 1 1 (rkc ((lo : Int), (hh : Int), (cl : Int))) rfl rfl (news_k W ((lo : Int), (hh : Int), (cl : Int)) 36) (rkc_one _) (by decide) (by unfold maxLen; omega) (by omega) (by simp; omega) (W.heap.size + 1) (by simp) ?_; intro q2 c2' w2 o2 gr2 hl2 hlt2)
            have HB2 := hid ((HBW.out.alloc hwW (.cells #[.int .i32 (lo : Int), .int .i32 (hh : Int), .int .i64 (cl : Int)] 36)).grown gr2 (by simp; omega) (fun k hk => (HOW.out.lt k hk).1))
            have HO2 := hid (show w2.ownsRow B 36 3 (.slice (some ⟨q2, 0, none⟩) (m + 1) c2') (m + 1) (rks (nrA r [] (A.take (i + 1)))) by
              rw [HSN.out, show Q ++ [(zl, zh, zc), (lo, hh, cl)] = (Q ++ [(zl, zh, zc)]) ++ [(lo, hh, cl)] by simp, rks_snoc (Q ++ [(zl, zh, zc)])]
              exact o2)
            have HM2 := hid (show m + 1 = (nrA r [] (A.take (i + 1))).length by rw [HSN.out, HMQ.out]; simp)
            clear o2 gr2 hl2 hlt2
            go_roundw
            case rel => exact ⟨i + 1, m + 1, some ⟨q2, 0, none⟩, c2', by go_num, rfl, by omega, HM2, HO2, HB2⟩
            case measure => simp [intOf]; omega
    · have i3 : ¬ (i : Int) < (n : Int) := by omega
      have HTE := hid (show A.take i = A by rw [List.take_of_length_le (by have h5 := HN.out; omega)])
      rw [HTE.out] at HO HM
      have HM2 := hid HM.out
      go_wp2
      go_ret
      exact ⟨_, rfl, by rw [← HM2.out]; exact HO.out, HB.out⟩
end Go.Proofs.Ytljlhlcoaajggaa
/- The contract of Build (package kerfref03). -/
namespace Go.Proofs.Ytljlhlcoaajggaa
open Go.RowKit

/-- The document's table of these ranges lies at P. -/
def RtAt (B P : Nat) (L : List Tr) (r : Nat) (w : World) : Prop := ∃ v, w.heap[P]? = some (.cells #[v, .int .i64 (r : Int)] 74 (0, 0)) ∧ w.ownsRow B 36 3 v L.length (rks L)
theorem flt_go : ∀ (a b : List Rk) (D : List Tr) (j : Nat), flt D j a = none → flt D j (a ++ b) = flt (srt D a) (j + a.length) b
  | [], _, _, _, _ => rfl
  | x :: a, b, D, j, h => by
    have h' : (if okR x = true then (if D.any (fun y => mt y (toT x)) = true then some (8, j) else flt (insR (toT x) D) (j + 1) a) else some (30, j)) = none := h
    split at h'
    · rename_i hx
      split at h'
      · cases h'
      · rename_i ha
        have ih := flt_go a b (insR (toT x) D) (j + 1) h'
        show (if okR x = true then (if D.any (fun y => mt y (toT x)) = true then some (8, j) else flt (insR (toT x) D) (j + 1) (a ++ b)) else some (30, j)) = _
        rw [if_pos hx, if_neg ha, ih, List.length_cons, show j + 1 + a.length = j + (a.length + 1) by omega]
        rfl
    · cases h'
theorem flt_at (l : List Rk) (i : Nat) (hi : i < l.length) (h : flt [] 0 (l.take i) = none) : flt [] 0 l = flt (srt [] (l.take i)) i (l[i] :: l.drop (i + 1)) := by
  have e : l = l.take i ++ l.drop i := (List.take_append_drop i l).symm
  conv => lhs; rw [e]
  rw [flt_go _ _ _ _ h, List.length_take, Nat.zero_add, Nat.min_eq_left (by omega), List.drop_eq_getElem_cons hi]
theorem any_take (l : List Rk) (i : Nat) (t : Tr) : (srt [] (l.take i)).any (fun x => mt x t) = (l.take i).any (fun x => mt (toT x) t) := by
  rw [(srt_perm (l.take i) []).any_eq, List.nil_append, List.any_map]
  rfl
theorem flt_next (l : List Rk) (i : Nat) (hi : i < l.length) (h : flt [] 0 (l.take i) = none) (hok : okR l[i] = true) (hn : ∀ j x, j < i → l[j]? = some x → mt (toT x) (toT l[i]) = false) : flt [] 0 (l.take (i + 1)) = none := by
  rw [List.take_succ_eq_append_getElem hi, flt_go _ _ _ _ h]
  show (if okR l[i] = true then (if (srt [] (l.take i)).any (fun y => mt y (toT l[i])) = true then _ else none) else _) = none
  have ha : (srt [] (l.take i)).any (fun y => mt y (toT l[i])) = false := by
    rw [any_take, List.any_eq_false]
    intro x hx
    obtain ⟨j, hj⟩ := List.getElem?_of_mem hx
    rw [List.getElem?_take] at hj
    split at hj
    · rename_i hji
      rw [hn j x hji hj]; decide
    · cases hj
  rw [if_pos hok, ha]
  rfl
theorem flt_bad (l : List Rk) (i : Nat) (hi : i < l.length) (h : flt [] 0 (l.take i) = none) (hok : ¬ okR l[i] = true) : flt [] 0 l = some (30, i) := by
  rw [flt_at l i hi h]
  show (if okR l[i] = true then _ else some (30, i)) = _
  rw [if_neg hok]
theorem flt_hit (l : List Rk) (i k : Nat) (hi : i < l.length) (h : flt [] 0 (l.take i) = none) (hok : okR l[i] = true) (hk : k < i) (x : Rk) (hx : l[k]? = some x) (hm : mt (toT x) (toT l[i]) = true) : flt [] 0 l = some (8, i) := by
  rw [flt_at l i hi h]
  show (if okR l[i] = true then (if (srt [] (l.take i)).any (fun y => mt y (toT l[i])) = true then some (8, i) else _) else _) = _
  have ha : (srt [] (l.take i)).any (fun y => mt y (toT l[i])) = true := by
    rw [any_take, List.any_eq_true]
    exact ⟨x, List.mem_of_getElem? (i := k) (by rw [List.getElem?_take, if_pos hk]; exact hx), hm⟩
  rw [if_pos hok, if_pos ha]
theorem mt_ok {x g : Rk} (hx : okR x = true) (hg : okR g = true) : mt (toT x) (toT g) = (decide (x.1 ≤ g.2.1) && decide (g.1 ≤ x.2.1)) := by
  have e1 := rkT_toT hx
  have e2 := rkT_toT hg
  unfold mt
  rw [e1, e2, Bool.eq_iff_iff]
  unfold apt
  simp only [beq_iff_eq, Bool.and_eq_true, decide_eq_true_eq]
  constructor
  · intro h
    split at h
    · omega
    · split at h
      · omega
      · omega
  · rintro ⟨h1, h2⟩
    rw [if_neg (by omega), if_neg (by omega)]

set_option maxHeartbeats 6000000 in
set_option maxRecDepth 100000 in
theorem rbuild_any (ao : Option Addr) (ac : Nat) (l : List Rk) (r : Int) (w : World) (ha : RdK w ao l) (hl : l.length ≤ 1000000000) :
    Calls Try.prog 13 #[.slice ao l.length ac, .int .i64 r] w fun e w' => Below w.heap.size w w' ∧
      ((∃ c k, bo l r = some (c, k) ∧ e = .returned (.tuple #[.pointer none, .int .i64 c, .int .i64 (k : Int)])) ∨
       (bo l r = none ∧ ∃ P, e = .returned (.tuple #[.pointer (some ⟨P, 0, none⟩), .int .i64 0, .int .i64 0]) ∧ w.heap.size ≤ P ∧ RtAt w.heap.size P (nrA r.toNat [] (srt [] l)) r.toNat w')) := by
  have HA := hid ha
  obtain ⟨n, hn⟩ : ∃ n, n = l.length := ⟨_, rfl⟩
  rw [← hn] at hl ⊢
  have HN := hid hn
  clear ha
  cases hr : icl r with
  | false =>
    have HZ := hid (show bo l r = some (30, 0) by unfold bo; rw [hr]; rfl)
    clear hn
    go_enter Try.func13, Try.ntmps13
    go_wp2_with (go_at_call 40; refine (rclass_any r _).mono ?_; rintro e w2 ⟨rfl, hw2⟩; obtain rfl := hw2.symm; rw [hr])
    go_ret3
    exact ⟨Below.refl _ _, .inl ⟨30, 0, HZ.out, rfl⟩⟩
  | true =>
    by_cases hm : 4096 < n
    · have HZ := hid (show bo l r = some (6, 0) by unfold bo; rw [hr, if_pos rfl, if_pos (by rw [← hn]; exact hm)])
      have hm' : (4096 : Int) < (n : Int) := by omega
      clear hn
      go_enter Try.func13, Try.ntmps13
      go_wp2_with (go_at_call 40; refine (rclass_any r _).mono ?_; rintro e w2 ⟨rfl, hw2⟩; obtain rfl := hw2.symm; rw [hr])
      go_ret3
      exact ⟨Below.refl _ _, .inl ⟨6, 0, HZ.out, rfl⟩⟩
    · have HZ := hid (show bo l r = flt [] 0 l by unfold bo; rw [hr, if_pos rfl, if_neg (by rw [← hn]; exact hm)])
      have hm' : ¬ (4096 : Int) < (n : Int) := by omega
      have HNIL := hid (show flt [] 0 (l.take 0) = none from rfl)
      clear hn
      go_enter Try.func13, Try.ntmps13
      go_wp2_with (go_at_call 40; refine (rclass_any r _).mono ?_; rintro e w2 ⟨rfl, hw2⟩; obtain rfl := hw2.symm; rw [hr])
      go_loopw [7] (fun x wr => ∃ (i : Nat), x = .int .i64 (i : Int) ∧ i ≤ n ∧ Hid (flt [] 0 (l.take i) = none) ∧ Hid (Below w.heap.size w wr)) (fun x _ => n - (intOf x).toNat)
      case atStart => exact ⟨0, rfl, by omega, HNIL, Below.refl _ _⟩
      case round =>
        obtain ⟨i, rfl, hi, HFT, HB⟩ := hrel
        by_cases hlt : i < n
        · have hiL : i < l.length := by have h5 := HN.out; omega
          have HRD := hid (show ∀ W, Below w.heap.size w W → RdK W ao l from fun W hW => HA.out.below hW)
          obtain ⟨a, rfl, hab, a0, a1, a2⟩ := HRD.out wr HB.out i l[i] (List.getElem?_eq_getElem hiL)
          have i3 : (i : Int) < (n : Int) := by omega
          have i0 : (0 : Int) ≤ (i : Int) := by omega
          have HRI := hid (right_any l[i] wr)
          have HBAD := hid (fun h => flt_bad l i hiL HFT.out h)
          have HHIT := hid (fun h k x hk hx hm => flt_hit l i k hiL HFT.out h hk x hx hm)
          have HNXT := hid (fun h hn => flt_next l i hiL HFT.out h hn)
          have hwz := HB.out.size
          have HMO := hid (fun (h : okR l[i] = true) (x : Rk) (hx : okR x = true) => mt_ok hx h)
          obtain ⟨g, hg⟩ : ∃ g, g = l[i] := ⟨_, rfl⟩
          rw [← hg] at a0 a1 a2 HRI HBAD HHIT HNXT HMO
          have HGE := hid (show l[i]? = some g by rw [hg]; exact List.getElem?_eq_getElem hiL)
          obtain ⟨g0, g1, g2⟩ := g
          unfold rkv at HRI
          dsimp only at a0 a1 a2 HRI
          clear hg
          by_cases hok : okR (g0, g1, g2) = true
          · rw [hok] at HRI
            have HNX2 := hid (HNXT.out hok)
            have HHI2 := hid (HHIT.out hok)
            have HMO2 := hid (HMO.out hok)
            clear hok
            go_wp2_with fail
            refine HRI.out.mono ?_
            rintro e w1 ⟨rfl, b1⟩
            have HB1 := hid (HB.out.trans (b1.mono hwz))
            clear b1 HRI a0 a1 a2
            go_wp2
            have HN0 := hid (show ∀ j x, j < 0 → l[j]? = some x → mt (toT x) (toT (g0, g1, g2)) = false from fun j x hj => absurd hj (Nat.not_lt_zero _))
            have HOKS := hid ((flt_fin _).1 HFT.out).1
            go_loopw [8] (fun x wk => ∃ (k : Nat), x = .int .i64 (k : Int) ∧ k ≤ i ∧ Hid (∀ j x, j < k → l[j]? = some x → mt (toT x) (toT (g0, g1, g2)) = false) ∧ Hid (Below w.heap.size w wk)) (fun x _ => i - (intOf x).toNat)
            case atStart => exact ⟨0, rfl, by omega, HN0, HB1⟩
            case round =>
              obtain ⟨k, rfl, hki, HNE, HBK⟩ := hrel
              by_cases hkl : k < i
              · have hkL : k < l.length := by omega
                obtain ⟨a', ea, _, x0, x1, _⟩ := HRD.out wr HBK.out k l[k] (List.getElem?_eq_getElem hkL)
                cases ea
                obtain ⟨a', ea, _, y0, y1, _⟩ := HRD.out wr HBK.out i (g0, g1, g2) HGE.out
                cases ea
                have hxok : okR l[k] = true := HOKS.out l[k] (List.mem_of_getElem? (i := k) (by rw [List.getElem?_take, if_pos hkl]; exact List.getElem?_eq_getElem hkL))
                have hmo := HMO2.out l[k] hxok
                have HXE := hid (List.getElem?_eq_getElem hkL)
                have HHX := hid (fun (hm : mt (toT (l[k]'hkL)) (toT (g0, g1, g2)) = true) => HHI2.out k (l[k]'hkL) hkl (List.getElem?_eq_getElem hkL) hm)
                obtain ⟨x, hx⟩ : ∃ x, x = l[k] := ⟨_, rfl⟩
                rw [← hx] at x0 x1 hmo HXE HHX
                obtain ⟨p0, p1, p2⟩ := x
                dsimp only at x0 x1 y0 y1 hmo
                have k3 : (k : Int) < (n : Int) := by omega
                have k0 : (0 : Int) ≤ (k : Int) := by omega
                have k4 : (k : Int) < (i : Int) := by omega
                clear hx hxok
                by_cases q0 : p0 ≤ g1
                · by_cases q1 : g0 ≤ p1
                  · have HHZ := hid (HHX.out (by rw [hmo, decide_eq_true q0, decide_eq_true q1]; rfl))
                    clear hmo
                    go_wp2_with fail
                    go_quiet (fail)
                    have HBQ := hid (HBK.out.trans (below_drewN w.heap.size wr nq))
                    obtain ⟨W, hW⟩ : ∃ W, W = wr.drewN nq := ⟨_, rfl⟩
                    rw [← hW] at HBQ ⊢
                    clear hW x0 x1 y0 y1
                    go_wp2
                    go_ret3
                    exact ⟨HBQ.out, .inl ⟨8, i, HZ.out.trans HHZ.out, rfl⟩⟩
                  · have HMF := hid (show mt (toT (p0, p1, p2)) (toT (g0, g1, g2)) = false by rw [hmo, decide_eq_false q1, Bool.and_false])
                    clear hmo
                    have HNE2 := hid (show ∀ j x, j < k + 1 → l[j]? = some x → mt (toT x) (toT (g0, g1, g2)) = false from fun j x hj hx => by
                      by_cases hjk : j = k
                      · subst hjk
                        rw [HXE.out] at hx
                        cases hx
                        exact HMF.out
                      · exact HNE.out j x (by omega) hx)
                    go_wp2_with fail
                    go_quiet (fail)
                    have HBQ := hid (HBK.out.trans (below_drewN w.heap.size wr nq))
                    obtain ⟨W, hW⟩ : ∃ W, W = wr.drewN nq := ⟨_, rfl⟩
                    rw [← hW] at HBQ ⊢
                    clear hW x0 x1 y0 y1
                    go_wp2
                    go_roundw
                    case rel => exact ⟨k + 1, by go_num, by omega, HNE2, HBQ⟩
                    case measure => simp [intOf]; omega
                · have HMF := hid (show mt (toT (p0, p1, p2)) (toT (g0, g1, g2)) = false by rw [hmo, decide_eq_false q0, Bool.false_and])
                  clear hmo
                  have q0d : decide (p0 ≤ g1) = false := decide_eq_false q0
                  have q0l : g1 < p0 := by omega
                  have HNE2 := hid (show ∀ j x, j < k + 1 → l[j]? = some x → mt (toT x) (toT (g0, g1, g2)) = false from fun j x hj hx => by
                    by_cases hjk : j = k
                    · subst hjk
                      rw [HXE.out] at hx
                      cases hx
                      exact HMF.out
                    · exact HNE.out j x (by omega) hx)
                  go_wp2_with fail
                  go_quiet (fail)
                  have HBQ := hid (HBK.out.trans (below_drewN w.heap.size wr nq))
                  obtain ⟨W, hW⟩ : ∃ W, W = wr.drewN nq := ⟨_, rfl⟩
                  rw [← hW] at HBQ ⊢
                  clear hW x0 x1 y0 y1
                  go_wp2
                  go_roundw
                  case rel => exact ⟨k + 1, by go_num, by omega, HNE2, HBQ⟩
                  case measure => simp [intOf]; omega
              · have k4 : ¬ (k : Int) < (i : Int) := by omega
                have hke : k = i := by omega
                have HFN := hid (HNX2.out (fun j x hj hx => HNE.out j x (by omega) hx))
                clear hke
                go_wp2
                go_roundw
                case rel => exact ⟨i + 1, by go_num, by omega, HFN, HBK⟩
                case measure => simp [intOf]; omega
          · have hok' : okR (g0, g1, g2) = false := by simpa using hok
            rw [hok'] at HRI
            have HBD := hid (HBAD.out hok)
            clear hok hok'
            go_wp2_with fail
            refine HRI.out.mono ?_
            rintro e w1 ⟨rfl, b1⟩
            have HB1 := hid (HB.out.trans (b1.mono hwz))
            clear b1 HRI
            go_wp2
            go_ret3
            exact ⟨HB1.out, .inl ⟨30, i, HZ.out.trans HBD.out, rfl⟩⟩
        · have i3 : ¬ (i : Int) < (n : Int) := by omega
          have hfl : flt [] 0 l = none := by
            have h5 := HFT.out
            rw [List.take_of_length_le (by have h6 := HN.out; omega)] at h5
            exact h5
          obtain ⟨r0, hr0⟩ : ∃ r0 : Nat, r = (r0 : Int) := ⟨r.toNat, by unfold icl at hr; have := of_decide_eq_true hr; omega⟩
          subst hr0
          have hr1 : r0 < 256 := by unfold icl at hr; have := of_decide_eq_true hr; omega
          have hrt : ((r0 : Int)).toNat = r0 := by omega
          have hwz := HB.out.size
          have HSO := hid (sorted_any ao ac l wr (HA.out.below HB.out) (by have h5 := HN.out; omega) hfl)
          rw [← HN.out] at HSO
          have HRS := hid (srt_ris l [] 0 trivial hfl)
          have HSL := hid (show (srt [] l).length = n by rw [srt_len, ← HN.out])
          have HFL := hid hfl
          clear hfl
          go_wp2_with fail
          refine HSO.out.mono ?_
          rintro e w1 ⟨v1, rfl, o1, b1⟩
          obtain ⟨yo, yc, rfl⟩ := own_form o1
          have HB1 := hid (HB.out.trans (b1.mono hwz))
          have HNO := hid (normal_any yo yc (srt [] l) r0 w1 (rd_own o1) (by have h5 := HSL.out; omega) hr1 HRS.out)
          rw [HSL.out] at HNO
          clear o1 b1 HSO
          go_wp2_with fail
          refine HNO.out.mono ?_
          rintro e w2 ⟨v2, rfl, o2, b2⟩
          obtain ⟨zo, zc, rfl⟩ := own_form o2
          have HB2 := hid (HB1.out.trans (b2.mono HB1.out.size))
          have hw12 : w.heap.size ≤ w1.heap.size := HB1.out.size
          have HO2 := hid (own_mono o2 hw12)
          obtain ⟨ml, hml⟩ : ∃ ml, ml = (nrA r0 [] (srt [] l)).length := ⟨_, rfl⟩
          rw [← hml] at HO2 ⊢
          have HML := hid hml
          have hw2 : w.heap.size ≤ w2.heap.size := HB2.out.size
          have HB3 := hid (HB2.out.alloc hw2 (.cells #[.slice zo ml zc, .int .i64 (r0 : Int)] 74))
          have HRT := hid (show RtAt w.heap.size w2.heap.size (nrA r0 [] (srt [] l)) r0 (w2.alloc (.cells #[.slice zo ml zc, .int .i64 (r0 : Int)] 74)) from ⟨_, heap_alloc_new w2 _, by rw [← HML.out]; exact HO2.out.alloc _⟩)
          clear o2 b2 HNO hml
          go_wp2
          go_ret3
          exact ⟨HB3.out, .inr ⟨HZ.out.trans HFL.out, _, rfl, hw2, by rw [hrt]; exact HRT.out⟩⟩
end Go.Proofs.Ytljlhlcoaajggaa
/- The contract of (*Table).Get (package kerfref03). -/
namespace Go.Proofs.Ytljlhlcoaajggaa
open Go.RowKit

/-- The class of a number, by ranges. -/
def gtR (r : Nat) (x : Int) : List Tr → Nat
  | [] => r
  | g :: A => if (g.1 : Int) ≤ x ∧ x ≤ (g.2.1 : Int) then g.2.2 else gtR r x A
theorem gtR_drop (r : Nat) (x : Int) (L : List Tr) (i : Nat) (hi : i < L.length) : gtR r x (L.drop i) = if ((L[i]).1 : Int) ≤ x ∧ x ≤ ((L[i]).2.1 : Int) then (L[i]).2.2 else gtR r x (L.drop (i + 1)) := by
  rw [List.drop_eq_getElem_cons hi]
  rfl
theorem gtR_low (r : Nat) : ∀ (A : List Tr) (b : Nat) (x : Int), x < (b : Int) → Ris b A → gtR r x A = r
  | [], _, _, _, _ => rfl
  | g :: A, b, x, hx, h => by
    obtain ⟨h1, h2, h3, h4, h5⟩ := h
    show (if (g.1 : Int) ≤ x ∧ x ≤ (g.2.1 : Int) then g.2.2 else gtR r x A) = r
    rw [if_neg (by omega)]
    exact gtR_low r A (g.2.1 + 1) x (by omega) h5
theorem gtR_high (r : Nat) : ∀ (A : List Tr) (b : Nat) (x : Int), (1114111 : Int) < x → Ris b A → gtR r x A = r
  | [], _, _, _, _ => rfl
  | g :: A, b, x, hx, h => by
    obtain ⟨h1, h2, h3, h4, h5⟩ := h
    show (if (g.1 : Int) ≤ x ∧ x ≤ (g.2.1 : Int) then g.2.2 else gtR r x A) = r
    rw [if_neg (by omega)]
    exact gtR_high r A (g.2.1 + 1) x hx h5
theorem gtR_clq (r : Nat) : ∀ (A : List Tr) (b x : Nat), b ≤ x → Ris b A → gtR r (x : Int) A = (clq r b A)[x - b]?.getD r
  | [], _, _, _, _ => rfl
  | g :: A, b, x, hx, h => by
    obtain ⟨h1, h2, h3, h4, h5⟩ := h
    show (if (g.1 : Int) ≤ (x : Int) ∧ (x : Int) ≤ (g.2.1 : Int) then g.2.2 else gtR r x A) = (List.replicate (g.1 - b) r ++ (List.replicate (g.2.1 + 1 - g.1) g.2.2 ++ clq r (g.2.1 + 1) A))[x - b]?.getD r
    by_cases q : x < g.1
    · rw [if_neg (by omega), gtR_low r A (g.2.1 + 1) x (by omega) h5, List.getElem?_append_left (by rw [List.length_replicate]; omega), List.getElem?_replicate, if_pos (by omega)]
      rfl
    · rw [List.getElem?_append_right (by rw [List.length_replicate]; omega), List.length_replicate]
      by_cases q2 : x ≤ g.2.1
      · rw [if_pos (by omega), List.getElem?_append_left (by rw [List.length_replicate]; omega), List.getElem?_replicate, if_pos (by omega)]
        rfl
      · rw [if_neg (by omega), List.getElem?_append_right (by rw [List.length_replicate]; omega), List.length_replicate, gtR_clq r A (g.2.1 + 1) x (by omega) h5]
        rw [show x - b - (g.1 - b) - (g.2.1 + 1 - g.1) = x - (g.2.1 + 1) by omega]
/-- By ranges or number by number: the same class. -/
theorem gtR_clA (r : Nat) (L : List Tr) (x : Nat) (hx : x < 1114112) (h : Ris 0 L) : gtR r (x : Int) L = (clA r L).getD x 0 := by
  rw [gtR_clq r L 0 x (Nat.zero_le _) h, Nat.sub_zero, List.getD_eq_getElem?_getD]
  unfold clA
  by_cases q : x < (clq r 0 L).length
  · rw [List.getElem?_append_left q, List.getElem?_eq_getElem q]
    rfl
  · rw [List.getElem?_append_right (by omega), List.getElem?_replicate, if_pos (by omega), List.getElem?_eq_none (by omega)]
    rfl
theorem RtAt.row {B P : Nat} {L : List Tr} {r : Nat} {w : World} (h : RtAt B P L r w) : ∃ ao ac, w.cell? ⟨P, 0, none⟩ = some (.slice ao L.length ac) ∧ w.cell? ⟨P, 1, none⟩ = some (.int .i64 (r : Int)) ∧ P < w.heap.size ∧ w.ownsRow B 36 3 (.slice ao L.length ac) L.length (rks L) := by
  obtain ⟨v, h1, h2⟩ := h
  obtain ⟨ao, ac, rfl⟩ := own_form h2
  exact ⟨ao, ac, by simp [World.cell?, h1], by simp [World.cell?, h1], lt_of_heap h1, h2⟩

set_option maxHeartbeats 6000000 in
set_option maxRecDepth 100000 in
theorem rget_any (B P : Nat) (L : List Tr) (r : Nat) (x : Int) (w : World) (h : RtAt B P L r w) (hl : L.length ≤ 1000000000) :
    Calls Try.prog 45 #[.pointer (some ⟨P, 0, none⟩), .int .i32 x] w fun e w' => e = .returned (.int .i64 ((gtR r x L : Nat) : Int)) ∧ w' = w := by
  obtain ⟨ao, ac, d0, d1, hP, ho⟩ := h.row
  have HA := hid (rd_own ho)
  obtain ⟨n, hn⟩ : ∃ n, n = L.length := ⟨_, rfl⟩
  rw [← hn] at hl d0
  have HN := hid hn
  clear h ho hn
  have HG0 := hid (show gtR r x L = gtR r x (L.drop 0) from rfl)
  go_enter Try.func45, Try.ntmps45
  go_wp2
  go_loopw [5] (fun y wr => ∃ (i : Nat), y = .int .i64 (i : Int) ∧ i ≤ n ∧ Hid (gtR r x L = gtR r x (L.drop i)) ∧ wr = w) (fun y _ => n - (intOf y).toNat)
  case atStart => exact ⟨0, rfl, by omega, HG0, rfl⟩
  case round =>
    obtain ⟨i, rfl, hi, HG, hw⟩ := hrel
    obtain rfl := hw.symm
    by_cases hlt : i < n
    · have hiL : i < L.length := by have h5 := HN.out; omega
      obtain ⟨a, rfl, _, a0, a1, a2⟩ := HA.out i (rkT L[i]) (by rw [List.getElem?_map, List.getElem?_eq_getElem hiL]; rfl)
      have i3 : (i : Int) < (n : Int) := by omega
      have i0 : (0 : Int) ≤ (i : Int) := by omega
      have HGD := hid (HG.out.trans (gtR_drop r x L i hiL))
      obtain ⟨g, hg⟩ : ∃ g, g = L[i] := ⟨_, rfl⟩
      rw [← hg] at a0 a1 a2 HGD
      obtain ⟨g0, g1, g2⟩ := g
      unfold rkT at a0 a1 a2
      dsimp only at a0 a1 a2 HGD
      clear hg hiL
      by_cases q0 : (g0 : Int) ≤ x
      · by_cases q1 : x ≤ (g1 : Int)
        · have HGZ := hid (HGD.out.trans (if_pos ⟨q0, q1⟩))
          go_wp2
          go_ret
          exact ⟨by rw [HGZ.out]; rfl, rfl⟩
        · have HGZ := hid (HGD.out.trans (if_neg (fun h => q1 h.2)))
          go_wp2
          go_roundw
          case rel => exact ⟨i + 1, by go_num, by omega, HGZ, trivial⟩
          case measure => simp [intOf]; omega
      · have HGZ := hid (HGD.out.trans (if_neg (fun h => q0 h.1)))
        go_wp2
        go_roundw
        case rel => exact ⟨i + 1, by go_num, by omega, HGZ, trivial⟩
        case measure => simp [intOf]; omega
    · have i3 : ¬ (i : Int) < (n : Int) := by omega
      have HGZ := hid (show gtR r x L = r by rw [HG.out, List.drop_of_length_le (by have h5 := HN.out; omega)]; rfl)
      go_wp2
      go_ret
      exact ⟨by rw [HGZ.out]; rfl, rfl⟩
end Go.Proofs.Ytljlhlcoaajggaa
/- The contract of (*Table).All (package kerfref03). -/
namespace Go.Proofs.Ytljlhlcoaajggaa
open Go.RowKit

/-- Ranges, and those of the rest between them. -/
def alP (r : Nat) : Nat → List Tr → List Tr
  | _, [] => []
  | b, g :: A => (if b < g.1 then [(b, g.1 - 1, r)] else []) ++ g :: alP r (g.2.1 + 1) A
theorem endR_cons (b : Nat) (x : Tr) (P : List Tr) : endR b (x :: P) = endR (x.2.1 + 1) P := by
  unfold endR
  rw [List.getLast?_cons]
  cases P.getLast? <;> rfl
theorem alP_snoc (r : Nat) : ∀ (P : List Tr) (b : Nat) (g : Tr), alP r b (P ++ [g]) = alP r b P ++ (if endR b P < g.1 then [(endR b P, g.1 - 1, r)] else []) ++ [g]
  | [], b, g => rfl
  | x :: P, b, g => by
    have ih := alP_snoc r P (x.2.1 + 1) g
    show (if b < x.1 then [(b, x.1 - 1, r)] else []) ++ x :: alP r (x.2.1 + 1) (P ++ [g]) = _
    rw [ih, endR_cons]
    simp [alP]
theorem alP_len (r : Nat) : ∀ (P : List Tr) (b : Nat), (alP r b P).length ≤ 2 * P.length
  | [], _ => by simp [alP]
  | x :: P, b => by
    have ih := alP_len r P (x.2.1 + 1)
    show ((if b < x.1 then [(b, x.1 - 1, r)] else []) ++ x :: alP r (x.2.1 + 1) P).length ≤ _
    rw [List.length_append, List.length_cons, List.length_cons]
    split <;> simp <;> omega
/-- The ranges of all numbers. -/
def alA (r : Nat) (L : List Tr) : List Tr := alP r 0 L ++ (if endR 0 L ≤ 1114111 then [(endR 0 L, 1114111, r)] else [])

set_option maxHeartbeats 6000000 in
set_option maxRecDepth 100000 in
theorem rall_any (B' P : Nat) (L : List Tr) (r : Nat) (w : World) (h : RtAt B' P L r w) (hl : L.length ≤ 1000000) (hR : Ris 0 L) :
    Calls Try.prog 44 #[.pointer (some ⟨P, 0, none⟩)] w fun e w' => ∃ v', e = .returned v' ∧ w'.ownsRow w.heap.size 36 3 v' (alA r L).length (rks (alA r L)) ∧ Below w.heap.size w w' := by
  obtain ⟨i0, hi36, hz0, hz1, hz2⟩ := info_parts Try.info36
  obtain ⟨ao, ac, d0, d1, hP, ho⟩ := h.row
  have HA := hid (rd_own ho)
  have HR := hid hR
  obtain ⟨n, hn⟩ : ∃ n, n = L.length := ⟨_, rfl⟩
  rw [← hn] at hl d0
  have HN := hid hn
  obtain ⟨B, hB⟩ : ∃ B, B = w.heap.size := ⟨_, rfl⟩
  have HBE := hid hB
  rw [← hB] at hP ⊢
  have HPC := hid (show ∀ W, Below B w W → W.cell? ⟨P, 0, none⟩ = some (.slice ao n ac) ∧ W.cell? ⟨P, 1, none⟩ = some (.int .i64 (r : Int)) from fun W hW => ⟨(hW.cell (p := ⟨P, 0, none⟩) hP).trans d0, (hW.cell (p := ⟨P, 1, none⟩) hP).trans d1⟩)
  clear h ho hn hB hR d0 d1
  go_enter Try.func44, Try.ntmps44
  go_wp2
  go_loopw [5, 3, 4] (fun x y z wr => ∃ (i m : Nat) (vo : Option Addr) (vc nx : Nat), x = .int .i64 (i : Int) ∧ y = .slice vo m vc ∧ z = .int .i32 (nx : Int) ∧ i ≤ n ∧ nx ≤ 1114112 ∧ Hid (nx = endR 0 (L.take i)) ∧ Hid (m = (alP r 0 (L.take i)).length) ∧ Hid (wr.ownsRow B 36 3 (.slice vo m vc) m (rks (alP r 0 (L.take i)))) ∧ Hid (Below B w wr)) (fun x _ _ _ => n - (intOf x).toNat)
  case atStart => exact ⟨0, 0, none, 0, 0, rfl, rfl, rfl, by omega, by omega, rfl, rfl, World.ownsRow_nil w B 36 3, Below.refl _ _⟩
  case round =>
    obtain ⟨i, m, vo, vc, nx, rfl, rfl, rfl, hi, hnx, HNX, HM, HO, HB⟩ := hrel
    have hwB : B ≤ wr.heap.size := by have h5 := HBE.out; have h6 := HB.out.size; omega
    have hml : m ≤ 2000000 := by
      have h5 := alP_len r (L.take i) 0
      rw [List.length_take] at h5
      have h6 := HM.out
      omega
    by_cases hlt : i < n
    · have hiA : i < L.length := by have h5 := HN.out; omega
      have HAC := hid (show ∀ W, Below B w W → ∃ a : Addr, ao = some a ∧ W.cell? (a.add (i * 3)) = some (.int .i32 (L[i].1 : Int)) ∧ W.cell? ⟨(a.add (i * 3)).block, (a.add (i * 3)).off + 1, none⟩ = some (.int .i32 (L[i].2.1 : Int)) ∧ W.cell? ⟨(a.add (i * 3)).block, (a.add (i * 3)).off + 2, none⟩ = some (.int .i64 (L[i].2.2 : Int)) from fun W hW => by
        obtain ⟨a, e, _, c0, c1, c2⟩ := HA.out.below (show Below w.heap.size w W by have h5 := HBE.out; rw [← h5]; exact hW) i (rkT L[i]) (by rw [List.getElem?_map, List.getElem?_eq_getElem hiA]; rfl)
        exact ⟨a, e, c0, c1, c2⟩)
      have HSN := hid (show alP r 0 (L.take (i + 1)) = alP r 0 (L.take i) ++ (if endR 0 (L.take i) < L[i].1 then [(endR 0 (L.take i), L[i].1 - 1, r)] else []) ++ [L[i]] by rw [List.take_succ_eq_append_getElem hiA, alP_snoc])
      have HE3 := hid (show L[i].2.1 + 1 = endR 0 (L.take (i + 1)) by rw [List.take_succ_eq_append_getElem hiA, endR_snoc])
      rw [← HNX.out] at HSN
      obtain ⟨h1, h2, h3, h4⟩ := ris_mem HR.out L[i] (List.getElem_mem hiA)
      obtain ⟨g, hg⟩ : ∃ g, g = L[i] := ⟨_, rfl⟩
      rw [← hg] at HAC HSN HE3 h1 h2 h3 h4
      obtain ⟨o, hob⟩ : ∃ o, o = alP r 0 (L.take i) := ⟨_, rfl⟩
      rw [← hob] at HM HO HSN
      obtain ⟨g0, g1, g2⟩ := g
      dsimp only at HAC HSN HE3 h1 h2 h3 h4
      have i3 : (i : Int) < (n : Int) := by omega
      have i0' : (0 : Int) ≤ (i : Int) := by omega
      have k5 : IntKind.i32.wrap ((g1 : Int) + 1) = ((g1 + 1 : Nat) : Int) := by rw [IntKind.wrap_i32]; omega
      clear hg hob hiA h1
      obtain ⟨a, rfl, c0, c1, c2⟩ := HAC.out wr HB.out
      obtain ⟨d0, d1⟩ := HPC.out wr HB.out
      by_cases hgt : nx < g0
      · obtain ⟨gm, hgm⟩ : ∃ gm, gm = g0 - 1 := ⟨_, rfl⟩
        have hgt' : (nx : Int) < (g0 : Int) := by omega
        rw [if_pos hgt, ← hgm] at HSN
        have k1 : IntKind.i32.wrap ((g0 : Int) - 1) = (gm : Int) := by rw [IntKind.wrap_i32]; omega
        have HML := hid (show m + 1 = (o ++ [(nx, gm, r)]).length by rw [List.length_append]; have h5 := HM.out; simp; omega)
        have HBD := hid (HB.out.trans (show Below B wr wr.drew from ⟨rfl, rfl, rfl, Nat.le_refl _, fun _ _ => rfl⟩))
        have HOD := hid (show wr.drew.ownsRow B 36 3 (.slice vo m vc) m (rks o) from HO.out)
        have HSS := hid (show wr.drew.cell? ⟨P, 0, none⟩ = some (.slice (some a) n ac) ∧ wr.drew.cell? ⟨P, 1, none⟩ = some (.int .i64 (r : Int)) ∧ wr.drew.cell? (a.add (i * 3)) = some (.int .i32 (g0 : Int)) from ⟨d0, d1, c0⟩)
        clear hgm
        go_wp2_with fail
        refine wp_region_noPanic ?_
        refine wp_region_holdG 16 (fun w' => w'.cell? ⟨P, 0, none⟩ = some (.slice (some a) n ac) ∧ w'.cell? ⟨P, 1, none⟩ = some (.int .i64 (r : Int)) ∧ w'.cell? (a.add (i * 3)) = some (.int .i32 (g0 : Int))) (fun _ => false) (by kernel_rfl) (by kernel_rfl) (by decide) (fun j hj => by cases hj) (by kernel_rfl) (fun _ _ _ _ _ h => h) ⟨d0, d1, c0⟩ ?_
        dsimp only [List.take, List.drop]
        iterate 5 (refine wpHold_step ?_ rfl (fun w' hS => ?_) ?_; (rotate_left; (obtain ⟨s1, s2, s3⟩ := hS; go_simp; with_reducible rfl); rotate_left))
        simp only [Act.put, List.setIfInBounds_toArray, List.set_cons_zero, List.set_cons_succ]
        iterate 5 (refine wpHold_step ?_ rfl (fun w' hS => ?_) ?_; (rotate_left; (obtain ⟨s1, s2, s3⟩ := hS; go_simp; with_reducible rfl); rotate_left))
        simp only [Act.put, List.setIfInBounds_toArray, List.set_cons_zero, List.set_cons_succ]
        iterate 6 (refine wpHold_step ?_ rfl (fun w' hS => ?_) ?_; (rotate_left; (obtain ⟨s1, s2, s3⟩ := hS; go_simp; with_reducible rfl); rotate_left))
        simp only [Act.put, List.setIfInBounds_toArray, List.set_cons_zero, List.set_cons_succ]
        show wpTailG _ _ _ _ _ _ _ _ _
        obtain ⟨W, hW⟩ : ∃ W, W = wr.drew := ⟨_, rfl⟩
        rw [← hW] at HBD HOD HSS ⊢
        clear hW c0 c1 c2 d0 d1 HO HB
        have hwD : B ≤ W.heap.size := by have h5 := HBE.out; have h6 := HBD.out.size; omega
        refine tailG_yes (by kernel_rfl) fun KK hKK => ?_
        go_simp
        have HBA := hid (HBD.out.alloc hwD (.cells #[.int .i32 (nx : Int), .int .i32 (gm : Int), .int .i64 (r : Int)] 36))
        have HSK := hid (show ∀ V, Below B w V → (V.cell? ⟨P, 0, none⟩ = some (.slice (some a) n ac) ∧ V.cell? ⟨P, 1, none⟩ = some (.int .i64 (r : Int)) ∧ V.cell? (a.add (i * 3)) = some (.int .i32 (g0 : Int))) from fun V hV => by
          obtain ⟨x0, x1⟩ := HPC.out V hV
          obtain ⟨a', ea, y0, _⟩ := HAC.out V hV
          cases ea
          exact ⟨x0, x1, y0⟩)
        refine hKK _ _ (fun _ => HSK.out _ HBA.out) ?_
        clear hKK KK
        try simp only [Act.put, List.setIfInBounds_toArray, List.set_cons_zero, List.set_cons_succ]
        refine tailG_yes (by kernel_rfl) fun KK hKK => ?_
        refine wp_append_lies _ _ _ 25 rfl B 36 i0 (.agg #[.int .i32 0, .int .i32 0, .int .i64 0]) 3 16 Try.underlying25 hi36 hz0 hz1 hz2 rfl (by decide) _ m (rks o) rfl (HOD.out.alloc _) ⟨W.heap.size, 0, none⟩ 1 1 (rkc ((nx : Int), (gm : Int), (r : Int))) rfl rfl (news_k W ((nx : Int), (gm : Int), (r : Int)) 36) (rkc_one _) (by decide) (by unfold maxLen; omega) (by omega) (by simp; omega) (W.heap.size + 1) (by simp) ?_
        intro q2 cc2 w2 o2 gr2 hl2 hlt2
        have HB2 := hid (HBA.out.grown gr2 (by simp; omega) (fun k hk => (HOD.out.lt k hk).1))
        have HO2 := hid (show w2.ownsRow B 36 3 (.slice (some ⟨q2, 0, none⟩) (m + 1) cc2) (m + 1) (rks (o ++ [(nx, gm, r)])) by rw [show rks (o ++ [(nx, gm, r)]) = rks o ++ rkc ((nx : Int), (gm : Int), (r : Int)) by simp [rks, rkT]]; exact o2)
        refine hKK _ _ (fun _ => HSK.out _ HB2.out) ?_
        clear hKK KK o2 gr2 hl2 hlt2
        try simp only [Act.put, List.setIfInBounds_toArray, List.set_cons_zero, List.set_cons_succ]
        refine tailG_yes (by kernel_rfl) fun KK hKK => ?_
        go_simp
        refine hKK _ _ (fun _ => HSK.out _ HB2.out) ?_
        clear hKK KK
        try simp only [Act.put, List.setIfInBounds_toArray, List.set_cons_zero, List.set_cons_succ]
        refine tailG_nil (NoPanic.normal ?_)
        clear HBA HBD HOD HSS HSK
        obtain ⟨f0, f1⟩ := HPC.out w2 HB2.out
        obtain ⟨a', ea, c0, c1, c2⟩ := HAC.out w2 HB2.out
        cases ea
        have hwW : B ≤ w2.heap.size := by have h5 := HBE.out; have h6 := HB2.out.size; omega
        go_wp2_with (at_builtin; refine wpList_append_lies _ rfl _ _ 25 rfl B 36 i0 (.agg #[.int .i32 0, .int .i32 0, .int .i64 0]) 3 16 Try.underlying25 hi36 hz0 hz1 hz2 rfl (by decide) _ (m + 1) (rks (o ++ [(nx, gm, r)])) rfl (HO2.out.alloc _) ⟨w2.heap.size, 0, none⟩ 1 1 (rkc ((g0 : Int), (g1 : Int), (g2 : Int))) rfl rfl (news_k w2 ((g0 : Int), (g1 : Int), (g2 : Int)) 36) (rkc_one _) (by decide) (by unfold maxLen; omega) (by omega) (by simp; omega) (w2.heap.size + 1) (by simp) ?_; intro q3 c3 w3 o3 gr3 hl3 hlt3; have HB3 := hid ((HB2.out.alloc hwW (.cells #[.int .i32 (g0 : Int), .int .i32 (g1 : Int), .int .i64 (g2 : Int)] 36)).grown gr3 (by simp; omega) (fun k hk => (HO2.out.lt k hk).1)); have HO3 := hid (show w3.ownsRow B 36 3 (.slice (some ⟨q3, 0, none⟩) ((m + 1) + 1) c3) ((m + 1) + 1) (rks (alP r 0 (L.take (i + 1)))) by rw [HSN.out, show rks ((o ++ [(nx, gm, r)]) ++ [(g0, g1, g2)]) = rks (o ++ [(nx, gm, r)]) ++ rkc ((g0 : Int), (g1 : Int), (g2 : Int)) by simp [rks, rkT]]; exact o3); have HM3 := hid (show (m + 1) + 1 = (alP r 0 (L.take (i + 1))).length by rw [HSN.out, List.length_append, ← HML.out]; rfl); clear o3 gr3 hl3 hlt3 f0 f1 c0 c1 c2; obtain ⟨f0, f1⟩ := HPC.out w3 HB3.out; obtain ⟨a', ea, c0, c1, c2⟩ := HAC.out w3 HB3.out; cases ea)
        go_roundw
        case rel => exact ⟨i + 1, (m + 1) + 1, some ⟨q3, 0, none⟩, c3, g1 + 1, by go_num, rfl, rfl, by omega, by omega, HE3, HM3, HO3, HB3⟩
        case measure => simp [intOf]; omega
      · have hgt' : ¬ (nx : Int) < (g0 : Int) := by omega
        rw [if_neg hgt, List.append_nil] at HSN
        have HML := hid (show m = o.length from HM.out)
        clear c0 c1 c2 d0 d1
        obtain ⟨f0, f1⟩ := HPC.out wr HB.out
        obtain ⟨a', ea, c0, c1, c2⟩ := HAC.out wr HB.out
        cases ea
        have hwW : B ≤ wr.heap.size := by have h5 := HBE.out; have h6 := HB.out.size; omega
        go_wp2_with (at_builtin; refine wpList_append_lies _ rfl _ _ 25 rfl B 36 i0 (.agg #[.int .i32 0, .int .i32 0, .int .i64 0]) 3 16 Try.underlying25 hi36 hz0 hz1 hz2 rfl (by decide) _ m (rks (o)) rfl (HO.out.alloc _) ⟨wr.heap.size, 0, none⟩ 1 1 (rkc ((g0 : Int), (g1 : Int), (g2 : Int))) rfl rfl (news_k wr ((g0 : Int), (g1 : Int), (g2 : Int)) 36) (rkc_one _) (by decide) (by unfold maxLen; omega) (by omega) (by simp; omega) (wr.heap.size + 1) (by simp) ?_; intro q3 c3 w3 o3 gr3 hl3 hlt3; have HB3 := hid ((HB.out.alloc hwW (.cells #[.int .i32 (g0 : Int), .int .i32 (g1 : Int), .int .i64 (g2 : Int)] 36)).grown gr3 (by simp; omega) (fun k hk => (HO.out.lt k hk).1)); have HO3 := hid (show w3.ownsRow B 36 3 (.slice (some ⟨q3, 0, none⟩) (m + 1) c3) (m + 1) (rks (alP r 0 (L.take (i + 1)))) by rw [HSN.out, show rks ((o) ++ [(g0, g1, g2)]) = rks (o) ++ rkc ((g0 : Int), (g1 : Int), (g2 : Int)) by simp [rks, rkT]]; exact o3); have HM3 := hid (show m + 1 = (alP r 0 (L.take (i + 1))).length by rw [HSN.out, List.length_append, ← HML.out]; rfl); clear o3 gr3 hl3 hlt3 f0 f1 c0 c1 c2; obtain ⟨f0, f1⟩ := HPC.out w3 HB3.out; obtain ⟨a', ea, c0, c1, c2⟩ := HAC.out w3 HB3.out; cases ea)
        go_roundw
        case rel => exact ⟨i + 1, m + 1, some ⟨q3, 0, none⟩, c3, g1 + 1, by go_num, rfl, rfl, by omega, by omega, HE3, HM3, HO3, HB3⟩
        case measure => simp [intOf]; omega
    · have i3 : ¬ (i : Int) < (n : Int) := by omega
      have htk : L.take i = L := List.take_of_length_le (by have h5 := HN.out; omega)
      rw [htk] at HNX HM HO
      clear htk
      obtain ⟨d0, d1⟩ := HPC.out wr HB.out
      obtain ⟨o, hob⟩ : ∃ o, o = alP r 0 L := ⟨_, rfl⟩
      have HAL := hid (show alA r L = o ++ (if nx ≤ 1114111 then [(nx, 1114111, r)] else []) by unfold alA; rw [hob, ← HNX.out])
      rw [← hob] at HM HO
      clear hob
      by_cases hq : nx ≤ 1114111
      · have hq' : (nx : Int) ≤ 1114111 := by omega
        rw [if_pos hq] at HAL
        go_wp2_with (at_builtin; refine wpList_append_lies _ rfl _ _ 25 rfl B 36 i0 (.agg #[.int .i32 0, .int .i32 0, .int .i64 0]) 3 16 Try.underlying25 hi36 hz0 hz1 hz2 rfl (by decide) _ m (rks o) rfl (HO.out.alloc _) ⟨wr.heap.size, 0, none⟩ 1 1 (rkc ((nx : Int), (1114111 : Int), (r : Int))) rfl rfl (news_k wr ((nx : Int), (1114111 : Int), (r : Int)) 36) (rkc_one _) (by decide) (by unfold maxLen; omega) (by omega) (by simp; omega) (wr.heap.size + 1) (by simp) ?_; intro q3 c3 w3 o3 gr3 hl3 hlt3; have HB3 := hid ((HB.out.alloc hwB (.cells #[.int .i32 (nx : Int), .int .i32 (1114111 : Int), .int .i64 (r : Int)] 36)).grown gr3 (by simp; omega) (fun k hk => (HO.out.lt k hk).1)); have HO3 := hid (show w3.ownsRow B 36 3 (.slice (some ⟨q3, 0, none⟩) (m + 1) c3) (m + 1) (rks (alA r L)) by rw [HAL.out, show rks (o ++ [(nx, 1114111, r)]) = rks o ++ rkc ((nx : Int), (1114111 : Int), (r : Int)) by simp [rks, rkT]]; exact o3); have HM3 := hid (show m + 1 = (alA r L).length by rw [HAL.out, List.length_append, ← HM.out]; rfl); clear o3 gr3 hl3 hlt3)
        go_ret
        exact ⟨_, rfl, by rw [← HM3.out]; exact HO3.out, HB3.out⟩
      · have hq' : ¬ (nx : Int) ≤ 1114111 := by omega
        rw [if_neg hq, List.append_nil] at HAL
        go_wp2
        go_ret
        exact ⟨_, rfl, by rw [HAL.out, ← HM.out]; exact HO.out, HB.out⟩
end Go.Proofs.Ytljlhlcoaajggaa
/- The contract of (*Table).Count (package kerfref03). -/
namespace Go.Proofs.Ytljlhlcoaajggaa
open Go.RowKit

/-- How many numbers of a class lie in ranges. -/
def ctS (cl : Int) : List Tr → Nat
  | [] => 0
  | g :: A => (if (g.2.2 : Int) = cl then g.2.1 + 1 - g.1 else 0) + ctS cl A
theorem ctS_app (cl : Int) : ∀ A B : List Tr, ctS cl (A ++ B) = ctS cl A + ctS cl B
  | [], B => by simp [ctS]
  | g :: A, B => by
    have ih := ctS_app cl A B
    show (if (g.2.2 : Int) = cl then g.2.1 + 1 - g.1 else 0) + ctS cl (A ++ B) = (if (g.2.2 : Int) = cl then g.2.1 + 1 - g.1 else 0) + ctS cl A + ctS cl B
    rw [ih]; omega
theorem cz_app (cl : Int) (A B : List Nat) : cz cl (A ++ B) = cz cl A + cz cl B := by unfold cz; exact List.countP_append
theorem ctS_alP (cl : Int) (r : Nat) : ∀ (A : List Tr) (b : Nat), ctS cl (alP r b A) = cz cl (clq r b A)
  | [], _ => rfl
  | g :: A, b => by
    have ih := ctS_alP cl r A (g.2.1 + 1)
    show ctS cl ((if b < g.1 then [(b, g.1 - 1, r)] else []) ++ g :: alP r (g.2.1 + 1) A) = cz cl (List.replicate (g.1 - b) r ++ (List.replicate (g.2.1 + 1 - g.1) g.2.2 ++ clq r (g.2.1 + 1) A))
    rw [ctS_app, cz_app, cz_app, cz_rep, cz_rep, ← ih]
    show _ + ((if (g.2.2 : Int) = cl then g.2.1 + 1 - g.1 else 0) + ctS cl (alP r (g.2.1 + 1) A)) = _
    have e : ctS cl (if b < g.1 then [(b, g.1 - 1, r)] else []) = if (r : Int) = cl then g.1 - b else 0 := by
      by_cases q : b < g.1
      · rw [if_pos q]
        show (if (r : Int) = cl then g.1 - 1 + 1 - b else 0) + 0 = _
        rw [show g.1 - 1 + 1 - b = g.1 - b by omega, Nat.add_zero]
      · rw [if_neg q, show g.1 - b = 0 by omega]
        show 0 = _
        simp
    rw [e]
theorem ctS_alA (cl : Int) (r : Nat) (L : List Tr) (h : Ris 0 L) : ctS cl (alA r L) = cz cl (clA r L) := by
  unfold alA clA
  have e1 := clq_end r L 0 h
  rw [ctS_app, cz_app, cz_rep, ctS_alP]
  by_cases q : endR 0 L ≤ 1114111
  · rw [if_pos q]
    show _ + ((if (r : Int) = cl then 1114111 + 1 - endR 0 L else 0) + 0) = _
    rw [show 1114111 + 1 - endR 0 L = 1114112 - (clq r 0 L).length by omega, Nat.add_zero]
  · rw [if_neg q, show 1114112 - (clq r 0 L).length = 0 by omega]
    show _ + 0 = _
    simp
theorem alP_ok (r : Nat) : ∀ (A : List Tr) (b : Nat), Ris b A → ∀ g ∈ alP r b A, g.1 ≤ g.2.1 ∧ g.2.1 ≤ 1114111
  | [], _, _, g, hg => by cases hg
  | x :: A, b, h, g, hg => by
    obtain ⟨h1, h2, h3, h4, h5⟩ := h
    rcases List.mem_append.1 (show g ∈ (if b < x.1 then [(b, x.1 - 1, r)] else []) ++ x :: alP r (x.2.1 + 1) A from hg) with h6 | h6
    · split at h6
      · rw [List.mem_singleton.1 h6]
        dsimp only
        omega
      · cases h6
    · rcases List.mem_cons.1 h6 with h7 | h7
      · rw [h7]; exact ⟨h2, h3⟩
      · exact alP_ok r A (x.2.1 + 1) h5 g h7
theorem alA_ok (r : Nat) (L : List Tr) (h : Ris 0 L) (g : Tr) (hg : g ∈ alA r L) : g.1 ≤ g.2.1 ∧ g.2.1 ≤ 1114111 := by
  rcases List.mem_append.1 hg with h6 | h6
  · exact alP_ok r L 0 h g h6
  · split at h6
    · rw [List.mem_singleton.1 h6]
      dsimp only
      omega
    · cases h6
theorem alA_len (r : Nat) (L : List Tr) : (alA r L).length ≤ 2 * L.length + 1 := by
  have h1 := alP_len r L 0
  unfold alA
  rw [List.length_append]
  split <;> simp <;> omega
theorem ctS_le (cl : Int) : ∀ A : List Tr, (∀ g ∈ A, g.1 ≤ g.2.1 ∧ g.2.1 ≤ 1114111) → ctS cl A ≤ 1114112 * A.length
  | [], _ => Nat.le_refl _
  | g :: A, h => by
    have ih := ctS_le cl A fun x hx => h x (List.mem_cons_of_mem _ hx)
    have h1 := h g (List.mem_cons_self ..)
    show (if (g.2.2 : Int) = cl then g.2.1 + 1 - g.1 else 0) + ctS cl A ≤ 1114112 * (A.length + 1)
    split <;> omega

set_option maxHeartbeats 6000000 in
set_option maxRecDepth 100000 in
theorem rcount_any (B' P : Nat) (L : List Tr) (r : Nat) (cl : Int) (w : World) (h : RtAt B' P L r w) (hl : L.length ≤ 1000000) (hR : Ris 0 L) :
    Calls Try.prog 18 #[.pointer (some ⟨P, 0, none⟩), .int .i64 cl] w fun e w' => e = .returned (.int .i64 ((cz cl (clA r L) : Nat) : Int)) ∧ Below w.heap.size w w' := by
  have HAL := hid (rall_any B' P L r w h hl hR)
  have HCT := hid (ctS_alA cl r L hR)
  have HOK := hid (alA_ok r L hR)
  have hml := alA_len r L
  obtain ⟨M, hM⟩ : ∃ M, M = alA r L := ⟨_, rfl⟩
  rw [← hM] at HAL HCT HOK hml
  rw [← HCT.out]
  obtain ⟨n, hn⟩ : ∃ n, n = M.length := ⟨_, rfl⟩
  rw [← hn] at HAL hml
  have HN := hid hn
  have hn2 : n ≤ 2000001 := by omega
  clear h hR hM hn hml HCT
  go_enter Try.func18, Try.ntmps18
  go_wp2_with fail
  refine HAL.out.mono ?_
  rintro e w1 ⟨v1, rfl, o1, b1⟩
  obtain ⟨ao, ac, rfl⟩ := own_form o1
  have HA := hid (rd_own o1)
  have HB1 := hid b1
  clear o1 b1 HAL
  go_wp2
  go_loopw [7, 6] (fun x y wr => ∃ (i s : Nat), x = .int .i64 (i : Int) ∧ y = .int .i64 (s : Int) ∧ i ≤ n ∧ Hid (s = ctS cl (M.take i)) ∧ Hid (Below w1.heap.size w1 wr)) (fun x _ _ => n - (intOf x).toNat)
  case atStart => exact ⟨0, 0, rfl, rfl, by omega, rfl, Below.refl _ _⟩
  case round =>
    obtain ⟨i, s, rfl, rfl, hi, HS, HB⟩ := hrel
    by_cases hlt : i < n
    · have hiM : i < M.length := by have h5 := HN.out; omega
      obtain ⟨a, rfl, _, a0, a1, a2⟩ := HA.out.below HB.out i (rkT M[i]) (by rw [List.getElem?_map, List.getElem?_eq_getElem hiM]; rfl)
      have i3 : (i : Int) < (n : Int) := by omega
      have i0 : (0 : Int) ≤ (i : Int) := by omega
      have HNX := hid (show ctS cl (M.take (i + 1)) = s + ((if (M[i].2.2 : Int) = cl then M[i].2.1 + 1 - M[i].1 else 0) + 0) by rw [List.take_succ_eq_append_getElem hiM, ctS_app, ← HS.out]; rfl)
      have hs : s ≤ 1114112 * 2000001 := by
        have h5 := ctS_le cl (M.take i) fun g hg => HOK.out g (List.mem_of_mem_take hg)
        rw [List.length_take] at h5
        have h6 := HS.out
        have h7 := HN.out
        omega
      obtain ⟨h1, h2⟩ := HOK.out M[i] (List.getElem_mem hiM)
      obtain ⟨g, hg⟩ : ∃ g, g = M[i] := ⟨_, rfl⟩
      rw [← hg] at a0 a1 a2 HNX h1 h2
      obtain ⟨g0, g1, g2⟩ := g
      unfold rkT at a0 a1 a2
      dsimp only at a0 a1 a2 HNX h1 h2
      clear hg hiM
      by_cases q : (g2 : Int) = cl
      · have q' : ((g2 : Int) == cl) = true := by simpa using q
        rw [if_pos q, Nat.add_zero] at HNX
        obtain ⟨d, hd⟩ : ∃ d, d = g1 - g0 := ⟨_, rfl⟩
        have k1 : (g1 : Int) - (g0 : Int) = (d : Int) := by omega
        have k2 : IntKind.i32.wrap (d : Int) = (d : Int) := by rw [IntKind.wrap_i32]; omega
        have k3 : IntKind.i64.wrap (d : Int) = (d : Int) := by rw [IntKind.wrap_i64]; omega
        have k4 : IntKind.i64.wrap ((s : Int) + (d : Int)) = (s : Int) + (d : Int) := by rw [IntKind.wrap_i64]; omega
        have k5 : IntKind.i64.wrap ((s : Int) + (d : Int) + 1) = ((s + d + 1 : Nat) : Int) := by rw [IntKind.wrap_i64]; omega
        have HS2 := hid (show s + d + 1 = ctS cl (M.take (i + 1)) by rw [HNX.out]; omega)
        clear hd q
        go_wp2_with fail
        go_quiet (fail)
        have HBQ := hid (HB.out.trans (below_drewN w1.heap.size wr nq))
        obtain ⟨W, hW⟩ : ∃ W, W = wr.drewN nq := ⟨_, rfl⟩
        rw [← hW] at HBQ ⊢
        clear hW a0 a1 a2
        go_wp2
        go_roundw
        case rel => exact ⟨i + 1, s + d + 1, by go_num, rfl, by omega, HS2, HBQ⟩
        case measure => simp [intOf]; omega
      · have q' : ((g2 : Int) == cl) = false := by simpa using q
        rw [if_neg q, Nat.add_zero, Nat.add_zero] at HNX
        have HS2 := hid HNX.out.symm
        clear q
        go_wp2
        go_roundw
        case rel => exact ⟨i + 1, s, by go_num, rfl, by omega, HS2, HB⟩
        case measure => simp [intOf]; omega
    · have i3 : ¬ (i : Int) < (n : Int) := by omega
      have HSE := hid (show s = ctS cl M by rw [HS.out, List.take_of_length_le (by have h5 := HN.out; omega)])
      go_wp2
      go_ret
      exact ⟨by rw [← HSE.out]; rfl, HB1.out.trans (HB.out.mono HB1.out.size)⟩
end Go.Proofs.Ytljlhlcoaajggaa
/- What the document's Load takes is what Load takes. -/
namespace Go.Proofs.Ytljlhlcoaajggaa

/-- A number in as few bytes as can be, and what is left. -/
def tkq : Nat → List Nat → Option (Nat × List Nat)
  | 0, _ => none
  | _ + 1, [] => none
  | f + 1, c :: r => if c < 128 then some (c, r) else match tkq f r with
    | none => none
    | some (n, r') => if n = 0 then none else some (c % 128 + 128 * n, r')
def tk (c : List Nat) : Option (Nat × List Nat) := tkq 4 c
theorem tkq_vn : ∀ (f n : Nat) (c : List Nat), n < 128 ^ (f + 1) → tkq (f + 1) (vn n ++ c) = some (n, c)
  | f, n, c, h => by
    by_cases h1 : 128 ≤ n
    · cases f with
      | zero => simp at h; omega
      | succ f =>
        have ih := tkq_vn f (n / 128) c (by rw [Nat.pow_succ] at h; omega)
        rw [vn_more n h1]
        show (if n % 128 + 128 < 128 then _ else match tkq (f + 1) (vn (n / 128) ++ c) with | none => none | some (n', r') => if n' = 0 then none else some ((n % 128 + 128) % 128 + 128 * n', r')) = _
        rw [if_neg (by omega), ih]
        show (if n / 128 = 0 then _ else _) = _
        rw [if_neg (by omega)]
        have : (n % 128 + 128) % 128 + 128 * (n / 128) = n := by omega
        rw [this]
    · rw [vn_last n h1]
      show (if n < 128 then _ else _) = _
      rw [if_pos (by omega)]; rfl
theorem tkq_out : ∀ (f : Nat) (c : List Nat) (v : Nat) (r : List Nat), tkq f c = some (v, r) → (∀ x ∈ c, x < 256) → c = vn v ++ r
  | 0, _, _, _, h, _ => by simp [tkq] at h
  | _ + 1, [], _, _, h, _ => by simp [tkq] at h
  | f + 1, x :: c, v, r, h, h8 => by
    have hx := h8 x (by simp)
    unfold tkq at h
    by_cases h1 : x < 128
    · rw [if_pos h1] at h
      simp only [Option.some.injEq, Prod.mk.injEq] at h
      obtain ⟨rfl, rfl⟩ := h
      rw [vn_last _ (by omega)]; rfl
    · rw [if_neg h1] at h
      cases hq : tkq f c with
      | none => rw [hq] at h; simp at h
      | some y =>
        obtain ⟨n, r'⟩ := y
        rw [hq] at h
        dsimp only at h
        by_cases hn : n = 0
        · rw [if_pos hn] at h; simp at h
        · rw [if_neg hn] at h
          simp only [Option.some.injEq, Prod.mk.injEq] at h
          obtain ⟨rfl, rfl⟩ := h
          have ih := tkq_out f c n r' hq (fun y hy => h8 y (by simp [hy]))
          rw [vn_more _ (by omega), ih, show (x % 128 + 128 * n) % 128 + 128 = x by omega, show (x % 128 + 128 * n) / 128 = n by omega]
          rfl
theorem tkq_lt : ∀ (f : Nat) (c : List Nat) (v : Nat) (r : List Nat), tkq f c = some (v, r) → v < 128 ^ f ∧ ∃ k, 0 < k ∧ k ≤ c.length ∧ r = c.drop k
  | 0, _, _, _, h => by simp [tkq] at h
  | _ + 1, [], _, _, h => by simp [tkq] at h
  | f + 1, x :: c, v, r, h => by
    unfold tkq at h
    by_cases h1 : x < 128
    · rw [if_pos h1] at h
      simp only [Option.some.injEq, Prod.mk.injEq] at h
      obtain ⟨rfl, rfl⟩ := h
      refine ⟨?_, 1, by omega, by simp, rfl⟩
      have : 0 < 128 ^ f := Nat.pow_pos (by omega)
      rw [Nat.pow_succ]; omega
    · rw [if_neg h1] at h
      cases hq : tkq f c with
      | none => rw [hq] at h; simp at h
      | some y =>
        obtain ⟨n, r'⟩ := y
        rw [hq] at h
        dsimp only at h
        by_cases hn : n = 0
        · rw [if_pos hn] at h; simp at h
        · rw [if_neg hn] at h
          simp only [Option.some.injEq, Prod.mk.injEq] at h
          obtain ⟨rfl, rfl⟩ := h
          obtain ⟨h2, k, h3, h4, h5⟩ := tkq_lt f c n r' hq
          refine ⟨by rw [Nat.pow_succ]; omega, k + 1, by omega, by simp; omega, ?_⟩
          rw [h5]; rfl
theorem rdn_vn (n : Nat) (c : List Nat) (h : n < 2097152) : rdn (vn n ++ c) = (n, c) := by
  by_cases h1 : 128 ≤ n
  · rw [vn_more n h1]
    by_cases h2 : 128 ≤ n / 128
    · rw [vn_more _ h2, vn_last (n / 128 / 128) (by omega)]
      have e : ∀ (a b d : Nat) (r : List Nat), rdn (a :: b :: d :: r) = if a < 128 then (a, b :: d :: r) else if b < 128 then (a % 128 + b * 128, d :: r) else if d < 128 then (a % 128 + b % 128 * 128 + d * 16384, r) else (0, []) := fun _ _ _ _ => rfl
      show rdn ((n % 128 + 128) :: (n / 128 % 128 + 128) :: (n / 128 / 128) :: c) = _
      rw [e]
      rw [if_neg (by omega), if_neg (by omega), if_pos (by omega)]
      congr 1; omega
    · rw [vn_last _ h2]
      have e : ∀ (a b : Nat) (r : List Nat), b < 128 → rdn (a :: b :: r) = if a < 128 then (a, b :: r) else (a % 128 + b * 128, r) := fun a b r h => by
        unfold rdn
        dsimp only
        rw [if_pos h]
      show rdn ((n % 128 + 128) :: (n / 128) :: c) = _
      rw [e _ _ _ (by omega)]
      rw [if_neg (by omega)]
      congr 1; omega
  · rw [vn_last _ h1]
    show rdn (n :: c) = _
    unfold rdn
    dsimp only
    rw [if_pos (by omega)]
theorem vn_ne (n : Nat) : vn n ≠ [] := by
  by_cases h1 : 128 ≤ n
  · rw [vn_more n h1]; simp
  · rw [vn_last n h1]; simp
/-- Load reads the ranges that Bytes has written. -/
theorem ldl_enL : ∀ (L : List Tr) (f nx : Nat), (enL nx L).length ≤ f → Ris nx L → ldl f nx (enL nx L) = some L
  | [], f, nx, _, _ => by cases f <;> rfl
  | g :: L, 0, nx, h, _ => by
    have : enL nx (g :: L) = [] := List.length_eq_zero_iff.1 (by omega)
    unfold enL at this
    have h2 := vn_ne (g.1 - nx)
    simp [h2] at this
  | g :: L, f + 1, nx, h, hR => by
    obtain ⟨h1, h2, h3, h4, h5⟩ := hR
    have e : enL nx (g :: L) = vn (g.1 - nx) ++ (vn (g.2.1 - g.1) ++ (g.2.2 :: enL (g.2.1 + 1) L)) := rfl
    have hne : enL nx (g :: L) ≠ [] := by rw [e]; simp [vn_ne]
    have r1 : rdn (enL nx (g :: L)) = (g.1 - nx, vn (g.2.1 - g.1) ++ (g.2.2 :: enL (g.2.1 + 1) L)) := by rw [e]; exact rdn_vn _ _ (by omega)
    have r2 : rdn (vn (g.2.1 - g.1) ++ (g.2.2 :: enL (g.2.1 + 1) L)) = (g.2.1 - g.1, g.2.2 :: enL (g.2.1 + 1) L) := rdn_vn _ _ (by omega)
    have hl : (enL (g.2.1 + 1) L).length ≤ f := by rw [e] at h; simp at h; omega
    have ih := ldl_enL L f (g.2.1 + 1) hl h5
    rw [ldl_step hne, r1]
    dsimp only
    rw [r2]
    dsimp only
    rw [if_neg (by omega), show nx + (g.1 - nx) + (g.2.1 - g.1) + 1 = g.2.1 + 1 by omega, show nx + (g.1 - nx) = g.1 by omega, show g.1 + (g.2.1 - g.1) = g.2.1 by omega]
    show Option.map _ (ldl f (g.2.1 + 1) (enL (g.2.1 + 1) L)) = _
    rw [ih]; rfl
theorem ldR_enb (r : Nat) (L : List Tr) (hR : Ris 0 L) : ldR (enb r L) = some L := by
  have hl := ris_len L 0 (by omega) hR
  have e : rdn (enb r L).tail = (L.length, enL 0 L) := rdn_vn _ _ (by omega)
  unfold ldR
  rw [e]
  exact ldl_enL L _ 0 (Nat.le_refl _) hR

/-- None has the rest's class; none goes on where one of its class has ended. -/
def Nr (r : Nat) : Option Nat → Nat → List Tr → Prop
  | _, _, [] => True
  | p, nx, g :: L => g.2.2 ≠ r ∧ ¬ (g.1 = nx ∧ p = some g.2.2) ∧ Nr r (some g.2.2) (g.2.1 + 1) L
/-- What the document's Load reads. -/
def rdL (r : Nat) : Nat → Nat → Option Nat → List Nat → Option (List Tr)
  | 0, _, _, c => if c = [] then some [] else none
  | n + 1, nx, p, c => match tk c with
    | none => none
    | some (g, c1) => match tk c1 with
      | none => none
      | some (m, c2) => match c2 with
        | [] => none
        | k :: c3 => if 1114111 < nx + g + m then none else if k = r ∨ (g = 0 ∧ p = some k) then none else (rdL r n (nx + g + m + 1) (some k) c3).map ((nx + g, nx + g + m, k) :: ·)
def rl (b : List Nat) : Option (List Tr) := match b with
  | [] => none
  | r :: c => match tk c with
    | none => none
    | some (n, c1) => rdL r n 0 none c1
theorem rdL_enL (r : Nat) : ∀ (L : List Tr) (nx : Nat) (p : Option Nat), Ris nx L → Nr r p nx L → rdL r L.length nx p (enL nx L) = some L
  | [], nx, p, _, _ => rfl
  | g :: L, nx, p, hR, hN => by
    obtain ⟨h1, h2, h3, h4, h5⟩ := hR
    obtain ⟨n1, n2, n3⟩ := hN
    have e : enL nx (g :: L) = vn (g.1 - nx) ++ (vn (g.2.1 - g.1) ++ (g.2.2 :: enL (g.2.1 + 1) L)) := rfl
    have t1 : tk (enL nx (g :: L)) = some (g.1 - nx, vn (g.2.1 - g.1) ++ (g.2.2 :: enL (g.2.1 + 1) L)) := by rw [e]; exact tkq_vn 3 _ _ (show _ < 268435456 by omega)
    have t2 : tk (vn (g.2.1 - g.1) ++ (g.2.2 :: enL (g.2.1 + 1) L)) = some (g.2.1 - g.1, g.2.2 :: enL (g.2.1 + 1) L) := tkq_vn 3 _ _ (show _ < 268435456 by omega)
    have ih := rdL_enL r L (g.2.1 + 1) (some g.2.2) h5 n3
    show (match tk (enL nx (g :: L)) with | none => none | some (a, c1) => match tk c1 with | none => none | some (m, c2) => match c2 with | [] => none | k :: c3 => if 1114111 < nx + a + m then none else if k = r ∨ (a = 0 ∧ p = some k) then none else (rdL r L.length (nx + a + m + 1) (some k) c3).map ((nx + a, nx + a + m, k) :: ·)) = _
    rw [t1]
    dsimp only
    rw [t2]
    dsimp only
    rw [if_neg (by omega), if_neg (fun hh => hh.elim (fun h => n1 h) (fun h => n2 ⟨by omega, h.2⟩)), show nx + (g.1 - nx) + (g.2.1 - g.1) + 1 = g.2.1 + 1 by omega, show nx + (g.1 - nx) = g.1 by omega, show g.1 + (g.2.1 - g.1) = g.2.1 by omega, ih]
    rfl
theorem rdL_out (r : Nat) : ∀ (n nx : Nat) (p : Option Nat) (c : List Nat) (L : List Tr), (∀ x ∈ c, x < 256) → rdL r n nx p c = some L → c = enL nx L ∧ L.length = n ∧ Ris nx L ∧ Nr r p nx L
  | 0, nx, p, c, L, h8, h => by
    unfold rdL at h
    by_cases hc : c = []
    · rw [if_pos hc] at h
      simp only [Option.some.injEq] at h
      subst h; subst hc
      exact ⟨rfl, rfl, trivial, trivial⟩
    · rw [if_neg hc] at h; simp at h
  | n + 1, nx, p, c, L, h8, h => by
    unfold rdL at h
    cases ht : tk c with
    | none => rw [ht] at h; simp at h
    | some y =>
      obtain ⟨g, c1⟩ := y
      rw [ht] at h
      dsimp only at h
      have e1 := tkq_out 4 c g c1 ht h8
      have m1 : ∀ x ∈ c1, x < 256 := fun x hx => h8 x (by rw [e1]; simp [hx])
      cases ht2 : tk c1 with
      | none => rw [ht2] at h; simp at h
      | some y =>
        obtain ⟨m, c2⟩ := y
        rw [ht2] at h
        dsimp only at h
        have e2 := tkq_out 4 c1 m c2 ht2 m1
        have m2 : ∀ x ∈ c2, x < 256 := fun x hx => m1 x (by rw [e2]; simp [hx])
        cases c2 with
        | nil => simp at h
        | cons k c3 =>
          dsimp only at h
          by_cases hM : 1114111 < nx + g + m
          · rw [if_pos hM] at h; simp at h
          · rw [if_neg hM] at h
            by_cases hK : k = r ∨ (g = 0 ∧ p = some k)
            · rw [if_pos hK] at h; simp at h
            · rw [if_neg hK] at h
              cases hq : rdL r n (nx + g + m + 1) (some k) c3 with
              | none => rw [hq] at h; simp at h
              | some M =>
                rw [hq] at h
                simp only [Option.map_some, Option.some.injEq] at h
                subst h
                obtain ⟨q1, q2, q3, q4⟩ := rdL_out r n (nx + g + m + 1) (some k) c3 M (fun x hx => m2 x (by simp [hx])) hq
                refine ⟨?_, by simp [q2], ⟨by show nx ≤ nx + g; omega, by show nx + g ≤ nx + g + m; omega, by show nx + g + m ≤ _; omega, m2 k (by simp), q3⟩, fun h => hK (.inl h), fun h => hK (.inr ⟨by have h5 := h.1; dsimp only at h5; omega, h.2⟩), q4⟩
                show c = vn (nx + g - nx) ++ (vn (nx + g + m - (nx + g)) ++ (k :: enL (nx + g + m + 1) M))
                rw [show nx + g - nx = g by omega, show nx + g + m - (nx + g) = m by omega, ← q1, ← e2]
                exact e1
theorem nrAL_len (r : Nat) : ∀ (A o : List Tr), (nrA r o A).length ≤ o.length + A.length
  | [], o => by show o.length ≤ _; simp
  | g :: A, o => by
    show (if g.2.2 = r then nrA r o A else nrA r (jA o g) A).length ≤ _
    split
    · have := nrAL_len r A o; simp; omega
    · have h1 := nrAL_len r A (jA o g)
      have h2 : (jA o g).length ≤ o.length + 1 := by
        rcases List.eq_nil_or_concat o with rfl | ⟨Q, z, rfl⟩
        · simp [jA_nil]
        · rw [List.concat_eq_append, jA_snoc]
          split <;> simp
      simp; omega
/-- The last one's class, and where it ends. -/
def lcl (o : List Tr) : Option Nat := o.getLast?.map fun z => z.2.2
theorem nr_of_len (r : Nat) : ∀ (A o : List Tr), (nrA r o A).length = o.length + A.length → Nr r (lcl o) (endR 0 o) A
  | [], _, _ => trivial
  | g :: A, o, h => by
    have e : nrA r o (g :: A) = if g.2.2 = r then nrA r o A else nrA r (jA o g) A := rfl
    rw [e] at h
    by_cases hc : g.2.2 = r
    · rw [if_pos hc] at h
      have := nrAL_len r A o
      simp at h; omega
    · rw [if_neg hc] at h
      have h1 := nrAL_len r A (jA o g)
      rcases List.eq_nil_or_concat o with rfl | ⟨Q, z, rfl⟩
      · have ih := nr_of_len r A (jA [] g) (by rw [h, jA_nil]; simp; omega)
        exact ⟨hc, fun h => by simp [lcl] at h, ih⟩
      · rw [List.concat_eq_append] at h h1 ⊢
        rw [jA_snoc] at h h1
        by_cases hz : z.2.1 + 1 = g.1 ∧ z.2.2 = g.2.2
        · rw [if_pos hz] at h h1
          simp at h h1; omega
        · rw [if_neg hz] at h
          have ih := nr_of_len r A (Q ++ [z, g]) (by rw [h]; simp; omega)
          have e3 : Q ++ [z, g] = (Q ++ [z]) ++ [g] := by simp
          rw [e3, endR_snoc] at ih
          refine ⟨hc, fun h => hz ?_, ?_⟩
          · rw [endR_snoc] at h
            refine ⟨h.1.symm, ?_⟩
            have h5 := h.2
            simp [lcl] at h5
            exact h5
          · have e4 : lcl ((Q ++ [z]) ++ [g]) = some g.2.2 := by simp [lcl]
            rw [e4] at ih
            exact ih
theorem nrA_of_nr (r : Nat) : ∀ (A o : List Tr), Nr r (lcl o) (endR 0 o) A → nrA r o A = o ++ A
  | [], o, _ => by show o = _; simp
  | g :: A, o, h => by
    obtain ⟨h1, h2, h3⟩ := h
    have e : nrA r o (g :: A) = if g.2.2 = r then nrA r o A else nrA r (jA o g) A := rfl
    have ej : jA o g = o ++ [g] := by
      rcases List.eq_nil_or_concat o with rfl | ⟨Q, z, rfl⟩
      · rfl
      · rw [List.concat_eq_append] at h2 ⊢
        rw [jA_snoc, if_neg, List.append_assoc]
        · rfl
        · intro hz
          refine h2 ⟨?_, ?_⟩
          · rw [endR_snoc]; exact hz.1.symm
          · simp [lcl]; exact hz.2
    rw [e, if_neg h1, ej, nrA_of_nr r A (o ++ [g]) (by rw [endR_snoc, show lcl (o ++ [g]) = some g.2.2 by simp [lcl]]; exact h3)]
    simp
/-- The ranges of a table are in their normal form. -/
theorem rgs_nr (r : Nat) (hr : r < 256) (C : List Nat) (h : C.length = 1114112) (hc : ∀ c ∈ C, c < 256) : Nr r none 0 (rgs r C) := by
  have h1 := nrA_rgs r hr (rgs r C) (rgs_ris r C h hc)
  rw [clA_rgs r C h hc] at h1
  exact nr_of_len r (rgs r C) [] (by rw [h1]; simp)
theorem nr_rgs (r : Nat) (hr : r < 256) (L : List Tr) (hR : Ris 0 L) (hN : Nr r none 0 L) : rgs r (clA r L) = L := by
  rw [← nrA_rgs r hr L hR, nrA_of_nr r L [] hN]; rfl
/-- What the document's Load takes Load takes, and it is the same. -/
theorem rl_some (b : List Nat) (h8 : ∀ c ∈ b, c < 256) (L : List Tr) (h : rl b = some L) : lds b = some L ∧ Ris 0 L ∧ Nr (ldr b) none 0 L ∧ b = enb (ldr b) L ∧ rgs (ldr b) (clA (ldr b) L) = L := by
  cases b with
  | nil => simp [rl] at h
  | cons r c =>
    unfold rl at h
    dsimp only at h
    have m0 : ∀ x ∈ c, x < 256 := fun x hx => h8 x (by simp [hx])
    cases ht : tk c with
    | none => rw [ht] at h; simp at h
    | some y =>
      obtain ⟨n, c1⟩ := y
      rw [ht] at h
      dsimp only at h
      have e1 := tkq_out 4 c n c1 ht m0
      obtain ⟨q1, q2, q3, q4⟩ := rdL_out r n 0 none c1 L (fun x hx => m0 x (by rw [e1]; simp [hx])) h
      have e : r :: c = enb r L := by unfold enb; rw [q2, ← q1, ← e1]
      have hg := nr_rgs r (h8 r (by simp)) L q3 q4
      have el : ldr (r :: c) = r := rfl
      rw [el]
      refine ⟨?_, q3, q4, e, hg⟩
      have hl : ldR (r :: c) = some L := by rw [e]; exact ldR_enb r L q3
      unfold lds
      rw [hl]
      dsimp only
      rw [el, hg, if_pos e.symm]
/-- What the document's Load does not take Load does not take. -/
theorem rl_none (b : List Nat) (h8 : ∀ c ∈ b, c < 256) (hR : ∀ L, ldR b = some L → Ris 0 L) (h : rl b = none) : lds b = none := by
  cases hl : ldR b with
  | none => unfold lds; rw [hl]
  | some L =>
    unfold lds
    rw [hl]
    dsimp only
    rw [if_neg]
    intro he
    cases b with
    | nil => unfold enb at he; simp at he
    | cons r c =>
      have el : ldr (r :: c) = r := rfl
      rw [el] at he
      have hr := h8 r (by simp)
      have hRL := hR L hl
      have hcl := clA_len r L hRL
      have hc2 := clA_256 r L hr hRL
      obtain ⟨M, hM⟩ : ∃ M, M = rgs r (clA r L) := ⟨_, rfl⟩
      have r1 : Ris 0 M := by rw [hM]; exact rgs_ris r _ hcl hc2
      have r2 : Nr r none 0 M := by rw [hM]; exact rgs_nr r hr _ hcl hc2
      rw [← hM] at he
      have hlen := ris_len M 0 (by omega) r1
      have h5 : rl (enb r M) = some M := by
        show (match tk (vn M.length ++ enL 0 M) with | none => none | some (n, c1) => rdL r n 0 none c1) = _
        have t1 : tk (vn M.length ++ enL 0 M) = some (M.length, enL 0 M) := tkq_vn 3 _ _ (show _ < 268435456 by omega)
        rw [t1]
        exact rdL_enL r M 0 none r1 r2
      rw [he, h] at h5
      cases h5
end Go.Proofs.Ytljlhlcoaajggaa
/- What the document tells of a block by its ranges is the block's runs: blocks are alike just if these are. -/
namespace Go.Proofs.Ytljlhlcoaajggaa

/-- Ranges that follow one another, from b to the end. -/
def Con : Nat → List Tr → Prop
  | b, [] => b = 1114112
  | b, g :: R => g.1 = b ∧ g.1 ≤ g.2.1 ∧ g.2.1 ≤ 1114111 ∧ g.2.2 < 256 ∧ Con (g.2.1 + 1) R
/-- Neighbours have unlike classes. -/
def Dj : Option Nat → List Tr → Prop
  | _, [] => True
  | p, g :: R => p ≠ some g.2.2 ∧ Dj (some g.2.2) R
def Cls (f : Nat → Nat) (A : List Tr) : Prop := ∀ g ∈ A, ∀ x, g.1 ≤ x → x ≤ g.2.1 → f x = g.2.2
/-- The runs of a list: where each ends, and its class. -/
def rb : Nat → List Nat → List Nat
  | _, [] => []
  | p, [c] => [p, c]
  | p, c :: d :: R => if c = d then rb (p + 1) (d :: R) else p :: c :: rb (p + 1) (d :: R)
/-- What the document tells of the block at lo. -/
def sgF (lo : Nat) : List Tr → List Nat
  | [] => []
  | g :: R => if g.1 ≤ lo + 127 then (min g.2.1 (lo + 127) - lo) :: g.2.2 :: sgF lo R else []
def bl (f : Nat → Nat) (p n : Nat) : List Nat := (List.range' p n).map f

theorem rb_hd : ∀ (R : List Nat) (q c : Nat), ∃ e t, rb q (c :: R) = e :: c :: t ∧ q ≤ e
  | [], q, c => ⟨q, [], rfl, Nat.le_refl _⟩
  | d :: R, q, c => by
    by_cases h : c = d
    · subst h
      obtain ⟨e, t, h1, h2⟩ := rb_hd R (q + 1) c
      exact ⟨e, t, by show (if c = c then rb (q + 1) (c :: R) else _) = _; rw [if_pos rfl, h1], by omega⟩
    · exact ⟨q, rb (q + 1) (d :: R), by show (if c = d then _ else _) = _; rw [if_neg h], Nat.le_refl _⟩
theorem rb_inj : ∀ (X Y : List Nat) (q : Nat), X.length = Y.length → rb q X = rb q Y → X = Y
  | [], [], _, _, _ => rfl
  | [], _ :: _, _, h, _ => by simp at h
  | _ :: _, [], _, h, _ => by simp at h
  | [c], [d], q, _, h => by
    have : [q, c] = [q, d] := h
    simp at this
    rw [this]
  | [_], _ :: _ :: _, _, h, _ => by simp at h
  | _ :: _ :: _, [_], _, h, _ => by simp at h
  | c :: x :: X, d :: y :: Y, q, hl, h => by
    have hl' : (x :: X).length = (y :: Y).length := by simpa using hl
    obtain ⟨e1, t1, a1, b1⟩ := rb_hd (x :: X) q c
    obtain ⟨e2, t2, a2, b2⟩ := rb_hd (y :: Y) q d
    have hcd : c = d := by
      have h5 := h
      rw [a1, a2] at h5
      simp at h5
      exact h5.2.1
    subst hcd
    have u1 : rb q (c :: x :: X) = if c = x then rb (q + 1) (x :: X) else q :: c :: rb (q + 1) (x :: X) := rfl
    have u2 : rb q (c :: y :: Y) = if c = y then rb (q + 1) (y :: Y) else q :: c :: rb (q + 1) (y :: Y) := rfl
    rw [u1, u2] at h
    obtain ⟨f1, s1, c1, d1⟩ := rb_hd X (q + 1) x
    obtain ⟨f2, s2, c2, d2⟩ := rb_hd Y (q + 1) y
    by_cases h1 : c = x
    · by_cases h2 : c = y
      · rw [if_pos h1, if_pos h2] at h
        rw [rb_inj (x :: X) (y :: Y) (q + 1) hl' h]
      · rw [if_pos h1, if_neg h2, c1] at h
        simp at h
        omega
    · by_cases h2 : c = y
      · rw [if_neg h1, if_pos h2, c2] at h
        simp at h
        omega
      · rw [if_neg h1, if_neg h2] at h
        simp at h
        rw [rb_inj (x :: X) (y :: Y) (q + 1) hl' h]
theorem rb_rep : ∀ (m q c : Nat) (X : List Nat), (X.head? ≠ some c) → rb q (List.replicate (m + 1) c ++ X) = (q + m) :: c :: rb (q + m + 1) X
  | 0, q, c, [], _ => rfl
  | 0, q, c, d :: R, h => by
    have hcd : ¬ c = d := fun e => h (by rw [e]; rfl)
    show (if c = d then _ else q :: c :: rb (q + 1) (d :: R)) = _
    rw [if_neg hcd]
    rfl
  | m + 1, q, c, X, h => by
    have ih := rb_rep m (q + 1) c X h
    have e : List.replicate (m + 1 + 1) c ++ X = c :: c :: (List.replicate m c ++ X) := by rw [List.replicate_succ, List.replicate_succ]; rfl
    have e2 : List.replicate (m + 1) c ++ X = c :: (List.replicate m c ++ X) := by rw [List.replicate_succ]; rfl
    rw [e]
    show (if c = c then rb (q + 1) (c :: (List.replicate m c ++ X)) else _) = _
    rw [if_pos rfl, ← e2, ih, show q + 1 + m = q + (m + 1) by omega]
theorem bl_split (f : Nat → Nat) (p m n : Nat) : bl f p (m + n) = bl f p m ++ bl f (p + m) n := by
  unfold bl
  rw [← List.map_append, List.range'_append_1]
theorem bl_const (f : Nat → Nat) (c : Nat) : ∀ (n p : Nat), (∀ x, p ≤ x → x < p + n → f x = c) → bl f p n = List.replicate n c
  | 0, _, _ => rfl
  | n + 1, p, h => by
    show f p :: bl f (p + 1) n = _
    rw [h p (Nat.le_refl _) (by omega), bl_const f c n (p + 1) (fun x h1 h2 => h x (by omega) (by omega)), List.replicate_succ]
theorem sg_is (f : Nat → Nat) (lo : Nat) (hlo : lo + 127 ≤ 1114111) : ∀ (R : List Tr) (g : Tr) (p : Nat), g.1 ≤ p → p ≤ g.2.1 → Con (g.2.1 + 1) R → Dj (some g.2.2) R → Cls f (g :: R) → lo ≤ p → p ≤ lo + 127 → sgF lo (g :: R) = rb (p - lo) (bl f p (lo + 128 - p))
  | R, g, p, h1, h2, hC, hD, hf, h3, h4 => by
    have e : sgF lo (g :: R) = (min g.2.1 (lo + 127) - lo) :: g.2.2 :: sgF lo R := by
      show (if g.1 ≤ lo + 127 then _ else _) = _
      rw [if_pos (by omega)]
    rw [e]
    by_cases hg : lo + 127 ≤ g.2.1
    · have hb : bl f p (lo + 128 - p) = List.replicate (lo + 127 - p + 1) g.2.2 ++ [] := by
        rw [bl_const f g.2.2 (lo + 128 - p) p (fun x q1 q2 => hf g (by simp) x (by omega) (by omega)), List.append_nil, show lo + 128 - p = lo + 127 - p + 1 by omega]
      rw [hb, rb_rep _ _ _ _ (by simp)]
      have hs : sgF lo R = [] := by
        cases R with
        | nil => rfl
        | cons h R =>
          have : h.1 = g.2.1 + 1 := hC.1
          show (if h.1 ≤ lo + 127 then _ else _) = _
          rw [if_neg (by omega)]
      rw [hs, Nat.min_eq_right hg, show p - lo + (lo + 127 - p) = lo + 127 - lo by omega]
      rfl
    · cases R with
      | nil =>
        have : g.2.1 + 1 = 1114112 := hC
        omega
      | cons h R =>
        obtain ⟨q1, q2, q3, q4, q5⟩ := hC
        obtain ⟨d1, d2⟩ := hD
        have hb : bl f p (lo + 128 - p) = List.replicate (g.2.1 - p + 1) g.2.2 ++ bl f (g.2.1 + 1) (lo + 128 - (g.2.1 + 1)) := by
          rw [show lo + 128 - p = (g.2.1 - p + 1) + (lo + 128 - (g.2.1 + 1)) by omega, bl_split, bl_const f g.2.2 _ p (fun x q1 q2 => hf g (by simp) x (by omega) (by omega)), show p + (g.2.1 - p + 1) = g.2.1 + 1 by omega]
        have hh : (bl f (g.2.1 + 1) (lo + 128 - (g.2.1 + 1))).head? ≠ some g.2.2 := by
          rw [show lo + 128 - (g.2.1 + 1) = (lo + 127 - (g.2.1 + 1)) + 1 by omega]
          show some (f (g.2.1 + 1)) ≠ _
          rw [hf h (by simp) (g.2.1 + 1) (by omega) (by omega)]
          exact fun e => d1 (by rw [Option.some.inj e])
        have ih := sg_is f lo hlo R h (g.2.1 + 1) (by omega) (by omega) q5 d2 (fun y hy => hf y (by simp at hy ⊢; exact .inr hy)) (by omega) (by omega)
        rw [hb, rb_rep _ _ _ _ hh, ih, Nat.min_eq_left (by omega), show p - lo + (g.2.1 - p) = g.2.1 - lo by omega, show g.2.1 - lo + 1 = g.2.1 + 1 - lo by omega]
/-- The ranges of all numbers from b on. -/
def alB (r b : Nat) (L : List Tr) : List Tr := alP r b L ++ (if endR b L ≤ 1114111 then [(endR b L, 1114111, r)] else [])
theorem alB_nil (r b : Nat) : alB r b [] = if b ≤ 1114111 then [(b, 1114111, r)] else [] := rfl
theorem alB_cons (r b : Nat) (g : Tr) (L : List Tr) : alB r b (g :: L) = (if b < g.1 then [(b, g.1 - 1, r)] else []) ++ g :: alB r (g.2.1 + 1) L := by
  unfold alB
  rw [endR_cons]
  show ((if b < g.1 then [(b, g.1 - 1, r)] else []) ++ g :: alP r (g.2.1 + 1) L) ++ _ = _
  simp
theorem con_alB (r : Nat) (hr : r < 256) : ∀ (L : List Tr) (b : Nat), Ris b L → b ≤ 1114112 → Con b (alB r b L)
  | [], b, _, hb => by
    rw [alB_nil]
    split
    · rename_i h
      exact ⟨rfl, h, Nat.le_refl _, hr, rfl⟩
    · show b = 1114112
      omega
  | g :: L, b, h, hb => by
    obtain ⟨h1, h2, h3, h4, h5⟩ := h
    have ih := con_alB r hr L (g.2.1 + 1) h5 (by omega)
    rw [alB_cons]
    split
    · rename_i hl
      exact ⟨rfl, by show b ≤ g.1 - 1; omega, by show g.1 - 1 ≤ _; omega, hr, by show g.1 = g.1 - 1 + 1; omega, h2, h3, h4, ih⟩
    · exact ⟨by omega, h2, h3, h4, ih⟩
theorem dj_alB (r : Nat) : ∀ (L : List Tr) (b : Nat) (p : Option Nat), Ris b L → Nr r p b L → p ≠ some r → Dj p (alB r b L)
  | [], b, p, _, _, hp => by
    rw [alB_nil]
    split
    · exact ⟨hp, trivial⟩
    · trivial
  | g :: L, b, p, h, hN, hp => by
    obtain ⟨h1, h2, h3, h4, h5⟩ := h
    obtain ⟨n1, n2, n3⟩ := hN
    have ih := dj_alB r L (g.2.1 + 1) (some g.2.2) h5 n3 (fun e => n1 (Option.some.inj e))
    rw [alB_cons]
    split
    · exact ⟨hp, fun e => n1 (Option.some.inj e).symm, ih⟩
    · exact ⟨fun e => n2 ⟨by omega, e⟩, ih⟩
theorem con_ge : ∀ (A : List Tr) (b : Nat), Con b A → ∀ g ∈ A, b ≤ g.1 ∧ g.1 ≤ g.2.1 ∧ g.2.1 ≤ 1114111 ∧ g.2.2 < 256
  | [], _, _, g, h => by cases h
  | x :: A, b, hC, g, h => by
    obtain ⟨h1, h2, h3, h4, h5⟩ := hC
    rcases List.mem_cons.1 h with rfl | h
    · exact ⟨by omega, h2, h3, h4⟩
    · obtain ⟨k1, k2⟩ := con_ge A _ h5 g h
      exact ⟨by omega, k2⟩
theorem cls_alB (r : Nat) (hr : r < 256) : ∀ (L : List Tr) (b : Nat), Ris b L → b ≤ 1114112 → ∀ g ∈ alB r b L, ∀ x, g.1 ≤ x → x ≤ g.2.1 → gtR r (x : Int) L = g.2.2
  | [], b, _, _, g, hg, x, _, _ => by
    rw [alB_nil] at hg
    split at hg
    · simp at hg; subst hg; rfl
    · cases hg
  | y :: L, b, h, hb, g, hg, x, hx1, hx2 => by
    obtain ⟨h1, h2, h3, h4, h5⟩ := h
    have e : ∀ z : Int, gtR r z (y :: L) = if ((y.1 : Int) ≤ z ∧ z ≤ (y.2.1 : Int)) then y.2.2 else gtR r z L := fun z => rfl
    rw [alB_cons] at hg
    rcases List.mem_append.1 hg with hg | hg
    · split at hg
      · simp at hg
        subst hg
        dsimp only at hx1 hx2
        rw [e, if_neg (by omega), gtR_low r L (y.2.1 + 1) x (by omega) h5]
      · cases hg
    · rcases List.mem_cons.1 hg with rfl | hg
      · rw [e, if_pos (by omega)]
      · have hc := con_ge _ _ (con_alB r hr L (y.2.1 + 1) h5 (by omega)) g hg
        rw [e, if_neg (by omega)]
        exact cls_alB r hr L (y.2.1 + 1) h5 (by omega) g hg x hx1 hx2
theorem con_at : ∀ (A : List Tr) (b i : Nat) (hi : i < A.length), Con b A → Con (A[i].2.1 + 1) (A.drop (i + 1)) ∧ (∀ p, Dj p A → Dj (some A[i].2.2) (A.drop (i + 1))) ∧ (A[i].2.1 < 1114111 → ∃ h : i + 1 < A.length, A[i + 1].1 = A[i].2.1 + 1)
  | [], _, i, hi, _ => by simp at hi
  | g :: A, b, 0, _, hC => by
    obtain ⟨h1, h2, h3, h4, h5⟩ := hC
    refine ⟨h5, fun p hp => hp.2, fun hlt => ?_⟩
    cases A with
    | nil =>
      have h6 : g.2.1 + 1 = 1114112 := h5
      have h7 : g.2.1 < 1114111 := hlt
      omega
    | cons x A => exact ⟨by simp, h5.1⟩
  | g :: A, b, i + 1, hi, hC => by
    obtain ⟨h1, h2, h3, h4, h5⟩ := hC
    obtain ⟨i1, i2, i3⟩ := con_at A _ i (by simpa using hi) h5
    exact ⟨i1, fun p hp => i2 _ hp.2, fun hlt => by
      obtain ⟨k1, k2⟩ := i3 hlt
      exact ⟨by simp; omega, k2⟩⟩
theorem con_up : ∀ (A : List Tr) (b i j : Nat) (hi : i < A.length) (hj : j < A.length), Con b A → i ≤ j → A[i].2.1 ≤ A[j].2.1
  | [], _, i, _, hi, _, _, _ => by simp at hi
  | g :: A, b, 0, 0, _, _, _, _ => Nat.le_refl _
  | g :: A, b, 0, j + 1, _, hj, hC, _ => by
    obtain ⟨h1, h2, h3, h4, h5⟩ := hC
    have hj' : j < A.length := by simpa using hj
    have h6 := con_ge A _ h5 A[j] (List.getElem_mem hj')
    show g.2.1 ≤ A[j].2.1
    omega
  | g :: A, b, i + 1, 0, _, _, _, h => by omega
  | g :: A, b, i + 1, j + 1, hi, hj, hC, h => con_up A _ i j (by simpa using hi) (by simpa using hj) hC.2.2.2.2 (by omega)
/-- A block of the table, number by number. -/
theorem blk_is (F : List (List Nat)) (h : ok128 F) (j : Nat) (hj : j < F.length) : F[j] = bl (fun x => F.flatten.getD x 0) (128 * j) 128 := by
  have hl : F[j].length = 128 := h F[j] (List.getElem_mem hj)
  apply List.ext_getElem?
  intro i
  unfold bl
  rcases Nat.lt_or_ge i 128 with hi | hi
  · obtain ⟨b, h1, h2⟩ := flat_get F (128 * j + i) h (by omega)
    rw [show (128 * j + i) / 128 = j by omega, List.getElem?_eq_getElem hj] at h1
    rw [show (128 * j + i) % 128 = i by omega] at h2
    have h1' : F[j] = b := Option.some.inj h1
    rw [h1', h2, List.getElem?_map, List.getElem?_range' hi]
    have hlen := flat_len F h
    have hx : 128 * j + i < F.flatten.length := by rw [hlen]; omega
    simp [List.getD, List.getElem?_eq_getElem hx]
  · rw [List.getElem?_eq_none (by omega), List.getElem?_eq_none (by simp; omega)]
/-- What is told of a block is its runs. -/
theorem sig_is (r : Nat) (hr : r < 256) (L : List Tr) (hR : Ris 0 L) (hN : Nr r none 0 L) (F : List (List Nat)) (h128 : ok128 F) (hfl : F.flatten = clA r L) (hF : F.length = 8704) (i j : Nat) (hi : i < (alA r L).length) (hj : j < 8704) (h1 : (alA r L)[i].1 ≤ 128 * j) (h2 : 128 * j ≤ (alA r L)[i].2.1) :
    sgF (128 * j) ((alA r L).drop i) = rb 0 (F[j]'(by omega)) := by
  have hA : alA r L = alB r 0 L := rfl
  have hC := con_alB r hr L 0 hR (by omega)
  have hD := dj_alB r L 0 none hR hN (by simp)
  have hK := cls_alB r hr L 0 hR (by omega)
  rw [← hA] at hC hD hK
  obtain ⟨c1, c2, _⟩ := con_at (alA r L) 0 i hi hC
  have hdr : (alA r L).drop i = (alA r L)[i] :: (alA r L).drop (i + 1) := List.drop_eq_getElem_cons hi
  have hf : Cls (fun x => F.flatten.getD x 0) ((alA r L)[i] :: (alA r L).drop (i + 1)) := fun g hg x hx1 hx2 => by
    have hg' : g ∈ alA r L := by rw [← hdr] at hg; exact List.mem_of_mem_drop hg
    have h5 := hK g hg' x hx1 hx2
    have h6 := (con_ge _ _ hC g hg').2.2.1
    rw [gtR_clA r L x (by omega) hR] at h5
    show F.flatten.getD x 0 = _
    rw [hfl]; exact h5
  rw [hdr, sg_is (fun x => F.flatten.getD x 0) (128 * j) (by omega) _ _ (128 * j) h1 h2 c1 (c2 none hD) hf (Nat.le_refl _) (by omega), blk_is F h128 j (by omega), Nat.sub_self, show 128 * j + 128 - 128 * j = 128 by omega]
theorem rb_256 : ∀ (X : List Nat) (q : Nat), (∀ c ∈ X, c < 256) → q + X.length ≤ 256 → ∀ c ∈ rb q X, c < 256
  | [], _, _, _, c, h => by cases h
  | [x], q, hX, hl, c, h => by
    have h' : c ∈ [q, x] := h
    rcases List.mem_cons.1 h' with rfl | h'
    · simp at hl; omega
    · simp at h'; subst h'; exact hX _ (by simp)
  | x :: y :: X, q, hX, hl, c, h => by
    have ih := rb_256 (y :: X) (q + 1) (fun z hz => hX z (by simp at hz ⊢; exact .inr hz)) (by simp at hl ⊢; omega)
    have u : rb q (x :: y :: X) = if x = y then rb (q + 1) (y :: X) else q :: x :: rb (q + 1) (y :: X) := rfl
    rw [u] at h
    split at h
    · exact ih c h
    · rcases List.mem_cons.1 h with rfl | h
      · simp at hl; omega
      · rcases List.mem_cons.1 h with rfl | h
        · exact hX _ (by simp)
        · exact ih c h
end Go.Proofs.Ytljlhlcoaajggaa
/- The contract of the document's Same, at any two lists of ranges with classes. -/
namespace Go.Proofs.Ytljlhlcoaajggaa
open Go.RowKit

theorem take_eq_step {l m : List Rk} {k : Nat} (hk : k < l.length) (hm : k < m.length) (h : l.take k = m.take k) (e : l[k] = m[k]) : l.take (k + 1) = m.take (k + 1) := by
  rw [List.take_succ_eq_append_getElem hk, List.take_succ_eq_append_getElem hm, h, e]

set_option maxRecDepth 100000 in
set_option maxHeartbeats 2000000 in
theorem same3_any (ao bo : Option Addr) (ac bc : Nat) (l m : List Rk) (w : World) (ha : RdK w ao l) (hb : RdK w bo m) (hl : l.length ≤ 1000000000) :
    Calls Try.prog 14 #[.slice ao l.length ac, .slice bo m.length bc] w fun e w' => e = .returned (.bool (decide (l = m))) ∧ Below w.heap.size w w' := by
  have HA := hid ha
  have HB := hid hb
  clear ha hb
  by_cases hlm : l.length = m.length
  · have hne : ((l.length : Int) != (m.length : Int)) = false := by simp; omega
    go_enter Try.func14, Try.ntmps14
    have HLM := hid hlm
    clear hlm
    go_wp2
    go_loopw [5] (fun i wr => ∃ k : Nat, k ≤ l.length ∧ i = .int .i64 k ∧ Hid (l.take k = m.take k) ∧ Below w.heap.size w wr) (fun i _ => l.length - (intOf i).toNat)
    case atStart => exact ⟨0, by omega, rfl, rfl, Below.refl _ _⟩
    case round =>
      obtain ⟨k, hk, rfl, HE, hBr⟩ := hrel
      by_cases hlt : k < l.length
      · have hltm : k < m.length := by have := HLM.out; omega
        obtain ⟨a, rfl, ha, a0, a1, a2⟩ := HA.out.below hBr k l[k] (List.getElem?_eq_getElem hlt)
        obtain ⟨b, rfl, hb, b0, b1, b2⟩ := HB.out.below hBr k m[k] (List.getElem?_eq_getElem hltm)
        have HS := hid (fun e => take_eq_step hlt hltm HE.out e)
        have HD := hid (show l[k] ≠ m[k] → decide (l = m) = false from fun hne => decide_eq_false (fun e => hne (by subst e; rfl)))
        obtain ⟨gx, hx⟩ : ∃ gx, l[k] = gx := ⟨_, rfl⟩
        obtain ⟨gy, hy⟩ : ∃ gy, m[k] = gy := ⟨_, rfl⟩
        rw [hx] at a0 a1 a2 HS HD
        rw [hy] at b0 b1 b2 HS HD
        clear hx hy
        obtain ⟨x0, x1, x2⟩ := gx
        obtain ⟨y0, y1, y2⟩ := gy
        dsimp only at a0 a1 a2 b0 b1 b2
        have i3 : (k : Int) < (l.length : Int) := by omega
        have i4 : (k : Int) < (m.length : Int) := by omega
        by_cases q : (x0, x1, x2) = (y0, y1, y2)
        · have HZ := hid (HS.out q)
          cases q
          clear HS HD
          go_wp2_with fail
          go_region
          go_wp2
          go_roundw
          case rel => exact ⟨k + 1, by omega, by go_num, HZ, hBr.drew⟩
          case measure => simp [intOf]; omega
        · have HZ := hid (HD.out q)
          clear HS HD
          by_cases q0 : x0 = y0
          · by_cases q1 : x1 = y1
            · have q2 : x2 ≠ y2 := fun q2 => q (by rw [q0, q1, q2])
              have t1 : (x2 == y2) = false := beq_eq_false_iff_ne.2 q2
              have t2 : (x2 != y2) = true := bne_iff_ne.2 q2
              subst q0 q1
              clear q
              go_wp2_with fail
              go_region
              go_wp2
              go_ret
              exact ⟨by rw [HZ.out]; rfl, hBr.drew⟩
            · have t1 : (x1 == y1) = false := beq_eq_false_iff_ne.2 q1
              have t2 : (x1 != y1) = true := bne_iff_ne.2 q1
              subst q0
              clear q
              go_wp2_with fail
              go_region
              go_wp2
              go_ret
              exact ⟨by rw [HZ.out]; rfl, hBr.drew⟩
          · have t1 : (x0 == y0) = false := beq_eq_false_iff_ne.2 q0
            have t2 : (x0 != y0) = true := bne_iff_ne.2 q0
            clear q
            go_wp2_with fail
            go_region
            go_wp2
            go_ret
            exact ⟨by rw [HZ.out]; rfl, hBr.drew⟩
      · have HZ := hid (show decide (l = m) = true from decide_eq_true (by have h := HE.out; rw [List.take_of_length_le (by omega), List.take_of_length_le (by have := HLM.out; omega)] at h; exact h))
        go_wp2
        go_ret
        exact ⟨by rw [HZ.out]; rfl, hBr⟩
  · have hne : ((l.length : Int) != (m.length : Int)) = true := by simp; omega
    have HZ := hid (show decide (l = m) = false from decide_eq_false (fun e => hlm (by rw [e])))
    clear hlm
    go_enter Try.func14, Try.ntmps14
    go_wp2
    go_ret
    exact ⟨by rw [HZ.out]; rfl, Below.refl _ _⟩
end Go.Proofs.Ytljlhlcoaajggaa
/- Pairs of classes in lists: the contracts of two (the statements' own), of find (package kerfref03) and of behind (package table). -/
namespace Go.Proofs.Ytljlhlcoaajggaa
open Go.RowKit

abbrev Pr := Int × Int
/-- Pairs as they can be read. -/
def RdP (w : World) (ao : Option Addr) (l : List Pr) : Prop := ∀ (k : Nat) (g : Pr), l[k]? = some g → ∃ a : Addr, ao = some a ∧ a.block < w.heap.size ∧ w.cell? (a.add (k * 2)) = some (.int .i64 g.1) ∧ w.cell? ⟨(a.add (k * 2)).block, (a.add (k * 2)).off + 1, none⟩ = some (.int .i64 g.2)
theorem RdP.below {w w' : World} {ao : Option Addr} {l : List Pr} (h : RdP w ao l) (hb : Below w.heap.size w w') : RdP w' ao l := fun k g hk => by
  obtain ⟨a, h1, h2, h3, h4⟩ := h k g hk
  exact ⟨a, h1, Nat.lt_of_lt_of_le h2 hb.size, (hb.cell (p := a.add (k * 2)) (by rw [add_blk]; exact h2)).trans h3, (hb.cell (p := ⟨(a.add (k * 2)).block, (a.add (k * 2)).off + 1, none⟩) (by show (a.add (k * 2)).block < _; rw [add_blk]; exact h2)).trans h4⟩
theorem take_eq_pair {l m : List Pr} {k : Nat} (hk : k < l.length) (hm : k < m.length) (h : l.take k = m.take k) (e : l[k] = m[k]) : l.take (k + 1) = m.take (k + 1) := by
  rw [List.take_succ_eq_append_getElem hk, List.take_succ_eq_append_getElem hm, h, e]

set_option maxRecDepth 100000 in
set_option maxHeartbeats 2000000 in
theorem two_any (ao bo : Option Addr) (ac bc : Nat) (l m : List Pr) (w : World) (ha : RdP w ao l) (hb : RdP w bo m) (hl : l.length ≤ 1000000000) :
    Calls Try.prog 25 #[.slice ao l.length ac, .slice bo m.length bc] w fun e w' => e = .returned (.bool (decide (l = m))) ∧ Below w.heap.size w w' := by
  have HA := hid ha
  have HB := hid hb
  clear ha hb
  by_cases hlm : l.length = m.length
  · have hne : ((l.length : Int) != (m.length : Int)) = false := by simp; omega
    go_enter Try.func25, Try.ntmps25
    have HLM := hid hlm
    clear hlm
    go_wp2
    go_loopw [5] (fun i wr => ∃ k : Nat, k ≤ l.length ∧ i = .int .i64 k ∧ Hid (l.take k = m.take k) ∧ Below w.heap.size w wr) (fun i _ => l.length - (intOf i).toNat)
    case atStart => exact ⟨0, by omega, rfl, rfl, Below.refl _ _⟩
    case round =>
      obtain ⟨k, hk, rfl, HE, hBr⟩ := hrel
      by_cases hlt : k < l.length
      · have hltm : k < m.length := by have := HLM.out; omega
        obtain ⟨a, rfl, ha, a0, a1⟩ := HA.out.below hBr k l[k] (List.getElem?_eq_getElem hlt)
        obtain ⟨b, rfl, hb, b0, b1⟩ := HB.out.below hBr k m[k] (List.getElem?_eq_getElem hltm)
        have HS := hid (fun e => take_eq_pair hlt hltm HE.out e)
        have HD := hid (show l[k] ≠ m[k] → decide (l = m) = false from fun hne => decide_eq_false (fun e => hne (by subst e; rfl)))
        obtain ⟨gx, hx⟩ : ∃ gx, l[k] = gx := ⟨_, rfl⟩
        obtain ⟨gy, hy⟩ : ∃ gy, m[k] = gy := ⟨_, rfl⟩
        rw [hx] at a0 a1 HS HD
        rw [hy] at b0 b1 HS HD
        clear hx hy
        obtain ⟨x0, x1⟩ := gx
        obtain ⟨y0, y1⟩ := gy
        dsimp only at a0 a1 b0 b1
        have i3 : (k : Int) < (l.length : Int) := by omega
        have i4 : (k : Int) < (m.length : Int) := by omega
        by_cases q : (x0, x1) = (y0, y1)
        · have HZ := hid (HS.out q)
          cases q
          clear HS HD
          go_wp2_with fail
          go_region
          go_wp2
          go_roundw
          case rel => exact ⟨k + 1, by omega, by go_num, HZ, hBr.drew⟩
          case measure => simp [intOf]; omega
        · have HZ := hid (HD.out q)
          clear HS HD
          by_cases q0 : x0 = y0
          · have q1 : x1 ≠ y1 := fun q1 => q (by rw [q0, q1])
            have t1 : (x1 == y1) = false := beq_eq_false_iff_ne.2 q1
            have t2 : (x1 != y1) = true := bne_iff_ne.2 q1
            subst q0
            clear q
            go_wp2_with fail
            go_region
            go_wp2
            go_ret
            exact ⟨by rw [HZ.out]; rfl, hBr.drew⟩
          · have t1 : (x0 == y0) = false := beq_eq_false_iff_ne.2 q0
            have t2 : (x0 != y0) = true := bne_iff_ne.2 q0
            clear q
            go_wp2_with fail
            go_region
            go_wp2
            go_ret
            exact ⟨by rw [HZ.out]; rfl, hBr.drew⟩
      · have HZ := hid (show decide (l = m) = true from decide_eq_true (by have h := HE.out; rw [List.take_of_length_le (by omega), List.take_of_length_le (by have := HLM.out; omega)] at h; exact h))
        go_wp2
        go_ret
        exact ⟨by rw [HZ.out]; rfl, hBr⟩
  · have hne : ((l.length : Int) != (m.length : Int)) = true := by simp; omega
    have HZ := hid (show decide (l = m) = false from decide_eq_false (fun e => hlm (by rw [e])))
    clear hlm
    go_enter Try.func25, Try.ntmps25
    go_wp2
    go_ret
    exact ⟨by rw [HZ.out]; rfl, Below.refl _ _⟩

/-- Where a pair stands in a list. -/
def fnd (x : Pr) : List Pr → Int
  | [] => -1
  | y :: l => if y = x then 0 else if fnd x l < 0 then -1 else fnd x l + 1
theorem fnd_no (x : Pr) : ∀ l : List Pr, x ∉ l → fnd x l = -1
  | [], _ => rfl
  | y :: l, h => by
    have h1 : ¬ y = x := fun e => h (by simp [e])
    show (if y = x then _ else if fnd x l < 0 then -1 else _) = _
    rw [if_neg h1, fnd_no x l (fun hh => h (by simp [hh])), if_pos (by omega)]
theorem fnd_at (x : Pr) : ∀ (l : List Pr) (k : Nat), l[k]? = some x → (∀ j : Nat, j < k → l[j]? ≠ some x) → fnd x l = (k : Int)
  | [], k, h, _ => by simp at h
  | y :: l, 0, h, _ => by
    have h1 : y = x := by simpa using h
    show (if y = x then _ else _) = _
    rw [if_pos h1]; rfl
  | y :: l, k + 1, h, hj => by
    have h1 : ¬ y = x := fun e => hj 0 (by omega) (by simp [e])
    have ih := fnd_at x l k (by simpa using h) (fun j hjk => by have h5 := hj (j + 1) (by omega); simpa using h5)
    show (if y = x then _ else if fnd x l < 0 then -1 else fnd x l + 1) = _
    rw [if_neg h1, ih, if_neg (by omega)]
    omega
set_option maxRecDepth 100000 in
set_option maxHeartbeats 2000000 in
theorem find_any (ao : Option Addr) (ac : Nat) (l : List Pr) (x : Pr) (w : World) (ha : RdP w ao l) (hl : l.length ≤ 1000000000) :
    Calls Try.prog 54 #[.slice ao l.length ac, .agg #[.int .i64 x.1, .int .i64 x.2]] w fun e w' => e = .returned (.int .i64 (fnd x l)) ∧ Below w.heap.size w w' := by
  obtain ⟨u0, u1⟩ := x
  have HA := hid ha
  obtain ⟨n, hn⟩ : ∃ n, n = l.length := ⟨_, rfl⟩
  rw [← hn] at hl ⊢
  have HN := hid hn
  have HG := hid (heap_alloc_new w (.cells #[.int .i64 u0, .int .i64 u1] 88))
  have HB0 := hid ((Below.refl w.heap.size w).alloc (Nat.le_refl _) (.cells #[.int .i64 u0, .int .i64 u1] 88))
  have HXC := hid (show ∀ W, Below (w.heap.size + 1) (w.alloc (.cells #[.int .i64 u0, .int .i64 u1] 88)) W → W.cell? ⟨w.heap.size, 0, none⟩ = some (.int .i64 u0) ∧ W.cell? ⟨w.heap.size, 1, none⟩ = some (.int .i64 u1) from fun W hW => by
    have h5 := (hW.block w.heap.size (Nat.lt_succ_self _)).trans HG.out
    exact ⟨by rw [cell_of_row W w.heap.size 0 _ 88 (0, 0) h5]; rfl, by rw [cell_of_row W w.heap.size 1 _ 88 (0, 0) h5]; rfl⟩)
  have HB1 := hid (show Below (w.heap.size + 1) (w.alloc (.cells #[.int .i64 u0, .int .i64 u1] 88)) (w.alloc (.cells #[.int .i64 u0, .int .i64 u1] 88)) by have h5 := Below.refl (w.alloc (.cells #[.int .i64 u0, .int .i64 u1] 88)).heap.size (w.alloc (.cells #[.int .i64 u0, .int .i64 u1] 88)); rw [World.size_alloc] at h5; exact h5)
  have HBW := hid (show ∀ W, Below (w.heap.size + 1) (w.alloc (.cells #[.int .i64 u0, .int .i64 u1] 88)) W → Below w.heap.size w W from fun W hW => HB0.out.trans (hW.mono (Nat.le_succ _)))
  clear ha hn
  go_enter Try.func54, Try.ntmps54
  go_wp2
  go_loopw [5] (fun i wr => ∃ k : Nat, k ≤ n ∧ i = .int .i64 (k : Int) ∧ Hid (∀ j : Nat, j < k → l[j]? ≠ some (u0, u1)) ∧ Hid (Below (w.heap.size + 1) (w.alloc (.cells #[.int .i64 u0, .int .i64 u1] 88)) wr)) (fun i _ => n - (intOf i).toNat)
  case atStart => exact ⟨0, by omega, rfl, fun j hj => absurd hj (Nat.not_lt_zero _), HB1⟩
  case round =>
    obtain ⟨k, hk, rfl, HE, HB⟩ := hrel
    obtain ⟨z0, z1⟩ := HXC.out wr HB.out
    by_cases hlt : k < n
    · have hkl : k < l.length := by have h5 := HN.out; omega
      obtain ⟨a, rfl, ha, a0, a1⟩ := (HA.out.below (HBW.out wr HB.out)) k l[k] (List.getElem?_eq_getElem hkl)
      have HGK := hid (List.getElem?_eq_getElem hkl)
      obtain ⟨gx, hx⟩ : ∃ gx, gx = l[k] := ⟨_, rfl⟩
      rw [← hx] at a0 a1 HGK
      obtain ⟨x0, x1⟩ := gx
      dsimp only at a0 a1
      have i3 : (k : Int) < (n : Int) := by omega
      have i0 : (0 : Int) ≤ (k : Int) := by omega
      have HBD := hid (HB.out.trans (show Below (w.heap.size + 1) wr wr.drew from ⟨rfl, rfl, rfl, Nat.le_refl _, fun _ _ => rfl⟩))
      have HBE := hid (HBW.out _ HBD.out)
      clear hx hkl
      by_cases q : (x0, x1) = (u0, u1)
      · have HF := hid (show fnd (u0, u1) l = (k : Int) from fnd_at _ l k (by rw [HGK.out, q]) HE.out)
        cases q
        go_wp2_with fail
        go_region
        go_wp2
        go_ret
        exact ⟨by rw [HF.out]; rfl, HBE.out⟩
      · have HE2 := hid (show ∀ j : Nat, j < k + 1 → l[j]? ≠ some (u0, u1) from fun j hj => by
          rcases Nat.lt_or_ge j k with h5 | h5
          · exact HE.out j h5
          · have h6 : j = k := by omega
            rw [h6, HGK.out]
            exact fun e => q (Option.some.inj e))
        by_cases q0 : x0 = u0
        · have q1 : x1 ≠ u1 := fun q1 => q (by rw [q0, q1])
          have t1 : (x1 == u1) = false := beq_eq_false_iff_ne.2 q1
          subst q0
          clear q
          go_wp2_with fail
          go_region
          go_wp2
          go_roundw
          case rel => exact ⟨k + 1, by omega, by go_num, HE2, HBD⟩
          case measure => simp [intOf]; omega
        · have t1 : (x0 == u0) = false := beq_eq_false_iff_ne.2 q0
          clear q
          go_wp2_with fail
          go_region
          go_wp2
          go_roundw
          case rel => exact ⟨k + 1, by omega, by go_num, HE2, HBD⟩
          case measure => simp [intOf]; omega
    · have i3 : ¬ (k : Int) < (n : Int) := by omega
      have HF := hid (show fnd (u0, u1) l = -1 from fnd_no _ l (fun hm => by
        obtain ⟨j, hj⟩ := List.getElem?_of_mem hm
        have h5 := (List.getElem?_eq_some_iff.1 hj).1
        exact HE.out j (by have h6 := HN.out; omega) hj))
      have HBE := hid (HBW.out _ HB.out)
      go_wp2
      go_ret
      exact ⟨by rw [HF.out]; rfl, HBE.out⟩
end Go.Proofs.Ytljlhlcoaajggaa
/- The document's ranges of all numbers are the program's; two such lists side by side, and their pairs numbered as they come. -/
namespace Go.Proofs.Ytljlhlcoaajggaa

/-- Ranges, number by number. -/
def ex (A : List Tr) : List Nat := A.flatMap fun g => List.replicate (g.2.1 + 1 - g.1) g.2.2
theorem ex_cons (g : Tr) (A : List Tr) : ex (g :: A) = List.replicate (g.2.1 + 1 - g.1) g.2.2 ++ ex A := rfl
theorem ex_alB (r : Nat) : ∀ (L : List Tr) (b : Nat), Ris b L → b ≤ 1114112 → ex (alB r b L) = clq r b L ++ List.replicate (1114112 - endR b L) r
  | [], b, _, hb => by
    rw [alB_nil]
    show _ = List.replicate (1114112 - b) r
    split
    · rename_i h
      show List.replicate (1114111 + 1 - b) r ++ [] = _
      rw [List.append_nil]
    · rw [show 1114112 - b = 0 by omega]; rfl
  | g :: L, b, h, hb => by
    obtain ⟨h1, h2, h3, h4, h5⟩ := h
    have ih := ex_alB r L (g.2.1 + 1) h5 (by omega)
    rw [alB_cons, endR_cons]
    show _ = (List.replicate (g.1 - b) r ++ (List.replicate (g.2.1 + 1 - g.1) g.2.2 ++ clq r (g.2.1 + 1) L)) ++ _
    split
    · rename_i hl
      show ex ((b, g.1 - 1, r) :: g :: alB r (g.2.1 + 1) L) = _
      rw [ex_cons, ex_cons, ih, show g.1 - 1 + 1 - b = g.1 - b by omega]
      simp
    · show ex (g :: alB r (g.2.1 + 1) L) = _
      rw [ex_cons, ih, show g.1 - b = 0 by omega]
      simp
theorem ex_alA (r : Nat) (L : List Tr) (h : Ris 0 L) : ex (alA r L) = clA r L := by
  have h1 := ex_alB r L 0 h (by omega)
  have h2 := clq_end r L 0 h
  unfold clA
  rw [show alA r L = alB r 0 L from rfl, h1, show endR 0 L = (clq r 0 L).length by omega]
/-- The runs of ranges that follow one another, neighbours unlike, are these ranges. -/
theorem rlA_ex : ∀ (A : List Tr) (b : Nat) (o : List Tr), Con b A → Dj (lcl o) A → rlA b o (ex A) = o ++ A
  | [], b, o, _, _ => by show o = _; simp
  | g :: A, b, o, hC, hD => by
    obtain ⟨h1, h2, h3, h4, h5⟩ := hC
    obtain ⟨d1, d2⟩ := hD
    rw [ex_cons, rlA_app, jn_gap o b (g.2.1 + 1 - g.1) g.2.2 (by omega), List.length_replicate]
    have ej : jn o (b, b + (g.2.1 + 1 - g.1 - 1), g.2.2) = o ++ [g] := by
      have eg : ((b, b + (g.2.1 + 1 - g.1 - 1), g.2.2) : Tr) = g := by
        obtain ⟨x, y, z⟩ := g
        dsimp only at h1 h2 ⊢
        rw [h1, show b + (y + 1 - b - 1) = y by omega]
      rw [eg]
      rcases List.eq_nil_or_concat o with rfl | ⟨Q, z, rfl⟩
      · rfl
      · rw [List.concat_eq_append] at d1 ⊢
        rw [jn_snoc, if_neg, List.append_assoc]
        · rfl
        · intro e
          exact d1 (by simp [lcl, e])
    rw [ej, show b + (g.2.1 + 1 - g.1) = g.2.1 + 1 by omega, rlA_ex A (g.2.1 + 1) (o ++ [g]) h5 (by rw [show lcl (o ++ [g]) = some g.2.2 by simp [lcl]]; exact d2)]
    simp
/-- What All tells is what whole tells. -/
theorem alA_whole (r : Nat) (hr : r < 256) (L : List Tr) (h : Ris 0 L) (hN : Nr r none 0 L) : rlA 0 [] (clA r L) = alA r L := by
  have hC := con_alB r hr L 0 h (by omega)
  have hD := dj_alB r L 0 none h hN (by simp)
  rw [← ex_alA r L h, rlA_ex (alA r L) 0 [] hC hD]
  rfl

/-- Two lists of ranges side by side. -/
def zp : Nat → List Tr → List Tr → Nat → List (Nat × Nat × Pr)
  | f + 1, x :: X, y :: Y, lo => (lo, min x.2.1 y.2.1, ((x.2.2 : Int), (y.2.2 : Int))) :: zp f (if x.2.1 = min x.2.1 y.2.1 then X else x :: X) (if y.2.1 = min x.2.1 y.2.1 then Y else y :: Y) (min x.2.1 y.2.1 + 1)
  | _, _, _, _ => []
/-- Pairs numbered as they come. -/
def nb (two : List Pr) : List (Nat × Nat × Pr) → List Pr × List Tr
  | [] => (two, [])
  | z :: R => if z.2.2 ∈ two then ((nb two R).1, (z.1, z.2.1, (fnd z.2.2 two).toNat) :: (nb two R).2) else ((nb (two ++ [z.2.2]) R).1, (z.1, z.2.1, two.length) :: (nb (two ++ [z.2.2]) R).2)
end Go.Proofs.Ytljlhlcoaajggaa
/- Two lists of ranges side by side: where one stands in them; the numbered pairs make rising ranges. -/
namespace Go.Proofs.Ytljlhlcoaajggaa

/-- What is left of a list of ranges when all up to lo has been gone through. -/
def Cv (lo : Nat) : List Tr → Prop
  | [] => lo = 1114112
  | g :: R => g.1 ≤ lo ∧ lo ≤ g.2.1 ∧ g.2.1 ≤ 1114111 ∧ g.2.2 < 256 ∧ Con (g.2.1 + 1) R
theorem cv_con (b : Nat) (A : List Tr) (h : Con b A) : Cv b A := by
  cases A with
  | nil => exact h
  | cons g R =>
    obtain ⟨h1, h2, h3, h4, h5⟩ := h
    exact ⟨by omega, by omega, h3, h4, h5⟩
theorem cv_next (lo hi : Nat) (x : Tr) (X : List Tr) (h : Cv lo (x :: X)) (h1 : lo ≤ hi) (h2 : hi ≤ x.2.1) : Cv (hi + 1) (if x.2.1 = hi then X else x :: X) := by
  obtain ⟨k1, k2, k3, k4, k5⟩ := h
  split
  · rename_i e
    rw [← e]
    exact cv_con _ _ k5
  · exact ⟨by omega, by omega, k3, k4, k5⟩
/-- Pieces that follow one another from lo to the end. -/
def Zc : Nat → List (Nat × Nat × Pr) → Prop
  | lo, [] => lo = 1114112
  | lo, z :: R => z.1 = lo ∧ z.1 ≤ z.2.1 ∧ z.2.1 ≤ 1114111 ∧ Zc (z.2.1 + 1) R
theorem zp_zc : ∀ (f : Nat) (X Y : List Tr) (lo : Nat), Cv lo X → Cv lo Y → X.length + Y.length ≤ f → Zc lo (zp f X Y lo) ∧ (zp f X Y lo).length ≤ f
  | 0, X, Y, lo, hX, _, hf => by
    have : X = [] := List.length_eq_zero_iff.1 (by omega)
    subst this
    exact ⟨by show lo = 1114112; exact hX, Nat.le_refl _⟩
  | f + 1, [], Y, lo, hX, _, _ => ⟨by show lo = 1114112; exact hX, Nat.zero_le _⟩
  | f + 1, x :: X, [], lo, hX, hY, _ => by
    have h1 : lo = 1114112 := hY
    have h2 := hX.2.1
    have h3 := hX.2.2.1
    omega
  | f + 1, x :: X, y :: Y, lo, hX, hY, hf => by
    have hx1 := hX.2.1
    have hy1 := hY.2.1
    have hx2 := hX.2.2.1
    have hm : lo ≤ min x.2.1 y.2.1 := by omega
    have cX := cv_next lo (min x.2.1 y.2.1) x X hX hm (by omega)
    have cY := cv_next lo (min x.2.1 y.2.1) y Y hY hm (by omega)
    have hl : (if x.2.1 = min x.2.1 y.2.1 then X else x :: X).length + (if y.2.1 = min x.2.1 y.2.1 then Y else y :: Y).length ≤ f := by
      simp only [List.length_cons] at hf
      rcases Nat.le_total x.2.1 y.2.1 with h | h
      · rw [if_pos (by omega)]
        split
        · omega
        · simp only [List.length_cons]; omega
      · rw [if_pos (show y.2.1 = min x.2.1 y.2.1 by omega)]
        split
        · omega
        · simp only [List.length_cons]; omega
    obtain ⟨i1, i2⟩ := zp_zc f _ _ (min x.2.1 y.2.1 + 1) cX cY hl
    exact ⟨⟨rfl, hm, by show min x.2.1 y.2.1 ≤ _; omega, i1⟩, by show (zp f _ _ _).length + 1 ≤ _; omega⟩
theorem nb_pre : ∀ (Z : List (Nat × Nat × Pr)) (two : List Pr), two.length ≤ (nb two Z).1.length ∧ (nb two Z).1.length ≤ two.length + Z.length ∧ (nb two Z).2.length = Z.length
  | [], two => ⟨Nat.le_refl _, Nat.le_refl _, rfl⟩
  | z :: R, two => by
    unfold nb
    split
    · obtain ⟨i1, i2, i3⟩ := nb_pre R two
      exact ⟨i1, by simp; omega, by simp [i3]⟩
    · obtain ⟨i1, i2, i3⟩ := nb_pre R (two ++ [z.2.2])
      simp at i1 i2
      exact ⟨by dsimp only; omega, by simp; omega, by simp [i3]⟩
theorem fnd_lt (x : Pr) : ∀ l : List Pr, x ∈ l → 0 ≤ fnd x l ∧ fnd x l < (l.length : Int)
  | [], h => by cases h
  | y :: l, h => by
    by_cases e : y = x
    · have u : fnd x (y :: l) = 0 := by show (if y = x then _ else _) = _; rw [if_pos e]
      rw [u]; exact ⟨Int.le_refl _, by simp⟩
    · have hm : x ∈ l := by
        rcases List.mem_cons.1 h with h5 | h5
        · exact absurd h5.symm e
        · exact h5
      obtain ⟨i1, i2⟩ := fnd_lt x l hm
      have u : fnd x (y :: l) = fnd x l + 1 := by show (if y = x then _ else if fnd x l < 0 then -1 else fnd x l + 1) = _; rw [if_neg e, if_neg (by omega)]
      rw [u]; simp; omega
/-- The numbered pieces are rising ranges, if there are not too many pairs. -/
theorem nb_ris : ∀ (Z : List (Nat × Nat × Pr)) (two : List Pr) (lo : Nat), Zc lo Z → (nb two Z).1.length ≤ 256 → Ris lo (nb two Z).2
  | [], _, _, _, _ => trivial
  | z :: R, two, lo, hZ, hl => by
    obtain ⟨h1, h2, h3, h4⟩ := hZ
    unfold nb at hl ⊢
    split
    · rename_i hm
      rw [if_pos hm] at hl
      have ih := nb_ris R two (z.2.1 + 1) h4 hl
      have hp := (nb_pre R two).1
      obtain ⟨f1, f2⟩ := fnd_lt z.2.2 two hm
      have hl' : (nb two R).1.length ≤ 256 := hl
      exact ⟨by show lo ≤ z.1; omega, h2, h3, by show (fnd z.2.2 two).toNat < 256; omega, ih⟩
    · rename_i hm
      rw [if_neg hm] at hl
      have ih := nb_ris R (two ++ [z.2.2]) (z.2.1 + 1) h4 hl
      have hp := (nb_pre R (two ++ [z.2.2])).1
      have hl' : (nb (two ++ [z.2.2]) R).1.length ≤ 256 := hl
      simp at hp
      exact ⟨by show lo ≤ z.1; omega, h2, h3, by show two.length < 256; omega, ih⟩
end Go.Proofs.Ytljlhlcoaajggaa
/- Two lists of ranges gone through side by side: what stands between the rounds; pairs as cells. -/
namespace Go.Proofs.Ytljlhlcoaajggaa
open Go.RowKit

/-- A pair's number, and the list with it. -/
def ad (p : Pr) (T : List Pr) : List Pr × Nat := if p ∈ T then (T, (fnd p T).toNat) else (T ++ [p], T.length)
theorem nb_step (T : List Pr) (z : Nat × Nat × Pr) (R : List (Nat × Nat × Pr)) : nb T (z :: R) = ((nb (ad z.2.2 T).1 R).1, (z.1, z.2.1, (ad z.2.2 T).2) :: (nb (ad z.2.2 T).1 R).2) := by
  unfold ad
  show (if z.2.2 ∈ T then _ else _) = _
  split <;> rfl
theorem ad_len (p : Pr) (T : List Pr) : (ad p T).1.length ≤ T.length + 1 := by
  unfold ad
  split
  · simp
  · simp
/-- All the pieces of two lists, numbered. -/
def zpF (A D : List Tr) : List Pr × List Tr := nb [] (zp (A.length + D.length) A D 0)
def hdl : List Tr → Nat
  | [] => 0
  | g :: _ => g.1
/-- What stands between the rounds: X and Y are left, T and Lc are done. -/
def Iv (A D : List Tr) (T : List Pr) (Lc X Y : List Tr) (lo : Nat) : Prop :=
  ∃ f : Nat, Cv lo X ∧ Cv lo Y ∧ X.length + Y.length ≤ f ∧ zpF A D = ((nb T (zp f X Y lo)).1, Lc ++ (nb T (zp f X Y lo)).2) ∧ Lc.length + f ≤ A.length + D.length ∧ T.length ≤ Lc.length ∧ (X ≠ [] → max (hdl X) (hdl Y) = lo)
theorem iv_start (A D : List Tr) (hA : Con 0 A) (hD : Con 0 D) : Iv A D [] [] A D 0 :=
  ⟨A.length + D.length, cv_con 0 A hA, cv_con 0 D hD, Nat.le_refl _, by unfold zpF; simp, by simp, Nat.le_refl _, fun _ => by
    have h1 : hdl A = 0 := by
      cases A with
      | nil => rfl
      | cons g R => exact hA.1
    have h2 : hdl D = 0 := by
      cases D with
      | nil => rfl
      | cons g R => exact hD.1
    rw [h1, h2]; rfl⟩
theorem con_hd (b : Nat) (R : List Tr) (h : Con b R) (hne : R ≠ []) : hdl R = b := by
  cases R with
  | nil => exact absurd rfl hne
  | cons g R => exact h.1
theorem iv_step (A D : List Tr) (T : List Pr) (Lc X Y : List Tr) (lo : Nat) (h : Iv A D T Lc X Y lo) (hX : lo ≤ 1114111) :
    ∃ x X' y Y', X = x :: X' ∧ Y = y :: Y' ∧ max x.1 y.1 = lo ∧ x.1 ≤ lo ∧ y.1 ≤ lo ∧ lo ≤ min x.2.1 y.2.1 ∧ x.2.1 ≤ 1114111 ∧ y.2.1 ≤ 1114111 ∧ x.2.2 < 256 ∧ y.2.2 < 256 ∧
      Iv A D (ad ((x.2.2 : Int), (y.2.2 : Int)) T).1 (Lc ++ [(lo, min x.2.1 y.2.1, (ad ((x.2.2 : Int), (y.2.2 : Int)) T).2)]) (if x.2.1 = min x.2.1 y.2.1 then X' else x :: X') (if y.2.1 = min x.2.1 y.2.1 then Y' else y :: Y') (min x.2.1 y.2.1 + 1) := by
  obtain ⟨f, cX, cY, hf, he, hl, ht, hm⟩ := h
  match X, Y, cX, cY, hf, he, hm with
  | [], _, cX, _, _, _, _ => exact absurd (show lo = 1114112 from cX) (by omega)
  | _ :: _, [], _, cY, _, _, _ => exact absurd (show lo = 1114112 from cY) (by omega)
  | x :: X', y :: Y', cX, cY, hf, he, hm =>
    obtain ⟨x1, x2, x3, x4, x5⟩ := cX
    obtain ⟨y1, y2, y3, y4, y5⟩ := cY
    have hlo : lo ≤ min x.2.1 y.2.1 := by omega
    refine ⟨x, X', y, Y', rfl, rfl, hm (by simp), x1, y1, hlo, x3, y3, x4, y4, ?_⟩
    cases f with
    | zero => simp at hf
    | succ f =>
      have cX' := cv_next lo (min x.2.1 y.2.1) x X' ⟨x1, x2, x3, x4, x5⟩ hlo (by omega)
      have cY' := cv_next lo (min x.2.1 y.2.1) y Y' ⟨y1, y2, y3, y4, y5⟩ hlo (by omega)
      refine ⟨f, cX', cY', ?_, ?_, ?_, ?_, ?_⟩
      · simp only [List.length_cons] at hf
        rcases Nat.le_total x.2.1 y.2.1 with h | h
        · rw [if_pos (show x.2.1 = min x.2.1 y.2.1 by omega)]
          split
          · omega
          · simp only [List.length_cons]; omega
        · rw [if_pos (show y.2.1 = min x.2.1 y.2.1 by omega)]
          split
          · omega
          · simp only [List.length_cons]; omega
      · rw [he, show zp (f + 1) (x :: X') (y :: Y') lo = (lo, min x.2.1 y.2.1, ((x.2.2 : Int), (y.2.2 : Int))) :: zp f (if x.2.1 = min x.2.1 y.2.1 then X' else x :: X') (if y.2.1 = min x.2.1 y.2.1 then Y' else y :: Y') (min x.2.1 y.2.1 + 1) from rfl, nb_step]
        simp
      · simp; omega
      · have := ad_len ((x.2.2 : Int), (y.2.2 : Int)) T
        simp; omega
      · intro hne
        rcases Nat.lt_trichotomy x.2.1 y.2.1 with h | h | h
        · rw [if_pos (show x.2.1 = min x.2.1 y.2.1 by omega)] at hne ⊢
          rw [if_neg (show ¬ y.2.1 = min x.2.1 y.2.1 by omega), con_hd _ _ x5 hne]
          show max (x.2.1 + 1) y.1 = _
          omega
        · rw [if_pos (show x.2.1 = min x.2.1 y.2.1 by omega)] at hne ⊢
          rw [if_pos (show y.2.1 = min x.2.1 y.2.1 by omega), con_hd _ _ x5 hne]
          by_cases hY : Y' = []
          · subst hY
            show max (x.2.1 + 1) 0 = _
            omega
          · rw [con_hd _ _ y5 hY]
            omega
        · rw [if_neg (show ¬ x.2.1 = min x.2.1 y.2.1 by omega)] at hne ⊢
          rw [if_pos (show y.2.1 = min x.2.1 y.2.1 by omega)]
          by_cases hY : Y' = []
          · subst hY
            have h5 : y.2.1 + 1 = 1114112 := y5
            omega
          · rw [con_hd _ _ y5 hY]
            show max x.1 (y.2.1 + 1) = _
            omega
theorem iv_end (A D : List Tr) (T : List Pr) (Lc X Y : List Tr) (lo : Nat) (h : Iv A D T Lc X Y lo) (hX : ¬ lo ≤ 1114111) : zpF A D = (T, Lc) := by
  obtain ⟨f, cX, cY, hf, he, hl, ht, hm⟩ := h
  have hX0 : X = [] := by
    cases X with
    | nil => rfl
    | cons g R => exact absurd cX.2.1 (by have := cX.2.2.1; omega)
  subst hX0
  rw [he]
  have e : zp f [] Y lo = [] := by cases f <;> rfl
  rw [e]
  show (T, Lc ++ []) = _
  rw [List.append_nil]
theorem iv_len {A D : List Tr} {T : List Pr} {Lc X Y : List Tr} {lo : Nat} (h : Iv A D T Lc X Y lo) : Lc.length + X.length + Y.length ≤ A.length + D.length ∧ T.length ≤ Lc.length ∧ lo ≤ 1114112 := by
  obtain ⟨f, cX, cY, hf, he, hl, ht, hm⟩ := h
  refine ⟨by omega, ht, ?_⟩
  cases X with
  | nil => exact Nat.le_of_eq cX
  | cons g R => have := cX.2.1; have := cX.2.2.1; omega
theorem iv_nil {A D : List Tr} {T : List Pr} {Lc X Y : List Tr} {lo : Nat} (h : Iv A D T Lc X Y lo) : X = [] ↔ ¬ lo ≤ 1114111 := by
  obtain ⟨f, cX, cY, hf, he, hl, ht, hm⟩ := h
  cases X with
  | nil => simp [show lo = 1114112 from cX]
  | cons g R => have := cX.2.1; have := cX.2.2.1; simp; omega

/-- Pairs as cells. -/
def pkc (p : Pr) : List Value := [.int .i64 p.1, .int .i64 p.2]
def pks (l : List Pr) : List Value := l.flatMap pkc
theorem pks_snoc (l : List Pr) (p : Pr) : pks (l ++ [p]) = pks l ++ pkc p := by simp [pks]
theorem pks_len (l : List Pr) : (pks l).length = l.length * 2 := by
  induction l with
  | nil => rfl
  | cons g l ih =>
    show (pkc g ++ pks l).length = _
    rw [List.length_append, ih]
    simp [pkc]; omega
theorem pkc_one (p : Pr) : ∀ v ∈ pkc p, v.oneCell' = true := fun v hv => by
  simp [pkc] at hv
  rcases hv with rfl | rfl <;> rfl
theorem pks_at (l : List Pr) (k c : Nat) (v : Value) (h : k < l.length) (hv : (pkc l[k])[c]? = some v) : (pks l)[k * 2 + c]? = some v := by
  have hc : c < 2 := (List.getElem?_eq_some_iff.1 hv).1
  have hl : (pks (l.take k)).length = k * 2 := by rw [pks_len, List.length_take]; omega
  have e : l = l.take k ++ l[k] :: l.drop (k + 1) := by rw [List.getElem_cons_drop, List.take_append_drop]
  have e3 : pks (l.take k ++ l[k] :: l.drop (k + 1)) = pks (l.take k) ++ (pkc l[k] ++ pks (l.drop (k + 1))) := by unfold pks; rw [List.flatMap_append, List.flatMap_cons]
  have e2 : pks l = pks (l.take k) ++ (pkc l[k] ++ pks (l.drop (k + 1))) := (congrArg pks e).trans e3
  rw [e2, List.getElem?_append_right (by omega), hl, show k * 2 + c - k * 2 = c by omega, List.getElem?_append_left hc]
  exact hv
theorem rd_ownP {B n cap : Nat} {ao : Option Addr} {l : List Pr} {w : World} (h : w.ownsRow B 88 2 (.slice ao n cap) n (pks l)) : RdP w ao l := by
  intro k g hk
  obtain ⟨hkl, rfl⟩ := List.getElem?_eq_some_iff.1 hk
  have hn : l.length = n := by have := h.1; rw [pks_len] at this; omega
  rcases h.2 with ⟨h', h0⟩ | ⟨q, cap', cur, h', hb, hg, hnc, hcm, hcs, htk⟩
  · omega
  · simp only [Value.slice.injEq, true_and] at h'
    obtain ⟨rfl, rfl⟩ := h'
    have hc : ∀ j v, (pkc l[k])[j]? = some v → w.cell? ⟨q, k * 2 + j, none⟩ = some v := fun j v hj => by
      have hj3 : j < 2 := (List.getElem?_eq_some_iff.1 hj).1
      rw [h.cellAt _ (by omega)]
      exact pks_at l k j v hkl hj
    have ha : (⟨q, 0, none⟩ : Addr).add (k * 2) = ⟨q, k * 2, none⟩ := by rw [Addr.add_lit, Nat.zero_add]
    refine ⟨_, rfl, (h.lt q rfl).2, ?_, ?_⟩
    · rw [ha]; exact hc 0 _ rfl
    · rw [ha]; exact hc 1 _ rfl
theorem Try.info88 : (Try.prog.info? 88).map (fun i => (i.zero, i.size, i.bytes)) = some (some (.agg #[.int .i64 0, .int .i64 0]), 2, 16) := by kernel_rfl
theorem news_p (w : World) (g : Pr) (T : TypeId) : ∀ j u, (pkc g)[j]? = some u → (w.alloc (.cells #[.int .i64 g.1, .int .i64 g.2] T)).cell? ((⟨w.heap.size, 0, none⟩ : Addr).add j) = some u := fun j u hj => by
  rw [show (⟨w.heap.size, 0, none⟩ : Addr).add j = ⟨w.heap.size, j, none⟩ by unfold Addr.add; split <;> simp_all]
  rw [cell_of_row _ w.heap.size j #[.int .i64 g.1, .int .i64 g.2] T (0, 0) (show (w.heap.push _)[w.heap.size]? = _ by simp)]
  rw [← hj]
  simp [pkc]
/-- Rows of unlike types lie in unlike blocks. -/
theorem own_ne {w : World} {B B' t t' s s' n n' : Nat} {v v' : Value} {xs xs' : List Value} (h : w.ownsRow B t s v n xs) (h' : w.ownsRow B' t' s' v' n' xs') (ht : t ≠ t') : v.ownBlock = none ∨ v.ownBlock ≠ v'.ownBlock := by
  rcases h.2 with ⟨rfl, _⟩ | ⟨g, cap, cur, rfl, _, hg, _⟩
  · exact .inl rfl
  · refine .inr fun e => ?_
    rcases h'.2 with ⟨rfl, _⟩ | ⟨g', cap', cur', rfl, _, hg', _⟩
    · simp [Value.ownBlock] at e
    · have e2 : g = g' := by simpa [Value.ownBlock] using e
      subst e2
      rw [hg] at hg'
      injection hg' with hg'
      injection hg' with _ h2 _
      exact ht h2
theorem fnd_mem (p : Pr) (T : List Pr) (h : p ∈ T) : ∃ n : Nat, fnd p T = (n : Int) ∧ ad p T = (T, n) := by
  obtain ⟨h1, h2⟩ := fnd_lt p T h
  exact ⟨(fnd p T).toNat, by omega, by unfold ad; rw [if_pos h]⟩
theorem fnd_not (p : Pr) (T : List Pr) (h : p ∉ T) : fnd p T = -1 ∧ ad p T = (T ++ [p], T.length) := ⟨fnd_no p T h, by unfold ad; rw [if_neg h]⟩
end Go.Proofs.Ytljlhlcoaajggaa
/- A pair of classes as a map's key; the map of pairs to their numbers. -/
namespace Go.Proofs.Ytljlhlcoaajggaa
open Go.RowKit Go.Maps Go.WideMaps

theorem law88 : Keyed Try.prog 88 := Keyed.of_law (deep_law (m := 2) (by decide) (by kernel_rfl) (by kernel_rfl) (by kernel_rfl))
def prv (p : Pr) : Value := .agg #[.int .i64 p.1, .int .i64 p.2]
def okP (p : Pr) : Prop := (Lit.int .i64 p.1).wf = true ∧ (Lit.int .i64 p.2).wf = true
def pky (p : Pr) : Lit := .string (keyBytes [.int .i64 p.1, .int .i64 p.2])
theorem cells88 : Try.prog.cellsOf 88 = 2 := by kernel_rfl
theorem cells3 : Try.prog.cellsOf 3 = 1 := by kernel_rfl
theorem keyt88 : Try.prog.keyType 88 = true := by kernel_rfl
theorem keyOf_prv (p : Pr) (h : okP p) : keyOf Try.prog 88 (prv p) = some (pky p) := by
  obtain ⟨m0, hm0⟩ := types_some
  obtain ⟨x, y⟩ := p
  obtain ⟨h1, h2⟩ := h
  dsimp only at h1 h2
  unfold keyOf prv
  simp only [Try.underlying88]
  rw [if_pos (by simp [keyt88, Value.formed, Try.underlying88, cells88]), hm0]
  unfold Program.keyLits
  simp only [Try.underlying88, Value.cells]
  rw [if_pos (by rw [cells88]; simp)]
  simp [Program.keyLits, Try.underlying3, cells3, h1, h2, pky]
theorem pky_inj {a b : Pr} (ha : okP a) (hb : okP b) (h : pky a = pky b) : a = b := by
  have h1 := keyOf_prv a ha
  have h2 := keyOf_prv b hb
  rw [← h] at h2
  have h3 := law88.inj h1 h2
  obtain ⟨x, y⟩ := a
  obtain ⟨u, v⟩ := b
  simpa [prv] using h3
theorem pky_key (p : Pr) : WideAt.IsKeyLit (pky p) := by unfold pky; trivial
/-- The map of pairs to their numbers. -/
def pdF {H : Type} : Nat → DataW H → List Pr → DataW H
  | _, D, [] => D
  | i, D, b :: U => pdF (i + 1) (D.put (pky b) (.lit (.int .i64 (i : Int)))) U
def pdc {H : Type} (U : List Pr) : DataW H := pdF 0 (.map []) U
theorem pdF_app {H : Type} : ∀ (U V : List Pr) (i : Nat) (D : DataW H), pdF i D (U ++ V) = pdF (i + U.length) (pdF i D U) V
  | [], V, i, D => rfl
  | b :: U, V, i, D => by
    show pdF (i + 1) _ (U ++ V) = _
    rw [pdF_app U V (i + 1), List.length_cons, show i + 1 + U.length = i + (U.length + 1) by omega]
    rfl
theorem pdc_snoc {H : Type} (U : List Pr) (b : Pr) : (pdc (U ++ [b]) : DataW H) = (pdc U).put (pky b) (.lit (.int .i64 (U.length : Int))) := by
  unfold pdc
  rw [pdF_app, Nat.zero_add]; rfl
theorem pdc_map {H : Type} : ∀ (n : Nat) (U : List Pr), U.length = n → IsMap (pdc U : DataW H)
  | 0, U, h => by
    have : U = [] := List.length_eq_zero_iff.1 h
    subst this
    exact ⟨[], rfl⟩
  | n + 1, U, h => by
    rcases List.eq_nil_or_concat U with rfl | ⟨V, b, rfl⟩
    · simp at h
    · rw [List.concat_eq_append, pdc_snoc]
      exact isMap_put (pdc_map n V (by simp at h; exact h)) _ _
theorem pdc_has {H : Type} : ∀ (n : Nat) (U : List Pr) (b : Pr), U.length = n → (∀ a ∈ U, okP a) → okP b → Maps.has (pdc U : DataW H) (pky b) = decide (b ∈ U)
  | 0, U, b, h, _, _ => by
    have : U = [] := List.length_eq_zero_iff.1 h
    subst this
    simp [pdc, pdF, Maps.has]
  | n + 1, U, b, h, hU, hb => by
    rcases List.eq_nil_or_concat U with rfl | ⟨V, c, rfl⟩
    · simp at h
    · rw [List.concat_eq_append] at *
      have hV : V.length = n := by simp at h; exact h
      have ih := pdc_has (H := H) n V b hV (fun a ha => hU a (by simp [ha])) hb
      rw [pdc_snoc]
      by_cases e : b = c
      · subst e
        rw [has_put_same (pdc_map n V hV) (pky_key b)]
        simp
      · rw [has_put_other (fun h2 => e (pky_inj hb (hU c (by simp)) h2)), ih]
        simp [e]
theorem fnd_app (b : Pr) (l : List Pr) : ∀ (V : List Pr), b ∈ V → fnd b (V ++ l) = fnd b V
  | [], h => by cases h
  | y :: V, h => by
    show (if y = b then _ else if fnd b (V ++ l) < 0 then -1 else fnd b (V ++ l) + 1) = (if y = b then _ else if fnd b V < 0 then -1 else fnd b V + 1)
    by_cases e : y = b
    · rw [if_pos e, if_pos e]
    · have hm : b ∈ V := by
        rcases List.mem_cons.1 h with h5 | h5
        · exact absurd h5.symm e
        · exact h5
      rw [if_neg e, if_neg e, fnd_app b l V hm]
theorem fnd_last (b : Pr) : ∀ (V : List Pr), b ∉ V → fnd b (V ++ [b]) = (V.length : Int)
  | [], _ => by show (if b = b then (0 : Int) else _) = _; rw [if_pos rfl]; rfl
  | y :: V, h => by
    have h1 : ¬ y = b := fun e => h (by simp [e])
    have ih := fnd_last b V (fun hm => h (by simp [hm]))
    show (if y = b then _ else if fnd b (V ++ [b]) < 0 then -1 else fnd b (V ++ [b]) + 1) = _
    rw [if_neg h1, ih, if_neg (by omega)]
    simp
theorem pdc_at {H : Type} (z : DataW H) : ∀ (n : Nat) (U : List Pr) (b : Pr), U.length = n → (∀ a ∈ U, okP a) → okP b → U.Nodup → (pdc U : DataW H).atKey (pky b) z = if b ∈ U then .lit (.int .i64 (fnd b U)) else z
  | 0, U, b, h, _, _, _ => by
    have : U = [] := List.length_eq_zero_iff.1 h
    subst this
    simp [pdc, pdF, DataW.atKey]
  | n + 1, U, b, h, hU, hb, hnd => by
    rcases List.eq_nil_or_concat U with rfl | ⟨V, c, rfl⟩
    · simp at h
    · rw [List.concat_eq_append] at *
      have hV : V.length = n := by simp at h; exact h
      rw [List.nodup_append] at hnd
      have ih := pdc_at z n V b hV (fun a ha => hU a (by simp [ha])) hb hnd.1
      rw [pdc_snoc]
      by_cases e : b = c
      · subst e
        have hn : b ∉ V := fun hm => hnd.2.2 b hm b (by simp) rfl
        rw [atKey_put_same (pdc_map n V hV) (pky_key b), if_pos (by simp), fnd_last b V hn]
      · rw [atKey_put_other (fun h2 => e (pky_inj hb (hU c (by simp)) h2)), ih]
        by_cases hm : b ∈ V
        · rw [if_pos hm, if_pos (by simp [hm]), fnd_app b [c] V hm]
        · rw [if_neg hm, if_neg (by simp [hm, e])]
theorem ad_nodup (p : Pr) (T : List Pr) (h : T.Nodup) : (ad p T).1.Nodup := by
  unfold ad
  split
  · exact h
  · rename_i hn
    rw [List.nodup_append]
    refine ⟨h, by simp, fun a ha b hb => ?_⟩
    simp at hb
    subst hb
    exact fun e => hn (e ▸ ha)
theorem ad_ok (p : Pr) (T : List Pr) (hp : okP p) (h : ∀ a ∈ T, okP a) : ∀ a ∈ (ad p T).1, okP a := by
  unfold ad
  split
  · exact h
  · intro a ha
    rcases List.mem_append.1 ha with h5 | h5
    · exact h a h5
    · simp at h5; subst h5; exact hp
theorem okP_nat (a b : Nat) (ha : a < 256) (hb : b < 256) : okP ((a : Int), (b : Int)) := by
  have h2 : IntKind.i64.min = -9223372036854775808 := by decide
  have h3 : IntKind.i64.max = 9223372036854775807 := by decide
  constructor <;> (simp [Lit.wf]; omega)
theorem zero3 (w : World) : (zeroValue 3).run Try.prog w = .ok (.int .i64 0) w := by kernel_rfl
end Go.Proofs.Ytljlhlcoaajggaa
/- The contract of the function within Pair (package table) that numbers pairs. -/
namespace Go.Proofs.Ytljlhlcoaajggaa
open Go.RowKit Go.Maps Go.WideMaps

/-- The known pairs: the map, the list, and the two variables that hold them. -/
structure PrAt (B kb pb K : Nat) (T : List Pr) (tv : Value) (w : World) : Prop where
  hk : w.heap[kb]? = some (.cells #[.map (some K)] 86 (0, 0))
  hp : w.heap[pb]? = some (.cells #[tv] 49 (0, 0))
  hK : w.ownsMap (H := Unit) Try.prog 88 (plainElem Try.prog 3) K T.length (pdc T)
  hR : w.ownsRow B 88 2 tv T.length (pks T)
  bk : B ≤ kb
  bp : B ≤ pb
  bK : B ≤ K
theorem ne_map88 {w : World} {K n : Nat} {D : DataW Unit} {R : Value → Option (DataW Unit × List MemPlace)} (h : w.ownsMap Try.prog 88 R K n D) {c : Array Value} {t : TypeId} {f : Nat × Nat} (hb : w.heap[K]? = some (.cells c t f)) : False := by
  obtain ⟨es, clock, hk, _⟩ := h
  rw [hk] at hb
  cases hb
/-- A row does not lie in a block of another type. -/
theorem row_other {w : World} {B t s n : Nat} {v : Value} {xs : List Value} (h : w.ownsRow B t s v n xs) (b : Nat) (c : Array Value) (t' : TypeId) (hb : w.heap[b]? = some (.cells c t' (0, 0))) (ht : t ≠ t') : v.ownBlock ≠ some b := fun e => by
  rcases h.2 with ⟨h0, _⟩ | ⟨g, cap, cur, hv, _, hg, _⟩
  · rw [h0] at e; cases e
  · rw [hv] at e
    have : g = b := by simpa [Value.ownBlock] using e
    subst this
    rw [hg] at hb
    injection hb with hb
    injection hb with _ h2 _
    exact ht h2
theorem row_other_map {w : World} {B t s n : Nat} {v : Value} {xs : List Value} (h : w.ownsRow B t s v n xs) {K m : Nat} {D : DataW Unit} {R : Value → Option (DataW Unit × List MemPlace)} (hk : w.ownsMap Try.prog 88 R K m D) : v.ownBlock ≠ some K := fun e => by
  rcases h.2 with ⟨h0, _⟩ | ⟨g, cap, cur, hv, _, hg, _⟩
  · rw [h0] at e; cases e
  · rw [hv] at e
    have : g = K := by simpa [Value.ownBlock] using e
    subst this
    exact ne_map88 hk hg
theorem heap_keepB {w w' : World} {b : Nat} (hb : Below w.heap.size w w') (h : b < w.heap.size) : w'.heap[b]? = w.heap[b]? := hb.block b h
theorem map_keep {w w' : World} {K n : Nat} {D : DataW Unit} {R : Value → Option (DataW Unit × List MemPlace)} (h : w.ownsMap Try.prog 88 R K n D) (e : w'.heap[K]? = w.heap[K]?) : w'.ownsMap Try.prog 88 R K n D := by
  obtain ⟨es, clock, hk, F, rest⟩ := h
  exact ⟨es, clock, e.trans hk, F, rest⟩
theorem row_keep {w w' : World} {B t s n : Nat} {v : Value} {xs : List Value} (h : w.ownsRow B t s v n xs) (e : ∀ b, v.ownBlock = some b → w'.heap[b]? = w.heap[b]?) : w'.ownsRow B t s v n xs := by
  refine ⟨h.1, ?_⟩
  rcases h.2 with h' | ⟨q, cap, cur, hv, hB, hg, rest⟩
  · exact .inl h'
  · exact .inr ⟨q, cap, cur, hv, hB, (e q (by rw [hv]; rfl)).trans hg, rest⟩
section
variable {B kb pb K : Nat} {T : List Pr} {tv : Value} {w w' : World}
theorem PrAt.keep (h : PrAt B kb pb K T tv w) (e : ∀ b, b < w.heap.size → (∀ c, w.heap[b]? ≠ some (.cells c 36 (0, 0))) → w'.heap[b]? = w.heap[b]?) : PrAt B kb pb K T tv w' := by
  refine ⟨?_, ?_, ?_, ?_, h.bk, h.bp, h.bK⟩
  · exact (e kb (lt_of_heap h.hk) (fun c hc => by rw [h.hk] at hc; injection hc with hc; injection hc with _ h2 _; exact absurd h2 (by decide))).trans h.hk
  · exact (e pb (lt_of_heap h.hp) (fun c hc => by rw [h.hp] at hc; injection hc with hc; injection hc with _ h2 _; exact absurd h2 (by decide))).trans h.hp
  · exact map_keep h.hK (e K h.hK.lt (fun c hc => ne_map88 h.hK hc))
  · exact row_keep h.hR (fun b hb => e b (h.hR.lt b hb).2 (fun c hc => row_other h.hR b c 36 hc (by decide) hb))
theorem PrAt.below (h : PrAt B kb pb K T tv w) (hb : Below w.heap.size w w') : PrAt B kb pb K T tv w' := h.keep fun b h1 _ => hb.block b h1
/-- What numbering leaves alone: blocks of ranges. -/
theorem far_36 {tv' : Value} (h : PrAt B kb pb K T tv w) (hf : Far kb pb K tv tv' w w') (b : Nat) (c : Array Value) (hb : w.heap[b]? = some (.cells c 36 (0, 0))) : w'.heap[b]? = w.heap[b]? :=
  hf.st b (lt_of_heap hb)
    (fun e => by subst e; rw [h.hk] at hb; injection hb with hb; injection hb with _ h2 _; exact absurd h2 (by decide))
    (fun e => by subst e; rw [h.hp] at hb; injection hb with hb; injection hb with _ h2 _; exact absurd h2 (by decide))
    (fun e => by subst e; exact ne_map88 h.hK hb)
    (row_other h.hR b c 36 hb (by decide))
end
set_option maxRecDepth 100000 in
set_option maxHeartbeats 3000000 in
theorem pairf_any (B kb pb K : Nat) (T : List Pr) (tv : Value) (p : Pr) (w : World) (h : PrAt B kb pb K T tv w) (hB : B ≤ w.heap.size) (hp : okP p) (hT : ∀ a ∈ T, okP a) (hn : T.Nodup) (hl : T.length ≤ 3000000) :
    Calls Try.prog 52 #[prv p, .pointer (some ⟨kb, 0, none⟩), .pointer (some ⟨pb, 0, none⟩)] w fun e w' => e = .returned (.int .i64 ((ad p T).2 : Int)) ∧ Below B w w' ∧ ∃ tv', PrAt B kb pb K (ad p T).1 tv' w' ∧ Far kb pb K tv tv' w w' := by
  obtain ⟨j0, hj88, jz0, jz1, jz2⟩ := info_parts Try.info88
  obtain ⟨to, tc, rfl⟩ := own_form h.hR
  obtain ⟨x, y⟩ := p
  have HKY := hid (keyOf_prv (x, y) hp)
  unfold prv at HKY ⊢
  dsimp only at HKY ⊢
  have ck : w.cell? ⟨kb, 0, none⟩ = some (.map (some K)) := cell_row w kb 0 [.map (some K)] 86 _ h.hk rfl
  have cp : w.cell? ⟨pb, 0, none⟩ = some (.slice to T.length tc) := cell_row w pb 0 [.slice to T.length tc] 49 _ h.hp rfl
  have hkl := lt_of_heap h.hk
  have hpl := lt_of_heap h.hp
  have HW := hid h
  have HAL := hid (heap_alloc_new w (.cells #[.int .i64 x, .int .i64 y] 88))
  have HKA := hid (h.hK.alloc (.cells #[.int .i64 x, .int .i64 y] 88))
  have HB1 := hid ((Below.refl w.heap.size w).alloc (Nat.le_refl _) (.cells #[.int .i64 x, .int .i64 y] 88))
  have ck1 : (w.alloc (.cells #[.int .i64 x, .int .i64 y] 88)).cell? ⟨kb, 0, none⟩ = some (.map (some K)) := (HB1.out.cell (p := ⟨kb, 0, none⟩) hkl).trans ck
  have cp1 : (w.alloc (.cells #[.int .i64 x, .int .i64 y] 88)).cell? ⟨pb, 0, none⟩ = some (.slice to T.length tc) := (HB1.out.cell (p := ⟨pb, 0, none⟩) hpl).trans cp
  have HF1 := hid (show Far kb pb K (.slice to T.length tc) (.slice to T.length tc) w (w.alloc (.cells #[.int .i64 x, .int .i64 y] 88)) from ⟨fun b hb _ _ _ _ => heap_alloc_old w _ b hb, fun _ e => .inl e, by simp⟩)
  have HBB := hid (show Below B w (w.alloc (.cells #[.int .i64 x, .int .i64 y] 88)) from HB1.out.mono hB)
  have HHS := hid (pdc_has (H := Unit) T.length T (x, y) rfl hT hp)
  have HAT := hid (pdc_at (H := Unit) (.lit (.int .i64 0)) T.length T (x, y) rfl hT hp hn)
  clear h ck cp
  by_cases hm : (x, y) ∈ T
  · obtain ⟨m, e1, e2⟩ := fnd_mem _ _ hm
    rw [decide_eq_true hm] at HHS
    rw [if_pos hm, e1] at HAT
    have HAV := hid (show ∀ c : Int, (pdc T : DataW Unit).atKey (pky (x, y)) (.lit (.int .i64 0)) = .lit (.int .i64 c) → (m : Int) = c from fun c hc => by rw [HAT.out] at hc; simpa using hc)
    rw [e2]
    dsimp only
    obtain ⟨nT, hnT⟩ : ∃ nT, nT = T.length := ⟨_, rfl⟩
    rw [← hnT] at HKA cp1 hl
    clear hm hT hn HAT e1 e2 hp
    go_enter Try.func52, Try.ntmps52
    go_wp2_with (at_lookup; refine wpList_lookup_own_ok_int _ rfl _ _ 86 rfl 88 3 .i64 law88 Try.underlying86 Try.underlying3 (zero3 _) K nT (pdc T) rfl HKA.out _ _ rfl HKY.out ?_; intro c hc hwc; obtain rfl := HAV.out c hc; rw [HHS.out]; clear hc hwc)
    go_ret
    exact ⟨rfl, HBB.out, _, HW.out.below HB1.out, HF1.out⟩
  · obtain ⟨e1, e2⟩ := fnd_not _ _ hm
    rw [decide_eq_false hm] at HHS
    rw [if_neg hm] at HAT
    have HAV := hid (show ∀ c : Int, (pdc T : DataW Unit).atKey (pky (x, y)) (.lit (.int .i64 0)) = .lit (.int .i64 c) → (0 : Int) = c from fun c hc => by rw [HAT.out] at hc; simpa using hc)
    rw [e2]
    dsimp only
    have HR0 := hid HW.out.hR
    have HSN := hid (pdc_snoc (H := Unit) T (x, y))
    have HPS := hid (pks_snoc T (x, y))
    have HKK := hid (show PrAt B kb pb K T (.slice to T.length tc) (w.alloc (.cells #[.int .i64 x, .int .i64 y] 88)) from HW.out.below HB1.out)
    have HLN := hid (show (T ++ [(x, y)]).length = T.length + 1 by simp)
    obtain ⟨nT, hnT⟩ : ∃ nT, nT = T.length := ⟨_, rfl⟩
    rw [← hnT] at HKA cp1 hl HSN HKK HR0 HLN HF1
    have hs1 : (w.alloc (.cells #[.int .i64 x, .int .i64 y] 88)).heap.size = w.heap.size + 1 := by simp
    have HS1 := hid hs1
    have HNT := hid hnT
    have wfn : (Lit.int .i64 (nT : Int)).wf = true := by
      have h2 : IntKind.i64.min = -9223372036854775808 := by decide
      have h3 : IntKind.i64.max = 9223372036854775807 := by decide
      simp [Lit.wf]; omega
    have HWF := hid wfn
    obtain ⟨V, hV⟩ : ∃ V, V = w.alloc (.cells #[.int .i64 x, .int .i64 y] 88) := ⟨_, rfl⟩
    have HVE := hid hV
    rw [← hV] at HKK HS1 HKA HF1 HBB HAL HB1
    have HPK := hid (show ∀ w1 : World, V.grownBy w1 (some K) → w1.cell? ⟨pb, 0, none⟩ = some (.slice to nT tc) ∧ w1.cell? ⟨w.heap.size, 0, none⟩ = some (.int .i64 x) ∧ w1.cell? ⟨w.heap.size, 1, none⟩ = some (.int .i64 y) ∧ w1.heap[pb]? = some (.cells #[.slice to nT tc] 49 (0, 0)) ∧ w1.ownsRow B 88 2 (.slice to nT tc) nT (pks T) ∧ w1.heap[kb]? = some (.cells #[.map (some K)] 86 (0, 0)) ∧ B ≤ w1.heap.size from fun w1 hg => by
      have e1 : w1.heap[pb]? = some (.cells #[.slice to nT tc] 49 (0, 0)) := (hg.block pb (lt_of_heap HKK.out.hp) (fun e => by cases e; exact ne_map88 HKK.out.hK HKK.out.hp)).trans HKK.out.hp
      have e2 : w1.heap[kb]? = some (.cells #[.map (some K)] 86 (0, 0)) := (hg.block kb (lt_of_heap HKK.out.hk) (fun e => by cases e; exact ne_map88 HKK.out.hK HKK.out.hk)).trans HKK.out.hk
      have e3 : w1.heap[w.heap.size]? = some (.cells #[.int .i64 x, .int .i64 y] 88 (0, 0)) := (hg.block w.heap.size (lt_of_heap HAL.out) (fun e => by cases e; exact ne_map88 HKK.out.hK HAL.out)).trans HAL.out
      have e4 := World.ownsRow.kept HKK.out.hR hg (.inr (row_other_map HKK.out.hR HKK.out.hK))
      rw [← HNT.out] at e4
      exact ⟨cell_row w1 pb 0 [.slice to nT tc] 49 _ e1 rfl, cell_row w1 w.heap.size 0 [.int .i64 x, .int .i64 y] 88 _ e3 rfl, cell_row w1 w.heap.size 1 [.int .i64 x, .int .i64 y] 88 _ e3 rfl, e1, e4, e2, by have h5 := hg.size; have h6 := HS1.out; omega⟩)
    have HPW := hid (show ∀ (w1 w2 : World) (q2 c2' : Nat), w1.heap[pb]? = some (.cells #[.slice to nT tc] 49 (0, 0)) → w1.ownsRow B 88 2 (.slice to nT tc) nT (pks T) → (w1.alloc (.cells #[.int .i64 x, .int .i64 y] 88)).grownBy w2 (Value.slice to nT tc).ownBlock → w2.ownsRow B 88 2 (.slice (some ⟨q2, 0, none⟩) (nT + 1) c2') (nT + 1) (pks T ++ pkc (x, y)) → w2.cell? ⟨pb, 0, none⟩ = some (.slice to nT tc) ∧ w2.frozen? ⟨pb, 0, none⟩ = false ∧ w2.heap[pb]? = some (.cells #[.slice to nT tc] 49 (0, 0)) from fun w1 w2 q2 c2' e1 e4 gr _ => by
      have e5 : w2.heap[pb]? = some (.cells #[.slice to nT tc] 49 (0, 0)) := (gr.block pb (by simp; have h5 := lt_of_heap e1; omega) (fun e => row_other e4 pb _ 49 e1 (by decide) e.symm)).trans ((heap_alloc_old w1 _ pb (lt_of_heap e1)).trans e1)
      exact ⟨cell_row w2 pb 0 [.slice to nT tc] 49 _ e5 rfl, frozen_row e5 0, e5⟩)
    clear hm hT hn HAT e1 e2 hp hs1 hnT hV wfn
    go_enter Try.func52, Try.ntmps52
    go_wp2_with (first | (at_lookup; refine wpList_lookup_own_ok_int _ rfl _ _ 86 rfl 88 3 .i64 law88 Try.underlying86 Try.underlying3 (zero3 _) K nT (pdc T) rfl (by rw [← HVE.out]; exact HKA.out) _ _ rfl HKY.out ?_; intro c hc hwc; obtain rfl := HAV.out c hc; rw [HHS.out]; clear hc hwc) | (at_mapUpdate; refine wpList_mapUpdate_own _ rfl _ _ _ 86 rfl 88 3 law88 Try.underlying86 _ K nT (pdc T) rfl (by rw [← HVE.out]; exact HKA.out) (by unfold maxLen; omega) _ _ _ rfl rfl HKY.out _ [] (plainElem_int Try.underlying3 HWF.out) ?_; intro w1 ho1 hg1; rw [← HVE.out] at hg1; obtain ⟨d1, d2, d3, d4, d5, d6, d7⟩ := HPK.out w1 hg1; have HG1 := hid hg1; have HO1 := hid ho1; have HD4 := hid d4; have HD5 := hid d5; have HD6 := hid d6; clear hg1 ho1 d4 d5 d6 ck1 cp1) | (at_builtin; refine wpList_append_lies _ rfl _ _ 49 rfl B 88 j0 (.agg #[.int .i64 0, .int .i64 0]) 2 16 Try.underlying49 hj88 jz0 jz1 jz2 rfl (by decide) _ nT (pks T) rfl (HD5.out.alloc _) ⟨w1.heap.size, 0, none⟩ 1 1 (pkc (x, y)) rfl rfl (news_p w1 (x, y) 88) (pkc_one _) (by decide) (by unfold maxLen; omega) (by omega) (by simp; omega) (w1.heap.size + 1) (by simp) ?_; intro q2 c2' w2 o2 gr2 hl2 hlt2; obtain ⟨f1, f2, f3⟩ := HPW.out w1 w2 q2 c2' HD4.out HD5.out gr2 o2) | fail)
    have hkp : kb ≠ pb := fun e => by
      have h5 := HW.out.hk
      rw [e, HW.out.hp] at h5
      injection h5 with h5
      injection h5 with _ h6 _
      exact absurd h6 (by decide)
    have g1 := HG1.out
    have e6 : w2.heap[kb]? = some (.cells #[.map (some K)] 86 (0, 0)) := (gr2.block kb (by simp; have h5 := lt_of_heap HD6.out; omega) (fun e => row_other HD5.out kb _ 86 HD6.out (by decide) e.symm)).trans ((heap_alloc_old w1 _ kb (lt_of_heap HD6.out)).trans HD6.out)
    have hKp : K ≠ pb := fun e => by subst e; exact ne_map88 HO1.out HD4.out
    have hKr : some K ≠ (Value.slice to nT tc).ownBlock := fun e => row_other_map HD5.out HO1.out e.symm
    have r1 : (w2.setCell ⟨pb, 0, none⟩ (.slice (some ⟨q2, 0, none⟩) (nT + 1) c2')).heap[kb]? = some (.cells #[.map (some K)] 86 (0, 0)) := (Below.heap_setCell w2 ⟨pb, 0, none⟩ _ kb hkp).trans e6
    have r2 : (w2.setCell ⟨pb, 0, none⟩ (.slice (some ⟨q2, 0, none⟩) (nT + 1) c2')).heap[pb]? = some (.cells #[.slice (some ⟨q2, 0, none⟩) (nT + 1) c2'] 49 (0, 0)) := set_row w2 pb 0 [.slice to nT tc] 49 _ f3
    have r3 := ((HO1.out.alloc (.cells #[.int .i64 x, .int .i64 y] 88)).kept gr2 hKr).setCell (a := ⟨pb, 0, none⟩) hKp (.slice (some ⟨q2, 0, none⟩) (nT + 1) c2')
    rw [← HSN.out] at r3
    have r4 := ownsRow_setCell_other o2 (a := ⟨pb, 0, none⟩) (row_other o2 pb _ 49 f3 (by decide)) (.slice (some ⟨q2, 0, none⟩) (nT + 1) c2')
    rw [← HPS.out] at r4
    have hBV : B ≤ V.heap.size := by have h5 := HS1.out; omega
    have r5 := (((HBB.out.grown g1 hBV (fun k hk => by cases hk; exact HW.out.bK)).alloc d7 (.cells #[.int .i64 x, .int .i64 y] 88)).grown gr2 (by simp; omega) (fun k hk => (HD5.out.lt k hk).1)).setCell (p := ⟨pb, 0, none⟩) HW.out.bp (.slice (some ⟨q2, 0, none⟩) (nT + 1) c2')
    have r6 : Far kb pb K (.slice to nT tc) (.slice (some ⟨q2, 0, none⟩) (nT + 1) c2') w (w2.setCell ⟨pb, 0, none⟩ (.slice (some ⟨q2, 0, none⟩) (nT + 1) c2')) :=
      ((HF1.out.trans (show Far kb pb K (.slice to nT tc) (.slice to nT tc) V w1 from ⟨fun b hb _ _ h3 _ => g1.block b hb (fun e => h3 (by cases e; rfl)), fun _ e => .inl e, g1.size⟩)).trans (show Far kb pb K (.slice to nT tc) (.slice (some ⟨q2, 0, none⟩) (nT + 1) c2') w1 w2 from ⟨fun b hb _ _ _ h6 => (gr2.block b (by simp; omega) (fun e => h6 e.symm)).trans (heap_alloc_old w1 _ b hb), fun b e => by
        have e2 : q2 = b := by simpa [Value.ownBlock] using e
        subst e2
        rcases hl2 with h9 | h9
        · exact .inl h9
        · exact .inr (by omega), by have h9 := gr2.size; simp at h9; omega⟩)).set _ (.inr rfl) _
    have HR1 := hid r1
    have HR2 := hid r2
    have HR3 := hid r3
    have HR4 := hid r4
    have HR5 := hid r5
    have HR6 := hid r6
    clear r1 r2 r3 r4 r5 r6 g1 o2 gr2 hl2 hlt2 f1 f2 f3 d1 d2 d3 e6
    generalize w2.setCell ⟨pb, 0, none⟩ (.slice (some ⟨q2, 0, none⟩) (nT + 1) c2') = wf at *
    rw [← HNT.out]
    go_ret
    exact ⟨rfl, HR5.out, _, ⟨HR1.out, HR2.out, by rw [HLN.out]; exact HR3.out, by rw [HLN.out]; exact HR4.out, HW.out.bk, HW.out.bp, HW.out.bK⟩, HR6.out⟩
end Go.Proofs.Ytljlhlcoaajggaa
/- Of two lists side by side: what is left of a list; how many; the numbered pieces are ranges. -/
namespace Go.Proofs.Ytljlhlcoaajggaa

theorem drop_step {A X : List Tr} {i : Nat} {x : Tr} (h : A.drop i = x :: X) : i < A.length ∧ A[i]? = some x ∧ X = A.drop (i + 1) := by
  have hi : i < A.length := by
    rcases Nat.lt_or_ge i A.length with h5 | h5
    · exact h5
    · rw [List.drop_of_length_le h5] at h; cases h
  rw [List.drop_eq_getElem_cons hi] at h
  injection h with h1 h2
  exact ⟨hi, by rw [List.getElem?_eq_getElem hi, h1], h2.symm⟩
theorem alA_con (r : Nat) (hr : r < 256) (L : List Tr) (h : Ris 0 L) : Con 0 (alA r L) := con_alB r hr L 0 h (by omega)
theorem con_len : ∀ (A : List Tr) (b : Nat), Con b A → A.length + b ≤ 1114112
  | [], b, h => by have h5 : b = 1114112 := h; simp; omega
  | g :: A, b, h => by
    obtain ⟨h1, h2, h3, h4, h5⟩ := h
    have ih := con_len A _ h5
    simp; omega
theorem zpF_ris (A D : List Tr) (hA : Con 0 A) (hD : Con 0 D) (h : (zpF A D).1.length ≤ 256) : Ris 0 (zpF A D).2 :=
  nb_ris _ [] 0 (zp_zc _ A D 0 (cv_con 0 A hA) (cv_con 0 D hD) (Nat.le_refl _)).1 h
theorem flat_inj : ∀ (F G : List (List Nat)), ok128 F → ok128 G → F.flatten = G.flatten → F = G
  | [], [], _, _, _ => rfl
  | [], g :: G, _, hG, h => by
    have h1 := congrArg List.length h
    have h2 := hG g (by simp)
    simp at h1; omega
  | f :: F, [], hF, _, h => by
    have h1 : f.length + F.flatten.length = 0 := by
      have h5 := congrArg List.length h
      rw [List.flatten_cons, List.length_append] at h5
      exact h5
    have h2 := hF f (by simp)
    omega
  | f :: F, g :: G, hF, hG, h => by
    have h1 := hF f (by simp)
    have h2 := hG g (by simp)
    rw [List.flatten_cons, List.flatten_cons] at h
    obtain ⟨e1, e2⟩ := List.append_inj h (by omega)
    rw [e1, flat_inj F G (fun b hb => hF b (by simp [hb])) (fun b hb => hG b (by simp [hb])) e2]
end Go.Proofs.Ytljlhlcoaajggaa
/- Regions that draw their order, gone through in an order of one's own: each operation is free (it yields the same in every world that the others leave), or nothing else can come up. -/
namespace Go.Proofs.Ytljlhlcoaajggaa

section
variable {P : Program} {ops : Array Oper} {Q : Exit → Act → World → Prop} {md : Region.Mode} {S : World → Prop} {fin : Nat → Bool}

def Region.mixB (md : Region.Mode) (ops : Array Oper) (fin : Nat → Bool) : List (Nat × Bool) → Array Bool → Bool
  | [], listed => Region.ready md ops listed == []
  | (k, true) :: r, listed => (Region.ready md ops listed).contains k && Region.free md ops listed k && Region.finB md ops fin k && Region.mixB md ops fin r (listed.setIfInBounds k true)
  | (k, false) :: r, listed => (Region.ready md ops listed == [k]) && (!fin k || r.all fun x => !x.2) && Region.mixB md ops fin r (listed.setIfInBounds k true)
def wpMix (P : Program) (ops : Array Oper) (Q : Exit → Act → World → Prop) (S : World → Prop) (fin : Nat → Bool) : List (Nat × Bool) → Act → World → Prop
  | [], a, w => Q .normal a w
  | (k, true) :: r, a, w => ∃ o v, ops[k]? = some o ∧ YieldsIf P ops S o v a ∧ wpMix P ops Q S fin r (a.put o.dst v) w
  | (k, false) :: r, a, w => ∃ o, ops[k]? = some o ∧ if Region.wanted o (yielded ops a.tmps) = true then o.wp P a w (fun a' w' => (fin k = false → S w') ∧ wpMix P ops Q S fin r a' w') Q else (fin k = false → S w) ∧ wpMix P ops Q S fin r (a.put o.dst undef) w
theorem anyT_mix (hsel : Region.noSelect ops = true) (hs : ∀ j, fin j = true → j < ops.size) (hQ : ∀ c (a : Act) d v w, Q (.panic c) (a.put d v) w → Q (.panic c) a w) :
    ∀ (l : List (Nat × Bool)) (listed : Array Bool) (a : Act) (w : World), Region.mixB md ops fin l listed = true → (l.any (fun x => x.2) = true → S w) → wpMix P ops Q S fin l a w → anyT P md ops Q S fin l.length listed a w
  | [], listed, a, w, hB, _, h => ⟨by simpa [Region.mixB] using hB, h⟩
  | (k, true) :: r, listed, a, w, hB, hS, h => by
    simp only [Region.mixB, Bool.and_eq_true] at hB
    obtain ⟨⟨⟨hr, hf⟩, hfb⟩, hB'⟩ := hB
    obtain ⟨hf1, hf2⟩ := finB_spec hs hfb
    obtain ⟨o, v, h0, hy, hK⟩ := h
    have hSw : S w := hS (by simp)
    exact anyT_first h0 (Region.noSelect_spec hsel) (fun c a w => hQ c a _ _ w) hf1 hf2 r.length listed a w (Region.free_spec h0 hf) (by simpa using hr) hy hSw
      (anyT_mix hsel hs hQ r _ _ w hB' (fun _ => hSw) hK)
  | (k, false) :: r, listed, a, w, hB, hS, h => by
    simp only [Region.mixB, Bool.and_eq_true, beq_iff_eq] at hB
    obtain ⟨⟨hr, hfr⟩, hB'⟩ := hB
    obtain ⟨o, h0, h⟩ := h
    refine ⟨fun h1 => (by rw [hr] at h1; cases h1), fun i hi => ?_⟩
    rw [hr] at hi
    have hik : i = k := by simpa using hi
    subst hik
    have hw : wpOp P ops Q i (fun a' w' => (fin i = false → S w') ∧ wpMix P ops Q S fin r a' w') a w := by
      unfold wpOp
      simp only [h0]
      split
      · rename_i hc
        rw [if_pos hc] at h
        exact .inl h
      · rename_i hc
        rw [if_neg hc] at h
        exact h
    refine wpOp_mono (fun a' w' h' => ⟨h'.1, anyT_mix hsel hs hQ r _ a' w' hB' (fun hn => ?_) h'.2⟩) hw
    cases hfi : fin i with
    | false => exact h'.1 hfi
    | true =>
      rw [hfi] at hfr
      obtain ⟨x, hx, hx2⟩ := List.any_eq_true.1 hn
      have h5 := List.all_eq_true.1 (show (r.all fun x => !x.2) = true by simpa using hfr) x hx
      rw [hx2] at h5
      cases h5
/-- The law. -/
theorem wp_region_mix {id : Nat} {a : Act} {w : World} {l : List Oper} (ord : List (Nat × Bool)) (S : World → Prop) (fin : Nat → Bool) (hm : P.follows .mixedOrders = true) (hsel : Region.noSelect l.toArray = true) (hs : ∀ j, fin j = true → j < l.length)
    (hlen : ord.length = l.length) (hB : Region.mixB .any l.toArray fin ord (Array.replicate l.length false) = true) (hS : S w.drew)
    (h : wpMix P l.toArray (NoPanic Q) S fin ord a w.drew) : (Code.region id l.toArray true).wp P Q a w := by
  refine wp_region_noPanic (wp_region_any hm (anyT_any (S := S) (fin := fin) _ _ _ _ ?_))
  have H := anyT_mix (P := P) (ops := l.toArray) (Q := NoPanic Q) (md := .any) (S := S) (fin := fin) hsel (by simpa using hs) (fun _ _ _ _ _ h => h) ord (Array.replicate l.length false) a w.drew hB (fun _ => hS) h
  rw [hlen] at H
  simpa using H
theorem mix_free {o : Oper} {k : Nat} {r : List (Nat × Bool)} {a : Act} {w : World} (v : Value) (h0 : ops[k]? = some o) (hw : Region.wanted o (yielded ops a.tmps) = true) (h1 : ∀ w, S w → (execOp a.eval o).run P w = .ok (.value v) w) (h2 : wpMix P ops Q S fin r (a.put o.dst v) w) : wpMix P ops Q S fin ((k, true) :: r) a w :=
  ⟨o, v, h0, .inl ⟨hw, h1⟩, h2⟩
theorem mix_pass {o : Oper} {k : Nat} {r : List (Nat × Bool)} {a : Act} {w : World} (h0 : ops[k]? = some o) (hw : Region.wanted o (yielded ops a.tmps) = false) (h2 : wpMix P ops Q S fin r (a.put o.dst undef) w) : wpMix P ops Q S fin ((k, true) :: r) a w :=
  ⟨o, undef, h0, .inr ⟨hw, rfl⟩, h2⟩
theorem mix_go {o : Oper} {k : Nat} {r : List (Nat × Bool)} {a : Act} {w : World} (h0 : ops[k]? = some o) (hw : Region.wanted o (yielded ops a.tmps) = true) (h : ∀ K : Act → World → Prop, (∀ a w, (fin k = false → S w) → wpMix P ops Q S fin r a w → K a w) → o.wp P a w K Q) : wpMix P ops Q S fin ((k, false) :: r) a w := by
  refine ⟨o, h0, ?_⟩
  rw [if_pos hw]
  exact h _ fun _ _ h1 h2 => ⟨h1, h2⟩
theorem mix_end {a : Act} {w : World} (h : Q .normal a w) : wpMix P ops Q S fin [] a w := h
end
end Go.Proofs.Ytljlhlcoaajggaa
/- The contract of behind (package table): a list without its first range, if that ends there. -/
namespace Go.Proofs.Ytljlhlcoaajggaa
open Go.RowKit

theorem RdK.tail {w : World} {a : Addr} {g : Rk} {l : List Rk} (h : RdK w (some a) (g :: l)) : RdK w (some (a.add 3)) l := fun k x hk => by
  obtain ⟨a', ea, h1, h2, h3, h4⟩ := h (k + 1) x (by simpa using hk)
  cases ea
  have e : (a.add 3).add (k * 3) = a.add ((k + 1) * 3) := by rw [add_add, show 3 + k * 3 = (k + 1) * 3 by omega]
  refine ⟨_, rfl, by rw [add_blk]; exact h1, by rw [e]; exact h2, by rw [e]; exact h3, by rw [e]; exact h4⟩
theorem RdK.nil (w : World) (ao : Option Addr) : RdK w ao [] := fun k x hk => by simp at hk

set_option maxHeartbeats 1000000 in
set_option maxRecDepth 100000 in
theorem behind_yes (a : Addr) (ac : Nat) (g : Tr) (L : List Tr) (w : World) (h : RdK w (some a) ((g :: L).map rkT)) (hl : L.length < 1000000000) (hac : L.length + 1 ≤ ac) :
    Calls Try.prog 53 #[.slice (some a) (L.length + 1) ac, .int .i32 (g.2.1 : Int)] w fun e w' => w' = w ∧ ∃ ao' ac', e = .returned (.slice ao' L.length ac') ∧ L.length ≤ ac' ∧ (L = [] ∨ ao' = some (a.add 3)) := by
  obtain ⟨a', ea, hb, a0, a1, a2⟩ := h 0 (rkT g) rfl
  cases ea
  rw [Nat.zero_mul, add_nil] at a0 a1 a2
  obtain ⟨n, hn⟩ : ∃ n, n = L.length + 1 := ⟨_, rfl⟩
  have HN := hid hn
  rw [← hn] at hac ⊢
  have n1 : (0 : Int) < (n : Int) := by omega
  have n2 : (1 : Int) ≤ (n : Int) := by omega
  have n3 : (n : Int) ≤ (ac : Int) := by omega
  have HNL := hid (show n - 1 = L.length by omega)
  obtain ⟨lo, gh, cl⟩ := g
  change w.cell? ⟨a.block, a.off + 1, none⟩ = some (.int .i32 (gh : Int)) at a1
  dsimp only
  clear h hn a0 a2
  go_enter Try.func53, Try.ntmps53
  go_wp2
  · go_ret
    have hl0 : L = [] := List.length_eq_zero_iff.1 (by have h5 := HN.out; omega)
    exact ⟨rfl, _, _, by rw [HNL.out]; rfl, by rw [hl0]; exact Nat.zero_le _, .inl hl0⟩
  · go_ret
    exact ⟨rfl, _, _, by rw [HNL.out]; rfl, by have h5 := HN.out; omega, .inr (congrArg some (show (⟨a.block, a.off + 3, none⟩ : Addr) = a.add 3 by rw [add_more, add_more, add_more, add_nil]))⟩
set_option maxRecDepth 100000 in
theorem behind_no (a : Addr) (ac : Nat) (g : Tr) (L : List Tr) (hi : Nat) (w : World) (h : RdK w (some a) ((g :: L).map rkT)) (hne : g.2.1 ≠ hi) :
    Calls Try.prog 53 #[.slice (some a) (L.length + 1) ac, .int .i32 (hi : Int)] w fun e w' => e = .returned (.slice (some a) (L.length + 1) ac) ∧ w' = w := by
  obtain ⟨a', ea, hb, a0, a1, a2⟩ := h 0 (rkT g) rfl
  cases ea
  rw [Nat.zero_mul, add_nil] at a0 a1 a2
  obtain ⟨n, hn⟩ : ∃ n, n = L.length + 1 := ⟨_, rfl⟩
  rw [← hn]
  have n1 : (0 : Int) < (n : Int) := by omega
  obtain ⟨lo, gh, cl⟩ := g
  change w.cell? ⟨a.block, a.off + 1, none⟩ = some (.int .i32 (gh : Int)) at a1
  have t1 : ((gh : Int) == (hi : Int)) = false := by
    have h5 : gh ≠ hi := hne
    simp; omega
  clear h hn a0 a2 hne
  go_enter Try.func53, Try.ntmps53
  go_wp2
  go_ret
  exact ⟨rfl, rfl⟩
end Go.Proofs.Ytljlhlcoaajggaa
/- The contract of Pair (package table). -/
namespace Go.Proofs.Ytljlhlcoaajggaa
open Go.RowKit Go.Maps Go.WideMaps

/-- Blocks of ranges below N are as they were. -/
def Kp (N : Nat) (w W : World) : Prop := ∀ b cs, b < N → w.heap[b]? = some (.cells cs 36 (0, 0)) → W.heap[b]? = w.heap[b]?
theorem Kp.refl (N : Nat) (w : World) : Kp N w w := fun _ _ _ _ => rfl
theorem Kp.next {N : Nat} {w W V : World} (h : Kp N w W) (k : ∀ b cs, b < N → W.heap[b]? = some (.cells cs 36 (0, 0)) → V.heap[b]? = W.heap[b]?) : Kp N w V := fun b cs hb hw => by
  have h1 := h b cs hb hw
  exact (k b cs hb (h1.trans hw)).trans h1
theorem Kp.below {N : Nat} {w W V : World} (h : Kp N w W) (hb : Below W.heap.size W V) : Kp N w V := h.next fun b _ _ hc => hb.block b (lt_of_heap hc)
theorem Kp.far {N B kb pb K : Nat} {T : List Pr} {tv tv' : Value} {w W V : World} (h : Kp N w W) (hp : PrAt B kb pb K T tv W) (hf : Far kb pb K tv tv' W V) : Kp N w V := h.next fun b cs _ hc => far_36 hp hf b cs hc
theorem Kp.grown {N n : Nat} {v : Value} {xs : List Value} {o : Obj} {w W V : World} (h : Kp N w W) (hr : W.ownsRow N 36 3 v n xs) (hg : (W.alloc o).grownBy V v.ownBlock) : Kp N w V := h.next fun b _ hb hc =>
  (hg.block b (by simp; have := lt_of_heap hc; omega) (fun e => by have := (hr.lt b e.symm).1; omega)).trans (heap_alloc_old W o b (lt_of_heap hc))
/-- A row below N stays. -/
theorem row_kp {N B n : Nat} {v : Value} {xs : List Value} {w W : World} (hr : w.ownsRow B 36 3 v n xs) (hN : w.heap.size ≤ N) (h : Kp N w W) : W.ownsRow B 36 3 v n xs := by
  refine ⟨hr.1, ?_⟩
  rcases hr.2 with h' | ⟨q, cap, cur, hv, hB, hg, rest⟩
  · exact .inl h'
  · exact .inr ⟨q, cap, cur, hv, hB, (h q cur (Nat.lt_of_lt_of_le (lt_of_heap hg) hN) hg).trans hg, rest⟩
theorem row_far {N B kb pb K n : Nat} {T : List Pr} {v tv tv' : Value} {xs : List Value} {W V : World} (hr : W.ownsRow N 36 3 v n xs) (hp : PrAt B kb pb K T tv W) (hf : Far kb pb K tv tv' W V) : V.ownsRow N 36 3 v n xs := by
  refine ⟨hr.1, ?_⟩
  rcases hr.2 with h' | ⟨q, cap, cur, hv, hB, hg, rest⟩
  · exact .inl h'
  · exact .inr ⟨q, cap, cur, hv, hB, (far_36 hp hf q cur hg).trans hg, rest⟩
theorem PrAt.grown {N B kb pb K n : Nat} {T : List Pr} {v tv : Value} {xs : List Value} {o : Obj} {W V : World} (h : PrAt B kb pb K T tv W) (hr : W.ownsRow N 36 3 v n xs) (hg : (W.alloc o).grownBy V v.ownBlock) : PrAt B kb pb K T tv V := h.keep fun b hb hne =>
  (hg.block b (by simp; omega) (fun e => by
    rcases hr.2 with ⟨h', _⟩ | ⟨q, cap, cur, hv, hB, hg', rest⟩
    · rw [h'] at e; cases e
    · rw [hv] at e
      have e2 : b = q := by simpa [Value.ownBlock] using e
      subst e2
      exact hne cur hg')).trans (heap_alloc_old W o b hb)
theorem own_cap' {w : World} {B e s n c : Nat} {ao : Option Addr} {xs : List Value} (h : w.ownsRow B e s (.slice ao n c) n xs) : n ≤ c := by
  rcases h.2 with ⟨h0, h1⟩ | ⟨q, cap, cur, hv, _, _, hc, _⟩
  · omega
  · simp only [Value.slice.injEq] at hv
    omega
theorem behind_both (a : Addr) (ac : Nat) (g : Tr) (L : List Tr) (hi : Nat) (w : World) (h : RdK w (some a) ((g :: L).map rkT)) (hl : L.length < 1000000000) (hac : L.length + 1 ≤ ac) :
    Calls Try.prog 53 #[.slice (some a) (L.length + 1) ac, .int .i32 (hi : Int)] w fun e w' => w' = w ∧ ∃ ao' ac', e = .returned (.slice ao' (if g.2.1 = hi then L else g :: L).length ac') ∧ (if g.2.1 = hi then L else g :: L).length ≤ ac' ∧ ∀ W, RdK W (some a) ((g :: L).map rkT) → RdK W ao' ((if g.2.1 = hi then L else g :: L).map rkT) := by
  by_cases hc : g.2.1 = hi
  · rw [if_pos hc, ← hc]
    refine (behind_yes a ac g L w h hl hac).mono ?_
    rintro e w' ⟨rfl, ao', ac', rfl, h1, h2⟩
    refine ⟨rfl, ao', ac', rfl, h1, fun W hW => ?_⟩
    rcases h2 with rfl | rfl
    · exact RdK.nil _ _
    · exact RdK.tail hW
  · rw [if_neg hc]
    refine (behind_no a ac g L hi w h hc).mono ?_
    rintro e w' ⟨rfl, rfl⟩
    exact ⟨rfl, some a, ac, rfl, by simp; omega, fun W hW => hW⟩
theorem next_less (x y : Tr) (X Y : List Tr) (hi : Nat) (h : hi = min x.2.1 y.2.1) : (if x.2.1 = hi then X else x :: X).length + (if y.2.1 = hi then Y else y :: Y).length < X.length + 1 + (Y.length + 1) := by
  rcases Nat.le_total x.2.1 y.2.1 with h5 | h5
  · rw [if_pos (show x.2.1 = hi by omega)]
    split
    · omega
    · simp only [List.length_cons]; omega
  · rw [if_pos (show y.2.1 = hi by omega)]
    split
    · omega
    · simp only [List.length_cons]; omega
theorem ad_lt (p : Pr) (T : List Pr) : (ad p T).2 < (ad p T).1.length := by
  unfold ad
  split
  · rename_i hm
    obtain ⟨h1, h2⟩ := fnd_lt p T hm
    show (fnd p T).toNat < T.length
    omega
  · simp
def slLen : Value → Nat
  | .slice _ n _ => n
  | _ => 0
theorem prAt_new (w : World) : PrAt w.heap.size (w.heap.size + 1 + 1) w.heap.size (w.heap.size + 1) [] (.slice none 0 0) (((w.alloc (.cells #[.slice none 0 0] 49)).alloc (.map #[] 0)).alloc (.cells #[.map (some (w.heap.size + 1))] 86)) := by
  have h1 := heap_alloc_new w (.cells #[.slice none 0 0] 49)
  have h2 := (heap_alloc_old (w.alloc (.cells #[.slice none 0 0] 49)) (.map #[] 0) w.heap.size (by simp)).trans h1
  have h3 := (heap_alloc_old ((w.alloc (.cells #[.slice none 0 0] 49)).alloc (.map #[] 0)) (.cells #[.map (some (w.heap.size + 1))] 86) w.heap.size (by simp; omega)).trans h2
  have h4 := heap_alloc_new ((w.alloc (.cells #[.slice none 0 0] 49)).alloc (.map #[] 0)) (.cells #[.map (some (w.heap.size + 1))] 86)
  rw [World.size_alloc, World.size_alloc] at h4
  have h5 := (World.ownsMap_made (w.alloc (.cells #[.slice none 0 0] 49)) Try.prog 88 (plainElem (H := Unit) Try.prog 3)).alloc (.cells #[.map (some (w.heap.size + 1))] 86)
  rw [World.size_alloc] at h5
  exact ⟨h4, h3, h5, World.ownsRow_nil _ _ 88 2, by omega, Nat.le_refl _, by omega⟩
theorem below_new (w : World) : Below w.heap.size w (((w.alloc (.cells #[.slice none 0 0] 49)).alloc (.map #[] 0)).alloc (.cells #[.map (some (w.heap.size + 1))] 86)) :=
  (((Below.refl w.heap.size w).alloc (Nat.le_refl _) _).alloc (by simp) _).alloc (by simp; omega) _

set_option maxHeartbeats 8000000 in
set_option maxRecDepth 100000 in
theorem tpair_any (B1 T1 B2 T2 : Nat) (F G : List (List Nat)) (r q : Nat) (w : World) (h1 : TbAt B1 T1 F r w) (h2 : TbAt B2 T2 G q w) (hr : r < 256) (hq : q < 256) (A D : List Tr) (hA : rlA 0 [] F.flatten = A) (hD : rlA 0 [] G.flatten = D) (cA : Con 0 A) (cD : Con 0 D) :
    Calls Try.prog 23 #[.pointer (some ⟨T1, 0, none⟩), .pointer (some ⟨T2, 0, none⟩)] w fun e w' => Below w.heap.size w w' ∧
      ((256 < (ad ((r : Int), (q : Int)) (zpF A D).1).1.length ∧ e = .returned (.tuple #[.pointer none, .slice none 0 0, .int .i64 6])) ∨
       ((ad ((r : Int), (q : Int)) (zpF A D).1).1.length ≤ 256 ∧ ∃ T' ao ac F', e = .returned (.tuple #[.pointer (some ⟨T', 0, none⟩), .slice ao (ad ((r : Int), (q : Int)) (zpF A D).1).1.length ac, .int .i64 0]) ∧ w.heap.size ≤ T' ∧
         RdP w' ao (ad ((r : Int), (q : Int)) (zpF A D).1).1 ∧ F'.flatten = clA (ad ((r : Int), (q : Int)) (zpF A D).1).2 (zpF A D).2 ∧
         TbAt w.heap.size T' F' (ad ((r : Int), (q : Int)) (zpF A D).1).2 w')) := by
  obtain ⟨i0, hi36, hz0, hz1, hz2⟩ := info_parts Try.info36
  have HW1 := hid (show ∀ W, Below w.heap.size w W → Calls Try.prog 51 #[.pointer (some ⟨T1, 0, none⟩)] W fun e w' => ∃ v', e = .returned v' ∧ w'.ownsRow W.heap.size 36 3 v' A.length (rks A) ∧ Below W.heap.size W w' from fun W hW => by
    have h5 := whole_any B1 T1 r F W (h1.below hW)
    rw [hA] at h5
    exact h5)
  have HW2 := hid (show ∀ W, Below w.heap.size w W → Calls Try.prog 51 #[.pointer (some ⟨T2, 0, none⟩)] W fun e w' => ∃ v', e = .returned v' ∧ w'.ownsRow W.heap.size 36 3 v' D.length (rks D) ∧ Below W.heap.size W w' from fun W hW => by
    have h5 := whole_any B2 T2 q G W (h2.below hW)
    rw [hD] at h5
    exact h5)
  have HR1 := hid (show ∀ W, Below w.heap.size w W → Calls Try.prog 33 #[.pointer (some ⟨T1, 0, none⟩)] W fun e w' => e = .returned (.int .i64 (r : Int)) ∧ w' = W from fun W hW => rest_any B1 T1 r F W (h1.below hW) hr)
  have HR2 := hid (show ∀ W, Below w.heap.size w W → Calls Try.prog 33 #[.pointer (some ⟨T2, 0, none⟩)] W fun e w' => e = .returned (.int .i64 (q : Int)) ∧ w' = W from fun W hW => rest_any B2 T2 q G W (h2.below hW) hq)
  have HCA := hid cA
  have HCD := hid cD
  have la := con_len A 0 cA
  have ld := con_len D 0 cD
  obtain ⟨nA, hnA⟩ : ∃ nA, nA = A.length := ⟨_, rfl⟩
  obtain ⟨nD, hnD⟩ : ∃ nD, nD = D.length := ⟨_, rfl⟩
  rw [← hnA] at HW1 la
  rw [← hnD] at HW2 ld
  have HNA := hid hnA
  have HND := hid hnD
  clear h1 h2 hA hD cA cD hnA hnD
  have hmm := @run_makeMap Try.prog
  go_enter Try.func23, Try.ntmps23
  go_wp2_with fail
  have HB0 := hid (below_new w)
  have HP0 := hid (prAt_new w)
  refine (HW1.out _ HB0.out).mono ?_
  rintro e w1 ⟨v1, rfl, o1, b1⟩
  obtain ⟨xo, xc, rfl⟩ := own_form o1
  have HB1 := hid (HB0.out.trans (b1.mono HB0.out.size))
  have HP1 := hid (HP0.out.below b1)
  have HO1 := hid o1
  have hs1 := HB1.out.size
  clear o1 b1 HW1 HB0 HP0
  go_wp2_with fail
  refine (HW2.out w1 HB1.out).mono ?_
  rintro e w2 ⟨v2, rfl, o2, b2⟩
  obtain ⟨yo, yc, rfl⟩ := own_form o2
  have HB2 := hid (HB1.out.trans (b2.mono hs1))
  have HP2 := hid (HP1.out.below b2)
  have hs2 := HB2.out.size
  obtain ⟨N, hNE⟩ : ∃ N, N = w2.heap.size := ⟨_, rfl⟩
  have hwN : w.heap.size ≤ N := by omega
  have HNE := hid hNE
  have HX0 := hid (show ∀ W, Kp N w2 W → RdK W xo (A.map rkT) from fun W hW => rd_own (row_kp (own_keep HO1.out b2) (Nat.le_of_eq hNE.symm) hW))
  have HY0 := hid (show ∀ W, Kp N w2 W → RdK W yo (D.map rkT) from fun W hW => rd_own (row_kp o2 (Nat.le_of_eq hNE.symm) hW))
  have hxc : nA ≤ xc := own_cap' HO1.out
  have hyc : nD ≤ yc := own_cap' o2
  clear o2 b2 HW2 hNE HO1 HB1 HP1 hs1 hmm
  go_wp2
  go_loopw [10, 11, 12] (fun l x y wr => ∃ (T : List Pr) (Lc X Y : List Tr) (tv : Value) (li xo yo : Option Addr) (nL nX nY lc xc yc ll : Nat), l = .slice li nL lc ∧ x = .slice xo nX xc ∧ y = .slice yo nY yc ∧ nX ≤ xc ∧ nY ≤ yc ∧ N ≤ wr.heap.size ∧ Hid (nL = Lc.length) ∧ Hid (nX = X.length) ∧ Hid (nY = Y.length) ∧ Hid (Iv A D T Lc X Y ll) ∧ Hid (T.Nodup ∧ ∀ a ∈ T, okP a) ∧ Hid (PrAt w.heap.size (w.heap.size + 1 + 1) w.heap.size (w.heap.size + 1) T tv wr) ∧ Hid (wr.ownsRow N 36 3 (.slice li nL lc) nL (rks Lc)) ∧ Hid (∀ W, Kp N w2 W → RdK W xo (X.map rkT)) ∧ Hid (∀ W, Kp N w2 W → RdK W yo (Y.map rkT)) ∧ Hid (Kp N w2 wr) ∧ Hid (Below w.heap.size w wr)) (fun _ x y _ => slLen x + slLen y)
  case atStart => exact ⟨[], [], A, D, .slice none 0 0, none, xo, yo, 0, nA, nD, 0, xc, yc, 0, rfl, rfl, rfl, hxc, hyc, (by have h5 := HNE.out; omega), rfl, HNA, HND, iv_start A D HCA.out HCD.out, ⟨List.nodup_nil, fun a ha => by cases ha⟩, HP2, World.ownsRow_nil w2 N 36 3, HX0, HY0, Kp.refl N w2, HB2⟩
  case round =>
    obtain ⟨T, Lc, X, Y, tv, li, xo, yo, nL, nX, nY, lc, xc, yc, ll, rfl, rfl, rfl, hxc', hyc', hNw, HNL, HNX, HNY, HI, HTN, HP, HOL, HXR, HYR, HK, HB⟩ := hrel
    by_cases hlt : ll ≤ 1114111
    · obtain ⟨x, X', y, Y', rfl, rfl, m1, m2, m3, m4, x3, y3, x4, y4, HIN⟩ := iv_step A D T Lc _ _ ll HI.out hlt
      obtain ⟨a, rfl, ha, a0, a1, a2⟩ := HXR.out wr HK.out 0 (rkT x) rfl
      obtain ⟨b, rfl, hb, b0, b1, b2⟩ := HYR.out wr HK.out 0 (rkT y) rfl
      rw [Nat.zero_mul, add_nil] at a0 a1 a2 b0 b1 b2
      have HXC := hid (show ∀ W, Kp N w2 W → W.cell? a = some (.int .i32 (x.1 : Int)) ∧ W.cell? ⟨a.block, a.off + 1, none⟩ = some (.int .i32 (x.2.1 : Int)) ∧ W.cell? ⟨a.block, a.off + 2, none⟩ = some (.int .i64 (x.2.2 : Int)) from fun W hW => by
        obtain ⟨a', ea, _, q0, q1, q2⟩ := HXR.out W hW 0 (rkT x) rfl
        cases ea
        rw [Nat.zero_mul, add_nil] at q0 q1 q2
        exact ⟨q0, q1, q2⟩)
      have HYC := hid (show ∀ W, Kp N w2 W → W.cell? b = some (.int .i32 (y.1 : Int)) ∧ W.cell? ⟨b.block, b.off + 1, none⟩ = some (.int .i32 (y.2.1 : Int)) ∧ W.cell? ⟨b.block, b.off + 2, none⟩ = some (.int .i64 (y.2.2 : Int)) from fun W hW => by
        obtain ⟨a', ea, _, q0, q1, q2⟩ := HYR.out W hW 0 (rkT y) rfl
        cases ea
        rw [Nat.zero_mul, add_nil] at q0 q1 q2
        exact ⟨q0, q1, q2⟩)
      have j1 : (0 : Int) < (nX : Int) := by have h5 := HNX.out; simp at h5; omega
      have j2 : (0 : Int) < (nY : Int) := by have h5 := HNY.out; simp at h5; omega
      have jn2 : 0 < nY := by omega
      obtain ⟨x0, xh, xk⟩ := x
      obtain ⟨y0, yh, yk⟩ := y
      unfold rkT at a0 a1 a2 b0 b1 b2
      dsimp only at a0 a1 a2 b0 b1 b2 HXC HYC m1 m2 m3 m4 x3 y3 x4 y4 HIN
      have hm0 := next_less (x0, xh, xk) (y0, yh, yk) X' Y' _ rfl
      obtain ⟨hh, hhe⟩ : ∃ hh, hh = min xh yh := ⟨_, rfl⟩
      dsimp only at hm0
      rw [← hhe] at HIN hm0
      have mx : max (x0 : Int) (y0 : Int) = (ll : Int) := by omega
      have mn : min (xh : Int) (yh : Int) = (hh : Int) := by omega
      have h7 : hh ≤ 1114111 := by omega
      have HPO := hid (okP_nat xk yk x4 y4)
      obtain ⟨X2, hX2⟩ : ∃ X2, X2 = (if xh = hh then X' else (x0, xh, xk) :: X') := ⟨_, rfl⟩
      obtain ⟨Y2, hY2⟩ : ∃ Y2, Y2 = (if yh = hh then Y' else (y0, yh, yk) :: Y') := ⟨_, rfl⟩
      obtain ⟨il1, il2, il3⟩ := iv_len HI.out
      have bX : X'.length < 1000000000 := by have h6 := HNA.out; have h8 := HND.out; simp at il1; omega
      have bY : Y'.length < 1000000000 := by have h6 := HNA.out; have h8 := HND.out; simp at il1; omega
      have bT : T.length ≤ 3000000 := by have h6 := HNA.out; have h8 := HND.out; omega
      have bL : nL ≤ 3000000 := by have h5 := HNL.out; have h6 := HNA.out; have h8 := HND.out; omega
      have eX : nX = X'.length + 1 := by have h5 := HNX.out; simpa using h5
      have eY : nY = Y'.length + 1 := by have h5 := HNY.out; simpa using h5
      have HBX := hid (show ∀ W, Kp N w2 W → Calls Try.prog 53 #[.slice (some a) nX xc, .int .i32 (hh : Int)] W fun e w' => w' = W ∧ ∃ ao' ac', e = .returned (.slice ao' X2.length ac') ∧ X2.length ≤ ac' ∧ ∀ V, RdK V (some a) (((x0, xh, xk) :: X').map rkT) → RdK V ao' (X2.map rkT) from fun W hW => by
        have h5 := behind_both a xc (x0, xh, xk) X' hh W (HXR.out W hW) bX (by omega)
        rw [eX, hX2]
        exact h5)
      have HBY := hid (show ∀ W, Kp N w2 W → Calls Try.prog 53 #[.slice (some b) nY yc, .int .i32 (hh : Int)] W fun e w' => w' = W ∧ ∃ ao' ac', e = .returned (.slice ao' Y2.length ac') ∧ Y2.length ≤ ac' ∧ ∀ V, RdK V (some b) (((y0, yh, yk) :: Y').map rkT) → RdK V ao' (Y2.map rkT) from fun W hW => by
        have h5 := behind_both b yc (y0, yh, yk) Y' hh W (HYR.out W hW) bY (by omega)
        rw [eY, hY2]
        exact h5)
      rw [← hX2, ← hY2] at HIN
      rw [← hX2, ← hY2, ← eX, ← eY] at hm0
      have HIV := hid HIN
      have HM0 := hid hm0
      have HN2 := hid (And.intro (ad_nodup ((xk : Int), (yk : Int)) T HTN.out.1) (ad_ok ((xk : Int), (yk : Int)) T HPO.out HTN.out.2))
      have HSK := hid (show ∀ V, Kp N w2 V → (V.cell? ⟨a.block, a.off + 2, none⟩ = some (.int .i64 (xk : Int)) ∧ V.cell? ⟨b.block, b.off + 2, none⟩ = some (.int .i64 (yk : Int))) from fun V hV => ⟨(HXC.out V hV).2.2, (HYC.out V hV).2.2⟩)
      have HBT := hid bT
      clear HIN hm0 hX2 hY2 hhe m1 m2 m3 m4 il1 il2 bX bY bT eX eY HI HNX HNY
      go_wp2_with fail
      go_quiet (fail)
      have HBQ := hid (show Below wr.heap.size wr (wr.drewN nq) from ⟨rfl, rfl, rfl, Nat.le_refl _, fun _ _ => rfl⟩)
      have HBD := hid (show Below wr.heap.size wr (wr.drewN nq).drew from ⟨rfl, rfl, rfl, Nat.le_refl _, fun _ _ => rfl⟩)
      obtain ⟨W0, hW0⟩ : ∃ W0, W0 = wr.drewN nq := ⟨_, rfl⟩
      rw [← hW0] at HBQ HBD ⊢
      have HKW := hid (HK.out.below HBD.out)
      have HPW := hid (HP.out.below HBD.out)
      have HOW := hid (own_keep HOL.out HBD.out)
      have HBW := hid (HB.out.trans (HBD.out.mono HB.out.size))
      have hNW : N ≤ W0.drew.heap.size := Nat.le_trans hNw HBD.out.size
      clear hW0 a0 a1 a2 b0 b1 b2 mx mn
      go_wp2_with fail
      refine wp_region_mix [(0, true), (1, true), (2, true), (3, true), (4, true), (5, true), (6, true), (7, true), (8, true), (9, true), (10, true), (11, true), (12, true), (13, false), (14, true), (15, false), (16, false), (17, false)] (fun w' => w'.cell? ⟨a.block, a.off + 2, none⟩ = some (.int .i64 (xk : Int)) ∧ w'.cell? ⟨b.block, b.off + 2, none⟩ = some (.int .i64 (yk : Int))) (fun _ => false) (by kernel_rfl) (by kernel_rfl) (fun j hj => by cases hj) rfl (by kernel_rfl) (HSK.out _ HKW.out) ?_
      iterate 7 (refine mix_free ?_ rfl (by kernel_rfl) (fun w' hS => ?_) ?_; (rotate_left; (obtain ⟨s1, s2⟩ := hS; go_simp; with_reducible rfl); rotate_left))
      simp only [Act.put, List.setIfInBounds_toArray]
      iterate 6 (refine mix_free ?_ rfl (by kernel_rfl) (fun w' hS => ?_) ?_; (rotate_left; (obtain ⟨s1, s2⟩ := hS; go_simp; with_reducible rfl); rotate_left))
      simp only [Act.put]
      refine mix_go rfl (by kernel_rfl) fun KK hKK => ?_
      go_simp
      refine (pairf_any _ _ _ _ T tv ((xk : Int), (yk : Int)) W0.drew HPW.out HBW.out.size HPO.out HTN.out.2 HTN.out.1 HBT.out).mono ?_
      rintro e w4 ⟨rfl, b4, tv4, p4, f4⟩
      have HB4 := hid (HBW.out.trans b4)
      have HK4 := hid (HKW.out.far HPW.out f4)
      have HP4 := hid p4
      have HO4 := hid (row_far HOW.out HPW.out f4)
      have hN4 : N ≤ w4.heap.size := Nat.le_trans hNW f4.sz
      clear b4 p4 f4 HBW HKW HPW HOW HBQ HBD hNW
      obtain ⟨T4, hT4⟩ : ∃ T4, T4 = (ad ((xk : Int), (yk : Int)) T).1 := ⟨_, rfl⟩
      obtain ⟨c, hc⟩ : ∃ c, c = (ad ((xk : Int), (yk : Int)) T).2 := ⟨_, rfl⟩
      rw [← hT4, ← hc] at HIV
      rw [← hT4] at HN2 HP4
      rw [← hc]
      clear hT4 hc
      refine hKK _ _ (fun _ => HSK.out _ HK4.out) ?_
      clear hKK KK
      iterate 1 (refine mix_free ?_ rfl (by kernel_rfl) (fun w' hS => ?_) ?_; (rotate_left; (obtain ⟨s1, s2⟩ := hS; go_simp; with_reducible rfl); rotate_left))
      simp only [Act.put]
      refine mix_go rfl (by kernel_rfl) fun KK hKK => ?_
      go_simp
      have HKA := hid (HK4.out.below ((Below.refl w4.heap.size w4).alloc (Nat.le_refl _) (.cells #[.int .i32 (ll : Int), .int .i32 (hh : Int), .int .i64 (c : Int)] 36)))
      refine hKK _ _ (fun _ => HSK.out _ HKA.out) ?_
      clear hKK KK
      refine mix_go rfl (by kernel_rfl) fun KK hKK => ?_
      refine wp_append_lies _ _ _ 25 rfl N 36 i0 (.agg #[.int .i32 0, .int .i32 0, .int .i64 0]) 3 16 Try.underlying25 hi36 hz0 hz1 hz2 rfl (by decide) _ nL (rks Lc) rfl (HO4.out.alloc _) ⟨w4.heap.size, 0, none⟩ 1 1 (rkc ((ll : Int), (hh : Int), (c : Int))) rfl rfl (news_k w4 ((ll : Int), (hh : Int), (c : Int)) 36) (rkc_one _) (by decide) (by unfold maxLen; omega) (by omega) (by simp; omega) (w4.heap.size + 1) (by simp) ?_
      intro q5 c5 w5 o5 gr5 hl5 hlt5
      have HK5 := hid (HK4.out.grown HO4.out gr5)
      have HP5 := hid (HP4.out.grown HO4.out gr5)
      have HB5 := hid ((HB4.out.alloc (Nat.le_trans hwN hN4) (.cells #[.int .i32 (ll : Int), .int .i32 (hh : Int), .int .i64 (c : Int)] 36)).grown gr5 (by simp; omega) (fun k hk => Nat.le_trans hwN (HO4.out.lt k hk).1))
      have HO5 := hid (show w5.ownsRow N 36 3 (.slice (some ⟨q5, 0, none⟩) (nL + 1) c5) (nL + 1) (rks (Lc ++ [(ll, hh, c)])) by rw [rks_snoc]; exact o5)
      have hN5 : N ≤ w5.heap.size := by have h5 := gr5.size; simp at h5; omega
      clear o5 gr5 hl5 hlt5 HKA
      refine hKK _ _ (fun _ => HSK.out _ HK5.out) ?_
      clear hKK KK
      refine mix_go rfl (by kernel_rfl) fun KK hKK => ?_
      go_simp
      refine hKK _ _ (fun _ => HSK.out _ HK5.out) ?_
      clear hKK KK
      refine mix_end (NoPanic.normal ?_)
      go_wp2_with fail
      refine (HBX.out w5 HK5.out).mono ?_
      rintro e w6 ⟨hw, xo2, xc2, rfl, l6, r6⟩
      obtain rfl := hw.symm
      have HR6 := hid r6
      clear r6
      go_wp2_with fail
      refine (HBY.out w5 HK5.out).mono ?_
      rintro e w6 ⟨hw, yo2, yc2, rfl, l7, r7⟩
      obtain rfl := hw.symm
      have HR7 := hid r7
      clear r7
      obtain ⟨nX2, hnX2⟩ : ∃ n, n = X2.length := ⟨_, rfl⟩
      obtain ⟨nY2, hnY2⟩ : ∃ n, n = Y2.length := ⟨_, rfl⟩
      rw [← hnX2] at l6 HM0 ⊢
      rw [← hnY2] at l7 HM0 ⊢
      have HNX2 := hid hnX2
      have HNY2 := hid hnY2
      clear hnX2 hnY2
      go_wp2
      go_roundw
      case rel => exact ⟨T4, Lc ++ [(ll, hh, c)], X2, Y2, tv4, some ⟨q5, 0, none⟩, xo2, yo2, nL + 1, nX2, nY2, c5, xc2, yc2, hh + 1, rfl, rfl, rfl, l6, l7, hN5, (by have h5 := HNL.out; show nL + 1 = _; simp; omega), HNX2, HNY2, HIV, HN2, HP5, HO5, (fun W hW => HR6.out W (HXR.out W hW)), (fun W hW => HR7.out W (HYR.out W hW)), HK5, HB5⟩
      case measure => exact HM0.out
    · have hz := iv_end A D T Lc _ _ ll HI.out hlt
      have hX0 : nX = 0 := by have h5 := HNX.out; rw [(iv_nil HI.out).2 hlt] at h5; exact h5
      subst hX0
      obtain ⟨il1, il2, il3⟩ := iv_len HI.out
      have bT : T.length ≤ 3000000 := by have h6 := HNA.out; have h8 := HND.out; omega
      have bL : nL ≤ 3000000 := by have h5 := HNL.out; have h6 := HNA.out; have h8 := HND.out; omega
      have HRS := hid (show T.length ≤ 256 → Ris 0 Lc from fun h5 => by have h6 := zpF_ris A D HCA.out HCD.out (by rw [hz]; exact h5); rw [hz] at h6; exact h6)
      have HZ := hid hz
      have HPO := hid (okP_nat r q hr hq)
      have HBT := hid bT
      clear hz il1 il2 il3 bT HI HNX HNY
      go_wp2_with fail
      refine (HR1.out wr HB.out).mono ?_
      rintro e w3 ⟨rfl, hw⟩
      obtain rfl := hw.symm
      clear hw
      go_wp2_with fail
      refine (HR2.out wr HB.out).mono ?_
      rintro e w3 ⟨rfl, hw⟩
      obtain rfl := hw.symm
      clear hw
      go_wp2_with fail
      refine (pairf_any _ _ _ _ T tv ((r : Int), (q : Int)) wr HP.out HB.out.size HPO.out HTN.out.2 HTN.out.1 HBT.out).mono ?_
      rintro e w4 ⟨rfl, b4, tv4, p4, f4⟩
      have HB4 := hid (HB.out.trans b4)
      have HO4 := hid (row_far HOL.out HP.out f4)
      have hN4 : N ≤ w4.heap.size := Nat.le_trans hNw f4.sz
      obtain ⟨to, tc4, rfl⟩ := own_form p4.hR
      have cp := cell_row w4 w.heap.size 0 [_] 49 _ p4.hp rfl
      have hpl := lt_of_heap p4.hp
      have HP4 := hid p4.hR
      have hlc := ad_lt ((r : Int), (q : Int)) T
      have HTL := hid (show T.length ≤ (ad ((r : Int), (q : Int)) T).1.length by unfold ad; split <;> simp)
      clear b4 p4 f4
      obtain ⟨T4, hT4⟩ : ∃ T4, T4 = (ad ((r : Int), (q : Int)) T).1 := ⟨_, rfl⟩
      obtain ⟨c, hc⟩ : ∃ c, c = (ad ((r : Int), (q : Int)) T).2 := ⟨_, rfl⟩
      have HE := hid (show ad ((r : Int), (q : Int)) (zpF A D).1 = (T4, c) by rw [HZ.out, hT4, hc])
      have HZ2 := hid (show (zpF A D).2 = Lc by rw [HZ.out])
      rw [← hT4] at HP4 cp hlc HTL
      rw [← hc] at hlc ⊢
      obtain ⟨n4, hn4⟩ : ∃ n4, n4 = T4.length := ⟨_, rfl⟩
      rw [← hn4] at HP4 cp hlc HTL
      have HN4 := hid hn4
      clear hT4 hc hn4
      by_cases hmany : 256 < n4
      · have hm' : (256 : Int) < (n4 : Int) := by omega
        go_wp2
        go_ret3
        rw [HE.out]
        exact ⟨HB4.out, .inl ⟨by show 256 < T4.length; have h5 := HN4.out; omega, rfl⟩⟩
      · have hm' : ¬ (256 : Int) < (n4 : Int) := by omega
        have HRI := hid (HRS.out (by have h5 := HTL.out; omega))
        have HMD := hid (show Calls Try.prog 39 #[.slice li nL lc, .int .i64 (c : Int)] w4.drew fun e w' => e = .returned (.pointer (some ⟨w4.drew.heap.size, 0, none⟩)) ∧ (∃ bv, MkD w4.drew.heap.size (w4.drew.heap.size + 2) w4.drew.heap.size (w4.drew.heap.size + 1) c (clA c Lc) bv w') ∧ Below w4.drew.heap.size w4.drew w' from by
          have h5 := made_any li lc Lc c w4.drew (rd_own (show w4.drew.ownsRow N 36 3 (.slice li nL lc) nL (rks Lc) from HO4.out)) (by have h6 := HNL.out; omega) (by omega) HRI.out
          rw [← HNL.out] at h5
          exact h5)
        have HCL := hid (clA_len c Lc HRI.out)
        have HBD := hid (show Below w.heap.size w w4.drew from HB4.out.trans ⟨rfl, rfl, rfl, Nat.le_refl _, fun _ _ => rfl⟩)
        have HPD := hid (show w4.drew.ownsRow w.heap.size 88 2 (.slice to n4 tc4) n4 (pks T4) from HP4.out)
        have cpd : w4.drew.cell? ⟨w.heap.size, 0, none⟩ = some (.slice to n4 tc4) := cp
        have hplD : w.heap.size < w4.drew.heap.size := hpl
        go_wp2_with fail
        obtain ⟨W, hW⟩ : ∃ W, W = w4.drew := ⟨_, rfl⟩
        refine wp_region_mix [(0, true), (1, true), (3, true), (2, false), (4, false), (5, false), (6, false)] (fun w' => w'.cell? ⟨w.heap.size, 0, none⟩ = some (.slice to n4 tc4)) (fun _ => false) (by kernel_rfl) (by kernel_rfl) (fun j hj => by cases hj) rfl (by kernel_rfl) cpd ?_
        rw [← hW] at HMD HBD HPD cpd hplD ⊢
        clear hW cp
        iterate 3 (refine mix_free ?_ rfl (by kernel_rfl) (fun w' hS => ?_) ?_; (rotate_left; (go_simp; with_reducible rfl); rotate_left))
        simp only [Act.put]
        refine mix_go rfl (by kernel_rfl) fun KK hKK => ?_
        go_simp
        refine HMD.out.mono ?_
        rintro e w7 ⟨rfl, ⟨bv, hmk⟩, b7⟩
        obtain ⟨F', hF', hT'⟩ := tb_of_mk hmk HCL.out
        have HB7 := hid (HBD.out.trans (b7.mono (Nat.le_of_lt hplD)))
        have HT7 := hid (hT'.mono (Nat.le_of_lt hplD))
        have HF7 := hid hF'
        have HR7 := hid (rd_ownP (own_keep HPD.out b7))
        have cp7 : w7.cell? ⟨w.heap.size, 0, none⟩ = some (.slice to n4 tc4) := (b7.cell (p := ⟨w.heap.size, 0, none⟩) hplD).trans cpd
        clear hmk b7 hF' hT' HMD
        refine hKK _ _ (fun _ => cp7) ?_
        clear hKK KK
        iterate 3 (refine mix_go rfl (by kernel_rfl) fun KK hKK => ?_; go_simp; refine hKK _ _ (fun _ => cp7) ?_; clear hKK KK)
        refine mix_end (NoPanic.normal ?_)
        go_wp2
        go_ret3
        rw [HE.out, HZ2.out]
        exact ⟨HB7.out, .inr ⟨by show T4.length ≤ 256; have h5 := HN4.out; omega, W.heap.size, to, tc4, F', by rw [← HN4.out]; rfl, Nat.le_of_lt hplD, HR7.out, HF7.out, HT7.out⟩⟩
end Go.Proofs.Ytljlhlcoaajggaa
/- The runes of a text: the contracts of utf.Count and of the document's Decode and Marks. -/
namespace Go.Proofs
open Go.Shelf
def Try.lays195_ren : Go.Shelf.Ren := ⟨fun | 195 => 76 | n => n, fun | 9 => 9 | 3 => 3 | 0 => 0 | 4 => 4 | n => n, fun | n => n⟩
theorem Try.lays195 : Go.Proofs.Lays.n195 Try.prog Try.lays195_ren := {
  mixed := by kernel_rfl
  f195 := Try.func76.trans (congrArg some (by kernel_rfl))
  t0 := Try.underlying0
  a0 := Try.isAgg0
  z0 := Try.sizeOf0
  v0 := Try.zeroValue0
  t3 := Try.underlying3
  a3 := Try.isAgg3
  z3 := Try.sizeOf3
  v3 := Try.zeroValue3
  t4 := Try.underlying4
  a4 := Try.isAgg4
  z4 := Try.sizeOf4
  v4 := Try.zeroValue4
  t9 := Try.underlying9
  a9 := Try.isAgg9
  z9 := Try.sizeOf9
  v9 := Try.zeroValue9 }
open Go.RowKit in
theorem Try.utf8_RuneCountInString (s : ByteArray) (w : World) (hs : s.size < 9223372036854775807) :
    Calls Try.prog 76 #[.string s] w fun e w' => e = .returned (.int .i64 (Lib.runeCount s)) ∧ ∃ pos, w' = w.iter s pos := Any.utf8_RuneCountInString Try.lays195 s w hs
namespace Ytljlhlcoaajggaa
open Go.RowKit

/-- What Decode answers. -/
def dec (l : List UInt8) : Nat × Nat := if l = [] then (0, 0) else Lib.decodeGo ⟨l.toArray⟩
theorem ext_drop (l : List UInt8) (t : Nat) : (⟨l.toArray⟩ : ByteArray).extract t l.length = ⟨(l.drop t).toArray⟩ := by
  apply ByteArray.ext
  simp [ByteArray.data_extract, List.take_of_length_le]
set_option maxHeartbeats 400000 in
theorem ucount_any (l : List UInt8) (w : World) (hl : l.length < 9223372036854775807) :
    Calls Try.prog 67 #[.string ⟨l.toArray⟩] w fun e w' => e = .returned (.int .i64 (Lib.runeCount ⟨l.toArray⟩)) ∧ Below w.heap.size w w' := by
  have hs' : (⟨l.toArray⟩ : ByteArray).size < 9223372036854775807 := by show l.toArray.size < _; simpa using hl
  have HS := hid hs'
  clear hs'
  go_enter Try.func67, Try.ntmps67
  go_wp2_with (go_at_call 76; refine (Try.utf8_RuneCountInString ⟨l.toArray⟩ _ HS.out).mono ?_; rintro e w1 ⟨rfl, pos, rfl⟩)
  go_ret
  exact ⟨rfl, (Below.refl _ _).alloc (Nat.le_refl _) _⟩
/-- A byte of a text, as a number. -/
def byt (l : List UInt8) (i : Nat) : Int := ((l.getD i 0).toNat : Int)
theorem byt_bd (l : List UInt8) (i : Nat) : 0 ≤ byt l i ∧ byt l i < 256 := by
  have := (l.getD i 0).toNat_lt; unfold byt; omega
theorem byt_eq (l : List UInt8) (t : Nat) (h : t < (⟨l.toArray⟩ : ByteArray).size) : (((⟨l.toArray⟩ : ByteArray)[t]'h).toNat : Int) = byt l t := by
  have h' : t < l.length := by have : t < l.toArray.size := h; simpa using this
  unfold byt
  rw [show (⟨l.toArray⟩ : ByteArray)[t]'h = l[t] from rfl]
  simp [List.getD, h']
def rlN (c : Int) : Int := if c < 128 then 1 else if c < 192 then 0 else if c < 224 then 2 else if c < 240 then 3 else if c < 248 then 4 else 0
def rlB (c : Int) : Int := if c < 128 then c else if c < 192 then 0 else if c < 224 then c % 32 else if c < 240 then c % 16 else if c < 248 then c % 8 else 0
/-- Whether a number is a rune. -/
def isR (r : Int) : Bool := decide (0 ≤ r) && (decide (r ≤ 1114111) && (decide (r < 55296) || decide (57343 < r)))
def widI (r : Int) : Int := if isR r = false then 0 else if r < 128 then 1 else if r < 2048 then 2 else if r < 65536 then 3 else 4
theorem get_list (l : List UInt8) (i : Nat) : (⟨l.toArray⟩ : ByteArray).get! i = l.getD i 0 := by
  show l.toArray.getD i default = l.getD i 0
  by_cases h : i < l.length
  · simp [Array.getD, List.getD, h]
  · simp [Array.getD, List.getD, h]; rfl
theorem dec_numbers (l : List UInt8) (h : l ≠ []) : dec l = Lib.decodeN l.length (l.getD 0 0).toNat (l.getD 1 0).toNat (l.getD 2 0).toNat (l.getD 3 0).toNat := by
  unfold dec
  rw [if_neg h]
  unfold Lib.decodeGo
  have hs : (⟨l.toArray⟩ : ByteArray).size = l.length := by show l.toArray.size = _; simp
  rw [if_neg (by rw [hs]; exact fun e => h (List.length_eq_zero_iff.1 e)), Lib.decode_at, hs]
  simp only [get_list, Nat.zero_add, Nat.sub_zero]
/-- The bits, so many bytes on. -/
def acc (l : List UInt8) : Nat → Int
  | 0 => rlB (byt l 0)
  | k + 1 => acc l k * 64 + byt l (k + 1) % 64
theorem rlB_bd (c : Int) (h : 0 ≤ c) : 0 ≤ rlB c ∧ rlB c ≤ 127 := by unfold rlB; omega
theorem acc_bd (l : List UInt8) : ∀ k, 0 ≤ acc l k ∧ acc l k + 1 ≤ 128 * 64 ^ k
  | 0 => by have := rlB_bd (byt l 0) (byt_bd l 0).1; simp [acc]; omega
  | k + 1 => by
    obtain ⟨h1, h2⟩ := acc_bd l k
    have hp : (64 : Int) ^ (k + 1) = 64 * 64 ^ k := by rw [Int.pow_succ]; omega
    simp only [acc, hp]
    omega
theorem dec_short (l : List UInt8) (h : l ≠ []) (hn : rlN (byt l 0) = 0 ∨ (l.length : Int) < rlN (byt l 0)) : dec l = (65533, 1) := by
  rw [dec_numbers l h]
  have h1 : 1 ≤ l.length := by cases l with | nil => exact absurd rfl h | cons => simp
  unfold rlN byt at hn
  generalize (l.getD 0 0).toNat = b0 at *
  unfold Lib.decodeN
  repeat' split
  all_goals first | rfl | (exfalso; omega)
theorem dec_fail (l : List UInt8) (h : l ≠ []) (k : Nat) (h1 : 1 ≤ k) (hk : (k : Int) < rlN (byt l 0)) (hb : ¬ byt l k / 64 = 2) : dec l = (65533, 1) := by
  rw [dec_numbers l h]
  have h4 : rlN (byt l 0) ≤ 4 := by unfold rlN; omega
  have hk3 : k = 1 ∨ k = 2 ∨ k = 3 := by omega
  rcases hk3 with rfl | rfl | rfl
  all_goals
    unfold rlN byt at hk
    unfold byt at hb
    generalize (l.getD 0 0).toNat = b0 at *
    generalize (l.getD 1 0).toNat = b1 at *
    generalize (l.getD 2 0).toNat = b2 at *
    generalize (l.getD 3 0).toNat = b3 at *
    unfold Lib.decodeN
    repeat' split
    all_goals first | rfl | (exfalso; omega)
theorem isR_iff (r : Int) : isR r = true ↔ 0 ≤ r ∧ r ≤ 1114111 ∧ (r < 55296 ∨ 57343 < r) := by simp [isR]
theorem widI_val (x : Nat) : widI (x : Int) = if x ≤ 1114111 ∧ (x < 55296 ∨ 57343 < x) then (if x < 128 then 1 else if x < 2048 then 2 else if x < 65536 then 3 else 4) else 0 := by
  have hi := isR_iff (x : Int)
  unfold widI
  by_cases h : x ≤ 1114111 ∧ (x < 55296 ∨ 57343 < x)
  · rw [hi.2 (by omega), if_pos h, if_neg (by decide)]
    repeat' split
    all_goals omega
  · have hr : isR (x : Int) = false := by
      cases hr : isR (x : Int) with
      | false => rfl
      | true => have := hi.1 hr; omega
    rw [hr, if_neg h, if_pos rfl]
theorem wid_pick3 (x : Nat) (hx : x < 65536) : (if x ≥ 2048 ∧ (x < 55296 ∨ (57344 ≤ x ∧ x ≤ 1114111)) then (x, 3) else (65533, 1)) = if widI (x : Int) = ((3 : Nat) : Int) then ((x : Int).toNat, 3) else (65533, 1) := by
  rw [widI_val, Int.toNat_natCast]
  repeat' split
  all_goals first | rfl | (exfalso; omega)
theorem wid_pick4 (x : Nat) : (if x ≥ 65536 ∧ (x < 55296 ∨ (57344 ≤ x ∧ x ≤ 1114111)) then (x, 4) else (65533, 1)) = if widI (x : Int) = ((4 : Nat) : Int) then ((x : Int).toNat, 4) else (65533, 1) := by
  rw [widI_val, Int.toNat_natCast]
  repeat' split
  all_goals first | rfl | (exfalso; omega)
theorem dec_end (l : List UInt8) (h : l ≠ []) (n : Nat) (hn : rlN (byt l 0) = n) (hn1 : 1 ≤ n) (hl : n ≤ l.length) (hb : ∀ k, 1 ≤ k → k < n → byt l k / 64 = 2) :
    dec l = if widI (acc l (n - 1)) = n then ((acc l (n - 1)).toNat, n) else (65533, 1) := by
  rw [dec_numbers l h]
  have h4 : rlN (byt l 0) ≤ 4 := by unfold rlN; omega
  have hn4 : n = 1 ∨ n = 2 ∨ n = 3 ∨ n = 4 := by omega
  have g0 := (l.getD 0 0).toNat_lt
  have g1 := (l.getD 1 0).toNat_lt
  have g2 := (l.getD 2 0).toNat_lt
  have g3 := (l.getD 3 0).toNat_lt
  rcases hn4 with rfl | rfl | rfl | rfl
  · simp only [Nat.sub_self, acc]
    unfold rlN byt at hn
    unfold byt
    generalize (l.getD 0 0).toNat = b0 at *
    have hb0 : b0 < 128 := by omega
    have e1 : rlB b0 = b0 := by unfold rlB; omega
    have e2 : widI b0 = 1 := by simp [widI, isR]; omega
    rw [e1, e2]
    unfold Lib.decodeN
    rw [if_pos hb0]
    simp
  · have hb1 := hb 1 (by omega) (by omega)
    simp only [Nat.reduceSub, acc]
    unfold rlN byt at hn
    unfold byt at hb1 ⊢
    simp only [Nat.zero_add] at *
    generalize (l.getD 0 0).toNat = b0 at *
    generalize (l.getD 1 0).toNat = b1 at *
    have e1 : rlB b0 = (b0 : Int) % 32 := by unfold rlB; omega
    rw [e1]
    unfold Lib.decodeN widI isR
    simp
    repeat' split
    all_goals first | rfl | (exfalso; omega) | (simp; omega)
  · have hb1 := hb 1 (by omega) (by omega)
    have hb2 := hb 2 (by omega) (by omega)
    simp only [Nat.reduceSub, acc]
    unfold rlN byt at hn
    unfold byt at hb1 hb2 ⊢
    simp only [Nat.zero_add, Nat.reduceAdd] at *
    generalize (l.getD 0 0).toNat = b0 at *
    generalize (l.getD 1 0).toNat = b1 at *
    generalize (l.getD 2 0).toNat = b2 at *
    have e1 : rlB b0 = (b0 : Int) % 16 := by unfold rlB; omega
    rw [e1]
    have e2 : ((b0 : Int) % 16 * 64 + (b1 : Int) % 64) * 64 + (b2 : Int) % 64 = ((b0 % 16 * 4096 + b1 % 64 * 64 + b2 % 64 : Nat) : Int) := by omega
    rw [e2]
    unfold Lib.decodeN
    rw [if_neg (by omega), if_neg (by omega), if_pos (by omega)]
    have hx : b0 % 16 * 4096 + b1 % 64 * 64 + b2 % 64 < 65536 := by omega
    generalize b0 % 16 * 4096 + b1 % 64 * 64 + b2 % 64 = x at *
    exact wid_pick3 x hx
  · have hb1 := hb 1 (by omega) (by omega)
    have hb2 := hb 2 (by omega) (by omega)
    have hb3 := hb 3 (by omega) (by omega)
    simp only [Nat.reduceSub, acc]
    unfold rlN byt at hn
    unfold byt at hb1 hb2 hb3 ⊢
    simp only [Nat.zero_add, Nat.reduceAdd] at *
    generalize (l.getD 0 0).toNat = b0 at *
    generalize (l.getD 1 0).toNat = b1 at *
    generalize (l.getD 2 0).toNat = b2 at *
    generalize (l.getD 3 0).toNat = b3 at *
    have e1 : rlB b0 = (b0 : Int) % 8 := by unfold rlB; omega
    rw [e1]
    have e2 : (((b0 : Int) % 8 * 64 + (b1 : Int) % 64) * 64 + (b2 : Int) % 64) * 64 + (b3 : Int) % 64 = ((b0 % 8 * 262144 + b1 % 64 * 4096 + b2 % 64 * 64 + b3 % 64 : Nat) : Int) := by omega
    rw [e2]
    unfold Lib.decodeN
    rw [if_neg (by omega), if_neg (by omega), if_neg (by omega), if_pos (by omega)]
    generalize b0 % 8 * 262144 + b1 % 64 * 4096 + b2 % 64 * 64 + b3 % 64 = x at *
    exact wid_pick4 x
theorem ret2 {a a' b b' : Int} (h1 : a = a') (h2 : b = b') : Ending.returned (Value.tuple #[.int .i64 a, .int .i32 b]) = .returned (.tuple #[.int .i64 a', .int .i32 b']) := by rw [h1, h2]
set_option maxHeartbeats 400000 in
theorem rlead_any (c : Int) (w : World) (h0 : 0 ≤ c) (h9 : c < 256) :
    Calls Try.prog 81 #[.int .u8 c] w fun e w' => e = .returned (.tuple #[.int .i64 (rlN c), .int .i32 (rlB c)]) ∧ w' = w := by
  by_cases h1 : c < 128
  · go_enter Try.func81, Try.ntmps81
    go_wp2
    go_ret2
    exact ⟨ret2 (by unfold rlN; omega) (by unfold rlB; omega), rfl⟩
  by_cases h2 : c < 192
  · go_enter Try.func81, Try.ntmps81
    go_wp2
    go_ret2
    exact ⟨ret2 (by unfold rlN; omega) (by unfold rlB; omega), rfl⟩
  by_cases h3 : c < 224
  · go_enter Try.func81, Try.ntmps81
    go_wp2
    go_ret2
    exact ⟨ret2 (by unfold rlN; omega) (by unfold rlB; omega), rfl⟩
  by_cases h4 : c < 240
  · go_enter Try.func81, Try.ntmps81
    go_wp2
    go_ret2
    exact ⟨ret2 (by unfold rlN; omega) (by unfold rlB; omega), rfl⟩
  by_cases h5 : c < 248
  · go_enter Try.func81, Try.ntmps81
    go_wp2
    go_ret2
    exact ⟨ret2 (by unfold rlN; omega) (by unfold rlB; omega), rfl⟩
  · go_enter Try.func81, Try.ntmps81
    go_wp2
    go_ret2
    exact ⟨ret2 (by unfold rlN; omega) (by unfold rlB; omega), rfl⟩
theorem rlead_eq (c n r : Int) (w : World) (h0 : 0 ≤ c) (h9 : c < 256) (hn : rlN c = n) (hr : rlB c = r) :
    Calls Try.prog 81 #[.int .u8 c] w fun e w' => e = .returned (.tuple #[.int .i64 n, .int .i32 r]) ∧ w' = w := by
  subst hn; subst hr
  exact rlead_any c w h0 h9
theorem cont_test (b : Int) (h0 : 0 ≤ b) (h1 : b < 256) : (bits BinOp.and IntKind.u8 b 192 != 128) = !decide (b / 64 = 2) := by
  rw [Lib.runeStart_of b h0 h1]
  unfold Lib.runeStart
  by_cases h : b / 64 = 2 <;> simp [h]
set_option maxHeartbeats 400000 in
theorem rune_any (r : Int) (w : World) :
    Calls Try.prog 83 #[.int .i32 r] w fun e w' => e = .returned (.bool (isR r)) ∧ w' = w := by
  by_cases h1 : 0 ≤ r
  · by_cases h2 : r ≤ 1114111
    · by_cases h3 : r < 55296
      · have HR := hid (show isR r = true by simp [isR, h1, h2, h3])
        go_enter Try.func83, Try.ntmps83
        go_wp2
        go_ret
        exact ⟨by rw [HR.out]; rfl, rfl⟩
      · by_cases h4 : 57343 < r
        · have HR := hid (show isR r = true by simp [isR, h1, h2, h4])
          go_enter Try.func83, Try.ntmps83
          go_wp2
          go_ret
          exact ⟨by rw [HR.out]; rfl, rfl⟩
        · have HR := hid (show isR r = false by simp [isR, h3, h4])
          go_enter Try.func83, Try.ntmps83
          go_wp2
          go_ret
          exact ⟨by rw [HR.out]; rfl, rfl⟩
    · have HR := hid (show isR r = false by simp [isR, h2])
      go_enter Try.func83, Try.ntmps83
      go_wp2
      go_ret
      exact ⟨by rw [HR.out]; rfl, rfl⟩
  · have HR := hid (show isR r = false by simp [isR, h1])
    go_enter Try.func83, Try.ntmps83
    go_wp2
    go_ret
    exact ⟨by rw [HR.out]; rfl, rfl⟩
set_option maxHeartbeats 400000 in
theorem width_any (r : Int) (w : World) :
    Calls Try.prog 82 #[.int .i32 r] w fun e w' => e = .returned (.int .i64 (widI r)) ∧ w' = w := by
  cases hr : isR r with
  | false =>
    have HW := hid (show widI r = 0 by simp [widI, hr])
    go_enter Try.func82, Try.ntmps82
    go_wp2_with (go_at_call 83; refine (rune_any _ _).mono ?_; rintro e w' ⟨rfl, rfl⟩)
    go_ret
    exact ⟨by rw [HW.out]; rfl, rfl⟩
  | true =>
    have hw : widI r = if r < 128 then 1 else if r < 2048 then 2 else if r < 65536 then 3 else 4 := by simp [widI, hr]
    by_cases h1 : r < 128
    · have HW := hid (show widI r = 1 by rw [hw]; omega)
      clear hw
      go_enter Try.func82, Try.ntmps82
      go_wp2_with (go_at_call 83; refine (rune_any _ _).mono ?_; rintro e w' ⟨rfl, rfl⟩)
      go_ret
      exact ⟨by rw [HW.out]; rfl, rfl⟩
    by_cases h2 : r < 2048
    · have HW := hid (show widI r = 2 by rw [hw]; omega)
      clear hw
      go_enter Try.func82, Try.ntmps82
      go_wp2_with (go_at_call 83; refine (rune_any _ _).mono ?_; rintro e w' ⟨rfl, rfl⟩)
      go_ret
      exact ⟨by rw [HW.out]; rfl, rfl⟩
    by_cases h3 : r < 65536
    · have HW := hid (show widI r = 3 by rw [hw]; omega)
      clear hw
      go_enter Try.func82, Try.ntmps82
      go_wp2_with (go_at_call 83; refine (rune_any _ _).mono ?_; rintro e w' ⟨rfl, rfl⟩)
      go_ret
      exact ⟨by rw [HW.out]; rfl, rfl⟩
    · have HW := hid (show widI r = 4 by rw [hw]; omega)
      clear hw
      go_enter Try.func82, Try.ntmps82
      go_wp2_with (go_at_call 83; refine (rune_any _ _).mono ?_; rintro e w' ⟨rfl, rfl⟩)
      go_ret
      exact ⟨by rw [HW.out]; rfl, rfl⟩
set_option maxHeartbeats 400000 in
theorem rdec_any (l : List UInt8) (w : World) (hl : l.length ≤ 1000000000000) :
    Calls Try.prog 80 #[.string ⟨l.toArray⟩] w fun e w' => e = .returned (.tuple #[.int .i32 (dec l).1, .int .i64 (dec l).2]) ∧ w' = w := by
  by_cases h : l = []
  · subst h
    go_enter Try.func80, Try.ntmps80
    go_wp2
    go_ret2
    exact ⟨rfl, rfl⟩
  have h1 : 1 ≤ l.length := by cases l with | nil => exact absurd rfl h | cons => simp
  have hsz : 0 < (⟨l.toArray⟩ : ByteArray).size := by show 0 < l.toArray.size; simp; omega
  obtain ⟨b0, b1⟩ := byt_bd l 0
  have he := byt_eq l 0 hsz
  have hl0 : ((l.length : Int) == 0) = false := beq_eq_false_iff_ne.2 (by omega)
  obtain ⟨c, hc⟩ : ∃ c, c = byt l 0 := ⟨_, rfl⟩
  rw [← hc] at he b0 b1
  have HC := hid hc
  clear hc
  have hn4 : 0 ≤ rlN c ∧ rlN c ≤ 4 := by unfold rlN; omega
  by_cases hz : rlN c = 0
  · have HD := hid (dec_short l h (Or.inl (by rw [← HC.out]; exact hz)))
    have hz' : (rlN c == 0) = true := beq_iff_eq.2 hz
    clear hz
    go_enter Try.func80, Try.ntmps80
    go_wp2_with (go_at_call 81; refine (rlead_any _ _ b0 b1).mono ?_; rintro e w' ⟨rfl, rfl⟩)
    go_ret2
    exact ⟨by rw [HD.out]; rfl, rfl⟩
  have hz' : (rlN c == 0) = false := beq_eq_false_iff_ne.2 hz
  by_cases hs : (l.length : Int) < rlN c
  · have HD := hid (dec_short l h (Or.inr (by rw [← HC.out]; exact hs)))
    clear hz
    go_enter Try.func80, Try.ntmps80
    go_wp2_with (go_at_call 81; refine (rlead_any _ _ b0 b1).mono ?_; rintro e w' ⟨rfl, rfl⟩)
    go_ret2
    exact ⟨by rw [HD.out]; rfl, rfl⟩
  obtain ⟨n, hn⟩ : ∃ n : Nat, rlN c = n := ⟨(rlN c).toNat, by omega⟩
  have HN := hid hn
  have hnl : n ≤ l.length := by omega
  have hn1 : 1 ≤ n := by omega
  have hn5 : n ≤ 4 := by omega
  have hacc0 : rlB c = acc l 0 := by rw [HC.out]; rfl
  have HA0 := hid hacc0
  clear hz hs hacc0 hn hz' hn4
  go_enter Try.func80, Try.ntmps80
  have hnl' : ¬ (l.length : Int) < (n : Int) := by omega
  have hn0' : ((n : Int) == 0) = false := beq_eq_false_iff_ne.2 (by omega)
  go_wp2_with (go_at_call 81; refine (rlead_eq _ _ _ _ b0 b1 HN.out HA0.out).mono ?_; rintro e w' ⟨rfl, rfl⟩)
  go_loop [5, 6] (fun r i => ∃ k : Nat, k + 1 ≤ n ∧ i = .int .i64 ((k : Int) + 1) ∧ r = .int .i32 (acc l k) ∧ Hid (∀ j, 1 ≤ j → j < k + 1 → byt l j / 64 = 2)) (fun _ i => n - (intOf i).toNat)
  case atStart => exact ⟨0, by omega, by simp, rfl, fun j h1 h2 => by omega⟩
  case round =>
    obtain ⟨k, hk, rfl, rfl, HB⟩ := hrel
    by_cases hlt : k + 1 < n
    · have hlt' : ((k : Int) + 1) < n := by omega
      have hsk : k + 1 < (⟨l.toArray⟩ : ByteArray).size := by show k + 1 < l.toArray.size; simp; omega
      have hek := byt_eq l (k + 1) hsk
      obtain ⟨d, hd⟩ : ∃ d, d = byt l (k + 1) := ⟨_, rfl⟩
      obtain ⟨d0, d1⟩ := byt_bd l (k + 1)
      rw [← hd] at d0 d1 hek
      have hct := cont_test d d0 d1
      have hab := acc_bd l k
      have hk2 : k ≤ 2 := by omega
      have hab1 : acc l k < 524288 := by
        have : k = 0 ∨ k = 1 ∨ k = 2 := by omega
        rcases this with rfl | rfl | rfl <;> omega
      have hab0 := hab.1
      have HDD := hid hd
      clear hab hd
      by_cases hcn : d / 64 = 2
      · have HX := hid (show acc l (k + 1) = acc l k * 64 + d % 64 by rw [HDD.out]; rfl)
        have HB2 := hid (show ∀ j, 1 ≤ j → j < k + 1 + 1 → byt l j / 64 = 2 from fun j h1 h2 => by
          by_cases e : j = k + 1
          · rw [e, ← HDD.out]; exact hcn
          · exact HB.out j h1 (by omega))
        simp only [hcn, decide_true, Bool.not_true] at hct
        clear hcn
        generalize acc l k = a at *
        go_wp2
        go_round
        case rel => exact ⟨k + 1, by omega, by go_num, by rw [HX.out], HB2⟩
        case measure => simp [intOf]; omega
      · have HD := hid (dec_fail l h (k + 1) (by omega) (by rw [← HC.out, HN.out]; omega) (by rw [← HDD.out]; exact hcn))
        simp only [hcn, decide_false, Bool.not_false] at hct
        clear hcn
        go_wp2
        go_ret2
        exact ⟨by rw [HD.out]; rfl, rfl⟩
    · have hke : k = n - 1 := by omega
      have hge : ¬ ((k : Int) + 1) < n := by omega
      have hD := dec_end l h n (by rw [← HC.out]; exact HN.out) hn1 hnl (fun j h1 h2 => HB.out j h1 (by omega))
      rw [← hke] at hD
      clear hke
      by_cases hw : widI (acc l k) = n
      · rw [if_pos hw] at hD
        have HD := hid hD
        have hw' : (widI (acc l k) != (n : Int)) = false := by simp [hw]
        have hab := (acc_bd l k).1
        clear hD hw
        go_wp2_with (go_at_call 82; refine (width_any _ _).mono ?_; rintro e w' ⟨rfl, rfl⟩)
        go_ret2
        exact ⟨by rw [HD.out]; simp [Int.toNat_of_nonneg hab], rfl⟩
      · rw [if_neg hw] at hD
        have HD := hid hD
        have hw' : (widI (acc l k) != (n : Int)) = true := by simp [hw]
        clear hD hw
        go_wp2_with (go_at_call 82; refine (width_any _ _).mono ?_; rintro e w' ⟨rfl, rfl⟩)
        go_ret2
        exact ⟨by rw [HD.out]; rfl, rfl⟩
/-- A mark: the place, the width, the rune, whether it is a fault. -/
structure Mk where
  pl : Int
  wd : Int
  ru : Int
  bad : Bool
theorem Try.info122 : (Try.prog.info? 122).map (fun i => (i.zero, i.size, i.bytes)) = some (some (.agg #[.int .i64 0, .int .i64 0, .int .i32 0, .bool false]), 4, 24) := by kernel_rfl
/-- The cells of a mark. -/
def mrkc (m : Mk) : List Value := [.int .i64 m.pl, .int .i64 m.wd, .int .i32 m.ru, .bool m.bad]
def mrkcs (ms : List Mk) : List Value := ms.flatMap mrkc
theorem mrkcs_snoc (ms : List Mk) (m : Mk) : mrkcs (ms ++ [m]) = mrkcs ms ++ mrkc m := by simp [mrkcs]
theorem mrkc_one (m : Mk) : ∀ u ∈ mrkc m, u.oneCell' = true := by
  intro u hu
  simp only [mrkc, List.mem_cons, List.mem_nil_iff, or_false] at hu
  rcases hu with rfl | rfl | rfl | rfl <;> rfl
theorem news_one (wr : World) (cs : Array Value) (t : TypeId) : ∀ j u, cs.toList[j]? = some u → (wr.alloc (.cells cs t)).cell? ((⟨wr.heap.size, 0, none⟩ : Addr).add j) = some u := World.news_of_block (heap_alloc_new wr _)
theorem dec_eqL (l : List UInt8) (h : l ≠ []) : dec l = Lib.decodeL l := by
  unfold dec
  rw [if_neg h]
  unfold Lib.decodeGo
  have hs : (⟨l.toArray⟩ : ByteArray).size = l.length := by show l.toArray.size = _; simp
  rw [if_neg (by rw [hs]; exact fun e => h (List.length_eq_zero_iff.1 e))]
  rfl
theorem dec_ge (l : List UInt8) (h : l ≠ []) : 1 ≤ (dec l).2 := by rw [dec_eqL l h]; exact Lib.decodeL_width l
theorem dec_le (l : List UInt8) (h : l ≠ []) : (dec l).2 ≤ l.length := by rw [dec_eqL l h]; exact Lib.decodeL_le l h
theorem dec_rune (l : List UInt8) (h : l ≠ []) : (dec l).1 ≤ 1114111 := by rw [dec_eqL l h]; exact Lib.decodeL_rune l
/-- The mark of the first rune. -/
def mk1 (p : Nat) (l : List UInt8) : Mk := ⟨p, (dec l).2, (dec l).1, decide ((dec l).2 = 1) && decide ((dec l).1 = 65533)⟩
def mksF : Nat → Nat → List UInt8 → List Mk
  | 0, _, _ => []
  | k + 1, p, l => if l = [] then [] else mk1 p l :: mksF k (p + (dec l).2) (l.drop (dec l).2)
theorem mksF_any : ∀ (k k' p : Nat) (l : List UInt8), l.length ≤ k → l.length ≤ k' → mksF k p l = mksF k' p l
  | 0, 0, _, _, _, _ => rfl
  | 0, k' + 1, p, l, h, _ => by
    have : l = [] := List.length_eq_zero_iff.1 (by omega)
    subst this; simp [mksF]
  | k + 1, 0, p, l, _, h => by
    have : l = [] := List.length_eq_zero_iff.1 (by omega)
    subst this; simp [mksF]
  | k + 1, k' + 1, p, l, h, h' => by
    unfold mksF
    by_cases e : l = []
    · simp [e]
    · rw [if_neg e, if_neg e]
      have := dec_ge l e
      rw [mksF_any k k' (p + (dec l).2) (l.drop (dec l).2) (by simp; omega) (by simp; omega)]
/-- The marks of a text that begins at a place. -/
def mks (p : Nat) (l : List UInt8) : List Mk := mksF l.length p l
theorem mks_nil (p : Nat) : mks p [] = [] := rfl
theorem mks_cons (p : Nat) (l : List UInt8) (h : l ≠ []) : mks p l = mk1 p l :: mks (p + (dec l).2) (l.drop (dec l).2) := by
  have h1 := dec_ge l h
  have h2 := dec_le l h
  unfold mks
  rw [mksF_any l.length (l.length - 1 + 1) p l (by omega) (by omega)]
  conv => lhs; unfold mksF
  rw [if_neg h, mksF_any (l.length - 1) (l.drop (dec l).2).length _ _ (by simp; omega) (by omega)]
/-- What was found so far and what is to come make the whole. -/
def PartM (l : List UInt8) (ms : List Mk) (t : Nat) : Prop := t ≤ l.length ∧ ms ++ mks t (l.drop t) = mks 0 l ∧ ms.length ≤ t
theorem PartM.start (l : List UInt8) : PartM l [] 0 := by simp [PartM]
theorem PartM.step {l : List UInt8} {ms : List Mk} {t : Nat} (h : PartM l ms t) (ht : t < l.length) : PartM l (ms ++ [mk1 t (l.drop t)]) (t + (dec (l.drop t)).2) := by
  obtain ⟨h1, h2, h3⟩ := h
  have hne : l.drop t ≠ [] := fun e => by have := congrArg List.length e; simp at this; omega
  have g1 := dec_ge _ hne
  have g2 := dec_le _ hne
  simp only [List.length_drop] at g2
  refine ⟨by omega, ?_, by simp; omega⟩
  rw [← h2, mks_cons t (l.drop t) hne]
  simp [List.drop_drop]
theorem PartM.done {l : List UInt8} {ms : List Mk} {t : Nat} (h : PartM l ms t) (ht : ¬ t < l.length) : ms = mks 0 l := by
  have h2 := h.2.1
  rw [List.drop_of_length_le (by omega), mks_nil] at h2
  simpa using h2
theorem rdec_eq (s : ByteArray) (l : List UInt8) (w : World) (hs : s = ⟨l.toArray⟩) (hl : l.length ≤ 1000000000000) :
    Calls Try.prog 80 #[.string s] w fun e w' => e = .returned (.tuple #[.int .i32 (dec l).1, .int .i64 (dec l).2]) ∧ w' = w := by
  subst hs
  exact rdec_any l w hl
set_option maxHeartbeats 1000000 in
theorem marks_any (l : List UInt8) (w : World) (hl : l.length ≤ 1000000000000) :
    Calls Try.prog 78 #[.string ⟨l.toArray⟩] w fun e w' => ∃ v, e = .returned v ∧ w'.ownsRow w.heap.size 122 4 v (mks 0 l).length (mrkcs (mks 0 l)) ∧ Below w.heap.size w w' := by
  obtain ⟨i0, hi, hz0, hz1, hz2⟩ := info_parts Try.info122
  go_enter Try.func78, Try.ntmps78
  go_wp2
  go_loopw [3, 4] (fun v i wr => ∃ (t : Nat) (q : Int) (ms : List Mk), i = .int .i64 q ∧ q = t ∧ Hid (PartM l ms t) ∧ wr.ownsRow w.heap.size 122 4 v ms.length (mrkcs ms) ∧ Below w.heap.size w wr) (fun _ i _ => l.length - (intOf i).toNat)
  case atStart => exact ⟨0, 0, [], rfl, rfl, PartM.start l, World.ownsRow_nil _ _ _ _, Below.refl _ _⟩
  case round =>
    obtain ⟨t, q, ms, rfl, rfl, HP, hown, hB⟩ := hrel
    have htl : t ≤ l.length := HP.out.1
    have hml : ms.length ≤ t := HP.out.2.2
    by_cases hlt : t < l.length
    · have hne : l.drop t ≠ [] := fun e => by have := congrArg List.length e; simp at this; omega
      have g1 := dec_ge _ hne
      have g2 := dec_le _ hne
      have g3 := dec_rune _ hne
      simp only [List.length_drop] at g2
      have HS := hid (HP.out.step hlt)
      have HK := hid (show mk1 t (l.drop t) = ⟨t, (dec (l.drop t)).2, (dec (l.drop t)).1, decide ((dec (l.drop t)).2 = 1) && decide ((dec (l.drop t)).1 = 65533)⟩ from rfl)
      clear hne
      go_wp2_with fail
      refine (rdec_eq _ (l.drop t) _ (ext_drop l t) (by simp; omega)).mono ?_
      rintro e w1 ⟨rfl, rfl⟩
      generalize (dec (l.drop t)).1 = rr at *
      generalize (dec (l.drop t)).2 = nn at *
      rw [HK.out] at HS
      clear HK HP
      by_cases hn1 : nn = 1
      · by_cases hr1 : rr = 65533
        · have e : (decide (nn = 1) && decide (rr = 65533)) = true := by simp [hn1, hr1]
          rw [e] at HS
          have t1 : (((nn : Int)) == 1) = true := beq_iff_eq.2 (by omega)
          have t2 : (((rr : Int)) == 65533) = true := beq_iff_eq.2 (by omega)
          clear hn1 hr1 e
          have hB1s := hB.size
          go_wp2_with (at_builtin; refine wpList_append_own _ rfl _ _ 119 rfl w.heap.size 122 i0 (.agg #[.int .i64 0, .int .i64 0, .int .i32 0, .bool false]) 4 24 Try.underlying119 hi hz0 hz1 hz2 rfl (by decide) _ _ _ rfl (hown.alloc _) ⟨w1.heap.size, 0, none⟩ 1 1 (mrkc ⟨t, nn, rr, true⟩) rfl rfl (news_one w1 #[.int .i64 t, .int .i64 nn, .int .i32 rr, .bool true] 122) (mrkc_one _) (by unfold maxLen; omega) (by omega) (by simp; omega) ?_)
          intro v' w2 hown' hgrow _
          have hB2 : Below w.heap.size w w2 := (hB.alloc hB.size _).grown hgrow (by simp; omega) (fun k hk => (hown.lt k hk).1)
          have hown2 : w2.ownsRow w.heap.size 122 4 v' (ms ++ [Mk.mk t nn rr true]).length (mrkcs (ms ++ [Mk.mk t nn rr true])) := by rw [mrkcs_snoc, List.length_append]; exact hown'
          clear hown' hgrow hown hB
          go_wp2
          go_roundw
          case rel => exact ⟨t + nn, _, _, rfl, by omega, HS, hown2, hB2⟩
          case measure => simp [intOf]; omega
        · have e : (decide (nn = 1) && decide (rr = 65533)) = false := by simp [hr1]
          rw [e] at HS
          have t1 : (((nn : Int)) == 1) = true := beq_iff_eq.2 (by omega)
          have t2 : (((rr : Int)) == 65533) = false := beq_eq_false_iff_ne.2 (by omega)
          clear hn1 hr1 e
          have hB1s := hB.size
          go_wp2_with (at_builtin; refine wpList_append_own _ rfl _ _ 119 rfl w.heap.size 122 i0 (.agg #[.int .i64 0, .int .i64 0, .int .i32 0, .bool false]) 4 24 Try.underlying119 hi hz0 hz1 hz2 rfl (by decide) _ _ _ rfl (hown.alloc _) ⟨w1.heap.size, 0, none⟩ 1 1 (mrkc ⟨t, nn, rr, false⟩) rfl rfl (news_one w1 #[.int .i64 t, .int .i64 nn, .int .i32 rr, .bool false] 122) (mrkc_one _) (by unfold maxLen; omega) (by omega) (by simp; omega) ?_)
          intro v' w2 hown' hgrow _
          have hB2 : Below w.heap.size w w2 := (hB.alloc hB.size _).grown hgrow (by simp; omega) (fun k hk => (hown.lt k hk).1)
          have hown2 : w2.ownsRow w.heap.size 122 4 v' (ms ++ [Mk.mk t nn rr false]).length (mrkcs (ms ++ [Mk.mk t nn rr false])) := by rw [mrkcs_snoc, List.length_append]; exact hown'
          clear hown' hgrow hown hB
          go_wp2
          go_roundw
          case rel => exact ⟨t + nn, _, _, rfl, by omega, HS, hown2, hB2⟩
          case measure => simp [intOf]; omega
      · have e : (decide (nn = 1) && decide (rr = 65533)) = false := by simp [hn1]
        rw [e] at HS
        have t1 : (((nn : Int)) == 1) = false := beq_eq_false_iff_ne.2 (by omega)
        clear hn1 e
        have hB1s := hB.size
        go_wp2_with (at_builtin; refine wpList_append_own _ rfl _ _ 119 rfl w.heap.size 122 i0 (.agg #[.int .i64 0, .int .i64 0, .int .i32 0, .bool false]) 4 24 Try.underlying119 hi hz0 hz1 hz2 rfl (by decide) _ _ _ rfl (hown.alloc _) ⟨w1.heap.size, 0, none⟩ 1 1 (mrkc ⟨t, nn, rr, false⟩) rfl rfl (news_one w1 #[.int .i64 t, .int .i64 nn, .int .i32 rr, .bool false] 122) (mrkc_one _) (by unfold maxLen; omega) (by omega) (by simp; omega) ?_)
        intro v' w2 hown' hgrow _
        have hB2 : Below w.heap.size w w2 := (hB.alloc hB.size _).grown hgrow (by simp; omega) (fun k hk => (hown.lt k hk).1)
        have hown2 : w2.ownsRow w.heap.size 122 4 v' (ms ++ [Mk.mk t nn rr false]).length (mrkcs (ms ++ [Mk.mk t nn rr false])) := by rw [mrkcs_snoc, List.length_append]; exact hown'
        clear hown' hgrow hown hB
        go_wp2
        go_roundw
        case rel => exact ⟨t + nn, _, _, rfl, by omega, HS, hown2, hB2⟩
        case measure => simp [intOf]; omega
    · have HD := hid (HP.out.done hlt)
      go_wp2
      go_ret
      exact ⟨_, rfl, by rw [← HD.out]; exact hown, hB⟩
end Ytljlhlcoaajggaa
end Go.Proofs
