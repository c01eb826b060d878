/- The order of ranges has no part; the ranges of a table make it anew; all counts make all numbers. -/
import Derived.Test.YtljlhlcoaajggaaLiveMath
import Derived.Test.YtljlhlcoaajggaaDelete
import Derived.Test.YtljlhlcoaajggaaLive
import Derived.Test.YtljlhlcoaajggaaLoad
import Derived.Shelf.Small.Utf8
import Derived.Shelf.Utf8.RuneCount
import Derived.Shelf.Strings.RuneCount
import Derived.Lib.DecodeN
import Derived.Shelf.Unicode.DecodeSlow
import Derived.Deep.AppendLies
import Derived.Lib.MapLaws
import Derived.Test.YtljlhlcoaajggaaNum
import Derived.RangeFuncNested
import Derived.RangeFuncBound
import Derived.RangeFuncCalls
import Derived.RangeFuncLeaves
import Derived.Shelf.Abstract
import Derived.Shelf.RegionOpen
import Derived.OwnWalkIn
import Derived.TacticsInMore
import Derived.LoopNIn
import Derived.LoopIn
import Derived.Maps.AppendAt
import Derived.Laws.RangeAny
import Derived.Deep.QuietTactic
import Derived.BigQuiet
import Derived.WalkSmall
import Derived.OrdersIn
import Derived.TacticsIn
import Derived.Test.YtljlhlcoaajggaaHeld2
import Derived.Deep.RegionHeld3
import Derived.Test.YtljlhlcoaajggaaSmall
namespace Go.Proofs.Ytljlhlcoaajggaa

theorem mt_sym (x g : Tr) (h1 : x.1 ≤ x.2.1) (h2 : g.1 ≤ g.2.1) : mt x g = mt g x := by
  rw [Bool.eq_iff_iff, mt_yes x g h1, mt_yes g x h2]
  constructor
  · rintro ⟨a, b⟩; exact ⟨b, a⟩
  · rintro ⟨a, b⟩; exact ⟨b, a⟩
/-- Ranges that may be so, no two of which meet. -/
def Fin (l : List Rk) : Prop := (∀ g ∈ l, okR g = true) ∧ l.Pairwise fun x y => mt (toT x) (toT y) = false
theorem flt_none : ∀ (l : List Rk) (D : List Tr) (i : Nat), flt D i l = none ↔ (∀ g ∈ l, okR g = true) ∧ (∀ g ∈ l, D.any (fun x => mt x (toT g)) = false) ∧ l.Pairwise fun x y => mt (toT x) (toT y) = false
  | [], D, i => by simp [flt]
  | g :: l, D, i => by
    have ih := flt_none l (insR (toT g) D) (i + 1)
    have hany : ∀ y, (insR (toT g) D).any (fun x => mt x y) = (mt (toT g) y || D.any (fun x => mt x y)) := fun y => by
      rw [(insR_perm (toT g) D).any_eq, List.any_cons]
    unfold flt
    by_cases hg : okR g = true
    · rw [if_pos hg]
      by_cases ha : D.any (fun x => mt x (toT g)) = true
      · rw [if_pos ha]
        constructor
        · intro h; cases h
        · rintro ⟨_, h2, _⟩
          have := h2 g (by simp)
          rw [ha] at this; cases this
      · rw [if_neg ha, ih]
        have ha' : D.any (fun x => mt x (toT g)) = false := by simpa using ha
        constructor
        · rintro ⟨h1, h2, h3⟩
          refine ⟨fun x hx => ?_, fun x hx => ?_, ?_⟩
          · rcases List.mem_cons.1 hx with rfl | hx
            · exact hg
            · exact h1 x hx
          · rcases List.mem_cons.1 hx with rfl | hx
            · exact ha'
            · have := h2 x hx
              rw [hany, Bool.or_eq_false_iff] at this
              exact this.2
          · refine List.pairwise_cons.2 ⟨fun x hx => ?_, h3⟩
            have := h2 x hx
            rw [hany, Bool.or_eq_false_iff] at this
            exact this.1
        · rintro ⟨h1, h2, h3⟩
          obtain ⟨h4, h5⟩ := List.pairwise_cons.1 h3
          refine ⟨fun x hx => h1 x (by simp [hx]), fun x hx => ?_, h5⟩
          rw [hany, Bool.or_eq_false_iff]
          exact ⟨h4 x hx, h2 x (by simp [hx])⟩
    · rw [if_neg hg]
      constructor
      · intro h; cases h
      · rintro ⟨h1, _, _⟩
        exact absurd (h1 g (by simp)) hg
theorem flt_fin (l : List Rk) : flt [] 0 l = none ↔ Fin l := by
  rw [flt_none]
  unfold Fin
  constructor
  · rintro ⟨a, _, c⟩; exact ⟨a, c⟩
  · rintro ⟨a, c⟩; exact ⟨a, fun _ _ => rfl, c⟩
theorem Fin.perm {l m : List Rk} (h : Fin l) (hp : List.Perm l m) : Fin m := by
  obtain ⟨h1, h2⟩ := h
  have h1' : ∀ g ∈ m, okR g = true := fun g hg => h1 g (hp.mem_iff.2 hg)
  refine ⟨h1', ?_⟩
  have h3 : l.Pairwise fun x y => okR x = true ∧ okR y = true ∧ mt (toT x) (toT y) = false := by
    refine List.Pairwise.imp_of_mem (fun ha hb h => ⟨h1 _ ha, h1 _ hb, h⟩) h2
  have h4 := (hp.pairwise_iff (fun {x y} (h : okR x = true ∧ okR y = true ∧ mt (toT x) (toT y) = false) => ⟨h.2.1, h.1, by rw [mt_sym _ _ (toT_ok h.2.1).1 (toT_ok h.1).1]; exact h.2.2⟩)).1 h3
  exact h4.imp fun h => h.2.2
theorem srt_perm : ∀ (l : List Rk) (D : List Tr), List.Perm (srt D l) (D ++ l.map toT)
  | [], D => by simp [srt]
  | g :: l, D => by
    have ih := srt_perm l (insR (toT g) D)
    show List.Perm (srt (insR (toT g) D) l) _
    refine ih.trans ?_
    refine ((insR_perm (toT g) D).append_right _).trans ?_
    show List.Perm (toT g :: D ++ l.map toT) (D ++ (toT g :: l.map toT))
    exact List.perm_middle.symm
theorem ris_one : ∀ (A B : List Tr) (b c : Nat), Ris b A → Ris c B → List.Perm A B → A = B
  | [], B, _, _, _, _, h => (List.nil_perm.1 h).symm
  | x :: A, [], _, _, _, _, h => by simpa using h.length_eq
  | x :: A, y :: B, b, c, h1, h2, h => by
    obtain ⟨a1, a2, a3, a4, a5⟩ := h1
    obtain ⟨b1, b2, b3, b4, b5⟩ := h2
    have hxy : x = y := by
      have hx : x ∈ y :: B := h.mem_iff.1 (by simp)
      have hy : y ∈ x :: A := h.mem_iff.2 (by simp)
      rcases List.mem_cons.1 hx with e | hx
      · exact e
      · rcases List.mem_cons.1 hy with e | hy
        · exact e.symm
        · have p1 := ris_mem a5 y hy
          have p2 := ris_mem b5 x hx
          omega
    subst hxy
    rw [ris_one A B _ _ a5 b5 ((List.perm_cons x).1 h)]
theorem srt_same {l m : List Rk} (h : flt [] 0 l = none) (hp : List.Perm l m) : flt [] 0 m = none ∧ srt [] m = srt [] l := by
  have hm : flt [] 0 m = none := (flt_fin m).2 (((flt_fin l).1 h).perm hp)
  refine ⟨hm, ?_⟩
  refine ris_one _ _ 0 0 (srt_ris m [] 0 trivial hm) (srt_ris l [] 0 trivial h) ?_
  exact (srt_perm m []).trans (((hp.symm).map toT).trans (srt_perm l []).symm)
theorem toT_rkT (g : Tr) : toT (rkT g) = g := by
  obtain ⟨a, b, c⟩ := g
  simp [toT, rkT]
theorem okR_rkT {g : Tr} (h1 : g.1 ≤ g.2.1) (h2 : g.2.1 ≤ 1114111) (h3 : g.2.2 < 256) : okR (rkT g) = true := by
  rw [okR_iff]
  unfold rkT
  dsimp only
  omega
theorem ris_fin : ∀ (A : List Tr) (b : Nat), Ris b A → Fin (A.map rkT)
  | [], _, _ => ⟨fun _ h => (by cases h), List.Pairwise.nil⟩
  | g :: A, b, h => by
    obtain ⟨h1, h2, h3, h4, h5⟩ := h
    obtain ⟨i1, i2⟩ := ris_fin A _ h5
    refine ⟨fun x hx => ?_, ?_⟩
    · rcases List.mem_cons.1 hx with rfl | hx
      · exact okR_rkT h2 h3 h4
      · exact i1 x hx
    · refine List.pairwise_cons.2 ⟨fun x hx => ?_, i2⟩
      obtain ⟨y, hy, rfl⟩ := List.mem_map.1 hx
      rw [toT_rkT, toT_rkT]
      have hm := ris_mem h5 y hy
      cases hmt : mt g y with
      | false => rfl
      | true =>
        have := (mt_yes g y h2).1 hmt
        omega
theorem srt_self (A : List Tr) (h : Ris 0 A) : flt [] 0 (A.map rkT) = none ∧ srt [] (A.map rkT) = A := by
  have h1 := (flt_fin _).2 (ris_fin A 0 h)
  refine ⟨h1, ris_one _ _ 0 0 (srt_ris _ [] 0 trivial h1) h ?_⟩
  have := srt_perm (A.map rkT) []
  rw [List.nil_append, List.map_map] at this
  have e : A.map (toT ∘ rkT) = A := by
    conv => rhs; rw [← List.map_id A]
    apply List.map_congr_left
    intro x _
    exact toT_rkT x
  rw [e] at this
  exact this
/-! How many ranges. -/
def cps (r : Nat) : Nat → List Tr → List (Nat × Nat)
  | _, [] => []
  | b, g :: l => (g.1 - b, r) :: (g.2.1 + 1 - g.1, g.2.2) :: cps r (g.2.1 + 1) l
theorem clq_pcs (r : Nat) : ∀ (A : List Tr) (b : Nat), clq r b A = pcs (cps r b A)
  | [], _ => rfl
  | g :: A, b => by
    show List.replicate (g.1 - b) r ++ (List.replicate (g.2.1 + 1 - g.1) g.2.2 ++ clq r (g.2.1 + 1) A) = _
    rw [clq_pcs r A]
    rfl
theorem cps_len (r : Nat) : ∀ (A : List Tr) (b : Nat), (cps r b A).length = 2 * A.length
  | [], _ => rfl
  | g :: A, b => by
    show (cps r (g.2.1 + 1) A).length + 1 + 1 = _
    rw [cps_len r A, List.length_cons]; omega
theorem rlP_len : ∀ (ps : List (Nat × Nat)) (b : Nat) (o : List Tr), (rlP b o ps).length ≤ o.length + ps.length
  | [], _, _ => by simp [rlP]
  | p :: ps, b, o => by
    have h1 := rlP_len ps (b + p.1) (if p.1 = 0 then o else jn o (b, b + (p.1 - 1), p.2))
    have h2 := jn_len o (b, b + (p.1 - 1), p.2)
    show (rlP (b + p.1) (if p.1 = 0 then o else jn o (b, b + (p.1 - 1), p.2)) ps).length ≤ _
    rw [List.length_cons]
    split at h1 <;> rename_i hc
    · rw [if_pos hc]; omega
    · rw [if_neg hc]; omega
theorem rgs_len (r : Nat) (A : List Tr) : (rgs r (clA r A)).length ≤ 2 * A.length + 1 := by
  have e : clA r A = pcs (cps r 0 A ++ [(1114112 - (clq r 0 A).length, r)]) := by
    unfold clA
    rw [clq_pcs]
    unfold pcs
    rw [List.flatMap_append]
    simp
  unfold rgs
  have h1 := fil_len r (rlA 0 [] (clA r A))
  rw [e, rlA_pcs] at h1 ⊢
  have h2 := rlP_len (cps r 0 A ++ [(1114112 - (clq r 0 A).length, r)]) 0 []
  rw [List.length_append, cps_len] at h2
  simp at h2
  omega
/-! There and back. -/
theorem clq_snoc (r : Nat) : ∀ (P : List Tr) (b : Nat) (g : Tr), clq r b (P ++ [g]) = clq r b P ++ (List.replicate (g.1 - endR b P) r ++ List.replicate (g.2.1 + 1 - g.1) g.2.2)
  | [], b, g => by
    show List.replicate (g.1 - b) r ++ (List.replicate (g.2.1 + 1 - g.1) g.2.2 ++ []) = _
    rw [List.append_nil]; rfl
  | x :: P, b, g => by
    have he : endR b (x :: P) = endR (x.2.1 + 1) P := by
      unfold endR
      cases P with
      | nil => rfl
      | cons y P => rfl
    rw [he]
    show List.replicate (x.1 - b) r ++ (List.replicate (x.2.1 + 1 - x.1) x.2.2 ++ clq r (x.2.1 + 1) (P ++ [g])) = _
    rw [clq_snoc r P]
    show _ = (List.replicate (x.1 - b) r ++ (List.replicate (x.2.1 + 1 - x.1) x.2.2 ++ clq r (x.2.1 + 1) P)) ++ _
    simp only [List.append_assoc]
theorem clq_end (r : Nat) : ∀ (P : List Tr) (b : Nat), Ris b P → b + (clq r b P).length = endR b P
  | [], b, _ => rfl
  | x :: P, b, h => by
    obtain ⟨h1, h2, h3, h4, h5⟩ := h
    have ih := clq_end r P (x.2.1 + 1) h5
    have he : endR b (x :: P) = endR (x.2.1 + 1) P := by
      unfold endR
      cases P with
      | nil => rfl
      | cons y P => rfl
    rw [he, ← ih]
    show b + (List.replicate (x.1 - b) r ++ (List.replicate (x.2.1 + 1 - x.1) x.2.2 ++ clq r (x.2.1 + 1) P)).length = _
    simp only [List.length_append, List.length_replicate]
    omega
theorem fil_snoc_no {r : Nat} {L : List Tr} {g : Tr} (h : g.2.2 = r) : fil r (L ++ [g]) = fil r L := by rw [fil_app, fil_one_no h, List.append_nil]
theorem fil_snoc_yes {r : Nat} {L : List Tr} {g : Tr} (h : g.2.2 ≠ r) : fil r (L ++ [g]) = fil r L ++ [g] := by rw [fil_app, fil_one_yes h]
theorem back_all (r : Nat) : ∀ (n : Nat) (C : List Nat), C.length = n → n ≤ 1114112 → (∀ c ∈ C, c < 256) → clq r 0 (fil r (rlA 0 [] C)) ++ List.replicate (n - (clq r 0 (fil r (rlA 0 [] C))).length) r = C ∧ (clq r 0 (fil r (rlA 0 [] C))).length ≤ n
  | 0, C, h, _, _ => by
    have : C = [] := List.length_eq_zero_iff.1 h
    subst this
    exact ⟨rfl, Nat.le_refl _⟩
  | n + 1, C, h, hn, hc => by
    rcases List.eq_nil_or_concat C with rfl | ⟨D, c, rfl⟩
    · simp at h
    · rw [List.concat_eq_append] at h hc ⊢
      have hl : D.length = n := by simpa using h
      have hcD : ∀ x ∈ D, x < 256 := fun x hx => hc x (by simp [hx])
      obtain ⟨ih, ihl⟩ := back_all r n D hl (by omega) hcD
      obtain ⟨hR, hE⟩ := rlA_ris n D hl (by omega) hcD
      have hfR := ris_fil r _ 0 hR
      have hfe := clq_end r _ 0 hfR
      rw [rlA_snoc, Nat.zero_add, hl]
      have key : ∀ k, k ≤ n → List.replicate (n + 1 - k) r = List.replicate (n - k) r ++ [r] := fun k hk => by
        rw [show n + 1 - k = (n - k) + 1 by omega, List.replicate_succ']
      rcases List.eq_nil_or_concat (rlA 0 [] D) with h2 | ⟨Q, z, h2⟩
      · have hn0 : n = 0 := by rw [h2] at hE; exact hE.symm
        subst hn0
        have hD0 : D = [] := List.length_eq_zero_iff.1 hl
        subst hD0
        rw [h2, jn_nil]
        by_cases hcr : c = r
        · have e : fil r [((0 : Nat), (0 : Nat), c)] = [] := fil_one_no hcr
          rw [e, hcr]; exact ⟨rfl, Nat.zero_le _⟩
        · have e : fil r [((0 : Nat), (0 : Nat), c)] = [(0, 0, c)] := fil_one_yes hcr
          rw [e]; exact ⟨rfl, Nat.le_refl _⟩
      · rw [List.concat_eq_append] at h2
        rw [h2] at ih ihl hR hE hfR hfe ⊢
        rw [endR_snoc] at hE
        obtain ⟨a1, a2, a3, a4, a5⟩ := (ris_snoc Q 0 z).1 hR
        rw [jn_snoc]
        by_cases hzc : z.2.2 = c
        · rw [if_pos hzc]
          by_cases hcr : c = r
          · have e1 : fil r (Q ++ [(z.1, n, c)]) = fil r Q := fil_snoc_no hcr
            have e2 : fil r (Q ++ [z]) = fil r Q := fil_snoc_no (hzc.trans hcr)
            rw [e2] at ih ihl
            rw [e1]
            refine ⟨?_, by omega⟩
            rw [key _ ihl, ← List.append_assoc, ih, hcr]
          · have e1 : fil r (Q ++ [(z.1, n, c)]) = fil r Q ++ [(z.1, n, c)] := fil_snoc_yes hcr
            have e2 : fil r (Q ++ [z]) = fil r Q ++ [z] := fil_snoc_yes (by rw [hzc]; exact hcr)
            rw [e2] at ih ihl hfe hfR
            rw [e1]
            have hqe := clq_end r (fil r Q) 0 (ris_fil r Q 0 a1)
            have hqz := (ris_snoc (fil r Q) 0 z).1 hfR
            rw [clq_snoc] at ih ihl ⊢
            simp only [List.length_append, List.length_replicate] at ih ihl ⊢
            have hz0 : n - ((clq r 0 (fil r Q)).length + (z.1 - endR 0 (fil r Q) + (z.2.1 + 1 - z.1))) = 0 := by omega
            rw [hz0, List.replicate_zero, List.append_nil] at ih
            refine ⟨?_, by omega⟩
            rw [show n + 1 - ((clq r 0 (fil r Q)).length + (z.1 - endR 0 (fil r Q) + (n + 1 - z.1))) = 0 by omega, List.replicate_zero, List.append_nil]
            rw [← ih, show n + 1 - z.1 = (z.2.1 + 1 - z.1) + 1 by omega, List.replicate_succ', hzc]
            simp only [List.append_assoc]
        · rw [if_neg hzc, show Q ++ [z, (n, n, c)] = (Q ++ [z]) ++ [(n, n, c)] by simp]
          by_cases hcr : c = r
          · have e1 : fil r ((Q ++ [z]) ++ [(n, n, c)]) = fil r (Q ++ [z]) := fil_snoc_no hcr
            rw [e1]
            refine ⟨?_, by omega⟩
            rw [key _ ihl, ← List.append_assoc, ih, hcr]
          · have e1 : fil r ((Q ++ [z]) ++ [(n, n, c)]) = fil r (Q ++ [z]) ++ [(n, n, c)] := fil_snoc_yes hcr
            rw [e1, clq_snoc]
            simp only [List.length_append, List.length_replicate]
            refine ⟨?_, by omega⟩
            rw [show n + 1 - ((clq r 0 (fil r (Q ++ [z]))).length + (n - endR 0 (fil r (Q ++ [z])) + (n + 1 - n))) = 0 by omega, List.replicate_zero, List.append_nil]
            rw [show n - endR 0 (fil r (Q ++ [z])) = n - (clq r 0 (fil r (Q ++ [z]))).length by omega, ← List.append_assoc, ih, show n + 1 - n = 1 by omega]
            rfl
theorem clA_rgs (r : Nat) (C : List Nat) (h : C.length = 1114112) (hc : ∀ c ∈ C, c < 256) : clA r (rgs r C) = C := (back_all r 1114112 C h (Nat.le_refl _) hc).1
/-! All counts. -/
def cb (k : Nat) (C : List Nat) : Nat := C.countP fun c => decide (c < k)
theorem cb_next (k : Nat) : ∀ C : List Nat, cb (k + 1) C = cb k C + cz (k : Int) C
  | [] => rfl
  | c :: C => by
    have ih := cb_next k C
    unfold cb cz at ih ⊢
    rw [List.countP_cons, List.countP_cons, List.countP_cons, ih]
    by_cases h1 : c < k
    · have e1 : decide (c < k + 1) = true := decide_eq_true (by omega)
      have e2 : decide (c < k) = true := decide_eq_true h1
      have e3 : decide ((c : Int) = (k : Int)) = false := decide_eq_false (by omega)
      rw [e1, e2, e3]; simp; omega
    · by_cases h2 : c = k
      · have e1 : decide (c < k + 1) = true := decide_eq_true (by omega)
        have e2 : decide (c < k) = false := decide_eq_false h1
        have e3 : decide ((c : Int) = (k : Int)) = true := decide_eq_true (by omega)
        rw [e1, e2, e3]; simp; omega
      · have e1 : decide (c < k + 1) = false := decide_eq_false (by omega)
        have e2 : decide (c < k) = false := decide_eq_false h1
        have e3 : decide ((c : Int) = (k : Int)) = false := decide_eq_false (by omega)
        rw [e1, e2, e3]; simp
theorem cb_zero (C : List Nat) : cb 0 C = 0 := by unfold cb; simp
theorem cb_all (C : List Nat) (h : ∀ c ∈ C, c < 256) : cb 256 C = C.length := by
  unfold cb
  rw [List.countP_eq_length]
  intro c hc
  exact decide_eq_true (h c hc)
end Go.Proofs.Ytljlhlcoaajggaa
/- The document's normal form of rising ranges is the ranges of their table. -/
namespace Go.Proofs.Ytljlhlcoaajggaa

/-- A range behind others: it makes the last one longer, if that ends right ahead of it and has its class. -/
def jA (o : List Tr) (g : Tr) : List Tr := match o.getLast? with
  | some z => if z.2.1 + 1 = g.1 ∧ z.2.2 = g.2.2 then o.dropLast ++ [(z.1, g.2.1, z.2.2)] else o ++ [g]
  | none => [g]
theorem jA_nil (g : Tr) : jA [] g = [g] := rfl
theorem jA_snoc (Q : List Tr) (z g : Tr) : jA (Q ++ [z]) g = if z.2.1 + 1 = g.1 ∧ z.2.2 = g.2.2 then Q ++ [(z.1, g.2.1, z.2.2)] else Q ++ [z, g] := by
  have h : (Q ++ [z]).getLast? = some z := by simp
  unfold jA
  rw [h]
  dsimp only
  rw [List.dropLast_concat]
  split
  · rfl
  · simp
/-- The document's normal form. -/
def nrA (r : Nat) : List Tr → List Tr → List Tr
  | o, [] => o
  | o, g :: A => if g.2.2 = r then nrA r o A else nrA r (jA o g) A
theorem nrA_snoc (r : Nat) : ∀ (A : List Tr) (o : List Tr) (g : Tr), nrA r o (A ++ [g]) = if g.2.2 = r then nrA r o A else jA (nrA r o A) g
  | [], o, g => rfl
  | x :: A, o, g => by
    show (if x.2.2 = r then nrA r o (A ++ [g]) else nrA r (jA o x) (A ++ [g])) = _
    have e : nrA r o (x :: A) = if x.2.2 = r then nrA r o A else nrA r (jA o x) A := rfl
    rw [e]
    split
    · exact nrA_snoc r A o g
    · exact nrA_snoc r A (jA o x) g
theorem fil_jn (r : Nat) (R : List Tr) (x : Tr) (h : x.2.2 = r) : fil r (jn R x) = fil r R := by
  rcases List.eq_nil_or_concat R with rfl | ⟨Q, z, rfl⟩
  · rw [jn_nil]; exact fil_one_no h
  · rw [List.concat_eq_append, jn_snoc]
    split
    · rename_i hz
      rw [fil_snoc_no (show ((z.1, x.2.1, x.2.2) : Tr).2.2 = r from h), fil_snoc_no (hz.trans h)]
    · rw [show Q ++ [z, x] = (Q ++ [z]) ++ [x] by simp, fil_snoc_no h]
theorem endR_le {L : List Tr} {b : Nat} (h : Ris b L) : ∀ x ∈ L, x.2.1 + 1 ≤ endR b L := by
  intro x hx
  rcases List.eq_nil_or_concat L with rfl | ⟨Q, z, rfl⟩
  · cases hx
  · rw [List.concat_eq_append] at h hx ⊢
    rw [endR_snoc]
    rcases List.mem_append.1 hx with hx | hx
    · have h1 := (ris_snoc Q b z).1 h
      have h2 := endR_le (L := Q) h1.1 x hx
      omega
    · simp at hx; rw [hx]; exact Nat.le_refl _
  termination_by L.length
  decreasing_by simp_all
theorem fil_mem {r : Nat} {L : List Tr} {x : Tr} (h : x ∈ fil r L) : x ∈ L := by
  unfold fil at h
  exact (List.mem_filter.1 h).1
/-- What is appended: the last of o does not end right ahead of g. -/
theorem jA_far (o : List Tr) (g : Tr) (h : ∀ x ∈ o, x.2.1 + 1 < g.1) : jA o g = o ++ [g] := by
  rcases List.eq_nil_or_concat o with rfl | ⟨Q, z, rfl⟩
  · rfl
  · rw [List.concat_eq_append] at h ⊢
    rw [jA_snoc, if_neg (fun hc => by have := h z (by simp); omega)]
    simp
theorem jn_gap (R : List Tr) (b k c : Nat) (hk : 0 < k) : rlA b R (List.replicate k c) = jn R (b, b + (k - 1), c) := by
  obtain ⟨j, rfl⟩ : ∃ j, k = j + 1 := ⟨k - 1, by omega⟩
  rw [rlA_rep]; rfl
theorem clq_256 (r : Nat) (A : List Tr) (hr : r < 256) (h : Ris 0 A) : ∀ c ∈ clq r 0 A, c < 256 := fun c hc => clA_256 r A hr h c (by unfold clA; exact List.mem_append_left _ hc)
theorem nrA_eq (r : Nat) (hr : r < 256) : ∀ (n : Nat) (A : List Tr), A.length = n → Ris 0 A → nrA r [] A = fil r (rlA 0 [] (clq r 0 A))
  | 0, A, h, _ => by
    have : A = [] := List.length_eq_zero_iff.1 h
    subst this; rfl
  | n + 1, A, h, hR => by
    rcases List.eq_nil_or_concat A with rfl | ⟨P, g, rfl⟩
    · simp at h
    · rw [List.concat_eq_append] at h hR ⊢
      have hl : P.length = n := by simpa using h
      obtain ⟨hP, he, hg1, hg2, hg3⟩ := (ris_snoc P 0 g).1 hR
      have ih := nrA_eq r hr n P hl hP
      have hlen := clq_end r P 0 hP
      rw [Nat.zero_add] at hlen
      have hb := clq_len r P 0 (by omega) hP
      obtain ⟨hLR, hLE⟩ := rlA_ris _ (clq r 0 P) rfl (by omega) (clq_256 r P hr hP)
      rw [nrA_snoc, clq_snoc, rlA_app, rlA_app, Nat.zero_add, hlen, List.length_replicate]
      rw [hlen] at hLE
      rw [jn_gap _ _ (g.2.1 + 1 - g.1) g.2.2 (by omega)]
      rw [show endR 0 P + (g.1 - endR 0 P) = g.1 by omega, show g.1 + (g.2.1 + 1 - g.1 - 1) = g.2.1 by omega]
      obtain ⟨L, hL⟩ : ∃ L, L = rlA 0 [] (clq r 0 P) := ⟨_, rfl⟩
      rw [← hL] at ih hLR hLE ⊢
      obtain ⟨e, hee⟩ : ∃ e, e = endR 0 P := ⟨_, rfl⟩
      rw [← hee] at hLE he ⊢
      have hR1 : fil r (rlA e L (List.replicate (g.1 - e) r)) = fil r L := by
        by_cases hgap : g.1 - e = 0
        · rw [hgap]; rfl
        · rw [jn_gap _ _ _ _ (by omega)]
          exact fil_jn r L _ rfl
      by_cases hc : g.2.2 = r
      · rw [if_pos hc, fil_jn r _ _ hc, hR1, ih]
      · rw [if_neg hc, ih]
        by_cases hgap : g.1 - e = 0
        · have hge : g.1 = e := by omega
          rw [hgap]
          show jA (fil r L) g = fil r (jn L (g.1, g.2.1, g.2.2))
          rcases List.eq_nil_or_concat L with h2 | ⟨Q, z, h2⟩
          · rw [h2]
            show [g] = fil r [g]
            rw [fil_one_yes hc]
          · rw [List.concat_eq_append] at h2
            rw [h2] at hLR hLE ⊢
            rw [endR_snoc] at hLE
            obtain ⟨q1, q2, q3, q4, q5⟩ := (ris_snoc Q 0 z).1 hLR
            rw [jn_snoc]
            by_cases hzc : z.2.2 = g.2.2
            · rw [if_pos hzc, fil_snoc_yes (show ((z.1, g.2.1, g.2.2) : Tr).2.2 ≠ r from hc), fil_snoc_yes (by rw [hzc]; exact hc), jA_snoc, if_pos ⟨by omega, hzc⟩, hzc]
            · rw [if_neg hzc, show Q ++ [z, (g.1, g.2.1, g.2.2)] = (Q ++ [z]) ++ [g] by simp, fil_snoc_yes hc]
              by_cases hzr : z.2.2 = r
              · rw [fil_snoc_no hzr]
                refine jA_far _ _ (fun x hx => ?_)
                have h3 := endR_le q1 x (fil_mem hx)
                omega
              · rw [fil_snoc_yes hzr, jA_snoc, if_neg (fun h => hzc h.2)]
                simp
        · rw [jn_gap _ _ _ _ (by omega)]
          have hfar : jA (fil r L) g = fil r L ++ [g] := jA_far _ _ (fun x hx => by
            have h3 := endR_le hLR x (fil_mem hx)
            omega)
          rw [hfar]
          have hjj : fil r (jn (jn L (e, e + (g.1 - e - 1), r)) (g.1, g.2.1, g.2.2)) = fil r (jn L (e, e + (g.1 - e - 1), r)) ++ [g] := by
            rcases List.eq_nil_or_concat L with h2 | ⟨Q, z, h2⟩
            · rw [h2, jn_nil]
              have := jn_snoc [] (e, e + (g.1 - e - 1), r) (g.1, g.2.1, g.2.2)
              rw [if_neg (fun h => hc h.symm)] at this
              rw [List.nil_append] at this
              rw [this, show ([] : List Tr) ++ [(e, e + (g.1 - e - 1), r), (g.1, g.2.1, g.2.2)] = [(e, e + (g.1 - e - 1), r)] ++ [g] by simp, fil_snoc_yes hc]
            · rw [List.concat_eq_append] at h2
              rw [h2, jn_snoc]
              split
              · rw [jn_snoc, if_neg (fun h => hc h.symm), show Q ++ [(z.1, e + (g.1 - e - 1), r), (g.1, g.2.1, g.2.2)] = (Q ++ [(z.1, e + (g.1 - e - 1), r)]) ++ [g] by simp, fil_snoc_yes hc]
              · rw [show Q ++ [z, (e, e + (g.1 - e - 1), r)] = (Q ++ [z]) ++ [(e, e + (g.1 - e - 1), r)] by simp, jn_snoc, if_neg (fun h => hc h.symm), show (Q ++ [z]) ++ [(e, e + (g.1 - e - 1), r), (g.1, g.2.1, g.2.2)] = ((Q ++ [z]) ++ [(e, e + (g.1 - e - 1), r)]) ++ [g] by simp, fil_snoc_yes hc]
          rw [hjj, fil_jn r L _ rfl]
theorem nrA_rgs (r : Nat) (hr : r < 256) (A : List Tr) (h : Ris 0 A) : nrA r [] A = rgs r (clA r A) := by
  rw [nrA_eq r hr _ A rfl h]
  unfold rgs clA
  rw [rlA_app]
  by_cases hk : 1114112 - (clq r 0 A).length = 0
  · rw [hk]; rfl
  · rw [jn_gap _ _ _ _ (by omega), fil_jn r _ _ rfl]
end Go.Proofs.Ytljlhlcoaajggaa
/- The contracts of class, right and sorted (package kerfref03). -/
namespace Go.Proofs.Ytljlhlcoaajggaa
open Go.RowKit

theorem rclass_any (n : Int) (w : World) :
    Calls Try.prog 40 #[.int .i64 n] w fun e w' => e = .returned (.bool (icl n)) ∧ w' = w := by
  by_cases h0 : 0 ≤ n
  · by_cases h1 : n ≤ 255
    · have HZ := hid (show icl n = true from decide_eq_true (show 0 ≤ n ∧ n ≤ 255 from ⟨h0, h1⟩))
      go_enter Try.func40, Try.ntmps40
      go_wp2
      go_ret
      exact ⟨by rw [HZ.out]; rfl, rfl⟩
    · have HZ := hid (show icl n = false from decide_eq_false (show ¬ (0 ≤ n ∧ n ≤ 255) from fun h => h1 h.2))
      go_enter Try.func40, Try.ntmps40
      go_wp2
      go_ret
      exact ⟨by rw [HZ.out]; rfl, rfl⟩
  · have HZ := hid (show icl n = false from decide_eq_false (show ¬ (0 ≤ n ∧ n ≤ 255) from fun h => h0 h.1))
    go_enter Try.func40, Try.ntmps40
    go_wp2
    go_ret
    exact ⟨by rw [HZ.out]; rfl, rfl⟩
theorem right_any (g : Rk) (w : World) :
    Calls Try.prog 41 #[rkv g] w fun e w' => e = .returned (.bool (okR g)) ∧ Below w.heap.size w w' := by
  obtain ⟨a, b, c⟩ := g
  unfold rkv
  have HB := hid ((Below.refl w.heap.size w).alloc (Nat.le_refl _) (.cells #[.int .i32 a, .int .i32 b, .int .i64 c] 36))
  by_cases h0 : 0 ≤ a
  · by_cases h1 : b ≤ 1114111
    · by_cases h2 : a ≤ b
      · have HZ := hid (show okR (a, b, c) = icl c by
          unfold okR
          rw [decide_eq_true (show 0 ≤ a ∧ b ≤ 1114111 ∧ a ≤ b from ⟨h0, h1, h2⟩), Bool.true_and])
        cases hc : icl c with
        | true =>
          go_enter Try.func41, Try.ntmps41
          go_wp2_with (go_at_call 40; refine (rclass_any _ _).mono ?_; rintro e w2 ⟨rfl, hw2⟩; obtain rfl := hw2.symm; rw [hc])
          go_ret
          exact ⟨by rw [HZ.out, hc]; rfl, HB.out⟩
        | false =>
          go_enter Try.func41, Try.ntmps41
          go_wp2_with (go_at_call 40; refine (rclass_any _ _).mono ?_; rintro e w2 ⟨rfl, hw2⟩; obtain rfl := hw2.symm; rw [hc])
          go_ret
          exact ⟨by rw [HZ.out, hc]; rfl, HB.out⟩
      · have HZ := hid (show okR (a, b, c) = false by
          unfold okR
          rw [decide_eq_false (fun (h : 0 ≤ a ∧ b ≤ 1114111 ∧ a ≤ b) => h2 h.2.2), Bool.false_and])
        go_enter Try.func41, Try.ntmps41
        go_wp2
        go_ret
        exact ⟨by rw [HZ.out]; rfl, HB.out⟩
    · have HZ := hid (show okR (a, b, c) = false by
        unfold okR
        rw [decide_eq_false (fun (h : 0 ≤ a ∧ b ≤ 1114111 ∧ a ≤ b) => h1 h.2.1), Bool.false_and])
      go_enter Try.func41, Try.ntmps41
      go_wp2
      go_ret
      exact ⟨by rw [HZ.out]; rfl, HB.out⟩
  · have HZ := hid (show okR (a, b, c) = false by
      unfold okR
      rw [decide_eq_false (fun (h : 0 ≤ a ∧ b ≤ 1114111 ∧ a ≤ b) => h0 h.1), Bool.false_and])
    go_enter Try.func41, Try.ntmps41
    go_wp2
    go_ret
    exact ⟨by rw [HZ.out]; rfl, HB.out⟩
end Go.Proofs.Ytljlhlcoaajggaa
/- The contract of sorted (package kerfref03). -/
namespace Go.Proofs.Ytljlhlcoaajggaa
open Go.RowKit

theorem srt_snoc : ∀ (l : List Rk) (D : List Tr) (g : Rk), srt D (l ++ [g]) = insR (toT g) (srt D l)
  | [], _, _ => rfl
  | x :: l, D, g => srt_snoc l (insR (toT x) D) g
theorem flt_snoc : ∀ (l : List Rk) (D : List Tr) (i : Nat) (g : Rk), flt D i (l ++ [g]) = none → flt D i l = none ∧ okR g = true ∧ (srt D l).any (fun x => mt x (toT g)) = false
  | [], D, i, g, h => by
    have h' : (if okR g = true then (if D.any (fun x => mt x (toT g)) = true then some (8, i) else flt (insR (toT g) D) (i + 1) []) else some (30, i)) = none := h
    split at h'
    · rename_i hg
      split at h'
      · cases h'
      · rename_i ha
        exact ⟨rfl, hg, eq_false_of_ne_true ha⟩
    · cases h'
  | x :: l, D, i, g, h => by
    have h' : (if okR x = true then (if D.any (fun y => mt y (toT x)) = true then some (8, i) else flt (insR (toT x) D) (i + 1) (l ++ [g])) else some (30, i)) = none := h
    split at h'
    · rename_i hx
      split at h'
      · cases h'
      · rename_i ha
        obtain ⟨h1, h2, h3⟩ := flt_snoc l _ _ g h'
        refine ⟨?_, h2, h3⟩
        unfold flt
        rw [if_pos hx, if_neg ha]
        exact h1
    · cases h'
theorem flt_take (l : List Rk) (h : flt [] 0 l = none) (i : Nat) : flt [] 0 (l.take i) = none := by
  have hF := (flt_fin l).1 h
  refine (flt_fin _).2 ⟨fun g hg => hF.1 g (List.mem_of_mem_take hg), hF.2.sublist (List.take_sublist i l)⟩
theorem srt_len (l : List Rk) : (srt [] l).length = l.length := by
  have := (srt_perm l []).length_eq
  simpa using this
/-- Where a range is laid in: those behind begin behind it. -/
theorem spt_gt {A : List Tr} {g : Tr} (hR : Ris 0 A) (hg : g.1 ≤ g.2.1) (ha : A.any (fun x => mt x g) = false) (k : Nat) (x : Tr) (hk : spt g A ≤ k) (hx : A[k]? = some x) : g.1 < x.1 := by
  have h1 := spt_high g A 0 k x hR hk hx
  have hm := List.mem_of_getElem? hx
  have h2 := ris_mem hR x hm
  have h3 := List.any_eq_false.1 ha x hm
  rcases Nat.lt_or_ge g.2.1 x.1 with h | h
  · omega
  · exact absurd ((mt_yes x g h2.2.1).2 ⟨h1, by omega⟩) h3
theorem spt_le2 {A : List Tr} {g : Tr} (hR : Ris 0 A) (k : Nat) (x : Tr) (hk : k < spt g A) (hx : A[k]? = some x) : x.1 < g.1 := by
  have h1 := spt_low g A k x hk hx
  have h2 := ris_mem hR x (List.mem_of_getElem? hx)
  omega
/-- A row with a hole at k. -/
def HlR (A : List Tr) (k : Nat) (xs : List Value) : Prop := ∃ m : List Value, m.length = 3 ∧ xs = rks (A.take k) ++ m ++ rks (A.drop k)
theorem HlR.start (A : List Tr) (g : Tr) : HlR A A.length (rks A ++ rkc (rkT g)) := ⟨rkc (rkT g), rfl, by
  rw [List.take_of_length_le (Nat.le_refl _), List.drop_of_length_le (Nat.le_refl _)]
  simp [rks]⟩
theorem HlR.move {A : List Tr} {k : Nat} {xs : List Value} (h : HlR A (k + 1) xs) (hk : k < A.length) : HlR A k (lset xs ((k + 1) * 3) (rkc (rkT (A[k]'hk)))) := by
  obtain ⟨m, hm, rfl⟩ := h
  have hl : (rks (A.take (k + 1))).length = (k + 1) * 3 := by rw [rks_len, List.length_take]; omega
  have e1 := lset_mid (rkc (rkT A[k])) (rks (A.take (k + 1))) m (rks (A.drop (k + 1))) hm
  rw [hl] at e1
  rw [e1]
  refine ⟨rkc (rkT A[k]), rfl, ?_⟩
  rw [List.take_succ_eq_append_getElem hk, rks_snoc, List.drop_eq_getElem_cons hk]
  show _ = rks (A.take k) ++ rkc (rkT A[k]) ++ (rkc (rkT A[k]) ++ rks (A.drop (k + 1)))
  simp only [List.append_assoc]
theorem HlR.fill {A : List Tr} {g : Tr} {xs : List Value} (h : HlR A (spt g A) xs) : lset xs (spt g A * 3) (rkc (rkT g)) = rks (insR g A) := by
  obtain ⟨m, hm, rfl⟩ := h
  have hs := spt_le g A
  have hl : (rks (A.take (spt g A))).length = spt g A * 3 := by rw [rks_len, List.length_take]; omega
  have e1 := lset_mid (rkc (rkT g)) (rks (A.take (spt g A))) m (rks (A.drop (spt g A))) hm
  rw [hl] at e1
  rw [e1, insR_eq]
  simp [rks]
theorem HlR.elem {A : List Tr} {k : Nat} {xs : List Value} (h : HlR A (k + 1) xs) (hk : k < A.length) (c : Nat) (v : Value) (hv : (rkc (rkT (A[k]'hk)))[c]? = some v) : xs[k * 3 + c]? = some v := by
  obtain ⟨m, hm, rfl⟩ := h
  have hc : c < 3 := (List.getElem?_eq_some_iff.1 hv).1
  have hl : (rks (A.take k)).length = k * 3 := by rw [rks_len, List.length_take]; omega
  rw [List.take_succ_eq_append_getElem hk, rks_snoc, List.append_assoc, List.append_assoc, List.getElem?_append_right (by omega), hl, show k * 3 + c - k * 3 = c by omega, List.getElem?_append_left hc]
  exact hv

set_option maxHeartbeats 6000000 in
set_option maxRecDepth 100000 in
theorem sorted_any (ao : Option Addr) (ac : Nat) (L : List Rk) (w : World) (ha : RdK w ao L) (hl : L.length ≤ 1000000) (hf : flt [] 0 L = none) :
    Calls Try.prog 43 #[.slice ao L.length ac] w fun e w' => ∃ v', e = .returned v' ∧ w'.ownsRow w.heap.size 36 3 v' L.length (rks (srt [] L)) ∧ Below w.heap.size w w' := by
  obtain ⟨i0, hi36, hz0, hz1, hz2⟩ := info_parts Try.info36
  have HA := hid ha
  have HFL := hid hf
  obtain ⟨n, hn⟩ : ∃ n, n = L.length := ⟨_, rfl⟩
  rw [← hn] at hl ⊢
  have HN := hid hn
  obtain ⟨B, hB⟩ : ∃ B, B = w.heap.size := ⟨_, rfl⟩
  have HBE := hid hB
  rw [← hB]
  clear ha hf hn hB
  go_enter Try.func43, Try.ntmps43
  go_wp2
  go_loopw [4, 3] (fun x y wr => ∃ (i : Nat) (vo : Option Addr) (vc : Nat), x = .int .i64 (i : Int) ∧ y = .slice vo i vc ∧ i ≤ n ∧ Hid (wr.ownsRow B 36 3 (.slice vo i vc) i (rks (srt [] (L.take i)))) ∧ Hid (Below B w wr)) (fun x _ _ => n - (intOf x).toNat)
  case atStart => exact ⟨0, none, 0, rfl, rfl, by omega, World.ownsRow_nil w B 36 3, Below.refl _ _⟩
  case round =>
    obtain ⟨i, vo, vc, rfl, rfl, hi, HO, HB⟩ := hrel
    have hwB : B ≤ wr.heap.size := by have h5 := HBE.out; have h6 := HB.out.size; omega
    by_cases hlt : i < n
    · have hiL : i < L.length := by have h5 := HN.out; omega
      have HRD := hid (show ∀ W, Below B w W → RdK W ao L from fun W hW => HA.out.below (by have h5 := HBE.out; rw [← h5]; exact hW))
      have htk : L.take (i + 1) = L.take i ++ [L[i]] := List.take_succ_eq_append_getElem hiL
      have hft := flt_take L HFL.out (i + 1)
      rw [htk] at hft
      obtain ⟨hf1, hok, hany⟩ := flt_snoc _ _ _ _ hft
      have HRA := hid (srt_ris _ [] 0 trivial hf1)
      have HAL := hid (show (srt [] (L.take i)).length = i by rw [srt_len, List.length_take]; omega)
      have HSN := hid (show srt [] (L.take (i + 1)) = insR (toT L[i]) (srt [] (L.take i)) by rw [htk, srt_snoc])
      obtain ⟨t1, t2, t3⟩ := toT_ok hok
      have hrt := rkT_toT hok
      obtain ⟨a, rfl, hab, a0, a1, a2⟩ := HRD.out wr HB.out i L[i] (List.getElem?_eq_getElem hiL)
      have HAC := hid (show ∀ W, Below B w W → W.cell? (a.add (i * 3)) = some (.int .i32 L[i].1) ∧ W.cell? ⟨(a.add (i * 3)).block, (a.add (i * 3)).off + 1, none⟩ = some (.int .i32 L[i].2.1) ∧ W.cell? ⟨(a.add (i * 3)).block, (a.add (i * 3)).off + 2, none⟩ = some (.int .i64 L[i].2.2) from fun W hW => by
        obtain ⟨a', e, _, c0, c1, c2⟩ := HRD.out W hW i L[i] (List.getElem?_eq_getElem hiL)
        cases e
        exact ⟨c0, c1, c2⟩)
      obtain ⟨A, hA⟩ : ∃ A, A = srt [] (L.take i) := ⟨_, rfl⟩
      obtain ⟨g, hg⟩ : ∃ g, g = toT L[i] := ⟨_, rfl⟩
      rw [← hA] at HO HRA HAL HSN hany
      rw [← hg] at HSN t1 t2 t3 hrt hany
      rw [← hrt] at a0 a1 a2 HAC
      obtain ⟨lo, hh, cl⟩ := g
      dsimp only [rkT] at a0 a1 a2 HAC t1 t2 t3
      have HANY := hid hany
      have HGT := hid (fun k x hk hx => spt_gt (g := (lo, hh, cl)) HRA.out t1 hany k x hk hx)
      have HLT := hid (fun k x hk hx => spt_le2 (g := (lo, hh, cl)) HRA.out k x hk hx)
      have HSP := hid (show spt (lo, hh, cl) A ≤ i by have h5 := spt_le (lo, hh, cl) A; have h6 := HAL.out; omega)
      have i3 : (i : Int) < (n : Int) := by omega
      have i0' : (0 : Int) ≤ (i : Int) := by omega
      have HST := hid (HlR.start A (lo, hh, cl))
      rw [HAL.out] at HST
      clear hA hg htk hft hf1 hok hany hrt
      go_wp2_with (at_builtin; refine wpList_append_lies _ rfl _ _ 25 rfl B 36 i0 (.agg #[.int .i32 0, .int .i32 0, .int .i64 0]) 3 16 Try.underlying25 hi36 hz0 hz1 hz2 rfl (by decide) _ i (rks A) rfl (HO.out.alloc _) ⟨wr.heap.size, 0, none⟩ 1 1 (rkc ((lo : Int), (hh : Int), (cl : Int))) rfl rfl (news_k wr ((lo : Int), (hh : Int), (cl : Int)) 36) (rkc_one _) (by decide) (by unfold maxLen; omega) (by omega) (by simp; omega) (wr.heap.size + 1) (by simp) ?_; intro q qc w1 o1 gr1 hlie1 hlt1)
      have HB1 := hid ((HB.out.alloc hwB (.cells #[.int .i32 (lo : Int), .int .i32 (hh : Int), .int .i64 (cl : Int)] 36)).grown gr1 (by simp; omega) (fun k hk => (HO.out.lt k hk).1))
      have HO1 := hid o1
      clear o1 gr1 hlie1 hlt1 a0 a1 a2 HO
      obtain ⟨S, hS⟩ : ∃ S, S = spt (lo, hh, cl) A := ⟨_, rfl⟩
      rw [← hS] at HGT HLT HSP
      have HSE := hid hS
      have hsp := HSP.out
      clear hS
      go_loopw [5] (fun x wi => ∃ (k : Nat) (xs : List Value), x = .int .i64 (k : Int) ∧ k ≤ i ∧ S ≤ k ∧ Hid (HlR A k xs) ∧ Hid (wi.ownsRow B 36 3 (.slice (some ⟨q, 0, none⟩) (i + 1) qc) (i + 1) xs) ∧ Hid (Below B w wi)) (fun x _ => (intOf x).toNat)
      case atStart => exact ⟨i, _, rfl, by omega, hsp, HST, HO1, HB1⟩
      case round =>
        obtain ⟨k, xs, rfl, hki, hSk, HHL, HOX, HBX⟩ := hrel
        have hxl : xs.length = (i + 1) * 3 := HOX.out.1
        have hql := HOX.out.lt q rfl
        obtain ⟨c0, c1, c2⟩ := HAC.out wr HBX.out
        by_cases hk : S < k
        · obtain ⟨j, hj⟩ : ∃ j, k = j + 1 := ⟨k - 1, by omega⟩
          have hHL : HlR A (j + 1) xs := by rw [← hj]; exact HHL.out
          have HLX := hid (show j ≤ i ∧ S ≤ j by omega)
          have hjA : j < A.length := by have h5 := HAL.out; omega
          have hgt := HGT.out j A[j] (by omega) (List.getElem?_eq_getElem hjA)
          have e0 : wr.cell? ⟨q, j * 3, none⟩ = some (.int .i32 (A[j].1 : Int)) := by rw [HOX.out.cellAt _ (by omega)]; exact hHL.elem hjA 0 _ rfl
          have e1 : wr.cell? ⟨q, j * 3 + 1, none⟩ = some (.int .i32 (A[j].2.1 : Int)) := by rw [HOX.out.cellAt _ (by omega)]; exact hHL.elem hjA 1 _ rfl
          have e2 : wr.cell? ⟨q, j * 3 + 2, none⟩ = some (.int .i64 (A[j].2.2 : Int)) := by rw [HOX.out.cellAt _ (by omega)]; exact hHL.elem hjA 2 _ rfl
          have HMV := hid (hHL.move hjA)
          rw [← hj] at HMV
          obtain ⟨x, hx⟩ : ∃ x, x = A[j] := ⟨_, rfl⟩
          rw [← hx] at e0 e1 e2 HMV hgt
          obtain ⟨x1, x2, x3⟩ := x
          dsimp only at e0 e1 e2 hgt
          obtain ⟨n1, hn1⟩ : ∃ n1, n1 = i + 1 := ⟨_, rfl⟩
          have g1 : (lo : Int) < (x1 : Int) := by omega
          have k1 : (0 : Int) < (k : Int) := by omega
          have k2 : (k : Int) - 1 = (j : Int) := by omega
          have k3 : IntKind.i64.wrap (j : Int) = (j : Int) := by rw [IntKind.wrap_i64]; omega
          have k4 : (j : Int) < (n1 : Int) := by omega
          have k5 : (k : Int) < (n1 : Int) := by omega
          have k6 : (0 : Int) ≤ (j : Int) := by omega
          have k7 : (0 : Int) ≤ (k : Int) := by omega
          have k8 : 0 < k := by omega
          obtain ⟨o2, b2⟩ := own_sets (rkc (rkT (x1, x2, x3))) (k * 3) xs wr HOX.out
          have HWQ := hid (fun nq => (show Below B wr (wr.drewN nq) from below_drewN B wr nq))
          have HTHX := hid (show wr.there q (k * 3) 3 from fun t ht => ⟨by rw [HOX.out.cellAt _ (by omega), List.getElem?_eq_getElem (by omega)]; rfl, HOX.out.frozenAt _⟩)
          have HOXQ := hid HOX.out
          have HJK := hid hj
          clear hx hk hj o2 b2 hHL hsp hxl
          rw [← hn1] at HOX HOXQ ⊢
          have HN1 := hid hn1
          clear hn1
          go_wp2_with fail
          go_quiet (fail)
          have e0W : (wr.drewN nq).cell? ⟨q, j * 3, none⟩ = some (.int .i32 (x1 : Int)) := e0
          have e1W : (wr.drewN nq).cell? ⟨q, j * 3 + 1, none⟩ = some (.int .i32 (x2 : Int)) := e1
          have e2W : (wr.drewN nq).cell? ⟨q, j * 3 + 2, none⟩ = some (.int .i64 (x3 : Int)) := e2
          have HOW := hid (show (wr.drewN nq).ownsRow B 36 3 (.slice (some ⟨q, 0, none⟩) n1 qc) n1 xs from HOX.out)
          have HBW := hid (HBX.out.trans (below_drewN B wr nq))
          have HTW := hid (show (wr.drewN nq).there q (k * 3) 3 from HTHX.out)
          obtain ⟨W, hW⟩ : ∃ W, W = wr.drewN nq := ⟨_, rfl⟩
          rw [← hW] at e0W e1W e2W HOW HBW HTW ⊢
          obtain ⟨o2, b2⟩ := own_sets (rkc (rkT (x1, x2, x3))) (k * 3) xs W HOW.out
          have HO2 := hid o2
          have HB2 := hid (HBW.out.trans b2)
          have HALL := hid (show (#[.int .i32 (x1 : Int), .int .i32 (x2 : Int), .int .i64 (x3 : Int)] : Array Value).all (·.oneCell') = true from all_oneCell_toArray (rkc_one ((x1 : Int), (x2 : Int), (x3 : Int))))
          clear hW e0 e1 e2 o2 b2 c0 c1 c2 HOX HBX HTHX HWQ HOXQ
          go_wp2_with (refine wpList_store_mid rfl 36 _ _ rfl q (k * 3) #[.int .i32 (x1 : Int), .int .i32 (x2 : Int), .int .i64 (x3 : Int)] rfl rfl HTW.out size36 HALL.out ?_)
          go_roundw
          case rel => exact ⟨j, _, rfl, HLX.out.1, HLX.out.2, HMV, HO2, HB2⟩
          case measure => simp [intOf]; have h5 := HJK.out; omega
        · have hkS : k = S := by omega
          subst hkS
          have HTS := hid (show wr.there q (k * 3) 3 from fun t ht => ⟨by rw [HOX.out.cellAt _ (by omega), List.getElem?_eq_getElem (by omega)]; rfl, HOX.out.frozenAt _⟩)
          have hHL := HHL.out
          have hfill : lset xs (k * 3) (rkc (rkT (lo, hh, cl))) = rks (insR (lo, hh, cl) A) := by
            have h5 := HSE.out
            rw [h5] at hHL ⊢
            exact hHL.fill
          rw [← HSN.out] at hfill
          have HFI := hid hfill
          have HALL := hid (show (#[.int .i32 (lo : Int), .int .i32 (hh : Int), .int .i64 (cl : Int)] : Array Value).all (·.oneCell') = true from all_oneCell_toArray (rkc_one ((lo : Int), (hh : Int), (cl : Int))))
          obtain ⟨n1, hn1⟩ : ∃ n1, n1 = i + 1 := ⟨_, rfl⟩
          rw [← hn1] at HOX ⊢
          have HN1 := hid hn1
          have k5 : (k : Int) < (n1 : Int) := by omega
          have k7 : (0 : Int) ≤ (k : Int) := by omega
          have HQQ := hid (fun nq => (show (wr.drewN nq).cell? (a.add (i * 3)) = some (.int .i32 (lo : Int)) ∧ (wr.drewN nq).cell? ⟨(a.add (i * 3)).block, (a.add (i * 3)).off + 1, none⟩ = some (.int .i32 (hh : Int)) ∧ (wr.drewN nq).cell? ⟨(a.add (i * 3)).block, (a.add (i * 3)).off + 2, none⟩ = some (.int .i64 (cl : Int)) from ⟨c0, c1, c2⟩))
          clear hn1 hfill hHL hsp hxl hk hSk
          rcases Nat.eq_zero_or_pos k with h0 | h0
          · have HK0 := hid h0
            have k1 : ¬ (0 : Int) < (k : Int) := by omega
            have k8 : ¬ 0 < k := by omega
            clear h0
            go_wp2_with fail
            go_quiet (fail)
            obtain ⟨z0, z1, z2⟩ := HQQ.out nq
            have HOW := hid (show (wr.drewN nq).ownsRow B 36 3 (.slice (some ⟨q, 0, none⟩) n1 qc) n1 xs from HOX.out)
            have HBW := hid (HBX.out.trans (below_drewN B wr nq))
            have HTW := hid (show (wr.drewN nq).there q (k * 3) 3 from HTS.out)
            obtain ⟨W, hW⟩ : ∃ W, W = wr.drewN nq := ⟨_, rfl⟩
            rw [← hW] at z0 z1 z2 HOW HBW HTW ⊢
            obtain ⟨o2, b2⟩ := own_sets (rkc (rkT (lo, hh, cl))) (k * 3) xs W HOW.out
            rw [HFI.out, HN1.out] at o2
            have HO2 := hid o2
            have HB2 := hid (HBW.out.trans b2)
            clear hW o2 b2 c0 c1 c2 HOX HBX HTS
            go_wp2_with (refine wpList_store_mid rfl 36 _ _ rfl q (k * 3) #[.int .i32 (lo : Int), .int .i32 (hh : Int), .int .i64 (cl : Int)] rfl rfl HTW.out size36 HALL.out ?_)
            go_roundw
            case rel => exact ⟨i + 1, some ⟨q, 0, none⟩, qc, by go_num, by rw [HN1.out], by omega, HO2, HB2⟩
            case measure => simp [intOf]; omega
          · obtain ⟨j, hj⟩ : ∃ j, k = j + 1 := ⟨k - 1, by omega⟩
            have hHL2 : HlR A (j + 1) xs := by rw [← hj]; exact HHL.out
            have hjA : j < A.length := by have h5 := HAL.out; omega
            have hlt2 := HLT.out j A[j] (by omega) (List.getElem?_eq_getElem hjA)
            have e0 : wr.cell? ⟨q, j * 3, none⟩ = some (.int .i32 (A[j].1 : Int)) := by rw [HOX.out.cellAt _ (by have h5 := HN1.out; omega)]; exact hHL2.elem hjA 0 _ rfl
            obtain ⟨x1, hx1⟩ : ∃ x1, x1 = A[j].1 := ⟨_, rfl⟩
            rw [← hx1] at e0 hlt2
            have hlt3 : x1 < lo := hlt2
            have g1 : ¬ (lo : Int) < (x1 : Int) := by omega
            have g2 : ¬ lo < x1 := by omega
            have k1 : (0 : Int) < (k : Int) := by omega
            have k2 : (k : Int) - 1 = (j : Int) := by omega
            have k3 : IntKind.i64.wrap (j : Int) = (j : Int) := by rw [IntKind.wrap_i64]; omega
            have k4 : (j : Int) < (n1 : Int) := by omega
            have k6 : (0 : Int) ≤ (j : Int) := by omega
            have HJK := hid hj
            clear hx1 hHL2 hj hlt2 hlt3
            go_wp2_with fail
            go_quiet (fail)
            obtain ⟨z0, z1, z2⟩ := HQQ.out nq
            have HOW := hid (show (wr.drewN nq).ownsRow B 36 3 (.slice (some ⟨q, 0, none⟩) n1 qc) n1 xs from HOX.out)
            have HBW := hid (HBX.out.trans (below_drewN B wr nq))
            have HTW := hid (show (wr.drewN nq).there q (k * 3) 3 from HTS.out)
            obtain ⟨W, hW⟩ : ∃ W, W = wr.drewN nq := ⟨_, rfl⟩
            rw [← hW] at z0 z1 z2 HOW HBW HTW ⊢
            obtain ⟨o2, b2⟩ := own_sets (rkc (rkT (lo, hh, cl))) (k * 3) xs W HOW.out
            rw [HFI.out, HN1.out] at o2
            have HO2 := hid o2
            have HB2 := hid (HBW.out.trans b2)
            clear hW o2 b2 c0 c1 c2 HOX HBX HTS
            go_wp2_with (refine wpList_store_mid rfl 36 _ _ rfl q (k * 3) #[.int .i32 (lo : Int), .int .i32 (hh : Int), .int .i64 (cl : Int)] rfl rfl HTW.out size36 HALL.out ?_)
            go_roundw
            case rel => exact ⟨i + 1, some ⟨q, 0, none⟩, qc, by go_num, by rw [HN1.out], by omega, HO2, HB2⟩
            case measure => simp [intOf]; omega
    · have i3 : ¬ (i : Int) < (n : Int) := by omega
      have hie : i = n := by omega
      have HTE := hid (show L.take i = L by rw [List.take_of_length_le (by have h5 := HN.out; omega)])
      rw [HTE.out, hie] at HO
      subst hie
      go_wp2
      go_ret
      exact ⟨_, rfl, HO.out, HB.out⟩
end Go.Proofs.Ytljlhlcoaajggaa
/- The contract of normal (package kerfref03). -/
namespace Go.Proofs.Ytljlhlcoaajggaa
open Go.RowKit

theorem ris_take : ∀ (A : List Tr) (b i : Nat), Ris b A → Ris b (A.take i)
  | [], _, _, _ => by simp [Ris]
  | g :: A, b, 0, _ => trivial
  | g :: A, b, i + 1, h => by
    obtain ⟨h1, h2, h3, h4, h5⟩ := h
    exact ⟨h1, h2, h3, h4, ris_take A _ i h5⟩
theorem nrA_ris (r : Nat) (hr : r < 256) (A : List Tr) (h : Ris 0 A) : Ris 0 (nrA r [] A) := by
  rw [nrA_eq r hr _ A rfl h]
  have := clq_len r A 0 (by omega) h
  exact ris_fil r _ 0 (rlA_ris _ (clq r 0 A) rfl (by omega) (clq_256 r A hr h)).1
theorem jA_len (o : List Tr) (g : Tr) : (jA o g).length ≤ o.length + 1 := by
  rcases List.eq_nil_or_concat o with rfl | ⟨Q, z, rfl⟩
  · rw [jA_nil]; simp
  · rw [List.concat_eq_append, jA_snoc]
    split <;> simp
theorem nrA_len (r : Nat) : ∀ (A o : List Tr), (nrA r o A).length ≤ o.length + A.length
  | [], o => by simp [nrA]
  | g :: A, o => by
    show (if g.2.2 = r then nrA r o A else nrA r (jA o g) A).length ≤ _
    have h1 := nrA_len r A o
    have h2 := nrA_len r A (jA o g)
    have h3 := jA_len o g
    rw [List.length_cons]
    split <;> omega

set_option maxHeartbeats 6000000 in
set_option maxRecDepth 100000 in
theorem normal_any (ao : Option Addr) (ac : Nat) (A : List Tr) (r : Nat) (w : World) (ha : RdK w ao (A.map rkT)) (hl : A.length ≤ 1000000) (hr : r < 256) (hR : Ris 0 A) :
    Calls Try.prog 42 #[.slice ao A.length ac, .int .i64 (r : Int)] w fun e w' => ∃ v', e = .returned v' ∧ w'.ownsRow w.heap.size 36 3 v' (nrA r [] A).length (rks (nrA r [] A)) ∧ Below w.heap.size w w' := by
  obtain ⟨i0, hi36, hz0, hz1, hz2⟩ := info_parts Try.info36
  have HA := hid ha
  have HR := hid hR
  obtain ⟨n, hn⟩ : ∃ n, n = A.length := ⟨_, rfl⟩
  rw [← hn] at hl ⊢
  have HN := hid hn
  obtain ⟨B, hB⟩ : ∃ B, B = w.heap.size := ⟨_, rfl⟩
  have HBE := hid hB
  rw [← hB]
  clear ha hR hn hB
  go_enter Try.func42, Try.ntmps42
  go_wp2
  go_loopw [6, 5] (fun x y wr => ∃ (i m : Nat) (vo : Option Addr) (vc : Nat), x = .int .i64 (i : Int) ∧ y = .slice vo m vc ∧ i ≤ n ∧ Hid (m = (nrA r [] (A.take i)).length) ∧ Hid (wr.ownsRow B 36 3 (.slice vo m vc) m (rks (nrA r [] (A.take i)))) ∧ Hid (Below B w wr)) (fun x _ _ => n - (intOf x).toNat)
  case atStart => exact ⟨0, 0, none, 0, rfl, rfl, by omega, rfl, World.ownsRow_nil w B 36 3, Below.refl _ _⟩
  case round =>
    obtain ⟨i, m, vo, vc, rfl, rfl, hi, HM, HO, HB⟩ := hrel
    have hwB : B ≤ wr.heap.size := by have h5 := HBE.out; have h6 := HB.out.size; omega
    by_cases hlt : i < n
    · have hiA : i < A.length := by have h5 := HN.out; omega
      have HAC := hid (show ∀ W, Below B w W → ∃ a : Addr, ao = some a ∧ W.cell? (a.add (i * 3)) = some (.int .i32 (A[i].1 : Int)) ∧ W.cell? ⟨(a.add (i * 3)).block, (a.add (i * 3)).off + 1, none⟩ = some (.int .i32 (A[i].2.1 : Int)) ∧ W.cell? ⟨(a.add (i * 3)).block, (a.add (i * 3)).off + 2, none⟩ = some (.int .i64 (A[i].2.2 : Int)) from fun W hW => by
        obtain ⟨a, e, _, c0, c1, c2⟩ := HA.out.below (show Below w.heap.size w W by have h5 := HBE.out; rw [← h5]; exact hW) i (rkT A[i]) (by rw [List.getElem?_map, List.getElem?_eq_getElem hiA]; rfl)
        exact ⟨a, e, c0, c1, c2⟩)
      have HSN := hid (show nrA r [] (A.take (i + 1)) = if A[i].2.2 = r then nrA r [] (A.take i) else jA (nrA r [] (A.take i)) A[i] by rw [List.take_succ_eq_append_getElem hiA, nrA_snoc])
      have HRO := hid (nrA_ris r hr _ (ris_take A 0 i HR.out))
      have hml : m ≤ 1000000 := by
        have h5 := nrA_len r (A.take i) []
        rw [List.length_take] at h5
        have h6 := HM.out
        simp at h5; omega
      obtain ⟨a, rfl, c0, c1, c2⟩ := HAC.out wr HB.out
      obtain ⟨h1, h2, h3, h4⟩ := ris_mem HR.out A[i] (List.getElem_mem hiA)
      obtain ⟨g, hg⟩ : ∃ g, g = A[i] := ⟨_, rfl⟩
      rw [← hg] at c0 c1 c2 HSN h1 h2 h3 h4
      obtain ⟨o, ho⟩ : ∃ o, o = nrA r [] (A.take i) := ⟨_, rfl⟩
      rw [← ho] at HM HO HSN HRO
      obtain ⟨lo, hh, cl⟩ := g
      dsimp only at c0 c1 c2 h1 h2 h3 h4
      have i3 : (i : Int) < (n : Int) := by omega
      have i0' : (0 : Int) ≤ (i : Int) := by omega
      clear hg ho HAC h1
      by_cases hc : cl = r
      · have hc' : ((cl : Int) == (r : Int)) = true := by simp; omega
        rw [if_pos (show ((lo, hh, cl) : Tr).2.2 = r from hc)] at HSN
        rw [← HSN.out] at HM HO
        clear hc
        go_wp2
        go_roundw
        case rel => exact ⟨i + 1, m, vo, vc, by go_num, rfl, by omega, HM, HO, HB⟩
        case measure => simp [intOf]; omega
      · have hc' : ((cl : Int) == (r : Int)) = false := by simp; omega
        rw [if_neg (show ¬ ((lo, hh, cl) : Tr).2.2 = r from hc)] at HSN
        clear hc
        rcases List.eq_nil_or_concat o with h0 | ⟨Q, z, h0⟩
        · have hm0 : m = 0 := by have h5 := HM.out; rw [h0] at h5; exact h5
          subst hm0
          rw [h0] at HO HSN
          rw [jA_nil] at HSN
          clear h0 HM HRO
          go_wp2_with fail
          go_quiet (fail)
          have d0 : (wr.drewN nq).cell? (a.add (i * 3)) = some (.int .i32 (lo : Int)) := c0
          have d1 : (wr.drewN nq).cell? ⟨(a.add (i * 3)).block, (a.add (i * 3)).off + 1, none⟩ = some (.int .i32 (hh : Int)) := c1
          have d2 : (wr.drewN nq).cell? ⟨(a.add (i * 3)).block, (a.add (i * 3)).off + 2, none⟩ = some (.int .i64 (cl : Int)) := c2
          have HOW := hid (show (wr.drewN nq).ownsRow B 36 3 (.slice vo 0 vc) 0 (rks []) from HO.out)
          have HBW := hid (HB.out.trans (below_drewN B wr nq))
          obtain ⟨W, hW⟩ : ∃ W, W = wr.drewN nq := ⟨_, rfl⟩
          rw [← hW] at d0 d1 d2 HOW HBW ⊢
          have hwW : B ≤ W.heap.size := by have h5 := HBE.out; have h6 := HBW.out.size; omega
          clear hW c0 c1 c2 HO HB
          go_wp2_with (at_builtin; refine wpList_append_lies _ rfl _ _ 25 rfl B 36 i0 (.agg #[.int .i32 0, .int .i32 0, .int .i64 0]) 3 16 Try.underlying25 hi36 hz0 hz1 hz2 rfl (by decide) _ 0 (rks []) rfl (HOW.out.alloc _) ⟨W.heap.size, 0, none⟩ 1 1 (rkc ((lo : Int), (hh : Int), (cl : Int))) rfl rfl (news_k W ((lo : Int), (hh : Int), (cl : Int)) 36) (rkc_one _) (by decide) (by unfold maxLen; omega) (by omega) (by simp; omega) (W.heap.size + 1) (by simp) ?_; intro q2 c2' w2 o2 gr2 hl2 hlt2)
          have HB2 := hid ((HBW.out.alloc hwW (.cells #[.int .i32 (lo : Int), .int .i32 (hh : Int), .int .i64 (cl : Int)] 36)).grown gr2 (by simp; omega) (fun k hk => (HOW.out.lt k hk).1))
          have HO2 := hid (show w2.ownsRow B 36 3 (.slice (some ⟨q2, 0, none⟩) (0 + 1) c2') (0 + 1) (rks (nrA r [] (A.take (i + 1)))) by rw [HSN.out, show rks [(lo, hh, cl)] = rks [] ++ rkc ((lo : Int), (hh : Int), (cl : Int)) by simp [rks, rkT]]; exact o2)
          have HM2 := hid (show 0 + 1 = (nrA r [] (A.take (i + 1))).length by rw [HSN.out]; rfl)
          clear o2 gr2 hl2 hlt2
          go_roundw
          case rel => exact ⟨i + 1, 0 + 1, some ⟨q2, 0, none⟩, c2', by go_num, rfl, by omega, HM2, HO2, HB2⟩
          case measure => simp [intOf]; omega
        · rw [List.concat_eq_append] at h0
          have hmQ : m = Q.length + 1 := by have h5 := HM.out; rw [h0] at h5; simpa using h5
          rw [h0] at HO HSN HRO
          rw [jA_snoc] at HSN
          obtain ⟨y1, y2, y3, y4⟩ := ris_mem HRO.out z (by simp)
          obtain ⟨q, cap', hve, hqB, hqw⟩ := HO.out.form (by omega)
          cases hve
          obtain ⟨k, hk⟩ : ∃ k, k = Q.length := ⟨_, rfl⟩
          have e1 : wr.cell? ⟨q, k * 3 + 1, none⟩ = some (.int .i32 (z.2.1 : Int)) := by rw [hk, HO.out.cellAt _ (by omega)]; exact rks_at Q z 1 _ rfl
          have e2 : wr.cell? ⟨q, k * 3 + 2, none⟩ = some (.int .i64 (z.2.2 : Int)) := by rw [hk, HO.out.cellAt _ (by omega)]; exact rks_at Q z 2 _ rfl
          have k0 : (0 : Int) < (m : Int) := by omega
          have kN : 0 < m := by omega
          have k1 : (m : Int) - 1 = (k : Int) := by omega
          have k2 : IntKind.i64.wrap (k : Int) = (k : Int) := by rw [IntKind.wrap_i64]; omega
          have k3 : (k : Int) < (m : Int) := by omega
          have k4 : (0 : Int) ≤ (k : Int) := by omega
          have HKQ := hid hk
          have HMQ := hid hmQ
          obtain ⟨zl, zh, zc⟩ := z
          dsimp only at e1 e2 y1 y2 y3 y4
          have k5 : IntKind.i32.wrap ((zh : Int) + 1) = ((zh + 1 : Nat) : Int) := by rw [IntKind.wrap_i32]; omega
          clear h0 hk hmQ HM HRO
          by_cases hadj : zh + 1 = lo
          · by_cases hcls : zc = cl
            · have t1 : (((zh + 1 : Nat) : Int) == (lo : Int)) = true := by simp; omega
              have t2 : ((zc : Int) == (cl : Int)) = true := by simp; omega
              rw [if_pos (show ((zl, zh, zc) : Tr).2.1 + 1 = ((lo, hh, cl) : Tr).1 ∧ ((zl, zh, zc) : Tr).2.2 = ((lo, hh, cl) : Tr).2.2 from ⟨hadj, hcls⟩)] at HSN
              have t3 : ((zh : Int) + 1 == (lo : Int)) = true := by simp; omega
              have HAD := hid hadj
              have HCL := hid hcls
              clear hadj hcls
              go_wp2_with fail
              go_quiet (fail)
              have d0 : (wr.drewN nq).cell? (a.add (i * 3)) = some (.int .i32 (lo : Int)) := c0
              have d1 : (wr.drewN nq).cell? ⟨(a.add (i * 3)).block, (a.add (i * 3)).off + 1, none⟩ = some (.int .i32 (hh : Int)) := c1
              have d2 : (wr.drewN nq).cell? ⟨(a.add (i * 3)).block, (a.add (i * 3)).off + 2, none⟩ = some (.int .i64 (cl : Int)) := c2
              have HOW := hid (show (wr.drewN nq).ownsRow B 36 3 (.slice (some ⟨q, 0, none⟩) m vc) m (rks (Q ++ [(zl, zh, zc)])) from HO.out)
              have HBW := hid (HB.out.trans (below_drewN B wr nq))
              have x1 : (wr.drewN nq).cell? ⟨q, k * 3 + 1, none⟩ = some (.int .i32 (zh : Int)) := e1
              obtain ⟨W, hW⟩ : ∃ W, W = wr.drewN nq := ⟨_, rfl⟩
              rw [← hW] at d0 d1 d2 HOW HBW x1 ⊢
              have fz : W.frozen? ⟨q, k * 3 + 1, none⟩ = false := HOW.out.frozenAt _
              have HO2 := hid (show (W.setCell ⟨q, k * 3 + 1, none⟩ (.int .i32 (hh : Int))).ownsRow B 36 3 (.slice (some ⟨q, 0, none⟩) m vc) m (rks (nrA r [] (A.take (i + 1)))) by
                have h5 := (HOW.out.stored (k * 3 + 1) (.int .i32 (hh : Int))).1
                rw [HKQ.out, rks_set] at h5
                rw [HSN.out, HKQ.out]
                exact h5)
              have HB2 := hid (HBW.out.setCell (p := ⟨q, k * 3 + 1, none⟩) hqB (.int .i32 (hh : Int)))
              have HM2 := hid (show m = (nrA r [] (A.take (i + 1))).length by rw [HSN.out, HMQ.out]; simp)
              clear hW c0 c1 c2 HO HB e1 e2
              go_wp2
              go_roundw
              case rel => exact ⟨i + 1, m, some ⟨q, 0, none⟩, vc, by go_num, rfl, by omega, HM2, HO2, HB2⟩
              case measure => simp [intOf]; omega
            · have t3 : ((zh : Int) + 1 == (lo : Int)) = true := by simp; omega
              have t2 : ((zc : Int) == (cl : Int)) = false := by simp; omega
              rw [if_neg (show ¬ (((zl, zh, zc) : Tr).2.1 + 1 = ((lo, hh, cl) : Tr).1 ∧ ((zl, zh, zc) : Tr).2.2 = ((lo, hh, cl) : Tr).2.2) from fun h => hcls h.2)] at HSN
              clear hadj hcls
              go_wp2_with fail
              go_quiet (fail)
              have d0 : (wr.drewN nq).cell? (a.add (i * 3)) = some (.int .i32 (lo : Int)) := c0
              have d1 : (wr.drewN nq).cell? ⟨(a.add (i * 3)).block, (a.add (i * 3)).off + 1, none⟩ = some (.int .i32 (hh : Int)) := c1
              have d2 : (wr.drewN nq).cell? ⟨(a.add (i * 3)).block, (a.add (i * 3)).off + 2, none⟩ = some (.int .i64 (cl : Int)) := c2
              have HOW := hid (show (wr.drewN nq).ownsRow B 36 3 (.slice (some ⟨q, 0, none⟩) m vc) m (rks (Q ++ [(zl, zh, zc)])) from HO.out)
              have HBW := hid (HB.out.trans (below_drewN B wr nq))
              obtain ⟨W, hW⟩ : ∃ W, W = wr.drewN nq := ⟨_, rfl⟩
              rw [← hW] at d0 d1 d2 HOW HBW ⊢
              have hwW : B ≤ W.heap.size := by have h5 := HBE.out; have h6 := HBW.out.size; omega
              clear hW c0 c1 c2 HO HB e1 e2
              go_wp2_with (at_builtin; refine wpList_append_lies _ rfl _ _ 25 rfl B 36 i0 (.agg #[.int .i32 0, .int .i32 0, .int .i64 0]) 3 16 Try.underlying25 hi36 hz0 hz1 hz2 rfl (by decide) _ m (rks (Q ++ [(zl, zh, zc)])) rfl (HOW.out.alloc _) ⟨W.heap.size, 0, none⟩ 1 1 (rkc ((lo : Int), (hh : Int), (cl : Int))) rfl rfl (news_k W ((lo : Int), (hh : Int), (cl : Int)) 36) (rkc_one _) (by decide) (by unfold maxLen; omega) (by omega) (by simp; omega) (W.heap.size + 1) (by simp) ?_; intro q2 c2' w2 o2 gr2 hl2 hlt2)
              have HB2 := hid ((HBW.out.alloc hwW (.cells #[.int .i32 (lo : Int), .int .i32 (hh : Int), .int .i64 (cl : Int)] 36)).grown gr2 (by simp; omega) (fun k hk => (HOW.out.lt k hk).1))
              have HO2 := hid (show w2.ownsRow B 36 3 (.slice (some ⟨q2, 0, none⟩) (m + 1) c2') (m + 1) (rks (nrA r [] (A.take (i + 1)))) by
                rw [HSN.out, show Q ++ [(zl, zh, zc), (lo, hh, cl)] = (Q ++ [(zl, zh, zc)]) ++ [(lo, hh, cl)] by simp, rks_snoc (Q ++ [(zl, zh, zc)])]
                exact o2)
              have HM2 := hid (show m + 1 = (nrA r [] (A.take (i + 1))).length by rw [HSN.out, HMQ.out]; simp)
              clear o2 gr2 hl2 hlt2
              go_roundw
              case rel => exact ⟨i + 1, m + 1, some ⟨q2, 0, none⟩, c2', by go_num, rfl, by omega, HM2, HO2, HB2⟩
              case measure => simp [intOf]; omega
          · have t3 : ((zh : Int) + 1 == (lo : Int)) = false := by simp; omega
            rw [if_neg (show ¬ (((zl, zh, zc) : Tr).2.1 + 1 = ((lo, hh, cl) : Tr).1 ∧ ((zl, zh, zc) : Tr).2.2 = ((lo, hh, cl) : Tr).2.2) from fun h => hadj h.1)] at HSN
            clear hadj
            go_wp2_with fail
            go_quiet (fail)
            have d0 : (wr.drewN nq).cell? (a.add (i * 3)) = some (.int .i32 (lo : Int)) := c0
            have d1 : (wr.drewN nq).cell? ⟨(a.add (i * 3)).block, (a.add (i * 3)).off + 1, none⟩ = some (.int .i32 (hh : Int)) := c1
            have d2 : (wr.drewN nq).cell? ⟨(a.add (i * 3)).block, (a.add (i * 3)).off + 2, none⟩ = some (.int .i64 (cl : Int)) := c2
            have HOW := hid (show (wr.drewN nq).ownsRow B 36 3 (.slice (some ⟨q, 0, none⟩) m vc) m (rks (Q ++ [(zl, zh, zc)])) from HO.out)
            have HBW := hid (HB.out.trans (below_drewN B wr nq))
            obtain ⟨W, hW⟩ : ∃ W, W = wr.drewN nq := ⟨_, rfl⟩
            rw [← hW] at d0 d1 d2 HOW HBW ⊢
            have hwW : B ≤ W.heap.size := by have h5 := HBE.out; have h6 := HBW.out.size; omega
            clear hW c0 c1 c2 HO HB e1 e2
            go_wp2_with (at_builtin; refine wpList_append_lies _ rfl _ _ 25 rfl B 36 i0 (.agg #[.int .i32 0, .int .i32 0, .int .i64 0]) 3 16 Try.underlying25 hi36 hz0 hz1 hz2 rfl (by decide) _ m (rks (Q ++ [(zl, zh, zc)])) rfl (HOW.out.alloc _) ⟨W.heap.size, 0, none⟩ 1 1 (rkc ((lo : Int), (hh : Int), (cl : Int))) rfl rfl (news_k W ((lo : Int), (hh : Int), (cl : Int)) 36) (rkc_one _) (by decide) (by unfold maxLen; omega) (by omega) (by simp; omega) (W.heap.size + 1) (by simp) ?_; intro q2 c2' w2 o2 gr2 hl2 hlt2)
            have HB2 := hid ((HBW.out.alloc hwW (.cells #[.int .i32 (lo : Int), .int .i32 (hh : Int), .int .i64 (cl : Int)] 36)).grown gr2 (by simp; omega) (fun k hk => (HOW.out.lt k hk).1))
            have HO2 := hid (show w2.ownsRow B 36 3 (.slice (some ⟨q2, 0, none⟩) (m + 1) c2') (m + 1) (rks (nrA r [] (A.take (i + 1)))) by
              rw [HSN.out, show Q ++ [(zl, zh, zc), (lo, hh, cl)] = (Q ++ [(zl, zh, zc)]) ++ [(lo, hh, cl)] by simp, rks_snoc (Q ++ [(zl, zh, zc)])]
              exact o2)
            have HM2 := hid (show m + 1 = (nrA r [] (A.take (i + 1))).length by rw [HSN.out, HMQ.out]; simp)
            clear o2 gr2 hl2 hlt2
            go_roundw
            case rel => exact ⟨i + 1, m + 1, some ⟨q2, 0, none⟩, c2', by go_num, rfl, by omega, HM2, HO2, HB2⟩
            case measure => simp [intOf]; omega
    · have i3 : ¬ (i : Int) < (n : Int) := by omega
      have HTE := hid (show A.take i = A by rw [List.take_of_length_le (by have h5 := HN.out; omega)])
      rw [HTE.out] at HO HM
      have HM2 := hid HM.out
      go_wp2
      go_ret
      exact ⟨_, rfl, by rw [← HM2.out]; exact HO.out, HB.out⟩
end Go.Proofs.Ytljlhlcoaajggaa
/- The contract of Build (package kerfref03). -/
namespace Go.Proofs.Ytljlhlcoaajggaa
open Go.RowKit

/-- The document's table of these ranges lies at P. -/
def RtAt (B P : Nat) (L : List Tr) (r : Nat) (w : World) : Prop := ∃ v, w.heap[P]? = some (.cells #[v, .int .i64 (r : Int)] 74 (0, 0)) ∧ w.ownsRow B 36 3 v L.length (rks L)
theorem flt_go : ∀ (a b : List Rk) (D : List Tr) (j : Nat), flt D j a = none → flt D j (a ++ b) = flt (srt D a) (j + a.length) b
  | [], _, _, _, _ => rfl
  | x :: a, b, D, j, h => by
    have h' : (if okR x = true then (if D.any (fun y => mt y (toT x)) = true then some (8, j) else flt (insR (toT x) D) (j + 1) a) else some (30, j)) = none := h
    split at h'
    · rename_i hx
      split at h'
      · cases h'
      · rename_i ha
        have ih := flt_go a b (insR (toT x) D) (j + 1) h'
        show (if okR x = true then (if D.any (fun y => mt y (toT x)) = true then some (8, j) else flt (insR (toT x) D) (j + 1) (a ++ b)) else some (30, j)) = _
        rw [if_pos hx, if_neg ha, ih, List.length_cons, show j + 1 + a.length = j + (a.length + 1) by omega]
        rfl
    · cases h'
theorem flt_at (l : List Rk) (i : Nat) (hi : i < l.length) (h : flt [] 0 (l.take i) = none) : flt [] 0 l = flt (srt [] (l.take i)) i (l[i] :: l.drop (i + 1)) := by
  have e : l = l.take i ++ l.drop i := (List.take_append_drop i l).symm
  conv => lhs; rw [e]
  rw [flt_go _ _ _ _ h, List.length_take, Nat.zero_add, Nat.min_eq_left (by omega), List.drop_eq_getElem_cons hi]
theorem any_take (l : List Rk) (i : Nat) (t : Tr) : (srt [] (l.take i)).any (fun x => mt x t) = (l.take i).any (fun x => mt (toT x) t) := by
  rw [(srt_perm (l.take i) []).any_eq, List.nil_append, List.any_map]
  rfl
theorem flt_next (l : List Rk) (i : Nat) (hi : i < l.length) (h : flt [] 0 (l.take i) = none) (hok : okR l[i] = true) (hn : ∀ j x, j < i → l[j]? = some x → mt (toT x) (toT l[i]) = false) : flt [] 0 (l.take (i + 1)) = none := by
  rw [List.take_succ_eq_append_getElem hi, flt_go _ _ _ _ h]
  show (if okR l[i] = true then (if (srt [] (l.take i)).any (fun y => mt y (toT l[i])) = true then _ else none) else _) = none
  have ha : (srt [] (l.take i)).any (fun y => mt y (toT l[i])) = false := by
    rw [any_take, List.any_eq_false]
    intro x hx
    obtain ⟨j, hj⟩ := List.getElem?_of_mem hx
    rw [List.getElem?_take] at hj
    split at hj
    · rename_i hji
      rw [hn j x hji hj]; decide
    · cases hj
  rw [if_pos hok, ha]
  rfl
theorem flt_bad (l : List Rk) (i : Nat) (hi : i < l.length) (h : flt [] 0 (l.take i) = none) (hok : ¬ okR l[i] = true) : flt [] 0 l = some (30, i) := by
  rw [flt_at l i hi h]
  show (if okR l[i] = true then _ else some (30, i)) = _
  rw [if_neg hok]
theorem flt_hit (l : List Rk) (i k : Nat) (hi : i < l.length) (h : flt [] 0 (l.take i) = none) (hok : okR l[i] = true) (hk : k < i) (x : Rk) (hx : l[k]? = some x) (hm : mt (toT x) (toT l[i]) = true) : flt [] 0 l = some (8, i) := by
  rw [flt_at l i hi h]
  show (if okR l[i] = true then (if (srt [] (l.take i)).any (fun y => mt y (toT l[i])) = true then some (8, i) else _) else _) = _
  have ha : (srt [] (l.take i)).any (fun y => mt y (toT l[i])) = true := by
    rw [any_take, List.any_eq_true]
    exact ⟨x, List.mem_of_getElem? (i := k) (by rw [List.getElem?_take, if_pos hk]; exact hx), hm⟩
  rw [if_pos hok, if_pos ha]
theorem mt_ok {x g : Rk} (hx : okR x = true) (hg : okR g = true) : mt (toT x) (toT g) = (decide (x.1 ≤ g.2.1) && decide (g.1 ≤ x.2.1)) := by
  have e1 := rkT_toT hx
  have e2 := rkT_toT hg
  unfold mt
  rw [e1, e2, Bool.eq_iff_iff]
  unfold apt
  simp only [beq_iff_eq, Bool.and_eq_true, decide_eq_true_eq]
  constructor
  · intro h
    split at h
    · omega
    · split at h
      · omega
      · omega
  · rintro ⟨h1, h2⟩
    rw [if_neg (by omega), if_neg (by omega)]

set_option maxHeartbeats 6000000 in
set_option maxRecDepth 100000 in
theorem rbuild_any (ao : Option Addr) (ac : Nat) (l : List Rk) (r : Int) (w : World) (ha : RdK w ao l) (hl : l.length ≤ 1000000000) :
    Calls Try.prog 13 #[.slice ao l.length ac, .int .i64 r] w fun e w' => Below w.heap.size w w' ∧
      ((∃ c k, bo l r = some (c, k) ∧ e = .returned (.tuple #[.pointer none, .int .i64 c, .int .i64 (k : Int)])) ∨
       (bo l r = none ∧ ∃ P, e = .returned (.tuple #[.pointer (some ⟨P, 0, none⟩), .int .i64 0, .int .i64 0]) ∧ w.heap.size ≤ P ∧ RtAt w.heap.size P (nrA r.toNat [] (srt [] l)) r.toNat w')) := by
  have HA := hid ha
  obtain ⟨n, hn⟩ : ∃ n, n = l.length := ⟨_, rfl⟩
  rw [← hn] at hl ⊢
  have HN := hid hn
  clear ha
  cases hr : icl r with
  | false =>
    have HZ := hid (show bo l r = some (30, 0) by unfold bo; rw [hr]; rfl)
    clear hn
    go_enter Try.func13, Try.ntmps13
    go_wp2_with (go_at_call 40; refine (rclass_any r _).mono ?_; rintro e w2 ⟨rfl, hw2⟩; obtain rfl := hw2.symm; rw [hr])
    go_ret3
    exact ⟨Below.refl _ _, .inl ⟨30, 0, HZ.out, rfl⟩⟩
  | true =>
    by_cases hm : 4096 < n
    · have HZ := hid (show bo l r = some (6, 0) by unfold bo; rw [hr, if_pos rfl, if_pos (by rw [← hn]; exact hm)])
      have hm' : (4096 : Int) < (n : Int) := by omega
      clear hn
      go_enter Try.func13, Try.ntmps13
      go_wp2_with (go_at_call 40; refine (rclass_any r _).mono ?_; rintro e w2 ⟨rfl, hw2⟩; obtain rfl := hw2.symm; rw [hr])
      go_ret3
      exact ⟨Below.refl _ _, .inl ⟨6, 0, HZ.out, rfl⟩⟩
    · have HZ := hid (show bo l r = flt [] 0 l by unfold bo; rw [hr, if_pos rfl, if_neg (by rw [← hn]; exact hm)])
      have hm' : ¬ (4096 : Int) < (n : Int) := by omega
      have HNIL := hid (show flt [] 0 (l.take 0) = none from rfl)
      clear hn
      go_enter Try.func13, Try.ntmps13
      go_wp2_with (go_at_call 40; refine (rclass_any r _).mono ?_; rintro e w2 ⟨rfl, hw2⟩; obtain rfl := hw2.symm; rw [hr])
      go_loopw [7] (fun x wr => ∃ (i : Nat), x = .int .i64 (i : Int) ∧ i ≤ n ∧ Hid (flt [] 0 (l.take i) = none) ∧ Hid (Below w.heap.size w wr)) (fun x _ => n - (intOf x).toNat)
      case atStart => exact ⟨0, rfl, by omega, HNIL, Below.refl _ _⟩
      case round =>
        obtain ⟨i, rfl, hi, HFT, HB⟩ := hrel
        by_cases hlt : i < n
        · have hiL : i < l.length := by have h5 := HN.out; omega
          have HRD := hid (show ∀ W, Below w.heap.size w W → RdK W ao l from fun W hW => HA.out.below hW)
          obtain ⟨a, rfl, hab, a0, a1, a2⟩ := HRD.out wr HB.out i l[i] (List.getElem?_eq_getElem hiL)
          have i3 : (i : Int) < (n : Int) := by omega
          have i0 : (0 : Int) ≤ (i : Int) := by omega
          have HRI := hid (right_any l[i] wr)
          have HBAD := hid (fun h => flt_bad l i hiL HFT.out h)
          have HHIT := hid (fun h k x hk hx hm => flt_hit l i k hiL HFT.out h hk x hx hm)
          have HNXT := hid (fun h hn => flt_next l i hiL HFT.out h hn)
          have hwz := HB.out.size
          have HMO := hid (fun (h : okR l[i] = true) (x : Rk) (hx : okR x = true) => mt_ok hx h)
          obtain ⟨g, hg⟩ : ∃ g, g = l[i] := ⟨_, rfl⟩
          rw [← hg] at a0 a1 a2 HRI HBAD HHIT HNXT HMO
          have HGE := hid (show l[i]? = some g by rw [hg]; exact List.getElem?_eq_getElem hiL)
          obtain ⟨g0, g1, g2⟩ := g
          unfold rkv at HRI
          dsimp only at a0 a1 a2 HRI
          clear hg
          by_cases hok : okR (g0, g1, g2) = true
          · rw [hok] at HRI
            have HNX2 := hid (HNXT.out hok)
            have HHI2 := hid (HHIT.out hok)
            have HMO2 := hid (HMO.out hok)
            clear hok
            go_wp2_with fail
            refine HRI.out.mono ?_
            rintro e w1 ⟨rfl, b1⟩
            have HB1 := hid (HB.out.trans (b1.mono hwz))
            clear b1 HRI a0 a1 a2
            go_wp2
            have HN0 := hid (show ∀ j x, j < 0 → l[j]? = some x → mt (toT x) (toT (g0, g1, g2)) = false from fun j x hj => absurd hj (Nat.not_lt_zero _))
            have HOKS := hid ((flt_fin _).1 HFT.out).1
            go_loopw [8] (fun x wk => ∃ (k : Nat), x = .int .i64 (k : Int) ∧ k ≤ i ∧ Hid (∀ j x, j < k → l[j]? = some x → mt (toT x) (toT (g0, g1, g2)) = false) ∧ Hid (Below w.heap.size w wk)) (fun x _ => i - (intOf x).toNat)
            case atStart => exact ⟨0, rfl, by omega, HN0, HB1⟩
            case round =>
              obtain ⟨k, rfl, hki, HNE, HBK⟩ := hrel
              by_cases hkl : k < i
              · have hkL : k < l.length := by omega
                obtain ⟨a', ea, _, x0, x1, _⟩ := HRD.out wr HBK.out k l[k] (List.getElem?_eq_getElem hkL)
                cases ea
                obtain ⟨a', ea, _, y0, y1, _⟩ := HRD.out wr HBK.out i (g0, g1, g2) HGE.out
                cases ea
                have hxok : okR l[k] = true := HOKS.out l[k] (List.mem_of_getElem? (i := k) (by rw [List.getElem?_take, if_pos hkl]; exact List.getElem?_eq_getElem hkL))
                have hmo := HMO2.out l[k] hxok
                have HXE := hid (List.getElem?_eq_getElem hkL)
                have HHX := hid (fun (hm : mt (toT (l[k]'hkL)) (toT (g0, g1, g2)) = true) => HHI2.out k (l[k]'hkL) hkl (List.getElem?_eq_getElem hkL) hm)
                obtain ⟨x, hx⟩ : ∃ x, x = l[k] := ⟨_, rfl⟩
                rw [← hx] at x0 x1 hmo HXE HHX
                obtain ⟨p0, p1, p2⟩ := x
                dsimp only at x0 x1 y0 y1 hmo
                have k3 : (k : Int) < (n : Int) := by omega
                have k0 : (0 : Int) ≤ (k : Int) := by omega
                have k4 : (k : Int) < (i : Int) := by omega
                clear hx hxok
                by_cases q0 : p0 ≤ g1
                · by_cases q1 : g0 ≤ p1
                  · have HHZ := hid (HHX.out (by rw [hmo, decide_eq_true q0, decide_eq_true q1]; rfl))
                    clear hmo
                    go_wp2_with fail
                    go_quiet (fail)
                    have HBQ := hid (HBK.out.trans (below_drewN w.heap.size wr nq))
                    obtain ⟨W, hW⟩ : ∃ W, W = wr.drewN nq := ⟨_, rfl⟩
                    rw [← hW] at HBQ ⊢
                    clear hW x0 x1 y0 y1
                    go_wp2
                    go_ret3
                    exact ⟨HBQ.out, .inl ⟨8, i, HZ.out.trans HHZ.out, rfl⟩⟩
                  · have HMF := hid (show mt (toT (p0, p1, p2)) (toT (g0, g1, g2)) = false by rw [hmo, decide_eq_false q1, Bool.and_false])
                    clear hmo
                    have HNE2 := hid (show ∀ j x, j < k + 1 → l[j]? = some x → mt (toT x) (toT (g0, g1, g2)) = false from fun j x hj hx => by
                      by_cases hjk : j = k
                      · subst hjk
                        rw [HXE.out] at hx
                        cases hx
                        exact HMF.out
                      · exact HNE.out j x (by omega) hx)
                    go_wp2_with fail
                    go_quiet (fail)
                    have HBQ := hid (HBK.out.trans (below_drewN w.heap.size wr nq))
                    obtain ⟨W, hW⟩ : ∃ W, W = wr.drewN nq := ⟨_, rfl⟩
                    rw [← hW] at HBQ ⊢
                    clear hW x0 x1 y0 y1
                    go_wp2
                    go_roundw
                    case rel => exact ⟨k + 1, by go_num, by omega, HNE2, HBQ⟩
                    case measure => simp [intOf]; omega
                · have HMF := hid (show mt (toT (p0, p1, p2)) (toT (g0, g1, g2)) = false by rw [hmo, decide_eq_false q0, Bool.false_and])
                  clear hmo
                  have q0d : decide (p0 ≤ g1) = false := decide_eq_false q0
                  have q0l : g1 < p0 := by omega
                  have HNE2 := hid (show ∀ j x, j < k + 1 → l[j]? = some x → mt (toT x) (toT (g0, g1, g2)) = false from fun j x hj hx => by
                    by_cases hjk : j = k
                    · subst hjk
                      rw [HXE.out] at hx
                      cases hx
                      exact HMF.out
                    · exact HNE.out j x (by omega) hx)
                  go_wp2_with fail
                  go_quiet (fail)
                  have HBQ := hid (HBK.out.trans (below_drewN w.heap.size wr nq))
                  obtain ⟨W, hW⟩ : ∃ W, W = wr.drewN nq := ⟨_, rfl⟩
                  rw [← hW] at HBQ ⊢
                  clear hW x0 x1 y0 y1
                  go_wp2
                  go_roundw
                  case rel => exact ⟨k + 1, by go_num, by omega, HNE2, HBQ⟩
                  case measure => simp [intOf]; omega
              · have k4 : ¬ (k : Int) < (i : Int) := by omega
                have hke : k = i := by omega
                have HFN := hid (HNX2.out (fun j x hj hx => HNE.out j x (by omega) hx))
                clear hke
                go_wp2
                go_roundw
                case rel => exact ⟨i + 1, by go_num, by omega, HFN, HBK⟩
                case measure => simp [intOf]; omega
          · have hok' : okR (g0, g1, g2) = false := by simpa using hok
            rw [hok'] at HRI
            have HBD := hid (HBAD.out hok)
            clear hok hok'
            go_wp2_with fail
            refine HRI.out.mono ?_
            rintro e w1 ⟨rfl, b1⟩
            have HB1 := hid (HB.out.trans (b1.mono hwz))
            clear b1 HRI
            go_wp2
            go_ret3
            exact ⟨HB1.out, .inl ⟨30, i, HZ.out.trans HBD.out, rfl⟩⟩
        · have i3 : ¬ (i : Int) < (n : Int) := by omega
          have hfl : flt [] 0 l = none := by
            have h5 := HFT.out
            rw [List.take_of_length_le (by have h6 := HN.out; omega)] at h5
            exact h5
          obtain ⟨r0, hr0⟩ : ∃ r0 : Nat, r = (r0 : Int) := ⟨r.toNat, by unfold icl at hr; have := of_decide_eq_true hr; omega⟩
          subst hr0
          have hr1 : r0 < 256 := by unfold icl at hr; have := of_decide_eq_true hr; omega
          have hrt : ((r0 : Int)).toNat = r0 := by omega
          have hwz := HB.out.size
          have HSO := hid (sorted_any ao ac l wr (HA.out.below HB.out) (by have h5 := HN.out; omega) hfl)
          rw [← HN.out] at HSO
          have HRS := hid (srt_ris l [] 0 trivial hfl)
          have HSL := hid (show (srt [] l).length = n by rw [srt_len, ← HN.out])
          have HFL := hid hfl
          clear hfl
          go_wp2_with fail
          refine HSO.out.mono ?_
          rintro e w1 ⟨v1, rfl, o1, b1⟩
          obtain ⟨yo, yc, rfl⟩ := own_form o1
          have HB1 := hid (HB.out.trans (b1.mono hwz))
          have HNO := hid (normal_any yo yc (srt [] l) r0 w1 (rd_own o1) (by have h5 := HSL.out; omega) hr1 HRS.out)
          rw [HSL.out] at HNO
          clear o1 b1 HSO
          go_wp2_with fail
          refine HNO.out.mono ?_
          rintro e w2 ⟨v2, rfl, o2, b2⟩
          obtain ⟨zo, zc, rfl⟩ := own_form o2
          have HB2 := hid (HB1.out.trans (b2.mono HB1.out.size))
          have hw12 : w.heap.size ≤ w1.heap.size := HB1.out.size
          have HO2 := hid (own_mono o2 hw12)
          obtain ⟨ml, hml⟩ : ∃ ml, ml = (nrA r0 [] (srt [] l)).length := ⟨_, rfl⟩
          rw [← hml] at HO2 ⊢
          have HML := hid hml
          have hw2 : w.heap.size ≤ w2.heap.size := HB2.out.size
          have HB3 := hid (HB2.out.alloc hw2 (.cells #[.slice zo ml zc, .int .i64 (r0 : Int)] 74))
          have HRT := hid (show RtAt w.heap.size w2.heap.size (nrA r0 [] (srt [] l)) r0 (w2.alloc (.cells #[.slice zo ml zc, .int .i64 (r0 : Int)] 74)) from ⟨_, heap_alloc_new w2 _, by rw [← HML.out]; exact HO2.out.alloc _⟩)
          clear o2 b2 HNO hml
          go_wp2
          go_ret3
          exact ⟨HB3.out, .inr ⟨HZ.out.trans HFL.out, _, rfl, hw2, by rw [hrt]; exact HRT.out⟩⟩
end Go.Proofs.Ytljlhlcoaajggaa
/- The contract of (*Table).Get (package kerfref03). -/
namespace Go.Proofs.Ytljlhlcoaajggaa
open Go.RowKit

/-- The class of a number, by ranges. -/
def gtR (r : Nat) (x : Int) : List Tr → Nat
  | [] => r
  | g :: A => if (g.1 : Int) ≤ x ∧ x ≤ (g.2.1 : Int) then g.2.2 else gtR r x A
theorem gtR_drop (r : Nat) (x : Int) (L : List Tr) (i : Nat) (hi : i < L.length) : gtR r x (L.drop i) = if ((L[i]).1 : Int) ≤ x ∧ x ≤ ((L[i]).2.1 : Int) then (L[i]).2.2 else gtR r x (L.drop (i + 1)) := by
  rw [List.drop_eq_getElem_cons hi]
  rfl
theorem gtR_low (r : Nat) : ∀ (A : List Tr) (b : Nat) (x : Int), x < (b : Int) → Ris b A → gtR r x A = r
  | [], _, _, _, _ => rfl
  | g :: A, b, x, hx, h => by
    obtain ⟨h1, h2, h3, h4, h5⟩ := h
    show (if (g.1 : Int) ≤ x ∧ x ≤ (g.2.1 : Int) then g.2.2 else gtR r x A) = r
    rw [if_neg (by omega)]
    exact gtR_low r A (g.2.1 + 1) x (by omega) h5
theorem gtR_high (r : Nat) : ∀ (A : List Tr) (b : Nat) (x : Int), (1114111 : Int) < x → Ris b A → gtR r x A = r
  | [], _, _, _, _ => rfl
  | g :: A, b, x, hx, h => by
    obtain ⟨h1, h2, h3, h4, h5⟩ := h
    show (if (g.1 : Int) ≤ x ∧ x ≤ (g.2.1 : Int) then g.2.2 else gtR r x A) = r
    rw [if_neg (by omega)]
    exact gtR_high r A (g.2.1 + 1) x hx h5
theorem gtR_clq (r : Nat) : ∀ (A : List Tr) (b x : Nat), b ≤ x → Ris b A → gtR r (x : Int) A = (clq r b A)[x - b]?.getD r
  | [], _, _, _, _ => rfl
  | g :: A, b, x, hx, h => by
    obtain ⟨h1, h2, h3, h4, h5⟩ := h
    show (if (g.1 : Int) ≤ (x : Int) ∧ (x : Int) ≤ (g.2.1 : Int) then g.2.2 else gtR r x A) = (List.replicate (g.1 - b) r ++ (List.replicate (g.2.1 + 1 - g.1) g.2.2 ++ clq r (g.2.1 + 1) A))[x - b]?.getD r
    by_cases q : x < g.1
    · rw [if_neg (by omega), gtR_low r A (g.2.1 + 1) x (by omega) h5, List.getElem?_append_left (by rw [List.length_replicate]; omega), List.getElem?_replicate, if_pos (by omega)]
      rfl
    · rw [List.getElem?_append_right (by rw [List.length_replicate]; omega), List.length_replicate]
      by_cases q2 : x ≤ g.2.1
      · rw [if_pos (by omega), List.getElem?_append_left (by rw [List.length_replicate]; omega), List.getElem?_replicate, if_pos (by omega)]
        rfl
      · rw [if_neg (by omega), List.getElem?_append_right (by rw [List.length_replicate]; omega), List.length_replicate, gtR_clq r A (g.2.1 + 1) x (by omega) h5]
        rw [show x - b - (g.1 - b) - (g.2.1 + 1 - g.1) = x - (g.2.1 + 1) by omega]
/-- By ranges or number by number: the same class. -/
theorem gtR_clA (r : Nat) (L : List Tr) (x : Nat) (hx : x < 1114112) (h : Ris 0 L) : gtR r (x : Int) L = (clA r L).getD x 0 := by
  rw [gtR_clq r L 0 x (Nat.zero_le _) h, Nat.sub_zero, List.getD_eq_getElem?_getD]
  unfold clA
  by_cases q : x < (clq r 0 L).length
  · rw [List.getElem?_append_left q, List.getElem?_eq_getElem q]
    rfl
  · rw [List.getElem?_append_right (by omega), List.getElem?_replicate, if_pos (by omega), List.getElem?_eq_none (by omega)]
    rfl
theorem RtAt.row {B P : Nat} {L : List Tr} {r : Nat} {w : World} (h : RtAt B P L r w) : ∃ ao ac, w.cell? ⟨P, 0, none⟩ = some (.slice ao L.length ac) ∧ w.cell? ⟨P, 1, none⟩ = some (.int .i64 (r : Int)) ∧ P < w.heap.size ∧ w.ownsRow B 36 3 (.slice ao L.length ac) L.length (rks L) := by
  obtain ⟨v, h1, h2⟩ := h
  obtain ⟨ao, ac, rfl⟩ := own_form h2
  exact ⟨ao, ac, by simp [World.cell?, h1], by simp [World.cell?, h1], lt_of_heap h1, h2⟩

set_option maxHeartbeats 6000000 in
set_option maxRecDepth 100000 in
theorem rget_any (B P : Nat) (L : List Tr) (r : Nat) (x : Int) (w : World) (h : RtAt B P L r w) (hl : L.length ≤ 1000000000) :
    Calls Try.prog 45 #[.pointer (some ⟨P, 0, none⟩), .int .i32 x] w fun e w' => e = .returned (.int .i64 ((gtR r x L : Nat) : Int)) ∧ w' = w := by
  obtain ⟨ao, ac, d0, d1, hP, ho⟩ := h.row
  have HA := hid (rd_own ho)
  obtain ⟨n, hn⟩ : ∃ n, n = L.length := ⟨_, rfl⟩
  rw [← hn] at hl d0
  have HN := hid hn
  clear h ho hn
  have HG0 := hid (show gtR r x L = gtR r x (L.drop 0) from rfl)
  go_enter Try.func45, Try.ntmps45
  go_wp2
  go_loopw [5] (fun y wr => ∃ (i : Nat), y = .int .i64 (i : Int) ∧ i ≤ n ∧ Hid (gtR r x L = gtR r x (L.drop i)) ∧ wr = w) (fun y _ => n - (intOf y).toNat)
  case atStart => exact ⟨0, rfl, by omega, HG0, rfl⟩
  case round =>
    obtain ⟨i, rfl, hi, HG, hw⟩ := hrel
    obtain rfl := hw.symm
    by_cases hlt : i < n
    · have hiL : i < L.length := by have h5 := HN.out; omega
      obtain ⟨a, rfl, _, a0, a1, a2⟩ := HA.out i (rkT L[i]) (by rw [List.getElem?_map, List.getElem?_eq_getElem hiL]; rfl)
      have i3 : (i : Int) < (n : Int) := by omega
      have i0 : (0 : Int) ≤ (i : Int) := by omega
      have HGD := hid (HG.out.trans (gtR_drop r x L i hiL))
      obtain ⟨g, hg⟩ : ∃ g, g = L[i] := ⟨_, rfl⟩
      rw [← hg] at a0 a1 a2 HGD
      obtain ⟨g0, g1, g2⟩ := g
      unfold rkT at a0 a1 a2
      dsimp only at a0 a1 a2 HGD
      clear hg hiL
      by_cases q0 : (g0 : Int) ≤ x
      · by_cases q1 : x ≤ (g1 : Int)
        · have HGZ := hid (HGD.out.trans (if_pos ⟨q0, q1⟩))
          go_wp2
          go_ret
          exact ⟨by rw [HGZ.out]; rfl, rfl⟩
        · have HGZ := hid (HGD.out.trans (if_neg (fun h => q1 h.2)))
          go_wp2
          go_roundw
          case rel => exact ⟨i + 1, by go_num, by omega, HGZ, trivial⟩
          case measure => simp [intOf]; omega
      · have HGZ := hid (HGD.out.trans (if_neg (fun h => q0 h.1)))
        go_wp2
        go_roundw
        case rel => exact ⟨i + 1, by go_num, by omega, HGZ, trivial⟩
        case measure => simp [intOf]; omega
    · have i3 : ¬ (i : Int) < (n : Int) := by omega
      have HGZ := hid (show gtR r x L = r by rw [HG.out, List.drop_of_length_le (by have h5 := HN.out; omega)]; rfl)
      go_wp2
      go_ret
      exact ⟨by rw [HGZ.out]; rfl, rfl⟩
end Go.Proofs.Ytljlhlcoaajggaa
/- The contract of (*Table).All (package kerfref03). -/
namespace Go.Proofs.Ytljlhlcoaajggaa
open Go.RowKit

/-- Ranges, and those of the rest between them. -/
def alP (r : Nat) : Nat → List Tr → List Tr
  | _, [] => []
  | b, g :: A => (if b < g.1 then [(b, g.1 - 1, r)] else []) ++ g :: alP r (g.2.1 + 1) A
theorem endR_cons (b : Nat) (x : Tr) (P : List Tr) : endR b (x :: P) = endR (x.2.1 + 1) P := by
  unfold endR
  rw [List.getLast?_cons]
  cases P.getLast? <;> rfl
theorem alP_snoc (r : Nat) : ∀ (P : List Tr) (b : Nat) (g : Tr), alP r b (P ++ [g]) = alP r b P ++ (if endR b P < g.1 then [(endR b P, g.1 - 1, r)] else []) ++ [g]
  | [], b, g => rfl
  | x :: P, b, g => by
    have ih := alP_snoc r P (x.2.1 + 1) g
    show (if b < x.1 then [(b, x.1 - 1, r)] else []) ++ x :: alP r (x.2.1 + 1) (P ++ [g]) = _
    rw [ih, endR_cons]
    simp [alP]
theorem alP_len (r : Nat) : ∀ (P : List Tr) (b : Nat), (alP r b P).length ≤ 2 * P.length
  | [], _ => by simp [alP]
  | x :: P, b => by
    have ih := alP_len r P (x.2.1 + 1)
    show ((if b < x.1 then [(b, x.1 - 1, r)] else []) ++ x :: alP r (x.2.1 + 1) P).length ≤ _
    rw [List.length_append, List.length_cons, List.length_cons]
    split <;> simp <;> omega
/-- The ranges of all numbers. -/
def alA (r : Nat) (L : List Tr) : List Tr := alP r 0 L ++ (if endR 0 L ≤ 1114111 then [(endR 0 L, 1114111, r)] else [])

set_option maxHeartbeats 6000000 in
set_option maxRecDepth 100000 in
theorem rall_any (B' P : Nat) (L : List Tr) (r : Nat) (w : World) (h : RtAt B' P L r w) (hl : L.length ≤ 1000000) (hR : Ris 0 L) :
    Calls Try.prog 44 #[.pointer (some ⟨P, 0, none⟩)] w fun e w' => ∃ v', e = .returned v' ∧ w'.ownsRow w.heap.size 36 3 v' (alA r L).length (rks (alA r L)) ∧ Below w.heap.size w w' := by
  obtain ⟨i0, hi36, hz0, hz1, hz2⟩ := info_parts Try.info36
  obtain ⟨ao, ac, d0, d1, hP, ho⟩ := h.row
  have HA := hid (rd_own ho)
  have HR := hid hR
  obtain ⟨n, hn⟩ : ∃ n, n = L.length := ⟨_, rfl⟩
  rw [← hn] at hl d0
  have HN := hid hn
  obtain ⟨B, hB⟩ : ∃ B, B = w.heap.size := ⟨_, rfl⟩
  have HBE := hid hB
  rw [← hB] at hP ⊢
  have HPC := hid (show ∀ W, Below B w W → W.cell? ⟨P, 0, none⟩ = some (.slice ao n ac) ∧ W.cell? ⟨P, 1, none⟩ = some (.int .i64 (r : Int)) from fun W hW => ⟨(hW.cell (p := ⟨P, 0, none⟩) hP).trans d0, (hW.cell (p := ⟨P, 1, none⟩) hP).trans d1⟩)
  clear h ho hn hB hR d0 d1
  go_enter Try.func44, Try.ntmps44
  go_wp2
  go_loopw [5, 3, 4] (fun x y z wr => ∃ (i m : Nat) (vo : Option Addr) (vc nx : Nat), x = .int .i64 (i : Int) ∧ y = .slice vo m vc ∧ z = .int .i32 (nx : Int) ∧ i ≤ n ∧ nx ≤ 1114112 ∧ Hid (nx = endR 0 (L.take i)) ∧ Hid (m = (alP r 0 (L.take i)).length) ∧ Hid (wr.ownsRow B 36 3 (.slice vo m vc) m (rks (alP r 0 (L.take i)))) ∧ Hid (Below B w wr)) (fun x _ _ _ => n - (intOf x).toNat)
  case atStart => exact ⟨0, 0, none, 0, 0, rfl, rfl, rfl, by omega, by omega, rfl, rfl, World.ownsRow_nil w B 36 3, Below.refl _ _⟩
  case round =>
    obtain ⟨i, m, vo, vc, nx, rfl, rfl, rfl, hi, hnx, HNX, HM, HO, HB⟩ := hrel
    have hwB : B ≤ wr.heap.size := by have h5 := HBE.out; have h6 := HB.out.size; omega
    have hml : m ≤ 2000000 := by
      have h5 := alP_len r (L.take i) 0
      rw [List.length_take] at h5
      have h6 := HM.out
      omega
    by_cases hlt : i < n
    · have hiA : i < L.length := by have h5 := HN.out; omega
      have HAC := hid (show ∀ W, Below B w W → ∃ a : Addr, ao = some a ∧ W.cell? (a.add (i * 3)) = some (.int .i32 (L[i].1 : Int)) ∧ W.cell? ⟨(a.add (i * 3)).block, (a.add (i * 3)).off + 1, none⟩ = some (.int .i32 (L[i].2.1 : Int)) ∧ W.cell? ⟨(a.add (i * 3)).block, (a.add (i * 3)).off + 2, none⟩ = some (.int .i64 (L[i].2.2 : Int)) from fun W hW => by
        obtain ⟨a, e, _, c0, c1, c2⟩ := HA.out.below (show Below w.heap.size w W by have h5 := HBE.out; rw [← h5]; exact hW) i (rkT L[i]) (by rw [List.getElem?_map, List.getElem?_eq_getElem hiA]; rfl)
        exact ⟨a, e, c0, c1, c2⟩)
      have HSN := hid (show alP r 0 (L.take (i + 1)) = alP r 0 (L.take i) ++ (if endR 0 (L.take i) < L[i].1 then [(endR 0 (L.take i), L[i].1 - 1, r)] else []) ++ [L[i]] by rw [List.take_succ_eq_append_getElem hiA, alP_snoc])
      have HE3 := hid (show L[i].2.1 + 1 = endR 0 (L.take (i + 1)) by rw [List.take_succ_eq_append_getElem hiA, endR_snoc])
      rw [← HNX.out] at HSN
      obtain ⟨h1, h2, h3, h4⟩ := ris_mem HR.out L[i] (List.getElem_mem hiA)
      obtain ⟨g, hg⟩ : ∃ g, g = L[i] := ⟨_, rfl⟩
      rw [← hg] at HAC HSN HE3 h1 h2 h3 h4
      obtain ⟨o, hob⟩ : ∃ o, o = alP r 0 (L.take i) := ⟨_, rfl⟩
      rw [← hob] at HM HO HSN
      obtain ⟨g0, g1, g2⟩ := g
      dsimp only at HAC HSN HE3 h1 h2 h3 h4
      have i3 : (i : Int) < (n : Int) := by omega
      have i0' : (0 : Int) ≤ (i : Int) := by omega
      have k5 : IntKind.i32.wrap ((g1 : Int) + 1) = ((g1 + 1 : Nat) : Int) := by rw [IntKind.wrap_i32]; omega
      clear hg hob hiA h1
      obtain ⟨a, rfl, c0, c1, c2⟩ := HAC.out wr HB.out
      obtain ⟨d0, d1⟩ := HPC.out wr HB.out
      by_cases hgt : nx < g0
      · obtain ⟨gm, hgm⟩ : ∃ gm, gm = g0 - 1 := ⟨_, rfl⟩
        have hgt' : (nx : Int) < (g0 : Int) := by omega
        rw [if_pos hgt, ← hgm] at HSN
        have k1 : IntKind.i32.wrap ((g0 : Int) - 1) = (gm : Int) := by rw [IntKind.wrap_i32]; omega
        have HML := hid (show m + 1 = (o ++ [(nx, gm, r)]).length by rw [List.length_append]; have h5 := HM.out; simp; omega)
        have HBD := hid (HB.out.trans (show Below B wr wr.drew from ⟨rfl, rfl, rfl, Nat.le_refl _, fun _ _ => rfl⟩))
        have HOD := hid (show wr.drew.ownsRow B 36 3 (.slice vo m vc) m (rks o) from HO.out)
        have HSS := hid (show wr.drew.cell? ⟨P, 0, none⟩ = some (.slice (some a) n ac) ∧ wr.drew.cell? ⟨P, 1, none⟩ = some (.int .i64 (r : Int)) ∧ wr.drew.cell? (a.add (i * 3)) = some (.int .i32 (g0 : Int)) from ⟨d0, d1, c0⟩)
        clear hgm
        go_wp2_with fail
        refine wp_region_noPanic ?_
        refine wp_region_holdG 16 (fun w' => w'.cell? ⟨P, 0, none⟩ = some (.slice (some a) n ac) ∧ w'.cell? ⟨P, 1, none⟩ = some (.int .i64 (r : Int)) ∧ w'.cell? (a.add (i * 3)) = some (.int .i32 (g0 : Int))) (fun _ => false) (by kernel_rfl) (by kernel_rfl) (by decide) (fun j hj => by cases hj) (by kernel_rfl) (fun _ _ _ _ _ h => h) ⟨d0, d1, c0⟩ ?_
        dsimp only [List.take, List.drop]
        iterate 5 (refine wpHold_step ?_ rfl (fun w' hS => ?_) ?_; (rotate_left; (obtain ⟨s1, s2, s3⟩ := hS; go_simp; with_reducible rfl); rotate_left))
        simp only [Act.put, List.setIfInBounds_toArray, List.set_cons_zero, List.set_cons_succ]
        iterate 5 (refine wpHold_step ?_ rfl (fun w' hS => ?_) ?_; (rotate_left; (obtain ⟨s1, s2, s3⟩ := hS; go_simp; with_reducible rfl); rotate_left))
        simp only [Act.put, List.setIfInBounds_toArray, List.set_cons_zero, List.set_cons_succ]
        iterate 6 (refine wpHold_step ?_ rfl (fun w' hS => ?_) ?_; (rotate_left; (obtain ⟨s1, s2, s3⟩ := hS; go_simp; with_reducible rfl); rotate_left))
        simp only [Act.put, List.setIfInBounds_toArray, List.set_cons_zero, List.set_cons_succ]
        show wpTailG _ _ _ _ _ _ _ _ _
        obtain ⟨W, hW⟩ : ∃ W, W = wr.drew := ⟨_, rfl⟩
        rw [← hW] at HBD HOD HSS ⊢
        clear hW c0 c1 c2 d0 d1 HO HB
        have hwD : B ≤ W.heap.size := by have h5 := HBE.out; have h6 := HBD.out.size; omega
        refine tailG_yes (by kernel_rfl) fun KK hKK => ?_
        go_simp
        have HBA := hid (HBD.out.alloc hwD (.cells #[.int .i32 (nx : Int), .int .i32 (gm : Int), .int .i64 (r : Int)] 36))
        have HSK := hid (show ∀ V, Below B w V → (V.cell? ⟨P, 0, none⟩ = some (.slice (some a) n ac) ∧ V.cell? ⟨P, 1, none⟩ = some (.int .i64 (r : Int)) ∧ V.cell? (a.add (i * 3)) = some (.int .i32 (g0 : Int))) from fun V hV => by
          obtain ⟨x0, x1⟩ := HPC.out V hV
          obtain ⟨a', ea, y0, _⟩ := HAC.out V hV
          cases ea
          exact ⟨x0, x1, y0⟩)
        refine hKK _ _ (fun _ => HSK.out _ HBA.out) ?_
        clear hKK KK
        try simp only [Act.put, List.setIfInBounds_toArray, List.set_cons_zero, List.set_cons_succ]
        refine tailG_yes (by kernel_rfl) fun KK hKK => ?_
        refine wp_append_lies _ _ _ 25 rfl B 36 i0 (.agg #[.int .i32 0, .int .i32 0, .int .i64 0]) 3 16 Try.underlying25 hi36 hz0 hz1 hz2 rfl (by decide) _ m (rks o) rfl (HOD.out.alloc _) ⟨W.heap.size, 0, none⟩ 1 1 (rkc ((nx : Int), (gm : Int), (r : Int))) rfl rfl (news_k W ((nx : Int), (gm : Int), (r : Int)) 36) (rkc_one _) (by decide) (by unfold maxLen; omega) (by omega) (by simp; omega) (W.heap.size + 1) (by simp) ?_
        intro q2 cc2 w2 o2 gr2 hl2 hlt2
        have HB2 := hid (HBA.out.grown gr2 (by simp; omega) (fun k hk => (HOD.out.lt k hk).1))
        have HO2 := hid (show w2.ownsRow B 36 3 (.slice (some ⟨q2, 0, none⟩) (m + 1) cc2) (m + 1) (rks (o ++ [(nx, gm, r)])) by rw [show rks (o ++ [(nx, gm, r)]) = rks o ++ rkc ((nx : Int), (gm : Int), (r : Int)) by simp [rks, rkT]]; exact o2)
        refine hKK _ _ (fun _ => HSK.out _ HB2.out) ?_
        clear hKK KK o2 gr2 hl2 hlt2
        try simp only [Act.put, List.setIfInBounds_toArray, List.set_cons_zero, List.set_cons_succ]
        refine tailG_yes (by kernel_rfl) fun KK hKK => ?_
        go_simp
        refine hKK _ _ (fun _ => HSK.out _ HB2.out) ?_
        clear hKK KK
        try simp only [Act.put, List.setIfInBounds_toArray, List.set_cons_zero, List.set_cons_succ]
        refine tailG_nil (NoPanic.normal ?_)
        clear HBA HBD HOD HSS HSK
        obtain ⟨f0, f1⟩ := HPC.out w2 HB2.out
        obtain ⟨a', ea, c0, c1, c2⟩ := HAC.out w2 HB2.out
        cases ea
        have hwW : B ≤ w2.heap.size := by have h5 := HBE.out; have h6 := HB2.out.size; omega
        go_wp2_with (at_builtin; refine wpList_append_lies _ rfl _ _ 25 rfl B 36 i0 (.agg #[.int .i32 0, .int .i32 0, .int .i64 0]) 3 16 Try.underlying25 hi36 hz0 hz1 hz2 rfl (by decide) _ (m + 1) (rks (o ++ [(nx, gm, r)])) rfl (HO2.out.alloc _) ⟨w2.heap.size, 0, none⟩ 1 1 (rkc ((g0 : Int), (g1 : Int), (g2 : Int))) rfl rfl (news_k w2 ((g0 : Int), (g1 : Int), (g2 : Int)) 36) (rkc_one _) (by decide) (by unfold maxLen; omega) (by omega) (by simp; omega) (w2.heap.size + 1) (by simp) ?_; intro q3 c3 w3 o3 gr3 hl3 hlt3; have HB3 := hid ((HB2.out.alloc hwW (.cells #[.int .i32 (g0 : Int), .int .i32 (g1 : Int), .int .i64 (g2 : Int)] 36)).grown gr3 (by simp; omega) (fun k hk => (HO2.out.lt k hk).1)); have HO3 := hid (show w3.ownsRow B 36 3 (.slice (some ⟨q3, 0, none⟩) ((m + 1) + 1) c3) ((m + 1) + 1) (rks (alP r 0 (L.take (i + 1)))) by rw [HSN.out, show rks ((o ++ [(nx, gm, r)]) ++ [(g0, g1, g2)]) = rks (o ++ [(nx, gm, r)]) ++ rkc ((g0 : Int), (g1 : Int), (g2 : Int)) by simp [rks, rkT]]; exact o3); have HM3 := hid (show (m + 1) + 1 = (alP r 0 (L.take (i + 1))).length by rw [HSN.out, List.length_append, ← HML.out]; rfl); clear o3 gr3 hl3 hlt3 f0 f1 c0 c1 c2; obtain ⟨f0, f1⟩ := HPC.out w3 HB3.out; obtain ⟨a', ea, c0, c1, c2⟩ := HAC.out w3 HB3.out; cases ea)
        go_roundw
        case rel => exact ⟨i + 1, (m + 1) + 1, some ⟨q3, 0, none⟩, c3, g1 + 1, by go_num, rfl, rfl, by omega, by omega, HE3, HM3, HO3, HB3⟩
        case measure => simp [intOf]; omega
      · have hgt' : ¬ (nx : Int) < (g0 : Int) := by omega
        rw [if_neg hgt, List.append_nil] at HSN
        have HML := hid (show m = o.length from HM.out)
        clear c0 c1 c2 d0 d1
        obtain ⟨f0, f1⟩ := HPC.out wr HB.out
        obtain ⟨a', ea, c0, c1, c2⟩ := HAC.out wr HB.out
        cases ea
        have hwW : B ≤ wr.heap.size := by have h5 := HBE.out; have h6 := HB.out.size; omega
        go_wp2_with (at_builtin; refine wpList_append_lies _ rfl _ _ 25 rfl B 36 i0 (.agg #[.int .i32 0, .int .i32 0, .int .i64 0]) 3 16 Try.underlying25 hi36 hz0 hz1 hz2 rfl (by decide) _ m (rks (o)) rfl (HO.out.alloc _) ⟨wr.heap.size, 0, none⟩ 1 1 (rkc ((g0 : Int), (g1 : Int), (g2 : Int))) rfl rfl (news_k wr ((g0 : Int), (g1 : Int), (g2 : Int)) 36) (rkc_one _) (by decide) (by unfold maxLen; omega) (by omega) (by simp; omega) (wr.heap.size + 1) (by simp) ?_; intro q3 c3 w3 o3 gr3 hl3 hlt3; have HB3 := hid ((HB.out.alloc hwW (.cells #[.int .i32 (g0 : Int), .int .i32 (g1 : Int), .int .i64 (g2 : Int)] 36)).grown gr3 (by simp; omega) (fun k hk => (HO.out.lt k hk).1)); have HO3 := hid (show w3.ownsRow B 36 3 (.slice (some ⟨q3, 0, none⟩) (m + 1) c3) (m + 1) (rks (alP r 0 (L.take (i + 1)))) by rw [HSN.out, show rks ((o) ++ [(g0, g1, g2)]) = rks (o) ++ rkc ((g0 : Int), (g1 : Int), (g2 : Int)) by simp [rks, rkT]]; exact o3); have HM3 := hid (show m + 1 = (alP r 0 (L.take (i + 1))).length by rw [HSN.out, List.length_append, ← HML.out]; rfl); clear o3 gr3 hl3 hlt3 f0 f1 c0 c1 c2; obtain ⟨f0, f1⟩ := HPC.out w3 HB3.out; obtain ⟨a', ea, c0, c1, c2⟩ := HAC.out w3 HB3.out; cases ea)
        go_roundw
        case rel => exact ⟨i + 1, m + 1, some ⟨q3, 0, none⟩, c3, g1 + 1, by go_num, rfl, rfl, by omega, by omega, HE3, HM3, HO3, HB3⟩
        case measure => simp [intOf]; omega
    · have i3 : ¬ (i : Int) < (n : Int) := by omega
      have htk : L.take i = L := List.take_of_length_le (by have h5 := HN.out; omega)
      rw [htk] at HNX HM HO
      clear htk
      obtain ⟨d0, d1⟩ := HPC.out wr HB.out
      obtain ⟨o, hob⟩ : ∃ o, o = alP r 0 L := ⟨_, rfl⟩
      have HAL := hid (show alA r L = o ++ (if nx ≤ 1114111 then [(nx, 1114111, r)] else []) by unfold alA; rw [hob, ← HNX.out])
      rw [← hob] at HM HO
      clear hob
      by_cases hq : nx ≤ 1114111
      · have hq' : (nx : Int) ≤ 1114111 := by omega
        rw [if_pos hq] at HAL
        go_wp2_with (at_builtin; refine wpList_append_lies _ rfl _ _ 25 rfl B 36 i0 (.agg #[.int .i32 0, .int .i32 0, .int .i64 0]) 3 16 Try.underlying25 hi36 hz0 hz1 hz2 rfl (by decide) _ m (rks o) rfl (HO.out.alloc _) ⟨wr.heap.size, 0, none⟩ 1 1 (rkc ((nx : Int), (1114111 : Int), (r : Int))) rfl rfl (news_k wr ((nx : Int), (1114111 : Int), (r : Int)) 36) (rkc_one _) (by decide) (by unfold maxLen; omega) (by omega) (by simp; omega) (wr.heap.size + 1) (by simp) ?_; intro q3 c3 w3 o3 gr3 hl3 hlt3; have HB3 := hid ((HB.out.alloc hwB (.cells #[.int .i32 (nx : Int), .int .i32 (1114111 : Int), .int .i64 (r : Int)] 36)).grown gr3 (by simp; omega) (fun k hk => (HO.out.lt k hk).1)); have HO3 := hid (show w3.ownsRow B 36 3 (.slice (some ⟨q3, 0, none⟩) (m + 1) c3) (m + 1) (rks (alA r L)) by rw [HAL.out, show rks (o ++ [(nx, 1114111, r)]) = rks o ++ rkc ((nx : Int), (1114111 : Int), (r : Int)) by simp [rks, rkT]]; exact o3); have HM3 := hid (show m + 1 = (alA r L).length by rw [HAL.out, List.length_append, ← HM.out]; rfl); clear o3 gr3 hl3 hlt3)
        go_ret
        exact ⟨_, rfl, by rw [← HM3.out]; exact HO3.out, HB3.out⟩
      · have hq' : ¬ (nx : Int) ≤ 1114111 := by omega
        rw [if_neg hq, List.append_nil] at HAL
        go_wp2
        go_ret
        exact ⟨_, rfl, by rw [HAL.out, ← HM.out]; exact HO.out, HB.out⟩
end Go.Proofs.Ytljlhlcoaajggaa
/- The contract of (*Table).Count (package kerfref03). -/
namespace Go.Proofs.Ytljlhlcoaajggaa
open Go.RowKit

/-- How many numbers of a class lie in ranges. -/
def ctS (cl : Int) : List Tr → Nat
  | [] => 0
  | g :: A => (if (g.2.2 : Int) = cl then g.2.1 + 1 - g.1 else 0) + ctS cl A
theorem ctS_app (cl : Int) : ∀ A B : List Tr, ctS cl (A ++ B) = ctS cl A + ctS cl B
  | [], B => by simp [ctS]
  | g :: A, B => by
    have ih := ctS_app cl A B
    show (if (g.2.2 : Int) = cl then g.2.1 + 1 - g.1 else 0) + ctS cl (A ++ B) = (if (g.2.2 : Int) = cl then g.2.1 + 1 - g.1 else 0) + ctS cl A + ctS cl B
    rw [ih]; omega
theorem cz_app (cl : Int) (A B : List Nat) : cz cl (A ++ B) = cz cl A + cz cl B := by unfold cz; exact List.countP_append
theorem ctS_alP (cl : Int) (r : Nat) : ∀ (A : List Tr) (b : Nat), ctS cl (alP r b A) = cz cl (clq r b A)
  | [], _ => rfl
  | g :: A, b => by
    have ih := ctS_alP cl r A (g.2.1 + 1)
    show ctS cl ((if b < g.1 then [(b, g.1 - 1, r)] else []) ++ g :: alP r (g.2.1 + 1) A) = cz cl (List.replicate (g.1 - b) r ++ (List.replicate (g.2.1 + 1 - g.1) g.2.2 ++ clq r (g.2.1 + 1) A))
    rw [ctS_app, cz_app, cz_app, cz_rep, cz_rep, ← ih]
    show _ + ((if (g.2.2 : Int) = cl then g.2.1 + 1 - g.1 else 0) + ctS cl (alP r (g.2.1 + 1) A)) = _
    have e : ctS cl (if b < g.1 then [(b, g.1 - 1, r)] else []) = if (r : Int) = cl then g.1 - b else 0 := by
      by_cases q : b < g.1
      · rw [if_pos q]
        show (if (r : Int) = cl then g.1 - 1 + 1 - b else 0) + 0 = _
        rw [show g.1 - 1 + 1 - b = g.1 - b by omega, Nat.add_zero]
      · rw [if_neg q, show g.1 - b = 0 by omega]
        show 0 = _
        simp
    rw [e]
theorem ctS_alA (cl : Int) (r : Nat) (L : List Tr) (h : Ris 0 L) : ctS cl (alA r L) = cz cl (clA r L) := by
  unfold alA clA
  have e1 := clq_end r L 0 h
  rw [ctS_app, cz_app, cz_rep, ctS_alP]
  by_cases q : endR 0 L ≤ 1114111
  · rw [if_pos q]
    show _ + ((if (r : Int) = cl then 1114111 + 1 - endR 0 L else 0) + 0) = _
    rw [show 1114111 + 1 - endR 0 L = 1114112 - (clq r 0 L).length by omega, Nat.add_zero]
  · rw [if_neg q, show 1114112 - (clq r 0 L).length = 0 by omega]
    show _ + 0 = _
    simp
theorem alP_ok (r : Nat) : ∀ (A : List Tr) (b : Nat), Ris b A → ∀ g ∈ alP r b A, g.1 ≤ g.2.1 ∧ g.2.1 ≤ 1114111
  | [], _, _, g, hg => by cases hg
  | x :: A, b, h, g, hg => by
    obtain ⟨h1, h2, h3, h4, h5⟩ := h
    rcases List.mem_append.1 (show g ∈ (if b < x.1 then [(b, x.1 - 1, r)] else []) ++ x :: alP r (x.2.1 + 1) A from hg) with h6 | h6
    · split at h6
      · rw [List.mem_singleton.1 h6]
        dsimp only
        omega
      · cases h6
    · rcases List.mem_cons.1 h6 with h7 | h7
      · rw [h7]; exact ⟨h2, h3⟩
      · exact alP_ok r A (x.2.1 + 1) h5 g h7
theorem alA_ok (r : Nat) (L : List Tr) (h : Ris 0 L) (g : Tr) (hg : g ∈ alA r L) : g.1 ≤ g.2.1 ∧ g.2.1 ≤ 1114111 := by
  rcases List.mem_append.1 hg with h6 | h6
  · exact alP_ok r L 0 h g h6
  · split at h6
    · rw [List.mem_singleton.1 h6]
      dsimp only
      omega
    · cases h6
theorem alA_len (r : Nat) (L : List Tr) : (alA r L).length ≤ 2 * L.length + 1 := by
  have h1 := alP_len r L 0
  unfold alA
  rw [List.length_append]
  split <;> simp <;> omega
theorem ctS_le (cl : Int) : ∀ A : List Tr, (∀ g ∈ A, g.1 ≤ g.2.1 ∧ g.2.1 ≤ 1114111) → ctS cl A ≤ 1114112 * A.length
  | [], _ => Nat.le_refl _
  | g :: A, h => by
    have ih := ctS_le cl A fun x hx => h x (List.mem_cons_of_mem _ hx)
    have h1 := h g (List.mem_cons_self ..)
    show (if (g.2.2 : Int) = cl then g.2.1 + 1 - g.1 else 0) + ctS cl A ≤ 1114112 * (A.length + 1)
    split <;> omega

set_option maxHeartbeats 6000000 in
set_option maxRecDepth 100000 in
theorem rcount_any (B' P : Nat) (L : List Tr) (r : Nat) (cl : Int) (w : World) (h : RtAt B' P L r w) (hl : L.length ≤ 1000000) (hR : Ris 0 L) :
    Calls Try.prog 18 #[.pointer (some ⟨P, 0, none⟩), .int .i64 cl] w fun e w' => e = .returned (.int .i64 ((cz cl (clA r L) : Nat) : Int)) ∧ Below w.heap.size w w' := by
  have HAL := hid (rall_any B' P L r w h hl hR)
  have HCT := hid (ctS_alA cl r L hR)
  have HOK := hid (alA_ok r L hR)
  have hml := alA_len r L
  obtain ⟨M, hM⟩ : ∃ M, M = alA r L := ⟨_, rfl⟩
  rw [← hM] at HAL HCT HOK hml
  rw [← HCT.out]
  obtain ⟨n, hn⟩ : ∃ n, n = M.length := ⟨_, rfl⟩
  rw [← hn] at HAL hml
  have HN := hid hn
  have hn2 : n ≤ 2000001 := by omega
  clear h hR hM hn hml HCT
  go_enter Try.func18, Try.ntmps18
  go_wp2_with fail
  refine HAL.out.mono ?_
  rintro e w1 ⟨v1, rfl, o1, b1⟩
  obtain ⟨ao, ac, rfl⟩ := own_form o1
  have HA := hid (rd_own o1)
  have HB1 := hid b1
  clear o1 b1 HAL
  go_wp2
  go_loopw [7, 6] (fun x y wr => ∃ (i s : Nat), x = .int .i64 (i : Int) ∧ y = .int .i64 (s : Int) ∧ i ≤ n ∧ Hid (s = ctS cl (M.take i)) ∧ Hid (Below w1.heap.size w1 wr)) (fun x _ _ => n - (intOf x).toNat)
  case atStart => exact ⟨0, 0, rfl, rfl, by omega, rfl, Below.refl _ _⟩
  case round =>
    obtain ⟨i, s, rfl, rfl, hi, HS, HB⟩ := hrel
    by_cases hlt : i < n
    · have hiM : i < M.length := by have h5 := HN.out; omega
      obtain ⟨a, rfl, _, a0, a1, a2⟩ := HA.out.below HB.out i (rkT M[i]) (by rw [List.getElem?_map, List.getElem?_eq_getElem hiM]; rfl)
      have i3 : (i : Int) < (n : Int) := by omega
      have i0 : (0 : Int) ≤ (i : Int) := by omega
      have HNX := hid (show ctS cl (M.take (i + 1)) = s + ((if (M[i].2.2 : Int) = cl then M[i].2.1 + 1 - M[i].1 else 0) + 0) by rw [List.take_succ_eq_append_getElem hiM, ctS_app, ← HS.out]; rfl)
      have hs : s ≤ 1114112 * 2000001 := by
        have h5 := ctS_le cl (M.take i) fun g hg => HOK.out g (List.mem_of_mem_take hg)
        rw [List.length_take] at h5
        have h6 := HS.out
        have h7 := HN.out
        omega
      obtain ⟨h1, h2⟩ := HOK.out M[i] (List.getElem_mem hiM)
      obtain ⟨g, hg⟩ : ∃ g, g = M[i] := ⟨_, rfl⟩
      rw [← hg] at a0 a1 a2 HNX h1 h2
      obtain ⟨g0, g1, g2⟩ := g
      unfold rkT at a0 a1 a2
      dsimp only at a0 a1 a2 HNX h1 h2
      clear hg hiM
      by_cases q : (g2 : Int) = cl
      · have q' : ((g2 : Int) == cl) = true := by simpa using q
        rw [if_pos q, Nat.add_zero] at HNX
        obtain ⟨d, hd⟩ : ∃ d, d = g1 - g0 := ⟨_, rfl⟩
        have k1 : (g1 : Int) - (g0 : Int) = (d : Int) := by omega
        have k2 : IntKind.i32.wrap (d : Int) = (d : Int) := by rw [IntKind.wrap_i32]; omega
        have k3 : IntKind.i64.wrap (d : Int) = (d : Int) := by rw [IntKind.wrap_i64]; omega
        have k4 : IntKind.i64.wrap ((s : Int) + (d : Int)) = (s : Int) + (d : Int) := by rw [IntKind.wrap_i64]; omega
        have k5 : IntKind.i64.wrap ((s : Int) + (d : Int) + 1) = ((s + d + 1 : Nat) : Int) := by rw [IntKind.wrap_i64]; omega
        have HS2 := hid (show s + d + 1 = ctS cl (M.take (i + 1)) by rw [HNX.out]; omega)
        clear hd q
        go_wp2_with fail
        go_quiet (fail)
        have HBQ := hid (HB.out.trans (below_drewN w1.heap.size wr nq))
        obtain ⟨W, hW⟩ : ∃ W, W = wr.drewN nq := ⟨_, rfl⟩
        rw [← hW] at HBQ ⊢
        clear hW a0 a1 a2
        go_wp2
        go_roundw
        case rel => exact ⟨i + 1, s + d + 1, by go_num, rfl, by omega, HS2, HBQ⟩
        case measure => simp [intOf]; omega
      · have q' : ((g2 : Int) == cl) = false := by simpa using q
        rw [if_neg q, Nat.add_zero, Nat.add_zero] at HNX
        have HS2 := hid HNX.out.symm
        clear q
        go_wp2
        go_roundw
        case rel => exact ⟨i + 1, s, by go_num, rfl, by omega, HS2, HB⟩
        case measure => simp [intOf]; omega
    · have i3 : ¬ (i : Int) < (n : Int) := by omega
      have HSE := hid (show s = ctS cl M by rw [HS.out, List.take_of_length_le (by have h5 := HN.out; omega)])
      go_wp2
      go_ret
      exact ⟨by rw [← HSE.out]; rfl, HB1.out.trans (HB.out.mono HB1.out.size)⟩
end Go.Proofs.Ytljlhlcoaajggaa
/- What the document's Load takes is what Load takes. -/
namespace Go.Proofs.Ytljlhlcoaajggaa

/-- A number in as few bytes as can be, and what is left. -/
def tkq : Nat → List Nat → Option (Nat × List Nat)
  | 0, _ => none
  | _ + 1, [] => none
  | f + 1, c :: r => if c < 128 then some (c, r) else match tkq f r with
    | none => none
    | some (n, r') => if n = 0 then none else some (c % 128 + 128 * n, r')
def tk (c : List Nat) : Option (Nat × List Nat) := tkq 4 c
theorem tkq_vn : ∀ (f n : Nat) (c : List Nat), n < 128 ^ (f + 1) → tkq (f + 1) (vn n ++ c) = some (n, c)
  | f, n, c, h => by
    by_cases h1 : 128 ≤ n
    · cases f with
      | zero => simp at h; omega
      | succ f =>
        have ih := tkq_vn f (n / 128) c (by rw [Nat.pow_succ] at h; omega)
        rw [vn_more n h1]
        show (if n % 128 + 128 < 128 then _ else match tkq (f + 1) (vn (n / 128) ++ c) with | none => none | some (n', r') => if n' = 0 then none else some ((n % 128 + 128) % 128 + 128 * n', r')) = _
        rw [if_neg (by omega), ih]
        show (if n / 128 = 0 then _ else _) = _
        rw [if_neg (by omega)]
        have : (n % 128 + 128) % 128 + 128 * (n / 128) = n := by omega
        rw [this]
    · rw [vn_last n h1]
      show (if n < 128 then _ else _) = _
      rw [if_pos (by omega)]; rfl
theorem tkq_out : ∀ (f : Nat) (c : List Nat) (v : Nat) (r : List Nat), tkq f c = some (v, r) → (∀ x ∈ c, x < 256) → c = vn v ++ r
  | 0, _, _, _, h, _ => by simp [tkq] at h
  | _ + 1, [], _, _, h, _ => by simp [tkq] at h
  | f + 1, x :: c, v, r, h, h8 => by
    have hx := h8 x (by simp)
    unfold tkq at h
    by_cases h1 : x < 128
    · rw [if_pos h1] at h
      simp only [Option.some.injEq, Prod.mk.injEq] at h
      obtain ⟨rfl, rfl⟩ := h
      rw [vn_last _ (by omega)]; rfl
    · rw [if_neg h1] at h
      cases hq : tkq f c with
      | none => rw [hq] at h; simp at h
      | some y =>
        obtain ⟨n, r'⟩ := y
        rw [hq] at h
        dsimp only at h
        by_cases hn : n = 0
        · rw [if_pos hn] at h; simp at h
        · rw [if_neg hn] at h
          simp only [Option.some.injEq, Prod.mk.injEq] at h
          obtain ⟨rfl, rfl⟩ := h
          have ih := tkq_out f c n r' hq (fun y hy => h8 y (by simp [hy]))
          rw [vn_more _ (by omega), ih, show (x % 128 + 128 * n) % 128 + 128 = x by omega, show (x % 128 + 128 * n) / 128 = n by omega]
          rfl
theorem tkq_lt : ∀ (f : Nat) (c : List Nat) (v : Nat) (r : List Nat), tkq f c = some (v, r) → v < 128 ^ f ∧ ∃ k, 0 < k ∧ k ≤ c.length ∧ r = c.drop k
  | 0, _, _, _, h => by simp [tkq] at h
  | _ + 1, [], _, _, h => by simp [tkq] at h
  | f + 1, x :: c, v, r, h => by
    unfold tkq at h
    by_cases h1 : x < 128
    · rw [if_pos h1] at h
      simp only [Option.some.injEq, Prod.mk.injEq] at h
      obtain ⟨rfl, rfl⟩ := h
      refine ⟨?_, 1, by omega, by simp, rfl⟩
      have : 0 < 128 ^ f := Nat.pow_pos (by omega)
      rw [Nat.pow_succ]; omega
    · rw [if_neg h1] at h
      cases hq : tkq f c with
      | none => rw [hq] at h; simp at h
      | some y =>
        obtain ⟨n, r'⟩ := y
        rw [hq] at h
        dsimp only at h
        by_cases hn : n = 0
        · rw [if_pos hn] at h; simp at h
        · rw [if_neg hn] at h
          simp only [Option.some.injEq, Prod.mk.injEq] at h
          obtain ⟨rfl, rfl⟩ := h
          obtain ⟨h2, k, h3, h4, h5⟩ := tkq_lt f c n r' hq
          refine ⟨by rw [Nat.pow_succ]; omega, k + 1, by omega, by simp; omega, ?_⟩
          rw [h5]; rfl
theorem rdn_vn (n : Nat) (c : List Nat) (h : n < 2097152) : rdn (vn n ++ c) = (n, c) := by
  by_cases h1 : 128 ≤ n
  · rw [vn_more n h1]
    by_cases h2 : 128 ≤ n / 128
    · rw [vn_more _ h2, vn_last (n / 128 / 128) (by omega)]
      have e : ∀ (a b d : Nat) (r : List Nat), rdn (a :: b :: d :: r) = if a < 128 then (a, b :: d :: r) else if b < 128 then (a % 128 + b * 128, d :: r) else if d < 128 then (a % 128 + b % 128 * 128 + d * 16384, r) else (0, []) := fun _ _ _ _ => rfl
      show rdn ((n % 128 + 128) :: (n / 128 % 128 + 128) :: (n / 128 / 128) :: c) = _
      rw [e]
      rw [if_neg (by omega), if_neg (by omega), if_pos (by omega)]
      congr 1; omega
    · rw [vn_last _ h2]
      have e : ∀ (a b : Nat) (r : List Nat), b < 128 → rdn (a :: b :: r) = if a < 128 then (a, b :: r) else (a % 128 + b * 128, r) := fun a b r h => by
        unfold rdn
        dsimp only
        rw [if_pos h]
      show rdn ((n % 128 + 128) :: (n / 128) :: c) = _
      rw [e _ _ _ (by omega)]
      rw [if_neg (by omega)]
      congr 1; omega
  · rw [vn_last _ h1]
    show rdn (n :: c) = _
    unfold rdn
    dsimp only
    rw [if_pos (by omega)]
theorem vn_ne (n : Nat) : vn n ≠ [] := by
  by_cases h1 : 128 ≤ n
  · rw [vn_more n h1]; simp
  · rw [vn_last n h1]; simp
/-- Load reads the ranges that Bytes has written. -/
theorem ldl_enL : ∀ (L : List Tr) (f nx : Nat), (enL nx L).length ≤ f → Ris nx L → ldl f nx (enL nx L) = some L
  | [], f, nx, _, _ => by cases f <;> rfl
  | g :: L, 0, nx, h, _ => by
    have : enL nx (g :: L) = [] := List.length_eq_zero_iff.1 (by omega)
    unfold enL at this
    have h2 := vn_ne (g.1 - nx)
    simp [h2] at this
  | g :: L, f + 1, nx, h, hR => by
    obtain ⟨h1, h2, h3, h4, h5⟩ := hR
    have e : enL nx (g :: L) = vn (g.1 - nx) ++ (vn (g.2.1 - g.1) ++ (g.2.2 :: enL (g.2.1 + 1) L)) := rfl
    have hne : enL nx (g :: L) ≠ [] := by rw [e]; simp [vn_ne]
    have r1 : rdn (enL nx (g :: L)) = (g.1 - nx, vn (g.2.1 - g.1) ++ (g.2.2 :: enL (g.2.1 + 1) L)) := by rw [e]; exact rdn_vn _ _ (by omega)
    have r2 : rdn (vn (g.2.1 - g.1) ++ (g.2.2 :: enL (g.2.1 + 1) L)) = (g.2.1 - g.1, g.2.2 :: enL (g.2.1 + 1) L) := rdn_vn _ _ (by omega)
    have hl : (enL (g.2.1 + 1) L).length ≤ f := by rw [e] at h; simp at h; omega
    have ih := ldl_enL L f (g.2.1 + 1) hl h5
    rw [ldl_step hne, r1]
    dsimp only
    rw [r2]
    dsimp only
    rw [if_neg (by omega), show nx + (g.1 - nx) + (g.2.1 - g.1) + 1 = g.2.1 + 1 by omega, show nx + (g.1 - nx) = g.1 by omega, show g.1 + (g.2.1 - g.1) = g.2.1 by omega]
    show Option.map _ (ldl f (g.2.1 + 1) (enL (g.2.1 + 1) L)) = _
    rw [ih]; rfl
theorem ldR_enb (r : Nat) (L : List Tr) (hR : Ris 0 L) : ldR (enb r L) = some L := by
  have hl := ris_len L 0 (by omega) hR
  have e : rdn (enb r L).tail = (L.length, enL 0 L) := rdn_vn _ _ (by omega)
  unfold ldR
  rw [e]
  exact ldl_enL L _ 0 (Nat.le_refl _) hR

/-- None has the rest's class; none goes on where one of its class has ended. -/
def Nr (r : Nat) : Option Nat → Nat → List Tr → Prop
  | _, _, [] => True
  | p, nx, g :: L => g.2.2 ≠ r ∧ ¬ (g.1 = nx ∧ p = some g.2.2) ∧ Nr r (some g.2.2) (g.2.1 + 1) L
/-- What the document's Load reads. -/
def rdL (r : Nat) : Nat → Nat → Option Nat → List Nat → Option (List Tr)
  | 0, _, _, c => if c = [] then some [] else none
  | n + 1, nx, p, c => match tk c with
    | none => none
    | some (g, c1) => match tk c1 with
      | none => none
      | some (m, c2) => match c2 with
        | [] => none
        | k :: c3 => if 1114111 < nx + g + m then none else if k = r ∨ (g = 0 ∧ p = some k) then none else (rdL r n (nx + g + m + 1) (some k) c3).map ((nx + g, nx + g + m, k) :: ·)
def rl (b : List Nat) : Option (List Tr) := match b with
  | [] => none
  | r :: c => match tk c with
    | none => none
    | some (n, c1) => rdL r n 0 none c1
theorem rdL_enL (r : Nat) : ∀ (L : List Tr) (nx : Nat) (p : Option Nat), Ris nx L → Nr r p nx L → rdL r L.length nx p (enL nx L) = some L
  | [], nx, p, _, _ => rfl
  | g :: L, nx, p, hR, hN => by
    obtain ⟨h1, h2, h3, h4, h5⟩ := hR
    obtain ⟨n1, n2, n3⟩ := hN
    have e : enL nx (g :: L) = vn (g.1 - nx) ++ (vn (g.2.1 - g.1) ++ (g.2.2 :: enL (g.2.1 + 1) L)) := rfl
    have t1 : tk (enL nx (g :: L)) = some (g.1 - nx, vn (g.2.1 - g.1) ++ (g.2.2 :: enL (g.2.1 + 1) L)) := by rw [e]; exact tkq_vn 3 _ _ (show _ < 268435456 by omega)
    have t2 : tk (vn (g.2.1 - g.1) ++ (g.2.2 :: enL (g.2.1 + 1) L)) = some (g.2.1 - g.1, g.2.2 :: enL (g.2.1 + 1) L) := tkq_vn 3 _ _ (show _ < 268435456 by omega)
    have ih := rdL_enL r L (g.2.1 + 1) (some g.2.2) h5 n3
    show (match tk (enL nx (g :: L)) with | none => none | some (a, c1) => match tk c1 with | none => none | some (m, c2) => match c2 with | [] => none | k :: c3 => if 1114111 < nx + a + m then none else if k = r ∨ (a = 0 ∧ p = some k) then none else (rdL r L.length (nx + a + m + 1) (some k) c3).map ((nx + a, nx + a + m, k) :: ·)) = _
    rw [t1]
    dsimp only
    rw [t2]
    dsimp only
    rw [if_neg (by omega), if_neg (fun hh => hh.elim (fun h => n1 h) (fun h => n2 ⟨by omega, h.2⟩)), show nx + (g.1 - nx) + (g.2.1 - g.1) + 1 = g.2.1 + 1 by omega, show nx + (g.1 - nx) = g.1 by omega, show g.1 + (g.2.1 - g.1) = g.2.1 by omega, ih]
    rfl
theorem rdL_out (r : Nat) : ∀ (n nx : Nat) (p : Option Nat) (c : List Nat) (L : List Tr), (∀ x ∈ c, x < 256) → rdL r n nx p c = some L → c = enL nx L ∧ L.length = n ∧ Ris nx L ∧ Nr r p nx L
  | 0, nx, p, c, L, h8, h => by
    unfold rdL at h
    by_cases hc : c = []
    · rw [if_pos hc] at h
      simp only [Option.some.injEq] at h
      subst h; subst hc
      exact ⟨rfl, rfl, trivial, trivial⟩
    · rw [if_neg hc] at h; simp at h
  | n + 1, nx, p, c, L, h8, h => by
    unfold rdL at h
    cases ht : tk c with
    | none => rw [ht] at h; simp at h
    | some y =>
      obtain ⟨g, c1⟩ := y
      rw [ht] at h
      dsimp only at h
      have e1 := tkq_out 4 c g c1 ht h8
      have m1 : ∀ x ∈ c1, x < 256 := fun x hx => h8 x (by rw [e1]; simp [hx])
      cases ht2 : tk c1 with
      | none => rw [ht2] at h; simp at h
      | some y =>
        obtain ⟨m, c2⟩ := y
        rw [ht2] at h
        dsimp only at h
        have e2 := tkq_out 4 c1 m c2 ht2 m1
        have m2 : ∀ x ∈ c2, x < 256 := fun x hx => m1 x (by rw [e2]; simp [hx])
        cases c2 with
        | nil => simp at h
        | cons k c3 =>
          dsimp only at h
          by_cases hM : 1114111 < nx + g + m
          · rw [if_pos hM] at h; simp at h
          · rw [if_neg hM] at h
            by_cases hK : k = r ∨ (g = 0 ∧ p = some k)
            · rw [if_pos hK] at h; simp at h
            · rw [if_neg hK] at h
              cases hq : rdL r n (nx + g + m + 1) (some k) c3 with
              | none => rw [hq] at h; simp at h
              | some M =>
                rw [hq] at h
                simp only [Option.map_some, Option.some.injEq] at h
                subst h
                obtain ⟨q1, q2, q3, q4⟩ := rdL_out r n (nx + g + m + 1) (some k) c3 M (fun x hx => m2 x (by simp [hx])) hq
                refine ⟨?_, by simp [q2], ⟨by show nx ≤ nx + g; omega, by show nx + g ≤ nx + g + m; omega, by show nx + g + m ≤ _; omega, m2 k (by simp), q3⟩, fun h => hK (.inl h), fun h => hK (.inr ⟨by have h5 := h.1; dsimp only at h5; omega, h.2⟩), q4⟩
                show c = vn (nx + g - nx) ++ (vn (nx + g + m - (nx + g)) ++ (k :: enL (nx + g + m + 1) M))
                rw [show nx + g - nx = g by omega, show nx + g + m - (nx + g) = m by omega, ← q1, ← e2]
                exact e1
theorem nrAL_len (r : Nat) : ∀ (A o : List Tr), (nrA r o A).length ≤ o.length + A.length
  | [], o => by show o.length ≤ _; simp
  | g :: A, o => by
    show (if g.2.2 = r then nrA r o A else nrA r (jA o g) A).length ≤ _
    split
    · have := nrAL_len r A o; simp; omega
    · have h1 := nrAL_len r A (jA o g)
      have h2 : (jA o g).length ≤ o.length + 1 := by
        rcases List.eq_nil_or_concat o with rfl | ⟨Q, z, rfl⟩
        · simp [jA_nil]
        · rw [List.concat_eq_append, jA_snoc]
          split <;> simp
      simp; omega
/-- The last one's class, and where it ends. -/
def lcl (o : List Tr) : Option Nat := o.getLast?.map fun z => z.2.2
theorem nr_of_len (r : Nat) : ∀ (A o : List Tr), (nrA r o A).length = o.length + A.length → Nr r (lcl o) (endR 0 o) A
  | [], _, _ => trivial
  | g :: A, o, h => by
    have e : nrA r o (g :: A) = if g.2.2 = r then nrA r o A else nrA r (jA o g) A := rfl
    rw [e] at h
    by_cases hc : g.2.2 = r
    · rw [if_pos hc] at h
      have := nrAL_len r A o
      simp at h; omega
    · rw [if_neg hc] at h
      have h1 := nrAL_len r A (jA o g)
      rcases List.eq_nil_or_concat o with rfl | ⟨Q, z, rfl⟩
      · have ih := nr_of_len r A (jA [] g) (by rw [h, jA_nil]; simp; omega)
        exact ⟨hc, fun h => by simp [lcl] at h, ih⟩
      · rw [List.concat_eq_append] at h h1 ⊢
        rw [jA_snoc] at h h1
        by_cases hz : z.2.1 + 1 = g.1 ∧ z.2.2 = g.2.2
        · rw [if_pos hz] at h h1
          simp at h h1; omega
        · rw [if_neg hz] at h
          have ih := nr_of_len r A (Q ++ [z, g]) (by rw [h]; simp; omega)
          have e3 : Q ++ [z, g] = (Q ++ [z]) ++ [g] := by simp
          rw [e3, endR_snoc] at ih
          refine ⟨hc, fun h => hz ?_, ?_⟩
          · rw [endR_snoc] at h
            refine ⟨h.1.symm, ?_⟩
            have h5 := h.2
            simp [lcl] at h5
            exact h5
          · have e4 : lcl ((Q ++ [z]) ++ [g]) = some g.2.2 := by simp [lcl]
            rw [e4] at ih
            exact ih
theorem nrA_of_nr (r : Nat) : ∀ (A o : List Tr), Nr r (lcl o) (endR 0 o) A → nrA r o A = o ++ A
  | [], o, _ => by show o = _; simp
  | g :: A, o, h => by
    obtain ⟨h1, h2, h3⟩ := h
    have e : nrA r o (g :: A) = if g.2.2 = r then nrA r o A else nrA r (jA o g) A := rfl
    have ej : jA o g = o ++ [g] := by
      rcases List.eq_nil_or_concat o with rfl | ⟨Q, z, rfl⟩
      · rfl
      · rw [List.concat_eq_append] at h2 ⊢
        rw [jA_snoc, if_neg, List.append_assoc]
        · rfl
        · intro hz
          refine h2 ⟨?_, ?_⟩
          · rw [endR_snoc]; exact hz.1.symm
          · simp [lcl]; exact hz.2
    rw [e, if_neg h1, ej, nrA_of_nr r A (o ++ [g]) (by rw [endR_snoc, show lcl (o ++ [g]) = some g.2.2 by simp [lcl]]; exact h3)]
    simp
/-- The ranges of a table are in their normal form. -/
theorem rgs_nr (r : Nat) (hr : r < 256) (C : List Nat) (h : C.length = 1114112) (hc : ∀ c ∈ C, c < 256) : Nr r none 0 (rgs r C) := by
  have h1 := nrA_rgs r hr (rgs r C) (rgs_ris r C h hc)
  rw [clA_rgs r C h hc] at h1
  exact nr_of_len r (rgs r C) [] (by rw [h1]; simp)
theorem nr_rgs (r : Nat) (hr : r < 256) (L : List Tr) (hR : Ris 0 L) (hN : Nr r none 0 L) : rgs r (clA r L) = L := by
  rw [← nrA_rgs r hr L hR, nrA_of_nr r L [] hN]; rfl
/-- What the document's Load takes Load takes, and it is the same. -/
theorem rl_some (b : List Nat) (h8 : ∀ c ∈ b, c < 256) (L : List Tr) (h : rl b = some L) : lds b = some L ∧ Ris 0 L ∧ Nr (ldr b) none 0 L ∧ b = enb (ldr b) L ∧ rgs (ldr b) (clA (ldr b) L) = L := by
  cases b with
  | nil => simp [rl] at h
  | cons r c =>
    unfold rl at h
    dsimp only at h
    have m0 : ∀ x ∈ c, x < 256 := fun x hx => h8 x (by simp [hx])
    cases ht : tk c with
    | none => rw [ht] at h; simp at h
    | some y =>
      obtain ⟨n, c1⟩ := y
      rw [ht] at h
      dsimp only at h
      have e1 := tkq_out 4 c n c1 ht m0
      obtain ⟨q1, q2, q3, q4⟩ := rdL_out r n 0 none c1 L (fun x hx => m0 x (by rw [e1]; simp [hx])) h
      have e : r :: c = enb r L := by unfold enb; rw [q2, ← q1, ← e1]
      have hg := nr_rgs r (h8 r (by simp)) L q3 q4
      have el : ldr (r :: c) = r := rfl
      rw [el]
      refine ⟨?_, q3, q4, e, hg⟩
      have hl : ldR (r :: c) = some L := by rw [e]; exact ldR_enb r L q3
      unfold lds
      rw [hl]
      dsimp only
      rw [el, hg, if_pos e.symm]
/-- What the document's Load does not take Load does not take. -/
theorem rl_none (b : List Nat) (h8 : ∀ c ∈ b, c < 256) (hR : ∀ L, ldR b = some L → Ris 0 L) (h : rl b = none) : lds b = none := by
  cases hl : ldR b with
  | none => unfold lds; rw [hl]
  | some L =>
    unfold lds
    rw [hl]
    dsimp only
    rw [if_neg]
    intro he
    cases b with
    | nil => unfold enb at he; simp at he
    | cons r c =>
      have el : ldr (r :: c) = r := rfl
      rw [el] at he
      have hr := h8 r (by simp)
      have hRL := hR L hl
      have hcl := clA_len r L hRL
      have hc2 := clA_256 r L hr hRL
      obtain ⟨M, hM⟩ : ∃ M, M = rgs r (clA r L) := ⟨_, rfl⟩
      have r1 : Ris 0 M := by rw [hM]; exact rgs_ris r _ hcl hc2
      have r2 : Nr r none 0 M := by rw [hM]; exact rgs_nr r hr _ hcl hc2
      rw [← hM] at he
      have hlen := ris_len M 0 (by omega) r1
      have h5 : rl (enb r M) = some M := by
        show (match tk (vn M.length ++ enL 0 M) with | none => none | some (n, c1) => rdL r n 0 none c1) = _
        have t1 : tk (vn M.length ++ enL 0 M) = some (M.length, enL 0 M) := tkq_vn 3 _ _ (show _ < 268435456 by omega)
        rw [t1]
        exact rdL_enL r M 0 none r1 r2
      rw [he, h] at h5
      cases h5
end Go.Proofs.Ytljlhlcoaajggaa
/- What the document tells of a block by its ranges is the block's runs: blocks are alike just if these are. -/
namespace Go.Proofs.Ytljlhlcoaajggaa

/-- Ranges that follow one another, from b to the end. -/
def Con : Nat → List Tr → Prop
  | b, [] => b = 1114112
  | b, g :: R => g.1 = b ∧ g.1 ≤ g.2.1 ∧ g.2.1 ≤ 1114111 ∧ g.2.2 < 256 ∧ Con (g.2.1 + 1) R
/-- Neighbours have unlike classes. -/
def Dj : Option Nat → List Tr → Prop
  | _, [] => True
  | p, g :: R => p ≠ some g.2.2 ∧ Dj (some g.2.2) R
def Cls (f : Nat → Nat) (A : List Tr) : Prop := ∀ g ∈ A, ∀ x, g.1 ≤ x → x ≤ g.2.1 → f x = g.2.2
/-- The runs of a list: where each ends, and its class. -/
def rb : Nat → List Nat → List Nat
  | _, [] => []
  | p, [c] => [p, c]
  | p, c :: d :: R => if c = d then rb (p + 1) (d :: R) else p :: c :: rb (p + 1) (d :: R)
/-- What the document tells of the block at lo. -/
def sgF (lo : Nat) : List Tr → List Nat
  | [] => []
  | g :: R => if g.1 ≤ lo + 127 then (min g.2.1 (lo + 127) - lo) :: g.2.2 :: sgF lo R else []
def bl (f : Nat → Nat) (p n : Nat) : List Nat := (List.range' p n).map f

theorem rb_hd : ∀ (R : List Nat) (q c : Nat), ∃ e t, rb q (c :: R) = e :: c :: t ∧ q ≤ e
  | [], q, c => ⟨q, [], rfl, Nat.le_refl _⟩
  | d :: R, q, c => by
    by_cases h : c = d
    · subst h
      obtain ⟨e, t, h1, h2⟩ := rb_hd R (q + 1) c
      exact ⟨e, t, by show (if c = c then rb (q + 1) (c :: R) else _) = _; rw [if_pos rfl, h1], by omega⟩
    · exact ⟨q, rb (q + 1) (d :: R), by show (if c = d then _ else _) = _; rw [if_neg h], Nat.le_refl _⟩
theorem rb_inj : ∀ (X Y : List Nat) (q : Nat), X.length = Y.length → rb q X = rb q Y → X = Y
  | [], [], _, _, _ => rfl
  | [], _ :: _, _, h, _ => by simp at h
  | _ :: _, [], _, h, _ => by simp at h
  | [c], [d], q, _, h => by
    have : [q, c] = [q, d] := h
    simp at this
    rw [this]
  | [_], _ :: _ :: _, _, h, _ => by simp at h
  | _ :: _ :: _, [_], _, h, _ => by simp at h
  | c :: x :: X, d :: y :: Y, q, hl, h => by
    have hl' : (x :: X).length = (y :: Y).length := by simpa using hl
    obtain ⟨e1, t1, a1, b1⟩ := rb_hd (x :: X) q c
    obtain ⟨e2, t2, a2, b2⟩ := rb_hd (y :: Y) q d
    have hcd : c = d := by
      have h5 := h
      rw [a1, a2] at h5
      simp at h5
      exact h5.2.1
    subst hcd
    have u1 : rb q (c :: x :: X) = if c = x then rb (q + 1) (x :: X) else q :: c :: rb (q + 1) (x :: X) := rfl
    have u2 : rb q (c :: y :: Y) = if c = y then rb (q + 1) (y :: Y) else q :: c :: rb (q + 1) (y :: Y) := rfl
    rw [u1, u2] at h
    obtain ⟨f1, s1, c1, d1⟩ := rb_hd X (q + 1) x
    obtain ⟨f2, s2, c2, d2⟩ := rb_hd Y (q + 1) y
    by_cases h1 : c = x
    · by_cases h2 : c = y
      · rw [if_pos h1, if_pos h2] at h
        rw [rb_inj (x :: X) (y :: Y) (q + 1) hl' h]
      · rw [if_pos h1, if_neg h2, c1] at h
        simp at h
        omega
    · by_cases h2 : c = y
      · rw [if_neg h1, if_pos h2, c2] at h
        simp at h
        omega
      · rw [if_neg h1, if_neg h2] at h
        simp at h
        rw [rb_inj (x :: X) (y :: Y) (q + 1) hl' h]
theorem rb_rep : ∀ (m q c : Nat) (X : List Nat), (X.head? ≠ some c) → rb q (List.replicate (m + 1) c ++ X) = (q + m) :: c :: rb (q + m + 1) X
  | 0, q, c, [], _ => rfl
  | 0, q, c, d :: R, h => by
    have hcd : ¬ c = d := fun e => h (by rw [e]; rfl)
    show (if c = d then _ else q :: c :: rb (q + 1) (d :: R)) = _
    rw [if_neg hcd]
    rfl
  | m + 1, q, c, X, h => by
    have ih := rb_rep m (q + 1) c X h
    have e : List.replicate (m + 1 + 1) c ++ X = c :: c :: (List.replicate m c ++ X) := by rw [List.replicate_succ, List.replicate_succ]; rfl
    have e2 : List.replicate (m + 1) c ++ X = c :: (List.replicate m c ++ X) := by rw [List.replicate_succ]; rfl
    rw [e]
    show (if c = c then rb (q + 1) (c :: (List.replicate m c ++ X)) else _) = _
    rw [if_pos rfl, ← e2, ih, show q + 1 + m = q + (m + 1) by omega]
theorem bl_split (f : Nat → Nat) (p m n : Nat) : bl f p (m + n) = bl f p m ++ bl f (p + m) n := by
  unfold bl
  rw [← List.map_append, List.range'_append_1]
theorem bl_const (f : Nat → Nat) (c : Nat) : ∀ (n p : Nat), (∀ x, p ≤ x → x < p + n → f x = c) → bl f p n = List.replicate n c
  | 0, _, _ => rfl
  | n + 1, p, h => by
    show f p :: bl f (p + 1) n = _
    rw [h p (Nat.le_refl _) (by omega), bl_const f c n (p + 1) (fun x h1 h2 => h x (by omega) (by omega)), List.replicate_succ]
theorem sg_is (f : Nat → Nat) (lo : Nat) (hlo : lo + 127 ≤ 1114111) : ∀ (R : List Tr) (g : Tr) (p : Nat), g.1 ≤ p → p ≤ g.2.1 → Con (g.2.1 + 1) R → Dj (some g.2.2) R → Cls f (g :: R) → lo ≤ p → p ≤ lo + 127 → sgF lo (g :: R) = rb (p - lo) (bl f p (lo + 128 - p))
  | R, g, p, h1, h2, hC, hD, hf, h3, h4 => by
    have e : sgF lo (g :: R) = (min g.2.1 (lo + 127) - lo) :: g.2.2 :: sgF lo R := by
      show (if g.1 ≤ lo + 127 then _ else _) = _
      rw [if_pos (by omega)]
    rw [e]
    by_cases hg : lo + 127 ≤ g.2.1
    · have hb : bl f p (lo + 128 - p) = List.replicate (lo + 127 - p + 1) g.2.2 ++ [] := by
        rw [bl_const f g.2.2 (lo + 128 - p) p (fun x q1 q2 => hf g (by simp) x (by omega) (by omega)), List.append_nil, show lo + 128 - p = lo + 127 - p + 1 by omega]
      rw [hb, rb_rep _ _ _ _ (by simp)]
      have hs : sgF lo R = [] := by
        cases R with
        | nil => rfl
        | cons h R =>
          have : h.1 = g.2.1 + 1 := hC.1
          show (if h.1 ≤ lo + 127 then _ else _) = _
          rw [if_neg (by omega)]
      rw [hs, Nat.min_eq_right hg, show p - lo + (lo + 127 - p) = lo + 127 - lo by omega]
      rfl
    · cases R with
      | nil =>
        have : g.2.1 + 1 = 1114112 := hC
        omega
      | cons h R =>
        obtain ⟨q1, q2, q3, q4, q5⟩ := hC
        obtain ⟨d1, d2⟩ := hD
        have hb : bl f p (lo + 128 - p) = List.replicate (g.2.1 - p + 1) g.2.2 ++ bl f (g.2.1 + 1) (lo + 128 - (g.2.1 + 1)) := by
          rw [show lo + 128 - p = (g.2.1 - p + 1) + (lo + 128 - (g.2.1 + 1)) by omega, bl_split, bl_const f g.2.2 _ p (fun x q1 q2 => hf g (by simp) x (by omega) (by omega)), show p + (g.2.1 - p + 1) = g.2.1 + 1 by omega]
        have hh : (bl f (g.2.1 + 1) (lo + 128 - (g.2.1 + 1))).head? ≠ some g.2.2 := by
          rw [show lo + 128 - (g.2.1 + 1) = (lo + 127 - (g.2.1 + 1)) + 1 by omega]
          show some (f (g.2.1 + 1)) ≠ _
          rw [hf h (by simp) (g.2.1 + 1) (by omega) (by omega)]
          exact fun e => d1 (by rw [Option.some.inj e])
        have ih := sg_is f lo hlo R h (g.2.1 + 1) (by omega) (by omega) q5 d2 (fun y hy => hf y (by simp at hy ⊢; exact .inr hy)) (by omega) (by omega)
        rw [hb, rb_rep _ _ _ _ hh, ih, Nat.min_eq_left (by omega), show p - lo + (g.2.1 - p) = g.2.1 - lo by omega, show g.2.1 - lo + 1 = g.2.1 + 1 - lo by omega]
/-- The ranges of all numbers from b on. -/
def alB (r b : Nat) (L : List Tr) : List Tr := alP r b L ++ (if endR b L ≤ 1114111 then [(endR b L, 1114111, r)] else [])
theorem alB_nil (r b : Nat) : alB r b [] = if b ≤ 1114111 then [(b, 1114111, r)] else [] := rfl
theorem alB_cons (r b : Nat) (g : Tr) (L : List Tr) : alB r b (g :: L) = (if b < g.1 then [(b, g.1 - 1, r)] else []) ++ g :: alB r (g.2.1 + 1) L := by
  unfold alB
  rw [endR_cons]
  show ((if b < g.1 then [(b, g.1 - 1, r)] else []) ++ g :: alP r (g.2.1 + 1) L) ++ _ = _
  simp
theorem con_alB (r : Nat) (hr : r < 256) : ∀ (L : List Tr) (b : Nat), Ris b L → b ≤ 1114112 → Con b (alB r b L)
  | [], b, _, hb => by
    rw [alB_nil]
    split
    · rename_i h
      exact ⟨rfl, h, Nat.le_refl _, hr, rfl⟩
    · show b = 1114112
      omega
  | g :: L, b, h, hb => by
    obtain ⟨h1, h2, h3, h4, h5⟩ := h
    have ih := con_alB r hr L (g.2.1 + 1) h5 (by omega)
    rw [alB_cons]
    split
    · rename_i hl
      exact ⟨rfl, by show b ≤ g.1 - 1; omega, by show g.1 - 1 ≤ _; omega, hr, by show g.1 = g.1 - 1 + 1; omega, h2, h3, h4, ih⟩
    · exact ⟨by omega, h2, h3, h4, ih⟩
theorem dj_alB (r : Nat) : ∀ (L : List Tr) (b : Nat) (p : Option Nat), Ris b L → Nr r p b L → p ≠ some r → Dj p (alB r b L)
  | [], b, p, _, _, hp => by
    rw [alB_nil]
    split
    · exact ⟨hp, trivial⟩
    · trivial
  | g :: L, b, p, h, hN, hp => by
    obtain ⟨h1, h2, h3, h4, h5⟩ := h
    obtain ⟨n1, n2, n3⟩ := hN
    have ih := dj_alB r L (g.2.1 + 1) (some g.2.2) h5 n3 (fun e => n1 (Option.some.inj e))
    rw [alB_cons]
    split
    · exact ⟨hp, fun e => n1 (Option.some.inj e).symm, ih⟩
    · exact ⟨fun e => n2 ⟨by omega, e⟩, ih⟩
theorem con_ge : ∀ (A : List Tr) (b : Nat), Con b A → ∀ g ∈ A, b ≤ g.1 ∧ g.1 ≤ g.2.1 ∧ g.2.1 ≤ 1114111 ∧ g.2.2 < 256
  | [], _, _, g, h => by cases h
  | x :: A, b, hC, g, h => by
    obtain ⟨h1, h2, h3, h4, h5⟩ := hC
    rcases List.mem_cons.1 h with rfl | h
    · exact ⟨by omega, h2, h3, h4⟩
    · obtain ⟨k1, k2⟩ := con_ge A _ h5 g h
      exact ⟨by omega, k2⟩
theorem cls_alB (r : Nat) (hr : r < 256) : ∀ (L : List Tr) (b : Nat), Ris b L → b ≤ 1114112 → ∀ g ∈ alB r b L, ∀ x, g.1 ≤ x → x ≤ g.2.1 → gtR r (x : Int) L = g.2.2
  | [], b, _, _, g, hg, x, _, _ => by
    rw [alB_nil] at hg
    split at hg
    · simp at hg; subst hg; rfl
    · cases hg
  | y :: L, b, h, hb, g, hg, x, hx1, hx2 => by
    obtain ⟨h1, h2, h3, h4, h5⟩ := h
    have e : ∀ z : Int, gtR r z (y :: L) = if ((y.1 : Int) ≤ z ∧ z ≤ (y.2.1 : Int)) then y.2.2 else gtR r z L := fun z => rfl
    rw [alB_cons] at hg
    rcases List.mem_append.1 hg with hg | hg
    · split at hg
      · simp at hg
        subst hg
        dsimp only at hx1 hx2
        rw [e, if_neg (by omega), gtR_low r L (y.2.1 + 1) x (by omega) h5]
      · cases hg
    · rcases List.mem_cons.1 hg with rfl | hg
      · rw [e, if_pos (by omega)]
      · have hc := con_ge _ _ (con_alB r hr L (y.2.1 + 1) h5 (by omega)) g hg
        rw [e, if_neg (by omega)]
        exact cls_alB r hr L (y.2.1 + 1) h5 (by omega) g hg x hx1 hx2
theorem con_at : ∀ (A : List Tr) (b i : Nat) (hi : i < A.length), Con b A → Con (A[i].2.1 + 1) (A.drop (i + 1)) ∧ (∀ p, Dj p A → Dj (some A[i].2.2) (A.drop (i + 1))) ∧ (A[i].2.1 < 1114111 → ∃ h : i + 1 < A.length, A[i + 1].1 = A[i].2.1 + 1)
  | [], _, i, hi, _ => by simp at hi
  | g :: A, b, 0, _, hC => by
    obtain ⟨h1, h2, h3, h4, h5⟩ := hC
    refine ⟨h5, fun p hp => hp.2, fun hlt => ?_⟩
    cases A with
    | nil =>
      have h6 : g.2.1 + 1 = 1114112 := h5
      have h7 : g.2.1 < 1114111 := hlt
      omega
    | cons x A => exact ⟨by simp, h5.1⟩
  | g :: A, b, i + 1, hi, hC => by
    obtain ⟨h1, h2, h3, h4, h5⟩ := hC
    obtain ⟨i1, i2, i3⟩ := con_at A _ i (by simpa using hi) h5
    exact ⟨i1, fun p hp => i2 _ hp.2, fun hlt => by
      obtain ⟨k1, k2⟩ := i3 hlt
      exact ⟨by simp; omega, k2⟩⟩
theorem con_up : ∀ (A : List Tr) (b i j : Nat) (hi : i < A.length) (hj : j < A.length), Con b A → i ≤ j → A[i].2.1 ≤ A[j].2.1
  | [], _, i, _, hi, _, _, _ => by simp at hi
  | g :: A, b, 0, 0, _, _, _, _ => Nat.le_refl _
  | g :: A, b, 0, j + 1, _, hj, hC, _ => by
    obtain ⟨h1, h2, h3, h4, h5⟩ := hC
    have hj' : j < A.length := by simpa using hj
    have h6 := con_ge A _ h5 A[j] (List.getElem_mem hj')
    show g.2.1 ≤ A[j].2.1
    omega
  | g :: A, b, i + 1, 0, _, _, _, h => by omega
  | g :: A, b, i + 1, j + 1, hi, hj, hC, h => con_up A _ i j (by simpa using hi) (by simpa using hj) hC.2.2.2.2 (by omega)
/-- A block of the table, number by number. -/
theorem blk_is (F : List (List Nat)) (h : ok128 F) (j : Nat) (hj : j < F.length) : F[j] = bl (fun x => F.flatten.getD x 0) (128 * j) 128 := by
  have hl : F[j].length = 128 := h F[j] (List.getElem_mem hj)
  apply List.ext_getElem?
  intro i
  unfold bl
  rcases Nat.lt_or_ge i 128 with hi | hi
  · obtain ⟨b, h1, h2⟩ := flat_get F (128 * j + i) h (by omega)
    rw [show (128 * j + i) / 128 = j by omega, List.getElem?_eq_getElem hj] at h1
    rw [show (128 * j + i) % 128 = i by omega] at h2
    have h1' : F[j] = b := Option.some.inj h1
    rw [h1', h2, List.getElem?_map, List.getElem?_range' hi]
    have hlen := flat_len F h
    have hx : 128 * j + i < F.flatten.length := by rw [hlen]; omega
    simp [List.getD, List.getElem?_eq_getElem hx]
  · rw [List.getElem?_eq_none (by omega), List.getElem?_eq_none (by simp; omega)]
/-- What is told of a block is its runs. -/
theorem sig_is (r : Nat) (hr : r < 256) (L : List Tr) (hR : Ris 0 L) (hN : Nr r none 0 L) (F : List (List Nat)) (h128 : ok128 F) (hfl : F.flatten = clA r L) (hF : F.length = 8704) (i j : Nat) (hi : i < (alA r L).length) (hj : j < 8704) (h1 : (alA r L)[i].1 ≤ 128 * j) (h2 : 128 * j ≤ (alA r L)[i].2.1) :
    sgF (128 * j) ((alA r L).drop i) = rb 0 (F[j]'(by omega)) := by
  have hA : alA r L = alB r 0 L := rfl
  have hC := con_alB r hr L 0 hR (by omega)
  have hD := dj_alB r L 0 none hR hN (by simp)
  have hK := cls_alB r hr L 0 hR (by omega)
  rw [← hA] at hC hD hK
  obtain ⟨c1, c2, _⟩ := con_at (alA r L) 0 i hi hC
  have hdr : (alA r L).drop i = (alA r L)[i] :: (alA r L).drop (i + 1) := List.drop_eq_getElem_cons hi
  have hf : Cls (fun x => F.flatten.getD x 0) ((alA r L)[i] :: (alA r L).drop (i + 1)) := fun g hg x hx1 hx2 => by
    have hg' : g ∈ alA r L := by rw [← hdr] at hg; exact List.mem_of_mem_drop hg
    have h5 := hK g hg' x hx1 hx2
    have h6 := (con_ge _ _ hC g hg').2.2.1
    rw [gtR_clA r L x (by omega) hR] at h5
    show F.flatten.getD x 0 = _
    rw [hfl]; exact h5
  rw [hdr, sg_is (fun x => F.flatten.getD x 0) (128 * j) (by omega) _ _ (128 * j) h1 h2 c1 (c2 none hD) hf (Nat.le_refl _) (by omega), blk_is F h128 j (by omega), Nat.sub_self, show 128 * j + 128 - 128 * j = 128 by omega]
theorem rb_256 : ∀ (X : List Nat) (q : Nat), (∀ c ∈ X, c < 256) → q + X.length ≤ 256 → ∀ c ∈ rb q X, c < 256
  | [], _, _, _, c, h => by cases h
  | [x], q, hX, hl, c, h => by
    have h' : c ∈ [q, x] := h
    rcases List.mem_cons.1 h' with rfl | h'
    · simp at hl; omega
    · simp at h'; subst h'; exact hX _ (by simp)
  | x :: y :: X, q, hX, hl, c, h => by
    have ih := rb_256 (y :: X) (q + 1) (fun z hz => hX z (by simp at hz ⊢; exact .inr hz)) (by simp at hl ⊢; omega)
    have u : rb q (x :: y :: X) = if x = y then rb (q + 1) (y :: X) else q :: x :: rb (q + 1) (y :: X) := rfl
    rw [u] at h
    split at h
    · exact ih c h
    · rcases List.mem_cons.1 h with rfl | h
      · simp at hl; omega
      · rcases List.mem_cons.1 h with rfl | h
        · exact hX _ (by simp)
        · exact ih c h
end Go.Proofs.Ytljlhlcoaajggaa
/- The runes of a text: the contracts of utf.Count and of the document's Decode and Marks. -/
namespace Go.Proofs
open Go.Shelf
def Try.lays195_ren : Go.Shelf.Ren := ⟨fun | 195 => 76 | n => n, fun | 9 => 9 | 3 => 3 | 0 => 0 | 4 => 4 | n => n, fun | n => n⟩
theorem Try.lays195 : Go.Proofs.Lays.n195 Try.prog Try.lays195_ren := {
  mixed := by kernel_rfl
  f195 := Try.func76.trans (congrArg some (by kernel_rfl))
  t0 := Try.underlying0
  a0 := Try.isAgg0
  z0 := Try.sizeOf0
  v0 := Try.zeroValue0
  t3 := Try.underlying3
  a3 := Try.isAgg3
  z3 := Try.sizeOf3
  v3 := Try.zeroValue3
  t4 := Try.underlying4
  a4 := Try.isAgg4
  z4 := Try.sizeOf4
  v4 := Try.zeroValue4
  t9 := Try.underlying9
  a9 := Try.isAgg9
  z9 := Try.sizeOf9
  v9 := Try.zeroValue9 }
open Go.RowKit in
theorem Try.utf8_RuneCountInString (s : ByteArray) (w : World) (hs : s.size < 9223372036854775807) :
    Calls Try.prog 76 #[.string s] w fun e w' => e = .returned (.int .i64 (Lib.runeCount s)) ∧ ∃ pos, w' = w.iter s pos := Any.utf8_RuneCountInString Try.lays195 s w hs
namespace Ytljlhlcoaajggaa
open Go.RowKit

/-- What Decode answers. -/
def dec (l : List UInt8) : Nat × Nat := if l = [] then (0, 0) else Lib.decodeGo ⟨l.toArray⟩
theorem ext_drop (l : List UInt8) (t : Nat) : (⟨l.toArray⟩ : ByteArray).extract t l.length = ⟨(l.drop t).toArray⟩ := by
  apply ByteArray.ext
  simp [ByteArray.data_extract, List.take_of_length_le]
set_option maxHeartbeats 400000 in
theorem ucount_any (l : List UInt8) (w : World) (hl : l.length < 9223372036854775807) :
    Calls Try.prog 67 #[.string ⟨l.toArray⟩] w fun e w' => e = .returned (.int .i64 (Lib.runeCount ⟨l.toArray⟩)) ∧ Below w.heap.size w w' := by
  have hs' : (⟨l.toArray⟩ : ByteArray).size < 9223372036854775807 := by show l.toArray.size < _; simpa using hl
  have HS := hid hs'
  clear hs'
  go_enter Try.func67, Try.ntmps67
  go_wp2_with (go_at_call 76; refine (Try.utf8_RuneCountInString ⟨l.toArray⟩ _ HS.out).mono ?_; rintro e w1 ⟨rfl, pos, rfl⟩)
  go_ret
  exact ⟨rfl, (Below.refl _ _).alloc (Nat.le_refl _) _⟩
/-- A byte of a text, as a number. -/
def byt (l : List UInt8) (i : Nat) : Int := ((l.getD i 0).toNat : Int)
theorem byt_bd (l : List UInt8) (i : Nat) : 0 ≤ byt l i ∧ byt l i < 256 := by
  have := (l.getD i 0).toNat_lt; unfold byt; omega
theorem byt_eq (l : List UInt8) (t : Nat) (h : t < (⟨l.toArray⟩ : ByteArray).size) : (((⟨l.toArray⟩ : ByteArray)[t]'h).toNat : Int) = byt l t := by
  have h' : t < l.length := by have : t < l.toArray.size := h; simpa using this
  unfold byt
  rw [show (⟨l.toArray⟩ : ByteArray)[t]'h = l[t] from rfl]
  simp [List.getD, h']
def rlN (c : Int) : Int := if c < 128 then 1 else if c < 192 then 0 else if c < 224 then 2 else if c < 240 then 3 else if c < 248 then 4 else 0
def rlB (c : Int) : Int := if c < 128 then c else if c < 192 then 0 else if c < 224 then c % 32 else if c < 240 then c % 16 else if c < 248 then c % 8 else 0
/-- Whether a number is a rune. -/
def isR (r : Int) : Bool := decide (0 ≤ r) && (decide (r ≤ 1114111) && (decide (r < 55296) || decide (57343 < r)))
def widI (r : Int) : Int := if isR r = false then 0 else if r < 128 then 1 else if r < 2048 then 2 else if r < 65536 then 3 else 4
theorem get_list (l : List UInt8) (i : Nat) : (⟨l.toArray⟩ : ByteArray).get! i = l.getD i 0 := by
  show l.toArray.getD i default = l.getD i 0
  by_cases h : i < l.length
  · simp [Array.getD, List.getD, h]
  · simp [Array.getD, List.getD, h]; rfl
theorem dec_numbers (l : List UInt8) (h : l ≠ []) : dec l = Lib.decodeN l.length (l.getD 0 0).toNat (l.getD 1 0).toNat (l.getD 2 0).toNat (l.getD 3 0).toNat := by
  unfold dec
  rw [if_neg h]
  unfold Lib.decodeGo
  have hs : (⟨l.toArray⟩ : ByteArray).size = l.length := by show l.toArray.size = _; simp
  rw [if_neg (by rw [hs]; exact fun e => h (List.length_eq_zero_iff.1 e)), Lib.decode_at, hs]
  simp only [get_list, Nat.zero_add, Nat.sub_zero]
/-- The bits, so many bytes on. -/
def acc (l : List UInt8) : Nat → Int
  | 0 => rlB (byt l 0)
  | k + 1 => acc l k * 64 + byt l (k + 1) % 64
theorem rlB_bd (c : Int) (h : 0 ≤ c) : 0 ≤ rlB c ∧ rlB c ≤ 127 := by unfold rlB; omega
theorem acc_bd (l : List UInt8) : ∀ k, 0 ≤ acc l k ∧ acc l k + 1 ≤ 128 * 64 ^ k
  | 0 => by have := rlB_bd (byt l 0) (byt_bd l 0).1; simp [acc]; omega
  | k + 1 => by
    obtain ⟨h1, h2⟩ := acc_bd l k
    have hp : (64 : Int) ^ (k + 1) = 64 * 64 ^ k := by rw [Int.pow_succ]; omega
    simp only [acc, hp]
    omega
theorem dec_short (l : List UInt8) (h : l ≠ []) (hn : rlN (byt l 0) = 0 ∨ (l.length : Int) < rlN (byt l 0)) : dec l = (65533, 1) := by
  rw [dec_numbers l h]
  have h1 : 1 ≤ l.length := by cases l with | nil => exact absurd rfl h | cons => simp
  unfold rlN byt at hn
  generalize (l.getD 0 0).toNat = b0 at *
  unfold Lib.decodeN
  repeat' split
  all_goals first | rfl | (exfalso; omega)
theorem dec_fail (l : List UInt8) (h : l ≠ []) (k : Nat) (h1 : 1 ≤ k) (hk : (k : Int) < rlN (byt l 0)) (hb : ¬ byt l k / 64 = 2) : dec l = (65533, 1) := by
  rw [dec_numbers l h]
  have h4 : rlN (byt l 0) ≤ 4 := by unfold rlN; omega
  have hk3 : k = 1 ∨ k = 2 ∨ k = 3 := by omega
  rcases hk3 with rfl | rfl | rfl
  all_goals
    unfold rlN byt at hk
    unfold byt at hb
    generalize (l.getD 0 0).toNat = b0 at *
    generalize (l.getD 1 0).toNat = b1 at *
    generalize (l.getD 2 0).toNat = b2 at *
    generalize (l.getD 3 0).toNat = b3 at *
    unfold Lib.decodeN
    repeat' split
    all_goals first | rfl | (exfalso; omega)
theorem isR_iff (r : Int) : isR r = true ↔ 0 ≤ r ∧ r ≤ 1114111 ∧ (r < 55296 ∨ 57343 < r) := by simp [isR]
theorem widI_val (x : Nat) : widI (x : Int) = if x ≤ 1114111 ∧ (x < 55296 ∨ 57343 < x) then (if x < 128 then 1 else if x < 2048 then 2 else if x < 65536 then 3 else 4) else 0 := by
  have hi := isR_iff (x : Int)
  unfold widI
  by_cases h : x ≤ 1114111 ∧ (x < 55296 ∨ 57343 < x)
  · rw [hi.2 (by omega), if_pos h, if_neg (by decide)]
    repeat' split
    all_goals omega
  · have hr : isR (x : Int) = false := by
      cases hr : isR (x : Int) with
      | false => rfl
      | true => have := hi.1 hr; omega
    rw [hr, if_neg h, if_pos rfl]
theorem wid_pick3 (x : Nat) (hx : x < 65536) : (if x ≥ 2048 ∧ (x < 55296 ∨ (57344 ≤ x ∧ x ≤ 1114111)) then (x, 3) else (65533, 1)) = if widI (x : Int) = ((3 : Nat) : Int) then ((x : Int).toNat, 3) else (65533, 1) := by
  rw [widI_val, Int.toNat_natCast]
  repeat' split
  all_goals first | rfl | (exfalso; omega)
theorem wid_pick4 (x : Nat) : (if x ≥ 65536 ∧ (x < 55296 ∨ (57344 ≤ x ∧ x ≤ 1114111)) then (x, 4) else (65533, 1)) = if widI (x : Int) = ((4 : Nat) : Int) then ((x : Int).toNat, 4) else (65533, 1) := by
  rw [widI_val, Int.toNat_natCast]
  repeat' split
  all_goals first | rfl | (exfalso; omega)
theorem dec_end (l : List UInt8) (h : l ≠ []) (n : Nat) (hn : rlN (byt l 0) = n) (hn1 : 1 ≤ n) (hl : n ≤ l.length) (hb : ∀ k, 1 ≤ k → k < n → byt l k / 64 = 2) :
    dec l = if widI (acc l (n - 1)) = n then ((acc l (n - 1)).toNat, n) else (65533, 1) := by
  rw [dec_numbers l h]
  have h4 : rlN (byt l 0) ≤ 4 := by unfold rlN; omega
  have hn4 : n = 1 ∨ n = 2 ∨ n = 3 ∨ n = 4 := by omega
  have g0 := (l.getD 0 0).toNat_lt
  have g1 := (l.getD 1 0).toNat_lt
  have g2 := (l.getD 2 0).toNat_lt
  have g3 := (l.getD 3 0).toNat_lt
  rcases hn4 with rfl | rfl | rfl | rfl
  · simp only [Nat.sub_self, acc]
    unfold rlN byt at hn
    unfold byt
    generalize (l.getD 0 0).toNat = b0 at *
    have hb0 : b0 < 128 := by omega
    have e1 : rlB b0 = b0 := by unfold rlB; omega
    have e2 : widI b0 = 1 := by simp [widI, isR]; omega
    rw [e1, e2]
    unfold Lib.decodeN
    rw [if_pos hb0]
    simp
  · have hb1 := hb 1 (by omega) (by omega)
    simp only [Nat.reduceSub, acc]
    unfold rlN byt at hn
    unfold byt at hb1 ⊢
    simp only [Nat.zero_add] at *
    generalize (l.getD 0 0).toNat = b0 at *
    generalize (l.getD 1 0).toNat = b1 at *
    have e1 : rlB b0 = (b0 : Int) % 32 := by unfold rlB; omega
    rw [e1]
    unfold Lib.decodeN widI isR
    simp
    repeat' split
    all_goals first | rfl | (exfalso; omega) | (simp; omega)
  · have hb1 := hb 1 (by omega) (by omega)
    have hb2 := hb 2 (by omega) (by omega)
    simp only [Nat.reduceSub, acc]
    unfold rlN byt at hn
    unfold byt at hb1 hb2 ⊢
    simp only [Nat.zero_add, Nat.reduceAdd] at *
    generalize (l.getD 0 0).toNat = b0 at *
    generalize (l.getD 1 0).toNat = b1 at *
    generalize (l.getD 2 0).toNat = b2 at *
    have e1 : rlB b0 = (b0 : Int) % 16 := by unfold rlB; omega
    rw [e1]
    have e2 : ((b0 : Int) % 16 * 64 + (b1 : Int) % 64) * 64 + (b2 : Int) % 64 = ((b0 % 16 * 4096 + b1 % 64 * 64 + b2 % 64 : Nat) : Int) := by omega
    rw [e2]
    unfold Lib.decodeN
    rw [if_neg (by omega), if_neg (by omega), if_pos (by omega)]
    have hx : b0 % 16 * 4096 + b1 % 64 * 64 + b2 % 64 < 65536 := by omega
    generalize b0 % 16 * 4096 + b1 % 64 * 64 + b2 % 64 = x at *
    exact wid_pick3 x hx
  · have hb1 := hb 1 (by omega) (by omega)
    have hb2 := hb 2 (by omega) (by omega)
    have hb3 := hb 3 (by omega) (by omega)
    simp only [Nat.reduceSub, acc]
    unfold rlN byt at hn
    unfold byt at hb1 hb2 hb3 ⊢
    simp only [Nat.zero_add, Nat.reduceAdd] at *
    generalize (l.getD 0 0).toNat = b0 at *
    generalize (l.getD 1 0).toNat = b1 at *
    generalize (l.getD 2 0).toNat = b2 at *
    generalize (l.getD 3 0).toNat = b3 at *
    have e1 : rlB b0 = (b0 : Int) % 8 := by unfold rlB; omega
    rw [e1]
    have e2 : (((b0 : Int) % 8 * 64 + (b1 : Int) % 64) * 64 + (b2 : Int) % 64) * 64 + (b3 : Int) % 64 = ((b0 % 8 * 262144 + b1 % 64 * 4096 + b2 % 64 * 64 + b3 % 64 : Nat) : Int) := by omega
    rw [e2]
    unfold Lib.decodeN
    rw [if_neg (by omega), if_neg (by omega), if_neg (by omega), if_pos (by omega)]
    generalize b0 % 8 * 262144 + b1 % 64 * 4096 + b2 % 64 * 64 + b3 % 64 = x at *
    exact wid_pick4 x
theorem ret2 {a a' b b' : Int} (h1 : a = a') (h2 : b = b') : Ending.returned (Value.tuple #[.int .i64 a, .int .i32 b]) = .returned (.tuple #[.int .i64 a', .int .i32 b']) := by rw [h1, h2]
set_option maxHeartbeats 400000 in
theorem rlead_any (c : Int) (w : World) (h0 : 0 ≤ c) (h9 : c < 256) :
    Calls Try.prog 81 #[.int .u8 c] w fun e w' => e = .returned (.tuple #[.int .i64 (rlN c), .int .i32 (rlB c)]) ∧ w' = w := by
  by_cases h1 : c < 128
  · go_enter Try.func81, Try.ntmps81
    go_wp2
    go_ret2
    exact ⟨ret2 (by unfold rlN; omega) (by unfold rlB; omega), rfl⟩
  by_cases h2 : c < 192
  · go_enter Try.func81, Try.ntmps81
    go_wp2
    go_ret2
    exact ⟨ret2 (by unfold rlN; omega) (by unfold rlB; omega), rfl⟩
  by_cases h3 : c < 224
  · go_enter Try.func81, Try.ntmps81
    go_wp2
    go_ret2
    exact ⟨ret2 (by unfold rlN; omega) (by unfold rlB; omega), rfl⟩
  by_cases h4 : c < 240
  · go_enter Try.func81, Try.ntmps81
    go_wp2
    go_ret2
    exact ⟨ret2 (by unfold rlN; omega) (by unfold rlB; omega), rfl⟩
  by_cases h5 : c < 248
  · go_enter Try.func81, Try.ntmps81
    go_wp2
    go_ret2
    exact ⟨ret2 (by unfold rlN; omega) (by unfold rlB; omega), rfl⟩
  · go_enter Try.func81, Try.ntmps81
    go_wp2
    go_ret2
    exact ⟨ret2 (by unfold rlN; omega) (by unfold rlB; omega), rfl⟩
theorem rlead_eq (c n r : Int) (w : World) (h0 : 0 ≤ c) (h9 : c < 256) (hn : rlN c = n) (hr : rlB c = r) :
    Calls Try.prog 81 #[.int .u8 c] w fun e w' => e = .returned (.tuple #[.int .i64 n, .int .i32 r]) ∧ w' = w := by
  subst hn; subst hr
  exact rlead_any c w h0 h9
theorem cont_test (b : Int) (h0 : 0 ≤ b) (h1 : b < 256) : (bits BinOp.and IntKind.u8 b 192 != 128) = !decide (b / 64 = 2) := by
  rw [Lib.runeStart_of b h0 h1]
  unfold Lib.runeStart
  by_cases h : b / 64 = 2 <;> simp [h]
set_option maxHeartbeats 400000 in
theorem rune_any (r : Int) (w : World) :
    Calls Try.prog 83 #[.int .i32 r] w fun e w' => e = .returned (.bool (isR r)) ∧ w' = w := by
  by_cases h1 : 0 ≤ r
  · by_cases h2 : r ≤ 1114111
    · by_cases h3 : r < 55296
      · have HR := hid (show isR r = true by simp [isR, h1, h2, h3])
        go_enter Try.func83, Try.ntmps83
        go_wp2
        go_ret
        exact ⟨by rw [HR.out]; rfl, rfl⟩
      · by_cases h4 : 57343 < r
        · have HR := hid (show isR r = true by simp [isR, h1, h2, h4])
          go_enter Try.func83, Try.ntmps83
          go_wp2
          go_ret
          exact ⟨by rw [HR.out]; rfl, rfl⟩
        · have HR := hid (show isR r = false by simp [isR, h3, h4])
          go_enter Try.func83, Try.ntmps83
          go_wp2
          go_ret
          exact ⟨by rw [HR.out]; rfl, rfl⟩
    · have HR := hid (show isR r = false by simp [isR, h2])
      go_enter Try.func83, Try.ntmps83
      go_wp2
      go_ret
      exact ⟨by rw [HR.out]; rfl, rfl⟩
  · have HR := hid (show isR r = false by simp [isR, h1])
    go_enter Try.func83, Try.ntmps83
    go_wp2
    go_ret
    exact ⟨by rw [HR.out]; rfl, rfl⟩
set_option maxHeartbeats 400000 in
theorem width_any (r : Int) (w : World) :
    Calls Try.prog 82 #[.int .i32 r] w fun e w' => e = .returned (.int .i64 (widI r)) ∧ w' = w := by
  cases hr : isR r with
  | false =>
    have HW := hid (show widI r = 0 by simp [widI, hr])
    go_enter Try.func82, Try.ntmps82
    go_wp2_with (go_at_call 83; refine (rune_any _ _).mono ?_; rintro e w' ⟨rfl, rfl⟩)
    go_ret
    exact ⟨by rw [HW.out]; rfl, rfl⟩
  | true =>
    have hw : widI r = if r < 128 then 1 else if r < 2048 then 2 else if r < 65536 then 3 else 4 := by simp [widI, hr]
    by_cases h1 : r < 128
    · have HW := hid (show widI r = 1 by rw [hw]; omega)
      clear hw
      go_enter Try.func82, Try.ntmps82
      go_wp2_with (go_at_call 83; refine (rune_any _ _).mono ?_; rintro e w' ⟨rfl, rfl⟩)
      go_ret
      exact ⟨by rw [HW.out]; rfl, rfl⟩
    by_cases h2 : r < 2048
    · have HW := hid (show widI r = 2 by rw [hw]; omega)
      clear hw
      go_enter Try.func82, Try.ntmps82
      go_wp2_with (go_at_call 83; refine (rune_any _ _).mono ?_; rintro e w' ⟨rfl, rfl⟩)
      go_ret
      exact ⟨by rw [HW.out]; rfl, rfl⟩
    by_cases h3 : r < 65536
    · have HW := hid (show widI r = 3 by rw [hw]; omega)
      clear hw
      go_enter Try.func82, Try.ntmps82
      go_wp2_with (go_at_call 83; refine (rune_any _ _).mono ?_; rintro e w' ⟨rfl, rfl⟩)
      go_ret
      exact ⟨by rw [HW.out]; rfl, rfl⟩
    · have HW := hid (show widI r = 4 by rw [hw]; omega)
      clear hw
      go_enter Try.func82, Try.ntmps82
      go_wp2_with (go_at_call 83; refine (rune_any _ _).mono ?_; rintro e w' ⟨rfl, rfl⟩)
      go_ret
      exact ⟨by rw [HW.out]; rfl, rfl⟩
set_option maxHeartbeats 400000 in
theorem rdec_any (l : List UInt8) (w : World) (hl : l.length ≤ 1000000000000) :
    Calls Try.prog 80 #[.string ⟨l.toArray⟩] w fun e w' => e = .returned (.tuple #[.int .i32 (dec l).1, .int .i64 (dec l).2]) ∧ w' = w := by
  by_cases h : l = []
  · subst h
    go_enter Try.func80, Try.ntmps80
    go_wp2
    go_ret2
    exact ⟨rfl, rfl⟩
  have h1 : 1 ≤ l.length := by cases l with | nil => exact absurd rfl h | cons => simp
  have hsz : 0 < (⟨l.toArray⟩ : ByteArray).size := by show 0 < l.toArray.size; simp; omega
  obtain ⟨b0, b1⟩ := byt_bd l 0
  have he := byt_eq l 0 hsz
  have hl0 : ((l.length : Int) == 0) = false := beq_eq_false_iff_ne.2 (by omega)
  obtain ⟨c, hc⟩ : ∃ c, c = byt l 0 := ⟨_, rfl⟩
  rw [← hc] at he b0 b1
  have HC := hid hc
  clear hc
  have hn4 : 0 ≤ rlN c ∧ rlN c ≤ 4 := by unfold rlN; omega
  by_cases hz : rlN c = 0
  · have HD := hid (dec_short l h (Or.inl (by rw [← HC.out]; exact hz)))
    have hz' : (rlN c == 0) = true := beq_iff_eq.2 hz
    clear hz
    go_enter Try.func80, Try.ntmps80
    go_wp2_with (go_at_call 81; refine (rlead_any _ _ b0 b1).mono ?_; rintro e w' ⟨rfl, rfl⟩)
    go_ret2
    exact ⟨by rw [HD.out]; rfl, rfl⟩
  have hz' : (rlN c == 0) = false := beq_eq_false_iff_ne.2 hz
  by_cases hs : (l.length : Int) < rlN c
  · have HD := hid (dec_short l h (Or.inr (by rw [← HC.out]; exact hs)))
    clear hz
    go_enter Try.func80, Try.ntmps80
    go_wp2_with (go_at_call 81; refine (rlead_any _ _ b0 b1).mono ?_; rintro e w' ⟨rfl, rfl⟩)
    go_ret2
    exact ⟨by rw [HD.out]; rfl, rfl⟩
  obtain ⟨n, hn⟩ : ∃ n : Nat, rlN c = n := ⟨(rlN c).toNat, by omega⟩
  have HN := hid hn
  have hnl : n ≤ l.length := by omega
  have hn1 : 1 ≤ n := by omega
  have hn5 : n ≤ 4 := by omega
  have hacc0 : rlB c = acc l 0 := by rw [HC.out]; rfl
  have HA0 := hid hacc0
  clear hz hs hacc0 hn hz' hn4
  go_enter Try.func80, Try.ntmps80
  have hnl' : ¬ (l.length : Int) < (n : Int) := by omega
  have hn0' : ((n : Int) == 0) = false := beq_eq_false_iff_ne.2 (by omega)
  go_wp2_with (go_at_call 81; refine (rlead_eq _ _ _ _ b0 b1 HN.out HA0.out).mono ?_; rintro e w' ⟨rfl, rfl⟩)
  go_loop [5, 6] (fun r i => ∃ k : Nat, k + 1 ≤ n ∧ i = .int .i64 ((k : Int) + 1) ∧ r = .int .i32 (acc l k) ∧ Hid (∀ j, 1 ≤ j → j < k + 1 → byt l j / 64 = 2)) (fun _ i => n - (intOf i).toNat)
  case atStart => exact ⟨0, by omega, by simp, rfl, fun j h1 h2 => by omega⟩
  case round =>
    obtain ⟨k, hk, rfl, rfl, HB⟩ := hrel
    by_cases hlt : k + 1 < n
    · have hlt' : ((k : Int) + 1) < n := by omega
      have hsk : k + 1 < (⟨l.toArray⟩ : ByteArray).size := by show k + 1 < l.toArray.size; simp; omega
      have hek := byt_eq l (k + 1) hsk
      obtain ⟨d, hd⟩ : ∃ d, d = byt l (k + 1) := ⟨_, rfl⟩
      obtain ⟨d0, d1⟩ := byt_bd l (k + 1)
      rw [← hd] at d0 d1 hek
      have hct := cont_test d d0 d1
      have hab := acc_bd l k
      have hk2 : k ≤ 2 := by omega
      have hab1 : acc l k < 524288 := by
        have : k = 0 ∨ k = 1 ∨ k = 2 := by omega
        rcases this with rfl | rfl | rfl <;> omega
      have hab0 := hab.1
      have HDD := hid hd
      clear hab hd
      by_cases hcn : d / 64 = 2
      · have HX := hid (show acc l (k + 1) = acc l k * 64 + d % 64 by rw [HDD.out]; rfl)
        have HB2 := hid (show ∀ j, 1 ≤ j → j < k + 1 + 1 → byt l j / 64 = 2 from fun j h1 h2 => by
          by_cases e : j = k + 1
          · rw [e, ← HDD.out]; exact hcn
          · exact HB.out j h1 (by omega))
        simp only [hcn, decide_true, Bool.not_true] at hct
        clear hcn
        generalize acc l k = a at *
        go_wp2
        go_round
        case rel => exact ⟨k + 1, by omega, by go_num, by rw [HX.out], HB2⟩
        case measure => simp [intOf]; omega
      · have HD := hid (dec_fail l h (k + 1) (by omega) (by rw [← HC.out, HN.out]; omega) (by rw [← HDD.out]; exact hcn))
        simp only [hcn, decide_false, Bool.not_false] at hct
        clear hcn
        go_wp2
        go_ret2
        exact ⟨by rw [HD.out]; rfl, rfl⟩
    · have hke : k = n - 1 := by omega
      have hge : ¬ ((k : Int) + 1) < n := by omega
      have hD := dec_end l h n (by rw [← HC.out]; exact HN.out) hn1 hnl (fun j h1 h2 => HB.out j h1 (by omega))
      rw [← hke] at hD
      clear hke
      by_cases hw : widI (acc l k) = n
      · rw [if_pos hw] at hD
        have HD := hid hD
        have hw' : (widI (acc l k) != (n : Int)) = false := by simp [hw]
        have hab := (acc_bd l k).1
        clear hD hw
        go_wp2_with (go_at_call 82; refine (width_any _ _).mono ?_; rintro e w' ⟨rfl, rfl⟩)
        go_ret2
        exact ⟨by rw [HD.out]; simp [Int.toNat_of_nonneg hab], rfl⟩
      · rw [if_neg hw] at hD
        have HD := hid hD
        have hw' : (widI (acc l k) != (n : Int)) = true := by simp [hw]
        clear hD hw
        go_wp2_with (go_at_call 82; refine (width_any _ _).mono ?_; rintro e w' ⟨rfl, rfl⟩)
        go_ret2
        exact ⟨by rw [HD.out]; rfl, rfl⟩
/-- A mark: the place, the width, the rune, whether it is a fault. -/
structure Mk where
  pl : Int
  wd : Int
  ru : Int
  bad : Bool
theorem Try.info122 : (Try.prog.info? 122).map (fun i => (i.zero, i.size, i.bytes)) = some (some (.agg #[.int .i64 0, .int .i64 0, .int .i32 0, .bool false]), 4, 24) := by kernel_rfl
/-- The cells of a mark. -/
def mrkc (m : Mk) : List Value := [.int .i64 m.pl, .int .i64 m.wd, .int .i32 m.ru, .bool m.bad]
def mrkcs (ms : List Mk) : List Value := ms.flatMap mrkc
theorem mrkcs_snoc (ms : List Mk) (m : Mk) : mrkcs (ms ++ [m]) = mrkcs ms ++ mrkc m := by simp [mrkcs]
theorem mrkc_one (m : Mk) : ∀ u ∈ mrkc m, u.oneCell' = true := by
  intro u hu
  simp only [mrkc, List.mem_cons, List.mem_nil_iff, or_false] at hu
  rcases hu with rfl | rfl | rfl | rfl <;> rfl
theorem news_one (wr : World) (cs : Array Value) (t : TypeId) : ∀ j u, cs.toList[j]? = some u → (wr.alloc (.cells cs t)).cell? ((⟨wr.heap.size, 0, none⟩ : Addr).add j) = some u := World.news_of_block (heap_alloc_new wr _)
theorem dec_eqL (l : List UInt8) (h : l ≠ []) : dec l = Lib.decodeL l := by
  unfold dec
  rw [if_neg h]
  unfold Lib.decodeGo
  have hs : (⟨l.toArray⟩ : ByteArray).size = l.length := by show l.toArray.size = _; simp
  rw [if_neg (by rw [hs]; exact fun e => h (List.length_eq_zero_iff.1 e))]
  rfl
theorem dec_ge (l : List UInt8) (h : l ≠ []) : 1 ≤ (dec l).2 := by rw [dec_eqL l h]; exact Lib.decodeL_width l
theorem dec_le (l : List UInt8) (h : l ≠ []) : (dec l).2 ≤ l.length := by rw [dec_eqL l h]; exact Lib.decodeL_le l h
theorem dec_rune (l : List UInt8) (h : l ≠ []) : (dec l).1 ≤ 1114111 := by rw [dec_eqL l h]; exact Lib.decodeL_rune l
/-- The mark of the first rune. -/
def mk1 (p : Nat) (l : List UInt8) : Mk := ⟨p, (dec l).2, (dec l).1, decide ((dec l).2 = 1) && decide ((dec l).1 = 65533)⟩
def mksF : Nat → Nat → List UInt8 → List Mk
  | 0, _, _ => []
  | k + 1, p, l => if l = [] then [] else mk1 p l :: mksF k (p + (dec l).2) (l.drop (dec l).2)
theorem mksF_any : ∀ (k k' p : Nat) (l : List UInt8), l.length ≤ k → l.length ≤ k' → mksF k p l = mksF k' p l
  | 0, 0, _, _, _, _ => rfl
  | 0, k' + 1, p, l, h, _ => by
    have : l = [] := List.length_eq_zero_iff.1 (by omega)
    subst this; simp [mksF]
  | k + 1, 0, p, l, _, h => by
    have : l = [] := List.length_eq_zero_iff.1 (by omega)
    subst this; simp [mksF]
  | k + 1, k' + 1, p, l, h, h' => by
    unfold mksF
    by_cases e : l = []
    · simp [e]
    · rw [if_neg e, if_neg e]
      have := dec_ge l e
      rw [mksF_any k k' (p + (dec l).2) (l.drop (dec l).2) (by simp; omega) (by simp; omega)]
/-- The marks of a text that begins at a place. -/
def mks (p : Nat) (l : List UInt8) : List Mk := mksF l.length p l
theorem mks_nil (p : Nat) : mks p [] = [] := rfl
theorem mks_cons (p : Nat) (l : List UInt8) (h : l ≠ []) : mks p l = mk1 p l :: mks (p + (dec l).2) (l.drop (dec l).2) := by
  have h1 := dec_ge l h
  have h2 := dec_le l h
  unfold mks
  rw [mksF_any l.length (l.length - 1 + 1) p l (by omega) (by omega)]
  conv => lhs; unfold mksF
  rw [if_neg h, mksF_any (l.length - 1) (l.drop (dec l).2).length _ _ (by simp; omega) (by omega)]
/-- What was found so far and what is to come make the whole. -/
def PartM (l : List UInt8) (ms : List Mk) (t : Nat) : Prop := t ≤ l.length ∧ ms ++ mks t (l.drop t) = mks 0 l ∧ ms.length ≤ t
theorem PartM.start (l : List UInt8) : PartM l [] 0 := by simp [PartM]
theorem PartM.step {l : List UInt8} {ms : List Mk} {t : Nat} (h : PartM l ms t) (ht : t < l.length) : PartM l (ms ++ [mk1 t (l.drop t)]) (t + (dec (l.drop t)).2) := by
  obtain ⟨h1, h2, h3⟩ := h
  have hne : l.drop t ≠ [] := fun e => by have := congrArg List.length e; simp at this; omega
  have g1 := dec_ge _ hne
  have g2 := dec_le _ hne
  simp only [List.length_drop] at g2
  refine ⟨by omega, ?_, by simp; omega⟩
  rw [← h2, mks_cons t (l.drop t) hne]
  simp [List.drop_drop]
theorem PartM.done {l : List UInt8} {ms : List Mk} {t : Nat} (h : PartM l ms t) (ht : ¬ t < l.length) : ms = mks 0 l := by
  have h2 := h.2.1
  rw [List.drop_of_length_le (by omega), mks_nil] at h2
  simpa using h2
theorem rdec_eq (s : ByteArray) (l : List UInt8) (w : World) (hs : s = ⟨l.toArray⟩) (hl : l.length ≤ 1000000000000) :
    Calls Try.prog 80 #[.string s] w fun e w' => e = .returned (.tuple #[.int .i32 (dec l).1, .int .i64 (dec l).2]) ∧ w' = w := by
  subst hs
  exact rdec_any l w hl
set_option maxHeartbeats 1000000 in
theorem marks_any (l : List UInt8) (w : World) (hl : l.length ≤ 1000000000000) :
    Calls Try.prog 78 #[.string ⟨l.toArray⟩] w fun e w' => ∃ v, e = .returned v ∧ w'.ownsRow w.heap.size 122 4 v (mks 0 l).length (mrkcs (mks 0 l)) ∧ Below w.heap.size w w' := by
  obtain ⟨i0, hi, hz0, hz1, hz2⟩ := info_parts Try.info122
  go_enter Try.func78, Try.ntmps78
  go_wp2
  go_loopw [3, 4] (fun v i wr => ∃ (t : Nat) (q : Int) (ms : List Mk), i = .int .i64 q ∧ q = t ∧ Hid (PartM l ms t) ∧ wr.ownsRow w.heap.size 122 4 v ms.length (mrkcs ms) ∧ Below w.heap.size w wr) (fun _ i _ => l.length - (intOf i).toNat)
  case atStart => exact ⟨0, 0, [], rfl, rfl, PartM.start l, World.ownsRow_nil _ _ _ _, Below.refl _ _⟩
  case round =>
    obtain ⟨t, q, ms, rfl, rfl, HP, hown, hB⟩ := hrel
    have htl : t ≤ l.length := HP.out.1
    have hml : ms.length ≤ t := HP.out.2.2
    by_cases hlt : t < l.length
    · have hne : l.drop t ≠ [] := fun e => by have := congrArg List.length e; simp at this; omega
      have g1 := dec_ge _ hne
      have g2 := dec_le _ hne
      have g3 := dec_rune _ hne
      simp only [List.length_drop] at g2
      have HS := hid (HP.out.step hlt)
      have HK := hid (show mk1 t (l.drop t) = ⟨t, (dec (l.drop t)).2, (dec (l.drop t)).1, decide ((dec (l.drop t)).2 = 1) && decide ((dec (l.drop t)).1 = 65533)⟩ from rfl)
      clear hne
      go_wp2_with fail
      refine (rdec_eq _ (l.drop t) _ (ext_drop l t) (by simp; omega)).mono ?_
      rintro e w1 ⟨rfl, rfl⟩
      generalize (dec (l.drop t)).1 = rr at *
      generalize (dec (l.drop t)).2 = nn at *
      rw [HK.out] at HS
      clear HK HP
      by_cases hn1 : nn = 1
      · by_cases hr1 : rr = 65533
        · have e : (decide (nn = 1) && decide (rr = 65533)) = true := by simp [hn1, hr1]
          rw [e] at HS
          have t1 : (((nn : Int)) == 1) = true := beq_iff_eq.2 (by omega)
          have t2 : (((rr : Int)) == 65533) = true := beq_iff_eq.2 (by omega)
          clear hn1 hr1 e
          have hB1s := hB.size
          go_wp2_with (at_builtin; refine wpList_append_own _ rfl _ _ 119 rfl w.heap.size 122 i0 (.agg #[.int .i64 0, .int .i64 0, .int .i32 0, .bool false]) 4 24 Try.underlying119 hi hz0 hz1 hz2 rfl (by decide) _ _ _ rfl (hown.alloc _) ⟨w1.heap.size, 0, none⟩ 1 1 (mrkc ⟨t, nn, rr, true⟩) rfl rfl (news_one w1 #[.int .i64 t, .int .i64 nn, .int .i32 rr, .bool true] 122) (mrkc_one _) (by unfold maxLen; omega) (by omega) (by simp; omega) ?_)
          intro v' w2 hown' hgrow _
          have hB2 : Below w.heap.size w w2 := (hB.alloc hB.size _).grown hgrow (by simp; omega) (fun k hk => (hown.lt k hk).1)
          have hown2 : w2.ownsRow w.heap.size 122 4 v' (ms ++ [Mk.mk t nn rr true]).length (mrkcs (ms ++ [Mk.mk t nn rr true])) := by rw [mrkcs_snoc, List.length_append]; exact hown'
          clear hown' hgrow hown hB
          go_wp2
          go_roundw
          case rel => exact ⟨t + nn, _, _, rfl, by omega, HS, hown2, hB2⟩
          case measure => simp [intOf]; omega
        · have e : (decide (nn = 1) && decide (rr = 65533)) = false := by simp [hr1]
          rw [e] at HS
          have t1 : (((nn : Int)) == 1) = true := beq_iff_eq.2 (by omega)
          have t2 : (((rr : Int)) == 65533) = false := beq_eq_false_iff_ne.2 (by omega)
          clear hn1 hr1 e
          have hB1s := hB.size
          go_wp2_with (at_builtin; refine wpList_append_own _ rfl _ _ 119 rfl w.heap.size 122 i0 (.agg #[.int .i64 0, .int .i64 0, .int .i32 0, .bool false]) 4 24 Try.underlying119 hi hz0 hz1 hz2 rfl (by decide) _ _ _ rfl (hown.alloc _) ⟨w1.heap.size, 0, none⟩ 1 1 (mrkc ⟨t, nn, rr, false⟩) rfl rfl (news_one w1 #[.int .i64 t, .int .i64 nn, .int .i32 rr, .bool false] 122) (mrkc_one _) (by unfold maxLen; omega) (by omega) (by simp; omega) ?_)
          intro v' w2 hown' hgrow _
          have hB2 : Below w.heap.size w w2 := (hB.alloc hB.size _).grown hgrow (by simp; omega) (fun k hk => (hown.lt k hk).1)
          have hown2 : w2.ownsRow w.heap.size 122 4 v' (ms ++ [Mk.mk t nn rr false]).length (mrkcs (ms ++ [Mk.mk t nn rr false])) := by rw [mrkcs_snoc, List.length_append]; exact hown'
          clear hown' hgrow hown hB
          go_wp2
          go_roundw
          case rel => exact ⟨t + nn, _, _, rfl, by omega, HS, hown2, hB2⟩
          case measure => simp [intOf]; omega
      · have e : (decide (nn = 1) && decide (rr = 65533)) = false := by simp [hn1]
        rw [e] at HS
        have t1 : (((nn : Int)) == 1) = false := beq_eq_false_iff_ne.2 (by omega)
        clear hn1 e
        have hB1s := hB.size
        go_wp2_with (at_builtin; refine wpList_append_own _ rfl _ _ 119 rfl w.heap.size 122 i0 (.agg #[.int .i64 0, .int .i64 0, .int .i32 0, .bool false]) 4 24 Try.underlying119 hi hz0 hz1 hz2 rfl (by decide) _ _ _ rfl (hown.alloc _) ⟨w1.heap.size, 0, none⟩ 1 1 (mrkc ⟨t, nn, rr, false⟩) rfl rfl (news_one w1 #[.int .i64 t, .int .i64 nn, .int .i32 rr, .bool false] 122) (mrkc_one _) (by unfold maxLen; omega) (by omega) (by simp; omega) ?_)
        intro v' w2 hown' hgrow _
        have hB2 : Below w.heap.size w w2 := (hB.alloc hB.size _).grown hgrow (by simp; omega) (fun k hk => (hown.lt k hk).1)
        have hown2 : w2.ownsRow w.heap.size 122 4 v' (ms ++ [Mk.mk t nn rr false]).length (mrkcs (ms ++ [Mk.mk t nn rr false])) := by rw [mrkcs_snoc, List.length_append]; exact hown'
        clear hown' hgrow hown hB
        go_wp2
        go_roundw
        case rel => exact ⟨t + nn, _, _, rfl, by omega, HS, hown2, hB2⟩
        case measure => simp [intOf]; omega
    · have HD := hid (HP.out.done hlt)
      go_wp2
      go_ret
      exact ⟨_, rfl, by rw [← HD.out]; exact hown, hB⟩
end Ytljlhlcoaajggaa
end Go.Proofs
/- The runes of a text: the contracts of utf.Each, of its iterator, and of the document's Runes and Places. -/
namespace Go.Proofs.Ytljlhlcoaajggaa
open Go.RowKit Go.Shelf
attribute [local go_sem] Oper.semAt_some

/-- How many bytes the rune has that begins at a place. -/
def wid (l : List UInt8) (t : Nat) : Nat := (dec (l.drop t)).2
theorem drop_ne (l : List UInt8) (t : Nat) (h : t < l.length) : l.drop t ≠ [] := fun e => by have := congrArg List.length e; simp at this; omega
theorem wid_ge (l : List UInt8) (t : Nat) (h : t < l.length) : 1 ≤ wid l t := dec_ge _ (drop_ne l t h)
theorem wid_le (l : List UInt8) (t : Nat) (h : t < l.length) : t + wid l t ≤ l.length := by
  have := dec_le _ (drop_ne l t h); simp only [List.length_drop] at this; unfold wid; omega
theorem mks_at (l : List UInt8) (t : Nat) (h : t < l.length) : mks t (l.drop t) = mk1 t (l.drop t) :: mks (t + wid l t) (l.drop (t + wid l t)) := by
  rw [mks_cons t (l.drop t) (drop_ne l t h), List.drop_drop]; rfl
theorem mks_end (l : List UInt8) (t : Nat) (h : ¬ t < l.length) : mks t (l.drop t) = [] := by rw [List.drop_of_length_le (by omega)]; rfl
theorem get_drop (l : List UInt8) (t j : Nat) : (l.drop t).getD j 0 = l.getD (t + j) 0 := by simp [List.getD]
/-- What range finds at a place of a text is what Decode finds of the rest. -/
theorem decode_place (l : List UInt8) (t : Nat) (h : t < l.length) : Utf8.decode ⟨l.toArray⟩ t = dec (l.drop t) := by
  have hne : l.drop t ≠ [] := fun e => by have := congrArg List.length e; simp at this; omega
  have hs : (⟨l.toArray⟩ : ByteArray).size = l.length := by show l.toArray.size = _; simp
  rw [dec_numbers _ hne, Lib.decode_at, hs]
  simp only [get_list, get_drop, List.length_drop, Nat.add_zero]
theorem run_next_at {P : Program} (w : World) (it : Nat) (s : ByteArray) (pos : Nat) (ty : TypeId) (hit : w.heap[it]? = some (.stringIter s pos)) (h : pos < s.size) :
    (Instr.next (.pointer (some ⟨it, 0, none⟩)) true ty).run P w = .ok (.tuple #[.bool true, .int .i64 pos, .int .i32 (Utf8.decode s pos).1]) (w.putObj it (.stringIter s (pos + (Utf8.decode s pos).2))) := by
  simp [Instr.next, getObj, setObj, Sem.run_bind, Sem.run, hit, Result.andThen, h, goInt, World.putObj]
theorem run_next_stop {P : Program} (w : World) (it : Nat) (s : ByteArray) (pos : Nat) (ty : TypeId) (hit : w.heap[it]? = some (.stringIter s pos)) (h : ¬ pos < s.size) :
    (Instr.next (.pointer (some ⟨it, 0, none⟩)) true ty).run P w = .ok (.tuple #[.bool false]) w := by
  simp [Instr.next, getObj, Sem.run, hit, h]
/-- What the iterator hands on. -/
def encs2 (x : Int × Int) : Array Value := #[.int .i64 x.1, .int .i32 x.2]
def prs (l : List UInt8) : List (Int × Int) := (mks 0 l).map fun m => (m.pl, m.ru)
def prF (l : List UInt8) (t : Nat) : List (Int × Int) := (mks t (l.drop t)).map fun m => (m.pl, m.ru)
theorem prF_step (l : List UInt8) (t : Nat) (h : t < l.length) : prF l t = ((t : Int), ((dec (l.drop t)).1 : Int)) :: prF l (t + (dec (l.drop t)).2) := by
  have hne : l.drop t ≠ [] := fun e => by have := congrArg List.length e; simp at this; omega
  unfold prF
  rw [mks_cons t (l.drop t) hne, List.drop_drop]; rfl
theorem prF_end (l : List UInt8) (t : Nat) (h : ¬ t < l.length) : prF l t = [] := by
  unfold prF
  rw [List.drop_of_length_le (by omega), mks_nil]; rfl
set_option maxHeartbeats 1000000 in
theorem each_stops (F : Fence) (n : Nat) (h33 : F.fn 77) (hro : F.round = none) (hn : 1 ≤ n) (Bs : Nat) (l : List UInt8) (w : World) (hBs : Bs < w.heap.size) (hc : w.cell? ⟨Bs, 0, none⟩ = some (.string ⟨l.toArray⟩)) :
    SeqStopsA F n Try.prog 77 #[.pointer (some ⟨Bs, 0, none⟩)] encs2 (fun xs => xs = prs l) (fun pre => pre <+: prs l) (prs l).length w := fun lp J Jx W hbW hJ hJx hY h0 => by
  have hcW : W.cell? ⟨Bs, 0, none⟩ = some (.string ⟨l.toArray⟩) := (hbW.cell (p := ⟨Bs, 0, none⟩) hBs).trans hc
  refine callsIn_of_wp Try.func77 rfl h33 ?_ hro
  simp only [Try.ntmps77, List.size_toArray, List.length_cons, List.length_nil, Nat.reduceAdd, Nat.reduceSub, Array.replicate_succ, Array.replicate_zero, List.push_toArray, List.append_toArray, List.nil_append, List.cons_append]
  have hsz : (⟨l.toArray⟩ : ByteArray).size = l.length := by show l.toArray.size = _; simp
  have HSZ := hid hsz
  clear hsz
  gi_wp2
  have hJ0 : J [] (W.iter ⟨l.toArray⟩ 0) := hJ [] W _ none h0 (World.grownBy_alloc W _ none) (fun r e => by cases e)
  have hit0 : (W.iter ⟨l.toArray⟩ 0).heap[W.heap.size]? = some (.stringIter ⟨l.toArray⟩ 0) := World.iter_heap W _ 0
  gi_loopw [3] (fun _ wr => ∃ (t : Nat) (pre : List (Int × Int)), t ≤ l.length ∧ Hid (prs l = pre ++ prF l t) ∧ Hid (wr.heap[W.heap.size]? = some (.stringIter ⟨l.toArray⟩ t)) ∧ Hid (J pre wr)) (fun _ wr => l.length - wr.iterPos W.heap.size)
  case atStart => exact ⟨0, [], by omega, by show prs l = [] ++ prF l 0; simp [prs, prF], hit0, hJ0⟩
  case round =>
    obtain ⟨t, pre, htl, HP, HI, HJ⟩ := hrel
    clear hJ0 hit0
    by_cases hlt : t < l.length
    · have hnx := run_next_at (P := Try.prog) wr W.heap.size ⟨l.toArray⟩ t 0 HI.out (by rw [HSZ.out]; exact hlt)
      rw [decode_place l t hlt] at hnx
      have hP2 := HP.out
      rw [prF_step l t hlt] at hP2
      have hne : l.drop t ≠ [] := fun e => by have := congrArg List.length e; simp at this; omega
      have d1 := dec_ge _ hne
      have d2 := dec_le _ hne
      simp only [List.length_drop] at d2
      obtain ⟨nn, hnn⟩ : ∃ nn, nn = (dec (l.drop t)).2 := ⟨_, rfl⟩
      obtain ⟨rr, hrr⟩ : ∃ rr, rr = (dec (l.drop t)).1 := ⟨_, rfl⟩
      rw [← hnn] at hnx hP2 d1 d2
      rw [← hrr] at hnx hP2
      obtain ⟨w1, hw1⟩ : ∃ w1, w1 = wr.putObj W.heap.size (.stringIter ⟨l.toArray⟩ (t + nn)) := ⟨_, rfl⟩
      rw [← hw1] at hnx
      have hin : W.heap.size < wr.heap.size := (Array.getElem?_eq_some_iff.1 HI.out).1
      have hJ1 : J pre w1 := by
        rw [hw1]
        exact hJ pre wr _ (some W.heap.size) HJ.out (grownBy_putObj' wr _ _) (fun r e => by cases e; exact ⟨Nat.le_refl _, _, HI.out, rfl⟩)
      have hI1 : w1.heap[W.heap.size]? = some (.stringIter ⟨l.toArray⟩ (t + nn)) := by rw [hw1]; exact World.putObj_heap_same hin
      have hmes : l.length - wr.iterPos W.heap.size = l.length - t := by unfold World.iterPos; rw [HI.out]
      obtain ⟨fn, tmps, assign, body, hy, hR⟩ := hY pre ((t : Int), (rr : Int)) w1 hJ1 (by rw [hP2]; simp)
      dsimp only [encs2] at hy
      have HP2 := hid hP2
      have HI1 := hid hI1
      have HM := hid hmes
      clear hP2 hne hnn hrr hw1 hJ1 hI1 hmes
      gi_wp2
      refine hR.mono ?_
      rintro e W3 (⟨rfl, hJ3, hk3⟩ | ⟨rfl, hJx3⟩)
      · have hI3 := hk3.same _ _ HI1.out rfl
        have HI3 := hid hI3
        have HJ3 := hid hJ3
        clear hI3 hJ3 hk3
        gi_wp2
        go_roundw
        case rel => exact ⟨t + nn, pre ++ [((t : Int), (rr : Int))], by omega, by show prs l = _; rw [HP2.out]; simp, HI3, HJ3⟩
        case measure =>
          rw [HM.out]
          unfold World.iterPos
          rw [HI3.out]
          simp only []
          omega
      · have HJX := hid hJx3
        clear hJx3
        gi_wp2
        refine bodyPost_ret (results_none rfl _ _ _) rfl ?_
        exact ⟨⟨_, rfl⟩, .inr ⟨pre ++ [((t : Int), (rr : Int))], ⟨prF l (t + nn), by rw [HP2.out]; simp⟩, HJX.out⟩⟩
    · have hnx := run_next_stop (P := Try.prog) wr W.heap.size ⟨l.toArray⟩ t 0 HI.out (by rw [HSZ.out]; exact hlt)
      have HF := hid (show prs l = pre by have h := HP.out; rw [prF_end l t hlt] at h; simpa using h)
      gi_wp2
      go_end0
      exact ⟨⟨_, rfl⟩, .inl ⟨pre, HF.out.symm, HJ.out⟩⟩
theorem Try.info21 : (Try.prog.info? 21).map (fun i => (i.zero, i.size, i.bytes)) = some (some (.int .i32 0), 1, 4) := by kernel_rfl
set_option maxHeartbeats 400000 in
theorem each_any (l : List UInt8) (w : World) :
    Calls Try.prog 68 #[.string ⟨l.toArray⟩] w fun e w' => e = .returned (.func (.func 77) #[] #[.pointer (some ⟨w.heap.size, 0, none⟩)]) ∧ w' = w.alloc (.cells #[.string ⟨l.toArray⟩] 9) := by
  go_enter Try.func68, Try.ntmps68
  go_wp2
  go_ret
  exact ⟨rfl, rfl⟩
theorem mksLen (l : List UInt8) : ∀ (n t : Nat), l.length - t ≤ n → (mks t (l.drop t)).length ≤ l.length - t
  | 0, t, h => by rw [mks_end l t (by omega)]; simp
  | n + 1, t, h => by
    by_cases ht : t < l.length
    · rw [mks_at l t ht]
      have hw := wid_ge l t ht
      have hw2 := wid_le l t ht
      have := mksLen l n (t + wid l t) (by omega)
      simp; omega
    · rw [mks_end l t ht]; simp
theorem prs_len (l : List UInt8) : (prs l).length ≤ l.length := by
  have := mksLen l l.length 0 (by omega)
  unfold prs
  simpa using this
/-- The runes that have come, as values. -/
def r32 (xs : List (Int × Int)) : List Value := xs.map fun x => Value.int .i32 x.2
theorem r32_snoc (xs : List (Int × Int)) (x : Int × Int) : r32 (xs ++ [x]) = r32 xs ++ [.int .i32 x.2] := by simp [r32]
/-- The runes of a text; the places of its faults. -/
def rns (l : List UInt8) : List Int := (mks 0 l).map (·.ru)
/-- What a value looks like that owns a row. -/
theorem owns_form {w : World} {base e size n : Nat} {v : Value} {xs : List Value} (h : w.ownsRow base e size v n xs) : ∃ ao cap, v = .slice ao n cap ∧ (0 < n → ∃ g, ao = some ⟨g, 0, none⟩ ∧ base ≤ g ∧ g < w.heap.size) := by
  rcases h.2 with ⟨hv, h0⟩ | ⟨g, cap, cur, hv, hb, hg, _⟩
  · exact ⟨none, 0, by rw [hv, h0], fun hn => by omega⟩
  · exact ⟨_, cap, hv, fun _ => ⟨g, rfl, hb, (Array.getElem?_eq_some_iff.1 hg).1⟩⟩
theorem mrkcs_get : ∀ (ms : List Mk) (k j : Nat) (m : Mk), ms[k]? = some m → j < 4 → (mrkcs ms)[k * 4 + j]? = (mrkc m)[j]?
  | [], k, j, m, h, _ => by simp at h
  | x :: ms, 0, j, m, h, hj => by
    simp at h; subst h
    show (mrkc x ++ mrkcs ms)[0 * 4 + j]? = _
    rw [Nat.zero_mul, Nat.zero_add, List.getElem?_append_left (by simpa [mrkc] using hj)]
  | x :: ms, k + 1, j, m, h, hj => by
    simp at h
    show (mrkc x ++ mrkcs ms)[(k + 1) * 4 + j]? = _
    rw [List.getElem?_append_right (by simp [mrkc]; omega)]
    rw [show (k + 1) * 4 + j - (mrkc x).length = k * 4 + j by simp [mrkc]; omega]
    exact mrkcs_get ms k j m h hj
theorem mks_len (l : List UInt8) : ∀ (n t : Nat), l.length - t ≤ n → (mks t (l.drop t)).length ≤ l.length - t
  | 0, t, h => by rw [mks_end l t (by omega)]; simp
  | n + 1, t, h => by
    by_cases ht : t < l.length
    · rw [mks_at l t ht]
      have hw := wid_ge l t ht
      have hw2 := wid_le l t ht
      have := mks_len l n (t + wid l t) (by omega)
      simp; omega
    · rw [mks_end l t ht]; simp
theorem ownsRow_base {w : World} {B B' : Nat} {e : TypeId} {size : Nat} {v : Value} {n : Nat} {xs : List Value} (hB : B' ≤ B) (h : w.ownsRow B e size v n xs) : w.ownsRow B' e size v n xs := by
  refine ⟨h.1, ?_⟩
  rcases h.2 with h0 | ⟨g, cap, cur, hv, hb, hg, hr⟩
  · exact Or.inl h0
  · exact Or.inr ⟨g, cap, cur, hv, Nat.le_trans hB hb, hg, hr⟩
/-- What stands in the list of marks, cell by cell. -/
theorem marks_cells {w : World} {B : Nat} {v : Value} {ms : List Mk} (h : w.ownsRow B 122 4 v ms.length (mrkcs ms)) : ∃ ao cap, v = .slice ao ms.length cap ∧
    ∀ (k : Nat) (m : Mk), ms[k]? = some m → ∃ g, ao = some ⟨g, 0, none⟩ ∧ g < w.heap.size ∧ w.cell? ⟨g, k * 4, none⟩ = some (.int .i64 m.pl) ∧ w.cell? ⟨g, k * 4 + 1, none⟩ = some (.int .i64 m.wd) ∧ w.cell? ⟨g, k * 4 + 2, none⟩ = some (.int .i32 m.ru) ∧ w.cell? ⟨g, k * 4 + 3, none⟩ = some (.bool m.bad) := by
  obtain ⟨ao, cap, rfl, hao⟩ := owns_form h
  refine ⟨ao, cap, rfl, fun k m hk => ?_⟩
  have hkl : k < ms.length := (List.getElem?_eq_some_iff.1 hk).1
  obtain ⟨g, hg, hg0, hg1⟩ := hao (by omega)
  have hc : ∀ j u, j < 4 → (mrkc m)[j]? = some u → w.cell? ⟨g, k * 4 + j, none⟩ = some u := fun j u hj hu => by
    have hc := h.cells (g := g) (by rw [hg]; rfl) (k * 4 + j) u (by rw [mrkcs_get ms k j m hk hj]; exact hu)
    rw [show (⟨g, 0, none⟩ : Addr).add (k * 4 + j) = ⟨g, k * 4 + j, none⟩ by unfold Addr.add; split <;> simp_all] at hc
    exact hc
  exact ⟨g, hg, hg1, by simpa using hc 0 _ (by omega) rfl, hc 1 _ (by omega) rfl, hc 2 _ (by omega) rfl, hc 3 _ (by omega) rfl⟩
theorem mks_le (l : List UInt8) : (mks 0 l).length ≤ l.length := by
  have := mks_len l l.length 0 (by omega)
  simpa using this
/-- The runes of the first marks, as values. -/
def pr32 (ms : List Mk) (k : Nat) : List Value := ((ms.take k).map (·.ru)).map (Value.int .i32)
theorem pr32_succ (ms : List Mk) (k : Nat) (h : k < ms.length) : pr32 ms (k + 1) = pr32 ms k ++ [.int .i32 ms[k].ru] := by
  unfold pr32
  rw [List.take_succ_eq_append_getElem h, List.map_append, List.map_append]; rfl
theorem pr32_all (ms : List Mk) (k : Nat) (h : ¬ k < ms.length) : pr32 ms k = (ms.map (·.ru)).map (Value.int .i32) := by
  unfold pr32
  rw [List.take_of_length_le (by omega)]
set_option maxHeartbeats 1000000 in
theorem rrunes_any (l : List UInt8) (w : World) (hl : l.length ≤ 1000000000000) :
    Calls Try.prog 69 #[.string ⟨l.toArray⟩] w fun e w' => ∃ v, e = .returned v ∧ w'.ownsRow w.heap.size 21 1 v (rns l).length ((rns l).map (Value.int .i32)) ∧ Below w.heap.size w w' := by
  obtain ⟨i0, hi, hz0, hz1, hz2⟩ := info_parts Try.info21
  go_enter Try.func69, Try.ntmps69
  go_wp2_with fail
  refine (marks_any l _ hl).mono ?_
  rintro e w1 ⟨v, rfl, hown1, hb1⟩
  have hlen := mks_le l
  obtain ⟨ms, hms⟩ : ∃ ms, ms = mks 0 l := ⟨_, rfl⟩
  rw [← hms] at hown1 hlen
  have HMS := hid (show rns l = ms.map (·.ru) by rw [hms]; rfl)
  obtain ⟨ao, cap, rfl, hcell⟩ := marks_cells hown1
  have HCELL := hid hcell
  clear hcell hown1 hms
  go_wp2
  go_loopw [4, 5] (fun o i wr => ∃ k : Nat, k ≤ ms.length ∧ i = .int .i64 k ∧ wr.ownsRow w1.heap.size 21 1 o k (pr32 ms k) ∧ Below w1.heap.size w1 wr) (fun _ i _ => ms.length - (intOf i).toNat)
  case atStart => exact ⟨0, by omega, rfl, World.ownsRow_nil _ _ _ _, Below.refl _ _⟩
  case round =>
    obtain ⟨k, hk, rfl, hown, hB⟩ := hrel
    have hs := hB.size
    by_cases hlt : k < ms.length
    · obtain ⟨g, rfl, hg1, _, _, hcg, _⟩ := HCELL.out k ms[k] (List.getElem?_eq_getElem hlt)
      have hcw : wr.cell? ⟨g, k * 4 + 2, none⟩ = some (.int .i32 ms[k].ru) := (hB.cell (p := ⟨g, k * 4 + 2, none⟩) hg1).trans hcg
      obtain ⟨z, hz⟩ : ∃ z, z = ms[k].ru := ⟨_, rfl⟩
      rw [← hz] at hcw
      have HZ := hid hz
      clear hz hcg
      go_wp2_with (at_builtin; refine wpList_append_own _ rfl _ _ 26 rfl w1.heap.size 21 i0 (.int .i32 0) 1 4 Try.underlying26 hi hz0 hz1 hz2 rfl (by decide) _ _ _ rfl (hown.alloc _) ⟨wr.heap.size, 0, none⟩ 1 1 [.int .i32 z] rfl rfl (news_one wr #[.int .i32 z] 21) (by intro u hu; simp at hu; subst hu; rfl) (by unfold maxLen; omega) (by omega) (by simp; omega) ?_)
      intro v' w2 hown' hgrow _
      have hB2 : Below w1.heap.size w1 w2 := (hB.alloc hB.size _).grown hgrow (by simp; omega) (fun k hk => (hown.lt k hk).1)
      have hown2 : w2.ownsRow w1.heap.size 21 1 v' (k + 1) (pr32 ms (k + 1)) := by rw [pr32_succ ms k hlt, ← HZ.out]; exact hown'
      clear hown' hgrow hown hB hcw
      go_wp2
      go_roundw
      case rel => exact ⟨k + 1, by omega, by go_num, hown2, hB2⟩
      case measure => simp [intOf]; omega
    · have hke : k = ms.length := by omega
      have HKE := hid hke
      have HP := hid (pr32_all ms k hlt)
      clear hke
      go_wp2
      go_ret
      refine ⟨_, rfl, ?_, hb1.trans (hB.mono hb1.size)⟩
      rw [HMS.out, List.length_map, ← HP.out, ← HKE.out]
      exact ownsRow_base hb1.size hown
/-- A slice of numbers, as it can be read. -/
def Reads (K : IntKind) (w : World) (v : Value) (E : List Int) : Prop :=
  ∃ ao cap, v = .slice ao E.length cap ∧ ∀ (k : Nat) (z : Int), E[k]? = some z → ∃ g o, ao = some ⟨g, o, none⟩ ∧ g < w.heap.size ∧ w.cell? ⟨g, o + k, none⟩ = some (.int K z)
theorem Reads.below {K : IntKind} {w w' : World} {v : Value} {E : List Int} (h : Reads K w v E) (hb : Below w.heap.size w w') : Reads K w' v E := by
  obtain ⟨ao, cap, hv, hc⟩ := h
  refine ⟨ao, cap, hv, fun k z hk => ?_⟩
  obtain ⟨g, o, hg, hl, hcell⟩ := hc k z hk
  have := hb.size
  exact ⟨g, o, hg, by omega, (hb.cell (p := ⟨g, o + k, none⟩) hl).trans hcell⟩
theorem Reads.of_row {K : IntKind} {w : World} {B e : Nat} {v : Value} {E : List Int} (h : w.ownsRow B e 1 v E.length (E.map (Value.int K))) : Reads K w v E := by
  obtain ⟨ao, cap, rfl, hao⟩ := owns_form h
  refine ⟨ao, cap, rfl, fun k z hk => ?_⟩
  have hkl : k < E.length := (List.getElem?_eq_some_iff.1 hk).1
  obtain ⟨g, hg, _, hlt⟩ := hao (by omega)
  have hc := h.cells (g := g) (by rw [hg]; rfl) k (.int K z) (by rw [List.getElem?_map, hk]; rfl)
  rw [show (⟨g, 0, none⟩ : Addr).add k = ⟨g, k, none⟩ by unfold Addr.add; split <;> simp_all] at hc
  exact ⟨g, 0, hg, hlt, by rw [Nat.zero_add]; exact hc⟩
set_option maxHeartbeats 400000 in
theorem places_any (a b : Value) (E : List Int) (w : World) (hE : E.length ≤ 1000000000000) (ha : Reads .i64 w a E) (hb : Reads .i64 w b E) :
    Calls Try.prog 46 #[a, b] w fun e w' => e = .returned (.bool true) ∧ Below w.heap.size w w' := by
  obtain ⟨ao, ca, rfl, hca⟩ := ha
  obtain ⟨bo, cb, rfl, hcb⟩ := hb
  have HA := hid hca
  have HB := hid hcb
  clear hca hcb
  go_enter Try.func46, Try.ntmps46
  go_wp2
  go_loopw [5] (fun i wr => ∃ k : Nat, i = .int .i64 k ∧ k ≤ E.length ∧ Below w.heap.size w wr) (fun i _ => E.length - (intOf i).toNat)
  case atStart => exact ⟨0, rfl, by omega, Below.refl _ _⟩
  case round =>
    obtain ⟨k, rfl, hk, hBr⟩ := hrel
    by_cases hlt : k < E.length
    · obtain ⟨g, o, rfl, l1, h1⟩ := HA.out k E[k] (List.getElem?_eq_getElem hlt)
      obtain ⟨g', o', rfl, l2, h2⟩ := HB.out k E[k] (List.getElem?_eq_getElem hlt)
      obtain ⟨z, hz⟩ : ∃ z, z = E[k] := ⟨_, rfl⟩
      rw [← hz] at h1 h2
      have h1' := (hBr.cell (p := ⟨g, o + k, none⟩) l1).trans h1
      have h2' := (hBr.cell (p := ⟨g', o' + k, none⟩) l2).trans h2
      clear hz HA HB h1 h2
      go_wp2
      go_quiet (fail)
      go_wp2
      go_roundw
      case rel => exact ⟨k + 1, by go_num, by omega, hBr.trans ⟨rfl, rfl, rfl, Nat.le_refl _, fun _ _ => rfl⟩⟩
      case measure => simp [intOf]; omega
    · go_wp2
      go_ret
      exact ⟨rfl, hBr⟩
end Go.Proofs.Ytljlhlcoaajggaa
/- Regions that draw their order, within a round of a range over a function. -/
namespace Go.Proofs.Ytljlhlcoaajggaa

/-- Q at a normal end alone. -/
def OnlyN (Q : Exit → Act → World → Prop) : Exit → Act → World → Prop
  | .normal, a, w => Q .normal a w
  | _, _, _ => False
theorem OnlyN.imp {Q : Exit → Act → World → Prop} : ∀ (e : Exit) (a : Act) (w : World), OnlyN Q e a w → Q e a w := fun e a w h => by
  cases e <;> first | exact h | exact (h : False).elim
theorem OnlyN.in {Q : Exit → Act → World → Prop} {a : Act} {w : World} (h : Q .normal a w) : OnlyN Q .normal a w := h

section
variable {P : Program} {ops : Array Oper} {Q : Exit → Act → World → Prop} {md : Region.Mode}
theorem operIn_of {o : Oper} {a : Act} {w : World} {K : Act → World → Prop} (l n : Nat) (hnd : ∀ c, o.op ≠ .defer c) (h : o.wp P a w K Q) : o.wpIn (Fence.wide.inRound l) n P a w K Q := by
  unfold Oper.wpIn
  refine ⟨fun _ _ => trivial, ?_⟩
  rw [Oper.semAt_eq _ _ _ hnd]
  unfold Oper.wp at h
  generalize (execOp a.eval o).run P w = r at *
  cases r with
  | ok x w' =>
    cases x <;> simp only [Oper.uponIn, Oper.upon] at h ⊢
    case value => exact h
    case skip => exact h
    case defer => exact h
    case enter => exact ⟨fun hd => by simp [Fence.wide] at hd, CallsIn.inRound l (callsIn_wide.2 h)⟩
    case row => exact ⟨fun hd => by simp [Fence.wide] at hd, fun c cs _ => let ⟨v, w', r, s⟩ := h c cs; ⟨v, w', r, stepsIn_wide.2 s⟩⟩
  | halt x w' => cases x <;> simp only [Oper.uponIn, Oper.upon] at h ⊢ <;> exact h
theorem wpAnyIn_of (l n : Nat) (hnd : ∀ (j : Nat) (o : Oper), ops[j]? = some o → ∀ c, o.op ≠ .defer c) (hQ : ¬ LetsOut Q) : ∀ (f : Nat) (listed : Array Bool) (a : Act) (w : World), wpAny P md ops Q f listed a w → wpAnyIn (Fence.wide.inRound l) n P md ops Q f listed a w
  | 0, _, _, _, h => h
  | f + 1, listed, a, w, h => by
    refine ⟨h.1, fun i hi => ?_⟩
    have h1 := h.2 i hi
    unfold wpOp at h1
    unfold wpOpIn
    cases ho : ops[i]? with
    | none =>
      simp only [ho] at h1 ⊢
      exact wpAnyIn_of l n hnd hQ f _ _ _ h1
    | some o =>
      simp only [ho] at h1 ⊢
      split
      · rename_i hw
        simp only [hw, if_true] at h1
        rcases h1 with h1 | h1
        · exact operIn_of l n (hnd i o ho) (Oper.wp_mono (fun a' w' h' => wpAnyIn_of l n hnd hQ f _ a' w' h') h1)
        · exact absurd h1.2 hQ
      · rename_i hw
        simp only [hw] at h1
        exact ⟨fun _ _ => trivial, wpAnyIn_of l n hnd hQ f _ _ _ h1⟩
/-- The law, within a round. -/
theorem wpIn_region_holdG {id : Nat} {a : Act} {w : World} {l : List Oper} (lp m n : Nat) (S : World → Prop) (fin : Nat → Bool) (hm : P.follows .mixedOrders = true) (hsel : Region.noSelect l.toArray = true) (hnd : l.all (fun o => match o.op with | .defer _ => false | _ => true) = true) (hn : n ≤ l.length) (hs : ∀ j, fin j = true → j < l.length)
    (hB : Region.holdB .any l.toArray fin (l.drop n).length n 0 (Array.replicate l.length false) = true) (hS : S w.drew)
    (h : wpHold P l.toArray S (fun a' => wpTailG P l.toArray (OnlyN Q) S fin n (l.drop n) a' w.drew) (l.take n) a) : (Code.region id l.toArray true).wpIn (Fence.wide.inRound lp) m P Q a w := by
  refine Code.wpIn_mono OnlyN.imp ?_
  have htl : (l.take n).length = n := by simp; omega
  have hdl : (l.drop n).length = l.length - n := by simp
  refine wpIn_region_any hm (wpAnyIn_of lp m (fun j o ho c hc => ?_) (fun ⟨_, _, hq⟩ => hq) _ _ _ _ (anyT_any (S := S) (fin := fin) _ _ _ _ ?_))
  · have h5 := List.all_eq_true.1 hnd o (List.mem_of_getElem? (i := j) (by simpa using ho))
    rw [hc] at h5
    cases h5
  · have H := anyT_hold (P := P) (ops := l.toArray) (Q := OnlyN Q) (md := .any) (S := S) (fin := fin) (w := w.drew) (g := (l.drop n).length) hsel (by simpa using hs) (fun _ _ _ _ _ h => h) hS
      (fun n' listed a' hq hL hng => by
        have hnn : n' = n := by rw [hdl] at hng; simp at hng; omega
        subst hnn
        exact anyT_tailG (l.drop n') n' listed a' w.drew (fun j => by simp [List.getElem?_drop]) hq hL)
      (l.take n) 0 (Array.replicate l.length false) a (fun j hj => by
        have hj' : j < n := by rw [htl] at hj; exact hj
        simp [hj']) (by rw [htl, hdl]; simp; omega) (by rw [htl]; exact hB) h
    rw [htl, hdl, show n + (l.length - n) = l.length by omega] at H
    simpa using H
end
end Go.Proofs.Ytljlhlcoaajggaa
/- The contracts of Classes, the program's and the document's: of each rune of a text its class. -/
namespace Go.Proofs.Ytljlhlcoaajggaa
open Go.RowKit Go.Shelf
attribute [local go_sem] Oper.semAt_some

/-- Get of any number, by the ranges. -/
theorem getZ (B T r : Nat) (F : List (List Nat)) (L : List Tr) (x : Int) (w : World) (h : TbAt B T F r w) (hF : F.flatten = clA r L) (hr : r < 256) (hR : Ris 0 L) :
    Calls Try.prog 34 #[.pointer (some ⟨T, 0, none⟩), .int .i32 x] w fun e w' => e = .returned (.int .i64 ((gtR r x L : Nat) : Int)) ∧ ∃ n, w' = w.drewN n := by
  by_cases hx : x < 0 ∨ 1114111 < x
  · refine (get_out B T r F x w h hr hx).mono ?_
    rintro e w' ⟨rfl, rfl⟩
    refine ⟨?_, 0, rfl⟩
    rcases hx with hx | hx
    · rw [gtR_low r L 0 x (by simpa using hx) hR]
    · rw [gtR_high r L 0 x hx hR]
  · obtain ⟨R, rfl⟩ : ∃ R : Nat, x = (R : Int) := ⟨x.toNat, by omega⟩
    refine (get_any B T r F R w h (by omega)).mono ?_
    rintro e w' ⟨rfl, n, rfl⟩
    exact ⟨by rw [gtR_clA r L R (by omega) hR, hF], n, rfl⟩

/-- The classes of the runes that have come, as values. -/
def g64 (r : Nat) (L : List Tr) (xs : List (Int × Int)) : List Value := xs.map fun x => Value.int .i64 ((gtR r x.2 L : Nat) : Int)
theorem g64_snoc (r : Nat) (L : List Tr) (xs : List (Int × Int)) (x : Int × Int) : g64 r L (xs ++ [x]) = g64 r L xs ++ [.int .i64 ((gtR r x.2 L : Nat) : Int)] := by simp [g64]
theorem Try.info3' : (Try.prog.info? 3).map (fun i => (i.zero, i.size, i.bytes)) = some (some (.int .i64 0), 1, 8) := by kernel_rfl

set_option maxHeartbeats 2000000 in
set_option maxRecDepth 100000 in
theorem classes_in (B T r : Nat) (F : List (List Nat)) (L : List Tr) (l : List UInt8) (w : World) (h : TbAt B T F r w) (hF : F.flatten = clA r L) (hr : r < 256) (hR : Ris 0 L) (hl : l.length ≤ 1000000000000) :
    CallsIn Fence.wide 3 Try.prog 47 #[.pointer (some ⟨T, 0, none⟩), .string ⟨l.toArray⟩] w fun e W' => ∃ v, e = .returned v ∧ W'.ownsRow w.heap.size 3 1 v (prs l).length (g64 r L (prs l)) ∧ Below w.heap.size w W' := by
  obtain ⟨i0, hi, hz0, hz1, hz2⟩ := info_parts Try.info3'
  have hcnt : Lib.runeCount ⟨l.toArray⟩ ≤ l.length := by
    have h := Lib.runeCount_le ⟨l.toArray⟩
    have hs : (⟨l.toArray⟩ : ByteArray).size = l.length := by show l.toArray.size = _; simp
    rw [hs] at h; exact h
  have HG := hid (fun (x : Int) (W : World) (hW : TbAt B T F r W) => getZ B T r F L x W hW hF hr hR)
  have HTB := hid h
  clear h hF hR
  refine callsIn_of_wp_marks Try.func47 rfl trivial ?_ rfl
  simp only [Try.ntmps47, List.size_toArray, List.length_cons, List.length_nil, Nat.reduceAdd, Nat.reduceSub, Array.replicate_succ, Array.replicate_zero, List.push_toArray, List.append_toArray, List.nil_append, List.cons_append]
  gi_wp2_with (first | (refine ⟨trivial, ?_⟩; gi_at_call 67; refine (callsIn_wide.2 (ucount_any l _ (by omega))).mono ?_; rintro e w1 ⟨rfl, hb1⟩; rw [World.size_alloc] at hb1; have hb1s : w.heap.size + 1 ≤ w1.heap.size := (by have h5 := hb1.size; simpa using h5); have hx1 : w1.cell? ⟨w.heap.size, 0, none⟩ = some (.pointer (some ⟨T, 0, none⟩)) := (hb1.cell (p := ⟨w.heap.size, 0, none⟩) (Nat.lt_succ_self _)).trans (Boxed.new w 28 (.pointer (some ⟨T, 0, none⟩))).cell) | (gi_at_make; refine wpListIn_make_own _ rfl _ _ 41 rfl (w.heap.size + 1) 3 i0 (.int .i64 0) 1 Try.underlying41 hi hz0 hz1 .i64 .i64 _ (Lib.runeCount ⟨l.toArray⟩) rfl rfl rfl (by rw [hz2]; omega) (by unfold maxLen; omega) hb1s ?_; intro w2 hown2 hgrow2) | (refine ⟨trivial, ?_⟩; gi_at_call 68; refine (callsIn_wide.2 (each_any l _)).mono ?_; rintro e w' ⟨rfl, rfl⟩))
  have hB2 : Below (w.heap.size + 1) (w.alloc (.cells #[.pointer (some ⟨T, 0, none⟩)] 28)) w2 := hb1.grown hgrow2 hb1s (fun k e => by cases e)
  have hTA : TbAt B T F r (w.alloc (.cells #[.pointer (some ⟨T, 0, none⟩)] 28)) := HTB.out.below ((Below.refl _ _).alloc (Nat.le_refl _) _)
  have hA0 : Below w.heap.size w (w.alloc (.cells #[.pointer (some ⟨T, 0, none⟩)] 28)) := (Below.refl _ _).alloc (Nat.le_refl _) _
  have hAs : (w.alloc (.cells #[.pointer (some ⟨T, 0, none⟩)] 28)).heap.size = w.heap.size + 1 := World.size_alloc _ _
  have hAc := (Boxed.new w 28 (.pointer (some ⟨T, 0, none⟩))).cell
  obtain ⟨A0, hAE⟩ : ∃ A0, A0 = w.alloc (.cells #[.pointer (some ⟨T, 0, none⟩)] 28) := ⟨_, rfl⟩
  rw [← hAE] at hB2 hTA hA0 hAs hAc
  clear hb1 hAE
  have bL := Boxed.new w2 41 (.slice (some ⟨w1.heap.size, 0, none⟩) 0 (Lib.runeCount ⟨l.toArray⟩))
  have bS := Boxed.new (w2.alloc (.cells #[.slice (some ⟨w1.heap.size, 0, none⟩) 0 (Lib.runeCount ⟨l.toArray⟩)] 41)) 9 (.string ⟨l.toArray⟩)
  rw [World.size_alloc] at bS
  have hs2 : w.heap.size + 1 ≤ w2.heap.size := by have h5 := hB2.size; omega
  have hB0 : Below (w.heap.size + 1) A0 ((w2.alloc (.cells #[.slice (some ⟨w1.heap.size, 0, none⟩) 0 (Lib.runeCount ⟨l.toArray⟩)] 41)).alloc (.cells #[.string ⟨l.toArray⟩] 9)) := (hB2.alloc hs2 _).alloc (by simp; omega) _
  have hpl := prs_len l
  refine wpIn_rangeFunc_ownG rfl (by omega) (gf := 77) (lb := #[.pointer (some ⟨w2.heap.size + 1, 0, none⟩)]) rfl trivial (enters_of Try.func77 (by kernel_rfl) rfl)
    (seqStopsA_iff.1 (each_stops Fence.wide (3 - 1) trivial rfl (by omega) (w2.heap.size + 1) l _ (by simp) bS.cell)) walksK_t walksK_b (Below.refl _ _) (fun _ => rfl)
    (fun pre W => (∃ v, Boxed W w2.heap.size 41 v ∧ W.ownsRow (w.heap.size + 1) 3 1 v pre.length (g64 r L pre) ∧ True) ∧ Below (w.heap.size + 1) A0 W)
    (fun _ _ _ => False)
    (OwnFrom.and (Own.from (holdsRow_own (w.heap.size + 1) w2.heap.size 41 3 1 (fun pre => pre.length) (fun pre => g64 r L pre) (fun _ _ => True)) _) (ownFrom_below (by omega) (by simp; omega)))
    (fun _ _ _ _ _ hs _ _ => hs)
    ⟨⟨_, bL.alloc _, (hown2.alloc _).alloc _, trivial⟩, hB0⟩
    (fun x => { tmps := #[.pointer (some ⟨T, 0, none⟩), .string ⟨l.toArray⟩, .pointer (some ⟨w.heap.size, 0, none⟩), undef, .slice none 0 0, .pointer (some ⟨w2.heap.size, 0, none⟩), undef, .int .i32 x.2, .pointer (some ⟨T, 0, none⟩), .bool false, .string ⟨l.toArray⟩, .int .i64 (Lib.runeCount ⟨l.toArray⟩), .slice (some ⟨w1.heap.size, 0, none⟩) 0 (Lib.runeCount ⟨l.toArray⟩), .string ⟨l.toArray⟩, .func (.func 77) #[] #[.pointer (some ⟨w2.heap.size + 1, 0, none⟩)], .int .i64 x.1, .int .i32 x.2, undef, undef, undef, undef, undef, undef, undef], defers := [] }) ?assign ?body ?done ?stop
  case assign =>
    intro lp x W K hK
    dsimp only [encs2]
    gi_wp2
    exact hK
  case body =>
    rintro lp pre x W ⟨⟨v, hv, hrow, _⟩, hB⟩ hlt
    obtain ⟨vo, vc, rfl⟩ := own_form hrow
    have hTW : TbAt B T F r W := hTA.below (by rw [hAs]; exact hB)
    have x1 : W.drew.cell? ⟨w2.heap.size, 0, none⟩ = some (.slice vo pre.length vc) := hv.cell
    have x2 : W.drew.cell? ⟨w.heap.size, 0, none⟩ = some (.pointer (some ⟨T, 0, none⟩)) := (hB.cell (p := ⟨w.heap.size, 0, none⟩) (Nat.lt_succ_self _)).trans hAc
    have HSS := hid (And.intro x1 x2)
    have HGX := hid (HG.out x.2 W.drew hTW)
    have HV := hid hv
    have HROW := hid hrow
    have HBW := hid hB
    have hWs : w.heap.size + 1 ≤ W.heap.size := by have h5 := hB.size; omega
    clear hv hrow hB hTW
    gi_wp2_with fail
    refine wpIn_region_holdG lp _ 3 (fun w' => w'.cell? ⟨w2.heap.size, 0, none⟩ = some (.slice vo pre.length vc) ∧ w'.cell? ⟨w.heap.size, 0, none⟩ = some (.pointer (some ⟨T, 0, none⟩))) (fun j => j == 6) (by kernel_rfl) (by kernel_rfl) (by kernel_rfl) (by decide) (fun j hj => by rcases (show j = 6 by simpa using hj) with rfl; decide) (by kernel_rfl) ⟨x1, x2⟩ ?_
    dsimp only [List.take, List.drop]
    iterate 3 (refine wpHold_step ?_ rfl (fun w' hS => ?_) ?_; (rotate_left; (obtain ⟨s1, s2⟩ := hS; go_simp; with_reducible rfl); rotate_left))
    simp only [Act.put, List.setIfInBounds_toArray, List.set_cons_zero, List.set_cons_succ]
    show wpTailG _ _ _ _ _ _ _ _ _
    refine tailG_yes (by kernel_rfl) fun KK hKK => ?_
    go_simp
    refine HGX.out.mono ?_
    rintro e w3 ⟨rfl, nn, rfl⟩
    refine hKK _ _ (fun _ => HSS.out) ?_
    clear hKK KK
    have HVV := hid (show Boxed (W.drew.drewN nn) w2.heap.size 41 (.slice vo pre.length vc) from HV.out)
    have HRV := hid (show (W.drew.drewN nn).ownsRow (w.heap.size + 1) 3 1 (.slice vo pre.length vc) pre.length (g64 r L pre) from HROW.out)
    have HSV := hid (show (W.drew.drewN nn).cell? ⟨w2.heap.size, 0, none⟩ = some (.slice vo pre.length vc) ∧ (W.drew.drewN nn).cell? ⟨w.heap.size, 0, none⟩ = some (.pointer (some ⟨T, 0, none⟩)) from HSS.out)
    have HKV := hid (show KeepsOthers W (W.drew.drewN nn) from ⟨Nat.le_refl _, fun _ _ h _ => h⟩)
    have HBV := hid (show Below (w.heap.size + 1) W (W.drew.drewN nn) from ⟨rfl, rfl, rfl, Nat.le_refl _, fun _ _ => rfl⟩)
    have hVs : w.heap.size + 1 ≤ (W.drew.drewN nn).heap.size := hWs
    obtain ⟨V, hVE⟩ : ∃ V, V = W.drew.drewN nn := ⟨_, rfl⟩
    rw [← hVE] at HVV HRV HSV HKV HBV hVs ⊢
    clear hVE x1 x2 HGX HSS
    have b2 : w2.heap.size < V.heap.size := HVV.out.lt
    refine tailG_yes (by kernel_rfl) fun KK hKK => ?_
    go_simp
    have HSA := hid (show (V.alloc (.cells #[.int .i64 ((gtR r x.2 L : Nat) : Int)] 3)).cell? ⟨w2.heap.size, 0, none⟩ = some (.slice vo pre.length vc) ∧ (V.alloc (.cells #[.int .i64 ((gtR r x.2 L : Nat) : Int)] 3)).cell? ⟨w.heap.size, 0, none⟩ = some (.pointer (some ⟨T, 0, none⟩)) from ⟨(((Below.refl V.heap.size V).alloc (Nat.le_refl _) _).cell (p := ⟨w2.heap.size, 0, none⟩) b2).trans HSV.out.1, (((Below.refl V.heap.size V).alloc (Nat.le_refl _) _).cell (p := ⟨w.heap.size, 0, none⟩) (by show w.heap.size < _; omega)).trans HSV.out.2⟩)
    refine hKK _ _ (fun _ => HSA.out) ?_
    clear hKK KK
    try simp only [Act.put, List.setIfInBounds_toArray, List.set_cons_zero, List.set_cons_succ]
    refine tailG_yes (by kernel_rfl) fun KK hKK => ?_
    refine wp_append_lies _ _ _ 41 rfl (w.heap.size + 1) 3 i0 (.int .i64 0) 1 8 Try.underlying41 hi hz0 hz1 hz2 rfl (by decide) _ pre.length (g64 r L pre) rfl (HRV.out.alloc _) ⟨V.heap.size, 0, none⟩ 1 1 [.int .i64 ((gtR r x.2 L : Nat) : Int)] rfl rfl (cell_one_new _ _ _) (by simp [Value.oneCell']) (by decide) (by unfold maxLen; omega) (by omega) (by simp; omega) (V.heap.size + 1) (by simp) ?_
    intro q4 c4 w4 o4 gr4 hl4 hlt4
    obtain ⟨hv1, hv2, hr2, hk2, hb2⟩ := HVV.out.appended (by decide) HRV.out hVs (by omega) o4 gr4
    have HS4 := hid (show w4.cell? ⟨w2.heap.size, 0, none⟩ = some (.slice vo pre.length vc) ∧ w4.cell? ⟨w.heap.size, 0, none⟩ = some (.pointer (some ⟨T, 0, none⟩)) from ⟨hv1.cell, ((((Below.refl _ _).alloc hVs _).grown gr4 (by simp; omega) (fun k hk => (HRV.out.lt k hk).1)).cell (p := ⟨w.heap.size, 0, none⟩) (Nat.lt_succ_self _)).trans HSV.out.2⟩)
    have hc1 := hv1.cell
    have hf1 := hv1.frozen
    refine hKK _ _ (fun _ => HS4.out) ?_
    clear hKK KK gr4 hl4 hlt4
    try simp only [Act.put, List.setIfInBounds_toArray, List.set_cons_zero, List.set_cons_succ]
    refine tailG_yes (by kernel_rfl) fun KK hKK => ?_
    go_simp
    refine hKK _ _ (fun h => by cases h) ?_
    clear hKK KK
    try simp only [Act.put, List.setIfInBounds_toArray, List.set_cons_zero, List.set_cons_succ]
    refine tailG_nil (OnlyN.in ?_)
    have HF := hid (show KeepsOthers W (w4.setCell ⟨w2.heap.size, 0, none⟩ (.slice (some ⟨q4, 0, none⟩) (pre.length + 1) c4)) from HKV.out.trans hk2)
    have HB4 := hid ((HBW.out.trans HBV.out).trans hb2)
    exact ⟨HF.out.from _, ⟨HF.out.size, fun k o h hw => HF.out.same k o h (Obj.not_cells_of_walk hw)⟩, ⟨_, hv2, by rw [g64_snoc, List.length_append]; exact hr2, trivial⟩, HB4.out⟩
  case done =>
    rintro D ys W hD rfl ⟨⟨v, hv, hrow, _⟩, hB⟩ hK
    have hc := hv.cell
    gi_wp2
    refine ⟨by simp, .inl ⟨_, _, rfl, run_takeDeferred hK, ?_⟩⟩
    exact ⟨_, results_tmp rfl _ _ _, v, rfl, ownsRow_base (Nat.le_succ _) (ownsRow_putObj hrow _ hK rfl), (hA0.trans (hB.mono (Nat.le_succ _))).trans (belowK_b (w := w) (Nat.le_refl _) W D _ _ (by simp at hD; omega) hK rfl rfl)⟩
  case stop =>
    rintro D c pre W _ _ h _
    exact h.elim

theorem classes_any (B T r : Nat) (F : List (List Nat)) (L : List Tr) (l : List UInt8) (w : World) (h : TbAt B T F r w) (hF : F.flatten = clA r L) (hr : r < 256) (hR : Ris 0 L) (hl : l.length ≤ 1000000000000) :
    Calls Try.prog 47 #[.pointer (some ⟨T, 0, none⟩), .string ⟨l.toArray⟩] w fun e W' => ∃ v, e = .returned v ∧ W'.ownsRow w.heap.size 3 1 v (prs l).length (g64 r L (prs l)) ∧ Below w.heap.size w W' :=
  callsIn_wide.1 (classes_in B T r F L l w h hF hr hR hl)
theorem RtAt.below {B P r : Nat} {L : List Tr} {w w' : World} (h : RtAt B P L r w) (hb : Below w.heap.size w w') : RtAt B P L r w' := by
  obtain ⟨v, h1, h2⟩ := h
  exact ⟨v, (hb.block P (lt_of_heap h1)).trans h1, own_keep h2 hb⟩
/-- The classes of the first runes, as values. -/
def q64 (r : Nat) (L : List Tr) (zs : List Int) : List Value := zs.map fun z => Value.int .i64 ((gtR r z L : Nat) : Int)
theorem q64_all (r : Nat) (L : List Tr) (l : List UInt8) : q64 r L (rns l) = g64 r L (prs l) := by simp [q64, g64, rns, prs]
theorem q64_snoc (r : Nat) (L : List Tr) (zs : List Int) (z : Int) : q64 r L (zs ++ [z]) = q64 r L zs ++ [.int .i64 ((gtR r z L : Nat) : Int)] := by simp [q64]
theorem rns_len (l : List UInt8) : (rns l).length = (prs l).length := by simp [rns, prs]

set_option maxHeartbeats 2000000 in
set_option maxRecDepth 100000 in
theorem rclasses_any (B P r : Nat) (L : List Tr) (l : List UInt8) (w : World) (h : RtAt B P L r w) (hL : L.length ≤ 1000000000) (hl : l.length ≤ 1000000000000) :
    Calls Try.prog 48 #[.pointer (some ⟨P, 0, none⟩), .string ⟨l.toArray⟩] w fun e w' => ∃ v, e = .returned v ∧ w'.ownsRow w.heap.size 3 1 v (prs l).length (g64 r L (prs l)) ∧ Below w.heap.size w w' := by
  obtain ⟨i0, hi, hz0, hz1, hz2⟩ := info_parts Try.info3'
  have HRT := hid h
  have HL := hid hL
  clear h hL
  go_enter Try.func48, Try.ntmps48
  go_wp2_with fail
  refine (rrunes_any l _ hl).mono ?_
  rintro e w1 ⟨v, rfl, hown1, hb1⟩
  have HB1 := hid hb1
  have hs1 := hb1.size
  have hlen : (rns l).length ≤ l.length := by rw [rns_len]; exact prs_len l
  have HQA := hid (q64_all r L l)
  have HQL := hid (rns_len l)
  obtain ⟨zs, hzs⟩ : ∃ zs, zs = rns l := ⟨_, rfl⟩
  rw [← hzs] at hown1 hlen HQA HQL
  obtain ⟨ao, cap, rfl, hcell⟩ := Reads.of_row hown1
  have HCELL := hid hcell
  obtain ⟨n, hn⟩ : ∃ n, n = zs.length := ⟨_, rfl⟩
  rw [← hn] at hlen HQL ⊢
  have HN := hid hn
  have HR1 := hid (fun (z : Int) (W : World) (hW : Below w1.heap.size w1 W) => rget_any B P L r z W ((HRT.out.below hb1).below hW) HL.out)
  clear hcell hown1 hzs hb1 hn
  go_wp2
  go_loopw [6, 7] (fun o i wr => ∃ k : Nat, k ≤ n ∧ i = .int .i64 (k : Int) ∧ Hid (wr.ownsRow w1.heap.size 3 1 o k (q64 r L (zs.take k))) ∧ Hid (Below w1.heap.size w1 wr)) (fun _ i _ => n - (intOf i).toNat)
  case atStart => exact ⟨0, by omega, rfl, World.ownsRow_nil _ _ _ _, Below.refl _ _⟩
  case round =>
    obtain ⟨k, hk, rfl, HO, HB⟩ := hrel
    rename_i o _
    have hs := HB.out.size
    by_cases hlt : k < n
    · have hkz : k < zs.length := by have h5 := HN.out; omega
      obtain ⟨g, oo, rfl, hg1, hcg⟩ := HCELL.out k zs[k] (List.getElem?_eq_getElem hkz)
      have hcw : wr.cell? ⟨g, oo + k, none⟩ = some (.int .i32 zs[k]) := (HB.out.cell (p := ⟨g, oo + k, none⟩) hg1).trans hcg
      have HSN := hid (show q64 r L (zs.take (k + 1)) = q64 r L (zs.take k) ++ [.int .i64 ((gtR r zs[k] L : Nat) : Int)] by rw [List.take_succ_eq_append_getElem hkz, q64_snoc])
      obtain ⟨z, hz⟩ : ∃ z, z = zs[k] := ⟨_, rfl⟩
      rw [← hz] at hcw HSN
      have i3 : (k : Int) < (n : Int) := by omega
      have i4 : (0 : Int) ≤ (k : Int) := by omega
      clear hz hcg hkz
      go_wp2_with (first | (go_at_call 45; refine (HR1.out z wr HB.out).mono ?_; rintro e w9 ⟨rfl, hw9⟩; obtain rfl := hw9.symm) | (at_builtin; refine wpList_append_own _ rfl _ _ 41 rfl w1.heap.size 3 i0 (.int .i64 0) 1 8 Try.underlying41 hi hz0 hz1 hz2 rfl (by decide) _ _ _ rfl (HO.out.alloc _) ⟨wr.heap.size, 0, none⟩ 1 1 [.int .i64 ((gtR r z L : Nat) : Int)] rfl rfl (cell_one_new _ _ _) (by simp [Value.oneCell']) (by unfold maxLen; omega) (by omega) (by simp; omega) ?_; intro v' w2 hown' hgrow _))
      have HB2 := hid ((HB.out.alloc hs _).grown hgrow (by simp; omega) (fun k hk => (HO.out.lt k hk).1))
      have HO2 := hid (show w2.ownsRow w1.heap.size 3 1 v' (k + 1) (q64 r L (zs.take (k + 1))) by rw [HSN.out]; exact hown')
      clear hown' hgrow hcw
      go_wp2
      go_roundw
      case rel => exact ⟨k + 1, by omega, by go_num, HO2, HB2⟩
      case measure => simp [intOf]; omega
    · have i3 : ¬ (k : Int) < (n : Int) := by omega
      have HE := hid (show zs.take k = zs from List.take_of_length_le (by have h5 := HN.out; omega))
      have HKN := hid (show k = n by omega)
      go_wp2
      go_ret
      refine ⟨_, rfl, ?_, HB1.out.trans (HB.out.mono hs1)⟩
      have h5 := ownsRow_base hs1 HO.out
      rw [HE.out, HQA.out, HKN.out, HQL.out] at h5
      exact h5
end Go.Proofs.Ytljlhlcoaajggaa
/- The contract of the document's Same, at any two lists of ranges with classes. -/
namespace Go.Proofs.Ytljlhlcoaajggaa
open Go.RowKit

theorem take_eq_step {l m : List Rk} {k : Nat} (hk : k < l.length) (hm : k < m.length) (h : l.take k = m.take k) (e : l[k] = m[k]) : l.take (k + 1) = m.take (k + 1) := by
  rw [List.take_succ_eq_append_getElem hk, List.take_succ_eq_append_getElem hm, h, e]

set_option maxRecDepth 100000 in
set_option maxHeartbeats 2000000 in
theorem same3_any (ao bo : Option Addr) (ac bc : Nat) (l m : List Rk) (w : World) (ha : RdK w ao l) (hb : RdK w bo m) (hl : l.length ≤ 1000000000) :
    Calls Try.prog 14 #[.slice ao l.length ac, .slice bo m.length bc] w fun e w' => e = .returned (.bool (decide (l = m))) ∧ Below w.heap.size w w' := by
  have HA := hid ha
  have HB := hid hb
  clear ha hb
  by_cases hlm : l.length = m.length
  · have hne : ((l.length : Int) != (m.length : Int)) = false := by simp; omega
    go_enter Try.func14, Try.ntmps14
    have HLM := hid hlm
    clear hlm
    go_wp2
    go_loopw [5] (fun i wr => ∃ k : Nat, k ≤ l.length ∧ i = .int .i64 k ∧ Hid (l.take k = m.take k) ∧ Below w.heap.size w wr) (fun i _ => l.length - (intOf i).toNat)
    case atStart => exact ⟨0, by omega, rfl, rfl, Below.refl _ _⟩
    case round =>
      obtain ⟨k, hk, rfl, HE, hBr⟩ := hrel
      by_cases hlt : k < l.length
      · have hltm : k < m.length := by have := HLM.out; omega
        obtain ⟨a, rfl, ha, a0, a1, a2⟩ := HA.out.below hBr k l[k] (List.getElem?_eq_getElem hlt)
        obtain ⟨b, rfl, hb, b0, b1, b2⟩ := HB.out.below hBr k m[k] (List.getElem?_eq_getElem hltm)
        have HS := hid (fun e => take_eq_step hlt hltm HE.out e)
        have HD := hid (show l[k] ≠ m[k] → decide (l = m) = false from fun hne => decide_eq_false (fun e => hne (by subst e; rfl)))
        obtain ⟨gx, hx⟩ : ∃ gx, l[k] = gx := ⟨_, rfl⟩
        obtain ⟨gy, hy⟩ : ∃ gy, m[k] = gy := ⟨_, rfl⟩
        rw [hx] at a0 a1 a2 HS HD
        rw [hy] at b0 b1 b2 HS HD
        clear hx hy
        obtain ⟨x0, x1, x2⟩ := gx
        obtain ⟨y0, y1, y2⟩ := gy
        dsimp only at a0 a1 a2 b0 b1 b2
        have i3 : (k : Int) < (l.length : Int) := by omega
        have i4 : (k : Int) < (m.length : Int) := by omega
        by_cases q : (x0, x1, x2) = (y0, y1, y2)
        · have HZ := hid (HS.out q)
          cases q
          clear HS HD
          go_wp2_with fail
          go_region
          go_wp2
          go_roundw
          case rel => exact ⟨k + 1, by omega, by go_num, HZ, hBr.drew⟩
          case measure => simp [intOf]; omega
        · have HZ := hid (HD.out q)
          clear HS HD
          by_cases q0 : x0 = y0
          · by_cases q1 : x1 = y1
            · have q2 : x2 ≠ y2 := fun q2 => q (by rw [q0, q1, q2])
              have t1 : (x2 == y2) = false := beq_eq_false_iff_ne.2 q2
              have t2 : (x2 != y2) = true := bne_iff_ne.2 q2
              subst q0 q1
              clear q
              go_wp2_with fail
              go_region
              go_wp2
              go_ret
              exact ⟨by rw [HZ.out]; rfl, hBr.drew⟩
            · have t1 : (x1 == y1) = false := beq_eq_false_iff_ne.2 q1
              have t2 : (x1 != y1) = true := bne_iff_ne.2 q1
              subst q0
              clear q
              go_wp2_with fail
              go_region
              go_wp2
              go_ret
              exact ⟨by rw [HZ.out]; rfl, hBr.drew⟩
          · have t1 : (x0 == y0) = false := beq_eq_false_iff_ne.2 q0
            have t2 : (x0 != y0) = true := bne_iff_ne.2 q0
            clear q
            go_wp2_with fail
            go_region
            go_wp2
            go_ret
            exact ⟨by rw [HZ.out]; rfl, hBr.drew⟩
      · have HZ := hid (show decide (l = m) = true from decide_eq_true (by have h := HE.out; rw [List.take_of_length_le (by omega), List.take_of_length_le (by have := HLM.out; omega)] at h; exact h))
        go_wp2
        go_ret
        exact ⟨by rw [HZ.out]; rfl, hBr⟩
  · have hne : ((l.length : Int) != (m.length : Int)) = true := by simp; omega
    have HZ := hid (show decide (l = m) = false from decide_eq_false (fun e => hlm (by rw [e])))
    clear hlm
    go_enter Try.func14, Try.ntmps14
    go_wp2
    go_ret
    exact ⟨by rw [HZ.out]; rfl, Below.refl _ _⟩
end Go.Proofs.Ytljlhlcoaajggaa
