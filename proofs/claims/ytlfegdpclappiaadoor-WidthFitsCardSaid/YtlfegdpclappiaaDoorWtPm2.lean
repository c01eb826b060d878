/- Columns rune by rune, and what they are where tabs are written as blanks. Mathematics alone. -/
import Derived.Test.YtlfegdpclappiaaDoorWtPm1
namespace Go.Proofs.YtlfegdpclappiaaDoor

section
variable (a t : Int)
/-- The column behind the rest, within a letter f that begins at the column c. -/
def rn : Int → Int → List (Nat × Nat) → List (Nat × Nat) → Int
  | _, c, f, [] => bhR a t c f
  | q, c, f, r :: L => match nx q (gc r) with
    | some q' => rn q' c (f ++ [r]) L
    | none => rn (gc r) (bhR a t c f) [r] L
def rs (C : Int) : List (Nat × Nat) → Int
  | [] => C
  | r :: M => rn a t (gc r) C [r] M
theorem rn_cons (q c : Int) (f : List (Nat × Nat)) (r : Nat × Nat) (L : List (Nat × Nat)) : rn a t q c f (r :: L) = (match nx q (gc r) with | some q' => rn a t q' c (f ++ [r]) L | none => rn a t (gc r) (bhR a t c f) [r] L) := rfl
theorem rn_gr : ∀ (L : List (Nat × Nat)) (q c : Int) (f : List (Nat × Nat)), rn a t q c f L = rs a t (bhR a t c (f ++ L.take (gr q (L.map gc)))) (L.drop (gr q (L.map gc)))
  | [], q, c, f => by simp [rn, rs]
  | r :: L, q, c, f => by
    rw [rn_cons, List.map_cons, gr_cons]
    cases hn : nx q (gc r) with
    | none => simp [rs]
    | some q' =>
      simp only []
      rw [rn_gr L q' c (f ++ [r]), List.take_succ_cons, List.drop_succ_cons, List.append_assoc]; rfl
theorem tx_rs : ∀ (n : Nat) (Y : List (Nat × Nat)) (C : Int), Y.length ≤ n → txR a t C Y = rs a t C Y
  | n, [], C, _ => rfl
  | 0, r :: M, C, h => by simp at h
  | n + 1, r :: M, C, h => by
    have hd : (M.drop (gr (gc r) (M.map gc))).length ≤ n := by
      rw [List.length_drop]
      rw [List.length_cons] at h
      omega
    unfold txR
    rw [pcl_cons gc _ (by simp)]
    simp only [List.map_cons, fstC, List.take_succ_cons, List.drop_succ_cons, List.foldl_cons]
    have ih := tx_rs n (M.drop (gr (gc r) (M.map gc))) (bhR a t C (r :: M.take (gr (gc r) (M.map gc)))) hd
    unfold txR at ih
    rw [ih]
    show _ = rn a t (gc r) C [r] M
    rw [rn_gr]; rfl
/-- What stands for the rest where tabs are blanks. -/
def blk (C : Int) : List (Nat × Nat) := List.replicate ((C / t + 1) * t - C).toNat (32, 1)
def po : Int → Int → List (Nat × Nat) → List (Nat × Nat) → List (Nat × Nat)
  | _, _, _, [] => []
  | q, c, f, r :: L => (if r.1 = 9 then blk t (bhR a t c f) else [r]) ++ (match nx q (gc r) with
    | some q' => po q' c (f ++ [r]) L
    | none => po (gc r) (bhR a t c f) [r] L)
theorem po_cons (q c : Int) (f : List (Nat × Nat)) (r : Nat × Nat) (L : List (Nat × Nat)) : po a t q c f (r :: L) = (if r.1 = 9 then blk t (bhR a t c f) else [r]) ++ (match nx q (gc r) with | some q' => po a t q' c (f ++ [r]) L | none => po a t (gc r) (bhR a t c f) [r] L) := rfl
/-- The same by letters. -/
def outR : Int → List (List (Nat × Nat)) → List (Nat × Nat)
  | _, [] => []
  | C, x :: M => (if (x.headD (0, 0)).1 = 9 then List.replicate (bhR a t C x - C).toNat (32, 1) else x) ++ outR (bhR a t C x) M
end
theorem gbt_3l (b : Int) : gbt 3 b = 0 := by
  unfold gbt
  rw [if_neg (fun h => absurd h.1 (by decide)), if_pos (.inl (by decide))]
theorem nx_3 (q : Int) : nx q 3 = none := by
  unfold nx
  have h : ∀ a : Int, ¬ gbt a 3 = 1 := fun a e => by rw [gbt_3] at e; cases e
  split
  · rw [if_neg (by decide), if_neg (by decide), if_neg (h _)]
  split
  · rw [if_neg (by decide), if_neg (h _)]
  split
  · rw [if_neg (by decide), if_neg (h _)]
  split
  · rw [if_neg (h _)]
  · rw [if_neg (h _)]
theorem nx_3l (b : Int) : nx 3 b = none := by
  unfold nx
  rw [if_neg (by decide), if_neg (by decide), if_neg (by decide), if_neg (by decide), if_neg (by rw [gbt_3l]; decide)]
theorem gr_3 (L : List Int) : gr 3 L = 0 := by
  cases L with
  | nil => rfl
  | cons b L => rw [gr_cons, nx_3l]
def St (q : Int) : Prop := 0 ≤ q ∧ q ≤ 15
def chk2 (q b : Int) : Bool := (!(decide (b = 0) && (nx q b).isSome) || decide (q = 7)) && (!(decide (b = 7) && (nx q b).isSome) || (decide (q = 7) && decide (nx q b = some 7))) && (!(decide (b = 0) && (nx q b).isSome) || decide (nx q b = some 0)) && (match nx q b with | none => true | some q' => decide (0 ≤ q') && decide (q' ≤ 15) && (!decide (q' = 7) || decide (b = 7)))
  && (!decide (q = 0 ∨ q = 4 ∨ q = 5) || (if b = 4 ∨ b = 5 ∨ b = 6 then decide (nx q b = some b) else decide (nx q b = none)))
theorem chk2_all : ((List.range 16).all fun q => (List.range 14).all fun b => chk2 q b) = true := by decide +kernel
theorem chk2_at {q b : Int} (hq : St q) (hb : Cl b) : chk2 q b = true := by
  obtain ⟨qn, rfl⟩ : ∃ n : Nat, q = n := ⟨q.toNat, by have := hq.1; omega⟩
  obtain ⟨bn, rfl⟩ : ∃ n : Nat, b = n := ⟨b.toNat, by have := hb.1; omega⟩
  exact List.all_eq_true.1 (List.all_eq_true.1 chk2_all qn (List.mem_range.2 (by have := hq.2; omega))) bn (List.mem_range.2 (by have := hb.2; omega))
theorem nx_0 {q q' : Int} (hq : St q) (h : nx q 0 = some q') : q = 7 ∧ q' = 0 := by
  have h1 := chk2_at hq (show Cl 0 from ⟨by decide, by decide⟩)
  unfold chk2 at h1
  simp only [h, Option.isSome_some, decide_true, Bool.and_true, Bool.not_true, Bool.false_or, Bool.and_eq_true, decide_eq_true_eq, Option.some.injEq] at h1
  exact ⟨h1.1.1.1.1, h1.1.1.2⟩
theorem nx_7 {q q' b : Int} (hq : St q) (hb : Cl b) (h : nx q b = some q') (h7 : q' = 7) : q = 7 ∧ b = 7 := by
  have h1 := chk2_at hq hb
  unfold chk2 at h1
  subst h7
  simp only [h, Option.isSome_some, decide_true, Bool.and_true, Bool.not_true, Bool.false_or, Bool.and_eq_true, decide_eq_true_eq, Option.some.injEq] at h1
  have hb7 : b = 7 := h1.1.2.2
  subst hb7
  have h2 := h1.1.1.1.2
  simp at h2
  exact ⟨h2, rfl⟩
theorem nx_st {q q' b : Int} (hq : St q) (hb : Cl b) (h : nx q b = some q') : St q' := by
  have h1 := chk2_at hq hb
  unfold chk2 at h1
  simp only [h, Bool.and_eq_true, decide_eq_true_eq] at h1
  exact h1.1.2.1
theorem nx_045 {q b : Int} (hq : q = 0 ∨ q = 4 ∨ q = 5) (hb : Cl b) : nx q b = if b = 4 ∨ b = 5 ∨ b = 6 then some b else none := by
  have h1 := chk2_at (show St q by rcases hq with rfl | rfl | rfl <;> exact ⟨by decide, by decide⟩) hb
  unfold chk2 at h1
  simp only [Bool.and_eq_true] at h1
  have h2 := h1.2
  rw [decide_eq_true hq] at h2
  simp only [Bool.not_true, Bool.false_or] at h2
  split at h2
  · rename_i hh; rw [if_pos hh]; exact of_decide_eq_true h2
  · rename_i hh; rw [if_neg hh]; exact of_decide_eq_true h2
theorem tab_bh (a t c : Int) (r : Nat × Nat) (h : r.1 = 9) : bhR a t c [r] = (c / t + 1) * t := by
  have e : (([r] : List (Nat × Nat)).headD (0, 0)).1 = 9 := h
  unfold bhR
  rw [if_neg (by rw [e]; decide), if_pos e]
section
variable (a t : Int)
/-- No tab is passed within a letter. -/
theorem po_gr : ∀ (L : List (Nat × Nat)) (q c : Int) (f : List (Nat × Nat)), po a t q c f L = L.take (gr q (L.map gc)) ++ outR a t (bhR a t c (f ++ L.take (gr q (L.map gc)))) (pcl gc (L.drop (gr q (L.map gc))))
  | [], q, c, f => by simp [po, pcl_nil, outR]
  | r :: L, q, c, f => by
    rw [po_cons, List.map_cons, gr_cons]
    cases hn : nx q (gc r) with
    | none =>
      simp only [List.take_zero, List.append_nil, List.nil_append, List.drop_zero]
      rw [pcl_cons gc (r :: L) (by simp)]
      simp only [List.map_cons, fstC, List.take_succ_cons, List.drop_succ_cons, outR, List.headD_cons]
      rw [po_gr L (gc r) (bhR a t c f) [r]]
      by_cases h9 : r.1 = 9
      · have e3 : gc r = 3 := by show gpcls (r.1 : Int) = 3; rw [h9]; exact cls_9
        rw [if_pos h9, if_pos h9, e3, gr_3]
        simp only [List.take_zero, List.append_nil, List.nil_append, List.drop_zero]
        rw [tab_bh a t _ r h9]; rfl
      · rw [if_neg h9, if_neg h9]; simp
    | some q' =>
      have h9 : ¬ r.1 = 9 := fun h9 => by
        have e3 : gc r = 3 := by show gpcls (r.1 : Int) = 3; rw [h9]; exact cls_9
        rw [e3, nx_3] at hn
        cases hn
      simp only []
      rw [if_neg h9, po_gr L q' c (f ++ [r]), List.take_succ_cons, List.drop_succ_cons, List.append_assoc]; simp
/-- What must hold within a letter. -/
def Inv (q : Int) (f : List (Nat × Nat)) : Prop := St q ∧ (q = 7 → Nrm f ∧ lcR a f = 0)
theorem inv_one (ha : a = 1 ∨ a = 2) (r : Nat × Nat) : Inv a (gc r) [r] := by
  refine ⟨⟨(gc_cl r).1, by have := (gc_cl r).2; omega⟩, fun h => ⟨nrm_one r (.inr (.inr (.inr h))), ?_⟩⟩
  rw [one_lc a ha r (.inr (.inr (.inr h))), cel_zero a r (.inr (.inr h))]
theorem inv_step (ha : a = 1 ∨ a = 2) {q q' : Int} {f : List (Nat × Nat)} {r : Nat × Nat} (h : Inv a q f) (hn : nx q (gc r) = some q') : Inv a q' (f ++ [r]) := by
  refine ⟨nx_st h.1 (gc_cl r) hn, fun h7 => ?_⟩
  obtain ⟨e1, e2⟩ := nx_7 h.1 (gc_cl r) hn h7
  obtain ⟨k1, k2⟩ := h.2 e1
  exact ⟨k1.app r, by rw [nrm_zero k1 a ha r (.inr (.inr e2)), k2]⟩
theorem gc_32 : gc (32, 1) = 0 := cls_32
theorem blank_one (ha : a = 1 ∨ a = 2) : Nrm [(32, 1)] ∧ lcR a [(32, 1)] = 1 := ⟨nrm_one (32, 1) (.inl gc_32), by rw [one_lc a ha (32, 1) (.inl gc_32)]; exact cel_32 a⟩
/-- Blanks behind a letter. -/
theorem blanks (ha : a = 1 ∨ a = 2) (Z : List (Nat × Nat)) : ∀ (n : Nat) (q c : Int) (f : List (Nat × Nat)), Inv a q f → ∃ g, Nrm g ∧ rn a t q c f (List.replicate (n + 1) (32, 1) ++ Z) = rn a t 0 (bhR a t c f + n) g Z ∧ bhR a t (bhR a t c f + n) g = bhR a t c f + n + 1
  | 0, q, c, f, h => by
    obtain ⟨b1, b2⟩ := blank_one a ha
    show ∃ g, Nrm g ∧ rn a t q c f ((32, 1) :: Z) = _ ∧ _
    rw [rn_cons, gc_32]
    cases hn : nx q 0 with
    | none =>
      refine ⟨[(32, 1)], b1, by simp, ?_⟩
      rw [nrm_bh b1, b2]
    | some q' =>
      obtain ⟨rfl, rfl⟩ := nx_0 h.1 hn
      obtain ⟨k1, k2⟩ := h.2 rfl
      have e : bhR a t c f = c := by rw [nrm_bh k1, k2]; omega
      refine ⟨f ++ [(32, 1)], k1.app _, by rw [e]; simp, ?_⟩
      rw [nrm_bh (k1.app _), nrm_app k1, k2, e]
      show c + (0 : Nat) + max 0 (rcel a 32) = _
      rw [cel_32]
      omega
  | n + 1, q, c, f, h => by
    obtain ⟨b1, b2⟩ := blank_one a ha
    obtain ⟨g, g1, g2, g3⟩ := blanks ha ((32, 1) :: Z) n q c f h
    refine ⟨[(32, 1)], b1, ?_, ?_⟩
    · have e : List.replicate (n + 1 + 1) ((32 : Nat), (1 : Nat)) ++ Z = List.replicate (n + 1) (32, 1) ++ ((32, 1) :: Z) := by
        rw [List.replicate_succ' (n := n + 1), List.append_assoc]; rfl
      rw [e, g2, rn_cons, gc_32, nx_045 (.inl rfl) ⟨by decide, by decide⟩]
      simp only [show ¬ ((0 : Int) = 4 ∨ (0 : Int) = 5 ∨ (0 : Int) = 6) by decide, if_false]
      rw [g3, show bhR a t c f + (n : Int) + 1 = bhR a t c f + ((n + 1 : Nat) : Int) by omega]
    · rw [nrm_bh b1, b2]
end
end Go.Proofs.YtlfegdpclappiaaDoor
