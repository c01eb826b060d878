/- Tabs written as blanks: the runes of what Plain writes, and its column. Mathematics alone. -/
import Derived.Test.YtlfegdpclappiaaDoorWtPm2
import Derived.Test.YtlfegdpclappiaaDoorWtPln
namespace Go.Proofs.YtlfegdpclappiaaDoor

section
variable (a t : Int)
/-- How the letter under way in a text stands to that in the text where tabs are blanks. -/
def Rel (q c : Int) (f : List (Nat × Nat)) (q' c' : Int) (f' : List (Nat × Nat)) : Prop :=
  (q = q' ∧ c = c' ∧ f = f' ∧ Inv a q f) ∨ (q = 3 ∧ q' = 0 ∧ Nrm f' ∧ bhR a t c f = bhR a t c' f') ∨ ((q = 4 ∨ q = 5) ∧ q' = q ∧ Nrm f ∧ Nrm f' ∧ bhR a t c f = bhR a t c' f')
theorem Rel.same {q c q' c' : Int} {f f' : List (Nat × Nat)} (h : Rel a t q c f q' c' f') : bhR a t c f = bhR a t c' f' := by
  rcases h with ⟨_, rfl, rfl, _⟩ | ⟨_, _, _, h⟩ | ⟨_, _, _, _, h⟩
  · rfl
  · exact h
  · exact h
theorem Rel.inv {q c q' c' : Int} {f f' : List (Nat × Nat)} (h : Rel a t q c f q' c' f') : Inv a q' f' := by
  rcases h with ⟨rfl, _, rfl, h⟩ | ⟨_, rfl, _, _⟩ | ⟨h, rfl, _, _, _⟩
  · exact h
  · exact ⟨⟨by decide, by decide⟩, fun h => by cases h⟩
  · rcases h with rfl | rfl
    · exact ⟨⟨by decide, by decide⟩, fun h => by cases h⟩
    · exact ⟨⟨by decide, by decide⟩, fun h => by cases h⟩
theorem blk_is (ht1 : 1 ≤ t) (ht2 : t ≤ 64) (C : Int) : ∃ k : Nat, blk t C = List.replicate (k + 1) (32, 1) ∧ C + k + 1 = (C / t + 1) * t := by
  have h := tab_bd t C ht1 ht2
  refine ⟨((C / t + 1) * t - C).toNat - 1, ?_, by omega⟩
  unfold blk
  rw [show ((C / t + 1) * t - C).toNat = ((C / t + 1) * t - C).toNat - 1 + 1 by omega]
  rfl
theorem gc_9 (r : Nat × Nat) (h : r.1 = 9) : gc r = 3 := by
  show gpcls (r.1 : Int) = 3
  rw [h]; exact cls_9
theorem plain_run (ha : a = 1 ∨ a = 2) (ht1 : 1 ≤ t) (ht2 : t ≤ 64) : ∀ (L : List (Nat × Nat)), (∀ r ∈ L, gc r ≠ 6) → ∀ (q c : Int) (f : List (Nat × Nat)) (q' c' : Int) (f' : List (Nat × Nat)), Rel a t q c f q' c' f' → rn a t q c f L = rn a t q' c' f' (po a t q c f L)
  | [], _, q, c, f, q', c', f', h => h.same
  | r :: L, hL, q, c, f, q', c', f', h => by
    have hr := hL r (List.mem_cons_self ..)
    have hL' : ∀ r ∈ L, gc r ≠ 6 := fun x hx => hL x (List.mem_cons_of_mem _ hx)
    by_cases h9 : r.1 = 9
    · have e3 := gc_9 r h9
      rw [rn_cons, po_cons, e3, nx_3, if_pos h9]
      simp only []
      obtain ⟨k, k1, k2⟩ := blk_is t ht1 ht2 (bhR a t c f)
      obtain ⟨g, g1, g2, g3⟩ := blanks a t ha (po a t 3 (bhR a t c f) [r] L) k q' c' f' h.inv
      rw [k1, g2]
      refine plain_run ha ht1 ht2 L hL' _ _ _ _ _ _ (.inr (.inl ⟨rfl, rfl, g1, ?_⟩))
      rw [g3, tab_bh a t _ r h9, ← h.same, ← k2]
    · rw [rn_cons, po_cons, if_neg h9]
      show _ = rn a t q' c' f' (r :: _)
      rw [rn_cons]
      have hc := gc_cl r
      rcases h with ⟨rfl, rfl, rfl, hi⟩ | ⟨rfl, rfl, hn, hs⟩ | ⟨hq, rfl, hn, hn', hs⟩
      · cases hx : nx q (gc r) with
        | none => exact plain_run ha ht1 ht2 L hL' _ _ _ _ _ _ (.inl ⟨rfl, rfl, rfl, inv_one a ha r⟩)
        | some q1 => exact plain_run ha ht1 ht2 L hL' _ _ _ _ _ _ (.inl ⟨rfl, rfl, rfl, inv_step a ha hi hx⟩)
      · rw [nx_3l, nx_045 (.inl rfl) hc]
        by_cases hb : gc r = 4 ∨ gc r = 5 ∨ gc r = 6
        · have hz : gc r = 4 ∨ gc r = 5 ∨ gc r = 7 := by omega
          rw [if_pos hb]
          refine plain_run ha ht1 ht2 L hL' _ _ _ _ _ _ (.inr (.inr ⟨by omega, rfl, nrm_one r (by omega), hn.app r, ?_⟩))
          rw [nrm_bh (nrm_one r (by omega)), one_lc a ha r (by omega), cel_zero a r hz, nrm_bh (hn.app r), nrm_zero hn a ha r hz, hs, nrm_bh hn]
          omega
        · rw [if_neg hb, ← hs]
          exact plain_run ha ht1 ht2 L hL' _ _ _ _ _ _ (.inl ⟨rfl, rfl, rfl, inv_one a ha r⟩)
      · have e := nx_045 (q := q') (b := gc r) (.inr hq) hc
        rw [e]
        by_cases hb : gc r = 4 ∨ gc r = 5 ∨ gc r = 6
        · have hz : gc r = 4 ∨ gc r = 5 ∨ gc r = 7 := by omega
          rw [if_pos hb]
          refine plain_run ha ht1 ht2 L hL' _ _ _ _ _ _ (.inr (.inr ⟨by omega, rfl, hn.app r, hn'.app r, ?_⟩))
          rw [nrm_bh (hn.app r), nrm_zero hn a ha r hz, nrm_bh (hn'.app r), nrm_zero hn' a ha r hz, ← nrm_bh hn a t, ← nrm_bh hn' a t]
          exact hs
        · rw [if_neg hb, ← hs]
          exact plain_run ha ht1 ht2 L hL' _ _ _ _ _ _ (.inl ⟨rfl, rfl, rfl, inv_one a ha r⟩)
/-- The column behind the text where tabs are blanks. -/
theorem tx_out (ha : a = 1 ∨ a = 2) (ht1 : 1 ≤ t) (ht2 : t ≤ 64) (s : Int) (Y : List (Nat × Nat)) (hY : ∀ r ∈ Y, gc r ≠ 6) : txR a t s (outR a t s (pcl gc Y)) = txR a t s Y := by
  cases Y with
  | nil => rfl
  | cons r M =>
    have hM : ∀ r ∈ M, gc r ≠ 6 := fun x hx => hY x (List.mem_cons_of_mem _ hx)
    have e : outR a t s (pcl gc (r :: M)) = (if r.1 = 9 then blk t s else [r]) ++ po a t (gc r) s [r] M := by
      rw [po_gr, pcl_cons gc (r :: M) (by simp)]
      simp only [List.map_cons, fstC, List.take_succ_cons, List.drop_succ_cons, outR, List.headD_cons]
      by_cases h9 : r.1 = 9
      · rw [if_pos h9, if_pos h9, gc_9 r h9, gr_3]
        simp only [List.take_zero, List.append_nil, List.nil_append, List.drop_zero]
        rw [tab_bh a t _ r h9]; rfl
      · rw [if_neg h9, if_neg h9]; simp
    rw [tx_rs a t _ _ s (Nat.le_refl _), tx_rs a t _ (r :: M) s (Nat.le_refl _), e]
    show _ = rn a t (gc r) s [r] M
    by_cases h9 : r.1 = 9
    · rw [if_pos h9]
      obtain ⟨k, k1, k2⟩ := blk_is t ht1 ht2 s
      obtain ⟨b1, b2⟩ := blank_one a ha
      rw [k1, List.replicate_succ, List.cons_append]
      show rn a t (gc (32, 1)) s [(32, 1)] _ = _
      rw [gc_32]
      have e3 := gc_9 r h9
      cases k with
      | zero =>
        symm
        refine plain_run a t ha ht1 ht2 M hM _ _ _ _ _ _ (.inr (.inl ⟨e3, rfl, b1, ?_⟩))
        rw [tab_bh a t _ r h9, nrm_bh b1, b2, ← k2]
        omega
      | succ k =>
        obtain ⟨g, g1, g2, g3⟩ := blanks a t ha (po a t (gc r) s [r] M) k 0 s [(32, 1)] ⟨⟨by decide, by decide⟩, fun h => by cases h⟩
        rw [g2]
        symm
        refine plain_run a t ha ht1 ht2 M hM _ _ _ _ _ _ (.inr (.inl ⟨e3, rfl, g1, ?_⟩))
        rw [g3, tab_bh a t _ r h9, nrm_bh b1, b2, ← k2]
        omega
    · rw [if_neg h9]
      show rn a t (gc r) s [r] _ = _
      exact (plain_run a t ha ht1 ht2 M hM _ _ _ _ _ _ (.inl ⟨rfl, rfl, rfl, inv_one a ha r⟩)).symm
end
/-- No tab stands within a letter. -/
theorem gr_no3 : ∀ (L : List (Nat × Nat)) (q : Int), ∀ y ∈ L.take (gr q (L.map gc)), gc y ≠ 3
  | [], _, y, h => by simp at h
  | r :: L, q, y, h => by
    rw [List.map_cons, gr_cons] at h
    cases hn : nx q (gc r) with
    | none => rw [hn] at h; simp at h
    | some q' =>
      rw [hn] at h
      simp only [List.take_succ_cons] at h
      rcases List.mem_cons.1 h with rfl | h
      · intro e
        rw [e, nx_3] at hn
        cases hn
      · exact gr_no3 L q' y h
theorem out_no9 (a t : Int) : ∀ (n : Nat) (Y : List (Nat × Nat)) (C : Int), Y.length ≤ n → ∀ y ∈ outR a t C (pcl gc Y), y.1 ≠ 9
  | n, [], C, _, y, h => by cases h
  | 0, r :: M, C, hl, y, h => by simp at hl
  | n + 1, r :: M, C, hl, y, h => by
    rw [pcl_cons gc (r :: M) (by simp)] at h
    simp only [List.map_cons, fstC, List.take_succ_cons, List.drop_succ_cons, outR, List.headD_cons] at h
    rcases List.mem_append.1 h with h | h
    · by_cases h9 : r.1 = 9
      · rw [if_pos h9] at h
        rw [(List.mem_replicate.1 h).2]; decide
      · rw [if_neg h9] at h
        rcases List.mem_cons.1 h with rfl | h
        · exact h9
        · intro e
          exact gr_no3 M (gc r) y h (gc_9 y e)
    · exact out_no9 a t n _ _ (by rw [List.length_drop]; rw [List.length_cons] at hl; omega) y h
end Go.Proofs.YtlfegdpclappiaaDoor
