/- Tabs written as blanks: the runes of what Plain writes, and its column. Mathematics alone. -/
import Derived.Test.YtlfegdpclappiaaDoorWtPm2Joint
import Derived.Test.YtlfegdpclappiaaDoorWtPlnJoint
namespace Go.Proofs.YtlfegdpclappiaaDoor

section
variable (a t : Int)
/-- How the letter under way in a text stands to that in the text where tabs are blanks. -/
def Rel (q c : Int) (f : List (Nat × Nat)) (q' c' : Int) (f' : List (Nat × Nat)) : Prop :=
  (q = q' ∧ c = c' ∧ f = f' ∧ Inv a q f) ∨ (q = 3 ∧ q' = 0 ∧ Nrm f' ∧ bhR a t c f = bhR a t c' f') ∨ ((q = 4 ∨ q = 5) ∧ q' = q ∧ Nrm f ∧ Nrm f' ∧ bhR a t c f = bhR a t c' f')
theorem Rel.same {q c q' c' : Int} {f f' : List (Nat × Nat)} (h : Rel a t q c f q' c' f') : bhR a t c f = bhR a t c' f' := by
  rcases h with ⟨_, rfl, rfl, _⟩ | ⟨_, _, _, h⟩ | ⟨_, _, _, _, h⟩
  · rfl
  · exact h
  · exact h
theorem Rel.inv {q c q' c' : Int} {f f' : List (Nat × Nat)} (h : Rel a t q c f q' c' f') : Inv a q' f' := by
  rcases h with ⟨rfl, _, rfl, h⟩ | ⟨_, rfl, _, _⟩ | ⟨h, rfl, _, _, _⟩
  · exact h
  · exact ⟨⟨by decide, by decide⟩, fun h => by cases h⟩
  · rcases h with rfl | rfl
    · exact ⟨⟨by decide, by decide⟩, fun h => by cases h⟩
    · exact ⟨⟨by decide, by decide⟩, fun h => by cases h⟩
theorem blk_is (ht1 : 1 ≤ t) (ht2 : t ≤ 64) (C : Int) : ∃ k : Nat, blk t C = List.replicate (k + 1) (32, 1) ∧ C + k + 1 = (C / t + 1) * t := by
  have h := tab_bd t C ht1 ht2
  refine ⟨((C / t + 1) * t - C).toNat - 1, ?_, by omega⟩
  unfold blk
  rw [show ((C / t + 1) * t - C).toNat = ((C / t + 1) * t - C).toNat - 1 + 1 by omega]
  rfl
theorem gc_9 (r : Nat × Nat) (h : r.1 = 9) : gc r = 3 := by
  show gpcls (r.1 : Int) = 3
  rw [h]; exact cls_9
theorem plain_run (ha : a = 1 ∨ a = 2) (ht1 : 1 ≤ t) (ht2 : t ≤ 64) : ∀ (L : List (Nat × Nat)), (∀ r ∈ L, gc r ≠ 6) → ∀ (q c : Int) (f : List (Nat × Nat)) (q' c' : Int) (f' : List (Nat × Nat)), Rel a t q c f q' c' f' → rn a t q c f L = rn a t q' c' f' (po a t q c f L)
  | [], _, q, c, f, q', c', f', h => h.same
  | r :: L, hL, q, c, f, q', c', f', h => by
    have hr := hL r (List.mem_cons_self ..)
    have hL' : ∀ r ∈ L, gc r ≠ 6 := fun x hx => hL x (List.mem_cons_of_mem _ hx)
    by_cases h9 : r.1 = 9
    · have e3 := gc_9 r h9
      rw [rn_cons, po_cons, e3, nx_3, if_pos h9]
      simp only []
      obtain ⟨k, k1, k2⟩ := blk_is t ht1 ht2 (bhR a t c f)
      obtain ⟨g, g1, g2, g3⟩ := blanks a t ha (po a t 3 (bhR a t c f) [r] L) k q' c' f' h.inv
      rw [k1, g2]
      refine plain_run ha ht1 ht2 L hL' _ _ _ _ _ _ (.inr (.inl ⟨rfl, rfl, g1, ?_⟩))
      rw [g3, tab_bh a t _ r h9, ← h.same, ← k2]
    · rw [rn_cons, po_cons, if_neg h9]
      show _ = rn a t q' c' f' (r :: _)
      rw [rn_cons]
      have hc := gc_cl r
      rcases h with ⟨rfl, rfl, rfl, hi⟩ | ⟨rfl, rfl, hn, hs⟩ | ⟨hq, rfl, hn, hn', hs⟩
      · cases hx : nx q (gc r) with
        | none => exact plain_run ha ht1 ht2 L hL' _ _ _ _ _ _ (.inl ⟨rfl, rfl, rfl, inv_one a ha r⟩)
        | some q1 => exact plain_run ha ht1 ht2 L hL' _ _ _ _ _ _ (.inl ⟨rfl, rfl, rfl, inv_step a ha hi hx⟩)
      · rw [nx_3l, nx_045 (.inl rfl) hc]
        by_cases hb : gc r = 4 ∨ gc r = 5 ∨ gc r = 6
        · have hz : gc r = 4 ∨ gc r = 5 ∨ gc r = 7 := by omega
          rw [if_pos hb]
          refine plain_run ha ht1 ht2 L hL' _ _ _ _ _ _ (.inr (.inr ⟨by omega, rfl, nrm_one r (by omega), hn.app r, ?_⟩))
          rw [nrm_bh (nrm_one r (by omega)), one_lc a ha r (by omega), cel_zero a r hz, nrm_bh (hn.app r), nrm_zero hn a ha r hz, hs, nrm_bh hn]
          omega
        · rw [if_neg hb, ← hs]
          exact plain_run ha ht1 ht2 L hL' _ _ _ _ _ _ (.inl ⟨rfl, rfl, rfl, inv_one a ha r⟩)
      · have e := nx_045 (q := q') (b := gc r) (.inr hq) hc
        rw [e]
        by_cases hb : gc r = 4 ∨ gc r = 5 ∨ gc r = 6
        · have hz : gc r = 4 ∨ gc r = 5 ∨ gc r = 7 := by omega
          rw [if_pos hb]
          refine plain_run ha ht1 ht2 L hL' _ _ _ _ _ _ (.inr (.inr ⟨by omega, rfl, hn.app r, hn'.app r, ?_⟩))
          rw [nrm_bh (hn.app r), nrm_zero hn a ha r hz, nrm_bh (hn'.app r), nrm_zero hn' a ha r hz, ← nrm_bh hn a t, ← nrm_bh hn' a t]
          exact hs
        · rw [if_neg hb, ← hs]
          exact plain_run ha ht1 ht2 L hL' _ _ _ _ _ _ (.inl ⟨rfl, rfl, rfl, inv_one a ha r⟩)
/-- The column behind the text where tabs are blanks. -/
theorem tx_out (ha : a = 1 ∨ a = 2) (ht1 : 1 ≤ t) (ht2 : t ≤ 64) (s : Int) (Y : List (Nat × Nat)) (hY : ∀ r ∈ Y, gc r ≠ 6) : txR a t s (outR a t s (pcl gc Y)) = txR a t s Y := by
  cases Y with
  | nil => rfl
  | cons r M =>
    have hM : ∀ r ∈ M, gc r ≠ 6 := fun x hx => hY x (List.mem_cons_of_mem _ hx)
    have e : outR a t s (pcl gc (r :: M)) = (if r.1 = 9 then blk t s else [r]) ++ po a t (gc r) s [r] M := by
      rw [po_gr, pcl_cons gc (r :: M) (by simp)]
      simp only [List.map_cons, fstC, List.take_succ_cons, List.drop_succ_cons, outR, List.headD_cons]
      by_cases h9 : r.1 = 9
      · rw [if_pos h9, if_pos h9, gc_9 r h9, gr_3]
        simp only [List.take_zero, List.append_nil, List.nil_append, List.drop_zero]
        rw [tab_bh a t _ r h9]; rfl
      · rw [if_neg h9, if_neg h9]; simp
    rw [tx_rs a t _ _ s (Nat.le_refl _), tx_rs a t _ (r :: M) s (Nat.le_refl _), e]
    show _ = rn a t (gc r) s [r] M
    by_cases h9 : r.1 = 9
    · rw [if_pos h9]
      obtain ⟨k, k1, k2⟩ := blk_is t ht1 ht2 s
      obtain ⟨b1, b2⟩ := blank_one a ha
      rw [k1, List.replicate_succ, List.cons_append]
      show rn a t (gc (32, 1)) s [(32, 1)] _ = _
      rw [gc_32]
      have e3 := gc_9 r h9
      cases k with
      | zero =>
        symm
        refine plain_run a t ha ht1 ht2 M hM _ _ _ _ _ _ (.inr (.inl ⟨e3, rfl, b1, ?_⟩))
        rw [tab_bh a t _ r h9, nrm_bh b1, b2, ← k2]
        omega
      | succ k =>
        obtain ⟨g, g1, g2, g3⟩ := blanks a t ha (po a t (gc r) s [r] M) k 0 s [(32, 1)] ⟨⟨by decide, by decide⟩, fun h => by cases h⟩
        rw [g2]
        symm
        refine plain_run a t ha ht1 ht2 M hM _ _ _ _ _ _ (.inr (.inl ⟨e3, rfl, g1, ?_⟩))
        rw [g3, tab_bh a t _ r h9, nrm_bh b1, b2, ← k2]
        omega
    · rw [if_neg h9]
      show rn a t (gc r) s [r] _ = _
      exact (plain_run a t ha ht1 ht2 M hM _ _ _ _ _ _ (.inl ⟨rfl, rfl, rfl, inv_one a ha r⟩)).symm
end
/-- No tab stands within a letter. -/
theorem gr_no3 : ∀ (L : List (Nat × Nat)) (q : Int), ∀ y ∈ L.take (gr q (L.map gc)), gc y ≠ 3
  | [], _, y, h => by simp at h
  | r :: L, q, y, h => by
    rw [List.map_cons, gr_cons] at h
    cases hn : nx q (gc r) with
    | none => rw [hn] at h; simp at h
    | some q' =>
      rw [hn] at h
      simp only [List.take_succ_cons] at h
      rcases List.mem_cons.1 h with rfl | h
      · intro e
        rw [e, nx_3] at hn
        cases hn
      · exact gr_no3 L q' y h
theorem out_no9 (a t : Int) : ∀ (n : Nat) (Y : List (Nat × Nat)) (C : Int), Y.length ≤ n → ∀ y ∈ outR a t C (pcl gc Y), y.1 ≠ 9
  | n, [], C, _, y, h => by cases h
  | 0, r :: M, C, hl, y, h => by simp at hl
  | n + 1, r :: M, C, hl, y, h => by
    rw [pcl_cons gc (r :: M) (by simp)] at h
    simp only [List.map_cons, fstC, List.take_succ_cons, List.drop_succ_cons, outR, List.headD_cons] at h
    rcases List.mem_append.1 h with h | h
    · by_cases h9 : r.1 = 9
      · rw [if_pos h9] at h
        rw [(List.mem_replicate.1 h).2]; decide
      · rw [if_neg h9] at h
        rcases List.mem_cons.1 h with rfl | h
        · exact h9
        · intro e
          exact gr_no3 M (gc r) y h (gc_9 y e)
    · exact out_no9 a t n _ _ (by rw [List.length_drop]; rw [List.length_cons] at hl; omega) y h
end Go.Proofs.YtlfegdpclappiaaDoor
/- What Plain writes, by its runes; it holds no tab. What Cut tells is as wide as it tells. Mathematics alone. -/
namespace Go.Proofs.YtlfegdpclappiaaDoor

section
variable (a t : Int)
/-- What Plain writes for the letters M of the text y. -/
def ob : List UInt8 → Int → List (List (Nat × Nat)) → List UInt8
  | _, _, [] => []
  | y, c, x :: M => plO a t c (y.take (psm x)) ++ ob (y.drop (psm x)) (bhd a t c (y.take (psm x))) M
theorem plP_ob (l : List UInt8) : ∀ (M : List (List (Nat × Nat))) (p : Nat) (q : Int × List UInt8), ((plc p M).foldl (fun q x => (bhd a t q.1 ((l.take x.2).drop x.1), q.2 ++ plO a t q.1 ((l.take x.2).drop x.1))) q).2 = q.2 ++ ob a t (l.drop p) q.1 M
  | [], _, q => by simp [plc, ob]
  | x :: M, p, q => by
    have e : (l.take (p + psm x)).drop p = (l.drop p).take (psm x) := by rw [List.drop_take, Nat.add_sub_cancel_left]
    rw [plc, List.foldl_cons, plP_ob l M, ob]
    simp only [e, List.drop_drop, List.append_assoc]
/-- The second text is the first, but a blank stands where the first tab is. -/
def TS (y o : List UInt8) : Prop := o = y ∨ ∃ u y' o', y = u ++ 9 :: y' ∧ o = u ++ 32 :: o'
theorem st9 (y : List UInt8) : Lib.runeStart (byt (9 :: y) 0) = true := by
  show Lib.runeStart 9 = true
  decide
theorem st32 (y : List UInt8) : Lib.runeStart (byt (32 :: y) 0) = true := by
  show Lib.runeStart 32 = true
  decide
theorem ts_join (m y o : List UInt8) (h : TS y o) (hj : rl (m ++ y) = rl m ++ rl y) : rl (m ++ o) = rl m ++ rl o := by
  rcases h with rfl | ⟨u, y', o', rfl, rfl⟩
  · exact hj
  · have h1 := rl_app _ u (9 :: y') (Nat.le_refl _) (.inr (st9 y'))
    have h2 := rl_app _ (m ++ u) (9 :: y') (Nat.le_refl _) (.inr (st9 y'))
    have h3 := rl_app _ u (32 :: o') (Nat.le_refl _) (.inr (st32 o'))
    have h4 := rl_app _ (m ++ u) (32 :: o') (Nat.le_refl _) (.inr (st32 o'))
    rw [← List.append_assoc, h2, h1, ← List.append_assoc] at hj
    have h5 := List.append_cancel_right hj
    rw [← List.append_assoc, h4, h3, h5, List.append_assoc]
theorem rl_rep : ∀ (n : Nat) (o : List UInt8), rl (List.replicate n 32 ++ o) = List.replicate n (32, 1) ++ rl o
  | 0, o => rfl
  | n + 1, o => by
    rw [List.replicate_succ, List.cons_append, rl_ascii 32 _ (by decide), rl_rep n o, List.replicate_succ]; rfl
theorem ob_rl (ht1 : 1 ≤ t) (ht2 : t ≤ 64) : ∀ (M : List (List (Nat × Nat))) (y : List UInt8) (c : Int), pcl gc (rl y) = M → rl (ob a t y c M) = outR a t c M ∧ TS y (ob a t y c M)
  | [], y, c, h => by
    have h1 := pcl_all gc _ (rl y) (Nat.le_refl _)
    rw [h] at h1
    have hy : y = [] := by
      cases y with
      | nil => rfl
      | cons b y => rw [rl_cons _ (by simp)] at h1; cases h1
    subst hy
    exact ⟨rfl, .inl rfl⟩
  | x :: M, y, c, h => by
    have h1 := pcl_all gc _ (rl y) (Nat.le_refl _)
    have hcut := pcl_cut gc [x] M (rl y) (by rw [h]; rfl)
    have hxne := pcl_ne gc _ (rl y) (Nat.le_refl _) x (by rw [h]; exact List.mem_cons_self ..)
    rw [h, List.flatten_cons] at h1
    obtain ⟨e1, e2⟩ := cut_at y _ _ h1.symm
    have hne := piece_ne _ x e1 hxne
    have hb : bhd a t c (y.take (psm x)) = bhR a t c x := by rw [bhd_rl a t c _ hne, e1]
    obtain ⟨i1, i2⟩ := ob_rl ht1 ht2 M (y.drop (psm x)) (bhR a t c x) (by rw [e2]; exact hcut.2)
    have hy : y = y.take (psm x) ++ y.drop (psm x) := (List.take_append_drop _ _).symm
    have hj : rl (y.take (psm x) ++ y.drop (psm x)) = rl (y.take (psm x)) ++ rl (y.drop (psm x)) := by rw [List.take_append_drop, e1, e2, h1]
    have hh : (byt (y.take (psm x)) 0 = 9) = ((x.headD (0, 0)).1 = 9) := propext ((byt_9 _ hne).trans (by rw [dec_hd, e1]))
    rw [ob, outR, hb]
    unfold plO
    rw [hb]
    by_cases h9 : (x.headD (0, 0)).1 = 9
    · rw [if_pos (by rw [hh]; exact h9), if_pos h9]
      refine ⟨by rw [rl_rep, i1], ?_⟩
      have h0 : bhR a t c x = (c / t + 1) * t := by
        unfold bhR
        rw [if_neg (by rw [h9]; decide), if_pos h9]
      have htb := tab_bd t c ht1 ht2
      rw [show (bhR a t c x - c).toNat = (bhR a t c x - c).toNat - 1 + 1 by omega, List.replicate_succ, List.cons_append]
      obtain ⟨m', hm'⟩ : ∃ m', y.take (psm x) = 9 :: m' := by
        have hb9 : byt (y.take (psm x)) 0 = 9 := by rw [hh]; exact h9
        cases hm : y.take (psm x) with
        | nil => exact absurd hm hne
        | cons b m' =>
          rw [hm] at hb9
          refine ⟨m', ?_⟩
          have hb9 : (b.toNat : Int) = 9 := hb9
          have : b.toNat = 9 := by omega
          rw [show b = 9 from UInt8.toNat_inj.1 this]
      exact .inr ⟨[], m' ++ y.drop (psm x), _, by rw [List.nil_append, ← List.cons_append, ← hm']; exact hy, rfl⟩
    · rw [if_neg (by rw [hh]; exact h9), if_neg h9]
      refine ⟨by rw [ts_join _ _ _ i2 hj, e1, i1], ?_⟩
      rcases i2 with h2 | ⟨u, y', o', h2, h3⟩
      · left; rw [h2]; exact hy.symm
      · right
        refine ⟨y.take (psm x) ++ u, y', o', ?_, by rw [h3, List.append_assoc]⟩
        rw [List.append_assoc, ← h2]; exact hy
end
/-- What Plain writes. -/
def plnB (l : List UInt8) (a t s : Int) : List UInt8 := (plP l a t s (gpF l 0)).2
theorem pln_rl (l : List UInt8) (a t s : Int) (h : Okc a t s) : rl (plnB l a t s) = outR a t s (pcl gc (rl l)) := by
  have e : plnB l a t s = ob a t l s (pcl gc (rl l)) := by
    have := plP_ob a t l (pcl gc (rl l)) 0 (s, [])
    exact this
  rw [e]
  exact (ob_rl a t h.t1 h.t2 _ l s rfl).1
/-- A byte 9 is a tab. -/
theorem tab_in : ∀ (n : Nat) (l : List UInt8), l.length ≤ n → (9 : UInt8) ∈ l → ∃ x ∈ rl l, x.1 = 9
  | 0, l, hn, h => by
    obtain rfl : l = [] := List.length_eq_zero_iff.1 (by omega)
    cases h
  | n + 1, l, hn, h => by
    have hne : l ≠ [] := fun e => by subst e; cases h
    have h1 := dec_ge l hne
    have h2 := dec_le l hne
    obtain ⟨i, hi, hie⟩ := List.mem_iff_getElem.1 h
    have hby : byt l i = 9 := by
      unfold byt
      rw [List.getD_eq_getElem?_getD, List.getElem?_eq_getElem hi, hie]; rfl
    rw [rl_cons l hne]
    rcases Nat.lt_or_ge i (dec l).2 with h3 | h3
    · rcases Nat.eq_zero_or_pos i with h0 | h0
      · subst h0
        exact ⟨dec l, List.mem_cons_self .., (byt_9 l hne).1 hby⟩
      · have h4 := (dec_inner l hne i h0 h3).1
        rw [hby] at h4
        exact absurd h4 (by decide)
    · have h5 : (9 : UInt8) ∈ l.drop (dec l).2 := List.mem_iff_getElem.2 ⟨i - (dec l).2, by rw [List.length_drop]; omega, by
        rw [List.getElem_drop]
        have : (dec l).2 + (i - (dec l).2) = i := by omega
        simp only [this]
        exact hie⟩
      obtain ⟨x, hx, he⟩ := tab_in n _ (by rw [List.length_drop]; omega) h5
      exact ⟨x, List.mem_cons_of_mem _ hx, he⟩
theorem pln_no9 (l : List UInt8) (a t s : Int) (h : Okc a t s) (i : Nat) (hi : i < (plnB l a t s).length) : byt (plnB l a t s) i ≠ 9 := by
  intro e
  have hm : (9 : UInt8) ∈ plnB l a t s := by
    have : (plnB l a t s)[i] = 9 := by
      unfold byt at e
      rw [List.getD_eq_getElem?_getD, List.getElem?_eq_getElem hi] at e
      have e2 : (((plnB l a t s)[i]).toNat : Int) = 9 := e
      exact UInt8.toNat_inj.1 (by show _ = 9; omega)
    rw [← this]
    exact List.getElem_mem hi
  obtain ⟨x, hx, h9⟩ := tab_in _ _ (Nat.le_refl _) hm
  rw [pln_rl l a t s h] at hx
  exact out_no9 a t _ _ _ (Nat.le_refl _) x hx h9
theorem pln_tx (l : List UInt8) (a t s : Int) (h : Okc a t s) (hm : ∀ r ∈ rl l, gc r ≠ 6) : colP (plnB l a t s) a t s (gpF (plnB l a t s) 0) = colP l a t s (gpF l 0) := by
  rw [colP_tx, colP_tx, pln_rl l a t s h]
  exact tx_out a t h.a h.t1 h.t2 s _ hm
/-- What Cut tells. -/
theorem fit_tx {l : List UInt8} {z a t s : Int} {n : Nat} {c : Int} (h : FitQ l z a t s n c) : colP (l.take n) a t s (gpF (l.take n) 0) = c ∧ (c ≤ z ∨ c = s) := by
  obtain ⟨P, Q, h1, rfl, rfl, h4⟩ := h
  obtain ⟨k1, _⟩ := pcl_cut gc P Q _ h1
  have h2 := pcl_all gc _ (rl l) (Nat.le_refl _)
  rw [h1, List.flatten_append] at h2
  obtain ⟨e1, _⟩ := cut_at l _ _ h2.symm
  refine ⟨?_, ?_⟩
  · rw [colP_tx, e1]
    unfold txR
    rw [k1]
  · rcases h4 with rfl | h4
    · exact .inr rfl
    · exact .inl h4
end Go.Proofs.YtlfegdpclappiaaDoor
