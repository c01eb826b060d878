/- The mathematics of lines of boxes: what a line is, a breaking, its cost; the greedy breaking is one and has the fewest lines; the even one is one and has the least cost. -/
namespace Go.Proofs.YtffbdnlfknomnaaDoor

structure Bx where
  w : Int
  b : Int
  h : Int
  m : Bool
structure Wr where
  wd : Int
  fi : Int
  re : Int
  ho : Int
/-- A box by its number. -/
def bx (L : List Bx) (i : Nat) : Bx := (L[i]?).getD ⟨0, 0, 0, false⟩
/-- Whether a box is its paragraph's last. -/
def en (L : List Bx) (i : Nat) : Bool := (bx L i).m || decide (i + 1 = L.length)
/-- Whether a box is its paragraph's first. -/
def bg (L : List Bx) (i : Nat) : Bool := decide (i = 0) || (bx L (i - 1)).m
def ind (W : Wr) (L : List Bx) (i : Nat) : Int := if bg L i = true then W.fi else W.re
def rm (W : Wr) (L : List Bx) (i : Nat) : Int := W.wd - ind W L i
def hy (L : List Bx) (j : Nat) : Int := if en L j = true then 0 else (bx L j).h
/-- The cells of k boxes from i on. -/
def sm (L : List Bx) (i : Nat) : Nat → Int
  | 0 => 0
  | k + 1 => sm L i k + (bx L (i + k)).w + (bx L (i + k)).b
def sz (L : List Bx) (i j : Nat) : Int := sm L i (j - i) + (bx L j).w + hy L j
/-- Boxes of one paragraph. -/
def Par (L : List Bx) (i j : Nat) : Prop := i ≤ j ∧ j < L.length ∧ ∀ k, i ≤ k → k < j → en L k = false
/-- A line that fits. -/
def Lin (W : Wr) (L : List Bx) (i j : Nat) : Prop := Par L i j ∧ (i = j ∨ sz L i j ≤ rm W L i)
/-- What a line costs. -/
def lc (W : Wr) (L : List Bx) (i j : Nat) : Int :=
  if rm W L i - sz L i j < 0 then 10 * (rm W L i - sz L i j) * (rm W L i - sz L i j) else if en L j = true then 0 else (rm W L i - sz L i j) * (rm W L i - sz L i j)
/-- A breaking from a box on. -/
def Brk (W : Wr) (L : List Bx) : Nat → List Int → Prop
  | i, [] => i = L.length
  | i, e :: t => ∃ j : Nat, e = j ∧ Lin W L i j ∧ Brk W L (j + 1) t
def cst (W : Wr) (L : List Bx) : Nat → List Int → Int
  | _, [] => 0
  | i, e :: t => lc W L i e.toNat + cst W L (e.toNat + 1) t
/-- Boxes and a Wrap that are taken. -/
structure Okb (W : Wr) (L : List Bx) : Prop where
  wd : 1 ≤ W.wd ∧ W.wd ≤ 100000
  fi : 0 ≤ W.fi ∧ W.fi ≤ 100000
  re : 0 ≤ W.re ∧ W.re ≤ 100000
  ho : W.ho = 0 ∨ W.ho = 1
  len : L.length ≤ 4096
  w : ∀ i, 0 ≤ (bx L i).w ∧ (bx L i).w ≤ 100000
  b : ∀ i, 0 ≤ (bx L i).b ∧ (bx L i).b ≤ 100000
  h : ∀ i, 0 ≤ (bx L i).h ∧ (bx L i).h ≤ 100000
variable {W : Wr} {L : List Bx}
theorem Okb.room (o : Okb W L) (i : Nat) : -100000 ≤ rm W L i ∧ rm W L i ≤ 100000 := by
  have := o.wd; have := o.fi; have := o.re
  unfold rm ind
  split <;> omega
theorem Okb.hyp (o : Okb W L) (j : Nat) : 0 ≤ hy L j ∧ hy L j ≤ 100000 := by
  have := o.h j
  unfold hy
  split <;> omega
theorem Okb.sum (o : Okb W L) (i : Nat) : ∀ k, 0 ≤ sm L i k ∧ sm L i k ≤ 200000 * k
  | 0 => by simp [sm]
  | k + 1 => by
    have := o.sum i k; have := o.w (i + k); have := o.b (i + k)
    rw [sm]
    omega
theorem sm_front (L : List Bx) (i : Nat) : ∀ k, sm L i (k + 1) = (bx L i).w + (bx L i).b + sm L (i + 1) k
  | 0 => by simp [sm]
  | k + 1 => by
    rw [sm, sm_front L i k, sm]
    have : i + 1 + k = i + (k + 1) := by omega
    rw [this]
    omega
theorem Okb.sm_mono (o : Okb W L) (i j : Nat) : ∀ d, d ≤ j → sm L (i + d) (j - d) ≤ sm L i j
  | 0, _ => by simp
  | d + 1, h => by
    have h1 := o.sm_mono i j d (by omega)
    have h2 := sm_front L (i + d) (j - (d + 1))
    have e : j - (d + 1) + 1 = j - d := by omega
    rw [e] at h2
    have := o.w (i + d); have := o.b (i + d)
    have e2 : i + (d + 1) = i + d + 1 := by omega
    rw [e2]
    omega
theorem Okb.size (o : Okb W L) {i j : Nat} (hj : j < L.length) : 0 ≤ sz L i j ∧ sz L i j ≤ 820000000 := by
  have := o.sum i (j - i); have := o.w j; have := o.hyp j; have := o.len
  unfold sz
  omega
theorem Par.self {i : Nat} (h : i < L.length) : Par L i i := ⟨Nat.le_refl _, h, fun k h1 h2 => by omega⟩
theorem Lin.self {i : Nat} (h : i < L.length) : Lin W L i i := ⟨Par.self h, .inl rfl⟩
theorem sq_le (x b : Int) (h1 : -b ≤ x) (h2 : x ≤ b) : 0 ≤ x * x ∧ x * x ≤ b * b := by
  have h0 : 0 ≤ b := by omega
  refine ⟨?_, ?_⟩
  · rcases Int.le_total 0 x with h | h
    · exact Int.mul_nonneg h h
    · exact Int.mul_nonneg_of_nonpos_of_nonpos h h
  · rcases Int.le_total 0 x with h | h
    · exact Int.mul_le_mul h2 h2 h h0
    · have := Int.mul_le_mul (a := -x) (b := -x) (c := b) (d := b) (by omega) (by omega) (by omega) h0
      rwa [Int.neg_mul_neg] at this
/-- What a line costs is small. -/
theorem Okb.line (o : Okb W L) {i j : Nat} (h : Lin W L i j) : 0 ≤ lc W L i j ∧ lc W L i j ≤ 1000000000000 := by
  have hr := o.room i
  have hs := o.size (i := i) h.1.2.1
  have hw := o.w j; have hh := o.hyp j
  have hlow : -300000 ≤ rm W L i - sz L i j := by
    rcases h.2 with e | e
    · subst e
      have : sz L i i = (bx L i).w + hy L i := by unfold sz; simp [sm]
      omega
    · omega
  have hq := sq_le (rm W L i - sz L i j) 300000 (by omega) (by omega)
  have e : (300000 : Int) * 300000 = 90000000000 := by decide
  rw [e] at hq
  unfold lc
  split
  · rw [Int.mul_assoc]; omega
  · split
    · omega
    · omega
theorem brk_le : ∀ (t : List Int) (i : Nat), Brk W L i t → i ≤ L.length ∧ t.length ≤ L.length - i
  | [], i, h => by have h' : i = L.length := h; simp; omega
  | e :: t, i, ⟨j, _, h1, h2⟩ => by
    have h3 := brk_le t (j + 1) h2
    have := h1.1.1; have := h1.1.2.1
    rw [List.length_cons]
    omega
theorem cst_cons (i j : Nat) (t : List Int) : cst W L i ((j : Int) :: t) = lc W L i j + cst W L (j + 1) t := by rw [cst]; simp
theorem Okb.cost (o : Okb W L) : ∀ (t : List Int) (i : Nat), Brk W L i t → 0 ≤ cst W L i t ∧ cst W L i t ≤ 1000000000000 * t.length
  | [], i, h => by simp [cst]
  | e :: t, i, ⟨j, he, h1, h2⟩ => by
    subst he
    have h3 := o.cost t (j + 1) h2
    have h4 := o.line h1
    rw [cst_cons, List.length_cons]
    omega
/-- The greedy breaking. -/
def Gr (W : Wr) (L : List Bx) (i j : Nat) : Prop := Lin W L i j ∧ ∀ k, Lin W L i k → k ≤ j
def GrL (W : Wr) (L : List Bx) : Nat → List Int → Prop
  | i, [] => i = L.length
  | i, e :: t => ∃ j : Nat, e = j ∧ Gr W L i j ∧ GrL W L (j + 1) t
theorem GrL.brk : ∀ {t : List Int} {i : Nat}, GrL W L i t → Brk W L i t
  | [], _, h => h
  | _ :: _, _, ⟨j, he, h1, h2⟩ => ⟨j, he, h1.1, GrL.brk h2⟩
theorem grl_uniq : ∀ {s t : List Int} {i : Nat}, GrL W L i s → GrL W L i t → s = t
  | [], [], _, _, _ => rfl
  | [], _ :: _, i, h, ⟨j, _, h1, _⟩ => by have h' : i = L.length := h; have := h1.1.1.1; have := h1.1.1.2.1; omega
  | _ :: _, [], i, ⟨j, _, h1, _⟩, h => by have h' : i = L.length := h; have := h1.1.1.1; have := h1.1.1.2.1; omega
  | _ :: _, _ :: _, i, ⟨j, he, h1, h2⟩, ⟨k, hf, g1, g2⟩ => by
    have e : j = k := Nat.le_antisymm (g1.2 j h1.1) (h1.2 k g1.1)
    subst e
    rw [he, hf, grl_uniq h2 g2]
theorem bg_succ (j : Nat) (h : en L j = false) : bg L (j + 1) = false := by
  have hm : (bx L j).m = false := by
    cases hb : (bx L j).m with
    | false => rfl
    | true => unfold en at h; rw [hb] at h; simp at h
  unfold bg
  simp [hm]
theorem Par.lower {i i' j : Nat} (h : Par L i j) (h1 : i ≤ i') (h2 : i' ≤ j) : Par L i' j := ⟨h2, h.2.1, fun k h3 h4 => h.2.2 k (by omega) h4⟩
theorem Par.upper {i j j' : Nat} (h : Par L i j) (h1 : i ≤ j') (h2 : j' ≤ j) : Par L i j' := ⟨h1, Nat.lt_of_le_of_lt h2 h.2.1, fun k h3 h4 => h.2.2 k h3 (by omega)⟩
theorem Par.join {i j k : Nat} (h : Par L i j) (g : Par L (j + 1) k) (he : en L j = false) : Par L i k :=
  ⟨by have := h.1; have := g.1; omega, g.2.1, fun x h1 h2 => by
    rcases Nat.lt_or_ge x j with h3 | h3
    · exact h.2.2 x h1 h3
    · rcases Nat.eq_or_lt_of_le h3 with h4 | h4
      · rw [← h4]; exact he
      · exact g.2.2 x (by omega) h2⟩
/-- A line that begins later fits too. -/
theorem Okb.later (o : Okb W L) {i i' j : Nat} (hl : Lin W L i j) (h1 : i ≤ i') (h2 : i' ≤ j) (hb : bg L i = bg L i') : Lin W L i' j := by
  refine ⟨hl.1.lower h1 h2, ?_⟩
  rcases hl.2 with e | e
  · exact .inl (by omega)
  · refine .inr ?_
    have hr : rm W L i = rm W L i' := by unfold rm ind; rw [hb]
    rw [← hr]
    refine Int.le_trans ?_ e
    have := o.sm_mono i (j - i) (i' - i) (by omega)
    have e1 : i + (i' - i) = i' := by omega
    have e2 : j - i - (i' - i) = j - i' := by omega
    rw [e1, e2] at this
    unfold sz
    omega
/-- The greedy breaking from a later box of a paragraph on has no more lines. -/
theorem Okb.shorter (o : Okb W L) : ∀ (s : List Int) (i : Nat), GrL W L i s → bg L i = false → ∀ (i' : Nat) (t : List Int), GrL W L i' t → i ≤ i' → (Par L i i' ∨ ∃ q, Par L i q ∧ en L q = true ∧ i' = q + 1) → t.length ≤ s.length
  | [], i, h, hb, i', t, ht, hle, hp => by
    have h' : i = L.length := h
    rcases hp with h1 | ⟨q, h1, _⟩
    · have := h1.1; have := h1.2.1; omega
    · have := h1.1; have := h1.2.1; omega
  | e :: s, i, ⟨j, he, g1, g2⟩, hb, i', t, ht, hle, hp => by
    rcases Nat.lt_or_ge j i' with hlt | hge
    · -- i' lies behind the line
      rw [List.length_cons]
      cases hj : en L j with
      | true =>
        have hi' : i' = j + 1 := by
          rcases hp with h1 | ⟨q, h1, h2, h3⟩
          · have := h1.2.2 j g1.1.1.1 hlt; rw [hj] at this; cases this
          · rcases Nat.lt_or_ge j q with h4 | h4
            · have := h1.2.2 j g1.1.1.1 h4; rw [hj] at this; cases this
            · rcases Nat.lt_or_ge q j with h5 | h5
              · have := g1.1.1.2.2 q h1.1 h5; rw [h2] at this; cases this
              · omega
        subst hi'
        rw [grl_uniq ht g2]
        omega
      | false =>
        have := o.shorter s (j + 1) g2 (bg_succ j hj) i' t ht hlt (by
          rcases hp with h1 | ⟨q, h1, h2, h3⟩
          · exact .inl (h1.lower (by have := g1.1.1.1; omega) hlt)
          · refine .inr ⟨q, h1.lower (by have := g1.1.1.1; omega) ?_, h2, h3⟩
            rcases Nat.lt_or_ge j q with h4 | h4
            · exact h4
            · rcases Nat.lt_or_ge q j with h5 | h5
              · have := g1.1.1.2.2 q h1.1 h5; rw [h2] at this; cases this
              · have : q = j := by omega
                rw [this, hj] at h2; cases h2)
        omega
    · -- i' lies in the line
      have hbi : bg L i' = false := by
        rcases Nat.eq_or_lt_of_le hle with h | h
        · rw [← h]; exact hb
        · have := bg_succ (i' - 1) (g1.1.1.2.2 (i' - 1) (by omega) (by omega))
          have e : i' - 1 + 1 = i' := by omega
          rwa [e] at this
      have hl := o.later g1.1 hle hge (by rw [hb, hbi])
      cases t with
      | nil => simp
      | cons f t =>
        obtain ⟨k, hf, k1, k2⟩ := ht
        have hjk := k1.2 j hl
        rw [List.length_cons, List.length_cons]
        have : t.length ≤ s.length := by
          cases hj : en L j with
          | true =>
            have : k = j := by
              rcases Nat.eq_or_lt_of_le hjk with h | h
              · exact h.symm
              · have := k1.1.1.2.2 j hge h; rw [hj] at this; cases this
            subst this
            rw [grl_uniq k2 g2]
            exact Nat.le_refl _
          | false =>
            refine o.shorter s (j + 1) g2 (bg_succ j hj) (k + 1) t k2 (by omega) ?_
            have hpk : Par L (j + 1) k ∨ k = j := by
              rcases Nat.eq_or_lt_of_le hjk with h | h
              · exact .inr h.symm
              · exact .inl ⟨h, k1.1.1.2.1, fun x h1 h2 => k1.1.1.2.2 x (by omega) h2⟩
            cases hk : en L k with
            | true =>
              rcases hpk with h | h
              · exact .inr ⟨k, h, hk, rfl⟩
              · rw [h, hj] at hk; cases hk
            | false =>
              have hkn : k + 1 < L.length := by
                have := k1.1.1.2.1
                unfold en at hk
                simp at hk
                omega
              refine .inl ⟨by omega, hkn, fun x h1 h2 => ?_⟩
              rcases Nat.eq_or_lt_of_le (Nat.le_of_lt_succ h2) with h | h
              · rw [h]; exact hk
              · exact k1.1.1.2.2 x (by omega) h
        omega
/-- No breaking has fewer lines than the greedy one. -/
theorem Okb.fewest (o : Okb W L) : ∀ (t : List Int) (i : Nat), Brk W L i t → ∀ s, GrL W L i s → s.length ≤ t.length
  | [], i, h, s, hs => by
    have h' : i = L.length := h
    cases s with
    | nil => simp
    | cons e s => obtain ⟨j, _, h1, _⟩ := hs; have := h1.1.1.1; have := h1.1.1.2.1; omega
  | e :: t, i, ⟨j, he, h1, h2⟩, s, hs => by
    cases s with
    | nil => simp
    | cons f s =>
      obtain ⟨k, hf, k1, k2⟩ := hs
      have hjk := k1.2 j h1
      rw [List.length_cons, List.length_cons]
      have : ∃ g, GrL W L (j + 1) g := exists_grl o _ (j + 1) (Nat.le_refl _) (by have := h1.1.2.1; omega)
      obtain ⟨g, hg⟩ := this
      have ih := o.fewest t (j + 1) h2 g hg
      suffices s.length ≤ g.length by omega
      cases hj : en L j with
      | true =>
        have : k = j := by
          rcases Nat.eq_or_lt_of_le hjk with h | h
          · exact h.symm
          · have := k1.1.1.2.2 j h1.1.1 h; rw [hj] at this; cases this
        subst this
        rw [grl_uniq k2 hg]
        exact Nat.le_refl _
      | false =>
        refine o.shorter g (j + 1) hg (bg_succ j hj) (k + 1) s k2 (by omega) ?_
        cases hk : en L k with
        | true =>
          rcases Nat.eq_or_lt_of_le hjk with h | h
          · rw [← h, hj] at hk; cases hk
          · exact .inr ⟨k, ⟨h, k1.1.1.2.1, fun x h3 h4 => k1.1.1.2.2 x (by have := h1.1.1; omega) h4⟩, hk, rfl⟩
        | false =>
          have hkn : k + 1 < L.length := by
            have := k1.1.1.2.1
            unfold en at hk
            simp at hk
            omega
          refine .inl ⟨by omega, hkn, fun x h3 h4 => ?_⟩
          rcases Nat.eq_or_lt_of_le (Nat.le_of_lt_succ h4) with h | h
          · rw [h]; exact hk
          · exact k1.1.1.2.2 x (by have := h1.1.1; omega) h
where
  exists_gr (i n : Nat) : ∀ (hi : i < L.length), (∀ k, Lin W L i k → k ≤ i + n) → ∃ j, Gr W L i j := by
    induction n with
    | zero => exact fun hi h => ⟨i, Lin.self hi, h⟩
    | succ n ih =>
      intro hi h
      by_cases hx : Lin W L i (i + (n + 1))
      · exact ⟨_, hx, h⟩
      · refine ih hi fun k hk => ?_
        have := h k hk
        rcases Nat.eq_or_lt_of_le this with e | e
        · rw [e] at hk; exact absurd hk hx
        · omega
  exists_grl (o : Okb W L) : ∀ (n i : Nat), L.length - i ≤ n → i ≤ L.length → ∃ g, GrL W L i g
    | n, i, hn, hi => by
      rcases Nat.eq_or_lt_of_le hi with h | h
      · exact ⟨[], h⟩
      · obtain ⟨j, hj⟩ := exists_gr i L.length h (fun k hk => by have := hk.1.2.1; omega)
        cases n with
        | zero => omega
        | succ n =>
          obtain ⟨g, hg⟩ := exists_grl o n (j + 1) (by have := hj.1.1.1; omega) hj.1.1.2.1
          exact ⟨(j : Int) :: g, j, rfl, hj, hg⟩
/-- A table of the best ways: cost, lines, the first line's last box. -/
structure Way where
  c : Int
  l : Int
  e : Nat
/-- One way is better: less cost, then fewer lines, then a longer first line. -/
def Bt (x y : Way) : Prop := x.c < y.c ∨ x.c = y.c ∧ (x.l < y.l ∨ x.l = y.l ∧ y.e ≤ x.e)
/-- The way that begins with a line up to j. -/
def wy (W : Wr) (L : List Bx) (T : Nat → Way) (i j : Nat) : Way := ⟨lc W L i j + (T (j + 1)).c, 1 + (T (j + 1)).l, j⟩
def Best (W : Wr) (L : List Bx) (T : Nat → Way) (i : Nat) (x : Way) : Prop := Lin W L i x.e ∧ x = wy W L T i x.e ∧ ∀ j, Lin W L i j → Bt x (wy W L T i j)
def Good (W : Wr) (L : List Bx) (T : Nat → Way) (i : Nat) : Prop := T L.length = ⟨0, 0, 0⟩ ∧ ∀ k, i ≤ k → k < L.length → Best W L T k (T k)
theorem bt_anti {x y : Way} (h : Bt x y) (k : Bt y x) : x = y := by
  cases x; cases y
  simp only [Bt] at h k
  simp only [Way.mk.injEq]
  omega
theorem good_uniq {T U : Nat → Way} (hT : Good W L T 0) (hU : Good W L U 0) : ∀ (n i : Nat), L.length - i ≤ n → i ≤ L.length → T i = U i
  | n, i, hn, hi => by
    rcases Nat.eq_or_lt_of_le hi with h | h
    · rw [h, hT.1, hU.1]
    · cases n with
      | zero => omega
      | succ n =>
        have hw : ∀ j, Lin W L i j → wy W L T i j = wy W L U i j := fun j hj => by
          unfold wy
          rw [good_uniq hT hU n (j + 1) (by have := hj.1.1; omega) hj.1.2.1]
        obtain ⟨t1, t2, t3⟩ := hT.2 i (Nat.zero_le _) h
        obtain ⟨u1, u2, u3⟩ := hU.2 i (Nat.zero_le _) h
        have a := t3 _ u1
        have b := u3 _ t1
        rw [hw _ u1, ← u2] at a
        rw [← hw _ t1, ← t2] at b
        exact bt_anti a b
/-- The breaking that a table tells. -/
def EvL (L : List Bx) (T : Nat → Way) : Nat → List Int → Prop
  | i, [] => i = L.length
  | i, e :: t => i < L.length ∧ e = ((T i).e : Int) ∧ EvL L T ((T i).e + 1) t
theorem evl_uniq {T U : Nat → Way} (hT : Good W L T 0) (hU : Good W L U 0) : ∀ {s t : List Int} {i : Nat}, EvL L T i s → EvL L U i t → s = t
  | [], [], _, _, _ => rfl
  | [], _ :: _, i, h, ⟨h1, _⟩ => by have h' : i = L.length := h; omega
  | _ :: _, [], i, ⟨h1, _⟩, h => by have h' : i = L.length := h; omega
  | _ :: _, _ :: _, i, ⟨h0, he, h2⟩, ⟨_, hf, g2⟩ => by
    have e := good_uniq hT hU _ i (Nat.le_refl _) (Nat.le_of_lt h0)
    rw [← e] at hf g2
    rw [he, hf, evl_uniq hT hU h2 g2]
theorem evl_is {T : Nat → Way} (hT : Good W L T 0) : ∀ {s : List Int} {i : Nat}, EvL L T i s → Brk W L i s ∧ cst W L i s = (T i).c ∧ (s.length : Int) = (T i).l
  | [], i, h => by
    have h' : i = L.length := h
    refine ⟨h, ?_⟩
    rw [h', hT.1]
    simp [cst]
  | e :: s, i, ⟨h0, he, h2⟩ => by
    obtain ⟨t1, t2, t3⟩ := hT.2 i (Nat.zero_le _) h0
    obtain ⟨g1, g2, g3⟩ := evl_is hT h2
    subst he
    refine ⟨⟨(T i).e, rfl, t1, g1⟩, ?_, ?_⟩
    · rw [cst_cons, g2]
      have := congrArg Way.c t2
      exact this.symm
    · rw [List.length_cons]
      have : (T i).l = 1 + (T ((T i).e + 1)).l := congrArg Way.l t2
      omega
/-- No breaking is better than the table's. -/
theorem good_least {T : Nat → Way} (hT : Good W L T 0) : ∀ (t : List Int) (i : Nat), Brk W L i t → (T i).c < cst W L i t ∨ (T i).c = cst W L i t ∧ (T i).l ≤ t.length
  | [], i, h => by
    have h' : i = L.length := h
    rw [h', hT.1]
    simp [cst]
  | e :: t, i, ⟨j, he, h1, h2⟩ => by
    subst he
    have ih := good_least hT t (j + 1) h2
    have hb := (hT.2 i (Nat.zero_le _) (Nat.lt_of_le_of_lt h1.1.1 h1.1.2.1)).2.2 j h1
    rw [cst_cons, List.length_cons]
    simp only [Bt, wy] at hb
    omega
/-- How many paragraphs there are from a box on. -/
def pars (L : List Bx) : Nat → Nat → Nat
  | _, 0 => 0
  | i, k + 1 => pars L i k + (if en L (i + k) = true then 1 else 0)
theorem pars_front (L : List Bx) (i : Nat) : ∀ k, pars L i (k + 1) = (if en L i = true then 1 else 0) + pars L (i + 1) k
  | 0 => by simp [pars]
  | k + 1 => by
    rw [pars, pars_front L i k, pars]
    have : i + 1 + k = i + (k + 1) := by omega
    rw [this]
    omega
theorem pars_line {i : Nat} : ∀ (d : Nat) (k : Nat), (∀ x, i ≤ x → x < i + d → en L x = false) → pars L i (d + k) = pars L (i + d) k
  | 0, k, _ => by simp
  | d + 1, k, h => by
    have h1 := pars_line d (k + 1) (fun x h2 h3 => h x h2 (by omega))
    have e : d + 1 + k = d + (k + 1) := by omega
    rw [e, h1, pars_front, if_neg (by rw [h (i + d) (by omega) (by omega)]; simp)]
    have : i + d + 1 = i + (d + 1) := by omega
    rw [this]
    omega
/-- A breaking has a line a paragraph at least; and where it has no more it is the only such one. -/
theorem brk_pars : ∀ (t : List Int) (i : Nat), Brk W L i t → pars L i (L.length - i) ≤ t.length
  | [], i, h => by have h' : i = L.length := h; rw [h']; simp [pars]
  | e :: t, i, ⟨j, he, h1, h2⟩ => by
    have ih := brk_pars t (j + 1) h2
    have e : L.length - i = (j - i) + ((L.length - (j + 1)) + 1) := by have := h1.1.1; have := h1.1.2.1; omega
    have e2 : i + (j - i) = j := by have := h1.1.1; omega
    rw [e, pars_line (j - i) _ (fun x h3 h4 => h1.1.2.2 x h3 (by omega)), e2, pars_front, List.length_cons]
    split <;> omega
theorem brk_same : ∀ (s t : List Int) (i : Nat), Brk W L i s → Brk W L i t → s.length = pars L i (L.length - i) → t.length = pars L i (L.length - i) → s = t
  | [], [], _, _, _, _, _ => rfl
  | [], _ :: _, _, _, _, h, k => by rw [List.length_cons] at k; rw [List.length_nil] at h; omega
  | _ :: _, [], _, _, _, h, k => by rw [List.length_cons] at h; rw [List.length_nil] at k; omega
  | e :: s, f :: t, i, ⟨j, he, h1, h2⟩, ⟨k, hf, g1, g2⟩, hs, ht => by
    have step : ∀ (j : Nat) (s : List Int), Lin W L i j → Brk W L (j + 1) s → s.length + 1 = pars L i (L.length - i) → en L j = true ∧ s.length = pars L (j + 1) (L.length - (j + 1)) := by
      intro j s h1 h2 hs
      have ih := brk_pars s (j + 1) h2
      have e : L.length - i = (j - i) + ((L.length - (j + 1)) + 1) := by have := h1.1.1; have := h1.1.2.1; omega
      have e2 : i + (j - i) = j := by have := h1.1.1; omega
      rw [e, pars_line (j - i) _ (fun x h3 h4 => h1.1.2.2 x h3 (by omega)), e2, pars_front] at hs
      cases hj : en L j with
      | true => rw [hj] at hs; simp at hs; exact ⟨rfl, by omega⟩
      | false => rw [hj] at hs; simp at hs; omega
    obtain ⟨a1, a2⟩ := step j s h1 h2 hs
    obtain ⟨b1, b2⟩ := step k t g1 g2 ht
    have e : j = k := by
      rcases Nat.lt_trichotomy j k with h | h | h
      · have := g1.1.2.2 j h1.1.1 h; rw [a1] at this; cases this
      · exact h
      · have := h1.1.2.2 k g1.1.1 h; rw [b1] at this; cases this
    subst e
    rw [he, hf, brk_same s t (j + 1) h2 g2 a2 b2]
/-- More width: what fits fits still. -/
theorem brk_wider {V : Wr} (h1 : W.wd ≤ V.wd) (h2 : W.fi = V.fi) (h3 : W.re = V.re) : ∀ (t : List Int) (i : Nat), Brk W L i t → Brk V L i t
  | [], _, h => h
  | _ :: t, i, ⟨j, he, g1, g2⟩ => ⟨j, he, ⟨g1.1, by
      rcases g1.2 with e | e
      · exact .inl e
      · refine .inr (Int.le_trans e ?_)
        unfold rm ind
        rw [h2, h3]
        split <;> omega⟩, brk_wider h1 h2 h3 t (j + 1) g2⟩
end Go.Proofs.YtffbdnlfknomnaaDoor
