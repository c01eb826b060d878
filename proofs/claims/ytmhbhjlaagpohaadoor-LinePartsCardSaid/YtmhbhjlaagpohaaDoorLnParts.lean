/- The chances of a text that a line's end parts. Mathematics alone. -/
import Derived.Test.YtmhbhjlaagpohaaDoorLnMath
namespace Go.Proofs.YtmhbhjlaagpohaaDoor

/-- An edge of a text. -/
def Edg (l : List UInt8) (p : Nat) : Prop := ∃ i, i ≤ (rl l).length ∧ p = psm ((rl l).take i)
theorem Edg.zero (l : List UInt8) : Edg l 0 := ⟨0, Nat.zero_le _, by simp [psm]⟩
theorem Edg.len (l : List UInt8) : Edg l l.length := ⟨(rl l).length, Nat.le_refl _, by rw [List.take_length, rl_sum _ l (Nat.le_refl _)]⟩
theorem Edg.parts {l : List UInt8} {p : Nat} (h : Edg l p) : rl l = rl (l.take p) ++ rl (l.drop p) := by
  obtain ⟨i, hi, rfl⟩ := h
  obtain ⟨h1, h2⟩ := rl_cut i l hi
  rw [h1, h2, List.take_append_drop]
theorem Edg.le {l : List UInt8} {p : Nat} (h : Edg l p) : p ≤ l.length := by
  obtain ⟨i, hi, rfl⟩ := h
  have := rl_sum _ l (Nat.le_refl _)
  rw [← List.take_append_drop i (rl l), psm_app] at this
  omega
theorem Edg.step {l : List UInt8} {p : Nat} (h : Edg l p) (hp : p < l.length) : Edg l (p + (dec (l.drop p)).2) := by
  obtain ⟨i, hi, rfl⟩ := h
  obtain ⟨h1, h2⟩ := rl_cut i l hi
  have hc := rl_cons _ (drop_ne l _ hp)
  rw [h2] at hc
  have hlt : i < (rl l).length := by
    rcases Nat.lt_or_ge i (rl l).length with h | h
    · exact h
    · rw [List.drop_of_length_le h] at hc; cases hc
  rw [List.drop_eq_getElem_cons hlt] at hc
  obtain ⟨hc, _⟩ := List.cons.inj hc
  refine ⟨i + 1, hlt, ?_⟩
  rw [List.take_succ_eq_append_getElem hlt, psm_app, hc]
  simp [psm]
theorem Edg.left {u t : List UInt8} {p : Nat} (ht : rl (u ++ t) = rl u ++ rl t) (h : Edg u p) : Edg (u ++ t) p := by
  obtain ⟨i, hi, rfl⟩ := h
  exact ⟨i, by rw [ht, List.length_append]; omega, by rw [ht, List.take_append_of_le_length hi]⟩
theorem Edg.right {u t : List UInt8} {p : Nat} (ht : rl (u ++ t) = rl u ++ rl t) (h : Edg t p) : Edg (u ++ t) (u.length + p) := by
  obtain ⟨i, hi, rfl⟩ := h
  refine ⟨(rl u).length + i, by rw [ht, List.length_append]; omega, ?_⟩
  rw [ht, List.take_length_add_append, psm_app, rl_sum _ u (Nat.le_refl _)]
theorem fw_app {u t : List UInt8} (ht : rl (u ++ t) = rl u ++ rl t) : fw (u ++ t) = fw u ++ fw t := by unfold fw; rw [ht, List.map_append]
theorem bk_app {u t : List UInt8} (ht : rl (u ++ t) = rl u ++ rl t) : bk (u ++ t) = bk t ++ bk u := by unfold bk; rw [ht, List.map_append, List.reverse_append]
/-- What stands behind an edge of the first of two texts. -/
theorem drop_app {u t : List UInt8} {p : Nat} (ht : rl (u ++ t) = rl u ++ rl t) (h : Edg u p) : rl (u.drop p ++ t) = rl (u.drop p) ++ rl t := by
  have h1 := (h.left ht).parts
  have h2 := h.parts
  rw [ht, h2, List.take_append_of_le_length h.le, List.drop_append_of_le_length h.le, List.append_assoc] at h1
  exact (List.append_cancel_left h1).symm
/-- A text that ends with a line's end, and any other behind it. -/
structure Prt (u t : List UInt8) (x : Int) (q : List Int) : Prop where
  app : rl (u ++ t) = rl u ++ rl t
  ends : Ends x
  bks : bk u = x :: q
theorem Prt.ne {u t : List UInt8} {x : Int} {q : List Int} (h : Prt u t x q) : u ≠ [] := fun e => by
  have := h.bks
  subst e
  cases this
/-- Within the first text. -/
theorem Prt.cut1 {u t : List UInt8} {x : Int} {q : List Int} (h : Prt u t x q) (fr : Nat) {p : Nat} (hp : Edg u p) (hlt : p < u.length) : lncut (u ++ t) fr p = lncut u fr p := by
  rw [lncut_R, lncut_R, List.take_append_of_le_length hp.le, List.drop_append_of_le_length hp.le, fw_app (drop_app h.app hp)]
  have hne : u.drop p ≠ [] := drop_ne u p hlt
  have hf : fw (u.drop p) ≠ [] := by rw [fw_cons _ hne]; simp
  refine cutR_front _ _ _ _ _ hf ?_
  by_cases ht : (fw (u.drop p)).tail = []
  · right
    have hb : bk u = bk (u.drop p) ++ bk (u.take p) := by
      unfold bk
      rw [hp.parts, List.map_append, List.reverse_append]
    have hr : bk (u.drop p) = (fw (u.drop p)).reverse := rfl
    cases hc : fw (u.drop p) with
    | nil => exact absurd hc hf
    | cons y ys =>
      rw [hc] at ht
      have hys : ys = [] := ht
      subst hys
      rw [h.bks, hr, hc] at hb
      obtain ⟨hxy, _⟩ := List.cons.inj hb
      show y ≠ 9
      rw [← hxy]
      rcases h.ends with rfl | rfl <;> decide
  · left; exact ht
theorem Prt.cut2 {u t : List UInt8} {x : Int} {q : List Int} (h : Prt u t x q) (fr : Nat) : lncut (u ++ t) fr u.length = true := by
  rw [lncut_R, List.take_left, h.bks]
  exact cutR_end _ _ _ x _ h.ends
theorem Prt.cut3 {u t : List UInt8} {x : Int} {q : List Int} (h : Prt u t x q) (fr : Nat) {p : Nat} (hp : Edg t p) (h0 : 0 < p) : lncut (u ++ t) (u.length + fr) (u.length + p) = lncut t fr p := by
  have hl := hp.le
  have e1 : (u ++ t).take (u.length + p) = u ++ t.take p := List.take_length_add_append p
  have e2 : (u ++ t).drop (u.length + p) = t.drop p := List.drop_length_add_append p
  have e3 : (u ++ t.take p).drop (u.length + fr) = (t.take p).drop fr := List.drop_length_add_append fr
  have e4 : rl (u ++ t.take p) = rl u ++ rl (t.take p) := by
    have h1 := (hp.right h.app).parts
    rw [e1, e2, h.app, hp.parts, ← List.append_assoc] at h1
    exact (List.append_cancel_right h1).symm
  rw [lncut_R, lncut_R, e1, e2, e3, bk_app e4, h.bks]
  refine cutR_app _ _ _ _ x _ h.ends ?_
  rw [bk_cons _ (fun e => by have := congrArg List.length e; rw [List.length_take, List.length_nil] at this; omega)]
  simp
theorem Prt.must1 {u t : List UInt8} {x : Int} {q : List Int} (h : Prt u t x q) {p : Nat} (hp : p ≤ u.length) (ht : t ≠ []) : lnmust (u ++ t) p = lnmust u p := by
  have htl : 0 < t.length := List.length_pos_iff.2 ht
  unfold lnmust
  rw [List.take_append_of_le_length hp, List.length_append, decide_eq_false (by omega), Bool.false_or]
  by_cases hpe : p = u.length
  · subst hpe
    rw [decide_eq_true rfl, Bool.true_or, List.take_length, lnlast_bk, h.bks]
    rcases h.ends with rfl | rfl <;> rfl
  · rw [decide_eq_false hpe, Bool.false_or]
theorem Prt.must3 {u t : List UInt8} {x : Int} {q : List Int} (h : Prt u t x q) {p : Nat} (hp : Edg t p) (h0 : 0 < p) : lnmust (u ++ t) (u.length + p) = lnmust t p := by
  have hl := hp.le
  have e1 : (u ++ t).take (u.length + p) = u ++ t.take p := List.take_length_add_append p
  have e2 : (u ++ t).drop (u.length + p) = t.drop p := List.drop_length_add_append p
  have e4 : rl (u ++ t.take p) = rl u ++ rl (t.take p) := by
    have h1 := (hp.right h.app).parts
    rw [e1, e2, h.app, hp.parts, ← List.append_assoc] at h1
    exact (List.append_cancel_right h1).symm
  have hne : t.take p ≠ [] := fun e => by have := congrArg List.length e; rw [List.length_take, List.length_nil] at this; omega
  unfold lnmust
  rw [e1, lnlast_bk, bk_app e4, lnlast_bk, List.length_append]
  have hb : hd (bk (t.take p) ++ bk u) = hd (bk (t.take p)) := by rw [bk_cons _ hne]; rfl
  rw [hb]
  congr 1
  by_cases hp : p = t.length
  · subst hp; simp
  · rw [decide_eq_false (by omega), decide_eq_false hp]
/-- The next chance. -/
theorem Prt.onw1 {u t : List UInt8} {x : Int} {q : List Int} (h : Prt u t x q) (fr p : Nat) (hp : Edg u p) (ht : t ≠ []) : ∀ (n k : Nat), u.length - (p + k) ≤ n → Edg u (p + k) → (k = 0 → p < u.length) →
    onwT (u ++ t) fr p k = onwT u fr p k ∧ Edg u (onwT u fr p k) := by
  have htl : 0 < t.length := List.length_pos_iff.2 ht
  have hle := hp.le
  have hd1 : (u.drop p).length = u.length - p := List.length_drop
  have hd2 : ((u ++ t).drop p).length = u.length + t.length - p := by rw [List.length_drop, List.length_append]
  intro n
  induction n with
  | zero =>
    intro k hn hk h0
    have hkl := hk.le
    have hk' : p + k = u.length := by omega
    have hk0 : 0 < k := by
      rcases Nat.eq_zero_or_pos k with e | e
      · have := h0 e; omega
      · exact e
    rw [onwT_end u fr p k (by omega), onwT_here (u ++ t) fr p k (by omega) hk0 (by rw [hk']; exact h.cut2 fr), hk']
    exact ⟨rfl, Edg.len u⟩
  | succ n ih =>
    intro k hn hk h0
    have hkl := hk.le
    by_cases hlt : p + k < u.length
    · have hw : (dec (((u ++ t).drop p).drop k)).2 = (dec ((u.drop p).drop k)).2 := by
        rw [List.drop_drop, List.drop_drop, List.drop_append_of_le_length hkl]
        have h1 := rl_cons _ (drop_ne u _ hlt)
        have h2 := rl_cons (u.drop (p + k) ++ t) (fun e => drop_ne u _ hlt (List.append_eq_nil_iff.1 e).1)
        rw [drop_app h.app hk, h1, List.cons_append] at h2
        rw [(List.cons.inj h2).1]
      by_cases hc : 0 < k ∧ lncut u fr (p + k) = true
      · rw [onwT_here u fr p k (by omega) hc.1 hc.2, onwT_here (u ++ t) fr p k (by omega) hc.1 (by rw [h.cut1 fr hk hlt]; exact hc.2)]
        exact ⟨rfl, hk⟩
      · have hc' : ¬ (0 < k ∧ lncut (u ++ t) fr (p + k) = true) := by rw [h.cut1 fr hk hlt]; exact hc
        have hst := hk.step hlt
        have d1 := dec_ge _ (drop_ne u _ hlt)
        rw [onwT_next u fr p k (by omega) hc, onwT_next (u ++ t) fr p k (by omega) hc', hw]
        rw [List.drop_drop]
        exact ih _ (by omega) (by rw [← Nat.add_assoc]; exact hst) (fun e => by omega)
    · have hk' : p + k = u.length := by omega
      have hk0 : 0 < k := by
        rcases Nat.eq_zero_or_pos k with e | e
        · have := h0 e; omega
        · exact e
      rw [onwT_end u fr p k (by omega), onwT_here (u ++ t) fr p k (by omega) hk0 (by rw [hk']; exact h.cut2 fr), hk']
      exact ⟨rfl, Edg.len u⟩
theorem Prt.onw3 {u t : List UInt8} {x : Int} {q : List Int} (h : Prt u t x q) (fr p : Nat) (hp : Edg t p) : ∀ (n k : Nat), t.length - (p + k) ≤ n → Edg t (p + k) → (k = 0 → p < t.length) →
    onwT (u ++ t) (u.length + fr) (u.length + p) k = u.length + onwT t fr p k ∧ Edg t (onwT t fr p k) := by
  have hle := hp.le
  have e2 : (u ++ t).drop (u.length + p) = t.drop p := List.drop_length_add_append p
  have hd1 : (t.drop p).length = t.length - p := List.length_drop
  intro n
  induction n with
  | zero =>
    intro k hn hk h0
    have hkl := hk.le
    rw [onwT_end t fr p k (by omega), onwT_end (u ++ t) _ _ k (by rw [e2]; omega), List.length_append]
    exact ⟨rfl, Edg.len t⟩
  | succ n ih =>
    intro k hn hk h0
    have hkl := hk.le
    by_cases hlt : p + k < t.length
    · have hcc : 0 < k → lncut (u ++ t) (u.length + fr) (u.length + p + k) = lncut t fr (p + k) := fun hk0 => by
        rw [Nat.add_assoc]; exact h.cut3 fr hk (by omega)
      by_cases hc : 0 < k ∧ lncut t fr (p + k) = true
      · rw [onwT_here t fr p k (by omega) hc.1 hc.2, onwT_here (u ++ t) _ _ k (by rw [e2]; omega) hc.1 (by rw [hcc hc.1]; exact hc.2)]
        exact ⟨by omega, hk⟩
      · have hc' : ¬ (0 < k ∧ lncut (u ++ t) (u.length + fr) (u.length + p + k) = true) := fun hh => hc ⟨hh.1, by rw [← hcc hh.1]; exact hh.2⟩
        have hst := hk.step hlt
        have d1 := dec_ge _ (drop_ne t _ hlt)
        rw [onwT_next t fr p k (by omega) hc, onwT_next (u ++ t) _ _ k (by rw [e2]; omega) hc', e2, List.drop_drop]
        exact ih _ (by omega) (by rw [← Nat.add_assoc]; exact hst) (fun e => by omega)
    · rw [onwT_end t fr p k (by omega), onwT_end (u ++ t) _ _ k (by rw [e2]; omega), List.length_append]
      exact ⟨rfl, Edg.len t⟩
def shf (n : Nat) (xs : List (Int × Bool)) : List (Int × Bool) := xs.map fun x => (x.1 + (n : Int), x.2)
theorem Prt.chs3 {u t : List UInt8} {x : Int} {q : List Int} (h : Prt u t x q) : ∀ (n p : Nat), t.length - p ≤ n → Edg t p → chs (u ++ t) (u.length + p) = shf u.length (chs t p)
  | 0, p, hn, hp => by
    have := hp.le
    rw [chs_end t p (by omega), chs_end _ _ (by rw [List.length_append]; omega)]; rfl
  | n + 1, p, hn, hp => by
    by_cases hlt : p < t.length
    · obtain ⟨h1, h2⟩ := h.onw3 p p hp _ 0 (Nat.le_refl _) hp (fun _ => hlt)
      have hb := onw_bd t p hlt
      have h1' : onw (u ++ t) (u.length + p) (u.length + p) = u.length + onw t p p := h1
      have h2' : Edg t (onw t p p) := h2
      rw [chs_step t p hlt, chs_step (u ++ t) (u.length + p) (by rw [List.length_append]; omega), h1', h.must3 h2' (by omega), h.chs3 n (onw t p p) (by omega) h2']
      unfold shf
      rw [List.map_cons]
      congr 1
      simp only [Prod.mk.injEq, and_true]
      omega
    · rw [chs_end t p hlt, chs_end _ _ (by rw [List.length_append]; omega)]; rfl
theorem Prt.chs1 {u t : List UInt8} {x : Int} {q : List Int} (h : Prt u t x q) (ht : t ≠ []) : ∀ (n p : Nat), u.length - p ≤ n → Edg u p → chs (u ++ t) p = chs u p ++ chs (u ++ t) u.length
  | 0, p, hn, hp => by
    have := hp.le
    obtain rfl : p = u.length := by omega
    rw [chs_end u u.length (by omega)]; rfl
  | n + 1, p, hn, hp => by
    have htl : 0 < t.length := List.length_pos_iff.2 ht
    have hle := hp.le
    by_cases hlt : p < u.length
    · obtain ⟨h1, h2⟩ := h.onw1 p p hp ht _ 0 (Nat.le_refl _) hp (fun _ => hlt)
      have hb := onw_bd u p hlt
      have h1' : onw (u ++ t) p p = onw u p p := h1
      have h2' : Edg u (onw u p p) := h2
      rw [chs_step u p hlt, chs_step (u ++ t) p (by rw [List.length_append]; omega), h1', h.must1 hb.2 ht, h.chs1 ht n (onw u p p) (by omega) h2']
      rfl
    · obtain rfl : p = u.length := by omega
      rw [chs_end u u.length hlt]; rfl
/-- A line's end parts a text. -/
theorem Prt.all {u t : List UInt8} {x : Int} {q : List Int} (h : Prt u t x q) : chs (u ++ t) 0 = chs u 0 ++ shf u.length (chs t 0) := by
  by_cases ht : t = []
  · subst ht
    rw [List.append_nil, chs_end [] 0 (by simp)]
    simp [shf]
  · rw [h.chs1 ht _ 0 (Nat.le_refl _) (Edg.zero u)]
    congr 1
    exact h.chs3 _ 0 (Nat.le_refl _) (Edg.zero t)
theorem prt_lf (s t : List UInt8) : Prt (s ++ [10]) t 3 (bk s) := by
  have r1 : ∀ t : List UInt8, rl (s ++ 10 :: t) = rl s ++ (10, 1) :: rl t := fun t => by
    rw [rl_app _ s (10 :: t) (Nat.le_refl _) (.inr (by simp [byt]; decide)), rl_ascii 10 t (by decide)]; rfl
  have r2 : rl (s ++ [10]) = rl s ++ [(10, 1)] := r1 []
  refine ⟨by rw [List.append_assoc, List.singleton_append, r1, r2, List.append_assoc]; rfl, .inr rfl, ?_⟩
  unfold bk
  rw [r2]
  simp
  decide
theorem prt_bk (s t : List UInt8) : Prt (s ++ [226, 128, 168]) t 1 (bk s) := by
  have r1 : ∀ t : List UInt8, rl (s ++ 226 :: 128 :: 168 :: t) = rl s ++ (8232, 3) :: rl t := fun t => by
    rw [rl_app _ s (226 :: 128 :: 168 :: t) (Nat.le_refl _) (.inr (by simp [byt]; decide)), rl_2028]
  have r2 : rl (s ++ [226, 128, 168]) = rl s ++ [(8232, 3)] := r1 []
  refine ⟨by rw [List.append_assoc]; show rl (s ++ 226 :: 128 :: 168 :: t) = _; rw [r1, r2, List.append_assoc]; rfl, .inl rfl, ?_⟩
  unfold bk
  rw [r2]
  simp
  decide
end Go.Proofs.YtmhbhjlaagpohaaDoor
