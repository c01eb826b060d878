/- A line's end parts a text into words. Mathematics alone. -/
import Derived.Test.YtmhbhjlaagpohaaDoorWdEach
namespace Go.Proofs.YtmhbhjlaagpohaaDoor

theorem dec_small (l : List UInt8) (h : l ≠ []) (hs : (dec l).1 < 128) : dec l = ((l.getD 0 0).toNat, 1) := by
  rw [dec_numbers l h] at hs ⊢
  unfold Lib.decodeN at hs ⊢
  revert hs
  repeat' split
  all_goals (intro hs; first | rfl | (exfalso; simp only [] at hs; omega))
theorem lf_start (t : List UInt8) : Lib.runeStart (byt (10 :: t) 0) = true := by simp [byt]; decide
theorem wfirst_app (a t : List UInt8) (h : a ≠ []) : wfirst (a ++ 10 :: t) = wfirst a := by
  unfold wfirst
  rw [dec_app a (10 :: t) h (.inr (lf_start t))]
theorem wfirst_lf (t : List UInt8) : wfirst (10 :: t) = 2 := by
  unfold wfirst
  rw [dec_ascii 10 t (by decide)]
  decide
theorem won_app : ∀ (n : Nat) (x t : List UInt8), x.length ≤ n → won (x ++ 10 :: t) = won x ∨ (won x = 0 ∧ won (x ++ 10 :: t) = 2)
  | 0, x, t, hn => by
    have : x = [] := List.length_eq_zero_iff.1 (by omega)
    subst this
    right
    refine ⟨rfl, ?_⟩
    rw [List.nil_append, won_no (10 :: t) (by simp) (by rw [wfirst_lf]; decide), wfirst_lf]
  | n + 1, x, t, hn => by
    by_cases hx : x = []
    · subst hx
      right
      refine ⟨rfl, ?_⟩
      rw [List.nil_append, won_no (10 :: t) (by simp) (by rw [wfirst_lf]; decide), wfirst_lf]
    · have d1 := dec_ge x hx
      have d2 := dec_le x hx
      have hne : x ++ 10 :: t ≠ [] := by simp
      cases hk : wclings (wfirst x) with
      | true =>
        rw [won_yes x hx hk, won_yes (x ++ 10 :: t) hne (by rw [wfirst_app x t hx]; exact hk), dec_app x (10 :: t) hx (.inr (lf_start t)), List.drop_append_of_le_length d2]
        exact won_app n (x.drop (dec x).2) t (by rw [List.length_drop]; omega)
      | false =>
        left
        rw [won_no x hx hk, won_no (x ++ 10 :: t) hne (by rw [wfirst_app x t hx]; exact hk), wfirst_app x t hx]
theorem wbri_02 (a m : Int) : wbri a m 2 = wbri a m 0 := by
  unfold wbri wletter
  simp
theorem wcut_app (a t : List UInt8) (k : Nat) (hk : k < a.length) : wcut (a ++ 10 :: t) k = wcut a k := by
  have e1 : (a ++ 10 :: t).take k = a.take k := List.take_append_of_le_length (by omega)
  have e2 : (a ++ 10 :: t).drop k = a.drop k ++ 10 :: t := List.drop_append_of_le_length (by omega)
  have hne := drop_ne a k hk
  have e3 : wfirst (a.drop k ++ 10 :: t) = wfirst (a.drop k) := wfirst_app _ t hne
  have e4 : dec (a.drop k ++ 10 :: t) = dec (a.drop k) := dec_app _ _ hne (.inr (lf_start t))
  have d2 := dec_le (a.drop k) hne
  rw [List.length_drop] at d2
  have hj : wjoin (a ++ 10 :: t) k = wjoin a k := by
    have hb := wbs_le _ (a.take k) (Nat.le_refl _)
    rw [List.length_take] at hb
    have e5 : (a ++ 10 :: t).take (wbs (a.take k)).2 = a.take (wbs (a.take k)).2 := List.take_append_of_le_length (by omega)
    have e6 : (a ++ 10 :: t).drop (k + (dec (a.drop k)).2) = a.drop (k + (dec (a.drop k)).2) ++ 10 :: t := List.drop_append_of_le_length (by omega)
    unfold wjoin
    rw [e1, e2, e3, e4, e5, e6]
    rcases won_app _ (a.drop (k + (dec (a.drop k)).2)) t (Nat.le_refl _) with h | ⟨h1, h2⟩
    · rw [h]
    · rw [h1, h2, wbri_02]
  unfold wcut
  rw [e1, e2, e3, hj]
theorem wdcls_cr (r : Int) (h : wdcls r = 1) : r = 13 := by
  have h1 : ∀ {p : Prop} [Decidable p] {x y : Int}, (if p then x else y) = 1 → (p ∧ x = 1) ∨ (¬ p ∧ y = 1) := fun {p} _ {x y} hh => by
    by_cases hp : p
    · rw [if_pos hp] at hh; exact .inl ⟨hp, hh⟩
    · rw [if_neg hp] at hh; exact .inr ⟨hp, hh⟩
  unfold wdcls at h
  rcases h1 h with ⟨_, h⟩ | ⟨_, h⟩
  · unfold wdascii at h
    repeat (first | (exfalso; revert h; decide) | (rcases h1 h with ⟨hp, h⟩ | ⟨_, h⟩; first | exact hp | (exfalso; revert h; decide)))
  rcases h1 h with ⟨_, h⟩ | ⟨_, h⟩
  · exfalso
    unfold wdlatin at h
    repeat (first | (revert h; decide) | (rcases h1 h with ⟨_, h⟩ | ⟨_, h⟩; (revert h; decide)))
  rcases h1 h with ⟨_, h⟩ | ⟨_, h⟩
  · exfalso
    unfold wdscripts at h
    repeat (first | (revert h; decide) | (rcases h1 h with ⟨_, h⟩ | ⟨_, h⟩; (revert h; decide)))
  rcases h1 h with ⟨_, h⟩ | ⟨_, h⟩
  · exfalso
    unfold wdpunct at h
    repeat (first | (revert h; decide) | (rcases h1 h with ⟨_, h⟩ | ⟨_, h⟩; (revert h; decide)))
  rcases h1 h with ⟨_, h⟩ | ⟨_, h⟩
  · exfalso
    unfold wdasian at h
    repeat (first | (revert h; decide) | (rcases h1 h with ⟨_, h⟩ | ⟨_, h⟩; (revert h; decide)))
  rcases h1 h with ⟨_, h⟩ | ⟨_, h⟩
  · exfalso; revert h; decide
  exfalso
  unfold wdhigh at h
  repeat (first | (revert h; decide) | (rcases h1 h with ⟨_, h⟩ | ⟨_, h⟩; (revert h; decide)))
/-- A text whose last rune is a Cr ends with that byte. -/
theorem wlast_cr (a : List UInt8) (h : wlast a = 1) : a.getLast? = some 13 := by
  have hne : a ≠ [] := fun e => by subst e; rw [wlast_nil] at h; cases h
  have hr := wdcls_cr _ h
  obtain ⟨e, h1, h2, h3⟩ := last_parts a hne
  have h4 := last_is a hne e h1 h2 h3
  have hdn := drop_ne a e h1
  have hs := dec_small (a.drop e) hdn (by rw [← h4]; omega)
  unfold wid at h2
  rw [hs] at h2
  have hb : ((a.drop e).getD 0 0).toNat = 13 := by
    have h5 : (decLast a).1 = 13 := by omega
    rw [h4, hs] at h5
    exact h5
  have hee : e = a.length - 1 := by have h6 : e + 1 = a.length := h2; omega
  rw [List.getLast?_eq_getElem?, ← hee, List.getElem?_eq_getElem h1]
  have hg : (a.drop e).getD 0 0 = a[e] := by simp [List.getD, h1]
  rw [hg] at hb
  exact congrArg some (UInt8.toNat_inj.1 hb)
theorem wcut_at (a t : List UInt8) (h : a.getLast? ≠ some 13) : wcut (a ++ 10 :: t) a.length = true := by
  have hc : (wlast a == 1) = false := beq_eq_false_iff_ne.2 (fun e => h (wlast_cr a e))
  unfold wcut
  rw [List.take_left, List.drop_left, wfirst_lf, hc]
  cases wends (wlast a) <;> rfl
theorem wnxT_app (a t : List UInt8) (h : a.getLast? ≠ some 13) : ∀ (n k : Nat), a.length - k ≤ n → k ≤ a.length → (k = 0 → a ≠ []) → wnxT (a ++ 10 :: t) k = wnxT a k
  | n, k, hn, hk, h0 => by
    have hl : (a ++ 10 :: t).length = a.length + t.length + 1 := by simp; omega
    by_cases hlt : k < a.length
    · match n, hn with
      | 0, hn => omega
      | n + 1, hn =>
        have hd : (a ++ 10 :: t).drop k = a.drop k ++ 10 :: t := List.drop_append_of_le_length (by omega)
        have hne := drop_ne a k hlt
        have d1 := dec_ge _ hne
        have d2 := dec_le _ hne
        rw [List.length_drop] at d2
        by_cases hc : 0 < k ∧ wcut a k = true
        · rw [wnxT_here a k hlt hc.1 hc.2, wnxT_here _ k (by omega) hc.1 (by rw [wcut_app a t k hlt]; exact hc.2)]
        · rw [wnxT_next a k hlt hc, wnxT_next _ k (by omega) (by rw [wcut_app a t k hlt]; exact hc), hd, dec_app _ _ hne (.inr (lf_start t))]
          exact wnxT_app a t h n _ (by omega) (by omega) (fun e => by omega)
    · have hke : k = a.length := by omega
      have hk0 : 0 < k := by
        rcases Nat.eq_zero_or_pos k with e | e
        · have := List.length_pos_iff.2 (h0 e); omega
        · exact e
      rw [wnxT_end a k hlt, wnxT_here _ k (by omega) hk0 (by rw [hke]; exact wcut_at a t h), hke]
theorem wnx_app (a t : List UInt8) (ha : a ≠ []) (h : a.getLast? ≠ some 13) : wnx (a ++ 10 :: t) = wnx a := wnxT_app a t h _ 0 (Nat.le_refl _) (Nat.zero_le _) (fun _ => ha)
theorem wnx_lf (t : List UInt8) : wnx (10 :: t) = 1 := by
  have d : dec ((10 :: t).drop 0) = (10, 1) := dec_ascii 10 t (by decide)
  unfold wnx
  rw [wnxT_next (10 :: t) 0 (by simp) (fun h => absurd h.1 (Nat.lt_irrefl 0)), d]
  show wnxT (10 :: t) 1 = 1
  by_cases ht : t = []
  · subst ht
    rw [wnxT_end _ _ (by simp)]; rfl
  · have hp : 0 < t.length := List.length_pos_iff.2 ht
    refine wnxT_here _ 1 (by simp; omega) (by omega) ?_
    have e := wcut_at [] (10 :: t) (by simp)
    unfold wcut
    have e1 : wlast ((10 :: t).take 1) = 2 := by
      show wlast [10] = 2
      decide
    rw [e1]; rfl
def shw (n : Nat) (xs : List (Int × Int)) : List (Int × Int) := xs.map fun x => (x.1 + (n : Int), x.2 + (n : Int))
theorem wb_shift (u t : List UInt8) : ∀ (n p : Nat), t.length - p ≤ n → wb (u ++ t) (u.length + p) = shw u.length (wb t p)
  | n, p, hn => by
    by_cases hlt : p < t.length
    · match n, hn with
      | 0, hn => omega
      | n + 1, hn =>
        have hd : (u ++ t).drop (u.length + p) = t.drop p := List.drop_length_add_append p
        have hs := wst t p hlt
        rw [wb_step t p hlt, wb_step (u ++ t) (u.length + p) (by rw [List.length_append]; omega), hd, Nat.add_assoc, wb_shift u t n _ (by omega)]
        unfold shw
        rw [List.map_cons]
        congr 1
        simp only [Prod.mk.injEq]
        omega
    · rw [wb_end t p hlt, wb_end _ _ (by rw [List.length_append]; omega)]; rfl
theorem wb_app (s t : List UInt8) (h : s.getLast? ≠ some 13) : ∀ (n p : Nat), s.length - p ≤ n → p ≤ s.length → wb (s ++ 10 :: t) p = wb s p ++ wb (s ++ 10 :: t) s.length
  | n, p, hn, hp => by
    by_cases hlt : p < s.length
    · match n, hn with
      | 0, hn => omega
      | n + 1, hn =>
        have hd : (s ++ 10 :: t).drop p = s.drop p ++ 10 :: t := List.drop_append_of_le_length (by omega)
        have hs := wst s p hlt
        have hne := drop_ne s p hlt
        have hl : (s.drop p).getLast? ≠ some 13 := by
          rw [List.getLast?_drop, if_neg (by omega)]; exact h
        rw [wb_step s p hlt, wb_step (s ++ 10 :: t) p (by simp; omega), hd, wnx_app _ t hne hl, wb_app s t h n _ (by omega) (by omega)]
        rfl
    · obtain rfl : p = s.length := by omega
      rw [wb_end s s.length (by omega)]; rfl
theorem wb_lf (s t : List UInt8) : wb (s ++ 10 :: t) s.length = ((s.length : Int), ((s.length + 1 : Nat) : Int)) :: shw (s.length + 1) (wb t 0) := by
  have hd : (s ++ 10 :: t).drop s.length = 10 :: t := List.drop_left
  rw [wb_step _ s.length (by simp), hd, wnx_lf]
  congr 1
  have e : s ++ 10 :: t = (s ++ [10]) ++ t := by simp
  have hl : (s ++ [10]).length = s.length + 1 := by simp
  have := wb_shift (s ++ [10]) t _ 0 (Nat.le_refl _)
  rw [hl] at this
  rw [e]
  exact this
/-- The bounds of a text that a line's end parts. -/
theorem wbnds_lf (s t : List UInt8) (h : s.getLast? ≠ some 13) : wbnds (s ++ 10 :: t) = (0 :: (wb s 0).map (·.2)) ++ ((s.length + 1 : Nat) : Int) :: (wb t 0).map (fun x => x.2 + ((s.length + 1 : Nat) : Int)) := by
  unfold wbnds wtos
  rw [if_neg (by simp), wb_app s t h _ 0 (Nat.le_refl _) (Nat.zero_le _), wb_lf]
  simp [shw]
end Go.Proofs.YtmhbhjlaagpohaaDoor
