/- The last rune of a text, in plain functions: it is the last of its marks, and what lies ahead of it has the other marks. -/
import Derived.Test.YtflehkdijfhmgaaDoorEach
import Derived.Test.YtflehkdijfhmgaaDoorEdgeMath
namespace Go.Proofs.YtflehkdijfhmgaaDoor

theorem getD_take (l : List UInt8) (n i : Nat) : ((l.take n).getD i 0).toNat = if i < n then (l.getD i 0).toNat else 0 := by
  by_cases h : i < n <;> simp [List.getD, List.getElem?_take, h]

theorem decodeN_cut (N n b0 b1 b2 b3 : Nat) (h1 : 1 ≤ n) (h : (Lib.decodeN N b0 b1 b2 b3).2 ≤ n) :
    Lib.decodeN (min n N) b0 (if 1 < n then b1 else 0) (if 2 < n then b2 else 0) (if 3 < n then b3 else 0) = Lib.decodeN N b0 b1 b2 b3 := by
  have c : n = 1 ∨ n = 2 ∨ n = 3 ∨ 4 ≤ n := by omega
  rcases c with rfl | rfl | rfl | c
  · simp only [Nat.lt_irrefl, if_false, Nat.reduceLT]
    unfold Lib.decodeN at *
    revert h
    repeat' split
    all_goals first | (intro h; dsimp only at h; exfalso; omega) | (intro _; rfl)
  · simp only [Nat.lt_irrefl, if_false, if_true, Nat.reduceLT]
    unfold Lib.decodeN at *
    revert h
    repeat' split
    all_goals first | (intro h; dsimp only at h; exfalso; omega) | (intro _; rfl)
  · simp only [Nat.lt_irrefl, if_false, if_true, Nat.reduceLT]
    unfold Lib.decodeN at *
    revert h
    repeat' split
    all_goals first | (intro h; dsimp only at h; exfalso; omega) | (intro _; rfl)
  · rw [if_pos (by omega), if_pos (by omega), if_pos (by omega)]
    unfold Lib.decodeN
    have e1 : (1 < min n N) = (1 < N) := propext ⟨fun h => by omega, fun h => by omega⟩
    have e2 : (2 < min n N) = (2 < N) := propext ⟨fun h => by omega, fun h => by omega⟩
    have e3 : (3 < min n N) = (3 < N) := propext ⟨fun h => by omega, fun h => by omega⟩
    simp only [e1, e2, e3]

theorem dec_take (l : List UInt8) (h : l ≠ []) (n : Nat) (hn : (dec l).2 ≤ n) : dec (l.take n) = dec l := by
  have h1 := dec_ge l h
  have hp : 0 < l.length := List.length_pos_iff.2 h
  have hne : l.take n ≠ [] := fun e => by have := congrArg List.length e; rw [List.length_take] at this; simp only [List.length_nil] at this; omega
  have hn1 : 1 ≤ n := by omega
  rw [dec_numbers _ hne, dec_numbers l h, List.length_take]
  rw [dec_numbers l h] at hn
  simp only [getD_take]
  rw [if_pos (by omega : 0 < n)]
  exact decodeN_cut _ _ _ _ _ _ (by omega) hn

theorem last_cut (l : List UInt8) : ∀ (n t : Nat), l.length - t ≤ n → t < l.length →
    ∃ e, t ≤ e ∧ e < l.length ∧ e + wid l e = l.length ∧ mks t (l.drop t) = mks t ((l.take e).drop t) ++ [mk1 e (l.drop e)]
  | 0, t, h, ht => by omega
  | n + 1, t, h, ht => by
    have h1 := wid_ge l t ht
    have h2 := wid_le l t ht
    by_cases hc : t + wid l t = l.length
    · refine ⟨t, Nat.le_refl _, ht, hc, ?_⟩
      rw [mks_at l t ht, hc, mks_end l l.length (by omega), (show (l.take t).drop t = [] from List.drop_of_length_le (by simp; omega)), mks_nil]; rfl
    · obtain ⟨e, g1, g2, g3, g4⟩ := last_cut l n (t + wid l t) (by omega) (by omega)
      refine ⟨e, by omega, g2, g3, ?_⟩
      have hd : (l.take e).drop t = (l.drop t).take (e - t) := List.drop_take ..
      have hl : (l.take e).length = e := by simp; omega
      have hdec : dec ((l.take e).drop t) = dec (l.drop t) := by rw [hd]; exact dec_take _ (drop_ne l t ht) _ (by unfold wid at g1; omega)
      have hw : wid (l.take e) t = wid l t := by unfold wid; rw [hdec]
      rw [mks_at l t ht, g4, mks_at (l.take e) t (by omega), hw]
      have hm : mk1 t ((l.take e).drop t) = mk1 t (l.drop t) := by unfold mk1; rw [hdec]
      rw [hm]; rfl

theorem last_parts (l : List UInt8) (h : l ≠ []) : ∃ e, e < l.length ∧ e + wid l e = l.length ∧ mks 0 l = mks 0 (l.take e) ++ [mk1 e (l.drop e)] := by
  obtain ⟨e, _, g2, g3, g4⟩ := last_cut l l.length 0 (by omega) (List.length_pos_iff.2 h)
  exact ⟨e, g2, g3, by simpa using g4⟩

/-- A byte that starts a rune is an edge, and its rune ends ahead of the next edge. -/
theorem start_chain (l : List UInt8) (s e : Nat) (hs : s < l.length) (hr : Lib.runeStart (byt l s) = true) (he : ∃ m ∈ mks 0 l, m.pl = (e : Int)) (hlt : s < e) : s + wid l s ≤ e := by
  obtain ⟨e', P', g1, g2, g3, g4, g5⟩ := locate l s hs l.length 0 (by omega) (Nat.zero_le _)
  have ee : e' = s := by
    rcases Nat.lt_or_ge e' s with hlt | hge
    · have := (wid_inner l e' s (by omega) hlt g3).1
      rw [this] at hr; cases hr
    · omega
  subst ee
  exact chain l e' e P' g4 g5 he hlt

theorem startB (l : List UInt8) (i : Nat) : Lib.runeStartB (l.getD i 0) = Lib.runeStart (byt l i) := Lib.runeStartB_eq _

theorem lastStart_le (l : List UInt8) (h : 2 ≤ l.length) : Lib.lastStart l ≤ l.length - 2 := by
  unfold Lib.lastStart
  simp only
  repeat' split
  all_goals omega

theorem last_is (l : List UInt8) (h : l ≠ []) (e : Nat) (he : e < l.length) (hw : e + wid l e = l.length) (hm : mks 0 l = mks 0 (l.take e) ++ [mk1 e (l.drop e)]) : decLast l = dec (l.drop e) := by
  have hp : 0 < l.length := List.length_pos_iff.2 h
  have hge := wid_ge l e he
  have h4 := wid_le4 l e
  unfold decLast
  rw [if_neg h]
  unfold Lib.decodeLastL
  rw [if_neg h]
  by_cases h1 : wid l e = 1
  · have ee : e = l.length - 1 := by omega
    have hdl : (l.drop e).length = 1 := by simp; omega
    have hb0 : (l.drop e).getD 0 0 = l.getD e 0 := by simp [List.getD]
    have hN : dec (l.drop e) = if (l.getD e 0).toNat < 128 then ((l.getD e 0).toNat, 1) else (65533, 1) := by
      rw [dec_numbers _ (drop_ne l e he), hdl, hb0]
      unfold Lib.decodeN
      simp
    rw [hN, ← ee]
    by_cases ha : (l.getD e 0).toNat < 128
    · rw [if_pos ha, if_pos ha]
    · rw [if_neg ha, if_neg ha]
      by_cases hl1 : l.length = 1
      · have hs := Lib.lastStart_one l hl1
        have e0 : e = 0 := by omega
        simp only [hs]
        rw [← dec_eqL _ (drop_ne l 0 hp)]
        rw [e0] at hN ha
        rw [hN, if_neg ha]
        simp [Utf8.runeError]
      · have hsl := lastStart_le l (by omega)
        have hslt : Lib.lastStart l < l.length := by omega
        simp only
        rw [← dec_eqL _ (drop_ne l _ hslt), if_neg]
        · rfl
        · intro hc
          change Lib.lastStart l + wid l (Lib.lastStart l) = l.length at hc
          generalize Lib.lastStart l = s at *
          cases hr : Lib.runeStart (byt l s) with
          | true =>
            have := start_chain l s e hslt hr ⟨mk1 e (l.drop e), by rw [hm]; simp, rfl⟩ (by omega)
            omega
          | false =>
            have hg := wid_ge l s hslt
            have : ¬ 1 < wid l s := fun hw1 => by
              have := (wid_inner l s (s + 1) hslt (by omega) (by omega)).2
              rw [this] at hr; cases hr
            omega
  · have hlast := (wid_inner l e (l.length - 1) he (by omega) (by omega)).1
    have hst := (wid_inner l e (l.length - 1) he (by omega) (by omega)).2
    have ha : ¬ (l.getD (l.length - 1) 0).toNat < 128 := by
      have : ((l.getD (l.length - 1) 0).toNat : Int) / 64 = 2 := by simpa [Lib.runeStart, byt] using hlast
      omega
    rw [if_neg ha]
    have hs : Lib.lastStart l = e := by
      have hc : wid l e = 2 ∨ wid l e = 3 ∨ wid l e = 4 := by omega
      rcases hc with hc | hc | hc
      · exact Lib.lastStart_at2 l e (by omega) (by rw [startB]; exact hst)
      · exact Lib.lastStart_at3 l e (by omega) (by rw [startB]; exact (wid_inner l e (e + 1) he (by omega) (by omega)).1) (by rw [startB]; exact hst)
      · exact Lib.lastStart_at4 l e (by omega) (by rw [startB]; exact (wid_inner l e (e + 2) he (by omega) (by omega)).1) (by rw [startB]; exact (wid_inner l e (e + 1) he (by omega) (by omega)).1) (by rw [startB]; exact hst)
    simp only [hs]
    rw [← dec_eqL _ (drop_ne l e he), if_pos (show e + (dec (l.drop e)).2 = l.length from hw)]

/-- The last rune, its width, where it begins, and what lies ahead. -/
theorem last_step (l : List UInt8) (h : l ≠ []) : ∃ e n c : Nat, decLast l = (c, n) ∧ 1 ≤ n ∧ e + n = l.length ∧ c ≤ 1114111 ∧ bgF l (l.length - 1) 4 = e ∧ prs l = prs (l.take e) ++ [((e : Int), (c : Int))] := by
  obtain ⟨e, h1, h2, h3⟩ := last_parts l h
  refine ⟨e, wid l e, (dec (l.drop e)).1, last_is l h e h1 h2 h3, wid_ge l e h1, h2, dec_rune _ (drop_ne l e h1), ?_, ?_⟩
  · refine begin_is l (l.length - 1) e (mks 0 (l.take e)) (by omega) (by omega) (by omega) ?_
    rw [h3, mks_end l (e + wid l e) (by omega)]
  · unfold prs
    rw [h3, List.map_append]; rfl
end Go.Proofs.YtflehkdijfhmgaaDoor
