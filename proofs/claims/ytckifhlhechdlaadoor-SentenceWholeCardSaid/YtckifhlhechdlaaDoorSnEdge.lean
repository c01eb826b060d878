/- Edges of a text, by the number of runes ahead of them; what cut answers there, said of the text's classes. -/
import Derived.Test.YtckifhlhechdlaaDoorSnTxt
namespace Go.Proofs.YtckifhlhechdlaaDoor

/-- The place behind the first k runes. -/
def pos (s : List UInt8) (k : Nat) : Nat := psm ((rl s).take k)
theorem pos_0 (s : List UInt8) : pos s 0 = 0 := rfl
theorem pos_all (s : List UInt8) (k : Nat) (h : (rl s).length ≤ k) : pos s k = s.length := by
  unfold pos
  rw [List.take_of_length_le h]
  exact rl_sum _ s (Nat.le_refl _)
theorem psm_take (X : List (Nat × Nat)) (k : Nat) (h : k < X.length) : psm (X.take (k + 1)) = psm (X.take k) + (X[k]).2 := by
  rw [List.take_succ_eq_append_getElem h, psm_app]
  simp [psm]
theorem pos_lt (s : List UInt8) (k : Nat) (h : k < (rl s).length) : pos s k < pos s (k + 1) := by
  unfold pos
  rw [psm_take _ k h]
  have := rl_pos _ s (Nat.le_refl _) _ (List.getElem_mem h)
  omega
theorem pos_mono (s : List UInt8) : ∀ (n i : Nat), i + n ≤ (rl s).length → pos s i + n ≤ pos s (i + n)
  | 0, i, _ => Nat.le_refl _
  | n + 1, i, h => by
    have h1 := pos_mono s n i (by omega)
    have h2 := pos_lt s (i + n) (by omega)
    show pos s i + (n + 1) ≤ pos s (i + n + 1)
    omega
theorem pos_le (s : List UInt8) (k : Nat) (h : k ≤ (rl s).length) : pos s k ≤ s.length := by
  have h1 := pos_mono s ((rl s).length - k) k (by omega)
  rw [pos_all s (k + ((rl s).length - k)) (by omega)] at h1
  omega
theorem pos_end (s : List UInt8) (k : Nat) (h : k < (rl s).length) : pos s k < s.length := by
  have h1 := pos_lt s k h
  have h2 := pos_le s (k + 1) h
  omega
theorem rl_take (s : List UInt8) (k : Nat) (h : k ≤ (rl s).length) : rl (s.take (pos s k)) = (rl s).take k := (rl_cut k s h).1
theorem rl_drop (s : List UInt8) (k : Nat) (h : k ≤ (rl s).length) : rl (s.drop (pos s k)) = (rl s).drop k := (rl_cut k s h).2
theorem bk_fw (l : List UInt8) : bk l = (fw l).reverse := by unfold bk fw; rw [List.map_reverse]
theorem fw_len (l : List UInt8) : (fw l).length = (rl l).length := List.length_map _
theorem bk_take (s : List UInt8) (k : Nat) (h : k ≤ (rl s).length) : bk (s.take (pos s k)) = ((fw s).take k).reverse := by
  rw [bk_fw]
  unfold fw
  rw [rl_take s k h, List.map_take]
theorem fw_drop (s : List UInt8) (k : Nat) (h : k ≤ (rl s).length) : fw (s.drop (pos s k)) = (fw s).drop k := by
  unfold fw
  rw [rl_drop s k h, List.map_drop]
theorem scut_at (s : List UInt8) (k : Nat) (h : k ≤ (rl s).length) : scut s (pos s k) = cutR ((fw s).take k).reverse ((fw s).drop k) := by
  unfold scut
  rw [bk_take s k h, fw_drop s k h]
/-- The next edge. -/
theorem pos_step (s : List UInt8) (k : Nat) (h : k < (rl s).length) : pos s k + (dec (s.drop (pos s k))).2 = pos s (k + 1) := by
  have h1 := rl_drop s k (Nat.le_of_lt h)
  have hne : s.drop (pos s k) ≠ [] := drop_ne s _ (pos_end s k h)
  rw [rl_cons _ hne, List.drop_eq_getElem_cons h] at h1
  have h2 := (List.cons.inj h1).1
  rw [h2]
  show _ = psm _
  rw [psm_take _ k h]
  rfl
theorem mks_pos (s : List UInt8) : ∀ k : Nat, k ≤ (rl s).length → ∃ P, mks 0 s = P ++ mks (pos s k) (s.drop (pos s k))
  | 0, _ => ⟨[], by rw [pos_0]; simp⟩
  | k + 1, h => by
    obtain ⟨P, hP⟩ := mks_pos s k (by omega)
    refine ⟨P ++ [mk1 (pos s k) (s.drop (pos s k))], ?_⟩
    rw [hP, mks_at s (pos s k) (pos_end s k h)]
    have e : pos s k + wid s (pos s k) = pos s (k + 1) := pos_step s k h
    rw [e]
    simp
theorem bg_pos (s : List UInt8) (k : Nat) (h : k < (rl s).length) : bgF s (pos s k) 4 = pos s k := by
  obtain ⟨P, hP⟩ := mks_pos s k (Nat.le_of_lt h)
  have hl := pos_end s k h
  rw [mks_at s _ hl] at hP
  exact begin_is s (pos s k) (pos s k) P hl (Nat.le_refl _) (by have := wid_ge s _ hl; omega) hP
theorem isE_pos (s : List UInt8) (k : Nat) (h : k ≤ (rl s).length) : isE s (pos s k) = true := by
  unfold isE
  by_cases h0 : ((pos s k : Nat) : Int) ≤ 0
  · rw [if_pos h0]
    simp only [beq_iff_eq]
    omega
  rw [if_neg h0]
  by_cases h1 : (s.length : Int) ≤ (pos s k : Nat)
  · rw [if_pos h1]
    have := pos_le s k h
    simp only [beq_iff_eq]
    omega
  rw [if_neg h1]
  have hk : k < (rl s).length := by
    rcases Nat.lt_or_ge k (rl s).length with h2 | h2
    · exact h2
    · rw [pos_all s k h2] at h1; omega
  have := bg_pos s k hk
  simp only [Int.toNat_natCast, beq_iff_eq]
  exact this
theorem on_pos (s : List UInt8) (k : Nat) (h : k < (rl s).length) : onE s (pos s k) = (pos s (k + 1) : Nat) := by
  have hl := pos_end s k h
  unfold onE
  rw [if_neg (by omega), if_neg (by omega), Int.toNat_natCast, bg_pos s k h, ← pos_step s k h]
  unfold wid
  omega
/-- The next bound behind an edge. -/
def onwF (s : List UInt8) (p : Nat) : Nat → Nat → Nat
  | 0, _ => s.length
  | f + 1, t => if t < (s.drop p).length then (if 0 < t ∧ scut s (p + t) = true then p + t else onwF s p f (t + (dec ((s.drop p).drop t)).2)) else s.length
theorem onwF_any (s : List UInt8) (p : Nat) : ∀ (f g t : Nat), (s.drop p).length - t ≤ f → (s.drop p).length - t ≤ g → onwF s p f t = onwF s p g t
  | 0, 0, t, _, _ => rfl
  | 0, g + 1, t, hf, hg => by
    unfold onwF
    rw [if_neg (by omega)]
  | f + 1, 0, t, hf, hg => by
    unfold onwF
    rw [if_neg (by omega)]
  | f + 1, g + 1, t, hf, hg => by
    unfold onwF
    by_cases h : t < (s.drop p).length
    · have h1 := dec_ge ((s.drop p).drop t) (drop_ne _ t h)
      rw [if_pos h, if_pos h, onwF_any s p f g (t + (dec ((s.drop p).drop t)).2) (by omega) (by omega)]
    · rw [if_neg h, if_neg h]
def onwT (s : List UInt8) (p t : Nat) : Nat := onwF s p ((s.drop p).length - t) t
theorem onwT_end (s : List UInt8) (p t : Nat) (h : ¬ t < (s.drop p).length) : onwT s p t = s.length := by
  unfold onwT
  rw [show (s.drop p).length - t = 0 by omega]; rfl
theorem onwT_here (s : List UInt8) (p t : Nat) (h : t < (s.drop p).length) (h0 : 0 < t) (hc : scut s (p + t) = true) : onwT s p t = p + t := by
  unfold onwT
  rw [onwF_any s p _ ((s.drop p).length - t - 1 + 1) t (by omega) (by omega)]
  unfold onwF
  rw [if_pos h, if_pos ⟨h0, hc⟩]
theorem onwT_next (s : List UInt8) (p t : Nat) (h : t < (s.drop p).length) (hc : ¬ (0 < t ∧ scut s (p + t) = true)) : onwT s p t = onwT s p (t + (dec ((s.drop p).drop t)).2) := by
  have h1 := dec_ge ((s.drop p).drop t) (drop_ne _ t h)
  unfold onwT
  rw [onwF_any s p _ ((s.drop p).length - t - 1 + 1) t (by omega) (by omega)]
  conv => lhs; unfold onwF
  rw [if_pos h, if_neg hc]
  exact onwF_any s p _ _ _ (by omega) (by omega)
/-- The bound behind an edge: an edge further on where cut parts, or the text's end. -/
theorem onwT_pos (s : List UInt8) (i : Nat) : ∀ (n j : Nat), (rl s).length - j ≤ n → i ≤ j → j ≤ (rl s).length → ∃ k, j ≤ k ∧ k ≤ (rl s).length ∧ onwT s (pos s i) (pos s j - pos s i) = pos s k ∧ (k = (rl s).length ∨ i < k ∧ scut s (pos s k) = true)
  | n, j, hn, hij, hj => by
    have hm := pos_mono s (j - i) i (by omega)
    rw [show i + (j - i) = j by omega] at hm
    have hpp : pos s i + (pos s j - pos s i) = pos s j := by omega
    by_cases hlt : j < (rl s).length
    · have hl := pos_end s j hlt
      have hin : pos s j - pos s i < (s.drop (pos s i)).length := by rw [List.length_drop]; omega
      by_cases hc : 0 < pos s j - pos s i ∧ scut s (pos s i + (pos s j - pos s i)) = true
      · rw [onwT_here s _ _ hin hc.1 hc.2, hpp]
        rw [hpp] at hc
        refine ⟨j, Nat.le_refl _, hj, rfl, .inr ⟨?_, hc.2⟩⟩
        rcases Nat.lt_or_ge i j with h | h
        · exact h
        · obtain rfl : i = j := by omega
          omega
      · have hs := pos_step s j hlt
        have hs2 := pos_lt s j hlt
        rw [onwT_next s _ _ hin hc, List.drop_drop, hpp, show pos s j - pos s i + (dec (s.drop (pos s j))).2 = pos s (j + 1) - pos s i by omega]
        cases n with
        | zero => omega
        | succ n =>
          obtain ⟨k, h1, h2, h3⟩ := onwT_pos s i n (j + 1) (by omega) (by omega) hlt
          exact ⟨k, by omega, h2, h3⟩
    · obtain rfl : j = (rl s).length := by omega
      refine ⟨_, Nat.le_refl _, Nat.le_refl _, ?_, .inl rfl⟩
      rw [pos_all s _ (Nat.le_refl _)] at *
      exact onwT_end s _ _ (by rw [List.length_drop]; omega)
/-- What Next answers at an edge. -/
def snx (s : List UInt8) (p : Nat) : Nat := onwT s p 0
theorem snx_pos (s : List UInt8) (i : Nat) (hi : i < (rl s).length) : ∃ k, i < k ∧ k ≤ (rl s).length ∧ snx s (pos s i) = pos s k ∧ (k = (rl s).length ∨ scut s (pos s k) = true) := by
  obtain ⟨k, h1, h2, h3, h4⟩ := onwT_pos s i _ i (Nat.le_refl _) (Nat.le_refl _) (Nat.le_of_lt hi)
  rw [Nat.sub_self] at h3
  rcases h4 with h4 | ⟨h4, h5⟩
  · exact ⟨k, by omega, h2, h3, .inl h4⟩
  · exact ⟨k, h4, h2, h3, .inr h5⟩
end Go.Proofs.YtckifhlhechdlaaDoor
