/- Edges of a text, by the number of runes ahead of them. -/
import Derived.Test.YtffbdnlfknomnaaDoorRMath
namespace Go.Proofs.YtffbdnlfknomnaaDoor.Wt

/-- The place behind the first k runes. -/
def pos (s : List UInt8) (k : Nat) : Nat := psm ((rl s).take k)
theorem pos_0 (s : List UInt8) : pos s 0 = 0 := rfl
theorem pos_all (s : List UInt8) (k : Nat) (h : (rl s).length ≤ k) : pos s k = s.length := by
  unfold pos
  rw [List.take_of_length_le h]
  exact rl_sum _ s (Nat.le_refl _)
theorem psm_take (X : List (Nat × Nat)) (k : Nat) (h : k < X.length) : psm (X.take (k + 1)) = psm (X.take k) + (X[k]).2 := by
  rw [List.take_succ_eq_append_getElem h, psm_app]
  simp [psm]
theorem pos_lt (s : List UInt8) (k : Nat) (h : k < (rl s).length) : pos s k < pos s (k + 1) := by
  unfold pos
  rw [psm_take _ k h]
  have := rl_pos _ s (Nat.le_refl _) _ (List.getElem_mem h)
  omega
theorem pos_mono (s : List UInt8) : ∀ (n i : Nat), i + n ≤ (rl s).length → pos s i + n ≤ pos s (i + n)
  | 0, i, _ => Nat.le_refl _
  | n + 1, i, h => by
    have h1 := pos_mono s n i (by omega)
    have h2 := pos_lt s (i + n) (by omega)
    show pos s i + (n + 1) ≤ pos s (i + n + 1)
    omega
theorem pos_le (s : List UInt8) (k : Nat) (h : k ≤ (rl s).length) : pos s k ≤ s.length := by
  have h1 := pos_mono s ((rl s).length - k) k (by omega)
  rw [pos_all s (k + ((rl s).length - k)) (by omega)] at h1
  omega
theorem pos_end (s : List UInt8) (k : Nat) (h : k < (rl s).length) : pos s k < s.length := by
  have h1 := pos_lt s k h
  have h2 := pos_le s (k + 1) h
  omega
theorem rl_take (s : List UInt8) (k : Nat) (h : k ≤ (rl s).length) : rl (s.take (pos s k)) = (rl s).take k := (rl_cut k s h).1
theorem rl_drop (s : List UInt8) (k : Nat) (h : k ≤ (rl s).length) : rl (s.drop (pos s k)) = (rl s).drop k := (rl_cut k s h).2
/-- The next edge. -/
theorem pos_step (s : List UInt8) (k : Nat) (h : k < (rl s).length) : pos s k + (dec (s.drop (pos s k))).2 = pos s (k + 1) := by
  have h1 := rl_drop s k (Nat.le_of_lt h)
  have hne : s.drop (pos s k) ≠ [] := drop_ne s _ (pos_end s k h)
  rw [rl_cons _ hne, List.drop_eq_getElem_cons h] at h1
  have h2 := (List.cons.inj h1).1
  rw [h2]
  show _ = psm _
  rw [psm_take _ k h]
  rfl
theorem mks_pos (s : List UInt8) : ∀ k : Nat, k ≤ (rl s).length → ∃ P, mks 0 s = P ++ mks (pos s k) (s.drop (pos s k))
  | 0, _ => ⟨[], by rw [pos_0]; simp⟩
  | k + 1, h => by
    obtain ⟨P, hP⟩ := mks_pos s k (by omega)
    refine ⟨P ++ [mk1 (pos s k) (s.drop (pos s k))], ?_⟩
    rw [hP, mks_at s (pos s k) (pos_end s k h)]
    have e : pos s k + wid s (pos s k) = pos s (k + 1) := pos_step s k h
    rw [e]
    simp
theorem bg_pos (s : List UInt8) (k : Nat) (h : k < (rl s).length) : bgF s (pos s k) 4 = pos s k := by
  obtain ⟨P, hP⟩ := mks_pos s k (Nat.le_of_lt h)
  have hl := pos_end s k h
  rw [mks_at s _ hl] at hP
  exact begin_is s (pos s k) (pos s k) P hl (Nat.le_refl _) (by have := wid_ge s _ hl; omega) hP
theorem isE_pos (s : List UInt8) (k : Nat) (h : k ≤ (rl s).length) : isE s (pos s k) = true := by
  unfold isE
  by_cases h0 : ((pos s k : Nat) : Int) ≤ 0
  · rw [if_pos h0]
    simp only [beq_iff_eq]
    omega
  rw [if_neg h0]
  by_cases h1 : (s.length : Int) ≤ (pos s k : Nat)
  · rw [if_pos h1]
    have := pos_le s k h
    simp only [beq_iff_eq]
    omega
  rw [if_neg h1]
  have hk : k < (rl s).length := by
    rcases Nat.lt_or_ge k (rl s).length with h2 | h2
    · exact h2
    · rw [pos_all s k h2] at h1; omega
  have := bg_pos s k hk
  simp only [Int.toNat_natCast, beq_iff_eq]
  exact this
theorem on_pos (s : List UInt8) (k : Nat) (h : k < (rl s).length) : onE s (pos s k) = (pos s (k + 1) : Nat) := by
  have hl := pos_end s k h
  unfold onE
  rw [if_neg (by omega), if_neg (by omega), Int.toNat_natCast, bg_pos s k h, ← pos_step s k h]
  unfold wid
  omega
theorem back_pos (s : List UInt8) (k : Nat) (h : k < (rl s).length) : backE s (pos s (k + 1)) = (pos s k : Nat) := by
  have h1 := pos_lt s k h
  have h2 := pos_le s (k + 1) h
  obtain ⟨P, hP⟩ := mks_pos s k (Nat.le_of_lt h)
  have hl := pos_end s k h
  rw [mks_at s _ hl] at hP
  have e : pos s k + wid s (pos s k) = pos s (k + 1) := pos_step s k h
  unfold backE
  rw [if_neg (by omega), if_neg (by omega), Int.toNat_natCast, begin_is s (pos s (k + 1) - 1) (pos s k) P (by omega) (by omega) (by omega) hP]
theorem pos_take (s : List UInt8) (i j : Nat) (hij : i ≤ j) (hj : j ≤ (rl s).length) : pos (s.take (pos s j)) i = pos s i := by
  unfold pos
  rw [show rl (s.take (psm ((rl s).take j))) = (rl s).take j from rl_take s j hj, List.take_take, Nat.min_eq_left hij]
theorem rl_piece (s : List UInt8) (i j : Nat) (hij : i ≤ j) (hj : j ≤ (rl s).length) : rl ((s.take (pos s j)).drop (pos s i)) = ((rl s).take j).drop i := by
  have h := rl_take s j hj
  have hi : i ≤ (rl (s.take (pos s j))).length := by rw [h, List.length_take]; omega
  rw [← pos_take s i j hij hj, rl_drop _ i hi, h]
end Go.Proofs.YtffbdnlfknomnaaDoor.Wt
