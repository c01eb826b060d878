/- The runes of a text with their widths, as a list: cut, put together, from either end: mathematics alone. -/
import Derived.Test.YtdcfflnjkjnodaaGreatDoorUMath
namespace Go.Proofs.YtdcfflnjkjnodaaGreatDoor

def rlF : Nat → List UInt8 → List (Nat × Nat)
  | 0, _ => []
  | f + 1, l => if l = [] then [] else dec l :: rlF f (l.drop (dec l).2)
theorem rlF_any : ∀ (f g : Nat) (l : List UInt8), l.length ≤ f → l.length ≤ g → rlF f l = rlF g l
  | 0, 0, _, _, _ => rfl
  | 0, g + 1, l, hf, hg => by
    have : l = [] := List.length_eq_zero_iff.1 (by omega)
    subst this; rfl
  | f + 1, 0, l, hf, hg => by
    have : l = [] := List.length_eq_zero_iff.1 (by omega)
    subst this; rfl
  | f + 1, g + 1, l, hf, hg => by
    unfold rlF
    by_cases h : l = []
    · rw [if_pos h, if_pos h]
    · have h1 := dec_ge l h
      rw [if_neg h, if_neg h, rlF_any f g (l.drop (dec l).2) (by rw [List.length_drop]; omega) (by rw [List.length_drop]; omega)]
/-- The runes of a text, each with its width. -/
def rl (l : List UInt8) : List (Nat × Nat) := rlF l.length l
theorem rl_nil : rl [] = [] := rfl
theorem rl_cons (l : List UInt8) (h : l ≠ []) : rl l = dec l :: rl (l.drop (dec l).2) := by
  have h1 := dec_ge l h
  have hp : 0 < l.length := List.length_pos_iff.2 h
  unfold rl
  rw [rlF_any l.length (l.length - 1 + 1) l (by omega) (by omega)]
  conv => lhs; unfold rlF
  rw [if_neg h, rlF_any (l.length - 1) _ (l.drop (dec l).2) (by rw [List.length_drop]; omega) (Nat.le_refl _)]
/-- How many bytes. -/
def psm (X : List (Nat × Nat)) : Nat := (X.map (·.2)).sum
theorem psm_nil : psm [] = 0 := rfl
theorem psm_cons (x : Nat × Nat) (X : List (Nat × Nat)) : psm (x :: X) = x.2 + psm X := by simp [psm]
theorem psm_app (X Y : List (Nat × Nat)) : psm (X ++ Y) = psm X + psm Y := by simp [psm]
theorem rl_sum : ∀ (n : Nat) (l : List UInt8), l.length ≤ n → psm (rl l) = l.length
  | 0, l, h => by
    have : l = [] := List.length_eq_zero_iff.1 (by omega)
    subst this; rfl
  | n + 1, l, h => by
    by_cases hl : l = []
    · subst hl; rfl
    · have h1 := dec_ge l hl
      have h2 := dec_le l hl
      rw [rl_cons l hl, psm_cons, rl_sum n _ (by rw [List.length_drop]; omega), List.length_drop]
      omega
theorem rl_pos : ∀ (n : Nat) (l : List UInt8), l.length ≤ n → ∀ x ∈ rl l, 1 ≤ x.2
  | 0, l, h, x, hx => by
    have : l = [] := List.length_eq_zero_iff.1 (by omega)
    subst this; cases hx
  | n + 1, l, h, x, hx => by
    by_cases hl : l = []
    · subst hl; cases hx
    · have h1 := dec_ge l hl
      rw [rl_cons l hl] at hx
      rcases List.mem_cons.1 hx with rfl | hx
      · exact h1
      · exact rl_pos n _ (by rw [List.length_drop]; omega) x hx
/-- A text cut at an edge. -/
theorem rl_cut : ∀ (k : Nat) (l : List UInt8), k ≤ (rl l).length → rl (l.take (psm ((rl l).take k))) = (rl l).take k ∧ rl (l.drop (psm ((rl l).take k))) = (rl l).drop k
  | 0, l, _ => by simp [psm, rl_nil]
  | k + 1, l, hk => by
    by_cases hl : l = []
    · subst hl; simp [rl_nil] at hk
    · have h1 := dec_ge l hl
      have hc := rl_cons l hl
      rw [hc, List.length_cons] at hk
      obtain ⟨i1, i2⟩ := rl_cut k (l.drop (dec l).2) (by omega)
      rw [hc, List.take_succ_cons, psm_cons, List.drop_succ_cons]
      refine ⟨?_, by rw [← List.drop_drop]; exact i2⟩
      have hm : l.take ((dec l).2 + psm ((rl (l.drop (dec l).2)).take k)) ≠ [] := fun e => by
        have := congrArg List.length e
        have h2 := dec_le l hl
        rw [List.length_take, List.length_nil] at this
        omega
      rw [rl_cons _ hm, dec_take l hl _ (by omega), List.drop_take, Nat.add_sub_cancel_left, i1]
/-- A text but for its last rune. -/
def ltl (l : List UInt8) : List UInt8 := l.take (l.length - (decLast l).2)
theorem rl_snoc (l : List UInt8) (h : l ≠ []) : rl l = rl (ltl l) ++ [decLast l] := by
  obtain ⟨e, h1, h2, h3⟩ := last_parts l h
  have h4 := last_is l h e h1 h2 h3
  have he : l.length - (decLast l).2 = e := by rw [h4]; unfold wid at h2; omega
  have hx : rl (l.drop e) = [decLast l] := by
    rw [rl_cons _ (drop_ne l e h1), h4, List.drop_drop, show e + (dec (l.drop e)).2 = l.length from h2, List.drop_length, rl_nil]
  unfold ltl
  rw [he]
  -- e is an edge
  have key : ∀ (n : Nat) (l : List UInt8) (e : Nat), l.length ≤ n → e ≤ l.length → (e = l.length ∨ ∃ m ∈ mks 0 l, m.pl = (e : Int)) → rl l = rl (l.take e) ++ rl (l.drop e) := by
    intro n
    induction n with
    | zero =>
      intro l e hn he _
      have : l = [] := List.length_eq_zero_iff.1 (by omega)
      subst this; simp [rl_nil]
    | succ n ih =>
      intro l e hn he hm
      by_cases hl : l = []
      · subst hl; simp [rl_nil]
      · by_cases h0 : e = 0
        · subst h0; simp [rl_nil]
        · have d1 := dec_ge l hl
          have d2 := dec_le l hl
          have hle : (dec l).2 ≤ e := by
            rcases hm with rfl | ⟨m, hm, hp⟩
            · exact d2
            · rw [mks_cons 0 l hl] at hm
              rcases List.mem_cons.1 hm with rfl | hm
              · have : ((0 : Nat) : Int) = (e : Int) := hp
                omega
              · have hge := mks_ge l _ (0 + (dec l).2) (Nat.le_refl _) m (by simpa using hm)
                omega
          have hm' : e - (dec l).2 = (l.drop (dec l).2).length ∨ ∃ m ∈ mks 0 (l.drop (dec l).2), m.pl = ((e - (dec l).2 : Nat) : Int) := by
            rcases hm with rfl | ⟨m, hm, hp⟩
            · left; rw [List.length_drop]
            · rw [mks_cons 0 l hl] at hm
              rcases List.mem_cons.1 hm with rfl | hm
              · have : ((0 : Nat) : Int) = (e : Int) := hp
                omega
              · right
                have hs := mks_shift (dec l).2 _ 0 (l.drop (dec l).2) (Nat.le_refl _)
                rw [Nat.zero_add] at hm
                rw [Nat.add_zero] at hs
                rw [hs] at hm
                obtain ⟨m', hm', rfl⟩ := List.mem_map.1 hm
                refine ⟨m', hm', ?_⟩
                have hp' : m'.pl + ((dec l).2 : Int) = (e : Int) := hp
                omega
          have hi := ih (l.drop (dec l).2) (e - (dec l).2) (by rw [List.length_drop]; omega) (by rw [List.length_drop]; omega) hm'
          have hne : l.take e ≠ [] := fun h => by
            have := congrArg List.length h
            rw [List.length_take, List.length_nil] at this
            omega
          rw [rl_cons l hl, hi, rl_cons _ hne, dec_take l hl e hle, List.drop_take, List.drop_drop, Nat.add_sub_cancel' hle]
          rfl
  rw [key l.length l e (Nat.le_refl _) (by omega) (.inr ⟨mk1 e (l.drop e), by rw [h3]; simp, rfl⟩), hx]
/-- Texts put together where the second begins with what may begin a rune. -/
theorem dec_app (s y : List UInt8) (hs : s ≠ []) (hy : y = [] ∨ Lib.runeStart (byt y 0) = true) : dec (s ++ y) = dec s := by
  have hne : s ++ y ≠ [] := fun e => hs (List.append_eq_nil_iff.1 e).1
  have hle : (dec (s ++ y)).2 ≤ s.length := by
    rcases hy with rfl | hy
    · rw [List.append_nil]; exact dec_le s hs
    · by_cases hc : (dec (s ++ y)).2 ≤ s.length
      · exact hc
      · have := (dec_inner (s ++ y) hne s.length (List.length_pos_iff.2 hs) (by omega)).1
        have hb : byt (s ++ y) s.length = byt y 0 := by
          unfold byt
          rw [List.getD, List.getD, List.getElem?_append_right (Nat.le_refl _), Nat.sub_self]
        rw [hb, hy] at this
        cases this
  have := dec_take (s ++ y) hne s.length hle
  rw [List.take_left] at this
  exact this.symm
theorem rl_app : ∀ (n : Nat) (s y : List UInt8), s.length ≤ n → (y = [] ∨ Lib.runeStart (byt y 0) = true) → rl (s ++ y) = rl s ++ rl y
  | 0, s, y, hn, hy => by
    have : s = [] := List.length_eq_zero_iff.1 (by omega)
    subst this; rfl
  | n + 1, s, y, hn, hy => by
    by_cases hs : s = []
    · subst hs; rfl
    · have hne : s ++ y ≠ [] := fun e => hs (List.append_eq_nil_iff.1 e).1
      have d1 := dec_ge s hs
      have d2 := dec_le s hs
      rw [rl_cons _ hne, rl_cons s hs, dec_app s y hs hy, List.drop_append_of_le_length d2, rl_app n (s.drop (dec s).2) y (by rw [List.length_drop]; omega) hy]
      rfl
theorem dec_c (c : UInt8) (t : List UInt8) : dec (c :: t) = Lib.decodeN (t.length + 1) c.toNat (t.getD 0 0).toNat (t.getD 1 0).toNat (t.getD 2 0).toNat := by
  rw [dec_numbers _ (by simp)]; simp
theorem dec_ascii (c : UInt8) (t : List UInt8) (h : c.toNat < 128) : dec (c :: t) = (c.toNat, 1) := by
  rw [dec_c]; simp [Lib.decodeN, h]
theorem rl_ascii (c : UInt8) (t : List UInt8) (h : c.toNat < 128) : rl (c :: t) = (c.toNat, 1) :: rl t := by
  rw [rl_cons _ (by simp), dec_ascii c t h]; rfl
theorem dec_2028 (t : List UInt8) : dec (226 :: 128 :: 168 :: t) = (8232, 3) := by
  rw [dec_c]
  simp [Lib.decodeN]
theorem rl_2028 (t : List UInt8) : rl (226 :: 128 :: 168 :: t) = (8232, 3) :: rl t := by
  rw [rl_cons _ (by simp), dec_2028]; rfl
end Go.Proofs.YtdcfflnjkjnodaaGreatDoor
