/- The edges of a text, in plain functions: the rune to which a byte belongs begins where begin says. -/
import Derived.Test.YtflehkdijfhmgaaDoorMarks
namespace Go.Proofs.YtflehkdijfhmgaaDoor

theorem byt_drop (l : List UInt8) (t j : Nat) : byt (l.drop t) j = byt l (t + j) := by simp [byt, List.getD]

/-- How many bytes the rune has that begins at a place. -/
def wid (l : List UInt8) (t : Nat) : Nat := (dec (l.drop t)).2
theorem drop_ne (l : List UInt8) (t : Nat) (h : t < l.length) : l.drop t ≠ [] := fun e => by have := congrArg List.length e; simp at this; omega
theorem wid_ge (l : List UInt8) (t : Nat) (h : t < l.length) : 1 ≤ wid l t := dec_ge _ (drop_ne l t h)
theorem wid_le (l : List UInt8) (t : Nat) (h : t < l.length) : t + wid l t ≤ l.length := by
  have := dec_le _ (drop_ne l t h); simp only [List.length_drop] at this; unfold wid; omega
theorem wid_le4 (l : List UInt8) (t : Nat) : wid l t ≤ 4 := dec_le4 _

/-- Within a rune lie bytes that begin none; its first byte may begin one. -/
theorem dec_inner (l : List UInt8) (h : l ≠ []) (j : Nat) (h1 : 1 ≤ j) (h2 : j < (dec l).2) : Lib.runeStart (byt l j) = false ∧ Lib.runeStart (byt l 0) = true := by
  have h4 := dec_le4 l
  have hj : j = 1 ∨ j = 2 ∨ j = 3 := by omega
  have key : byt l j / 64 = 2 ∧ ¬ byt l 0 / 64 = 2 := by
    rw [dec_numbers l h] at h2
    rcases hj with rfl | rfl | rfl
    all_goals
      unfold byt
      generalize (l.getD 0 0).toNat = b0 at *
      generalize (l.getD 1 0).toNat = b1 at *
      generalize (l.getD 2 0).toNat = b2 at *
      generalize (l.getD 3 0).toNat = b3 at *
      unfold Lib.decodeN at h2
      split at h2
      · exfalso; simp at h2
      · split at h2
        · split at h2
          · simp at h2 <;> omega
          · exfalso; simp at h2
        · split at h2
          · split at h2
            · simp at h2 <;> omega
            · exfalso; simp at h2
          · split at h2
            · split at h2
              · simp at h2 <;> omega
              · exfalso; simp at h2
            · exfalso; simp at h2
  unfold Lib.runeStart
  simp [key]

theorem wid_inner (l : List UInt8) (t q : Nat) (ht : t < l.length) (h1 : t < q) (h2 : q < t + wid l t) : Lib.runeStart (byt l q) = false ∧ Lib.runeStart (byt l t) = true := by
  have h := dec_inner (l.drop t) (drop_ne l t ht) (q - t) (by omega) (by unfold wid at h2; omega)
  rw [byt_drop, byt_drop] at h
  rw [show t + (q - t) = q by omega, Nat.add_zero] at h
  exact h

theorem mks_at (l : List UInt8) (t : Nat) (h : t < l.length) : mks t (l.drop t) = mk1 t (l.drop t) :: mks (t + wid l t) (l.drop (t + wid l t)) := by
  rw [mks_cons t (l.drop t) (drop_ne l t h), List.drop_drop]; rfl
theorem mks_end (l : List UInt8) (t : Nat) (h : ¬ t < l.length) : mks t (l.drop t) = [] := by rw [List.drop_of_length_le (by omega)]; rfl

theorem mks_ge (l : List UInt8) : ∀ (n t : Nat), l.length - t ≤ n → ∀ m ∈ mks t (l.drop t), (t : Int) ≤ m.pl ∧ m.pl < l.length
  | 0, t, h, m, hm => by rw [mks_end l t (by omega)] at hm; cases hm
  | n + 1, t, h, m, hm => by
    by_cases ht : t < l.length
    · rw [mks_at l t ht] at hm
      have hw := wid_ge l t ht
      rcases List.mem_cons.1 hm with rfl | hm
      · exact ⟨Int.le_refl _, by show (t : Int) < _; omega⟩
      · have := mks_ge l n (t + wid l t) (by omega) m hm
        omega
    · rw [mks_end l t ht] at hm; cases hm

/-- The rune to which a byte belongs. -/
theorem locate (l : List UInt8) (q : Nat) (hq : q < l.length) : ∀ (n t : Nat), l.length - t ≤ n → t ≤ q →
    ∃ (e : Nat) (P : List Mk), t ≤ e ∧ e ≤ q ∧ q < e + wid l e ∧ mks t (l.drop t) = P ++ mk1 e (l.drop e) :: mks (e + wid l e) (l.drop (e + wid l e)) ∧ ∀ m ∈ P, m.pl < (e : Int)
  | 0, t, h, ht => by omega
  | n + 1, t, h, ht => by
    have htl : t < l.length := by omega
    have hw := wid_ge l t htl
    by_cases hc : q < t + wid l t
    · exact ⟨t, [], Nat.le_refl _, ht, hc, mks_at l t htl, fun m hm => by cases hm⟩
    · obtain ⟨e, P, h1, h2, h3, h4, h5⟩ := locate l q hq n (t + wid l t) (by omega) (by omega)
      refine ⟨e, mk1 t (l.drop t) :: P, by omega, h2, h3, by rw [mks_at l t htl, h4]; rfl, fun m hm => ?_⟩
      rcases List.mem_cons.1 hm with rfl | hm
      · show (t : Int) < e; omega
      · exact h5 m hm

/-- An edge behind another lies behind its rune. -/
theorem chain (l : List UInt8) (e x : Nat) (P : List Mk) (h : mks 0 l = P ++ mk1 e (l.drop e) :: mks (e + wid l e) (l.drop (e + wid l e))) (hP : ∀ m ∈ P, m.pl < (e : Int)) (hx : ∃ m ∈ mks 0 l, m.pl = (x : Int)) (hlt : e < x) : e + wid l e ≤ x := by
  obtain ⟨m, hm, he⟩ := hx
  rw [h] at hm
  rcases List.mem_append.1 hm with hm | hm
  · have := hP m hm; omega
  · rcases List.mem_cons.1 hm with rfl | hm
    · have : (e : Int) = x := he
      omega
    · have := (mks_ge l (l.length - (e + wid l e)) (e + wid l e) (Nat.le_refl _) m hm).1
      omega

theorem bgF_tail (l : List UInt8) (q : Nat) (h : ∀ t, t < q → Lib.runeStart (byt l t) = true → ¬ q < t + wid l t) : ∀ f, f ≤ 3 → bgF l q f = q
  | 0, _ => rfl
  | f + 1, hf => by
    by_cases ho : q < 4 - (f + 1)
    · exact bgF_out l q (f + 1) ho
    · have ht : (q - (3 - f)) + (3 - f) = q := by omega
      cases hr : Lib.runeStart (byt l (q - (3 - f))) with
      | false => rw [bgF_more l q f _ ht hr]; exact bgF_tail l q h f (by omega)
      | true => exact bgF_off l q f _ ht hr (h _ (by omega) hr)

/-- begin finds where the rune begins. -/
theorem begin_is (l : List UInt8) (q e : Nat) (P : List Mk) (hq : q < l.length) (h1 : e ≤ q) (h2 : q < e + wid l e) (h : mks 0 l = P ++ mk1 e (l.drop e) :: mks (e + wid l e) (l.drop (e + wid l e))) : bgF l q 4 = e := by
  have h4 := wid_le4 l e
  have hel : e < l.length := by omega
  by_cases he : e = q
  · subst he
    cases hr : Lib.runeStart (byt l e) with
    | true => exact bgF_in l e 3 e (by omega) hr (by exact h2)
    | false =>
      rw [bgF_more l e 3 e (by omega) hr]
      refine bgF_tail l e (fun t ht hs hc => ?_) 3 (Nat.le_refl _)
      obtain ⟨e', P', g1, g2, g3, g4, g5⟩ := locate l t (by omega) l.length 0 (by omega) (Nat.zero_le _)
      have ee : e' = t := by
        rcases Nat.lt_or_ge e' t with hlt | hge
        · have := (wid_inner l e' t (by omega) hlt g3).1
          rw [this] at hs; cases hs
        · omega
      subst ee
      have := chain l e' e P' g4 g5 ⟨mk1 e (l.drop e), by rw [h]; simp, rfl⟩ ht
      omega
  · have hin : ∀ t, e < t → t ≤ q → Lib.runeStart (byt l t) = false := fun t a b => (wid_inner l e t hel a (by omega)).1
    have hst : Lib.runeStart (byt l e) = true := (wid_inner l e q hel (by omega) h2).2
    have hj : q = e + 1 ∨ q = e + 2 ∨ q = e + 3 := by omega
    rcases hj with rfl | rfl | rfl
    · rw [bgF_more l (e + 1) 3 (e + 1) (by omega) (hin _ (by omega) (by omega))]
      exact bgF_in l (e + 1) 2 e (by omega) hst h2
    · rw [bgF_more l (e + 2) 3 (e + 2) (by omega) (hin _ (by omega) (by omega)), bgF_more l (e + 2) 2 (e + 1) (by omega) (hin _ (by omega) (by omega))]
      exact bgF_in l (e + 2) 1 e (by omega) hst h2
    · rw [bgF_more l (e + 3) 3 (e + 3) (by omega) (hin _ (by omega) (by omega)), bgF_more l (e + 3) 2 (e + 2) (by omega) (hin _ (by omega) (by omega)), bgF_more l (e + 3) 1 (e + 1) (by omega) (hin _ (by omega) (by omega))]
      exact bgF_in l (e + 3) 0 e (by omega) hst h2
end Go.Proofs.YtflehkdijfhmgaaDoor
