/- The ways of a state, as runner gathers them. -/
import Derived.Test.YteacehfihogmpaaDoorMchMath
namespace Go.Proofs.YteacehfihogmpaaDoor

/-- Ways that tell what has been said: to t by c. -/
structure Gd (n : Nat) (G : List Wy) (D : Int → Nat → Prop) : Prop where
  bd : ∀ x ∈ G, x.1 < 18446744073709551616 ∧ 0 ≤ x.2 ∧ x.2 < (n : Int)
  tell : ∀ t c, (∃ x ∈ G, x.2 = t ∧ x.1.testBit c = true) ↔ D t c
theorem Gd.start (n : Nat) : Gd n [] (fun _ _ => False) := ⟨fun _ h => by simp at h, fun _ _ => by simp⟩
theorem Gd.new {n : Nat} {G : List Wy} {D : Int → Nat → Prop} (h : Gd n G D) {t : Nat} (ht : t < n) : Gd n (G ++ [(0, (t : Int))]) D := by
  refine ⟨fun x hx => ?_, fun u c => ?_⟩
  · rcases List.mem_append.1 hx with hx | hx
    · exact h.bd x hx
    · simp at hx; subst hx; exact ⟨by show (0 : Nat) < 18446744073709551616; decide, by show (0 : Int) ≤ (t : Int); omega, by show (t : Int) < (n : Int); omega⟩
  · rw [← h.tell u c]
    constructor
    · rintro ⟨x, hx, h1, h2⟩
      rcases List.mem_append.1 hx with hx | hx
      · exact ⟨x, hx, h1, h2⟩
      · simp at hx; subst hx; simp at h2
    · rintro ⟨x, hx, h1⟩
      exact ⟨x, List.mem_append.2 (.inl hx), h1⟩
theorem Gd.or {n : Nat} {G : List Wy} {D : Int → Nat → Prop} (h : Gd n G D) {i m : Nat} {t : Int} {c : Nat} (hi : G[i]? = some (m, t)) (hc : c < 64) : Gd n (G.set i (m ||| 2 ^ c, t)) (fun t' c' => D t' c' ∨ (t' = t ∧ c' = c)) := by
  have hil := (List.getElem?_eq_some_iff.1 hi).1
  have hmem := List.mem_of_getElem? hi
  have hb := h.bd _ hmem
  refine ⟨fun x hx => ?_, fun u d => ?_⟩
  · rcases List.mem_or_eq_of_mem_set hx with hx | hx
    · exact h.bd x hx
    · subst hx
      refine ⟨?_, hb.2⟩
      have h1 : (2 : Nat) ^ c < 2 ^ 64 := Nat.pow_lt_pow_right (by decide) hc
      exact Nat.or_lt_two_pow (x := m) (y := 2 ^ c) (n := 64) hb.1 h1
  · constructor
    · rintro ⟨x, hx, h1, h2⟩
      rcases List.mem_or_eq_of_mem_set hx with hx | hx
      · exact .inl ((h.tell u d).1 ⟨x, hx, h1, h2⟩)
      · subst hx
        simp only [Nat.testBit_or, Bool.or_eq_true] at h2
        rcases h2 with h2 | h2
        · exact .inl ((h.tell u d).1 ⟨(m, t), hmem, h1, h2⟩)
        · rw [Nat.testBit_two_pow] at h2
          exact .inr ⟨h1.symm, by simpa using h2 |> of_decide_eq_true |> Eq.symm⟩
    · rintro (h1 | ⟨rfl, rfl⟩)
      · obtain ⟨x, hx, h2, h3⟩ := (h.tell u d).2 h1
        obtain ⟨k, hk⟩ := List.mem_iff_getElem?.1 hx
        by_cases e : i = k
        · subst e
          rw [hi] at hk
          cases hk
          refine ⟨(m ||| 2 ^ c, t), List.mem_of_getElem? (by rw [List.getElem?_set_self hil]), h2, ?_⟩
          simp only [Nat.testBit_or, Bool.or_eq_true]
          exact .inl h3
        · exact ⟨x, List.mem_of_getElem? (by rw [List.getElem?_set_ne e]; exact hk), h2, h3⟩
      · refine ⟨(m ||| 2 ^ d, u), List.mem_of_getElem? (by rw [List.getElem?_set_self hil]), rfl, ?_⟩
        simp [Nat.testBit_or]
theorem set_same {α : Type} {l : List α} {i : Nat} {x : α} (h : l[i]? = some x) : l.set i x = l := by
  apply List.ext_getElem?
  intro k
  rw [List.getElem?_set]
  by_cases e : i = k
  · subst e
    rw [if_pos rfl, if_pos (List.getElem?_eq_some_iff.1 h).1, h]
  · rw [if_neg e]
theorem set_tos {G : List Wy} {i m m' : Nat} {t : Int} (hi : G[i]? = some (m, t)) : (G.set i (m', t)).map (·.2) = G.map (·.2) := by
  rw [List.map_set]
  exact set_same (by rw [List.getElem?_map, hi]; rfl)
/-- What a state says: of it the first j edges, and of the next one the first p classes. -/
def Sd (E : List Ed) (j p : Nat) (t : Int) (c : Nat) : Prop := (∃ e ∈ E.take j, e.2 = t ∧ (c : Int) ∈ e.1) ∨ ∃ e, E[j]? = some e ∧ e.2 = t ∧ (c : Int) ∈ e.1.take p
theorem Sd.zero (E : List Ed) (t : Int) (c : Nat) : Sd E 0 0 t c ↔ False := by simp [Sd]
theorem Sd.class {E : List Ed} {j p : Nat} {e : Ed} {k : Nat} (he : E[j]? = some e) (hk : e.1[p]? = some (k : Int)) (t : Int) (c : Nat) : Sd E j (p + 1) t c ↔ Sd E j p t c ∨ (t = e.2 ∧ c = k) := by
  unfold Sd
  rw [he]
  constructor
  · rintro (h | ⟨e', h1, h2, h3⟩)
    · exact .inl (.inl h)
    · cases h1
      rcases take_at hk h3 with h4 | h4
      · exact .inl (.inr ⟨e, rfl, h2, h4⟩)
      · exact .inr ⟨h2.symm, by omega⟩
  · rintro ((h | ⟨e', h1, h2, h3⟩) | ⟨h1, h2⟩)
    · exact .inl h
    · cases h1
      exact .inr ⟨e, rfl, h2, (mem_take_at hk).2 (.inl h3)⟩
    · exact .inr ⟨e, rfl, h1.symm, (mem_take_at hk).2 (.inr (by rw [h2]))⟩
theorem Sd.edge {E : List Ed} {j p : Nat} {e : Ed} (he : E[j]? = some e) (hp : e.1.length ≤ p) (t : Int) (c : Nat) : Sd E (j + 1) 0 t c ↔ Sd E j p t c := by
  unfold Sd
  rw [he]
  constructor
  · rintro (⟨e', h1, h2⟩ | ⟨e', _, _, h3⟩)
    · rcases take_at he h1 with h4 | h4
      · exact .inl ⟨e', h4, h2⟩
      · subst h4
        exact .inr ⟨e', rfl, h2.1, by rw [List.take_of_length_le hp]; exact h2.2⟩
    · simp at h3
  · rintro (⟨e', h1, h2⟩ | ⟨e', h1, h2, h3⟩)
    · exact .inl ⟨e', (mem_take_at he).2 (.inl h1), h2⟩
    · cases h1
      rw [List.take_of_length_le hp] at h3
      exact .inl ⟨e, (mem_take_at he).2 (.inr rfl), h2, h3⟩
theorem Sd.full {E : List Ed} {j : Nat} (hj : E.length ≤ j) (t : Int) (c : Nat) : Sd E j 0 t c ↔ ∃ e ∈ E, e.2 = t ∧ (c : Int) ∈ e.1 := by
  unfold Sd
  rw [List.take_of_length_le hj]
  simp
theorem Gd.congr {n : Nat} {G : List Wy} {D D' : Int → Nat → Prop} (h : Gd n G D) (hD : ∀ t c, D' t c ↔ D t c) : Gd n G D' := ⟨h.bd, fun t c => (h.tell t c).trans (hD t c).symm⟩
/-- The ways and the frees of all states. -/
def WOk (n : Nat) (s : St) (g : List Wy) : Prop := Gd n g (fun t c => ∃ e ∈ s.1, e.2 = t ∧ (c : Int) ∈ e.1)
def FOk (n : Nat) (s : St) (l : List Int) : Prop := (∀ t ∈ l, 0 ≤ t ∧ t < (n : Int)) ∧ ∀ t, t ∈ l ↔ t ∈ s.2
end Go.Proofs.YteacehfihogmpaaDoor
