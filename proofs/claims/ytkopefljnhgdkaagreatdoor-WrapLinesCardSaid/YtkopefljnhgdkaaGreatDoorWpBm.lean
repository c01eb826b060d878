/- The mathematics of the best way: what best reckons from the lines that fit. -/
import Derived.Test.YtkopefljnhgdkaaGreatDoorWpOwn
namespace Go.Proofs.YtkopefljnhgdkaaGreatDoor
variable {W : Wr} {L : List Bx}

theorem List.reverseRecOn' {α : Type} {motive : List α → Prop} (l : List α) (nil : motive []) (append_singleton : ∀ (l : List α) (a : α), motive l → motive (l ++ [a])) : motive l := by
  have h : ∀ (n : Nat) (l : List α), l.length = n → motive l := by
    intro n
    induction n with
    | zero => intro l hl; rw [List.length_eq_zero_iff.1 hl]; exact nil
    | succ n ih =>
      intro l hl
      have hne : l ≠ [] := fun e => by rw [e] at hl; cases hl
      have h1 := append_singleton l.dropLast (l.getLast hne) (ih _ (by rw [List.length_dropLast, hl]; rfl))
      rwa [List.dropLast_concat_getLast] at h1
  exact h _ l rfl
def bst1 (W : Wr) (L : List Bx) (T : Nat → Way) (i : Nat) (x : Way) (j : Nat) : Way :=
  if (wy W L T i j).c < x.c ∨ (wy W L T i j).c = x.c ∧ (wy W L T i j).l ≤ x.l then wy W L T i j else x
def way0 : Way := ⟨9223372036854775807, 0, 0⟩
/-- What stands in least behind some lines. -/
def bstL (W : Wr) (L : List Bx) (T : Nat → Way) (i : Nat) (js : List Nat) : Way := js.foldl (bst1 W L T i) way0
theorem bstL_snoc (W : Wr) (L : List Bx) (T : Nat → Way) (i : Nat) (js : List Nat) (j : Nat) : bstL W L T i (js ++ [j]) = bst1 W L T i (bstL W L T i js) j := by
  unfold bstL
  rw [List.foldl_append]
  rfl
/-- Costs and lines of a table that are small. -/
structure TOk (L : List Bx) (T : Nat → Way) (k : Nat) : Prop where
  c0 : 0 ≤ (T k).c
  c1 : (T k).c ≤ 1000000000000 * ((L.length - k : Nat) : Int)
  l0 : 0 ≤ (T k).l
  l1 : (T k).l ≤ ((L.length - k : Nat) : Int)
theorem wy_small (o : Okb W L) {T : Nat → Way} {i j : Nat} (h : Lin W L i j) (ht : TOk L T (j + 1)) :
    (0 ≤ (wy W L T i j).c ∧ (wy W L T i j).c ≤ 1000000000000 * ((L.length - i : Nat) : Int)) ∧ 0 ≤ (wy W L T i j).l ∧ (wy W L T i j).l ≤ ((L.length - i : Nat) : Int) := by
  have h1 := o.line h
  have h2 := h.1.1
  have h3 := h.1.2.1
  have := ht.c0; have := ht.c1; have := ht.l0; have := ht.l1
  simp only [wy]
  omega
theorem bstL_is (o : Okb W L) (T : Nat → Way) (i : Nat) (hT : ∀ k, i < k → k ≤ L.length → TOk L T k) : ∀ (js : List Nat), js.Pairwise (· < ·) → (∀ j ∈ js, Lin W L i j) →
    (js = [] ∧ bstL W L T i js = way0) ∨ ((bstL W L T i js).e ∈ js ∧ bstL W L T i js = wy W L T i (bstL W L T i js).e ∧ ∀ j ∈ js, Bt (bstL W L T i js) (wy W L T i j)) := by
  intro js
  induction js using List.reverseRecOn' with
  | nil => exact fun _ _ => .inl ⟨rfl, rfl⟩
  | append_singleton js j ih =>
    intro hp hl
    rw [List.pairwise_append] at hp
    have hj := hl j (by simp)
    have hs := wy_small o hj (hT (j + 1) (by have := hj.1.1; omega) hj.1.2.1)
    have hlen := o.len
    rw [bstL_snoc]
    refine .inr ?_
    have hself : ∀ x, Bt (wy W L T i x) (wy W L T i x) := fun x => .inr ⟨rfl, .inr ⟨rfl, Nat.le_refl _⟩⟩
    rcases ih hp.1 (fun x hx => hl x (by simp [hx])) with ⟨rfl, h0⟩ | ⟨h1, h2, h3⟩
    · rw [h0]
      unfold bst1
      have hc : (wy W L T i j).c < way0.c := by simp only [way0]; omega
      rw [if_pos (.inl hc)]
      exact ⟨by simp [wy], rfl, fun x hx => by
        have : x = j := by simpa using hx
        rw [this]; exact hself j⟩
    · obtain ⟨x, hx⟩ : ∃ x, x = bstL W L T i js := ⟨_, rfl⟩
      rw [← hx] at h1 h2 h3 ⊢
      unfold bst1
      by_cases hc : (wy W L T i j).c < x.c ∨ (wy W L T i j).c = x.c ∧ (wy W L T i j).l ≤ x.l
      · rw [if_pos hc]
        refine ⟨by simp [wy], rfl, fun y hy => ?_⟩
        rcases List.mem_append.1 hy with h | h
        · have a := h3 y h
          have b : y < j := hp.2.2 y h j (by simp)
          have e1 : (wy W L T i y).e = y := rfl
          have e2 : (wy W L T i j).e = j := rfl
          simp only [Bt] at a ⊢
          omega
        · have : y = j := by simpa using h
          rw [this]; exact hself j
      · rw [if_neg hc]
        refine ⟨by simp [h1], h2, fun y hy => ?_⟩
        rcases List.mem_append.1 hy with h | h
        · exact h3 y h
        · have : y = j := by simpa using h
          subst this
          have b : x.e < y := hp.2.2 x.e h1 y (by simp)
          simp only [Bt]
          omega
theorem bstL_best (o : Okb W L) {T : Nat → Way} {i : Nat} (hi : i < L.length) (hT : ∀ k, i < k → k ≤ L.length → TOk L T k) {F : List (Fe W L i)} (hF : FL W L i F) :
    Best W L T i (bstL W L T i (F.map Fe.j)) ∧ (0 ≤ (bstL W L T i (F.map Fe.j)).c ∧ (bstL W L T i (F.map Fe.j)).c ≤ 1000000000000 * ((L.length - i : Nat) : Int)) ∧ 0 ≤ (bstL W L T i (F.map Fe.j)).l ∧ (bstL W L T i (F.map Fe.j)).l ≤ ((L.length - i : Nat) : Int) := by
  have hm : ∀ j ∈ F.map Fe.j, Lin W L i j := fun j hj => by
    obtain ⟨x, _, rfl⟩ := List.mem_map.1 hj
    exact x.lin
  rcases bstL_is o T i hT (F.map Fe.j) hF.rise hm with ⟨h, _⟩ | ⟨h1, h2, h3⟩
  · obtain ⟨x, hx, _⟩ := hF.all i (Lin.self hi)
    have : x.j ∈ F.map Fe.j := List.mem_map.2 ⟨x, hx, rfl⟩
    rw [h] at this
    cases this
  · have hl := hm _ h1
    refine ⟨⟨hl, h2, fun j hj => ?_⟩, ?_⟩
    · obtain ⟨x, hx, rfl⟩ := hF.all j hj
      exact h3 _ (List.mem_map.2 ⟨x, hx, rfl⟩)
    · have := wy_small o hl (hT _ (by have := hl.1.1; omega) hl.1.2.1)
      rw [← h2] at this
      exact this
end Go.Proofs.YtkopefljnhgdkaaGreatDoor
