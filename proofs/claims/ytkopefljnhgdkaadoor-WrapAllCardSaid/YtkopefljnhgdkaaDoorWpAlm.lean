/- The walk of WrapAll. -/
import Derived.Test.YtkopefljnhgdkaaDoorWpFew
import Derived.Test.YtkopefljnhgdkaaDoorWpCpy
namespace Go.Proofs.YtkopefljnhgdkaaDoor
open Go.RowKit Go.Shelf
variable {W : Wr} {L : List Bx}

/-- What all answers: the best of what it was given and of all breakings that begin so. -/
structure AR (W : Wr) (L : List Bx) (es : List Int) (best r : Int) : Prop where
  is : r = best ∨ ∃ t, Brk W L 0 (es ++ t) ∧ r = cst W L 0 (es ++ t)
  le : 0 ≤ best → 0 ≤ r ∧ r ≤ best
  all : ∀ t, Brk W L 0 (es ++ t) → 0 ≤ r ∧ r ≤ cst W L 0 (es ++ t)
/-- What stands between the rounds: the lines up to boxes below j were tried. -/
structure AJ (W : Wr) (L : List Bx) (es : List Int) (from_ : Nat) (best : Int) (j : Nat) (r : Int) : Prop where
  run : Run L from_ j
  is : r = best ∨ ∃ t, Brk W L 0 (es ++ t) ∧ r = cst W L 0 (es ++ t)
  le : 0 ≤ best → 0 ≤ r ∧ r ≤ best
  all : ∀ (i : Nat) t, i < j → Brk W L 0 (es ++ (i : Int) :: t) → 0 ≤ r ∧ r ≤ cst W L 0 (es ++ (i : Int) :: t)
theorem AJ.start (es : List Int) (from_ : Nat) (best : Int) (hA : ∀ t, Brk W L 0 (es ++ t) → Brk W L from_ t) : AJ W L es from_ best from_ best :=
  ⟨Run.self L from_, .inl rfl, fun h => ⟨h, Int.le_refl _⟩, fun i t hi hb => by
    obtain ⟨k, e, hl, _⟩ := hA _ hb
    have := hl.1.1
    omega⟩
/-- Behind a turn: r2 is the best with the lines up to j. -/
structure AK (W : Wr) (L : List Bx) (es : List Int) (from_ : Nat) (best : Int) (j : Nat) (r : Int) : Prop where
  hA : ∀ t, Brk W L 0 (es ++ t) → Brk W L from_ t
  hf : from_ < L.length
  run : Run L from_ j
  is : r = best ∨ ∃ t, Brk W L 0 (es ++ t) ∧ r = cst W L 0 (es ++ t)
  le : 0 ≤ best → 0 ≤ r ∧ r ≤ best
  all : ∀ (i : Nat) t, i ≤ j → Brk W L 0 (es ++ (i : Int) :: t) → 0 ≤ r ∧ r ≤ cst W L 0 (es ++ (i : Int) :: t)
theorem AJ.turn {es : List Int} {from_ : Nat} {best : Int} {j : Nat} {r r2 : Int} (h : AJ W L es from_ best j r) (hA : ∀ t, Brk W L 0 (es ++ t) → Brk W L from_ t) (hf : from_ < L.length) (h2 : AR W L (es ++ [(j : Int)]) r r2) : AK W L es from_ best j r2 := by
  refine ⟨hA, hf, h.run, ?_, fun hb => ?_, fun i t hi hb => ?_⟩
  · rcases h2.is with e | ⟨t, h3, h4⟩
    · rw [e]; exact h.is
    · exact .inr ⟨(j : Int) :: t, by rw [List.append_assoc] at h3; exact h3, by rw [List.append_assoc] at h4; exact h4⟩
  · have h3 := h.le hb
    have h4 := h2.le h3.1
    omega
  · rcases Nat.eq_or_lt_of_le hi with e | e
    · subst e
      have h3 := h2.all t (by rw [List.append_assoc]; exact hb)
      rw [List.append_assoc] at h3
      exact h3
    · have h3 := h.all i t e hb
      have h4 := h2.le h3.1
      omega
theorem AK.fin {es : List Int} {from_ : Nat} {best : Int} {j : Nat} {r : Int} (h : AK W L es from_ best j r) (hj : ∀ i, Lin W L from_ i → i ≤ j) : AR W L es best r :=
  ⟨h.is, h.le, fun t hb => by
    have hb' := h.hA t hb
    cases t with
    | nil =>
      have e : from_ = L.length := hb'
      have := h.hf
      omega
    | cons e t =>
      obtain ⟨i, rfl, hl, _⟩ := hb'
      exact h.all i t (hj i hl) hb⟩
theorem AK.stop {es : List Int} {from_ : Nat} {best : Int} {j : Nat} {r : Int} (h : AK W L es from_ best j r) (hm : (bx L j).m = true) : AR W L es best r :=
  h.fin fun i hl => by
    rcases Nat.lt_or_ge j i with h1 | h1
    · have h2 := hl.1.2.2 j h.run.1 h1
      unfold en at h2
      rw [hm] at h2
      cases h2
    · exact h1
/-- What the loop holds: the turns so far, or, at the end of the boxes, all of it. -/
def AG (W : Wr) (L : List Bx) (es : List Int) (from_ : Nat) (best : Int) (j : Nat) (r : Int) : Prop := (j < L.length → AJ W L es from_ best j r) ∧ (j = L.length → AR W L es best r)
theorem AK.next {es : List Int} {from_ : Nat} {best : Int} {j : Nat} {r : Int} (h : AK W L es from_ best j r) (hm : (bx L j).m = false) : AG W L es from_ best (j + 1) r := by
  refine ⟨fun h1 => ?_, fun h1 => h.fin fun i hl => by have := hl.1.2.1; omega⟩
  exact ⟨h.run.next (by unfold en; rw [hm]; simp; omega), h.is, h.le, fun i t hi hb => h.all i t (by omega) hb⟩
theorem AR.base (o : Okb W L) {es : List Int} {best c : Int} {b : Bool} (hA : ∀ t, Brk W L 0 (es ++ t) → Brk W L L.length t) (hb : b = true ↔ Brk W L 0 es) (hc : c = if b = true then cst W L 0 es else 0) :
    (b = true → best < 0 → AR W L es best c) ∧ (b = true → c < best → AR W L es best c) ∧ (b = true → ¬ best < 0 → ¬ c < best → AR W L es best best) ∧ (b = false → AR W L es best best) := by
  have hnil : ∀ t, Brk W L 0 (es ++ t) → t = [] := fun t ht => by
    have h1 := hA t ht
    cases t with
    | nil => rfl
    | cons e t =>
      obtain ⟨j, _, hl, _⟩ := h1
      have := hl.1.1; have := hl.1.2.1
      omega
  have hall : b = true → ∀ r : Int, 0 ≤ r → r ≤ c → ∀ t, Brk W L 0 (es ++ t) → 0 ≤ r ∧ r ≤ cst W L 0 (es ++ t) := fun hbt r h0 hr t ht => by
    have e := hnil t ht
    subst e
    rw [List.append_nil]
    rw [if_pos hbt] at hc
    omega
  have hcn : b = true → 0 ≤ c := fun hbt => by
    rw [if_pos hbt] at hc
    rw [hc]
    exact (o.cost es 0 (hb.1 hbt)).1
  have hex : b = true → ∃ t, Brk W L 0 (es ++ t) ∧ c = cst W L 0 (es ++ t) := fun hbt => ⟨[], by rw [List.append_nil]; exact hb.1 hbt, by rw [List.append_nil, hc, if_pos hbt]⟩
  refine ⟨fun hbt h1 => ⟨.inr (hex hbt), fun h => by omega, hall hbt c (hcn hbt) (Int.le_refl _)⟩, fun hbt h1 => ⟨.inr (hex hbt), fun h => ⟨hcn hbt, by omega⟩, hall hbt c (hcn hbt) (Int.le_refl _)⟩, fun hbt h1 h2 => ⟨.inl rfl, fun h => ⟨h, Int.le_refl _⟩, hall hbt best (by omega) (by omega)⟩, fun hbf => ⟨.inl rfl, fun h => ⟨h, Int.le_refl _⟩, fun t ht => ?_⟩⟩
  have e := hnil t ht
  subst e
  rw [List.append_nil] at ht
  have := hb.2 ht
  rw [hbf] at this
  cases this
end Go.Proofs.YtkopefljnhgdkaaDoor
