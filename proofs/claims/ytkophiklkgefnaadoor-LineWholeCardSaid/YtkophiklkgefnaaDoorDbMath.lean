/- A function by cases of ranges held against the classes of a database: a test that is run decides for all numbers. -/
import Derived.Test.YtkophiklkgefnaaDoorDcE
namespace Go.Proofs.YtkophiklkgefnaaDoor.Dc

/-- A function by cases: the first range that has the number tells. -/
def chn (d : Int) (r : Int) : List (Int × Int × Int) → Int
  | [] => d
  | g :: L => if g.1 ≤ r ∧ r ≤ g.2.1 then g.2.2 else chn d r L
def okc (c d : Int) : Int → Int → List (Int × Int × Int) → Bool
  | _, _, [] => d == c
  | lo, hi, g :: L => if hi < g.1 ∨ g.2.1 < lo then okc c d lo hi L else (g.2.2 == c) && (decide (g.1 ≤ lo) || okc c d lo (g.1 - 1) L) && (decide (hi ≤ g.2.1) || okc c d (g.2.1 + 1) hi L)
theorem okc_sound (c d r : Int) : ∀ (L : List (Int × Int × Int)) (lo hi : Int), lo ≤ r → r ≤ hi → okc c d lo hi L = true → chn d r L = c
  | [], _, _, _, _, h => by
    show d = c
    simpa [okc] using h
  | g :: L, lo, hi, h1, h2, h => by
    unfold okc at h
    unfold chn
    split at h
    · rw [if_neg (by omega)]
      exact okc_sound c d r L lo hi h1 h2 h
    · rw [Bool.and_eq_true, Bool.and_eq_true] at h
      by_cases c1 : g.1 ≤ r ∧ r ≤ g.2.1
      · rw [if_pos c1]
        exact eq_of_beq h.1.1
      · rw [if_neg c1]
        by_cases c2 : r < g.1
        · rcases Bool.or_eq_true_iff.1 h.1.2 with h5 | h5
          · have h6 := of_decide_eq_true h5
            omega
          · exact okc_sound c d r L _ _ h1 (by omega) h5
        · rcases Bool.or_eq_true_iff.1 h.2 with h5 | h5
          · have h6 := of_decide_eq_true h5
            omega
          · exact okc_sound c d r L _ _ (by omega) h2 h5
def chk (L : List (Int × Int × Int)) (d a b : Int) : Int → List Tr → Bool
  | nx, [] => decide (b < nx)
  | nx, g :: R => (decide (min (g.2.1 : Int) b < max nx a) || okc (g.2.2 : Int) d (max nx a) (min (g.2.1 : Int) b) L) && chk L d a b ((g.2.1 : Int) + 1) R
theorem chk_sound (L : List (Int × Int × Int)) (d a b r : Int) (h1 : a ≤ r) (h2 : r ≤ b) : ∀ (A : List Tr) (nx : Int), nx ≤ r → chk L d a b nx A = true → chn d r L = (gtp r A : Int)
  | [], nx, hn, h => by
    unfold chk at h
    have h5 := of_decide_eq_true h
    omega
  | g :: R, nx, hn, h => by
    unfold chk at h
    rw [Bool.and_eq_true] at h
    unfold gtp
    by_cases hc : (g.2.1 : Int) < r
    · rw [if_pos hc]
      exact chk_sound L d a b r h1 h2 R _ (by omega) h.2
    · rw [if_neg hc]
      rcases Bool.or_eq_true_iff.1 h.1 with h5 | h5
      · have h6 := of_decide_eq_true h5
        omega
      · exact okc_sound _ d r L _ _ (by omega) (by omega) h5
theorem eq_two (r a : Int) : (r = a) = (a ≤ r ∧ r ≤ a) := propext ⟨fun h => by omega, fun h => by omega⟩
def covB : Nat → List Tr → Nat → Bool
  | a, [], b => a == b
  | a, g :: R, b => (g.1 == a) && decide (g.1 ≤ g.2.1) && covB (g.2.1 + 1) R b
theorem covB_sound : ∀ (A : List Tr) (a b : Nat), covB a A b = true → Cov a A b
  | [], a, b, h => by
    unfold covB at h
    exact eq_of_beq h
  | g :: R, a, b, h => by
    unfold covB at h
    rw [Bool.and_eq_true, Bool.and_eq_true] at h
    exact ⟨eq_of_beq h.1.1, of_decide_eq_true h.1.2, covB_sound R _ _ h.2⟩
def clsB (n : Nat) (A : List Tr) : Bool := A.all fun g => decide (g.2.2 < n)
theorem clsB_sound {n : Nat} {A : List Tr} (h : clsB n A = true) : ∀ g ∈ A, g.2.2 < n := fun g hg => of_decide_eq_true (List.all_eq_true.1 h g hg)
end Go.Proofs.YtkophiklkgefnaaDoor.Dc
