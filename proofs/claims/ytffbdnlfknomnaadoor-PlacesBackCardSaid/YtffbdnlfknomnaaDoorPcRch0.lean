/- Counting from a kept place on: the mathematics. -/
import Derived.Test.YtffbdnlfknomnaaDoorPcCl
namespace Go.Proofs.YtffbdnlfknomnaaDoor.Wt

/-- Goes on to the first place that is not below at, or has the number n. -/
def rch (n at_ : Int) : List Nat → Nat → Nat → Nat × Nat
  | [], k, a => (k, a)
  | q :: t, k, _ => if at_ ≤ (q : Int) ∨ (k : Int) = n then (k, q) else rch n at_ t (k + 1) q
theorem rch_go (n at_ : Int) : ∀ (A B : List Nat) (k a : Nat), (∀ (i q : Nat), A[i]? = some q → ¬ (at_ ≤ (q : Int) ∨ ((k + i : Nat) : Int) = n)) → rch n at_ (A ++ B) k a = rch n at_ B (k + A.length) (A.getLastD a)
  | [], B, k, a, _ => rfl
  | q :: A, B, k, a, h => by
    rw [List.cons_append, rch, if_neg (show ¬ (at_ ≤ (q : Int) ∨ (k : Int) = n) from h 0 q rfl), rch_go n at_ A B (k + 1) q (fun i z hz => by
      have := h (i + 1) z hz
      rw [show k + 1 + i = k + (i + 1) by omega]
      exact this), List.length_cons, List.getLastD_cons, show k + 1 + A.length = k + (A.length + 1) by omega]
theorem rch_here (n at_ : Int) (A B : List Nat) (q k a : Nat) (h : ∀ (i q : Nat), A[i]? = some q → ¬ (at_ ≤ (q : Int) ∨ ((k + i : Nat) : Int) = n)) (hq : at_ ≤ (q : Int) ∨ ((k + A.length : Nat) : Int) = n) : rch n at_ (A ++ q :: B) k a = (k + A.length, q) := by
  rw [rch_go n at_ A _ k a h, rch, if_pos hq]
/-- How many are below a number. -/
def cntB (B : List Nat) (at_ : Int) : Nat := (B.filter fun (q : Nat) => decide ((q : Int) < at_)).length
theorem rch_count (at_ : Int) : ∀ (B : List Nat) (k a : Nat) (n : Int), B.Pairwise (· < ·) → ((k + B.length : Nat) : Int) ≤ n → (rch n at_ B k a).1 = k + cntB B at_
  | [], k, a, n, _, _ => rfl
  | q :: B, k, a, n, hp, hn => by
    obtain ⟨h1, h2⟩ := List.pairwise_cons.1 hp
    rw [List.length_cons] at hn
    rw [rch]
    by_cases h : at_ ≤ (q : Int)
    · rw [if_pos (.inl h)]
      have : cntB (q :: B) at_ = 0 := by
        unfold cntB
        rw [List.length_eq_zero_iff, List.filter_eq_nil_iff]
        intro z hz
        simp only [decide_eq_true_eq]
        rcases List.mem_cons.1 hz with rfl | hz
        · omega
        · have := h1 z hz; omega
      rw [this]; rfl
    · rw [if_neg (by omega), rch_count at_ B (k + 1) q n h2 (by omega)]
      unfold cntB
      rw [List.filter_cons_of_pos (by simpa using (by omega : (q : Int) < at_)), List.length_cons]
      omega
theorem rch_place (at_ : Int) : ∀ (B : List Nat) (k a j : Nat), (∀ q ∈ B, (q : Int) < at_) → j < B.length → (rch ((k + j : Nat) : Int) at_ B k a).2 = B[j]?.getD 0
  | [], _, _, _, _, h => by cases h
  | q :: B, k, a, j, hB, hj => by
    have hq := hB q (List.mem_cons_self ..)
    rw [rch]
    cases j with
    | zero => rw [if_pos (.inr (by omega))]; rfl
    | succ j =>
      rw [if_neg (by omega), show k + (j + 1) = (k + 1) + j by omega, rch_place at_ B (k + 1) q j (fun z hz => hB z (List.mem_cons_of_mem _ hz)) (by simpa using hj)]
      rfl
/-- Where the number n is. -/
def plcB (B : List Nat) (n : Int) (d : Nat) : Nat := if n < 0 then 0 else B[n.toNat]?.getD d
end Go.Proofs.YtffbdnlfknomnaaDoor.Wt
