/- How much an automaton has, as the laws count it. -/
import Derived.Test.YteacehfihogmpaaDoorAutMath
namespace Go.Proofs.YteacehfihogmpaaDoor

/-- Classes of edges. -/
def wE : List Ed → Nat
  | [] => 0
  | e :: l => e.1.length + wE l
/-- Of a state: of its edges the first 2501 are looked at. -/
def wS (s : St) : Nat := s.2.length + s.1.length + wE (s.1.take 2501)
def wid : List St → Nat
  | [] => 0
  | s :: l => wS s + wid l
/-- More than is asked? -/
def wdb (L : List St) : Bool := decide (120 < L.length) || decide (2500 < wid L)
theorem wE_app (a b : List Ed) : wE (a ++ b) = wE a + wE b := by
  induction a with
  | nil => simp [wE]
  | cons e a ih => simp [wE, ih]; omega
theorem wid_app (a b : List St) : wid (a ++ b) = wid a + wid b := by
  induction a with
  | nil => simp [wid]
  | cons e a ih => simp [wid, ih]; omega
theorem wE_take (E : List Ed) (j : Nat) (h : j < E.length) : wE (E.take (j + 1)) = wE (E.take j) + E[j].1.length := by
  rw [List.take_succ_eq_append_getElem h, wE_app]; simp [wE]
theorem wid_take (L : List St) (j : Nat) (h : j < L.length) : wid (L.take (j + 1)) = wid (L.take j) + wS L[j] := by
  rw [List.take_succ_eq_append_getElem h, wid_app]; simp [wid]
theorem wE_le (E : List Ed) (j : Nat) (h : j ≤ 2501) : wE (E.take j) ≤ wE (E.take 2501) := by
  have e : E.take 2501 = E.take j ++ (E.drop j).take (2501 - j) := by
    rw [← List.take_add]; congr 1; omega
  rw [e, wE_app]; omega
theorem wid_le (L : List St) (j : Nat) : wid (L.take j) ≤ wid L := by
  have := wid_app (L.take j) (L.drop j)
  rw [List.take_append_drop] at this; omega
theorem wE_most (M : Nat) : ∀ (E : List Ed), (∀ e ∈ E, e.1.length ≤ M) → wE E ≤ E.length * M
  | [], _ => by simp [wE]
  | e :: l, h => by
    have h1 := wE_most M l fun x hx => h x (.tail _ hx)
    have h2 := h e (.head _)
    show e.1.length + wE l ≤ (l.length + 1) * M
    rw [Nat.add_mul]; omega
theorem wS_most (M : Nat) (s : St) (h1 : s.1.length ≤ M) (h2 : s.2.length ≤ M) (h3 : ∀ e ∈ s.1, e.1.length ≤ M) : wS s ≤ 2503 * M := by
  unfold wS
  have h4 := wE_most M (s.1.take 2501) fun e he => h3 e (List.mem_of_mem_take he)
  have h5 : (s.1.take 2501).length ≤ 2501 := List.length_take_le _ _
  have h6 : (s.1.take 2501).length * M ≤ 2501 * M := Nat.mul_le_mul_right _ h5
  have e : 2503 * M = 2501 * M + M + M := by omega
  omega
theorem wid_most (M : Nat) : ∀ (L : List St), (∀ s ∈ L, s.1.length ≤ M ∧ s.2.length ≤ M ∧ ∀ e ∈ s.1, e.1.length ≤ M) → wid L ≤ L.length * (2503 * M)
  | [], _ => by simp [wid]
  | s :: l, h => by
    have h1 := wid_most M l fun x hx => h x (.tail _ hx)
    have h2 := h s (.head _)
    have h3 := wS_most M s h2.1 h2.2.1 h2.2.2
    show wS s + wid l ≤ (l.length + 1) * (2503 * M)
    rw [Nat.add_mul]; omega
theorem wid_few (L : List St) (h : ∀ s ∈ L, s.1.length ≤ 17592186044416 ∧ s.2.length ≤ 17592186044416 ∧ ∀ e ∈ s.1, e.1.length ≤ 17592186044416) (hl : L.length ≤ 120) : wid L ≤ 8000000000000000000 := by
  have h1 := wid_most 17592186044416 L h
  have h2 : L.length * (2503 * 17592186044416) ≤ 120 * (2503 * 17592186044416) := Nat.mul_le_mul_right _ hl
  have h3 : 120 * (2503 * 17592186044416) ≤ 8000000000000000000 := by decide
  exact Nat.le_trans h1 (Nat.le_trans h2 h3)
/-- What is not wide is small. -/
theorem wdb_small {L : List St} (h : wdb L = false) : L.length ≤ 120 ∧ wid L ≤ 2500 := by
  simp [wdb] at h; omega
theorem wS_in {L : List St} {s : St} (h : s ∈ L) : wS s ≤ wid L := by
  induction L with
  | nil => cases h
  | cons x l ih =>
    show wS s ≤ wS x + wid l
    rcases List.mem_cons.1 h with rfl | h
    · omega
    · have := ih h; omega
theorem wE_in {E : List Ed} {e : Ed} (h : e ∈ E) : e.1.length ≤ wE E := by
  induction E with
  | nil => cases h
  | cons x l ih =>
    show _ ≤ x.1.length + wE l
    rcases List.mem_cons.1 h with rfl | h
    · omega
    · have := ih h; omega
end Go.Proofs.YteacehfihogmpaaDoor
