/- Automata that know where to go: the mathematics of runs, of live and of sure states. -/
import Derived.Below
namespace Go.Proofs.YtkmcbhdjecpmjaaDoor
open Go.RowKit

abbrev Rw := List (List Int)
/-- A row of an automaton is right. -/
def RowOk (n : Nat) (c t : Int) (row : List Int) : Prop := (t = 0 ∨ t = 1) ∧ (row.length : Int) = c ∧ ∀ x ∈ row, -1 ≤ x ∧ x < (n : Int)
/-- An automaton is one. -/
structure Gd (c : Int) (R : Rw) (T : List Int) : Prop where
  c1 : 1 ≤ c
  c2 : c ≤ 64
  n1 : 1 ≤ R.length
  n2 : R.length ≤ 1024
  tl : T.length = R.length
  row : ∀ (s : Nat) (row : List Int) (t : Int), R[s]? = some row → T[s]? = some t → RowOk R.length c t row
open Classical in
noncomputable def gdB (c : Int) (R : Rw) (T : List Int) : Bool := decide (Gd c R T)
open Classical in
theorem gdB_yes {c : Int} {R : Rw} {T : List Int} (h : Gd c R T) : gdB c R T = true := by unfold gdB; exact decide_eq_true h
open Classical in
theorem gdB_no {c : Int} {R : Rw} {T : List Int} (h : ¬ Gd c R T) : gdB c R T = false := by unfold gdB; exact decide_eq_false h
open Classical in
theorem gd_of {c : Int} {R : Rw} {T : List Int} (h : gdB c R T = true) : Gd c R T := by unfold gdB at h; exact of_decide_eq_true h
open Classical in
theorem not_gd {c : Int} {R : Rw} {T : List Int} (h : gdB c R T = false) : ¬ Gd c R T := by unfold gdB at h; exact of_decide_eq_false h
noncomputable def gdC (c : Int) (R : Rw) (T : List Int) : Int := if gdB c R T then 0 else 70
theorem gdC_yes {c : Int} {R : Rw} {T : List Int} (h : Gd c R T) : gdC c R T = 0 := by unfold gdC; rw [gdB_yes h]; rfl
theorem gdC_no {c : Int} {R : Rw} {T : List Int} (h : ¬ Gd c R T) : gdC c R T = 70 := by unfold gdC; rw [gdB_no h]; rfl
/-- The first k rows are right. -/
def Rok (k : Nat) (c : Int) (R : Rw) (T : List Int) : Prop := ∀ (s : Nat) (row : List Int) (t : Int), s < k → R[s]? = some row → T[s]? = some t → RowOk R.length c t row
theorem Rok.succ {k : Nat} {c : Int} {R : Rw} {T : List Int} {row : List Int} {t : Int} (h : Rok k c R T) (hr : R[k]? = some row) (ht : T[k]? = some t) (ho : RowOk R.length c t row) : Rok (k + 1) c R T := fun s r u hs h1 h2 => by
  by_cases e : s = k
  · subst e
    rw [hr] at h1; rw [ht] at h2
    cases h1; cases h2
    exact ho
  · exact h s r u (by omega) h1 h2
theorem Rok.all {c : Int} {R : Rw} {T : List Int} (h : Rok R.length c R T) (h1 : 1 ≤ c) (h2 : c ≤ 64) (h3 : 1 ≤ R.length) (h4 : R.length ≤ 1024) (h5 : T.length = R.length) : Gd c R T :=
  ⟨h1, h2, h3, h4, h5, fun s r u hr hu => h s r u (List.getElem?_eq_some_iff.1 hr).1 hr hu⟩
/-- Where one comes from a state, or from nowhere. -/
def nxt (c : Int) (R : Rw) (s x : Int) : Int := if s < 0 ∨ x < 0 ∨ c ≤ x then -1 else ((R[s.toNat]?).bind (·[x.toNat]?)).getD (-1)
def run (c : Int) (R : Rw) (s : Int) (l : List Int) : Int := l.foldl (nxt c R) s
theorem nxt_out {c : Int} {R : Rw} {s x : Int} (h : s < 0 ∨ x < 0 ∨ c ≤ x) : nxt c R s x = -1 := by unfold nxt; rw [if_pos h]
theorem nxt_at {c : Int} {R : Rw} {s x : Nat} {row : List Int} {z : Int} (hr : R[s]? = some row) (hz : row[x]? = some z) (hx : (x : Int) < c) : nxt c R s x = z := by
  unfold nxt
  rw [if_neg (by omega)]
  simp [hr, hz]
theorem nxt_in {c : Int} {R : Rw} {T : List Int} (g : Gd c R T) (s x : Int) : -1 ≤ nxt c R s x ∧ nxt c R s x < (R.length : Int) := by
  unfold nxt
  split
  · have := g.n1; omega
  · cases hr : R[s.toNat]? with
    | none => have := g.n1; simp; omega
    | some row =>
      cases hz : row[x.toNat]? with
      | none => have := g.n1; simp [hz]; omega
      | some z =>
        have hl := (List.getElem?_eq_some_iff.1 hr).1
        have h1 := (g.row s.toNat row (T[s.toNat]'(by have := g.tl; omega)) hr (List.getElem?_eq_getElem _)).2.2 z (List.mem_of_getElem? hz)
        simpa [hz] using h1
theorem run_neg (c : Int) (R : Rw) : ∀ l : List Int, run c R (-1) l = -1
  | [] => rfl
  | x :: l => by
    show run c R (nxt c R (-1) x) l = -1
    rw [nxt_out (.inl (by omega))]
    exact run_neg c R l
theorem run_in {c : Int} {R : Rw} {T : List Int} (g : Gd c R T) : ∀ (l : List Int) (s : Int), -1 ≤ s → s < (R.length : Int) → -1 ≤ run c R s l ∧ run c R s l < (R.length : Int)
  | [], _, h1, h2 => ⟨h1, h2⟩
  | x :: l, _, _, _ => run_in g l _ (nxt_in g _ x).1 (nxt_in g _ x).2
theorem run_snoc (c : Int) (R : Rw) (s : Int) (l : List Int) (x : Int) : run c R s (l ++ [x]) = nxt c R (run c R s l) x := by
  unfold run; rw [List.foldl_append]; rfl
theorem run_take {c : Int} {R : Rw} {s : Int} {l : List Int} {k : Nat} {x : Int} (h : l[k]? = some x) : run c R s (l.take (k + 1)) = nxt c R (run c R s (l.take k)) x := by
  rw [List.take_add_one, h]
  exact run_snoc c R s _ x
theorem run_drop {c : Int} {R : Rw} {s : Int} {l : List Int} (k : Nat) : run c R s l = run c R (run c R s (l.take k)) (l.drop k) := by
  unfold run
  rw [← List.foldl_append, List.take_append_drop]
open Classical in
noncomputable def runB (c : Int) (R : Rw) (T : List Int) (f : Int) (l : List Int) : Int := if Gd c R T ∧ 0 ≤ f ∧ f < (R.length : Int) then run c R f l else -1
theorem runB_yes {c : Int} {R : Rw} {T : List Int} {f : Int} {l : List Int} (g : Gd c R T) (h0 : 0 ≤ f) (h1 : f < (R.length : Int)) : runB c R T f l = run c R f l := by unfold runB; rw [if_pos ⟨g, h0, h1⟩]
theorem runB_no {c : Int} {R : Rw} {T : List Int} {f : Int} {l : List Int} (h : ¬ (Gd c R T ∧ 0 ≤ f ∧ f < (R.length : Int))) : runB c R T f l = -1 := by unfold runB; rw [if_neg h]
theorem runB_zero {c : Int} {R : Rw} {T : List Int} {l : List Int} (g : Gd c R T) : runB c R T 0 l = run c R 0 l := runB_yes g (by omega) (by have := g.n1; omega)
theorem runB_in {c : Int} {R : Rw} {T : List Int} {f : Int} {l : List Int} : runB c R T f l = -1 ∨ (Gd c R T ∧ 0 ≤ runB c R T f l ∧ runB c R T f l < (R.length : Int)) := by
  unfold runB
  split
  · rename_i h
    obtain ⟨g, h0, h1⟩ := h
    obtain ⟨h2, h3⟩ := run_in g l f (by omega) h1
    by_cases e : run c R f l = -1
    · exact .inl e
    · exact .inr ⟨g, by omega, h3⟩
  · exact .inl rfl
/-- Whether a state takes. -/
def tkS (T : List Int) (s : Int) : Bool := decide (0 ≤ s ∧ T[s.toNat]? = some 1)
noncomputable def tkB (c : Int) (R : Rw) (T : List Int) (l : List Int) : Bool := tkS T (runB c R T 0 l)
theorem tkS_neg {T : List Int} {s : Int} (h : s < 0) : tkS T s = false := by unfold tkS; exact decide_eq_false (by omega)
theorem tkS_yes {T : List Int} {s : Nat} (h : T[s]? = some 1) : tkS T s = true := by unfold tkS; exact decide_eq_true ⟨by omega, by simpa using h⟩
theorem tkS_no {T : List Int} {s : Nat} {z : Int} (h : T[s]? = some z) (hz : z ≠ 1) : tkS T s = false := by
  unfold tkS
  refine decide_eq_false (fun hh => hz ?_)
  have := hh.2
  simp only [Int.toNat_natCast] at this
  rw [h] at this
  exact Option.some.inj this
/-- The greatest number up to m at which f holds, or -1. -/
def lon (f : Nat → Bool) : Nat → Int
  | 0 => if f 0 then 0 else -1
  | m + 1 => if f (m + 1) then ((m + 1 : Nat) : Int) else lon f m
theorem lon_yes {f : Nat → Bool} : ∀ {m : Nat}, f m = true → lon f m = (m : Int)
  | 0, h => by simp [lon, h]
  | m + 1, h => by simp [lon, h]
theorem lon_no {f : Nat → Bool} {m : Nat} (h : f (m + 1) = false) : lon f (m + 1) = lon f m := by simp [lon, h]
theorem lon_no0 {f : Nat → Bool} (h : f 0 = false) : lon f 0 = -1 := by simp [lon, h]
theorem lon_up {f : Nat → Bool} {k : Nat} : ∀ {m : Nat}, k ≤ m → (∀ j, k < j → j ≤ m → f j = false) → lon f m = lon f k
  | 0, h, _ => by have : k = 0 := by omega
                  subst this; rfl
  | m + 1, h, hf => by
    by_cases e : k = m + 1
    · subst e; rfl
    · rw [lon_no (hf (m + 1) (by omega) (Nat.le_refl _))]
      exact lon_up (by omega) fun j h1 h2 => hf j h1 (by omega)
/-- One comes from a state to one that is an aim. -/
inductive Lead (R : Rw) (aim : Nat → Prop) : Nat → Prop
  | here {s : Nat} (h : aim s) : Lead R aim s
  | on {s t : Nat} {row : List Int} (hr : R[s]? = some row) (ht : (t : Int) ∈ row) (h : Lead R aim t) : Lead R aim s
/-- A set that holds the aims, and all from which one comes to it, holds them all. -/
theorem Lead.least {R : Rw} {aim A : Nat → Prop} (h0 : ∀ s, aim s → A s) (h1 : ∀ (s t : Nat) (row : List Int), R[s]? = some row → (t : Int) ∈ row → A t → A s) {s : Nat} (h : Lead R aim s) : A s := by
  induction h with
  | here h => exact h0 _ h
  | on hr ht _ ih => exact h1 _ _ _ hr ht ih
theorem Lead.lt {R : Rw} {aim : Nat → Prop} {n : Nat} (hn : R.length = n) (ha : ∀ s, aim s → s < n) {s : Nat} (h : Lead R aim s) : s < n := by
  cases h with
  | here h => exact ha _ h
  | on hr _ _ => rw [← hn]; exact (List.getElem?_eq_some_iff.1 hr).1
/-- The states that take; those that don't, or lead nowhere by some class. -/
def takesP (T : List Int) (s : Nat) : Prop := T[s]? = some 1
def failsP (R : Rw) (T : List Int) (s : Nat) : Prop := s < R.length ∧ (T[s]? = some 0 ∨ ∃ row, R[s]? = some row ∧ -1 ∈ row)
/-- How many of a list of bools are so. -/
def cnt (b : Bool) (l : List Bool) : Nat := l.countP (· == b)
theorem cnt_set {l : List Bool} {k : Nat} {b : Bool} (h : l[k]? = some b) : cnt b (l.set k (!b)) + 1 = cnt b l := by
  induction l generalizing k with
  | nil => simp at h
  | cons x l ih =>
    cases k with
    | zero =>
      simp at h
      subst h
      unfold cnt
      cases x <;> simp
    | succ k =>
      simp at h
      have := ih h
      unfold cnt at this ⊢
      simp only [List.set_cons_succ, List.countP_cons]
      omega
theorem cnt_le (b : Bool) (l : List Bool) : cnt b l ≤ l.length := List.countP_le_length
end Go.Proofs.YtkmcbhdjecpmjaaDoor
