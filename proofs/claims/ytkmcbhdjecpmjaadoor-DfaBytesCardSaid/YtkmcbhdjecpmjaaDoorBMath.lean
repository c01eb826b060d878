/- Automata in bytes: the mathematics. -/
import Derived.Test.YtkmcbhdjecpmjaaDoorDMath
namespace Go.Proofs.YtkmcbhdjecpmjaaDoor
open Go.RowKit

def vnF : Nat → Nat → List Nat
  | 0, _ => []
  | f + 1, n => if 128 ≤ n then (n % 128 + 128) :: vnF f (n / 128) else [n]
/-- A number in bytes of seven bits. -/
def vn (n : Nat) : List Nat := vnF (n + 1) n
theorem vnF_any : ∀ (f g n : Nat), n < f → n < g → vnF f n = vnF g n
  | 0, _, n, h, _ => by omega
  | _ + 1, 0, n, _, h => by omega
  | f + 1, g + 1, n, h1, h2 => by
    unfold vnF
    split
    · rw [vnF_any f g (n / 128) (by omega) (by omega)]
    · rfl
theorem vn_more (n : Nat) (h : 128 ≤ n) : vn n = (n % 128 + 128) :: vn (n / 128) := by
  unfold vn
  conv => lhs; unfold vnF
  rw [if_pos h, vnF_any n (n / 128 + 1) (n / 128) (by omega) (by omega)]
theorem vn_last (n : Nat) (h : ¬ 128 ≤ n) : vn n = [n] := by
  unfold vn vnF
  rw [if_neg h]
theorem vn_le {n : Nat} (h : n ≤ 16383) : (vn n).length ≤ 2 := by
  by_cases c : 128 ≤ n
  · rw [vn_more n c, vn_last _ (by omega)]; simp
  · rw [vn_last n c]; simp
theorem vn_pos (n : Nat) : 1 ≤ (vn n).length := by
  by_cases c : 128 ≤ n
  · rw [vn_more n c]; simp
  · rw [vn_last n c]; simp
/-- No number's bytes begin another's. -/
theorem vn_pre : ∀ (f a b : Nat) (x y : List Nat), a < f → vn a ++ x = vn b ++ y → a = b ∧ x = y
  | 0, _, _, _, _, h, _ => by omega
  | f + 1, a, b, x, y, h, e => by
    by_cases ca : 128 ≤ a
    · by_cases cb : 128 ≤ b
      · rw [vn_more a ca, vn_more b cb, List.cons_append, List.cons_append] at e
        injection e with e1 e2
        obtain ⟨h1, h2⟩ := vn_pre f (a / 128) (b / 128) x y (by omega) e2
        exact ⟨by omega, h2⟩
      · rw [vn_more a ca, vn_last b cb] at e
        injection e with e1 _
        omega
    · by_cases cb : 128 ≤ b
      · rw [vn_last a ca, vn_more b cb] at e
        injection e with e1 _
        omega
      · rw [vn_last a ca, vn_last b cb] at e
        injection e with e1 e2
        exact ⟨e1, e2⟩
theorem vn_eq {a b : Nat} {x y : List Nat} (h : vn a ++ x = vn b ++ y) : a = b ∧ x = y := vn_pre (a + 1) a b x y (by omega) h
/-- Numbers in bytes. -/
def encL (l : List Nat) : List Nat := l.flatMap vn
theorem encL_nil : encL [] = [] := rfl
theorem encL_cons (a : Nat) (l : List Nat) : encL (a :: l) = vn a ++ encL l := rfl
theorem encL_app (l m : List Nat) : encL (l ++ m) = encL l ++ encL m := by unfold encL; rw [List.flatMap_append]
theorem encL_snoc (l : List Nat) (a : Nat) : encL (l ++ [a]) = encL l ++ vn a := by rw [encL_app, encL_cons, encL_nil, List.append_nil]
/-- What is read off is what was laid. -/
theorem encL_cut : ∀ {l m : List Nat} {x : List Nat}, encL l ++ x = encL m → l.length ≤ m.length → ∃ r, m = l ++ r ∧ x = encL r
  | [], m, x, h, _ => ⟨m, rfl, h⟩
  | a :: l, [], x, h, hl => by simp at hl
  | a :: l, b :: m, x, h, hl => by
    rw [encL_cons, encL_cons, List.append_assoc] at h
    obtain ⟨rfl, h2⟩ := vn_eq h
    obtain ⟨r, hr, hx⟩ := encL_cut h2 (by simpa using hl)
    exact ⟨r, by rw [hr]; rfl, hx⟩
theorem encL_inj {l m : List Nat} (h : encL l = encL m) (hl : l.length = m.length) : l = m := by
  obtain ⟨r, hr, _⟩ := encL_cut (l := l) (m := m) (x := []) (by rw [List.append_nil]; exact h) (by omega)
  have : r = [] := by
    have h1 := congrArg List.length hr
    rw [List.length_append] at h1
    exact List.eq_nil_of_length_eq_zero (by omega)
  rw [hr, this, List.append_nil]
/-- The numbers of a row, of the first k rows. -/
def itR (t : Int) (row : List Int) : List Nat := t.toNat :: row.map fun x => (x + 1).toNat
def itK (c : Int) (R : Rw) (T : List Int) (k : Nat) : List Nat := c.toNat :: R.length :: ((R.zip T).take k).flatMap fun p => itR p.2 p.1
theorem itK_zero (c : Int) (R : Rw) (T : List Int) : itK c R T 0 = [c.toNat, R.length] := rfl
theorem itK_succ {c : Int} {R : Rw} {T : List Int} {k : Nat} {row : List Int} {t : Int} (hr : R[k]? = some row) (ht : T[k]? = some t) : itK c R T (k + 1) = itK c R T k ++ itR t row := by
  unfold itK
  have hz : (R.zip T)[k]? = some (row, t) := by
    rw [List.getElem?_zip_eq_some]
    exact ⟨hr, ht⟩
  rw [List.take_add_one, hz]
  simp
/-- An automaton in bytes. -/
def encD (c : Int) (R : Rw) (T : List Int) : List Nat := encL (itK c R T R.length)
theorem itR_snoc (t : Int) (row : List Int) {j : Nat} {z : Int} (h : row[j]? = some z) : itR t (row.take (j + 1)) = itR t (row.take j) ++ [(z + 1).toNat] := by
  unfold itR
  rw [List.take_add_one, h]
  simp
end Go.Proofs.YtkmcbhdjecpmjaaDoor
