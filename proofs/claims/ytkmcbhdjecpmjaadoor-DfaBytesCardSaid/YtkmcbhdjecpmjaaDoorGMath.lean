/- Automata read from bytes: the mathematics. -/
import Derived.Test.YtkmcbhdjecpmjaaDoorRdM
namespace Go.Proofs.YtkmcbhdjecpmjaaDoor
open Go.RowKit

/-- The numbers of rows; the numbers read so far, n rows being told. -/
def itRs (R : Rw) (T : List Int) : List Nat := (R.zip T).flatMap fun p => itR p.2 p.1
def itN (c n : Nat) (R : Rw) (T : List Int) : List Nat := c :: n :: itRs R T
theorem itRs_nil : itRs [] [] = [] := rfl
theorem itRs_cons (row : List Int) (R : Rw) (t : Int) (T : List Int) : itRs (row :: R) (t :: T) = itR t row ++ itRs R T := by simp [itRs]
theorem itRs_snoc : ∀ {R : Rw} {T : List Int} (row : List Int) (t : Int), R.length = T.length → itRs (R ++ [row]) (T ++ [t]) = itRs R T ++ itR t row
  | [], [], row, t, _ => by simp [itRs]
  | [], _ :: _, _, _, h => by simp at h
  | _ :: _, [], _, _, h => by simp at h
  | r :: R, u :: T, row, t, h => by
    rw [List.cons_append, List.cons_append, itRs_cons, itRs_cons, itRs_snoc row t (by simpa using h), List.append_assoc]
theorem encD_itN {c : Int} {R : Rw} {T : List Int} (h : T.length = R.length) : encD c R T = encL (itN c.toNat R.length R T) := by
  unfold encD itK itN itRs
  rw [List.take_of_length_le (by rw [List.length_zip]; omega)]
theorem itR_len (t : Int) (row : List Int) : (itR t row).length = row.length + 1 := by simp [itR]
theorem itRs_len {c : Nat} : ∀ {R : Rw} {T : List Int}, R.length = T.length → (∀ row ∈ R, row.length = c) → (itRs R T).length = R.length * (c + 1)
  | [], [], _, _ => by simp [itRs]
  | [], _ :: _, h, _ => by simp at h
  | _ :: _, [], h, _ => by simp at h
  | r :: R, u :: T, h, hr => by
    rw [itRs_cons, List.length_append, itR_len, hr r (.head _), itRs_len (by simpa using h) (fun row h => hr row (.tail _ h)), List.length_cons, Nat.add_mul, Nat.one_mul]
    omega
/-- An automaton's shape. -/
structure Shp (c : Nat) (R : Rw) (T : List Int) : Prop where
  len : R.length = T.length
  row : ∀ row ∈ R, row.length = c ∧ ∀ x ∈ row, -1 ≤ x
  tk : ∀ t ∈ T, 0 ≤ t
theorem Gd.shp {c : Int} {R : Rw} {T : List Int} (h : Gd c R T) : Shp c.toNat R T := by
  refine ⟨h.tl.symm, fun row hr => ?_, fun t ht => ?_⟩
  · obtain ⟨k, hk⟩ := List.mem_iff_getElem?.1 hr
    have hl := (List.getElem?_eq_some_iff.1 hk).1
    have h1 := h.row k row (T[k]'(by have := h.tl; omega)) hk (List.getElem?_eq_getElem _)
    exact ⟨by have := h1.2.1; omega, fun x hx => (h1.2.2 x hx).1⟩
  · obtain ⟨k, hk⟩ := List.mem_iff_getElem?.1 ht
    have hl := (List.getElem?_eq_some_iff.1 hk).1
    have h1 := h.row k (R[k]'(by have := h.tl; omega)) t (List.getElem?_eq_getElem _) hk
    rcases h1.1 with e | e <;> omega
theorem map_suc_inj : ∀ {a b : List Int}, (∀ x ∈ a, -1 ≤ x) → (∀ x ∈ b, -1 ≤ x) → (a.map fun x => (x + 1).toNat) = (b.map fun x => (x + 1).toNat) → a = b
  | [], [], _, _, _ => rfl
  | [], _ :: _, _, _, h => by simp at h
  | _ :: _, [], _, _, h => by simp at h
  | x :: a, y :: b, ha, hb, h => by
    simp only [List.map_cons] at h
    injection h with h1 h2
    have e1 := ha x (.head _)
    have e2 := hb y (.head _)
    rw [show x = y by omega, map_suc_inj (fun z hz => ha z (.tail _ hz)) (fun z hz => hb z (.tail _ hz)) h2]
/-- What was read is how an automaton of the same width begins. -/
theorem itRs_pre {c : Nat} : ∀ {R : Rw} {T : List Int} {R' : Rw} {T' : List Int} {r : List Nat}, Shp c R T → Shp c R' T' → R.length ≤ R'.length → itRs R' T' = itRs R T ++ r → ∃ R2 T2, R' = R ++ R2 ∧ T' = T ++ T2 ∧ r = itRs R2 T2 ∧ Shp c R2 T2
  | [], [], R', T', r, _, h', _, h => ⟨R', T', rfl, rfl, by rw [h]; rfl, h'⟩
  | [], _ :: _, _, _, _, h, _, _, _ => by have := h.len; simp at this
  | _ :: _, [], _, _, _, h, _, _, _ => by have := h.len; simp at this
  | _ :: _, _ :: _, [], _, _, _, _, hl, _ => by simp at hl
  | _ :: _, _ :: _, _ :: _, [], _, _, h', _, _ => by have := h'.len; simp at this
  | w :: R, t :: T, w' :: R', t' :: T', r, h, h', hl, e => by
    rw [itRs_cons, itRs_cons, List.append_assoc] at e
    have l1 := (h.row w (.head _)).1
    have l2 := (h'.row w' (.head _)).1
    have e2 := List.append_inj e (by rw [itR_len, itR_len, l1, l2])
    obtain ⟨ea, eb⟩ := e2
    unfold itR at ea
    injection ea with e3 e4
    have t1 := h.tk t (.head _)
    have t2 := h'.tk t' (.head _)
    have hw : w' = w := map_suc_inj (h'.row w' (.head _)).2 (h.row w (.head _)).2 e4
    have ht : t' = t := by omega
    obtain ⟨R2, T2, g1, g2, g3, g4⟩ := itRs_pre (c := c) (R := R) (T := T) (R' := R') (T' := T') (r := r) ⟨by have := h.len; simpa using this, fun row hr => h.row row (.tail _ hr), fun t ht => h.tk t (.tail _ ht)⟩ ⟨by have := h'.len; simpa using this, fun row hr => h'.row row (.tail _ hr), fun t ht => h'.tk t (.tail _ ht)⟩ (by simpa using hl) eb
    exact ⟨R2, T2, by rw [hw, g1]; rfl, by rw [ht, g2]; rfl, g3, g4⟩
/-- No automaton is told by these bytes. -/
def NoD (b : List Nat) : Prop := ∀ (c : Int) (R : Rw) (T : List Int), Gd c R T → encD c R T ≠ b
theorem noD_c {b : List Nat} (h : NoN 64 b) : NoD b := fun c R T g e => by
  rw [encD_itN g.tl] at e
  unfold itN at e
  rw [encL_cons] at e
  exact h c.toNat _ (by have := g.c2; omega) e.symm
theorem noD_n {b r : List Nat} {c : Nat} (hb : b = vn c ++ r) (h : NoN 1024 r) : NoD b := fun c' R T g e => by
  rw [encD_itN g.tl] at e
  unfold itN at e
  rw [encL_cons, encL_cons, hb] at e
  obtain ⟨_, e2⟩ := vn_eq e
  exact h R.length _ g.n2 e2.symm
/-- What was read tells the width and the number of states. -/
theorem read_head {b r : List Nat} {c n : Nat} {R : Rw} {T : List Int} {c' : Int} {R' : Rw} {T' : List Int} (hb : b = encL (itN c n R T) ++ r) (g : Gd c' R' T') (e : encD c' R' T' = b) : c'.toNat = c ∧ R'.length = n ∧ encL (itRs R' T') = encL (itRs R T) ++ r := by
  rw [encD_itN g.tl, hb] at e
  unfold itN at e
  rw [encL_cons, encL_cons, encL_cons, encL_cons, List.append_assoc, List.append_assoc] at e
  obtain ⟨e1, e2⟩ := vn_eq e
  obtain ⟨e3, e4⟩ := vn_eq e2
  exact ⟨e1, e3, e4⟩
/-- The rows that were read are the automaton's first; behind them lies the rest. -/
theorem read_rows {b r : List Nat} {c n : Nat} {R : Rw} {T : List Int} {c' : Int} {R' : Rw} {T' : List Int} (hb : b = encL (itN c n R T) ++ r) (hs : Shp c R T) (hk : R.length ≤ n) (g : Gd c' R' T') (e : encD c' R' T' = b) : c'.toNat = c ∧ R'.length = n ∧ ∃ R2 T2, R' = R ++ R2 ∧ T' = T ++ T2 ∧ r = encL (itRs R2 T2) ∧ Shp c R2 T2 := by
  obtain ⟨e1, e2, e3⟩ := read_head hb g e
  have gs := g.shp
  rw [e1] at gs
  obtain ⟨q, hq, hr⟩ := encL_cut e3.symm (by rw [itRs_len hs.len (fun row h => (hs.row row h).1), itRs_len gs.len (fun row h => (gs.row row h).1)]; exact Nat.mul_le_mul_right _ (by omega))
  obtain ⟨R2, T2, g1, g2, g3, g4⟩ := itRs_pre hs gs (by omega) hq
  exact ⟨e1, e2, R2, T2, g1, g2, by rw [hr, g3], g4⟩
/-- A row's first number fails. -/
theorem noD_t {b r : List Nat} {c n : Nat} {R : Rw} {T : List Int} (hb : b = encL (itN c n R T) ++ r) (hs : Shp c R T) (hk : R.length < n) (h : NoN 1 r) : NoD b := fun c' R' T' g e => by
  obtain ⟨_, e2, R2, T2, g1, g2, g3, g4⟩ := read_rows hb hs (by omega) g e
  match R2, T2, g1, g2, g3, g4 with
  | [], _, g1, _, _, _ => rw [g1] at e2; simp at e2; omega
  | _ :: _, [], _, _, _, g4 => have := g4.len; simp at this
  | row :: R2, t :: T2, g1, g2, g3, _ =>
    rw [itRs_cons, encL_app] at g3
    unfold itR at g3
    rw [encL_cons, List.append_assoc] at g3
    refine h t.toNat _ ?_ g3
    have hr : R'[R.length]? = some row := by rw [g1, List.getElem?_append_right (Nat.le_refl _)]; simp
    have ht : T'[R.length]? = some t := by rw [g2, hs.len, List.getElem?_append_right (Nat.le_refl _)]; simp
    rcases (g.row _ _ _ hr ht).1 with e | e <;> omega
/-- A number within a row fails. -/
theorem noD_x {b r : List Nat} {c n : Nat} {R : Rw} {T : List Int} {t : Int} {ro : List Int} (hb : b = encL (itN c n R T ++ itR t ro) ++ r) (hs : Shp c R T) (hk : R.length < n) (hj : ro.length < c) (h : NoN n r) : NoD b := fun c' R' T' g e => by
  have hb' : b = encL (itN c n R T) ++ (encL (itR t ro) ++ r) := by rw [hb, encL_app, List.append_assoc]
  obtain ⟨_, e2, R2, T2, g1, g2, g3, g4⟩ := read_rows hb' hs (by omega) g e
  match R2, T2, g1, g2, g3, g4 with
  | [], _, g1, _, _, _ => rw [g1] at e2; simp at e2; omega
  | _ :: _, [], _, _, _, g4 => have := g4.len; simp at this
  | row :: R2, u :: T2, g1, g2, g3, g4 =>
    have hl := (g4.row row (.head _)).1
    rw [itRs_cons] at g3
    obtain ⟨q, hq, hr⟩ := encL_cut g3 (by rw [List.length_append, itR_len, itR_len]; omega)
    have hrr : R'[R.length]? = some row := by rw [g1, List.getElem?_append_right (Nat.le_refl _)]; simp
    have htt : T'[R.length]? = some u := by rw [g2, hs.len, List.getElem?_append_right (Nat.le_refl _)]; simp
    have hb1 := (g.row _ _ _ hrr htt).2.2
    have hz : (itR u row ++ itRs R2 T2)[(itR t ro).length]? = q[0]? := by rw [hq, List.getElem?_append_right (Nat.le_refl _)]; simp
    rw [itR_len, List.getElem?_append_left (by rw [itR_len]; omega)] at hz
    have hz2 : (itR u row)[ro.length + 1]? = (row[ro.length]?).map fun x => (x + 1).toNat := by simp [itR]
    rw [hz2, List.getElem?_eq_getElem (by omega)] at hz
    cases q with
    | nil => simp at hz
    | cons y q =>
      rw [encL_cons] at hr
      refine h y _ ?_ hr
      have hy : y = (row[ro.length] + 1).toNat := by simpa using hz.symm
      have := hb1 row[ro.length] (List.getElem_mem _)
      omega
/-- All is read, and more is left. -/
theorem noD_more {b r : List Nat} {c n : Nat} {R : Rw} {T : List Int} (hb : b = encL (itN c n R T) ++ r) (hs : Shp c R T) (hk : R.length = n) (h : r ≠ []) : NoD b := fun c' R' T' g e => by
  obtain ⟨_, e2, R2, T2, g1, _, g3, g4⟩ := read_rows hb hs (by omega) g e
  have h0 : R2 = [] := List.eq_nil_of_length_eq_zero (by rw [g1, List.length_append] at e2; omega)
  subst h0
  have h1 : T2 = [] := List.eq_nil_of_length_eq_zero (by have := g4.len; simp at this; omega)
  subst h1
  exact h g3
/-- All is read: whatever these bytes tell is this. -/
theorem read_all {b : List Nat} {c n : Nat} {R : Rw} {T : List Int} {c' : Int} {R' : Rw} {T' : List Int} (hb : b = encL (itN c n R T)) (hs : Shp c R T) (hk : R.length = n) (g : Gd c' R' T') (e : encD c' R' T' = b) : c' = (c : Int) ∧ R' = R ∧ T' = T := by
  obtain ⟨e1, e2, R2, T2, g1, g2, _, g4⟩ := read_rows (r := []) (by rw [List.append_nil]; exact hb) hs (by omega) g e
  have h0 : R2 = [] := List.eq_nil_of_length_eq_zero (by rw [g1, List.length_append] at e2; omega)
  subst h0
  have h1 : T2 = [] := List.eq_nil_of_length_eq_zero (by have := g4.len; simp at this; omega)
  subst h1
  exact ⟨by have := g.c1; omega, by rw [g1, List.append_nil], by rw [g2, List.append_nil]⟩
theorem noD_bad {b : List Nat} {c n : Nat} {R : Rw} {T : List Int} (hb : b = encL (itN c n R T)) (hs : Shp c R T) (hk : R.length = n) (h : ¬ Gd (c : Int) R T) : NoD b := fun c' R' T' g e => by
  obtain ⟨rfl, rfl, rfl⟩ := read_all hb hs hk g e
  exact h g
end Go.Proofs.YtkmcbhdjecpmjaaDoor
