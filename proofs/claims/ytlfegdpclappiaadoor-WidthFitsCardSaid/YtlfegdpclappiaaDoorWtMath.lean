/- Columns by the runes of letters; texts put together at a bound. Mathematics alone. -/
import Derived.Test.YtlfegdpclappiaaDoorWtTxt
import Derived.Test.YtlfegdpclappiaaDoorGrBnd
namespace Go.Proofs.YtlfegdpclappiaaDoor

theorem dec_high (m : List UInt8) (h : m ≠ []) (hb : 128 ≤ (m.getD 0 0).toNat) : 128 ≤ (dec m).1 := by
  rw [dec_numbers m h]
  unfold Lib.decodeN
  rw [if_neg (by omega)]
  split
  · split
    · rename_i h1; exact h1
    · decide
  split
  · split
    · rename_i h1; have := h1.1; show 128 ≤ _; omega
    · decide
  split
  · split
    · rename_i h1; have := h1.1; show 128 ≤ _; omega
    · decide
  · decide
theorem dec_low (m : List UInt8) (h : m ≠ []) (hb : (m.getD 0 0).toNat < 128) : dec m = ((m.getD 0 0).toNat, 1) := by
  rw [dec_numbers m h]
  unfold Lib.decodeN
  rw [if_pos hb]
theorem byt_9 (m : List UInt8) (h : m ≠ []) : byt m 0 = 9 ↔ (dec m).1 = 9 := by
  unfold byt
  rcases Nat.lt_or_ge (m.getD 0 0).toNat 128 with hb | hb
  · rw [dec_low m h hb]
    constructor <;> intro e
    · show (m.getD 0 0).toNat = 9; omega
    · have e : (m.getD 0 0).toNat = 9 := e
      omega
  · have := dec_high m h hb
    constructor <;> intro e <;> omega
/-- The column behind a letter, by its runes. -/
def bhR (a t c : Int) (X : List (Nat × Nat)) : Int := if elR (X.headD (0, 0)).1 = true then 0 else if (X.headD (0, 0)).1 = 9 then (c / t + 1) * t else c + lcR a X
theorem bhd_rl (a t c : Int) (m : List UInt8) (h : m ≠ []) : bhd a t c m = bhR a t c (rl m) := by
  have e : (byt m 0 = 9) = ((((rl m).headD (0, 0)).1 : Nat) = 9) := propext ((byt_9 m h).trans (by rw [dec_hd]))
  unfold bhd bhR
  rw [dec_hd]
  simp only [e]
/-- The column behind a row of runes. -/
def txR (a t c : Int) (Y : List (Nat × Nat)) : Int := (pcl gc Y).foldl (bhR a t) c
/-- A beginning of a text, by its runes. -/
theorem cut_at (m : List UInt8) (x y : List (Nat × Nat)) (h : rl m = x ++ y) : rl (m.take (psm x)) = x ∧ rl (m.drop (psm x)) = y := by
  have h1 := rl_cut x.length m (by rw [h, List.length_append]; omega)
  rw [h, List.take_left, List.drop_left] at h1
  exact h1
theorem piece_ne (m : List UInt8) (x : List (Nat × Nat)) (h : rl m = x) (hx : x ≠ []) : m ≠ [] := fun e => by
  subst e
  exact hx h.symm
theorem plc_fold (l : List UInt8) (a t : Int) : ∀ (M : List (List (Nat × Nat))) (p : Nat) (c : Int), rl (l.drop p) = M.flatten → (∀ x ∈ M, x ≠ []) → colP l a t c (plc p M) = M.foldl (bhR a t) c
  | [], _, _, _, _ => rfl
  | x :: M, p, c, h, hne => by
    rw [List.flatten_cons] at h
    obtain ⟨h1, h2⟩ := cut_at _ _ _ h
    have hx := hne x (List.mem_cons_self ..)
    have e : (l.take (p + psm x)).drop p = (l.drop p).take (psm x) := by rw [List.drop_take, Nat.add_sub_cancel_left]
    have e2 : colP l a t c (plc p (x :: M)) = colP l a t (bhd a t c ((l.take (p + psm x)).drop p)) (plc (p + psm x) M) := rfl
    rw [e2, e, bhd_rl a t c _ (piece_ne _ x h1 hx), h1, plc_fold l a t M _ _ (by rw [← List.drop_drop]; exact h2) (fun y hy => hne y (List.mem_cons_of_mem _ hy))]
    rfl
theorem colP_tx (l : List UInt8) (a t c : Int) : colP l a t c (gpF l 0) = txR a t c (rl l) := by
  unfold txR
  rw [gpF_0]
  exact plc_fold l a t _ 0 c (by rw [pcl_all gc _ _ (Nat.le_refl _)]; rfl) (pcl_ne gc _ _ (Nat.le_refl _))
theorem plc_mem : ∀ (M : List (List (Nat × Nat))) (q : Nat) (y : Nat × Nat), y ∈ plc q M → ∃ P Q, M = P ++ Q ∧ y.1 = q + psm P.flatten
  | [], _, _, h => by cases h
  | x :: M, q, y, h => by
    rw [plc] at h
    rcases List.mem_cons.1 h with rfl | h
    · exact ⟨[], x :: M, rfl, rfl⟩
    · obtain ⟨P, Q, h1, h2⟩ := plc_mem M _ y h
      exact ⟨x :: P, Q, by rw [h1]; rfl, by rw [h2, List.flatten_cons, psm_app, Nat.add_assoc]⟩
/-- A place where a letter begins parts a text, and its letters. -/
theorem gis_cut (m : List UInt8) (p : Nat) (h : Gis m p) : rl m = rl (m.take p) ++ rl (m.drop p) ∧ pcl gc (rl m) = pcl gc (rl (m.take p)) ++ pcl gc (rl (m.drop p)) := by
  obtain ⟨y, hy, rfl⟩ := h
  rw [gpF_0] at hy
  obtain ⟨P, Q, h1, h2⟩ := plc_mem _ _ y hy
  rw [Nat.zero_add] at h2
  have h3 := pcl_all gc _ (rl m) (Nat.le_refl _)
  rw [h1, List.flatten_append] at h3
  obtain ⟨k1, k2⟩ := pcl_cut gc P Q _ h1
  obtain ⟨e1, e2⟩ := cut_at m _ _ h3.symm
  rw [h2, e1, e2]
  exact ⟨h3.symm, by rw [h1, k1, k2]⟩
theorem join_tx (s u : List UInt8) (a t c : Int) (h : s = [] ∨ u = [] ∨ Gis (s ++ u) s.length) : colP (s ++ u) a t c (gpF (s ++ u) 0) = colP u a t (colP s a t c (gpF s 0)) (gpF u 0) := by
  rw [colP_tx, colP_tx, colP_tx]
  rcases h with rfl | rfl | h
  · rfl
  · rw [List.append_nil]; rfl
  · obtain ⟨_, h2⟩ := gis_cut _ _ h
    rw [List.take_left, List.drop_left] at h2
    unfold txR
    rw [h2, List.foldl_append]
end Go.Proofs.YtlfegdpclappiaaDoor
