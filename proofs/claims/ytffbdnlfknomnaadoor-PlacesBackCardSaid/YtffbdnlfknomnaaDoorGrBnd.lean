/- Bounds of letters: the letter around a place; what sure answers is a bound. Mathematics alone. -/
import Derived.Test.YtffbdnlfknomnaaDoorGrSur
namespace Go.Proofs.YtffbdnlfknomnaaDoor.Wt

theorem gsu_le (l : List UInt8) (k : Nat) : gsu l k ≤ k := Nat.sub_le _ _
theorem sure_is (L : List Int) : ∀ k, k ≤ L.length → (k - srN (L.take k).reverse ((L.drop k).headD 3) = 0 ∨ gbt ((L.take (k - srN (L.take k).reverse ((L.drop k).headD 3))).getLastD 0) ((L.drop (k - srN (L.take k).reverse ((L.drop k).headD 3))).headD 3) = 0)
  | 0, _ => .inl (Nat.zero_sub _)
  | k + 1, h => by
    have hk : k < L.length := h
    have hd : (L.drop k).headD 3 = L[k] := by rw [List.drop_eq_getElem_cons hk]; rfl
    rw [take_rev L k hk]
    by_cases hg : gbt L[k] ((L.drop (k + 1)).headD 3) = 0
    · right
      have e : (L.take (k + 1)).getLastD 0 = L[k] := by rw [List.take_succ_eq_append_getElem hk, List.getLastD_eq_getLast?, List.getLast?_append]; rfl
      rw [srN_yes _ _ _ hg, Nat.sub_zero, e]
      exact hg
    · rw [srN_no _ _ _ hg, Nat.succ_sub_succ]
      have := sure_is L k (Nat.le_of_lt hk)
      rw [hd] at this
      exact this
theorem gsu_sure (l : List UInt8) (k : Nat) (h : k ≤ (rl l).length) : gsu l k = 0 ∨ gbt (((gcs l).take (gsu l k)).getLastD 0) (((gcs l).drop (gsu l k)).headD 3) = 0 := sure_is (gcs l) k (by rw [gcs_len]; exact h)
theorem pcl_gsu (l : List UInt8) (k : Nat) (h : k < (rl l).length) : pcl gc (rl l) = pcl gc ((rl l).take (gsu l k)) ++ pcl gc ((rl l).drop (gsu l k)) := by
  have hle := gsu_le l k
  rcases gsu_sure l k (Nat.le_of_lt h) with h0 | h0
  · rw [h0]; rfl
  · rcases Nat.eq_zero_or_pos (gsu l k) with hz | hz
    · rw [hz]; rfl
    · have hlt : gsu l k < (rl l).length := by omega
      have hlt2 : gsu l k < (gcs l).length := by rw [gcs_len]; exact hlt
      have hs := pcl_sure gc gc_cl _ ((rl l).take (gsu l k)) ((rl l)[gsu l k]) ((rl l).drop (gsu l k + 1)) (Nat.le_refl _) (fun e => by
        have := congrArg List.length e
        rw [List.length_take] at this
        simp only [List.length_nil] at this
        omega) (by
        rw [List.drop_eq_getElem_cons hlt2, List.headD_cons] at h0
        rw [List.map_take]
        have e : (gcs l)[gsu l k] = gc (rl l)[gsu l k] := by simp [gcs]
        rw [e] at h0
        exact h0)
      rw [← List.drop_eq_getElem_cons hlt, List.take_append_drop] at hs
      exact hs
theorem gpF_0 (l : List UInt8) : gpF l 0 = plc 0 (pcl gc (rl l)) := rfl
theorem gp_split (l : List UInt8) (k : Nat) (h : k < (rl l).length) : gpF l 0 = plc 0 (pcl gc ((rl l).take (gsu l k))) ++ gpF l (pos l (gsu l k)) := by
  have hle := gsu_le l k
  rw [gpF_0, pcl_gsu l k h, plc_app, pcl_all gc _ _ (Nat.le_refl _), Nat.zero_add]
  unfold gpF
  rw [rl_drop l _ (by omega)]
  rfl
theorem plc_bd : ∀ (M : List (List (Nat × Nat))) (q : Nat), ∀ y ∈ plc q M, q ≤ y.1 ∧ y.2 ≤ q + psm M.flatten
  | [], _, _, h => by cases h
  | x :: M, q, y, h => by
    rw [plc] at h
    rw [List.flatten_cons, psm_app]
    rcases List.mem_cons.1 h with rfl | h
    · exact ⟨Nat.le_refl _, by show q + psm x ≤ _; omega⟩
    · have := plc_bd M _ y h
      omega
theorem plc_next : ∀ (M : List (List (Nat × Nat))) (q : Nat) (U V : List (Nat × Nat)) (x : Nat × Nat), plc q M = U ++ x :: V → ∀ y ∈ V, x.2 ≤ y.1
  | [], _, U, V, x, h => by cases U <;> cases h
  | z :: M, q, [], V, x, h => by
    rw [plc, List.nil_append] at h
    obtain ⟨h1, h2⟩ := List.cons.inj h
    intro y hy
    rw [← h1]
    rw [← h2] at hy
    exact (plc_bd M _ y hy).1
  | z :: M, q, u :: U, V, x, h => by
    rw [plc, List.cons_append] at h
    exact plc_next M _ U V x (List.cons.inj h).2
theorem plc_shift : ∀ (M : List (List (Nat × Nat))) (q b : Nat), plc (b + q) M = (plc q M).map fun x => (b + x.1, b + x.2)
  | [], _, _ => rfl
  | z :: M, q, b => by rw [plc, plc, List.map_cons, Nat.add_assoc, plc_shift M (q + psm z) b]
theorem gp_shift (l : List UInt8) (b : Nat) : gpF l b = (gpF (l.drop b) 0).map fun x => (b + x.1, b + x.2) := by
  have := plc_shift (pcl gc (rl (l.drop b))) 0 b
  rw [Nat.add_zero] at this
  exact this
theorem plc_last : ∀ (M : List (List (Nat × Nat))) (q : Nat), M ≠ [] → ∃ y ∈ plc q M, y.2 = q + psm M.flatten
  | [x], q, _ => ⟨(q, q + psm x), by simp [plc], by simp⟩
  | x :: z :: M, q, _ => by
    obtain ⟨y, hy, he⟩ := plc_last (z :: M) (q + psm x) (by simp)
    refine ⟨y, by rw [plc]; exact List.mem_cons_of_mem _ hy, ?_⟩
    rw [he, List.flatten_cons (l := x), psm_app, Nat.add_assoc]
theorem gp_last (l : List UInt8) (h : l ≠ []) : ∃ y ∈ gpF l 0, y.2 = l.length := by
  have hrn : rl l ≠ [] := by rw [rl_cons l h]; simp
  obtain ⟨y, hy, he⟩ := plc_last (pcl gc (rl l)) 0 (by rw [pcl_cons gc _ hrn]; simp)
  refine ⟨y, hy, ?_⟩
  rw [he, pcl_all gc _ _ (Nat.le_refl _), rl_sum _ l (Nat.le_refl _), Nat.zero_add]
theorem gp_lt (l : List UInt8) : ∀ y ∈ gpF l 0, y.1 < y.2 := by
  obtain ⟨L, hL, _⟩ := gp_all l _ 0 (Nat.le_refl _)
  intro y hy
  rw [← hL] at hy
  obtain ⟨x, _, rfl⟩ := List.mem_map.1 hy
  exact x.lt
/-- A letter begins at the place p. -/
def Gis (l : List UInt8) (p : Nat) : Prop := ∃ y ∈ gpF l 0, y.1 = p
/-- The rune to which a place belongs. -/
theorem rune_at (l : List UInt8) (p : Nat) (h : p < l.length) : ∃ k, k < (rl l).length ∧ pos l k ≤ p ∧ p < pos l (k + 1) := by
  have key : ∀ n, n ≤ (rl l).length → p < pos l n → ∃ k, k < n ∧ pos l k ≤ p ∧ p < pos l (k + 1) := by
    intro n
    induction n with
    | zero => intro _ h1; rw [pos_0] at h1; omega
    | succ n ih =>
      intro hn h1
      rcases Nat.lt_or_ge p (pos l n) with h2 | h2
      · obtain ⟨k, k1, k2⟩ := ih (by omega) h2
        exact ⟨k, by omega, k2⟩
      · exact ⟨n, by omega, h2, h1⟩
  exact key _ (Nat.le_refl _) (by rw [pos_all l _ (Nat.le_refl _)]; exact h)
theorem back_rune (l : List UInt8) (p k : Nat) (h : k < (rl l).length) (h1 : pos l k ≤ p) (h2 : p < pos l (k + 1)) : backE l ((p : Int) + 1) = (pos l k : Nat) := by
  have hle := pos_le l (k + 1) h
  obtain ⟨P, hP⟩ := mks_pos l k (Nat.le_of_lt h)
  rw [mks_at l _ (pos_end l k h)] at hP
  have e : pos l k + wid l (pos l k) = pos l (k + 1) := pos_step l k h
  unfold backE
  rw [if_neg (by omega), if_neg (by omega), show ((p : Int) + 1).toNat - 1 = p by omega, begin_is l p (pos l k) P (by omega) h1 (by omega) hP]
theorem pos_leq (l : List UInt8) (i j : Nat) (h : i ≤ j) (hj : j ≤ (rl l).length) : pos l i ≤ pos l j := by
  have := pos_mono l (j - i) i (by omega)
  rw [show i + (j - i) = j by omega] at this
  omega
/-- What Around finds. -/
theorem around_is (l : List UInt8) (p k B : Nat) (hk : k < (rl l).length) (hp : pos l k ≤ p) (hB : B = pos l (gsu l k)) (L pre : List (Pl (l.drop B))) (hL : L.map Pl.v = gpF (l.drop B) 0) (x : Pl (l.drop B)) (h : pre ++ [x] <+: L) (h1 : ∀ y ∈ pre, B + y.v.2 ≤ p) (h2 : p < B + x.v.2) :
    Gis l p ↔ B + x.v.1 = p := by
  have hBp : B ≤ p := by
    have := pos_leq l (gsu l k) k (gsu_le l k) (Nat.le_of_lt hk)
    omega
  obtain ⟨R, hR⟩ := h
  have hS : gpF (l.drop B) 0 = pre.map Pl.v ++ x.v :: R.map Pl.v := by
    rw [← hL, ← hR, List.append_assoc, List.map_append]; rfl
  unfold Gis
  rw [gp_split l k hk, ← hB, gp_shift l B, hS, List.map_append, List.map_cons]
  constructor
  · rintro ⟨y, hy, he⟩
    rcases List.mem_append.1 hy with hy | hy
    · have h3 := (plc_bd _ _ y hy).2
      have h4 := gp_lt l y (by rw [gp_split l k hk]; exact List.mem_append_left _ hy)
      rw [pcl_all gc _ _ (Nat.le_refl _), Nat.zero_add] at h3
      have h5 : psm ((rl l).take (gsu l k)) = B := hB.symm
      omega
    · rcases List.mem_append.1 hy with hy | hy
      · obtain ⟨z0, hz0, rfl⟩ := List.mem_map.1 hy
        obtain ⟨z, hz, rfl⟩ := List.mem_map.1 hz0
        have := h1 z hz
        have := z.lt
        simp only [] at he
        omega
      · rcases List.mem_cons.1 hy with rfl | hy
        · exact he
        · obtain ⟨z, hz, rfl⟩ := List.mem_map.1 hy
          have := plc_next _ _ _ _ _ hS z hz
          simp only [] at he
          omega
  · intro he
    exact ⟨(B + x.v.1, B + x.v.2), List.mem_append_right _ (List.mem_append_right _ (List.mem_cons_self ..)), he⟩
end Go.Proofs.YtffbdnlfknomnaaDoor.Wt
