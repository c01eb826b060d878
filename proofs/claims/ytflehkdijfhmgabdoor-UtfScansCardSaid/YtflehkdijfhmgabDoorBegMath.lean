/- What scan finds first and what Decode finds first are one; where scan finds none, what is there is a sequence cut off. In numbers. -/
import Derived.Test.YtflehkdijfhmgabDoorMarks
namespace Go.Proofs.YtflehkdijfhmgabDoor

/-- The bytes of a text, as numbers. -/
def ib (l : List UInt8) : List Int := l.map fun b => (b.toNat : Int)
theorem ib_nil : ib [] = [] := rfl
theorem ib_cons (c : UInt8) (l : List UInt8) : ib (c :: l) = (c.toNat : Int) :: ib l := rfl
theorem ib_len (l : List UInt8) : (ib l).length = l.length := by simp [ib]
theorem ib_drop (l : List UInt8) (k : Nat) : (ib l).drop k = ib (l.drop k) := by simp [ib]
theorem ib_app (a b : List UInt8) : ib (a ++ b) = ib a ++ ib b := by simp [ib]

theorem ld_0 (c : Int) (h : c < 128) : ldMore c = 0 ∧ ldBits c = c := by unfold ldMore ldBits; omega
theorem ld_n (c : Int) (h : (128 ≤ c ∧ c < 194) ∨ 244 < c) : ldMore c = -1 := by unfold ldMore; omega
theorem ld_1 (c : Int) (h : 194 ≤ c) (h2 : c < 224) : ldMore c = 1 ∧ ldBits c = c % 32 ∧ ldLow c = 128 ∧ ldHigh c = 191 := by unfold ldMore ldBits ldLow ldHigh; omega
theorem ld_2 (c : Int) (h : 224 ≤ c) (h2 : c < 240) : ldMore c = 2 ∧ ldBits c = c % 16 := by unfold ldMore ldBits; omega
theorem ld_3 (c : Int) (h : 240 ≤ c) (h2 : c ≤ 244) : ldMore c = 3 ∧ ldBits c = c % 8 := by unfold ldMore ldBits; omega

/-- What is found first is what Decode finds. -/
def Ties (l : List UInt8) (o : Option (Nat × Int × Bool)) : Prop :=
  ∀ k q b, o = some (k, q, b) → dec l = (q.toNat, k) ∧ 0 ≤ q ∧ b = (decide (k = 1) && decide (q = 65533))
theorem ties_none (l : List UInt8) : Ties l none := fun _ _ _ h => by cases h
theorem ties_some (l : List UInt8) (k : Nat) (q : Int) (b : Bool) (h1 : dec l = (q.toNat, k)) (h2 : 0 ≤ q) (h3 : b = (decide (k = 1) && decide (q = 65533))) : Ties l (some (k, q, b)) := fun k' q' b' h => by
  cases h; exact ⟨h1, h2, h3⟩
theorem ties_bad (l : List UInt8) (h : dec l = (65533, 1)) : Ties l (some (1, 65533, true)) := ties_some l _ _ _ h (by omega) (by simp)

theorem dec_c (c : UInt8) (t : List UInt8) : dec (c :: t) = Lib.decodeN (t.length + 1) c.toNat (t.getD 0 0).toNat (t.getD 1 0).toNat (t.getD 2 0).toNat := by
  rw [dec_numbers (c :: t) (by simp)]; rfl

theorem frst_dec (l : List UInt8) : Ties l (frst (ib l)) := by
  cases l with
  | nil => exact ties_none _
  | cons c t =>
    rw [ib_cons, frst_cons]
    have hc := c.toNat_lt
    have hD := dec_c c t
    by_cases h0 : (c.toNat : Int) < 128
    · obtain ⟨e1, e2⟩ := ld_0 _ h0
      rw [e1, e2, if_neg (by omega)]
      refine ties_some _ _ _ _ ?_ (by omega) ?_
      · rw [hD]; unfold Lib.decodeN; rw [if_pos (by omega)]; simp
      · have : ¬ ((c.toNat : Int) = 65533) := by omega
        simp [this]
    by_cases hn : (128 ≤ (c.toNat : Int) ∧ (c.toNat : Int) < 194) ∨ 244 < (c.toNat : Int)
    · rw [ld_n _ hn, if_pos (by omega)]
      refine ties_bad _ ?_
      rw [hD]
      have g0 := (t.getD 0 0).toNat_lt
      have g1 := (t.getD 1 0).toNat_lt
      have g2 := (t.getD 2 0).toNat_lt
      generalize c.toNat = b0 at *
      generalize (t.getD 0 0).toNat = b1 at *
      generalize (t.getD 1 0).toNat = b2 at *
      generalize (t.getD 2 0).toNat = b3 at *
      unfold Lib.decodeN
      repeat' split
      all_goals first | rfl | (exfalso; omega)
    by_cases h1 : (c.toNat : Int) < 224
    · obtain ⟨e1, e2, e3, e4⟩ := ld_1 (c.toNat : Int) (by omega) h1
      rw [e1, e2, e3, e4, if_neg (by omega)]
      cases t with
      | nil => exact ties_none _
      | cons d t =>
        rw [ib_cons]
        have hd := d.toNat_lt
        simp only [List.getD_cons_zero, List.length_cons] at hD
        show Ties _ (if (d.toNat : Int) < 128 then _ else _)
        by_cases a1 : (d.toNat : Int) < 128
        · rw [if_pos a1]
          refine ties_bad _ ?_
          rw [hD]; unfold Lib.decodeN
          repeat' split
          all_goals first | rfl | (exfalso; omega)
        rw [if_neg a1]
        by_cases a2 : 191 < (d.toNat : Int)
        · rw [if_pos a2]
          refine ties_bad _ ?_
          rw [hD]; unfold Lib.decodeN
          repeat' split
          all_goals first | rfl | (exfalso; omega)
        rw [if_neg a2]
        refine ties_some _ _ _ _ ?_ (by omega) (by simp)
        rw [hD]; unfold Lib.decodeN
        rw [if_neg (by omega), if_pos (by omega), if_pos (by omega)]
        refine Prod.ext ?_ rfl
        dsimp only
        omega
    by_cases h2 : (c.toNat : Int) < 240
    · obtain ⟨e1, e2⟩ := ld_2 (c.toNat : Int) (by omega) h2
      rw [e1, e2, if_neg (by omega)]
      cases t with
      | nil => exact ties_none _
      | cons d t =>
        rw [ib_cons]
        have hd := d.toNat_lt
        simp only [List.getD_cons_zero, List.getD_cons_succ, List.length_cons] at hD
        show Ties _ (if (d.toNat : Int) < ldLow (c.toNat : Int) then _ else _)
        by_cases a1 : (d.toNat : Int) < ldLow (c.toNat : Int)
        · rw [if_pos a1]
          refine ties_bad _ ?_
          rw [hD]
          have g1 := (t.getD 0 0).toNat_lt
          have g2 := (t.getD 1 0).toNat_lt
          generalize c.toNat = b0 at *
          generalize d.toNat = b1 at *
          generalize (t.getD 0 0).toNat = b2 at *
          generalize (t.getD 1 0).toNat = b3 at *
          unfold ldLow at a1
          unfold Lib.decodeN
          repeat' split
          all_goals first | rfl | (exfalso; omega)
        rw [if_neg a1]
        by_cases a2 : ldHigh (c.toNat : Int) < (d.toNat : Int)
        · rw [if_pos a2]
          refine ties_bad _ ?_
          rw [hD]
          have g1 := (t.getD 0 0).toNat_lt
          have g2 := (t.getD 1 0).toNat_lt
          generalize c.toNat = b0 at *
          generalize d.toNat = b1 at *
          generalize (t.getD 0 0).toNat = b2 at *
          generalize (t.getD 1 0).toNat = b3 at *
          unfold ldHigh at a2
          unfold Lib.decodeN
          repeat' split
          all_goals first | rfl | (exfalso; omega)
        rw [if_neg a2]
        cases t with
        | nil => exact ties_none _
        | cons e t =>
          rw [ib_cons]
          have he := e.toNat_lt
          simp only [List.getD_cons_zero, List.getD_cons_succ, List.length_cons] at hD
          show Ties _ (if (e.toNat : Int) < 128 then _ else _)
          by_cases a3 : (e.toNat : Int) < 128
          · rw [if_pos a3]
            refine ties_bad _ ?_
            rw [hD]; unfold Lib.decodeN
            repeat' split
            all_goals first | rfl | (exfalso; omega)
          rw [if_neg a3]
          by_cases a4 : 191 < (e.toNat : Int)
          · rw [if_pos a4]
            refine ties_bad _ ?_
            rw [hD]; unfold Lib.decodeN
            repeat' split
            all_goals first | rfl | (exfalso; omega)
          rw [if_neg a4]
          refine ties_some _ _ _ _ ?_ (by omega) (by simp)
          rw [hD]
          unfold ldLow at a1
          unfold ldHigh at a2
          generalize c.toNat = b0 at *
          generalize d.toNat = b1 at *
          generalize e.toNat = b2 at *
          generalize (t.getD 0 0).toNat = b3 at *
          unfold Lib.decodeN
          rw [if_neg (by omega), if_neg (by omega), if_pos (by omega), if_pos (by omega)]
          refine Prod.ext ?_ rfl
          dsimp only
          omega
    · obtain ⟨e1, e2⟩ := ld_3 (c.toNat : Int) (by omega) (by omega)
      rw [e1, e2, if_neg (by omega)]
      cases t with
      | nil => exact ties_none _
      | cons d t =>
        rw [ib_cons]
        have hd := d.toNat_lt
        simp only [List.getD_cons_zero, List.getD_cons_succ, List.length_cons] at hD
        show Ties _ (if (d.toNat : Int) < ldLow (c.toNat : Int) then _ else _)
        by_cases a1 : (d.toNat : Int) < ldLow (c.toNat : Int)
        · rw [if_pos a1]
          refine ties_bad _ ?_
          rw [hD]
          have g1 := (t.getD 0 0).toNat_lt
          have g2 := (t.getD 1 0).toNat_lt
          generalize c.toNat = b0 at *
          generalize d.toNat = b1 at *
          generalize (t.getD 0 0).toNat = b2 at *
          generalize (t.getD 1 0).toNat = b3 at *
          unfold ldLow at a1
          unfold Lib.decodeN
          repeat' split
          all_goals first | rfl | (exfalso; omega)
        rw [if_neg a1]
        by_cases a2 : ldHigh (c.toNat : Int) < (d.toNat : Int)
        · rw [if_pos a2]
          refine ties_bad _ ?_
          rw [hD]
          have g1 := (t.getD 0 0).toNat_lt
          have g2 := (t.getD 1 0).toNat_lt
          generalize c.toNat = b0 at *
          generalize d.toNat = b1 at *
          generalize (t.getD 0 0).toNat = b2 at *
          generalize (t.getD 1 0).toNat = b3 at *
          unfold ldHigh at a2
          unfold Lib.decodeN
          repeat' split
          all_goals first | rfl | (exfalso; omega)
        rw [if_neg a2]
        cases t with
        | nil => exact ties_none _
        | cons e t =>
          rw [ib_cons]
          have he := e.toNat_lt
          simp only [List.getD_cons_zero, List.getD_cons_succ, List.length_cons] at hD
          show Ties _ (if (e.toNat : Int) < 128 then _ else _)
          by_cases a3 : (e.toNat : Int) < 128
          · rw [if_pos a3]
            refine ties_bad _ ?_
            rw [hD]; unfold Lib.decodeN
            repeat' split
            all_goals first | rfl | (exfalso; omega)
          rw [if_neg a3]
          by_cases a4 : 191 < (e.toNat : Int)
          · rw [if_pos a4]
            refine ties_bad _ ?_
            rw [hD]; unfold Lib.decodeN
            repeat' split
            all_goals first | rfl | (exfalso; omega)
          rw [if_neg a4]
          cases t with
          | nil => exact ties_none _
          | cons f t =>
            rw [ib_cons]
            have hf := f.toNat_lt
            simp only [List.getD_cons_zero, List.length_cons] at hD
            show Ties _ (if (f.toNat : Int) < 128 then _ else _)
            by_cases a5 : (f.toNat : Int) < 128
            · rw [if_pos a5]
              refine ties_bad _ ?_
              rw [hD]; unfold Lib.decodeN
              repeat' split
              all_goals first | rfl | (exfalso; omega)
            rw [if_neg a5]
            by_cases a6 : 191 < (f.toNat : Int)
            · rw [if_pos a6]
              refine ties_bad _ ?_
              rw [hD]; unfold Lib.decodeN
              repeat' split
              all_goals first | rfl | (exfalso; omega)
            rw [if_neg a6]
            refine ties_some _ _ _ _ ?_ (by omega) (by simp)
            rw [hD]
            unfold ldLow at a1
            unfold ldHigh at a2
            generalize c.toNat = b0 at *
            generalize d.toNat = b1 at *
            generalize e.toNat = b2 at *
            generalize f.toNat = b3 at *
            unfold Lib.decodeN
            rw [if_neg (by omega), if_neg (by omega), if_neg (by omega), if_pos (by omega), if_pos (by omega)]
            refine Prod.ext ?_ rfl
            dsimp only
            omega

theorem foll_app : ∀ (m n : Nat) (r lo hi : Int) (t u : List Int) (x : Nat × Int × Bool), foll n m r lo hi t = some x → foll n m r lo hi (t ++ u) = some x
  | 0, _, _, _, _, _, _, _, h => by unfold foll at h ⊢; exact h
  | _ + 1, _, _, _, _, [], _, _, h => by simp [foll] at h
  | m + 1, n, r, lo, hi, d :: t, u, x, h => by
    rw [List.cons_append]
    unfold foll at h ⊢
    split at h
    · rename_i a; rw [if_pos a]; exact h
    · rename_i a
      rw [if_neg a]
      split at h
      · rename_i b; rw [if_pos b]; exact h
      · rename_i b; rw [if_neg b]; exact foll_app m _ _ _ _ t u x h
theorem frst_app (bs u : List Int) (x : Nat × Int × Bool) (h : frst bs = some x) : frst (bs ++ u) = some x := by
  cases bs with
  | nil => simp [frst] at h
  | cons c t =>
    rw [List.cons_append, frst_cons]
    rw [frst_cons] at h
    split at h
    · rename_i a; rw [if_pos a]; exact h
    · rename_i a; rw [if_neg a]; exact foll_app _ _ _ _ _ _ _ _ h

/-- What was sure stays so, whatever follows. -/
theorem scu_app : ∀ (n : Nat) (base : Int) (bs ps : List Int), bs.length ≤ n →
    sc base (bs ++ ps) = ((sc base bs).1 ++ (sc (base + (sc base bs).2) (bs.drop (sc base bs).2 ++ ps)).1, (sc base bs).2 + (sc (base + (sc base bs).2) (bs.drop (sc base bs).2 ++ ps)).2)
  | 0, base, bs, ps, h => by
    have : bs = [] := List.length_eq_zero_iff.1 (by omega)
    subst this
    rw [sc_none base [] rfl]; simp
  | n + 1, base, bs, ps, h => by
    cases e : frst bs with
    | none => rw [sc_none base bs e]; simp
    | some x =>
      obtain ⟨k, q, b⟩ := x
      have hb := frst_bd bs k q b e
      have ih := scu_app n (base + k) (bs.drop k) ps (by simp; omega)
      have e1 := sc_some base bs k q b e
      have e2 := sc_some base (bs ++ ps) k q b (frst_app _ _ _ e)
      rw [List.drop_append_of_le_length hb.2] at e2
      rw [e2, ih, e1]
      simp only [List.drop_drop, Int.natCast_add, Int.add_assoc, List.cons_append, Nat.add_assoc]

theorem scu_le : ∀ (n : Nat) (base : Int) (bs : List Int), bs.length ≤ n → (sc base bs).2 ≤ bs.length ∧ (sc base bs).1.length ≤ (sc base bs).2
  | 0, base, bs, h => by
    have : bs = [] := List.length_eq_zero_iff.1 (by omega)
    subst this
    rw [sc_none base [] rfl]; simp
  | n + 1, base, bs, h => by
    cases e : frst bs with
    | none => rw [sc_none base bs e]; simp
    | some x =>
      obtain ⟨k, q, b⟩ := x
      have hb := frst_bd bs k q b e
      have ih := scu_le n (base + k) (bs.drop k) (by simp; omega)
      rw [sc_some base bs k q b e]
      simp only [List.length_drop, List.length_cons] at ih ⊢
      omega

/-- What is left over is no sure rune's. -/
theorem scu_rest : ∀ (n : Nat) (base : Int) (bs : List Int), bs.length ≤ n → frst (bs.drop (sc base bs).2) = none
  | 0, base, bs, h => by
    have : bs = [] := List.length_eq_zero_iff.1 (by omega)
    subst this
    rw [sc_none base [] rfl]; rfl
  | n + 1, base, bs, h => by
    cases e : frst bs with
    | none => rw [sc_none base bs e]; exact e
    | some x =>
      obtain ⟨k, q, b⟩ := x
      have hb := frst_bd bs k q b e
      have ih := scu_rest n (base + k) (bs.drop k) (by simp; omega)
      rw [sc_some base bs k q b e]
      simp only [List.drop_drop] at ih ⊢
      exact ih

theorem mk1_tie (t : Nat) (l : List UInt8) (k : Nat) (q : Int) (b : Bool) (h : frst (ib l) = some (k, q, b)) : mk1 t l = ⟨t, k, q, b⟩ ∧ (dec l).2 = k := by
  obtain ⟨h1, h2, h3⟩ := frst_dec l k q b h
  have e : ((q.toNat : Nat) : Int) = q := Int.toNat_of_nonneg h2
  refine ⟨?_, by rw [h1]⟩
  unfold mk1
  rw [h1, h3]
  simp only [e, Mk.mk.injEq, true_and]
  congr 1
  simp only [decide_eq_decide]
  omega

/-- The marks of a text: those that are sure, and those of what is left. -/
theorem mks_sc : ∀ (n t : Nat) (l : List UInt8), l.length ≤ n → mks t l = (sc t (ib l)).1 ++ mks (t + (sc t (ib l)).2) (l.drop (sc t (ib l)).2)
  | 0, t, l, h => by
    have : l = [] := List.length_eq_zero_iff.1 (by omega)
    subst this
    rw [ib_nil, sc_none _ [] rfl]; simp
  | n + 1, t, l, h => by
    cases e : frst (ib l) with
    | none => rw [sc_none _ _ e]; simp
    | some x =>
      obtain ⟨k, q, b⟩ := x
      have hb := frst_bd _ k q b e
      have hne : l ≠ [] := fun h0 => by subst h0; simp [ib_nil, frst] at e
      obtain ⟨m1, m2⟩ := mk1_tie t l k q b e
      rw [ib_len] at hb
      have ih := mks_sc n (t + k) (l.drop k) (by simp; omega)
      rw [mks_cons t l hne, m1, m2, ih, sc_some _ _ k q b e, ib_drop]
      simp only [List.drop_drop, Int.natCast_add, List.cons_append, Nat.add_assoc]

/-- Where nothing is sure: what stands there. -/
theorem none_cases (l : List UInt8) (h : frst (ib l) = none) : l = [] ∨ (∃ c, l = [c] ∧ 194 ≤ (c.toNat : Int) ∧ (c.toNat : Int) ≤ 244) ∨
    (∃ c d, l = [c, d] ∧ 224 ≤ (c.toNat : Int) ∧ (c.toNat : Int) ≤ 244 ∧ ldLow c.toNat ≤ (d.toNat : Int) ∧ (d.toNat : Int) ≤ ldHigh c.toNat) ∨
    (∃ c d e, l = [c, d, e] ∧ 240 ≤ (c.toNat : Int) ∧ (c.toNat : Int) ≤ 244 ∧ ldLow c.toNat ≤ (d.toNat : Int) ∧ (d.toNat : Int) ≤ ldHigh c.toNat ∧ 128 ≤ (e.toNat : Int) ∧ (e.toNat : Int) ≤ 191) := by
  cases l with
  | nil => exact .inl rfl
  | cons c t =>
    refine .inr ?_
    rw [ib_cons, frst_cons] at h
    by_cases h0 : (c.toNat : Int) < 128
    · obtain ⟨e1, e2⟩ := ld_0 _ h0
      rw [e1, if_neg (by omega)] at h
      cases h
    by_cases hn : (128 ≤ (c.toNat : Int) ∧ (c.toNat : Int) < 194) ∨ 244 < (c.toNat : Int)
    · rw [ld_n _ hn, if_pos (by omega)] at h
      cases h
    cases t with
    | nil => exact .inl ⟨c, rfl, by omega, by omega⟩
    | cons d t =>
      refine .inr ?_
      rw [ib_cons] at h
      by_cases h1 : (c.toNat : Int) < 224
      · obtain ⟨e1, e2, e3, e4⟩ := ld_1 (c.toNat : Int) (by omega) h1
        rw [e1, e3, e4, if_neg (by omega)] at h
        change (if (d.toNat : Int) < 128 then _ else _) = none at h
        split at h
        · cases h
        · split at h <;> cases h
      by_cases h2 : (c.toNat : Int) < 240
      · obtain ⟨e1, e2⟩ := ld_2 (c.toNat : Int) (by omega) h2
        rw [e1, if_neg (by omega)] at h
        change (if (d.toNat : Int) < ldLow (c.toNat : Int) then _ else _) = none at h
        split at h
        · cases h
        split at h
        · cases h
        cases t with
        | nil => exact .inl ⟨c, d, rfl, by omega, by omega, by omega, by omega⟩
        | cons e t =>
          rw [ib_cons] at h
          change (if (e.toNat : Int) < 128 then _ else _) = none at h
          split at h
          · cases h
          · split at h <;> cases h
      · obtain ⟨e1, e2⟩ := ld_3 (c.toNat : Int) (by omega) (by omega)
        rw [e1, if_neg (by omega)] at h
        change (if (d.toNat : Int) < ldLow (c.toNat : Int) then _ else _) = none at h
        split at h
        · cases h
        split at h
        · cases h
        cases t with
        | nil => exact .inl ⟨c, d, rfl, by omega, by omega, by omega, by omega⟩
        | cons e t =>
          rw [ib_cons] at h
          change (if (e.toNat : Int) < 128 then _ else _) = none at h
          split at h
          · cases h
          split at h
          · cases h
          cases t with
          | nil => exact .inr ⟨c, d, e, rfl, by omega, by omega, by omega, by omega, by omega, by omega⟩
          | cons f t =>
            rw [ib_cons] at h
            change (if (f.toNat : Int) < 128 then _ else _) = none at h
            split at h
            · cases h
            · split at h <;> cases h

theorem none_len (l : List UInt8) (h : frst (ib l) = none) : l.length ≤ 3 := by
  rcases none_cases l h with rfl | ⟨c, rfl, _⟩ | ⟨c, d, rfl, _⟩ | ⟨c, d, e, rfl, _⟩ <;> simp

/-- A byte that goes on begins no rune. -/
theorem dec_on (c : UInt8) (t : List UInt8) (h1 : 128 ≤ (c.toNat : Int)) (h2 : (c.toNat : Int) ≤ 191) : dec (c :: t) = (65533, 1) := by
  rw [dec_c]
  unfold Lib.decodeN
  repeat' split
  all_goals first | rfl | (exfalso; omega)
theorem lo_hi (c : Int) : 128 ≤ ldLow c ∧ ldHigh c ≤ 191 := ⟨(ldLow_bd c).1, (ldHigh_bd c).2⟩

/-- So many faults, from a place on. -/
def flts (t : Nat) : Nat → List Mk
  | 0 => []
  | n + 1 => ⟨t, 1, 65533, true⟩ :: flts (t + 1) n
theorem mks_bad (t : Nat) (c : UInt8) (l : List UInt8) (h : dec (c :: l) = (65533, 1)) : mks t (c :: l) = ⟨t, 1, 65533, true⟩ :: mks (t + 1) l := by
  rw [mks_cons t (c :: l) (by simp), h]
  unfold mk1
  rw [h]; rfl
/-- What is held is all faults. -/
theorem mks_none (t : Nat) (l : List UInt8) (h : frst (ib l) = none) : mks t l = flts t l.length := by
  rcases none_cases l h with rfl | ⟨c, rfl, h1, h2⟩ | ⟨c, d, rfl, h1, h2, h3, h4⟩ | ⟨c, d, e, rfl, h1, h2, h3, h4, h5, h6⟩
  · rfl
  · rw [mks_bad t c [] (by
      rw [dec_c]
      simp only [List.length_nil]
      unfold Lib.decodeN
      repeat' split
      all_goals first | rfl | (exfalso; omega))]; rfl
  · have := lo_hi c.toNat
    rw [mks_bad t c [d] (by
      rw [dec_c]
      simp only [List.length_cons, List.length_nil]
      unfold Lib.decodeN
      repeat' split
      all_goals first | rfl | (exfalso; omega)), mks_bad (t + 1) d [] (dec_on d [] (by omega) (by omega))]; rfl
  · have := lo_hi c.toNat
    rw [mks_bad t c [d, e] (by
      rw [dec_c]
      simp only [List.length_cons, List.length_nil]
      unfold Lib.decodeN
      repeat' split
      all_goals first | rfl | (exfalso; omega)), mks_bad (t + 1) d [e] (dec_on d [e] (by omega) (by omega)), mks_bad (t + 1 + 1) e [] (dec_on e [] (by omega) (by omega))]; rfl

/-- What the document tries: behind the bytes that are there, others that may follow. -/
def fill (k : Nat) : UInt8 := if k = 1 then 191 else 128
def tl (l : List UInt8) (n i k : Nat) : List UInt8 := if l.length = 1 then l ++ [UInt8.ofNat (128 + i)] ++ List.replicate (n - 2) (fill k) else l ++ List.replicate (n - l.length) (fill k)

theorem tl_form (l : List UInt8) (n i k : Nat) : ∃ u, tl l n i k = l ++ u := by
  unfold tl
  split
  · exact ⟨_, List.append_assoc _ _ _⟩
  · exact ⟨_, rfl⟩

theorem beg_no (l : List UInt8) (n i k : Nat) (x : Nat × Int × Bool) (h : frst (ib l) = some x) (hn : l.length < n) : (dec (tl l n i k)).2 ≠ n := by
  obtain ⟨u, hu⟩ := tl_form l n i k
  obtain ⟨w, q, b⟩ := x
  have hb := frst_bd _ w q b h
  have h2 : frst (ib (l ++ u)) = some (w, q, b) := by rw [ib_app]; exact frst_app _ _ _ h
  obtain ⟨h3, _, _⟩ := frst_dec (l ++ u) w q b h2
  rw [ib_len] at hb
  rw [hu, h3]
  simp only
  omega

theorem of128 (i : Nat) (h : i < 64) : (UInt8.ofNat (128 + i)).toNat = 128 + i := by simp; omega

theorem beg_yes (l : List UInt8) (n : Nat) (hne : l ≠ []) (h : frst (ib l) = none) (hn : rlN (byt l 0) = n) : l.length < n ∧ ∃ i, i < 64 ∧ (dec (tl l n i 0)).2 = n := by
  rcases none_cases l h with rfl | ⟨c, rfl, h1, h2⟩ | ⟨c, d, rfl, h1, h2, h3, h4⟩ | ⟨c, d, e, rfl, h1, h2, h3, h4, h5, h6⟩
  · exact absurd rfl hne
  · have hb : byt [c] 0 = c.toNat := rfl
    rw [hb] at hn
    by_cases a1 : (c.toNat : Int) < 224
    · have : n = 2 := by unfold rlN at hn; omega
      subst this
      refine ⟨by simp, 0, by omega, ?_⟩
      show (dec [c, UInt8.ofNat 128]).2 = 2
      rw [dec_c]
      simp only [List.getD_cons_zero, List.length_cons, List.length_nil, show (UInt8.ofNat 128).toNat = 128 from rfl]
      unfold Lib.decodeN
      rw [if_neg (by omega), if_pos (by omega), if_pos (by omega)]
    by_cases a2 : (c.toNat : Int) < 240
    · have : n = 3 := by unfold rlN at hn; omega
      subst this
      by_cases a3 : (c.toNat : Int) = 224
      · refine ⟨by simp, 32, by omega, ?_⟩
        show (dec [c, UInt8.ofNat 160, 128]).2 = 3
        rw [dec_c]
        simp only [List.getD_cons_zero, List.getD_cons_succ, List.length_cons, List.length_nil, show (UInt8.ofNat 160).toNat = 160 from rfl, show (128 : UInt8).toNat = 128 from rfl]
        unfold Lib.decodeN
        rw [if_neg (by omega), if_neg (by omega), if_pos (by omega), if_pos (by omega)]
      · refine ⟨by simp, 0, by omega, ?_⟩
        show (dec [c, UInt8.ofNat 128, 128]).2 = 3
        rw [dec_c]
        simp only [List.getD_cons_zero, List.getD_cons_succ, List.length_cons, List.length_nil, show (UInt8.ofNat 128).toNat = 128 from rfl, show (128 : UInt8).toNat = 128 from rfl]
        unfold Lib.decodeN
        rw [if_neg (by omega), if_neg (by omega), if_pos (by omega), if_pos (by omega)]
    · have : n = 4 := by unfold rlN at hn; omega
      subst this
      by_cases a3 : (c.toNat : Int) = 240
      · refine ⟨by simp, 16, by omega, ?_⟩
        show (dec [c, UInt8.ofNat 144, 128, 128]).2 = 4
        rw [dec_c]
        simp only [List.getD_cons_zero, List.getD_cons_succ, List.length_cons, List.length_nil, show (UInt8.ofNat 144).toNat = 144 from rfl, show (128 : UInt8).toNat = 128 from rfl]
        unfold Lib.decodeN
        rw [if_neg (by omega), if_neg (by omega), if_neg (by omega), if_pos (by omega), if_pos (by omega)]
      · refine ⟨by simp, 0, by omega, ?_⟩
        show (dec [c, UInt8.ofNat 128, 128, 128]).2 = 4
        rw [dec_c]
        simp only [List.getD_cons_zero, List.getD_cons_succ, List.length_cons, List.length_nil, show (UInt8.ofNat 128).toNat = 128 from rfl, show (128 : UInt8).toNat = 128 from rfl]
        unfold Lib.decodeN
        rw [if_neg (by omega), if_neg (by omega), if_neg (by omega), if_pos (by omega), if_pos (by omega)]
  · have hb : byt [c, d] 0 = c.toNat := rfl
    rw [hb] at hn
    unfold ldLow at h3
    unfold ldHigh at h4
    by_cases a2 : (c.toNat : Int) < 240
    · have : n = 3 := by unfold rlN at hn; omega
      subst this
      refine ⟨by simp, 0, by omega, ?_⟩
      show (dec [c, d, 128]).2 = 3
      rw [dec_c]
      simp only [List.getD_cons_zero, List.getD_cons_succ, List.length_cons, List.length_nil, show (128 : UInt8).toNat = 128 from rfl]
      unfold Lib.decodeN
      rw [if_neg (by omega), if_neg (by omega), if_pos (by omega), if_pos (by omega)]
    · have : n = 4 := by unfold rlN at hn; omega
      subst this
      refine ⟨by simp, 0, by omega, ?_⟩
      show (dec [c, d, 128, 128]).2 = 4
      rw [dec_c]
      simp only [List.getD_cons_zero, List.getD_cons_succ, List.length_cons, List.length_nil, show (128 : UInt8).toNat = 128 from rfl]
      unfold Lib.decodeN
      rw [if_neg (by omega), if_neg (by omega), if_neg (by omega), if_pos (by omega), if_pos (by omega)]
  · have hb : byt [c, d, e] 0 = c.toNat := rfl
    rw [hb] at hn
    unfold ldLow at h3
    unfold ldHigh at h4
    have : n = 4 := by unfold rlN at hn; omega
    subst this
    refine ⟨by simp, 0, by omega, ?_⟩
    show (dec [c, d, e, 128]).2 = 4
    rw [dec_c]
    simp only [List.getD_cons_zero, List.getD_cons_succ, List.length_cons, List.length_nil, show (128 : UInt8).toNat = 128 from rfl]
    unfold Lib.decodeN
    rw [if_neg (by omega), if_neg (by omega), if_neg (by omega), if_pos (by omega), if_pos (by omega)]
end Go.Proofs.YtflehkdijfhmgabDoor
