/- How a sentence that is not the last one ends (P13.5), said of the classes of its runes. -/
import Derived.Test.YtckifhlhechdlaaDoorSnEdge
import Derived.Test.YtckifhlhechdlaaDoorSnHas
namespace Go.Proofs.YtckifhlhechdlaaDoor

theorem all14 (p : Int → Prop) (h : ∀ n : Nat, n < 14 → p n) (c : Int) (hc : 0 ≤ c ∧ c ≤ 13) : p c := by
  obtain ⟨n, rfl⟩ : ∃ n : Nat, c = n := ⟨c.toNat, by omega⟩
  exact h n (by omega)
theorem sh14 (c : Int) (hc : 0 ≤ c ∧ c ≤ 13) : shas 14 c = true ↔ c = 1 ∨ c = 2 ∨ c = 3 := all14 (fun c => shas 14 c = true ↔ c = 1 ∨ c = 2 ∨ c = 3) (by decide) c hc
theorem shE (c : Int) (hc : 0 ≤ c ∧ c ≤ 13) : shas 8192 c = true ↔ c = 13 := all14 (fun c => shas 8192 c = true ↔ c = 13) (by decide) c hc
theorem shS (c : Int) (hc : 0 ≤ c ∧ c ≤ 13) : shas 8208 c = true ↔ c = 4 ∨ c = 13 := all14 (fun c => shas 8208 c = true ↔ c = 4 ∨ c = 13) (by decide) c hc
theorem shC (c : Int) (hc : 0 ≤ c ∧ c ≤ 13) : shas 10240 c = true ↔ c = 11 ∨ c = 13 := all14 (fun c => shas 10240 c = true ↔ c = 11 ∨ c = 13) (by decide) c hc
theorem shK (c : Int) (hc : 0 ≤ c ∧ c ≤ 13) : shas 10270 c = true ↔ c = 1 ∨ c = 2 ∨ c = 3 ∨ c = 4 ∨ c = 11 ∨ c = 13 := all14 (fun c => shas 10270 c = true ↔ c = 1 ∨ c = 2 ∨ c = 3 ∨ c = 4 ∨ c = 11 ∨ c = 13) (by decide) c hc
theorem shP (c : Int) (hc : 0 ≤ c ∧ c ≤ 13) : shas 13854 c = true ↔ c = 1 ∨ c = 2 ∨ c = 3 ∨ c = 4 ∨ c = 9 ∨ c = 10 ∨ c = 12 ∨ c = 13 := all14 (fun c => shas 13854 c = true ↔ c = 1 ∨ c = 2 ∨ c = 3 ∨ c = 4 ∨ c = 9 ∨ c = 10 ∨ c = 12 ∨ c = 13) (by decide) c hc
theorem dw_dw (f g : Int → Bool) : ∀ A : List Int, (∀ c ∈ A, f c = true → g c = true) → (A.dropWhile f).dropWhile g = A.dropWhile g
  | [], _ => rfl
  | c :: A, h => by
    cases hf : f c with
    | true =>
      rw [List.dropWhile_cons_of_pos hf, List.dropWhile_cons_of_pos (h c (by simp) hf)]
      exact dw_dw f g A (fun c hc => h c (by simp [hc]))
    | false => rw [List.dropWhile_cons_of_neg (by rw [hf]; simp)]
abbrev Cls (A : List Int) : Prop := ∀ c ∈ A, 0 ≤ c ∧ c ≤ 13
def d3 (A : List Int) : List Int := A.dropWhile (shas 10240)
def d2 (A : List Int) : List Int := (A.dropWhile (shas 8208)).dropWhile (shas 10240)
theorem mrk_d2 (A : List Int) (h : Cls A) : mrkR (A.dropWhile (shas 8192)) = (d2 A).headD 0 := by
  unfold mrkR d2
  rw [dw_dw (shas 8192) (shas 8208) A (fun c hc h1 => (shS c (h c hc)).2 (.inr ((shE c (h c hc)).1 h1)))]
theorem l3 (Q : List Int) (m : Int) (hm : m = 9 ∨ m = 10) : ∀ P : List Int, Cls P → (d3 (P ++ Q)).headD 0 = m → (P.dropWhile (shas 10270)).headD 0 = m ∨ ((∀ c ∈ P, shas 10240 c = true) ∧ (d3 Q).headD 0 = m)
  | [], _, h => .inr ⟨by simp, h⟩
  | c :: P, hP, h => by
    have hc := hP c (by simp)
    cases hk : shas 10240 c with
    | true =>
      have h1 : (d3 (P ++ Q)).headD 0 = m := by
        rw [← h]
        unfold d3
        rw [List.cons_append, List.dropWhile_cons_of_pos hk]
      have hkd : shas 10270 c = true := (shK c hc).2 (by have := (shC c hc).1 hk; omega)
      rw [List.dropWhile_cons_of_pos hkd]
      rcases l3 Q m hm P (fun x hx => hP x (by simp [hx])) h1 with h2 | ⟨h2, h3⟩
      · exact .inl h2
      · refine .inr ⟨fun x hx => ?_, h3⟩
        rcases List.mem_cons.1 hx with rfl | hx
        · exact hk
        · exact h2 x hx
    | false =>
      have h1 : c = m := by
        rw [← h]
        unfold d3
        rw [List.cons_append, List.dropWhile_cons_of_neg (by rw [hk]; simp), List.headD_cons]
      subst h1
      left
      rw [List.dropWhile_cons_of_neg (fun h2 => by have := (shK c hc).1 h2; omega), List.headD_cons]
theorem l2 (Q : List Int) (m : Int) (hm : m = 9 ∨ m = 10) : ∀ P : List Int, Cls P → (d2 (P ++ Q)).headD 0 = m → (P.dropWhile (shas 10270)).headD 0 = m ∨ ((∀ c ∈ P, shas 8208 c = true) ∧ (d2 Q).headD 0 = m) ∨ ((∀ c ∈ P, shas 8208 c = true ∨ shas 10240 c = true) ∧ (d3 Q).headD 0 = m)
  | [], _, h => .inr (.inl ⟨by simp, h⟩)
  | c :: P, hP, h => by
    have hc := hP c (by simp)
    cases hk : shas 8208 c with
    | true =>
      have h1 : (d2 (P ++ Q)).headD 0 = m := by
        rw [← h]
        unfold d2
        rw [List.cons_append, List.dropWhile_cons_of_pos hk]
      have hkd : shas 10270 c = true := (shK c hc).2 (by have := (shS c hc).1 hk; omega)
      rw [List.dropWhile_cons_of_pos hkd]
      rcases l2 Q m hm P (fun x hx => hP x (by simp [hx])) h1 with h2 | ⟨h2, h3⟩ | ⟨h2, h3⟩
      · exact .inl h2
      · refine .inr (.inl ⟨fun x hx => ?_, h3⟩)
        rcases List.mem_cons.1 hx with rfl | hx
        · exact hk
        · exact h2 x hx
      · refine .inr (.inr ⟨fun x hx => ?_, h3⟩)
        rcases List.mem_cons.1 hx with rfl | hx
        · exact .inl hk
        · exact h2 x hx
    | false =>
      have h1 : (d3 ((c :: P) ++ Q)).headD 0 = m := by
        rw [← h]
        unfold d2 d3
        rw [List.cons_append, List.dropWhile_cons_of_neg (p := shas 8208) (by rw [hk]; simp)]
      rcases l3 Q m hm (c :: P) hP h1 with h2 | ⟨h2, h3⟩
      · exact .inl h2
      · exact .inr (.inr ⟨fun x hx => .inr (h2 x hx), h3⟩)
theorem prt_mrk (A B : List Int) (h : prtR A B = true) : mrkR (A.dropWhile (shas 8192)) = 9 ∨ mrkR (A.dropWhile (shas 8192)) = 10 := by
  unfold prtR at h
  by_cases h1 : (B.headD 0 == 11 && (A.dropWhile (shas 8192)).headD 0 != 4) = true
  · rw [if_pos h1] at h; cases h
  rw [if_neg h1] at h
  by_cases h2 : ((A.dropWhile (shas 8192)).headD 0 == 9 && B.headD 0 == 8) = true
  · rw [if_pos h2] at h; cases h
  rw [if_neg h2] at h
  by_cases h3 : ((A.dropWhile (shas 8192)).headD 0 == 9 && B.headD 0 == 6 && csdR (A.dropWhile (shas 8192)).tail) = true
  · rw [if_pos h3] at h; cases h
  rw [if_neg h3] at h
  by_cases h4 : (mrkR (A.dropWhile (shas 8192)) == 10) = true
  · exact .inr (eq_of_beq h4)
  rw [if_neg h4] at h
  by_cases h5 : (mrkR (A.dropWhile (shas 8192)) == 9) = true
  · exact .inl (eq_of_beq h5)
  rw [if_neg h5] at h
  cases h
theorem prt_near (A B : List Int) (h : prtR A B = true) (hB : B.headD 0 = 11) : (A.dropWhile (shas 8192)).headD 0 = 4 := by
  unfold prtR at h
  by_cases h1 : (B.headD 0 == 11 && (A.dropWhile (shas 8192)).headD 0 != 4) = true
  · rw [if_pos h1] at h; cases h
  rw [hB, beq_self_eq_true, Bool.true_and] at h1
  simpa using h1
/-- What Kind answers. -/
def kndR (P : List Int) : Int := if (P.dropWhile (shas 10270)).headD 0 == 9 then 1 else if (P.dropWhile (shas 10270)).headD 0 == 10 then 2 else 0
theorem hd_bd {A : List Int} (h : Cls A) : 0 ≤ A.headD 0 ∧ A.headD 0 ≤ 13 := by
  cases A with
  | nil => decide
  | cons c A => exact h c (by simp)
theorem cls_take {C : List Int} (h : Cls C) (k : Nat) : Cls (C.take k).reverse := fun c hc => h c (List.mem_of_mem_take (List.mem_reverse.1 hc))
theorem parts_app (C : List Int) (i j : Nat) (hij : i ≤ j) : (C.take j).reverse = ((C.take j).drop i).reverse ++ (C.take i).reverse := by
  have h : (C.take j).take i = C.take i := by rw [List.take_take]; congr 1; omega
  rw [← List.reverse_append, ← h, List.take_append_drop]
theorem piece_head (C : List Int) (i j : Nat) (hij : i < j) (hj : j ≤ C.length) : (((C.take j).drop i).reverse).headD 0 = ((C.take j).reverse).headD 0 := by
  rw [parts_app C i j (Nat.le_of_lt hij)]
  cases h : ((C.take j).drop i).reverse with
  | nil =>
    have := congrArg List.length h
    simp at this
    omega
  | cons x r => rfl
theorem ends_well (C : List Int) (hC : Cls C) (i j : Nat) (hij : i < j) (hj : j < C.length) (hcj : cutR (C.take j).reverse (C.drop j) = true)
    (hci : i = 0 ∨ cutR (C.take i).reverse (C.drop i) = true) (hl : shas 14 ((((C.take j).drop i).reverse).headD 0) = false) : kndR ((C.take j).drop i).reverse ≠ 0 := by
  have hcA := cls_take hC j
  have hcQ := cls_take hC i
  rw [piece_head C i j hij (Nat.le_of_lt hj)] at hl
  -- the mark
  have hp : prtR (C.take j).reverse (C.drop j) = true := by
    unfold cutR at hcj
    by_cases h1 : (((C.take j).reverse.headD 0 == 1) && ((C.drop j).headD 0 == 2)) = true
    · rw [if_pos h1] at hcj; cases hcj
    rw [if_neg h1, if_neg (by rw [hl]; simp)] at hcj
    by_cases h2 : shas 13854 ((C.drop j).headD 0) = true
    · rw [if_pos h2] at hcj; cases hcj
    · rw [if_neg h2] at hcj; exact hcj
  obtain ⟨m, hm0⟩ : ∃ m, m = mrkR ((C.take j).reverse.dropWhile (shas 8192)) := ⟨_, rfl⟩
  have hm := prt_mrk _ _ hp
  rw [← hm0] at hm
  rw [mrk_d2 _ hcA, parts_app C i j (Nat.le_of_lt hij)] at hm0
  obtain ⟨P, hP⟩ : ∃ P, P = ((C.take j).drop i).reverse := ⟨_, rfl⟩
  obtain ⟨Q, hQ⟩ : ∃ Q, Q = (C.take i).reverse := ⟨_, rfl⟩
  have hcP : Cls P := fun c hc => by
    rw [hP] at hc
    exact hC c (List.mem_of_mem_take (List.mem_of_mem_drop (List.mem_reverse.1 hc)))
  rw [← hP] at hm0 ⊢
  rw [← hQ] at hm0 hcQ hci
  have good : (P.dropWhile (shas 10270)).headD 0 = m → kndR P ≠ 0 := fun h => by
    unfold kndR
    rw [h]
    rcases hm with rfl | rfl <;> decide
  rcases l2 Q m hm P hcP hm0.symm with h | ⟨h, h3⟩ | ⟨h, h3⟩
  · exact good h
  all_goals exfalso
  all_goals
    rcases hci with h0 | hci
    · subst h0
      have e : Q = [] := by rw [hQ]; rfl
      rw [e] at h3
      have e0 : (0 : Int) = m := h3
      omega
    -- the first of the piece
    obtain ⟨x, hx⟩ : ∃ x, x = (C.drop i).headD 0 := ⟨_, rfl⟩
    have hil : i < C.length := by omega
    have hxP : x ∈ P := by
      rw [hx, hP, List.mem_reverse, List.drop_eq_getElem_cons hil, List.headD_cons]
      have h4 : i < (C.take j).length := by rw [List.length_take]; omega
      rw [List.drop_eq_getElem_cons h4, List.getElem_take]
      simp
    have hxb := hcP x hxP
    have hyb := hd_bd hcQ
    unfold cutR at hci
    rw [← hx] at hci
    by_cases h1 : ((Q.headD 0 == 1) && (x == 2)) = true
    · rw [if_pos h1] at hci; cases hci
    rw [if_neg h1] at hci
    by_cases h2 : shas 14 (Q.headD 0) = true
    · have hy := (sh14 _ hyb).1 h2
      cases hq : Q with
      | nil => rw [hq] at hy; simp at hy
      | cons y R =>
        rw [hq] at hy hcQ h3
        rw [List.headD_cons] at hy
        have hb := hcQ y (by simp)
        have n1 : ¬ shas 8208 y = true := fun h5 => by have := (shS y hb).1 h5; omega
        have n2 : ¬ shas 10240 y = true := fun h5 => by have := (shC y hb).1 h5; omega
        first
        | (unfold d2 at h3; rw [List.dropWhile_cons_of_neg n1, List.dropWhile_cons_of_neg n2, List.headD_cons] at h3; omega)
        | (unfold d3 at h3; rw [List.dropWhile_cons_of_neg n2, List.headD_cons] at h3; omega)
    rw [if_neg h2] at hci
    by_cases h4 : shas 13854 x = true
    · rw [if_pos h4] at hci; cases hci
    rw [if_neg h4] at hci
    have hx11 : x = 11 := by
      have h5 := h x hxP
      have h6 : ¬ _ := fun h7 => h4 ((shP x hxb).2 h7)
      first
      | (have h7 := (shS x hxb).1 h5; omega)
      | (have h7 : x = 4 ∨ x = 13 ∨ x = 11 := h5.elim (fun h8 => by have := (shS x hxb).1 h8; omega) (fun h8 => by have := (shC x hxb).1 h8; omega); omega)
    first
    | (have h5 := (shS x hxb).1 (h x hxP); omega)
    | (have hn := prt_near _ _ hci (by rw [← hx]; exact hx11)
       unfold d3 at h3
       rw [← dw_dw (shas 8192) (shas 10240) Q (fun c hc h1 => (shC c (hcQ c hc)).2 (.inr ((shE c (hcQ c hc)).1 h1)))] at h3
       cases hq : Q.dropWhile (shas 8192) with
       | nil => rw [hq] at hn; cases hn
       | cons y R =>
         rw [hq, List.headD_cons] at hn
         subst hn
         rw [hq, List.dropWhile_cons_of_neg (by decide), List.headD_cons] at h3
         omega)
end Go.Proofs.YtckifhlhechdlaaDoor
