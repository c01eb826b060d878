/- For PropsBack: a line that Text prints is read as what it tells. -/
import Derived.Test.YtohhokjlgihbgaaGreatDoorEEvMath
import Derived.Test.YtohhokjlgihbgaaGreatDoorEText
import Derived.Test.YtohhokjlgihbgaaGreatDoorEReadMath
namespace Go.Proofs.YtohhokjlgihbgaaGreatDoor

theorem stp_one (l : List UInt8) (h : l.getD 0 0 ≠ 39) : stp l = 1 := by unfold stp; rw [if_neg (fun h5 => h h5.1)]
theorem fdF_at (c : UInt8) (l : List UInt8) (k : Nat) (hk : k ≤ l.length) (h : ∀ i, i < k → l.getD i 0 ≠ c ∧ l.getD i 0 ≠ 39) (he : k = l.length ∨ l.getD k 0 = c) : ∀ (f t : Nat), t ≤ k → k - t < f → fdF c l f t = k
  | 0, _, _, h2 => absurd h2 (by omega)
  | f + 1, t, h1, h2 => by
    show (if t < l.length ∧ l.getD t 0 ≠ c then fdF c l f (t + stp (l.drop t)) else t) = k
    by_cases ht : t = k
    · subst ht
      rw [if_neg (fun h5 => by rcases he with he | he; omega; exact h5.2 he)]
    · rw [if_pos ⟨by omega, (h t (by omega)).1⟩, stp_one (l.drop t) (by
        have h5 := (h t (by omega)).2
        simpa [List.getD_eq_getElem?_getD] using h5)]
      exact fdF_at c l k hk h he f (t + 1) (by omega) (by omega)
theorem fdp_none (c : UInt8) (l : List UInt8) (h : ∀ b ∈ l, b ≠ c ∧ b ≠ 39) : fdp c l = l.length :=
  fdF_at c l l.length (Nat.le_refl _) (fun i hi => by
    rw [List.getD_eq_getElem?_getD, List.getElem?_eq_getElem hi]
    exact h _ (List.getElem_mem hi)) (.inl rfl) _ 0 (Nat.zero_le _) (by omega)
theorem fdp_here (c : UInt8) (p r : List UInt8) (h : ∀ b ∈ p, b ≠ c ∧ b ≠ 39) : fdp c (p ++ c :: r) = p.length :=
  fdF_at c (p ++ c :: r) p.length (by simp) (fun i hi => by
    rw [List.getD_eq_getElem?_getD, List.getElem?_append_left hi, List.getElem?_eq_getElem hi]
    exact h _ (List.getElem_mem hi)) (.inr (by rw [List.getD_eq_getElem?_getD, List.getElem?_append_right (Nat.le_refl _), Nat.sub_self]; rfl)) _ 0 (Nat.zero_le _) (by simp; omega)
theorem dw_id (p : UInt8 → Bool) : ∀ l : List UInt8, (∀ b, l.head? = some b → p b = false) → l.dropWhile p = l
  | [], _ => rfl
  | b :: l, h => by rw [List.dropWhile_cons, if_neg (by rw [h b rfl]; decide)]
/-- No blank. -/
def Nb (b : UInt8) : Prop := b ≠ 32 ∧ b ≠ 9
theorem nb_no {b : UInt8} (h : Nb b) : ([32, 9] : List UInt8).contains b = false := by
  obtain ⟨h1, h2⟩ := h
  simp [h1, h2]
theorem tls_id (l : List UInt8) (h1 : ∀ b, l.head? = some b → Nb b) (h2 : ∀ b, l.getLast? = some b → Nb b) : tls l = l := by
  unfold tls Lib.trimS Lib.trimLeftS Lib.trimRightS
  rw [dw_id _ l.reverse (fun b hb => nb_no (h2 b (by rw [List.head?_reverse] at hb; exact hb))), List.reverse_reverse, dw_id _ l (fun b hb => nb_no (h1 b hb))]
theorem tls_32 (l : List UInt8) (hne : l ≠ []) (h1 : ∀ b, l.head? = some b → Nb b) (h2 : ∀ b, l.getLast? = some b → Nb b) : tls (32 :: l) = l := by
  unfold tls Lib.trimS Lib.trimLeftS Lib.trimRightS
  rw [dw_id _ (32 :: l).reverse (fun b hb => nb_no (h2 b (by rw [List.head?_reverse] at hb; cases l with | nil => exact absurd rfl hne | cons x l => rw [List.getLast?_cons_cons] at hb; exact hb))), List.reverse_reverse]
  rw [List.dropWhile_cons, if_pos (by decide), dw_id _ l (fun b hb => nb_no (h1 b hb))]
/-- What neither ends a line nor a remark nor a spelling. -/
def Pl (b : UInt8) : Prop := b ≠ 9 ∧ b ≠ 10 ∧ b ≠ 35 ∧ b ≠ 39 ∧ b ≠ 59
theorem pl_hx {b : UInt8} (h : isHx b = true) : Pl b := by
  have h5 := (isHx_iff b).1 h
  refine ⟨?_, ?_, ?_, ?_, ?_⟩ <;> (rintro rfl; revert h5; decide)
theorem cod_pl (n : Nat) : ∀ b ∈ cod n, Pl b := fun b hb => by
  unfold cod hex at hb
  rcases List.mem_append.1 hb with h | h
  · rcases List.mem_cons.1 h with rfl | h
    · unfold Pl; decide
    · rw [List.mem_singleton.1 h]; unfold Pl; decide
  · exact pl_hx (hxL_all _ _ b h)
theorem prI_pl (g : Rg) : ∀ b ∈ prI g, Pl b := fun b hb => by
  unfold prI at hb
  rcases List.mem_append.1 hb with h | h
  · exact cod_pl _ b h
  · split at h
    · cases h
    · rcases List.mem_cons.1 h with rfl | h
      · unfold Pl; decide
      · exact cod_pl _ b h
theorem prR_pl : ∀ (l : List Rg), ∀ b ∈ prR l, Pl b
  | [], b, hb => by cases hb
  | g :: l, b, hb => by
    rcases List.mem_cons.1 hb with rfl | hb
    · unfold Pl; decide
    · rcases List.mem_append.1 hb with h | h
      · exact prI_pl g b h
      · exact prR_pl l b h
theorem prt_pl (l : List Rg) : ∀ b ∈ prt l, Pl b := fun b hb => by
  cases l with
  | nil => cases hb
  | cons g l =>
    rw [prt_cons] at hb
    rcases List.mem_append.1 hb with h | h
    · exact prI_pl g b h
    · exact prR_pl l b h
theorem nam_parts (l : List UInt8) (h : nam l = true) : l ≠ [] ∧ l.length ≤ 32 ∧ ∀ b ∈ l, Pl b ∧ Nb b := by
  refine ⟨fun e => by rw [e] at h; revert h; decide, ?_, fun b hb => ?_⟩
  · apply Classical.byContradiction
    intro h5
    rw [nam_len l (.inr (by omega))] at h
    cases h
  · obtain ⟨i, hi⟩ := List.getElem?_of_mem hb
    have h5 : nat' i b.toNat = true := by
      apply Classical.byContradiction
      intro h6
      rw [nam_no l i b hi (by simpa using h6)] at h
      cases h
    have h7 : (65 ≤ b.toNat ∧ b.toNat ≤ 90) ∨ (97 ≤ b.toNat ∧ b.toNat ≤ 122) ∨ (0 < i ∧ 48 ≤ b.toNat ∧ b.toNat ≤ 57) ∨ (0 < i ∧ b.toNat = 95) := by
      apply Classical.byContradiction
      intro h8
      rw [nat_nope i b.toNat h8] at h5
      cases h5
    refine ⟨⟨?_, ?_, ?_, ?_, ?_⟩, ?_, ?_⟩ <;> (rintro rfl; revert h7; simp)
theorem prs_more2 : ∀ (l : List Rg) (p : List UInt8) (acc : List Rg) (T : List UInt8), okG l → T = p ++ (prR l ++ [32]) → Prs T p.length acc → par T = (nrm (acc ++ l), 0, 0)
  | [], p, acc, T, _, hT, hP => by
    rw [List.append_nil]
    have hlt : p.length < T.length := by rw [hT]; simp [prR]
    have hb : T.getD p.length 0 = 32 := by rw [hT, List.getD_eq_getElem?_getD, List.getElem?_append_right (Nat.le_refl _), Nat.sub_self]; rfl
    exact (hP.blank hlt hb).done (by rw [hT]; simp [prR])
  | g :: l, p, acc, T, ho, hT, hP => by
    obtain ⟨g0, g1, g2⟩ := ho g (by simp)
    have hT2 : T = (p ++ [32]) ++ (prI g ++ (prR l ++ [32])) := by rw [hT]; simp [prR]
    have hlt : p.length < T.length := by rw [hT]; simp [prR]
    have hb : T.getD p.length 0 = 32 := by rw [hT, List.getD_eq_getElem?_getD, List.getElem?_append_right (Nat.le_refl _), Nat.sub_self]; rfl
    have hP1 := hP.blank hlt hb
    have hl1 : (p ++ [32]).length = p.length + 1 := by simp
    have hq : ∀ c, (prR l ++ [32]).head? = some c → c = 32 := fun c hc => by
      cases l with
      | nil => cases hc; rfl
      | cons x l => cases hc; rfl
    have hi : itm T (p.length + 1) = (g, p.length + 1 + (prI g).length, 0) := by
      have h := itm_prI (p ++ [32]) (prR l ++ [32]) g g0 g1 g2 hq
      rw [← hT2, hl1] at h
      exact h
    have hpos : 0 < (prI g).length := List.length_pos_iff.2 (prI_ne g)
    have hlen : T.length = p.length + 1 + (prI g).length + ((prR l).length + 1) := by rw [hT2]; simp only [List.length_append, List.length_cons, List.length_nil]; omega
    have hne : T.getD (p.length + 1) 0 ≠ 32 := by
      rw [hT2, List.getD_eq_getElem?_getD, List.getElem?_append_right (by rw [hl1]; exact Nat.le_refl _), hl1, Nat.sub_self]
      show (85 : UInt8) ≠ 32
      decide
    have hP2 := hP1.more (by omega) hne (by rw [hi]) (by
      rw [hi]
      rintro ⟨h1, h2⟩
      apply h2
      have e3 : T = (p ++ ([32] ++ prI g)) ++ (prR l ++ [32]) := by rw [hT2]; simp
      have hl3 : (p ++ ([32] ++ prI g)).length = p.length + 1 + (prI g).length := by simp; omega
      dsimp only at h1 ⊢
      rw [e3, List.getD_eq_getElem?_getD, List.getElem?_append_right (by rw [hl3]; exact Nat.le_refl _), hl3, Nat.sub_self]
      cases l with
      | nil => rfl
      | cons x l => rfl)
    rw [hi] at hP2
    have hfin := prs_more2 l (p ++ ([32] ++ prI g)) (acc ++ [g]) T (fun x hx => ho x (by simp [hx])) (by rw [hT2]; simp) (by
      have hl3 : (p ++ ([32] ++ prI g)).length = p.length + 1 + (prI g).length := by simp; omega
      rw [hl3]; exact hP2)
    rw [hfin]
    simp
theorem par_prt2 (g : Rg) (l : List Rg) (h : nf (g :: l)) : par (prt (g :: l) ++ [32]) = (g :: l, 0, 0) := by
  have ho : okG (g :: l) := fun x hx => by
    obtain ⟨j, hj⟩ := List.getElem?_of_mem hx
    exact nf_at h hj
  have hn : nrm (g :: l) = g :: l := nrm_self _ h
  obtain ⟨T, hTd⟩ : ∃ T, T = prt (g :: l) ++ [32] := ⟨_, rfl⟩
  rw [← hTd]
  rw [prt_cons] at hTd
  obtain ⟨g0, g1, g2⟩ := ho g (by simp)
  have hq : ∀ c, (prR l ++ [32]).head? = some c → c = 32 := fun c hc => by
    cases l with
    | nil => cases hc; rfl
    | cons x l => cases hc; rfl
  have hT : T = prI g ++ (prR l ++ [32]) := by rw [hTd]; simp
  have hi : itm T 0 = (g, (prI g).length, 0) := by
    have h := itm_prI [] (prR l ++ [32]) g g0 g1 g2 hq
    rw [List.nil_append, ← hT] at h
    simpa using h
  have hpos : 0 < (prI g).length := List.length_pos_iff.2 (prI_ne g)
  have hlen : T.length = (prI g).length + ((prR l).length + 1) := by rw [hT]; simp
  have hne : T.getD 0 0 ≠ 32 := by
    rw [hT]
    show (85 : UInt8) ≠ 32
    decide
  have hP2 := (Prs.start T).more (by omega) hne (by rw [hi]) (by
    rw [hi]
    rintro ⟨h1, h2⟩
    apply h2
    dsimp only at h1 ⊢
    rw [hT, List.getD_eq_getElem?_getD, List.getElem?_append_right (Nat.le_refl _), Nat.sub_self]
    cases l with
    | nil => rfl
    | cons x l => rfl)
  rw [hi] at hP2
  have hfin := prs_more2 l (prI g) [g] T (fun x hx => ho x (by simp [hx])) hT hP2
  rw [hfin]
  simp [hn]
end Go.Proofs.YtohhokjlgihbgaaGreatDoor
