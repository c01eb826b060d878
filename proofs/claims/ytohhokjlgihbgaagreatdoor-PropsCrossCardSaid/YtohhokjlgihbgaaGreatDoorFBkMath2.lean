/- For PropsBack: a line that Text prints is read as what it tells. -/
import Derived.Test.YtohhokjlgihbgaaGreatDoorFEvMath
import Derived.Test.YtohhokjlgihbgaaGreatDoorFText
import Derived.Test.YtohhokjlgihbgaaGreatDoorFReadMath
namespace Go.Proofs.YtohhokjlgihbgaaGreatDoor

theorem stp_one (l : List UInt8) (h : l.getD 0 0 ≠ 39) : stp l = 1 := by unfold stp; rw [if_neg (fun h5 => h h5.1)]
theorem fdF_at (c : UInt8) (l : List UInt8) (k : Nat) (hk : k ≤ l.length) (h : ∀ i, i < k → l.getD i 0 ≠ c ∧ l.getD i 0 ≠ 39) (he : k = l.length ∨ l.getD k 0 = c) : ∀ (f t : Nat), t ≤ k → k - t < f → fdF c l f t = k
  | 0, _, _, h2 => absurd h2 (by omega)
  | f + 1, t, h1, h2 => by
    show (if t < l.length ∧ l.getD t 0 ≠ c then fdF c l f (t + stp (l.drop t)) else t) = k
    by_cases ht : t = k
    · subst ht
      rw [if_neg (fun h5 => by rcases he with he | he; omega; exact h5.2 he)]
    · rw [if_pos ⟨by omega, (h t (by omega)).1⟩, stp_one (l.drop t) (by
        have h5 := (h t (by omega)).2
        simpa [List.getD_eq_getElem?_getD] using h5)]
      exact fdF_at c l k hk h he f (t + 1) (by omega) (by omega)
theorem fdp_none (c : UInt8) (l : List UInt8) (h : ∀ b ∈ l, b ≠ c ∧ b ≠ 39) : fdp c l = l.length :=
  fdF_at c l l.length (Nat.le_refl _) (fun i hi => by
    rw [List.getD_eq_getElem?_getD, List.getElem?_eq_getElem hi]
    exact h _ (List.getElem_mem hi)) (.inl rfl) _ 0 (Nat.zero_le _) (by omega)
theorem fdp_here (c : UInt8) (p r : List UInt8) (h : ∀ b ∈ p, b ≠ c ∧ b ≠ 39) : fdp c (p ++ c :: r) = p.length :=
  fdF_at c (p ++ c :: r) p.length (by simp) (fun i hi => by
    rw [List.getD_eq_getElem?_getD, List.getElem?_append_left hi, List.getElem?_eq_getElem hi]
    exact h _ (List.getElem_mem hi)) (.inr (by rw [List.getD_eq_getElem?_getD, List.getElem?_append_right (Nat.le_refl _), Nat.sub_self]; rfl)) _ 0 (Nat.zero_le _) (by simp; omega)
theorem dw_id (p : UInt8 → Bool) : ∀ l : List UInt8, (∀ b, l.head? = some b → p b = false) → l.dropWhile p = l
  | [], _ => rfl
  | b :: l, h => by rw [List.dropWhile_cons, if_neg (by rw [h b rfl]; decide)]
/-- No blank. -/
def Nb (b : UInt8) : Prop := b ≠ 32 ∧ b ≠ 9
theorem nb_no {b : UInt8} (h : Nb b) : ([32, 9] : List UInt8).contains b = false := by
  obtain ⟨h1, h2⟩ := h
  simp [h1, h2]
theorem tls_id (l : List UInt8) (h1 : ∀ b, l.head? = some b → Nb b) (h2 : ∀ b, l.getLast? = some b → Nb b) : tls l = l := by
  unfold tls Lib.trimS Lib.trimLeftS Lib.trimRightS
  rw [dw_id _ l.reverse (fun b hb => nb_no (h2 b (by rw [List.head?_reverse] at hb; exact hb))), List.reverse_reverse, dw_id _ l (fun b hb => nb_no (h1 b hb))]
theorem tls_32 (l : List UInt8) (hne : l ≠ []) (h1 : ∀ b, l.head? = some b → Nb b) (h2 : ∀ b, l.getLast? = some b → Nb b) : tls (32 :: l) = l := by
  unfold tls Lib.trimS Lib.trimLeftS Lib.trimRightS
  rw [dw_id _ (32 :: l).reverse (fun b hb => nb_no (h2 b (by rw [List.head?_reverse] at hb; cases l with | nil => exact absurd rfl hne | cons x l => rw [List.getLast?_cons_cons] at hb; exact hb))), List.reverse_reverse]
  rw [List.dropWhile_cons, if_pos (by decide), dw_id _ l (fun b hb => nb_no (h1 b hb))]
/-- What neither ends a line nor a remark nor a spelling. -/
def Pl (b : UInt8) : Prop := b ≠ 9 ∧ b ≠ 10 ∧ b ≠ 35 ∧ b ≠ 39 ∧ b ≠ 59
theorem pl_hx {b : UInt8} (h : isHx b = true) : Pl b := by
  have h5 := (isHx_iff b).1 h
  refine ⟨?_, ?_, ?_, ?_, ?_⟩ <;> (rintro rfl; revert h5; decide)
theorem cod_pl (n : Nat) : ∀ b ∈ cod n, Pl b := fun b hb => by
  unfold cod hex at hb
  rcases List.mem_append.1 hb with h | h
  · rcases List.mem_cons.1 h with rfl | h
    · unfold Pl; decide
    · rw [List.mem_singleton.1 h]; unfold Pl; decide
  · exact pl_hx (hxL_all _ _ b h)
theorem prI_pl (g : Rg) : ∀ b ∈ prI g, Pl b := fun b hb => by
  unfold prI at hb
  rcases List.mem_append.1 hb with h | h
  · exact cod_pl _ b h
  · split at h
    · cases h
    · rcases List.mem_cons.1 h with rfl | h
      · unfold Pl; decide
      · exact cod_pl _ b h
theorem prR_pl : ∀ (l : List Rg), ∀ b ∈ prR l, Pl b
  | [], b, hb => by cases hb
  | g :: l, b, hb => by
    rcases List.mem_cons.1 hb with rfl | hb
    · unfold Pl; decide
    · rcases List.mem_append.1 hb with h | h
      · exact prI_pl g b h
      · exact prR_pl l b h
theorem prt_pl (l : List Rg) : ∀ b ∈ prt l, Pl b := fun b hb => by
  cases l with
  | nil => cases hb
  | cons g l =>
    rw [prt_cons] at hb
    rcases List.mem_append.1 hb with h | h
    · exact prI_pl g b h
    · exact prR_pl l b h
theorem nam_parts (l : List UInt8) (h : nam l = true) : l ≠ [] ∧ l.length ≤ 32 ∧ ∀ b ∈ l, Pl b ∧ Nb b := by
  refine ⟨fun e => by rw [e] at h; revert h; decide, ?_, fun b hb => ?_⟩
  · apply Classical.byContradiction
    intro h5
    rw [nam_len l (.inr (by omega))] at h
    cases h
  · obtain ⟨i, hi⟩ := List.getElem?_of_mem hb
    have h5 : nat' i b.toNat = true := by
      apply Classical.byContradiction
      intro h6
      rw [nam_no l i b hi (by simpa using h6)] at h
      cases h
    have h7 : (65 ≤ b.toNat ∧ b.toNat ≤ 90) ∨ (97 ≤ b.toNat ∧ b.toNat ≤ 122) ∨ (0 < i ∧ 48 ≤ b.toNat ∧ b.toNat ≤ 57) ∨ (0 < i ∧ b.toNat = 95) := by
      apply Classical.byContradiction
      intro h8
      rw [nat_nope i b.toNat h8] at h5
      cases h5
    refine ⟨⟨?_, ?_, ?_, ?_, ?_⟩, ?_, ?_⟩ <;> (rintro rfl; revert h7; simp)
theorem prs_more2 : ∀ (l : List Rg) (p : List UInt8) (acc : List Rg) (T : List UInt8), okG l → T = p ++ (prR l ++ [32]) → Prs T p.length acc → par T = (nrm (acc ++ l), 0, 0)
  | [], p, acc, T, _, hT, hP => by
    rw [List.append_nil]
    have hlt : p.length < T.length := by rw [hT]; simp [prR]
    have hb : T.getD p.length 0 = 32 := by rw [hT, List.getD_eq_getElem?_getD, List.getElem?_append_right (Nat.le_refl _), Nat.sub_self]; rfl
    exact (hP.blank hlt hb).done (by rw [hT]; simp [prR])
  | g :: l, p, acc, T, ho, hT, hP => by
    obtain ⟨g0, g1, g2⟩ := ho g (by simp)
    have hT2 : T = (p ++ [32]) ++ (prI g ++ (prR l ++ [32])) := by rw [hT]; simp [prR]
    have hlt : p.length < T.length := by rw [hT]; simp [prR]
    have hb : T.getD p.length 0 = 32 := by rw [hT, List.getD_eq_getElem?_getD, List.getElem?_append_right (Nat.le_refl _), Nat.sub_self]; rfl
    have hP1 := hP.blank hlt hb
    have hl1 : (p ++ [32]).length = p.length + 1 := by simp
    have hq : ∀ c, (prR l ++ [32]).head? = some c → c = 32 := fun c hc => by
      cases l with
      | nil => cases hc; rfl
      | cons x l => cases hc; rfl
    have hi : itm T (p.length + 1) = (g, p.length + 1 + (prI g).length, 0) := by
      have h := itm_prI (p ++ [32]) (prR l ++ [32]) g g0 g1 g2 hq
      rw [← hT2, hl1] at h
      exact h
    have hpos : 0 < (prI g).length := List.length_pos_iff.2 (prI_ne g)
    have hlen : T.length = p.length + 1 + (prI g).length + ((prR l).length + 1) := by rw [hT2]; simp only [List.length_append, List.length_cons, List.length_nil]; omega
    have hne : T.getD (p.length + 1) 0 ≠ 32 := by
      rw [hT2, List.getD_eq_getElem?_getD, List.getElem?_append_right (by rw [hl1]; exact Nat.le_refl _), hl1, Nat.sub_self]
      show (85 : UInt8) ≠ 32
      decide
    have hP2 := hP1.more (by omega) hne (by rw [hi]) (by
      rw [hi]
      rintro ⟨h1, h2⟩
      apply h2
      have e3 : T = (p ++ ([32] ++ prI g)) ++ (prR l ++ [32]) := by rw [hT2]; simp
      have hl3 : (p ++ ([32] ++ prI g)).length = p.length + 1 + (prI g).length := by simp; omega
      dsimp only at h1 ⊢
      rw [e3, List.getD_eq_getElem?_getD, List.getElem?_append_right (by rw [hl3]; exact Nat.le_refl _), hl3, Nat.sub_self]
      cases l with
      | nil => rfl
      | cons x l => rfl)
    rw [hi] at hP2
    have hfin := prs_more2 l (p ++ ([32] ++ prI g)) (acc ++ [g]) T (fun x hx => ho x (by simp [hx])) (by rw [hT2]; simp) (by
      have hl3 : (p ++ ([32] ++ prI g)).length = p.length + 1 + (prI g).length := by simp; omega
      rw [hl3]; exact hP2)
    rw [hfin]
    simp
theorem par_prt2 (g : Rg) (l : List Rg) (h : nf (g :: l)) : par (prt (g :: l) ++ [32]) = (g :: l, 0, 0) := by
  have ho : okG (g :: l) := fun x hx => by
    obtain ⟨j, hj⟩ := List.getElem?_of_mem hx
    exact nf_at h hj
  have hn : nrm (g :: l) = g :: l := nrm_self _ h
  obtain ⟨T, hTd⟩ : ∃ T, T = prt (g :: l) ++ [32] := ⟨_, rfl⟩
  rw [← hTd]
  rw [prt_cons] at hTd
  obtain ⟨g0, g1, g2⟩ := ho g (by simp)
  have hq : ∀ c, (prR l ++ [32]).head? = some c → c = 32 := fun c hc => by
    cases l with
    | nil => cases hc; rfl
    | cons x l => cases hc; rfl
  have hT : T = prI g ++ (prR l ++ [32]) := by rw [hTd]; simp
  have hi : itm T 0 = (g, (prI g).length, 0) := by
    have h := itm_prI [] (prR l ++ [32]) g g0 g1 g2 hq
    rw [List.nil_append, ← hT] at h
    simpa using h
  have hpos : 0 < (prI g).length := List.length_pos_iff.2 (prI_ne g)
  have hlen : T.length = (prI g).length + ((prR l).length + 1) := by rw [hT]; simp
  have hne : T.getD 0 0 ≠ 32 := by
    rw [hT]
    show (85 : UInt8) ≠ 32
    decide
  have hP2 := (Prs.start T).more (by omega) hne (by rw [hi]) (by
    rw [hi]
    rintro ⟨h1, h2⟩
    apply h2
    dsimp only at h1 ⊢
    rw [hT, List.getD_eq_getElem?_getD, List.getElem?_append_right (Nat.le_refl _), Nat.sub_self]
    cases l with
    | nil => rfl
    | cons x l => rfl)
  rw [hi] at hP2
  have hfin := prs_more2 l (prI g) [g] T (fun x hx => ho x (by simp [hx])) hT hP2
  rw [hfin]
  simp [hn]
end Go.Proofs.YtohhokjlgihbgaaGreatDoor
/- For PropsBack: the text of a database is read as the same names and the same ranges. -/
namespace Go.Proofs.YtohhokjlgihbgaaGreatDoor

/-- What a class's line has ahead of its ; . -/
def hd1 (A : List Tr) (c : Nat) : List UInt8 := if stc (c : Int) A = [] then [] else prt (nrm (stc (c : Int) A)) ++ [32]
def ln1 (A : List Tr) (c : Nat) (b : List UInt8) : List UInt8 := hd1 A c ++ 59 :: 32 :: b
theorem tx1_ln (A : List Tr) (c : Nat) (b : List UInt8) (hc : 0 < c) (r : List UInt8) : tx1 A c b ++ r = ln1 A c b ++ 10 :: r := by
  unfold tx1 ln1 hd1
  rw [if_neg (by omega)]
  simp
theorem hd1_pl (A : List Tr) (c : Nat) : ∀ b ∈ hd1 A c, Pl b := fun b hb => by
  unfold hd1 at hb
  split at hb
  · cases hb
  · rcases List.mem_append.1 hb with h | h
    · exact prt_pl _ b h
    · rw [List.mem_singleton.1 h]; unfold Pl; decide
theorem hd1_tbl (A : List Tr) (c : Nat) : (hd1 A c).map tbl = hd1 A c := by
  have h : ∀ l : List UInt8, (∀ b ∈ l, Pl b) → l.map tbl = l := fun l hl => by
    conv => rhs; rw [← List.map_id l]
    exact List.map_congr_left fun b hb => by unfold tbl; rw [if_neg (hl b hb).1]; rfl
  exact h _ (hd1_pl A c)
theorem hd1_par (A : List Tr) (c : Nat) (hn : nf (stc (c : Int) A)) : par (hd1 A c) = (stc (c : Int) A, 0, 0) := by
  unfold hd1
  rw [nrm_self _ hn]
  split
  · rename_i h; rw [h]; rfl
  · rename_i h
    cases hs : stc (c : Int) A with
    | nil => exact absurd hs h
    | cons g l => rw [hs] at hn; exact par_prt2 g l hn
theorem hd1_head (A : List Tr) (c : Nat) (hn : nf (stc (c : Int) A)) : ∀ b, (hd1 A c).head? = some b → b = 85 := fun b hb => by
  unfold hd1 at hb
  rw [nrm_self _ hn] at hb
  split at hb
  · cases hb
  · rename_i h
    cases hs : stc (c : Int) A with
    | nil => exact absurd hs h
    | cons g l =>
      rw [hs, prt_cons] at hb
      unfold prI cod at hb
      simpa using hb.symm
theorem ln1_pl (A : List Tr) (c : Nat) (b : List UInt8) (hb : nam b = true) : ∀ x ∈ ln1 A c b, x ≠ 10 ∧ x ≠ 35 ∧ x ≠ 39 := fun x hx => by
  obtain ⟨_, _, n3⟩ := nam_parts b hb
  unfold ln1 at hx
  rcases List.mem_append.1 hx with h | h
  · have h5 := hd1_pl A c x h; exact ⟨h5.2.1, h5.2.2.1, h5.2.2.2.1⟩
  · rcases List.mem_cons.1 h with rfl | h
    · decide
    · rcases List.mem_cons.1 h with rfl | h
      · decide
      · have h5 := (n3 x h).1; exact ⟨h5.2.1, h5.2.2.1, h5.2.2.2.1⟩
theorem ln1_rlin (A : List Tr) (c : Nat) (b : List UInt8) (hb : nam b = true) (hn : nf (stc (c : Int) A)) : rlin (ln1 A c b) = ln1 A c b := by
  obtain ⟨n1, _, n3⟩ := nam_parts b hb
  unfold rlin
  rw [fdp_none 35 _ (fun x hx => (ln1_pl A c b hb x hx).2), List.take_length]
  refine tls_id _ (fun x hx => ?_) (fun x hx => ?_)
  · unfold ln1 at hx
    rw [List.head?_append] at hx
    cases h5 : (hd1 A c).head? with
    | none =>
      rw [h5] at hx
      simp at hx
      rw [← hx]; unfold Nb; decide
    | some y =>
      rw [h5] at hx
      simp at hx
      rw [← hx, hd1_head A c hn y h5]; unfold Nb; decide
  · have e : ln1 A c b = (hd1 A c ++ [59, 32]) ++ b := by unfold ln1; simp
    rw [e, List.getLast?_append] at hx
    cases h5 : b.getLast? with
    | none => exact absurd (List.getLast?_eq_none_iff.1 h5) n1
    | some y =>
      rw [h5] at hx
      simp at hx
      rw [← hx]
      exact (n3 y (List.mem_of_getLast? h5)).2
theorem rdS_line (A : List Tr) (c : Nat) (b : List UInt8) (Uc : List (List UInt8)) (hA : Cov 0 A 1114112) (ha : Alt A) (hc : 0 < c) (hc4 : c < 64) (hU : Uc.length = c) (hm : b ∉ Uc) (hb : nam b = true) (ho : b ≠ oth) :
    rdS Uc (blw c A) (ln1 A c b) = (0, Uc ++ [b], blw (c + 1) A) := by
  have hn : nf (stc (c : Int) A) := (nf_stc A 0 1114112 (c : Int) hA ha (by omega)).1
  obtain ⟨n1, _, n3⟩ := nam_parts b hb
  have e0 := ln1_rlin A c b hb hn
  have e1 : fdp 59 (ln1 A c b) = (hd1 A c).length := fdp_here 59 (hd1 A c) (32 :: b) (fun x hx => ⟨(hd1_pl A c x hx).2.2.2.2, (hd1_pl A c x hx).2.2.2.1⟩)
  have e2 : rnm (ln1 A c b) = b := by
    unfold rnm
    rw [e1]
    have e3 : (ln1 A c b).drop ((hd1 A c).length + 1) = 32 :: b := by
      unfold ln1
      rw [List.drop_append]
      simp
    rw [e3]
    exact tls_32 b n1 (fun x hx => (n3 x (List.mem_of_mem_head? (by rw [hx]; rfl))).2) (fun x hx => (n3 x (List.mem_of_getLast? hx)).2)
  have e4 : rsp (ln1 A c b) = hd1 A c := by
    unfold rsp
    rw [e1, show (ln1 A c b).take (hd1 A c).length = hd1 A c by unfold ln1; simp, hd1_tbl]
  have e5 := hd1_par A c hn
  have e6 : adn b Uc = (Uc ++ [b], c) := by unfold adn; rw [if_neg hm, hU]
  have e7 := sayL_ins c hc A [] 0 1114112 hA (fun _ h => by cases h)
  rw [List.nil_append, List.nil_append] at e7
  unfold rdS
  rw [e0, if_neg (by unfold ln1; simp), e1, if_neg (by unfold ln1; simp), e2, if_neg (by rw [hb]; simp [ho]), e4, e5]
  dsimp only
  rw [if_neg (by simp), e6]
  dsimp only
  rw [if_neg (by omega), e7]
/-- The lines of the classes below k. -/
def lnL (A : List Tr) (U : List (List UInt8)) : Nat → List (List UInt8)
  | 0 => []
  | k + 1 => lnL A U k ++ if k = 0 then [] else [ln1 A k (U.getD k [])]
theorem lns_tx4 (A : List Tr) (U : List (List UInt8)) (hU : ∀ b ∈ U, nam b = true) : ∀ (k : Nat) (r : List UInt8), k ≤ U.length → lns (tx4 A U k ++ r) = lnL A U k ++ lns r
  | 0, r, _ => rfl
  | k + 1, r, hk => by
    show lns (tx4 A U k ++ tx1 A k (U.getD k []) ++ r) = (lnL A U k ++ if k = 0 then [] else [ln1 A k (U.getD k [])]) ++ lns r
    rw [List.append_assoc, lns_tx4 A U hU k _ (by omega)]
    by_cases h0 : k = 0
    · subst h0
      rw [if_pos rfl, List.append_nil]
      unfold tx1
      rw [if_pos rfl, List.nil_append]
    · rw [if_neg h0, tx1_ln A k _ (by omega) r, lns_at (ln1 A k (U.getD k [])) r (fun h => (ln1_pl A k _ (hU _ (by
        rw [List.getD_eq_getElem?_getD, List.getElem?_eq_getElem (by omega : k < U.length)]
        exact List.getElem_mem _)) 10 h).1 rfl)]
      simp
theorem nwF_lnL (A : List Tr) (U : List (List UInt8)) (hA : Cov 0 A 1114112) (ha : Alt A) (h0 : U[0]? = some oth) (hU : ∀ b ∈ U, nam b = true) (hnd : U.Nodup) (hl : U.length ≤ 64) : ∀ (k : Nat), k + 1 ≤ U.length → ∀ (L : List (List UInt8)), nwF 0 [oth] [] (lnL A U (k + 1) ++ L) = nwF k (U.take (k + 1)) (blw (k + 1) A) L
  | 0, hk, L => by
    have e : U.take 1 = [oth] := by
      cases U with
      | nil => cases h0
      | cons x U => injection h0 with h0; rw [h0]; rfl
    rw [e, blw_one]
    rfl
  | k + 1, hk, L => by
    show nwF 0 [oth] [] ((lnL A U (k + 1) ++ if k + 1 = 0 then [] else [ln1 A (k + 1) (U.getD (k + 1) [])]) ++ L) = _
    rw [if_neg (by omega), List.append_assoc, nwF_lnL A U hA ha h0 hU hnd hl k (by omega)]
    have e : U.getD (k + 1) [] = U[k + 1] := by rw [List.getD_eq_getElem?_getD, List.getElem?_eq_getElem (by omega : k + 1 < U.length)]; rfl
    have et : U.take (k + 1 + 1) = U.take (k + 1) ++ [U[k + 1]] := List.take_succ_eq_append_getElem (by omega)
    have hm : U[k + 1] ∉ U.take (k + 1) := fun h => by
      have h5 : (U.take (k + 1 + 1)).Nodup := hnd.sublist (List.take_sublist _ _)
      rw [et, List.nodup_append] at h5
      exact h5.2.2 _ h _ (List.mem_singleton.2 rfl) rfl
    have hoth : U[k + 1] ≠ oth := fun h => hm (by
      rw [h]
      cases U with
      | nil => cases h0
      | cons x U => injection h0 with h0; rw [h0]; exact List.mem_cons_self ..)
    rw [e]
    show nwF k (U.take (k + 1)) (blw (k + 1) A) (ln1 A (k + 1) U[k + 1] :: L) = _
    have er := rdS_line A (k + 1) U[k + 1] (U.take (k + 1)) hA ha (by omega) (by omega) (by rw [List.length_take]; omega) hm (hU _ (List.getElem_mem _)) hoth
    rw [et]
    show (if (rdS (U.take (k + 1)) (blw (k + 1) A) (ln1 A (k + 1) U[k + 1])).1 = 0 then nwF (k + 1) (rdS (U.take (k + 1)) (blw (k + 1) A) (ln1 A (k + 1) U[k + 1])).2.1 (rdS (U.take (k + 1)) (blw (k + 1) A) (ln1 A (k + 1) U[k + 1])).2.2 L else _) = _
    rw [er, if_pos rfl]
theorem nw_tx4 (A : List Tr) (U : List (List UInt8)) (hA : Cov 0 A 1114112) (ha : Alt A) (hc : ∀ g ∈ A, g.2.2 < U.length) (h0 : U[0]? = some oth) (hU : ∀ b ∈ U, nam b = true) (hnd : U.Nodup) (hl : U.length ≤ 64) (ht : (tx4 A U U.length).length ≤ 65536) :
    nw (tx4 A U U.length) = ((0, 0), U, rgd A) := by
  have hp : 0 < U.length := (List.getElem?_eq_some_iff.1 h0).1
  obtain ⟨k, hk⟩ : ∃ k, U.length = k + 1 := ⟨U.length - 1, by omega⟩
  unfold nw
  rw [if_neg (by omega), ← List.append_nil (tx4 A U U.length), lns_tx4 A U hU _ _ (Nat.le_refl _), hk, nwF_lnL A U hA ha h0 hU hnd hl k (by omega), ← hk, List.take_length, hk, ← hk, blw_all A U.length hc]
  rfl
end Go.Proofs.YtohhokjlgihbgaaGreatDoor
/- For PropsBack: what New takes has names that are names; how long the text of what it makes is at most. -/
namespace Go.Proofs.YtohhokjlgihbgaaGreatDoor

theorem spl3 (l : List UInt8) (p : Nat) (h : (spl l p).2.2 = 0) : p + 3 ≤ (spl l p).2.1 := by
  unfold spl at h ⊢
  split
  · rename_i c1
    rw [if_pos c1] at h
    unfold cdd at h ⊢
    split
    · rename_i c2; rw [if_pos c2] at h; cases h
    · rename_i c2
      rw [if_neg c2] at h
      split
      · rename_i c3; rw [if_pos c3] at h; cases h
      · show p + 3 ≤ p + 2 + hxn l (p + 2)
        omega
  · rename_i c1
    rw [if_neg c1] at h
    split
    · rename_i c2
      rw [if_pos c2] at h
      unfold qtd at h ⊢
      split
      · rename_i c3; rw [if_pos c3] at h; cases h
      · rename_i c3
        rw [if_neg c3] at h
        split
        · rename_i c4; rw [if_pos c4] at h; cases h
        · show p + 3 ≤ p + 1 + (dec (l.drop (p + 1))).2 + 1
          omega
    · rename_i c2; rw [if_neg c2] at h; cases h
theorem itm3 (l : List UInt8) (p : Nat) (h : (itm l p).2.2 = 0) : p + 3 ≤ (itm l p).2.1 := by
  unfold itm itmF at h ⊢
  split
  · rename_i c1; rw [if_pos c1] at h; exact absurd h c1
  · rename_i c1
    rw [if_neg c1] at h
    have s1 := spl3 l p (by simpa using c1)
    split
    · exact s1
    · rename_i c2
      rw [if_neg c2] at h
      split
      · rename_i c3; rw [if_pos c3] at h; exact absurd h c3
      · rename_i c3
        rw [if_neg c3] at h
        split
        · rename_i c4; rw [if_pos c4] at h; cases h
        · have s2 := spl3 l ((spl l p).2.1 + 1) (by simpa using c3)
          show p + 3 ≤ (spl l ((spl l p).2.1 + 1)).2.1
          omega
theorem parF_four : ∀ (f : Nat) (l : List UInt8) (p : Nat) (acc : List Rg), p ≤ l.length → 4 * (parF f l p acc).1.length ≤ 4 * acc.length + (l.length - p) + 1
  | 0, l, p, acc, _ => by unfold parF; simp
  | f + 1, l, p, acc, hp => by
    unfold parF
    split
    · have := nrm_len acc
      show 4 * (nrm acc).length ≤ _
      omega
    · split
      · have := parF_four f l (p + 1) acc (by omega)
        omega
      · split
        · simp
        · split
          · simp
          · rename_i h1 h2 h3 h4
            obtain ⟨i1, i2, _⟩ := itm_le l p hp
            have i3 := itm3 l p (by simpa using h3)
            cases f with
            | zero => unfold parF; simp
            | succ f =>
              unfold parF
              split
              · have := nrm_len (acc ++ [(itm l p).1])
                rw [List.length_append, List.length_singleton] at this
                show 4 * (nrm (acc ++ [(itm l p).1])).length ≤ _
                omega
              · rename_i h5
                split
                · have := parF_four f l ((itm l p).2.1 + 1) (acc ++ [(itm l p).1]) (by omega)
                  rw [List.length_append, List.length_singleton] at this
                  omega
                · rename_i h6
                  exact absurd ⟨by omega, h6⟩ h4
theorem par_four (l : List UInt8) : 4 * (par l).1.length ≤ l.length + 1 := by
  have := parF_four (l.length + 1) l 0 [] (Nat.zero_le _)
  unfold par
  simpa using this
theorem sumL_app : ∀ (L M : List (List UInt8)), sumL (L ++ M) = sumL L + sumL M
  | [], M => by simp [sumL]
  | x :: L, M => by
    show x.length + sumL (L ++ M) = x.length + sumL L + sumL M
    rw [sumL_app L M]; omega
theorem adn_sum (b : List UInt8) (U : List (List UInt8)) : sumL (adn b U).1 ≤ sumL U + b.length := by
  unfold adn
  split
  · show sumL U ≤ _; omega
  · show sumL (U ++ [b]) ≤ _
    rw [sumL_app]
    simp [sumL]
theorem adn_mem (b : List UInt8) (U : List (List UInt8)) : ∀ x ∈ (adn b U).1, x = b ∨ x ∈ U := fun x hx => by
  unfold adn at hx
  split at hx
  · exact .inr hx
  · rcases List.mem_append.1 hx with h | h
    · exact .inr h
    · exact .inl (List.mem_singleton.1 h)
def NamU (U : List (List UInt8)) : Prop := ∀ b ∈ U, nam b = true
theorem rdS_four (U : List (List UInt8)) (S : List Tr) (l : List UInt8) (hU : NamU U) (h0 : (rdS U S l).1 = 0) : NamU (rdS U S l).2.1 ∧ 4 * (rdS U S l).2.2.length + sumL (rdS U S l).2.1 ≤ 4 * S.length + sumL U + l.length := by
  have hl1 := rlin_len l
  have hp4 := par_four (rsp (rlin l))
  have hfl := fdp_le 59 (rlin l)
  unfold rdS at h0 ⊢
  split
  · exact ⟨hU, by simp⟩
  · rename_i c1
    rw [if_neg c1] at h0
    split
    · rename_i c2; rw [if_pos c2] at h0; cases h0
    · rename_i c2
      rw [if_neg c2] at h0
      split
      · rename_i c3; rw [if_pos c3] at h0; cases h0
      · rename_i c3
        rw [if_neg c3] at h0
        split
        · rename_i c4; rw [if_pos c4] at h0; exact absurd h0 c4
        · rename_i c4
          rw [if_neg c4] at h0
          split
          · rename_i c5; rw [if_pos c5] at h0; cases h0
          · rename_i c5
            rw [if_neg c5] at h0
            have hnm : nam (rnm (rlin l)) = true := by
              cases hh : nam (rnm (rlin l)) with
              | true => rfl
              | false => exact absurd (.inl hh) c3
            cases hs : sayL S (par (rsp (rlin l))).1 (adn (rnm (rlin l)) U).2 with
            | none => rw [hs] at h0; cases h0
            | some S' =>
              show NamU (adn (rnm (rlin l)) U).1 ∧ 4 * S'.length + sumL (adn (rnm (rlin l)) U).1 ≤ _
              obtain ⟨k1, k2⟩ := sayL_cls _ S _ S' hs
              have a1 := adn_sum (rnm (rlin l)) U
              have hn1 : (rnm (rlin l)).length ≤ (rlin l).length - (fdp 59 (rlin l) + 1) := by
                refine Nat.le_trans (tls_len _) ?_
                rw [List.length_drop]
                exact Nat.le_refl _
              have hs1 : (rsp (rlin l)).length = fdp 59 (rlin l) := by unfold rsp; simp; omega
              refine ⟨fun x hx => ?_, by omega⟩
              rcases adn_mem _ U x hx with h5 | h5
              · rw [h5]; exact hnm
              · exact hU x h5
theorem nwF_four : ∀ (L : List (List UInt8)) (i : Nat) (U : List (List UInt8)) (S : List Tr), NamU U → (nwF i U S L).1.1 = 0 → NamU (nwF i U S L).2.1 ∧ 4 * (nwF i U S L).2.2.length + sumL (nwF i U S L).2.1 ≤ 4 * S.length + sumL U + sumL L
  | [], i, U, S, h, _ => ⟨h, by simp [nwF, sumL]⟩
  | l :: L, i, U, S, h, h0 => by
    unfold nwF at h0 ⊢
    split at h0
    · rename_i hc
      rw [if_pos hc]
      obtain ⟨g1, g2⟩ := rdS_four U S l h hc
      obtain ⟨g3, g4⟩ := nwF_four L (i + 1) _ _ g1 h0
      exact ⟨g3, by show _ ≤ 4 * S.length + sumL U + (l.length + sumL L); omega⟩
    · rename_i hc
      exact absurd h0 hc
theorem nw_four (t : List UInt8) (h : (nw t).1.1 = 0) : NamU (nw t).2.1 ∧ 4 * (nw t).2.2.length + sumL (nw t).2.1 ≤ t.length + 5 := by
  unfold nw at h ⊢
  split
  · rename_i hc; rw [if_pos hc] at h; cases h
  · rename_i hc
    rw [if_neg hc] at h
    obtain ⟨g1, g2⟩ := nwF_four (lns t) 0 [oth] [] (fun b hb => by rw [List.mem_singleton.1 hb]; decide) h
    have h5 := sum_lns t
    have h6 : sumL [oth] = 5 := rfl
    exact ⟨g1, by rw [h6] at g2; simp at g2; omega⟩
/-- How many have a class. -/
theorem rgd_jn (o : List Tr) (g : Tr) : (rgd (jn o g)).length ≤ (rgd o).length + 1 := by
  rcases List.eq_nil_or_concat o with rfl | ⟨Q, z, rfl⟩
  · rw [jn_nil, rgd_cons]; split <;> simp [rgd]
  · rw [List.concat_eq_append, jn_snoc]
    split
    · rename_i h
      rw [rgd_snoc, rgd_snoc, List.length_append, List.length_append]
      dsimp only
      split <;> split <;> simp <;> omega
    · rw [rgd_snoc (Q ++ [z]), List.length_append]
      split <;> simp
theorem rgd_gp (o : List Tr) (nx : Nat) (g : Tr) : rgd (gp o nx g) = rgd o := by
  unfold gp
  split
  · rw [rgd_snoc]; simp
  · rfl
theorem rgd_whF : ∀ (L o : List Tr) (nx : Nat), (rgd (whF o nx L)).length ≤ (rgd o).length + L.length
  | [], o, nx => by
    unfold whF
    split
    · rw [rgd_snoc]; simp
    · simp
  | g :: L, o, nx => by
    have h1 := rgd_whF L (jn (gp o nx g) g) (g.2.1 + 1)
    have h2 := rgd_jn (gp o nx g) g
    rw [rgd_gp] at h2
    show (rgd (whF (jn (gp o nx g) g) (g.2.1 + 1) L)).length ≤ _
    rw [List.length_cons]; omega
theorem rgd_whl (S : List Tr) : (rgd (whl S)).length ≤ S.length := by
  have h := rgd_whF S [] 0
  simpa [rgd, whl] using h
theorem blw_stc (A : List Tr) (c : Nat) (hc : 0 < c) : (blw (c + 1) A).length = (blw c A).length + (stc (c : Int) A).length := by
  induction A with
  | nil => rfl
  | cons g A ih =>
    rw [blw_cons, blw_cons, stc_cons]
    by_cases h1 : g.2.2 = c
    · rw [if_pos (by omega), if_neg (by omega), if_pos (by omega), List.length_append, List.length_cons, List.length_singleton, ih]; omega
    · by_cases h2 : 0 < g.2.2 ∧ g.2.2 < c
      · rw [if_pos (by omega), if_pos h2, if_neg (by omega), List.length_cons, List.length_cons, List.nil_append, ih]; omega
      · rw [if_neg (by omega), if_neg h2, if_neg (by omega), List.nil_append, ih]
theorem tx4_bound (A : List Tr) (U : List (List UInt8)) : ∀ k, (tx4 A U (k + 1)).length ≤ 18 * (blw (k + 1) A).length + 4 * k + sumL ((U.take (k + 1)).drop 1)
  | 0 => by
    show (tx4 A U 0 ++ tx1 A 0 (U.getD 0 [])).length ≤ _
    unfold tx1 tx4
    simp
  | k + 1 => by
    have ih := tx4_bound A U k
    show (tx4 A U (k + 1) ++ tx1 A (k + 1) (U.getD (k + 1) [])).length ≤ _
    have h1 := prt_len (nrm (stc ((k + 1 : Nat) : Int) A))
    have h2 := nrm_len (stc ((k + 1 : Nat) : Int) A)
    have h3 := blw_stc A (k + 1) (by omega)
    have h4 : (tx1 A (k + 1) (U.getD (k + 1) [])).length ≤ 18 * (stc ((k + 1 : Nat) : Int) A).length + 4 + (U.getD (k + 1) []).length := by
      unfold tx1
      rw [if_neg (by omega)]
      split
      · simp; omega
      · simp only [List.length_append, List.length_cons, List.length_nil]; omega
    have h5 : sumL ((U.take (k + 1)).drop 1) + (U.getD (k + 1) []).length = sumL ((U.take (k + 1 + 1)).drop 1) := by
      by_cases hk : k + 1 < U.length
      · rw [List.take_succ_eq_append_getElem hk, List.drop_append_of_le_length (by rw [List.length_take]; omega), sumL_app, List.getD_eq_getElem?_getD, List.getElem?_eq_getElem hk]
        simp [sumL]
      · rw [List.take_of_length_le (by omega), List.take_of_length_le (by omega), List.getD_eq_getElem?_getD, List.getElem?_eq_none (by omega)]
        simp
    rw [List.length_append]
    omega
theorem sum_drop (U : List (List UInt8)) : sumL (U.drop 1) ≤ sumL U := by
  cases U with
  | nil => simp
  | cons x U => show sumL U ≤ x.length + sumL U; omega
/-- The text of what New makes of a short text is one that New takes, and says the same. -/
theorem nw_back (t : List UInt8) (ht : t.length ≤ 12000) (h : (nw t).1.1 = 0) (hR : Rs 0 (nw t).2.2) (hnd : (nw t).2.1.Nodup) (hl : (nw t).2.1.length ≤ 64) :
    nw (tx4 (whl (nw t).2.2) (nw t).2.1 (nw t).2.1.length) = ((0, 0), (nw t).2.1, rgd (whl (nw t).2.2)) ∧ whl (rgd (whl (nw t).2.2)) = whl (nw t).2.2 ∧ (nw t).2.2.length ≤ 3001 := by
  obtain ⟨g1, g2⟩ := nw_good t h
  obtain ⟨f1, f2⟩ := nw_four t h
  generalize (nw t).2.2 = S at *
  generalize (nw t).2.1 = U at *
  obtain ⟨k1, k2, k3, k4⟩ := whl_good U S g1 hR
  have h5 := rgd_whl S
  have hU0 : 0 < U.length := (List.getElem?_eq_some_iff.1 g1.1).1
  refine ⟨nw_tx4 (whl S) U k1 k2 k3 g1.1 f1 hnd hl ?_, whl_rgd _ k1 k2, by omega⟩
  obtain ⟨k, hk⟩ : ∃ k, U.length = k + 1 := ⟨U.length - 1, by omega⟩
  have h6 := tx4_bound (whl S) U k
  rw [← hk, List.take_length, blw_all (whl S) U.length k3] at h6
  have h7 := sum_drop U
  omega
end Go.Proofs.YtohhokjlgihbgaaGreatDoor
