/- GsMath: parts of the proof, joined. -/
import Derived.Test.YtbajepdkgeldlaaGreatDoorSGsDoc
import Derived.Test.YtbajepdkgeldlaaGreatDoorSGsSafe
namespace Go.Proofs.YtbajepdkgeldlaaGreatDoor.Br
open Go.RowKit Wt Pt
theorem gfirst_hd (t : List UInt8) (h : t ≠ []) : gpfirst t = (gcs t).headD 0 := by
 unfold gcs
 rw [rl_cons t h, List.map_cons, List.headD_cons]; rfl
theorem gcs_tk (l : List UInt8) (k : Nat) (h : k <= (rl l).length) : gcs (l.take (pos l k)) = (gcs l).take k := by
 unfold gcs
 rw [Wt.rl_take l k h, List.map_take]
theorem gcs_dp (l : List UInt8) (k : Nat) (h : k <= (rl l).length) : gcs (l.drop (pos l k)) = (gcs l).drop k := by
 unfold gcs
 rw [Wt.rl_drop l k h, List.map_drop]
theorem glast_at (l : List UInt8) (j : Nat) (h : j < (rl l).length) : gplast (l.take (pos l (j + 1))) = ((gcs l).take (j + 1)).getLastD 0 := by
 unfold gplast
 rw [last_pos l j h, List.getLastD_eq_getLast?, List.getLast?_eq_getElem?, List.length_take, List.getElem?_take]
 have : j < (gcs l).length := by rw [gcs_len]; exact h
 rw [show min (j + 1) (gcs l).length - 1 = j by omega, if_pos (by omega), show (gcs l)[j]? = some (gc (rl l)[j]) from by unfold gcs; rw [List.getElem?_map, List.getElem?_eq_getElem h, Option.map_some], Option.getD_some]
 unfold gc
 rfl
theorem gbt_two (a b : Int) : gbt a b = 2 ↔ (a = 5 /\ b = 12 \/ a = 13 /\ b = 13) := by
 constructor
 ·intro h
  unfold gbt at h
  split at h <;> first | (exact absurd h (by decide)) | skip
  split at h <;> first | (exact absurd h (by decide)) | skip
  split at h <;> first | (exact absurd h (by decide)) | skip
  split at h <;> first | (exact absurd h (by decide)) | skip
  split at h <;> first | assumption | (exact absurd h (by decide))
 ·rintro (⟨rfl, rfl⟩ | ⟨rfl, rfl⟩) <;> decide
theorem safe_same (l : List UInt8) (z : Int) : gsafe l z = rsf l z := by
 unfold gsafe rsf
 by_cases hne : l = []
 ·rw [if_pos (.inl hne), if_pos (.inr hne)]
 by_cases hi : isE l z = false
 ·rw [if_pos (.inr hi), if_pos (.inl hi)]
 have hi2 : isE l z = true := by simpa using hi
 rw [if_neg (by simp [hne, hi]), if_neg (by simp [hne, hi])]
 obtain ⟨k, hk, rfl⟩ := bd_pos hi2
 rw [Int.toNat_natCast]
 have hN : 0 < (rl l).length := by rw [rl_cons l hne]; simp
 unfold gsafeN rsfN
 rw [gcs_tk l k hk, gcs_dp l k hk]
 have hcl := gcs_len l
 by_cases h0 : k = 0
 ·subst h0
  rw [pos_0, if_pos rfl, if_pos (by simp), gfirst_hd l hne, List.drop_zero]
 obtain ⟨j, rfl⟩ : ∃ j, k = j + 1 := ⟨k - 1, by omega⟩
 have hpj : pos l j < pos l (j + 1) := pos_lt l j (by omega)
 have hA : (gcs l).take (j + 1) ≠ [] := fun e => by have := congrArg List.length e; rw [List.length_take, List.length_nil] at this; omega
 rw [if_neg (by omega), if_neg hA]
 have hla := glast_at l j (by omega)
 by_cases h1 : j + 1 = (rl l).length
 ·have hp : pos l (j + 1) = l.length := pos_all l _ (by omega)
  rw [if_pos hp, if_pos (List.drop_of_length_le (by omega)), <- hla, hp, List.take_length]
 have hp : pos l (j + 1) ≠ l.length := by have := pos_end l (j + 1) (by omega); omega
 have hC : (gcs l).drop (j + 1) ≠ [] := fun e => by have := congrArg List.length e; rw [List.length_drop, List.length_nil] at this; omega
 rw [if_neg hp, if_neg hC]
 have hf : gpfirst (l.drop (pos l (j + 1))) = ((gcs l).drop (j + 1)).headD 0 := by
  rw [gfirst_hd _ (fun e => by have := congrArg List.length e; rw [List.length_drop, List.length_nil] at this; have := pos_le l (j + 1) (by omega); omega), gcs_dp l _ (by omega)]
 have hb : l.take (pos l (j + 1) - (decLast (l.take (pos l (j + 1)))).2) = l.take (pos l j) := by
  rw [last_pos l j (by omega), pos_back l j (by omega), Nat.add_sub_cancel]
 rw [hb, gcs_tk l j (by omega), hla, hf]
 generalize ((gcs l).drop (j + 1)).headD 0 = b
 have hl1 : ((gcs l).take (j + 1)).length = j + 1 := by rw [List.length_take]; omega
 rw [hl1, Nat.add_sub_cancel, List.take_take, Nat.min_eq_left (by omega), List.take_take, Nat.min_self]
 generalize ((gcs l).take (j + 1)).getLastD 0 = a
 by_cases c1 : a = 5 /\ b = 12
 ·obtain ⟨rfl, rfl⟩ := c1
  rw [if_neg (by decide), if_neg (by decide), if_neg (by decide), if_pos ⟨rfl, rfl⟩]
 by_cases c2 : a = 13 /\ b = 13
 ·obtain ⟨rfl, rfl⟩ := c2
  rw [if_neg (by decide), if_pos rfl, if_neg (by decide), if_neg (by decide), if_pos ⟨rfl, rfl⟩]
 rw [if_pos (fun e => ((gbt_two a b).1 e).elim c1 c2), if_neg c1, if_neg c2]
 split <;> rfl
def bdK (c : List Int) (k : Nat) : Bool := k == 0 || k == c.length || (nx (stt c (k - 1)) (c.getD k 0)).isNone
theorem cut_iff {c : List Int} (hc : ∀ x ∈ c, Cl x) (n : Nat) : (nx (stt c (n - 1)) (c.getD n 0)).isNone = true ↔ (gbt (c.getD (n - 1) 0) (c.getD n 0) = 0 \/ gbt (c.getD (n - 1) 0) (c.getD n 0) = 2 /\ (c.getD (n - 1) 0 = 5 /\ c.getD n 0 = 12 /\ stt c (n - 1) ≠ 14 \/ c.getD (n - 1) 0 = 13 /\ c.getD n 0 = 13 /\ stt c (n - 1) ≠ 13)) :=
 (nxS (stt_bd hc (n - 1)).1 (cl_at hc n)).cut _ (cl_at hc (n - 1)) (stt_bd hc (n - 1)).2
theorem gbt_alone {a b : Int} (h : galone a = true \/ galone b = true) (h2 : ¬ (a = 1 /\ b = 2)) : gbt a b = 0 := by
 unfold gbt
 rw [if_neg h2, if_pos h]
theorem in_mid (ca cs cb : List Int) (i : Nat) (h : i < cs.length) : (ca ++ cs ++ cb).getD (ca.length + i) 0 = cs.getD i 0 := by
 rw [List.getD_eq_getElem?_getD, List.getD_eq_getElem?_getD, List.append_assoc, List.getElem?_append_right (by omega), Nat.add_sub_cancel_left, List.getElem?_append_left h]
theorem fgs_in (ca cs cb : List Int) : ∀ i, i < cs.length -> (∃ m, m <= i /\ cs.getD m 0 ≠ 13) -> fgs (ca ++ cs ++ cb) (ca.length + i) = fgs cs i
 | 0, hi, ⟨m, hm, h⟩ => by
  obtain rfl : m = 0 := by omega
  have e := in_mid ca cs cb 0 hi
  have hz : fgs cs 0 = 0 := if_neg h
  rw [hz]
  rw [Nat.add_zero] at e ⊢
  cases hn : ca.length with
  | zero =>
   rw [hn] at e
   unfold fgs
   rw [if_neg (by rw [e]; exact h)]
  | succ n =>
   rw [hn] at e
   rw [fgs_s, if_neg (by rw [e]; exact h)]
 | i + 1, hi, ⟨m, hm, h⟩ => by
  have e := in_mid ca cs cb (i + 1) hi
  show fgs _ (ca.length + i + 1) = _
  rw [fgs_s, fgs_s, Nat.add_assoc, e]
  by_cases h1 : cs.getD (i + 1) 0 = 13
  ·rw [if_pos h1, if_pos h1, fgs_in ca cs cb i (by omega) ⟨m, by
    rcases Nat.eq_or_lt_of_le hm with e1 | e1
    ·exact absurd (e1 ▸ h1) h
    ·omega, h⟩]
  ·rw [if_neg h1, if_neg h1]
theorem joi_in {ca cs cb : List Int} (hc : ∀ x ∈ ca ++ cs ++ cb, Cl x) (hc2 : ∀ x ∈ cs, Cl x) {i : Nat} (hi : i < cs.length) (h : ∃ m, m < i /\ cs.getD m 0 ≠ 4) : stt (ca ++ cs ++ cb) (ca.length + i) = 14 ↔ stt cs i = 14 := by
 obtain ⟨m0, hm0, h4⟩ := h
 rw [stt_14 hc, stt_14 hc2, in_mid ca cs cb i hi]
 constructor
 ·rintro ⟨h1, j, h2, h3, h5⟩
  refine ⟨h1, j - ca.length, ?_⟩
  have hj : ca.length + m0 <= j := by
   by_cases hlt : j < ca.length + m0
   ·have := h5 (ca.length + m0) hlt (by omega)
    rw [in_mid ca cs cb m0 (by omega)] at this
    exact absurd this h4
   ·omega
  refine ⟨by omega, ?_, fun m k1 k2 => ?_⟩
  ·have e := in_mid ca cs cb (j - ca.length) (by omega)
   rw [show ca.length + (j - ca.length) = j by omega] at e
   rw [<- e]; exact h3
  ·have e := in_mid ca cs cb m (by omega)
   rw [<- e]
   exact h5 _ (by omega) (by omega)
 ·rintro ⟨h1, j, h2, h3, h5⟩
  refine ⟨h1, ca.length + j, by omega, by rw [in_mid ca cs cb j (by omega)]; exact h3, fun m k1 k2 => ?_⟩
  have e := in_mid ca cs cb (m - ca.length) (by omega)
  rw [show ca.length + (m - ca.length) = m by omega] at e
  rw [e]
  exact h5 _ (by omega) (by omega)
theorem not_all {A : List Int} {n : Nat} {c : Int} (h : (!((A.take n).all fun x => x == c)) = true) (hn : n <= A.length) : ∃ m, m < n /\ A.getD m 0 ≠ c := by
 have h1 : ((A.take n).all fun x => x == c) = false := by simpa using h
 obtain ⟨x, hx, h2⟩ := List.all_eq_false.1 h1
 obtain ⟨m, hm, rfl⟩ := List.getElem_of_mem hx
 rw [List.length_take] at hm
 refine ⟨m, by omega, ?_⟩
 rw [List.getD_eq_getElem?_getD, List.getElem?_eq_getElem (by omega)]
 rw [List.getElem_take] at h2
 simpa using h2
theorem safe_math {ca cs cb : List Int} (hc : ∀ x ∈ ca ++ cs ++ cb, Cl x) (hc2 : ∀ x ∈ cs, Cl x) (hs : cs ≠ []) {k : Nat} (hk : k <= cs.length) (h : rsfN (cs.take k) (cs.drop k) = true) : bdK (ca ++ cs ++ cb) (ca.length + k) = bdK cs k := by
 have hs0 : 0 < cs.length := List.length_pos_iff.2 hs
 have hlw : (ca ++ cs ++ cb).length = ca.length + cs.length + cb.length := by rw [List.length_append, List.length_append]
 unfold rsfN at h
 by_cases h0 : k = 0
 ·subst h0
  rw [if_pos List.take_zero, List.drop_zero] at h
  have e := in_mid ca cs cb 0 hs0
  have hb : cs.headD 0 = cs.getD 0 0 := by cases cs with | nil => rfl | cons y Y => rfl
  rw [hb] at h
  have h13 : cs.getD 0 0 = 1 \/ cs.getD 0 0 = 3 := by simpa using h
  have hr : bdK cs 0 = true := rfl
  rw [hr]
  unfold bdK
  rw [Nat.add_zero] at e ⊢
  by_cases hn : ca.length = 0
  ·rw [hn]; rfl
  ·have : (nx (stt (ca ++ cs ++ cb) (ca.length - 1)) ((ca ++ cs ++ cb).getD ca.length 0)).isNone = true := by
    rw [cut_iff hc, e]
    refine .inl (gbt_alone (.inr ?_) ?_)
    ·rcases h13 with h1 | h1 <;> rw [h1] <;> decide
    ·rintro ⟨_, h1⟩; omega
   rw [this, Bool.or_true]
 obtain ⟨j, rfl⟩ : ∃ j, k = j + 1 := ⟨k - 1, by omega⟩
 have hA : cs.take (j + 1) ≠ [] := fun e => by have := congrArg List.length e; rw [List.length_take, List.length_nil] at this; omega
 have ej := in_mid ca cs cb j (by omega)
 have hla : (cs.take (j + 1)).getLastD 0 = cs.getD j 0 := by
  rw [List.getLastD_eq_getLast?, List.getLast?_eq_getElem?, List.length_take, List.getElem?_take, show min (j + 1) cs.length - 1 = j by omega, if_pos (by omega), List.getD_eq_getElem?_getD]
 rw [if_neg hA, hla] at h
 by_cases h1 : j + 1 = cs.length
 ·rw [if_pos (List.drop_of_length_le (by omega))] at h
  have h23 : cs.getD j 0 = 2 \/ cs.getD j 0 = 3 := by simpa using h
  have hr : bdK cs (j + 1) = true := by unfold bdK; rw [h1]; simp
  rw [hr]
  unfold bdK
  have : (nx (stt (ca ++ cs ++ cb) (ca.length + (j + 1) - 1)) ((ca ++ cs ++ cb).getD (ca.length + (j + 1)) 0)).isNone = true := by
   rw [cut_iff hc, show ca.length + (j + 1) - 1 = ca.length + j by omega, ej]
   refine .inl (gbt_alone (.inl ?_) ?_)
   ·rcases h23 with h1 | h1 <;> rw [h1] <;> decide
   ·rintro ⟨h1, _⟩; omega
  rw [this, Bool.or_true]
 have hC : cs.drop (j + 1) ≠ [] := fun e => by have := congrArg List.length e; rw [List.length_drop, List.length_nil] at this; omega
 have ek := in_mid ca cs cb (j + 1) (by omega)
 have hhd : (cs.drop (j + 1)).headD 0 = cs.getD (j + 1) 0 := by
  rw [List.drop_eq_getElem_cons (by omega), List.headD_cons, List.getD_eq_getElem?_getD, List.getElem?_eq_getElem (by omega)]; rfl
 have hl1 : (cs.take (j + 1)).length = j + 1 := by rw [List.length_take]; omega
 rw [if_neg hC, hhd, hl1, Nat.add_sub_cancel, List.take_take, Nat.min_eq_left (by omega), List.take_take, Nat.min_self] at h
 unfold bdK
 rw [show (ca.length + (j + 1) == 0) = false by simp, show (j + 1 == 0) = false by simp, show (ca.length + (j + 1) == (ca ++ cs ++ cb).length) = false by rw [hlw]; simp; omega, show (j + 1 == cs.length) = false by simpa using h1]
 simp only [Bool.false_or]
 apply Bool.eq_iff_iff.2
 rw [cut_iff hc, cut_iff hc2, show ca.length + (j + 1) - 1 = ca.length + j by omega, Nat.add_sub_cancel, ej, ek]
 obtain ⟨a, ha⟩ : ∃ a, a = cs.getD j 0 := ⟨_, rfl⟩
 obtain ⟨b, hb⟩ : ∃ b, b = cs.getD (j + 1) 0 := ⟨_, rfl⟩
 rw [<- ha, <- hb] at h ⊢
 by_cases c1 : a = 5 /\ b = 12
 ·obtain ⟨rfl, rfl⟩ := c1
  rw [if_neg (by decide), if_pos ⟨rfl, rfl⟩] at h
  have hm := not_all h (by omega)
  rw [show (stt (ca ++ cs ++ cb) (ca.length + j) ≠ 14 ↔ stt cs j ≠ 14) from not_congr (joi_in hc hc2 (by omega) hm)]
  simp
 ·by_cases c2 : a = 13 /\ b = 13
  ·obtain ⟨rfl, rfl⟩ := c2
   rw [if_neg (by decide), if_neg (by decide), if_pos ⟨rfl, rfl⟩] at h
   obtain ⟨m, hm, hx⟩ := not_all h (by omega)
   have hf := fgs_in ca cs cb j (by omega) ⟨m, by omega, hx⟩
   have h13 : stt (ca ++ cs ++ cb) (ca.length + j) = 13 ↔ stt cs j = 13 := by rw [(stt_13 hc _).1, (stt_13 hc2 _).1, hf]
   rw [show (stt (ca ++ cs ++ cb) (ca.length + j) ≠ 13 ↔ stt cs j ≠ 13) from not_congr h13]
   simp
  ·have : ¬ gbt a b = 2 := fun e => ((gbt_two a b).1 e).elim c1 c2
   simp [this]
theorem pos_inj (l : List UInt8) {i k : Nat} (hi : i <= (rl l).length) (hk : k <= (rl l).length) (h : pos l i = pos l k) : i = k := by
 rcases Nat.lt_trichotomy i k with h1 | h1 | h1
 ·have := pos_mono l (k - i) i (by omega)
  rw [show i + (k - i) = k by omega] at this
  omega
 ·exact h1
 ·have := pos_mono l (i - k) k (by omega)
  rw [show k + (i - k) = i by omega] at this
  omega
theorem cut_bdK {c : List Int} (hc : ∀ x ∈ c, Cl x) (hne : c ≠ []) {k : Nat} (hk : k <= c.length) : cutB true grRs c k = bdK c k := by
 unfold cutB bdK
 rw [if_neg hne]
 by_cases h : k = 0 \/ k = c.length
 ·rw [if_pos h]
  rcases h with h | h <;> simp [h]
 ·rw [if_neg h, gr_dcd hc (by omega) (by omega), show (k == 0) = false by simp; omega, show (k == c.length) = false by simp; omega]
  rfl
theorem is_bdK (l : List UInt8) (hne : l ≠ []) {k : Nat} (hk : k ≤ (rl l).length) : (!l.isEmpty && (gbd l).any fun x => (x : Int) == ((pos l k : Nat) : Int)) = bdK (gcs l) k := by
  have hcl := gcs_len l
  have hc0 : gcs l ≠ [] := fun e => by have := congrArg List.length e; rw [hcl, rl_cons l hne] at this; simp at this
  rw [show l.isEmpty = false by simpa using hne, Bool.not_false, Bool.true_and, show gbd l = (flt (fun k => cutB true grRs (gcs l) k = true) ((gcs l).length + 1)).map (pos l) from (Pt.gr_ends l hne).symm, List.any_map]
  apply Bool.eq_iff_iff.2
  rw [List.any_eq_true]
  constructor
  · rintro ⟨x, hx, h⟩
    obtain ⟨h1, h2⟩ := (flt_mem _ _ _).1 hx
    have h3 : pos l x = pos l k := by have h8 : ((pos l x : Nat) : Int) = ((pos l k : Nat) : Int) := beq_iff_eq.1 h
                                      exact Int.ofNat.inj h8
    rw [pos_inj l (by omega) hk h3] at h2
    rw [← cut_bdK (Wt.gcs_cl l) hc0 (by omega)]
    exact h2
  · intro h
    refine ⟨k, (flt_mem _ _ _).2 ⟨by omega, by rw [cut_bdK (Wt.gcs_cl l) hc0 (by omega)]; exact h⟩, by simp⟩
theorem rl_edge (t : List UInt8) (e : Nat) (h : isE t (e : Int) = true) : rl t = rl (t.take e) ++ rl (t.drop e) := by
 obtain ⟨k, hk, h1⟩ := bd_pos h
 obtain rfl : e = pos t k := by omega
 rw [Wt.rl_take t k hk, Wt.rl_drop t k hk, List.take_append_drop]
theorem rl_three (a s b : List UInt8) (h1 : isE (a ++ s ++ b) (a.length : Int) = true) (h2 : isE (a ++ s ++ b) ((a.length + s.length : Nat) : Int) = true) : rl (a ++ s ++ b) = rl a ++ rl s ++ rl b := by
 have e2 := rl_edge _ _ h2
 have ht : (a ++ s ++ b).take (a.length + s.length) = a ++ s := by rw [<- List.length_append]; exact List.take_left
 have hd : (a ++ s ++ b).drop (a.length + s.length) = b := by rw [<- List.length_append]; exact List.drop_left
 rw [ht, hd] at e2
 obtain ⟨k1, hk1, p1⟩ := bd_pos h1
 obtain ⟨k2, hk2, p2⟩ := bd_pos h2
 have p1' : a.length = pos (a ++ s ++ b) k1 := by omega
 have p2' : a.length + s.length = pos (a ++ s ++ b) k2 := by omega
 have hkk : k1 <= k2 := by
  by_cases h : k1 <= k2
  ·exact h
  ·have := pos_mono (a ++ s ++ b) (k1 - k2) k2 (by omega)
   rw [show k2 + (k1 - k2) = k1 by omega] at this
   omega
 have e3 := pos_take (a ++ s ++ b) k1 k2 hkk hk2
 have e4 := congrArg List.length (Wt.rl_take (a ++ s ++ b) k2 hk2)
 rw [<- p2', ht] at e3 e4
 rw [List.length_take] at e4
 have h3 := isE_pos (a ++ s) k1 (by omega)
 rw [e3, <- p1'] at h3
 have e5 := rl_edge _ _ h3
 rw [List.take_left, List.drop_left] at e5
 rw [e2, e5]
theorem pos_mid (a s b : List UInt8) (h : rl (a ++ s ++ b) = rl a ++ rl s ++ rl b) {k : Nat} (hk : k <= (rl s).length) : pos (a ++ s ++ b) ((rl a).length + k) = a.length + pos s k := by
 have h1 : psm (rl a) = a.length := by
  have := pos_all a (rl a).length (Nat.le_refl _)
  unfold pos at this
  rwa [List.take_length] at this
 unfold pos
 rw [h, List.append_assoc, List.take_append, List.take_of_length_le (by omega), Nat.add_sub_cancel_left, List.take_append_of_le_length hk, psm_app, h1]
theorem safe_law (a s b : List UInt8) (z : Int) (h1 : isE (a ++ s ++ b) (a.length : Int) = true) (h2 : isE (a ++ s ++ b) ((a.length + s.length : Nat) : Int) = true) (h : gsafe s z = true) :
  (!(a ++ s ++ b).isEmpty && (gbd (a ++ s ++ b)).any fun x => (x : Int) == (a.length : Int) + z) = (!s.isEmpty && (gbd s).any fun x => (x : Int) == z) := by
 rw [safe_same] at h
 unfold rsf at h
 by_cases hx : isE s z = false \/ s = []
 ·rw [if_pos hx] at h; cases h
 rw [if_neg hx] at h
 have hne : s ≠ [] := fun e => hx (.inr e)
 have hi : isE s z = true := by
  cases e : isE s z with
  | true => rfl
  | false => exact absurd (.inl e) hx
 obtain ⟨k, hk, rfl⟩ := bd_pos hi
 rw [Int.toNat_natCast, gcs_tk s k hk, gcs_dp s k hk] at h
 have hr := rl_three a s b h1 h2
 have hw : a ++ s ++ b ≠ [] := fun e => hne (by have := congrArg List.length e; rw [List.length_append, List.length_append, List.length_nil] at this; exact List.length_eq_zero_iff.1 (by omega))
 have hg : gcs (a ++ s ++ b) = gcs a ++ gcs s ++ gcs b := by unfold gcs; rw [hr, List.map_append, List.map_append]
 have hp := pos_mid a s b hr hk
 have hkl : (rl a).length + k <= (rl (a ++ s ++ b)).length := by rw [hr, List.length_append, List.length_append]; omega
 rw [is_bdK s hne hk, show ((a.length : Int) + ((pos s k : Nat) : Int)) = ((pos (a ++ s ++ b) ((rl a).length + k) : Nat) : Int) by rw [hp]; omega, is_bdK _ hw hkl, hg, <- gcs_len a]
 have hs0 : gcs s ≠ [] := fun e => by have := congrArg List.length e; rw [gcs_len, rl_cons s hne] at this; simp at this
 exact safe_math (hg ▸ Wt.gcs_cl (a ++ s ++ b)) (Wt.gcs_cl s) hs0 (by rw [gcs_len]; exact hk) h
end Go.Proofs.YtbajepdkgeldlaaGreatDoor.Br
