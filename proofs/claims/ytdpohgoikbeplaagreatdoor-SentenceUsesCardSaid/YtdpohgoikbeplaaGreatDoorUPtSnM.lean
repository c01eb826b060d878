/- PtSnM: parts of the proof, joined. -/
import Derived.Test.YtdpohgoikbeplaaGreatDoorUPtEv
import Derived.Test.YtdpohgoikbeplaaGreatDoorUKit
namespace Go.Proofs.YtdpohgoikbeplaaGreatDoor
namespace Pt
open Go.Proofs.YtdpohgoikbeplaaGreatDoor.Sn
def bkc (c : List Int) (k : Nat) : List Int := (c.take k).reverse
theorem bkc_0 (c : List Int) : bkc c 0 = [] := rfl
theorem bkc_s {c : List Int} {k : Nat} (h : k < c.length) : bkc c (k + 1) = c.getD k 0 :: bkc c k := by
 unfold bkc
 rw [List.take_succ_eq_append_getElem h, List.reverse_append, List.getD_eq_getElem?_getD, List.getElem?_eq_getElem h]
 rfl
def stp (c : List Int) (f : Int -> Bool) : Nat -> Nat
 | 0 => 0
 | k + 1 => if f (c.getD k 0) then stp c f k else k + 1
theorem stp_le (c : List Int) (f : Int -> Bool) : ∀ k, stp c f k <= k
 | 0 => Nat.le_refl _
 | k + 1 => by
  unfold stp
  have := stp_le c f k
  split <;> omega
theorem stp_dw (c : List Int) (f : Int -> Bool) : ∀ k, k <= c.length -> (bkc c k).dropWhile f = bkc c (stp c f k)
 | 0, _ => rfl
 | k + 1, h => by
  rw [bkc_s (by omega)]
  unfold stp
  cases hf : f (c.getD k 0) with
  | true => rw [List.dropWhile_cons_of_pos hf, if_pos rfl]; exact stp_dw c f k (by omega)
  | false => rw [List.dropWhile_cons_of_neg (by rw [hf]; simp), if_neg (by simp), bkc_s (by omega)]
theorem stp_in (c : List Int) (f : Int -> Bool) : ∀ k m, stp c f k <= m -> m < k -> f (c.getD m 0) = true
 | 0, m, _, h => by omega
 | k + 1, m, h1, h2 => by
  unfold stp at h1
  split at h1
  ·rename_i hf
   rcases Nat.eq_or_lt_of_le (Nat.le_of_lt_succ h2) with e | e
   ·exact e ▸ hf
   ·exact stp_in c f k m h1 e
  ·omega
theorem stp_out (c : List Int) (f : Int -> Bool) : ∀ k, 0 < stp c f k -> f (c.getD (stp c f k - 1) 0) = false
 | 0, h => by unfold stp at h; omega
 | k + 1, h => by
  unfold stp at h ⊢
  split
  ·rename_i hf
   rw [if_pos hf] at h
   exact stp_out c f k h
  ·rename_i hf
   rw [Nat.add_sub_cancel]
   simpa using hf
theorem stp_eq {c : List Int} {f : Int -> Bool} {j k : Nat} (hj : j <= k) (h1 : ∀ m, j <= m -> m < k -> f (c.getD m 0) = true) (h2 : j = 0 \/ f (c.getD (j - 1) 0) = false) : stp c f k = j := by
 rcases Nat.lt_trichotomy (stp c f k) j with h | h | h
 ·rcases h2 with h2 | h2
  ·omega
  ·have := stp_in c f k (j - 1) (by omega) (by omega)
   rw [h2] at this
   cases this
 ·exact h
 ·have h3 := stp_out c f k (by omega)
  have h4 := stp_le c f k
  rw [h1 _ (by omega) (by omega)] at h3
  cases h3
theorem bkc_head {c : List Int} {k : Nat} (hk : k <= c.length) {z : Int} (hz : z ≠ 0) : (bkc c k).headD 0 = z ↔ 0 < k /\ c.getD (k - 1) 0 = z := by
 cases k with
 | zero => rw [bkc_0]; exact ⟨fun h => absurd h.symm hz, fun h => by omega⟩
 | succ k => rw [bkc_s (by omega), List.headD_cons, Nat.add_sub_cancel]; exact ⟨fun h => ⟨by omega, h⟩, fun h => h.2⟩
def Rww (c S : List Int) (i k : Nat) : Prop := i <= k /\ ∀ m, i <= m -> m < k -> ∃ z, c[m]? = some z /\ z ∈ S
theorem star_rw (c S : List Int) (i k : Nat) : Star (led c (.mk 1 S [])) i k ↔ Rww c S i k := star_set c S [] i k
theorem Rww.trans {c S : List Int} {i j k : Nat} (h : Rww c S i j) (h2 : Rww c S j k) : Rww c S i k := ⟨Nat.le_trans h.1 h2.1, fun m h3 h4 => by
 by_cases e : m < j
 ·exact h.2 m h3 e
 ·exact h2.2 m (by omega) h4⟩
theorem Rww.wide {c S T : List Int} {i j : Nat} (h : Rww c S i j) (hs : ∀ z ∈ S, z ∈ T) : Rww c T i j := ⟨h.1, fun m h3 h4 => by
 obtain ⟨z, h5, h6⟩ := h.2 m h3 h4
 exact ⟨z, h5, hs z h6⟩⟩
theorem Rww.one {c S : List Int} {i : Nat} {z : Int} (h : c[i]? = some z) (hz : z ∈ S) : Rww c S i (i + 1) := ⟨by omega, fun m h3 h4 => by
 obtain rfl : m = i := by omega
 exact ⟨z, h, hz⟩⟩
theorem Rww.nil (c S : List Int) (i : Nat) : Rww c S i i := ⟨Nat.le_refl _, fun m h3 h4 => by omega⟩
theorem led_xe (c : List Int) (x e : Int) (i j : Nat) : led c (.mk 2 [] [(.mk 1 [x] []), (.mk 4 [] [(.mk 1 [e] [])])]) i j ↔ c[i]? = some x /\ Rww c [e] (i + 1) j := by
 simp only [led2, ledT_s, ledT_0, led4, star_rw, led1, List.mem_singleton]
 constructor
 ·rintro ⟨_, ⟨rfl, z, h1, rfl⟩, _, h2, rfl⟩
  exact ⟨h1, h2⟩
 ·rintro ⟨h1, h2⟩
  exact ⟨_, ⟨rfl, x, h1, rfl⟩, _, h2, rfl⟩
theorem star_xe {c : List Int} {x e : Int} {i k : Nat} (h : Star (led c (.mk 2 [] [(.mk 1 [x] []), (.mk 4 [] [(.mk 1 [e] [])])])) i k) : Rww c [x, e] i k := by
 induction h with
 | refl i => exact .nil _ _ _
 | step h1 _ ih =>
  obtain ⟨h2, h3⟩ := (led_xe _ _ _ _ _).1 h1
  exact (Rww.one h2 (by simp)).trans ((h3.wide (by simp)).trans ih)
theorem xe_star (c : List Int) (x e : Int) : ∀ (n i k : Nat), k - i <= n -> Rww c [x, e] i k -> ∃ m, Rww c [e] i m /\ m <= k /\ Star (led c (.mk 2 [] [(.mk 1 [x] []), (.mk 4 [] [(.mk 1 [e] [])])])) m k
 | n, i, k, hn, h => by
  by_cases hik : i = k
  ·subst hik; exact ⟨i, .nil _ _ _, Nat.le_refl _, .refl _⟩
  have h0 := h.1
  cases n with
  | zero => omega
  | succ n =>
   obtain ⟨m, h1, h2, h3⟩ := xe_star c x e n (i + 1) k (by omega) ⟨by omega, fun m h3 h4 => h.2 m (by omega) h4⟩
   obtain ⟨z, h4, h5⟩ := h.2 i (Nat.le_refl _) (by omega)
   by_cases he : z = e
   ·subst he
    exact ⟨m, (Rww.one h4 (by simp)).trans h1, h2, h3⟩
   ·have hx : z = x := by
     rcases List.mem_cons.1 h5 with h | h
     ·exact h
     ·exact absurd (List.mem_singleton.1 h) he
    subst hx; exact ⟨i, .nil _ _ _, by omega, .step ((led_xe _ _ _ _ _).2 ⟨h4, h1⟩) h3⟩
theorem exs (c : List Int) (x e : Int) (i k : Nat) : (∃ m, Rww c [e] i m /\ Star (led c (.mk 2 [] [(.mk 1 [x] []), (.mk 4 [] [(.mk 1 [e] [])])])) m k) ↔ Rww c [x, e] i k :=
 ⟨fun ⟨m, h1, h2⟩ => (h1.wide (by simp)).trans (star_xe h2), fun h => by
  obtain ⟨m, h1, _, h3⟩ := xe_star c x e _ i k (Nat.le_refl _) h
  exact ⟨m, h1, h3⟩⟩
theorem exs2 (c : List Int) (x y e : Int) (i k : Nat) : (∃ m, Rww c [e] i m /\ ∃ j, Star (led c (.mk 2 [] [(.mk 1 [x] []), (.mk 4 [] [(.mk 1 [e] [])])])) m j /\ Star (led c (.mk 2 [] [(.mk 1 [y] []), (.mk 4 [] [(.mk 1 [e] [])])])) j k) ↔ ∃ j, Rww c [x, e] i j /\ Rww c [y, e] j k := by
 constructor
 ·rintro ⟨m, h1, j, h2, h3⟩
  exact ⟨j, (exs c x e i j).1 ⟨m, h1, h2⟩, star_xe h3⟩
 ·rintro ⟨j, h1, h2⟩
  obtain ⟨m2, h3, _, h4⟩ := xe_star c y e _ j k (Nat.le_refl _) h2
  obtain ⟨m, h5, h6⟩ := (exs c x e i m2).2 (h1.trans (h3.wide (by simp)))
  exact ⟨m, h5, m2, h6, h4⟩
def Msk (x : Nat) (S : List Int) : Prop := ∀ z : Int, 0 <= z /\ z <= 13 -> (shas x z = true ↔ z ∈ S)
theorem rw_has {c S : List Int} {x : Nat} (hc : Cls c) (hx : Msk x S) {i k : Nat} (hk : k <= c.length) : Rww c S i k ↔ i <= k /\ ∀ m, i <= m -> m < k -> shas x (c.getD m 0) = true := by
 unfold Rww
 refine and_congr_right fun _ => forall_congr' fun m => forall_congr' fun _ => forall_congr' fun hm => ?_
 have hml : m < c.length := by omega
 have hg := getD_at hml
 have hcl := hc (c.getD m 0) (List.mem_of_getElem? hg)
 rw [hx _ hcl, hg]
 exact ⟨fun ⟨z, h1, h2⟩ => by cases h1; exact h2, fun h => ⟨_, rfl, h⟩⟩
theorem en_run {c S T : List Int} {x : Nat} (hc : Cls c) (hx : Msk x S) (hT : ∀ z ∈ T, z ∉ S /\ z ≠ 0) {k : Nat} (hk : k <= c.length) : (∃ i, (∃ z, c[i]? = some z /\ z ∈ T) /\ Rww c S (i + 1) k) ↔ ((bkc c k).dropWhile (shas x)).headD 0 ∈ T := by
 have hle := stp_le c (shas x) k
 rw [stp_dw c _ k hk]
 constructor
 ·rintro ⟨i, ⟨z, h1, h2⟩, h3⟩
  have hil := (List.getElem?_eq_some_iff.1 h1).1
  obtain ⟨h4, h5⟩ := (rw_has hc hx hk).1 h3
  have hcl := hc z (List.mem_of_getElem? h1)
  have hz : c.getD i 0 = z := by rw [List.getD_eq_getElem?_getD, h1]; rfl
  have e := stp_eq (f := shas x) h4 h5 (.inr (by
   rw [Nat.add_sub_cancel, hz, Bool.eq_false_iff]; exact fun h => (hT z h2).1 ((hx z hcl).1 h)))
  rw [e, bkc_s hil, List.headD_cons, hz]; exact h2
 ·intro h
  obtain ⟨z, hz⟩ : ∃ z, z = (bkc c (stp c (shas x) k)).headD 0 := ⟨_, rfl⟩
  rw [<- hz] at h
  obtain ⟨h1, h2⟩ := (bkc_head (by omega) (hT z h).2).1 hz.symm
  refine ⟨stp c (shas x) k - 1, ⟨z, ?_, h⟩, ?_⟩
  ·rw [getD_at (by omega), h2]
  ·rw [show stp c (shas x) k - 1 + 1 = stp c (shas x) k by omega]
   exact (rw_has hc hx hk).2 ⟨hle, fun m h3 h4 => stp_in c _ k m h3 h4⟩
theorem en_run2 {c S S2 T : List Int} {x y : Nat} (hc : Cls c) (hx : Msk x S) (hy : Msk y S2) (hT : ∀ z ∈ T, z ∉ S /\ z ∉ S2 /\ z ≠ 0) {k : Nat} (hk : k <= c.length) : (∃ i, (∃ z, c[i]? = some z /\ z ∈ T) /\ ∃ j, Rww c S (i + 1) j /\ Rww c S2 j k) ↔ (((bkc c k).dropWhile (shas y)).dropWhile (shas x)).headD 0 ∈ T := by
 have hle := stp_le c (shas y) k
 rw [stp_dw c _ k hk, <- en_run hc hx (fun z hz => ⟨(hT z hz).1, (hT z hz).2.2⟩) (Nat.le_trans hle hk)]
 constructor
 ·rintro ⟨i, ⟨z, h1, h2⟩, j, h3, h4⟩
  have hcl := hc z (List.mem_of_getElem? h1)
  have hz : c.getD i 0 = z := by rw [List.getD_eq_getElem?_getD, h1]; rfl
  obtain ⟨h5, h6⟩ := (rw_has hc hy hk).1 h4
  have h30 := h3.1
  have hzf : shas y z = false := by
   rw [Bool.eq_false_iff]; exact fun h => (hT z h2).2.1 ((hy z hcl).1 h)
  have k1 : stp c (shas y) k <= j := by
   rcases Nat.lt_or_ge j (stp c (shas y) k) with h | h
   ·have h7 := stp_out c (shas y) k (by omega)
    rw [h6 _ (by omega) (by omega)] at h7
    cases h7
   ·exact h
  have k2 : i + 1 <= stp c (shas y) k := by
   rcases Nat.lt_or_ge i (stp c (shas y) k) with h | h
   ·exact h
   ·have h7 := stp_in c (shas y) k i h (by omega)
    rw [hz, hzf] at h7
    cases h7
  exact ⟨i, ⟨z, h1, h2⟩, k2, fun m h7 h8 => h3.2 m h7 (by omega)⟩
 ·rintro ⟨i, h1, h2⟩
  exact ⟨i, h1, _, h2, (rw_has hc hy hk).2 ⟨hle, fun m h3 h4 => stp_in c _ k m h3 h4⟩⟩
theorem mE : Msk 8192 [13] := fun z hz => by rw [shE z hz]; simp
theorem mS : Msk 8208 [4, 13] := fun z hz => by rw [shS z hz]; simp
theorem mC : Msk 10240 [11, 13] := fun z hz => by rw [shC z hz]; simp
theorem en5 {c : List Int} (hc : Cls c) {k : Nat} (hk : k <= c.length) : En c snP5 k ↔ ((bkc c k).dropWhile (shas 8192)).headD 0 = 9 := by
 have h := en_run (T := [9]) hc mE (by simp) hk
 rw [List.mem_singleton] at h
 rw [<- h]
 unfold En snP5
 simp only [led_xe, List.mem_singleton]
 constructor
 ·rintro ⟨i, _, h1, h2⟩
  exact ⟨i, ⟨9, h1, rfl⟩, h2⟩
 ·rintro ⟨i, ⟨z, h1, rfl⟩, h2⟩
  have := h2.1
  exact ⟨i, by omega, h1, h2⟩
theorem en7 {c : List Int} (hc : Cls c) {k : Nat} (hk : k <= c.length) : En c snP7 k ↔ (((bkc c k).dropWhile (shas 8192)).headD 0 = 9 /\ csdR ((bkc c k).dropWhile (shas 8192)).tail = true) := by
 have hle := stp_le c (shas 8192) k
 rw [stp_dw c _ k hk]
 have e1 : En c snP7 k ↔ ∃ m, c[m]? = some 9 /\ Rww c [13] (m + 1) k /\ (∃ i, (∃ z, c[i]? = some z /\ z ∈ [6, 5]) /\ Rww c [13] (i + 1) m) := by
  unfold En snP7
  simp only [led2, ledT_s, ledT_0, led3, ledO_s, ledO_0, led4, star_rw, led1, List.mem_cons, List.not_mem_nil, or_false]
  constructor
  ·rintro ⟨i, _, _, h1, m, h2, _, ⟨rfl, z, h3, rfl⟩, _, h4, rfl⟩
   rcases h1 with ⟨rfl, z, h1, rfl⟩ | ⟨rfl, z, h1, rfl⟩
   ·exact ⟨m, h3, h4, i, ⟨6, h1, .inl rfl⟩, h2⟩
   ·exact ⟨m, h3, h4, i, ⟨5, h1, .inr rfl⟩, h2⟩
  ·rintro ⟨m, h3, h4, i, ⟨z, h1, hz⟩, h2⟩
   have := h4.1
   have := h2.1
   refine ⟨i, by omega, i + 1, ?_, m, h2, m + 1, ⟨rfl, 9, h3, rfl⟩, k, h4, rfl⟩
   rcases hz with rfl | rfl
   ·exact .inl ⟨rfl, 6, h1, rfl⟩
   ·exact .inr ⟨rfl, 5, h1, rfl⟩
 rw [e1]
 have cs : ∀ m, m <= c.length -> (csdR (bkc c m) = true ↔ ∃ i, (∃ z, c[i]? = some z /\ z ∈ ([6, 5] : List Int)) /\ Rww c [13] (i + 1) m) := fun m hm => by
  rw [en_run (T := [6, 5]) hc mE (by simp) hm]
  unfold csdR
  simp
 constructor
 ·rintro ⟨m, h1, h2, h3⟩
  have hml := (List.getElem?_eq_some_iff.1 h1).1
  obtain ⟨h4, h5⟩ := (rw_has hc mE hk).1 h2
  have hz : c.getD m 0 = 9 := by rw [List.getD_eq_getElem?_getD, h1]; rfl
  have e := stp_eq (f := shas 8192) h4 h5 (.inr (by rw [Nat.add_sub_cancel, hz]; decide))
  rw [e, bkc_s hml, List.headD_cons, List.tail_cons]; exact ⟨hz, (cs m (Nat.le_of_lt hml)).2 h3⟩
 ·rintro ⟨h1, h2⟩
  obtain ⟨h3, h4⟩ := (bkc_head (by omega) (by decide)).1 h1
  obtain ⟨m, hm⟩ : ∃ m, stp c (shas 8192) k = m + 1 := ⟨stp c (shas 8192) k - 1, by omega⟩
  rw [hm] at h2 h4 hle
  rw [bkc_s (by omega), List.tail_cons] at h2
  rw [Nat.add_sub_cancel] at h4
  refine ⟨m, by rw [getD_at (by omega), h4], (rw_has hc mE hk).2 ⟨hle, fun j h5 h6 => stp_in c _ k j (by omega) h6⟩, (cs m (by omega)).1 h2⟩
theorem en9 {c : List Int} (hc : Cls c) {k : Nat} (hk : k <= c.length) : En c snP9 k ↔ (d2 (bkc c k)).headD 0 = 9 := by
 have h := en_run2 (T := [9]) hc mC mS (by simp) hk
 rw [List.mem_singleton] at h
 unfold d2
 rw [<- h]
 unfold En snP9
 simp only [led2, ledT_s, ledT_0, led4, star_rw, led1, List.mem_singleton]
 constructor
 ·rintro ⟨i, _, _, ⟨rfl, z, h1, rfl⟩, m, h2, x, h3, y, h4, rfl⟩
  exact ⟨i, ⟨9, h1, rfl⟩, (exs2 c 11 4 13 _ _).1 ⟨m, h2, x, h3, h4⟩⟩
 ·rintro ⟨i, ⟨z, h1, rfl⟩, j, h2, h3⟩
  have := h2.1
  have := h3.1
  obtain ⟨m, k1, x, k2, k3⟩ := (exs2 c 11 4 13 (i + 1) k).2 ⟨j, h2, h3⟩
  exact ⟨i, by omega, _, ⟨rfl, _, h1, rfl⟩, m, k1, x, k2, k, k3, rfl⟩
theorem en11 {c : List Int} (hc : Cls c) {k : Nat} (hk : k <= c.length) : En c snP11 k ↔ ((d2 (bkc c k)).headD 0 = 9 \/ (d2 (bkc c k)).headD 0 = 10) := by
 have h := en_run2 (T := [9, 10]) hc mC mS (by simp) hk
 simp only [List.mem_cons, List.not_mem_nil, or_false] at h
 unfold d2
 rw [<- h]
 unfold En snP11
 simp only [led2, ledT_s, ledT_0, led3, ledO_s, ledO_0, led4, star_rw, led1, List.mem_singleton, or_false]
 constructor
 ·rintro ⟨i, _, _, h1, m, h2, x, h3, y, h4, rfl⟩
  rcases h1 with ⟨rfl, z, h1, rfl⟩ | ⟨rfl, z, h1, rfl⟩
  ·exact ⟨i, ⟨9, h1, .inl rfl⟩, (exs2 c 11 4 13 _ _).1 ⟨m, h2, x, h3, h4⟩⟩
  ·exact ⟨i, ⟨10, h1, .inr rfl⟩, (exs2 c 11 4 13 _ _).1 ⟨m, h2, x, h3, h4⟩⟩
 ·rintro ⟨i, ⟨z, h1, hz⟩, j, h2, h3⟩
  have := h2.1
  have := h3.1
  obtain ⟨m, k1, x, k2, k3⟩ := (exs2 c 11 4 13 (i + 1) k).2 ⟨j, h2, h3⟩
  refine ⟨i, by omega, i + 1, ?_, m, k1, x, k2, k, k3, rfl⟩
  rcases hz with rfl | rfl
  ·exact .inl ⟨rfl, _, h1, rfl⟩
  ·exact .inr ⟨rfl, _, h1, rfl⟩
theorem en13 {c : List Int} (hc : Cls c) {k : Nat} (hk : k <= c.length) : En c snP13 k ↔ ((d3 (bkc c k)).headD 0 = 9 \/ (d3 (bkc c k)).headD 0 = 10) := by
 have h := en_run (T := [9, 10]) hc mC (by simp) hk
 simp only [List.mem_cons, List.not_mem_nil, or_false] at h
 unfold d3
 rw [<- h]
 unfold En snP13
 simp only [led2, ledT_s, ledT_0, led3, ledO_s, ledO_0, led4, star_rw, led1, List.mem_singleton, or_false]
 constructor
 ·rintro ⟨i, _, _, h1, m, h2, x, h3, rfl⟩
  rcases h1 with ⟨rfl, z, h1, rfl⟩ | ⟨rfl, z, h1, rfl⟩
  ·exact ⟨i, ⟨9, h1, .inl rfl⟩, (exs c 11 13 _ _).1 ⟨m, h2, h3⟩⟩
  ·exact ⟨i, ⟨10, h1, .inr rfl⟩, (exs c 11 13 _ _).1 ⟨m, h2, h3⟩⟩
 ·rintro ⟨i, ⟨z, h1, hz⟩, h2⟩
  have := h2.1
  obtain ⟨m, k1, k2⟩ := (exs c 11 13 (i + 1) k).2 h2
  refine ⟨i, by omega, i + 1, ?_, m, k1, k, k2, rfl⟩
  rcases hz with rfl | rfl
  ·exact .inl ⟨rfl, _, h1, rfl⟩
  ·exact .inr ⟨rfl, _, h1, rfl⟩
theorem go_set (z : Int) (hz : 0 <= z /\ z <= 13) : shas 14609 z = true ↔ z ∈ ([0, 4, 8, 11, 12, 13] : List Int) := all14 (fun z => shas 14609 z = true ↔ z ∈ ([0, 4, 8, 11, 12, 13] : List Int)) (by decide) z hz
theorem go_at {c : List Int} (hc : Cls c) : ∀ (n k : Nat), c.length - k <= n -> (goR (c.drop k) = true ↔ ∃ m, Rww c [0, 4, 8, 11, 12, 13] k m /\ c[m]? = some 5)
 | n, k, hn => by
  by_cases hk : k < c.length
  ·cases n with
   | zero => omega
   | succ n =>
    have hg := getD_at hk
    have hcl := hc (c.getD k 0) (List.mem_of_getElem? hg)
    have hd : c.drop k = c.getD k 0 :: c.drop (k + 1) := by
     rw [List.drop_eq_getElem_cons hk, List.getD_eq_getElem?_getD, List.getElem?_eq_getElem hk]; rfl
    have hs := go_set _ hcl
    rw [hd]
    generalize c.getD k 0 = z at hg hs
    unfold goR
    cases hf : shas 14609 z with
    | true =>
     rw [if_pos rfl, go_at hc n (k + 1) (by omega)]
     constructor
     ·rintro ⟨m, h1, h2⟩
      exact ⟨m, (Rww.one hg (hs.1 hf)).trans h1, h2⟩
     ·rintro ⟨m, h1, h2⟩
      have h0 := h1.1
      have : k ≠ m := fun e => by
       subst e; rw [hg] at h2
       cases h2
       revert hf
       decide
      exact ⟨m, ⟨by omega, fun j h3 h4 => h1.2 j (by omega) h4⟩, h2⟩
    | false =>
     rw [if_neg (by simp)]
     constructor
     ·intro h
      have h5 : z = 5 := by simpa using h
      exact ⟨k, .nil _ _ _, by rw [hg, h5]⟩
     ·rintro ⟨m, h1, h2⟩
      have h0 := h1.1
      rcases Nat.eq_or_lt_of_le h0 with e | e
      ·subst e
       rw [hg] at h2
       cases h2
       rfl
      ·obtain ⟨y, h3, h4⟩ := h1.2 k (Nat.le_refl _) e
       rw [hg] at h3
       cases h3
       have := hs.2 h4
       rw [hf] at this
       cases this
  ·rw [List.drop_of_length_le (by omega)]
   constructor
   ·intro h; cases h
   ·rintro ⟨m, h1, h2⟩
    have := (List.getElem?_eq_some_iff.1 h2).1
    have := h1.1
    omega
theorem sw10 {c : List Int} (hc : Cls c) {k : Nat} : Sw c snP10 k ↔ goR (c.drop k) = true := by
 rw [go_at hc _ k (Nat.le_refl _)]
 unfold Sw snP10
 simp only [led2, ledT_s, ledT_0, led4, star_rw, led1, List.mem_singleton]
 constructor
 ·rintro ⟨j, _, _, m, h1, _, ⟨rfl, z, h2, rfl⟩, rfl⟩
  exact ⟨m, h1, h2⟩
 ·rintro ⟨m, h1, h2⟩
  have := (List.getElem?_eq_some_iff.1 h2).1
  have := h1.1
  exact ⟨m + 1, by omega, by omega, m, h1, m + 1, ⟨rfl, 5, h2, rfl⟩, rfl⟩
def snD (a b : Int) (x9 cs m9 m10 dd g : Bool) : Bool :=
 bif decide (a = 1) && decide (b = 2) then false else bif decide (a = 1) || (decide (a = 2) || decide (a = 3)) then true else bif decide (b = 13) then false
 else bif x9 && decide (b = 8) then false else bif (x9 && cs) && decide (b = 6) then false else bif m9 && g then false
 else bif (m9 || m10) && (decide (b = 12) || (decide (b = 9) || decide (b = 10))) then false
 else bif dd && (decide (b = 11) || (decide (b = 4) || (decide (b = 3) || (decide (b = 1) || decide (b = 2))))) then false
 else bif (m9 || m10) && (decide (b = 4) || (decide (b = 3) || (decide (b = 1) || decide (b = 2)))) then false else bif m9 || m10 then true else false
def snC (a b : Int) (x9 cs m9 m10 e4 g : Bool) : Bool :=
 if a == 1 && b == 2 then false else if shas 14 a then true else if shas 13854 b then false
 else if b == 11 && !e4 then false else if x9 && b == 8 then false else if x9 && b == 6 && cs then false else if m10 then true else if m9 then !g else false
def snB (a b : Int) : Bool := [true, false].all fun x9 => [true, false].all fun cs => [true, false].all fun m9 => [true, false].all fun m10 => [true, false].all fun dd => [true, false].all fun e4 => [true, false].all fun g =>
 (m9 && m10) || ((m9 || m10) && (dd == e4)) || (g && (b == 6 || (b == 1 || b == 2 || b == 3))) || (snD a b x9 cs m9 m10 dd g == snC a b x9 cs m9 m10 e4 g)
theorem snB_all : ((List.range 14).all fun a => (List.range 14).all fun b => snB a b) = true := by decide +kernel
theorem snB_at {a b : Int} (ha : 0 <= a /\ a <= 13) (hb : 0 <= b /\ b <= 13) {x9 cs m9 m10 dd e4 g : Bool} (h1 : ¬ (m9 = true /\ m10 = true)) (h2 : (m9 || m10) = true -> dd = !e4) (h3 : g = true -> b ≠ 6 /\ b ≠ 1 /\ b ≠ 2 /\ b ≠ 3) : snD a b x9 cs m9 m10 dd g = snC a b x9 cs m9 m10 e4 g := by
 obtain ⟨an, rfl⟩ : ∃ n : Nat, a = n := ⟨a.toNat, by omega⟩
 obtain ⟨bn, rfl⟩ : ∃ n : Nat, b = n := ⟨b.toNat, by omega⟩
 have k1 := List.all_eq_true.1 snB_all an (List.mem_range.2 (by omega))
 have k2 := List.all_eq_true.1 k1 bn (List.mem_range.2 (by omega))
 unfold snB at k2
 have al : ∀ {p : Bool -> Bool}, [true, false].all p = true -> ∀ x, p x = true := fun {p} h x => List.all_eq_true.1 h x (by cases x <;> simp)
 have k3 := al (al (al (al (al (al (al k2 x9) cs) m9) m10) dd) e4) g
 rw [Bool.or_eq_true, Bool.or_eq_true, Bool.or_eq_true] at k3
 rcases k3 with ((k | k) | k) | k
 ·rw [Bool.and_eq_true] at k; exact absurd k h1
 ·rw [Bool.and_eq_true] at k
  have := h2 k.1
  have k4 := eq_of_beq k.2
  rw [this] at k4
  cases e4 <;> cases k4
 ·rw [Bool.and_eq_true] at k
  obtain ⟨e1, e2, e3, e5⟩ := h3 k.1
  have k5 := k.2
  simp only [Bool.or_eq_true, beq_iff_eq] at k5
  omega
 ·exact eq_of_beq k
theorem sn_dcd {c : List Int} (hc : Cls c) {k : Nat} (hk : 0 < k) (hkn : k < c.length) : dcd false c k snRs = cutR (c.take k).reverse (c.drop k) := by
 have hkl : k <= c.length := Nat.le_of_lt hkn
 have ha : c[k - 1]? = some (c.getD (k - 1) 0) := getD_at (by omega)
 have hb : c[k]? = some (c.getD k 0) := getD_at hkn
 have hA : (c.take k).reverse = bkc c k := rfl
 have hAh : (bkc c k).headD 0 = c.getD (k - 1) 0 := by
  obtain ⟨j, rfl⟩ : ∃ j, k = j + 1 := ⟨k - 1, by omega⟩
  rw [bkc_s (by omega), List.headD_cons, Nat.add_sub_cancel]
 have hBh : (c.drop k).headD 0 = c.getD k 0 := by
  rw [List.drop_eq_getElem_cons hkn, List.headD_cons, List.getD_eq_getElem?_getD, List.getElem?_eq_getElem hkn]; rfl
 have clA : Cls (bkc c k) := cls_take hc k
 have hm := mrk_d2 (bkc c k) clA
 obtain ⟨A, hAe⟩ : ∃ A, A = bkc c k := ⟨_, rfl⟩
 have E5 := en5 hc hkl
 have E7 := en7 hc hkl
 have E9 := en9 hc hkl
 have E11 := en11 hc hkl
 have E13 := en13 hc hkl
 have S10 := sw10 hc (k := k)
 rw [<- hAe] at E5 E7 E9 E11 E13 hAh hm clA
 -- what stands behind the marks
 have hd : ((d2 A).headD 0 = 9 \/ (d2 A).headD 0 = 10) -> (((d3 A).headD 0 = 9 \/ (d3 A).headD 0 = 10) ↔ ¬ (A.dropWhile (shas 8192)).headD 0 = 4) := by
  have clE : Cls (A.dropWhile (shas 8192)) := fun z hz => clA z ((List.dropWhile_sublist _).subset hz)
  have q2 : d2 A = ((A.dropWhile (shas 8192)).dropWhile (shas 8208)).dropWhile (shas 10240) := by
   unfold d2
   rw [dw_dw (shas 8192) (shas 8208) A (fun c hc h1 => (shS c (clA c hc)).2 (.inr ((shE c (clA c hc)).1 h1)))]
  have q3 : d3 A = (A.dropWhile (shas 8192)).dropWhile (shas 10240) := by
   unfold d3
   rw [dw_dw (shas 8192) (shas 10240) A (fun c hc h1 => (shC c (clA c hc)).2 (.inr ((shE c (clA c hc)).1 h1)))]
  have hne : ∀ z Z, A.dropWhile (shas 8192) = z :: Z -> shas 8192 z = false := fun z Z e => by
   have := List.head?_dropWhile_not (shas 8192) A
   rw [e] at this
   simpa using this
  intro h
  rw [q3]; rw [q2] at h
  generalize A.dropWhile (shas 8192) = Y at h clE hne
  cases Y with
  | nil => rcases h with h | h <;> cases h
  | cons z Z =>
   have hz := clE z (by simp)
   have h13 : z ≠ 13 := fun e => by
    have := hne z Z rfl
    rw [e] at this
    revert this
    decide
   rw [List.headD_cons]
   by_cases h4 : z = 4
   ·subst h4
    rw [List.dropWhile_cons_of_neg (by decide), List.headD_cons]
    decide
   ·have hs : shas 8208 z = false := by
     rw [Bool.eq_false_iff, Ne, shS z hz]; omega
    rw [List.dropWhile_cons_of_neg (by rw [hs]; simp)] at h
    exact ⟨fun _ => h4, fun _ => h⟩
 have hg : goR (c.drop k) = true -> c.getD k 0 ≠ 6 /\ c.getD k 0 ≠ 1 /\ c.getD k 0 ≠ 2 /\ c.getD k 0 ≠ 3 := by
  intro h
  have e : c.drop k = c.getD k 0 :: c.drop (k + 1) := by
   rw [List.drop_eq_getElem_cons hkn, List.getD_eq_getElem?_getD, List.getElem?_eq_getElem hkn]; rfl
  rw [e] at h
  generalize c.getD k 0 = b at h
  unfold goR at h
  refine ⟨fun e => ?_, fun e => ?_, fun e => ?_, fun e => ?_⟩ <;> (subst e; revert h; rw [if_neg (by decide)]; decide)
 have cA := hc _ (List.mem_of_getElem? ha)
 have cB := hc _ (List.mem_of_getElem? hb)
 have e2 : cutR (c.take k).reverse (c.drop k) = snC (c.getD (k - 1) 0) (c.getD k 0) ((A.dropWhile (shas 8192)).headD 0 == 9) (csdR (A.dropWhile (shas 8192)).tail) ((d2 A).headD 0 == 9) ((d2 A).headD 0 == 10) ((A.dropWhile (shas 8192)).headD 0 == 4) (goR (c.drop k)) := by
  unfold cutR snC
  rw [hA, <- hAe, hAh, hBh]
  unfold prtR
  rw [hBh, hm]
  rfl
 rw [e2]
 generalize c.getD (k - 1) 0 = a at ha cA
 generalize c.getD k 0 = b at hb cB hg
 obtain ⟨x9, hx9⟩ : ∃ x : Bool, x = ((A.dropWhile (shas 8192)).headD 0 == 9) := ⟨_, rfl⟩
 obtain ⟨cs, hcs⟩ : ∃ x : Bool, x = csdR (A.dropWhile (shas 8192)).tail := ⟨_, rfl⟩
 obtain ⟨m9, hm9⟩ : ∃ x : Bool, x = ((d2 A).headD 0 == 9) := ⟨_, rfl⟩
 obtain ⟨m10, hm10⟩ : ∃ x : Bool, x = ((d2 A).headD 0 == 10) := ⟨_, rfl⟩
 obtain ⟨e4, he4⟩ : ∃ x : Bool, x = ((A.dropWhile (shas 8192)).headD 0 == 4) := ⟨_, rfl⟩
 obtain ⟨dd, hdd⟩ : ∃ x : Bool, x = ((d3 A).headD 0 == 9 || (d3 A).headD 0 == 10) := ⟨_, rfl⟩
 obtain ⟨g, hgg⟩ : ∃ x : Bool, x = goR (c.drop k) := ⟨_, rfl⟩
 rw [<- hx9, <- hcs, <- hm9, <- hm10, <- he4, <- hgg]
 have F5 : En c snP5 k ↔ x9 = true := by rw [E5, hx9, beq_iff_eq]
 have F7 : En c snP7 k ↔ (x9 && cs) = true := by rw [E7, Bool.and_eq_true, hx9, hcs, beq_iff_eq]
 have F9 : En c snP9 k ↔ m9 = true := by rw [E9, hm9, beq_iff_eq]
 have F11 : En c snP11 k ↔ (m9 || m10) = true := by rw [E11, Bool.or_eq_true, hm9, hm10, beq_iff_eq, beq_iff_eq]
 have F13 : En c snP13 k ↔ dd = true := by rw [E13, hdd, Bool.or_eq_true, beq_iff_eq, beq_iff_eq]
 have G10 : Sw c snP10 k ↔ g = true := by rw [S10, hgg]
 refine Eq.trans ?_ (snB_at (dd := dd) cA cB (fun h => ?_) (fun h => ?_) (fun h => hg (by rw [<- hgg]; exact h)))
 ·unfold snRs snD
  rw [dcd_cons (d := decide (a = 1) && decide (b = 2)) (by rw [app_plain]; unfold snP0 snP1; rw [en_set hk ha, sn_set hb]; simp)]
  rw [dcd_cons (d := decide (a = 1) || (decide (a = 2) || decide (a = 3))) (by rw [app_plain]; unfold snP2 snP3; simp only [en_or, enO_s, enO_0, en_set hk ha, sn_emp hkl]; simp)]
  rw [dcd_cons (d := decide (b = 13)) (by rw [app_plain]; unfold snP3 snP4; simp only [sn_set hb, en_emp]; simp)]
  rw [dcd_cons (d := x9 && decide (b = 8)) (by rw [app_plain, F5]; unfold snP6; simp only [sn_set hb]; simp)]
  rw [dcd_cons (d := (x9 && cs) && decide (b = 6)) (by rw [app_plain, F7]; unfold snP8; simp only [sn_set hb]; simp)]
  rw [dcd_cons (d := m9 && g) (by rw [app_plain, F9, G10]; simp)]
  rw [dcd_cons (d := (m9 || m10) && (decide (b = 12) || (decide (b = 9) || decide (b = 10)))) (by rw [app_plain, F11]; unfold snP12; simp only [sn_or, snO_s, snO_0, sn_set hb]; simp)]
  rw [dcd_cons (d := dd && (decide (b = 11) || (decide (b = 4) || (decide (b = 3) || (decide (b = 1) || decide (b = 2)))))) (by rw [app_plain, F13]; unfold snP14; simp only [sn_or, snO_s, snO_0, sn_set hb]; simp)]
  rw [dcd_cons (d := (m9 || m10) && (decide (b = 4) || (decide (b = 3) || (decide (b = 1) || decide (b = 2))))) (by rw [app_plain, F11]; unfold snP15; simp only [sn_or, snO_s, snO_0, sn_set hb]; simp)]
  rw [dcd_cons (d := m9 || m10) (by rw [app_plain, F11]; unfold snP3; simp only [sn_emp hkl]; simp)]
  rw [dcd_nil]
 ·obtain ⟨h1, h2⟩ := h
  rw [hm9, beq_iff_eq] at h1
  rw [hm10, beq_iff_eq, h1] at h2
  cases h2
 ·have h' : (d2 A).headD 0 = 9 \/ (d2 A).headD 0 = 10 := by
   rw [Bool.or_eq_true, hm9, hm10, beq_iff_eq, beq_iff_eq] at h
   exact h
  have := hd h'
  rw [hdd, he4]; rw [Bool.eq_iff_iff, Bool.or_eq_true, beq_iff_eq, beq_iff_eq, this]
  simp
end Pt
end Go.Proofs.YtdpohgoikbeplaaGreatDoor
