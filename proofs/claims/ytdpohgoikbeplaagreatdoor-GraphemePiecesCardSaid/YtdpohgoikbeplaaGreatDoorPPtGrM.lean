/- PtGrM: parts of the proof, joined. -/
import Derived.Test.YtdpohgoikbeplaaGreatDoorPUMath
import Derived.Test.YtdpohgoikbeplaaGreatDoorPPtGrPs
namespace Go.Proofs.YtdpohgoikbeplaaGreatDoor
namespace Pt
open Wt
def En (c : List Int) (p : Pat) (k : Nat) : Prop := ∃ i, i <= k /\ led c p i k
def Sn (c : List Int) (p : Pat) (k : Nat) : Prop := ∃ j, k <= j /\ j <= c.length /\ led c p k j
theorem led0 (c : List Int) (i k : Nat) : led c (.mk 0 [] []) i k ↔ i = k := by
 unfold led
 simp
theorem led1 (c cls : List Int) (kids : List Pat) (i k : Nat) : led c (.mk 1 cls kids) i k ↔ k = i + 1 /\ ∃ z, c[i]? = some z /\ z ∈ cls := by
 unfold led
 simp
theorem led2 (c cls : List Int) (ks : List Pat) (i k : Nat) : led c (.mk 2 cls ks) i k ↔ ledT c ks i k := by
 unfold led
 simp
theorem led3 (c cls : List Int) (ks : List Pat) (i k : Nat) : led c (.mk 3 cls ks) i k ↔ ledO c ks i k := by
 unfold led
 simp
theorem led4 (c cls : List Int) (p : Pat) (ps : List Pat) (i k : Nat) : led c (.mk 4 cls (p :: ps)) i k ↔ Star (led c p) i k := by
 have h : ledH c (p :: ps) = led c p := by rw [ledH]
 conv => lhs; unfold led
 simp [h]
theorem ledT_0 (c : List Int) (i k : Nat) : ledT c [] i k ↔ i = k := by rw [ledT_nil]
theorem ledT_s (c : List Int) (p : Pat) (ps : List Pat) (i k : Nat) : ledT c (p :: ps) i k ↔ ∃ j, led c p i j /\ ledT c ps j k := by rw [ledT_cons]; exact Iff.rfl
theorem ledT_1 (c : List Int) (p : Pat) (i k : Nat) : ledT c [p] i k ↔ led c p i k := by
 rw [ledT_s]
 constructor
 ·rintro ⟨j, h1, h2⟩
  rw [ledT_0] at h2
  exact h2 ▸ h1
 ·intro h; exact ⟨k, h, (ledT_0 _ _ _).2 rfl⟩
theorem ledO_0 (c : List Int) (i k : Nat) : ledO c [] i k ↔ False := by rw [ledO]
theorem ledO_s (c : List Int) (p : Pat) (ps : List Pat) (i k : Nat) : ledO c (p :: ps) i k ↔ led c p i k \/ ledO c ps i k := by rw [ledO]
theorem star_set (c cls : List Int) (kids : List Pat) (i k : Nat) : Star (led c (.mk 1 cls kids)) i k ↔ i <= k /\ ∀ m, i <= m -> m < k -> ∃ z, c[m]? = some z /\ z ∈ cls := by
 constructor
 ·intro h
  induction h with
  | refl => exact ⟨Nat.le_refl _, fun m h1 h2 => by omega⟩
  | step h1 _ ih =>
   rw [led1] at h1
   obtain ⟨rfl, hz⟩ := h1
   obtain ⟨h2, h3⟩ := ih
   refine ⟨by omega, fun m k1 k2 => ?_⟩
   rcases Nat.eq_or_lt_of_le k1 with e2 | e2
   ·exact e2 ▸ hz
   ·exact h3 m e2 k2
 ·rintro ⟨h1, h2⟩
  obtain ⟨n, rfl⟩ : ∃ n, k = i + n := ⟨k - i, by omega⟩
  clear h1
  induction n generalizing i with
  | zero => exact .refl _
  | succ n ih =>
   refine .step (j := i + 1) ((led1 _ _ _ _ _).2 ⟨rfl, h2 i (Nat.le_refl _) (by omega)⟩) ?_
   have := ih (i + 1) (fun m k1 k2 => h2 m (by omega) (by omega))
   rwa [show i + 1 + n = i + (n + 1) by omega] at this
def nxs (q b : Int) : Int := (nx q b).getD b
def stt (c : List Int) : Nat -> Int
 | 0 => c.getD 0 0
 | i + 1 => nxs (stt c i) (c.getD (i + 1) 0)
def nxC (q b : Int) : Bool :=
 (decide (nxs q b = 12) == (decide (b = 12) || (decide (q = 12) && decide (b = 4)))) &&
 (decide (nxs q b = 14) == (decide (q = 12) && decide (b = 5))) &&
 (decide (nxs q b = 15) == (decide (q = 13) && decide (b = 13))) &&
 (decide (nxs q b = 13) == (decide (b = 13) && !decide (q = 13))) &&
 decide (0 <= nxs q b) && decide (nxs q b <= 15) && decide (Cs (nxs q b) b) &&
 ((List.range 14).all fun (a : Nat) => !decide (Cs q (a : Int)) || ((nx q b).isNone == (decide (gbt (a : Int) b = 0) || (decide (gbt (a : Int) b = 2) && ((decide ((a : Int) = 5) && decide (b = 12) && !decide (q = 14)) || (decide ((a : Int) = 13) && decide (b = 13) && !decide (q = 13)))))))
theorem nxC_all : ((List.range 16).all fun q => (List.range 14).all fun b => nxC q b) = true := by decide +kernel
structure NxS (q b : Int) : Prop where
 pic : nxs q b = 12 ↔ (b = 12 \/ q = 12 /\ b = 4)
 joi : nxs q b = 14 ↔ (q = 12 /\ b = 5)
 two : nxs q b = 15 ↔ (q = 13 /\ b = 13)
 one : nxs q b = 13 ↔ (b = 13 /\ q ≠ 13)
 lo : 0 <= nxs q b
 hi : nxs q b <= 15
 cs : Cs (nxs q b) b
 cut : ∀ a, Cl a -> Cs q a -> ((nx q b).isNone = true ↔ (gbt a b = 0 \/ gbt a b = 2 /\ (a = 5 /\ b = 12 /\ q ≠ 14 \/ a = 13 /\ b = 13 /\ q ≠ 13)))
theorem nxS {q b : Int} (hq : 0 <= q /\ q <= 15) (hb : Cl b) : NxS q b := by
 obtain ⟨qn, rfl⟩ : ∃ n : Nat, q = n := ⟨q.toNat, by omega⟩
 obtain ⟨bn, rfl⟩ : ∃ n : Nat, b = n := ⟨b.toNat, by have := hb.1; omega⟩
 have h1 := List.all_eq_true.1 nxC_all qn (List.mem_range.2 (by omega))
 have h2 := List.all_eq_true.1 h1 bn (List.mem_range.2 (by have := hb.2; omega))
 unfold nxC at h2
 simp only [Bool.and_eq_true, beq_iff_eq, decide_eq_true_eq] at h2
 obtain ⟨⟨⟨⟨⟨⟨⟨k1, k2⟩, k3⟩, k4⟩, k5⟩, k6⟩, k7⟩, k8⟩ := h2
 have tr : ∀ {p : Prop} [Decidable p] {b : Bool}, decide p = b -> (p ↔ b = true) := fun {p} _ {b} h => by rw [<- h, decide_eq_true_eq]
 refine ⟨?_, ?_, ?_, ?_, k5, k6, k7, ?_⟩
 ·rw [tr k1]; simp
 ·rw [tr k2]; simp
 ·rw [tr k3]; simp
 ·rw [tr k4]; simp
 ·intro a ha hc
  obtain ⟨an, rfl⟩ : ∃ n : Nat, a = n := ⟨a.toNat, by have := ha.1; omega⟩
  have h3 := List.all_eq_true.1 k8 an (List.mem_range.2 (by have := ha.2; omega))
  rw [decide_eq_true hc] at h3
  simp only [Bool.not_true, Bool.false_or, beq_iff_eq] at h3
  rw [h3]
  simp [and_assoc]
theorem getD_at {c : List Int} {i : Nat} (h : i < c.length) : c[i]? = some (c.getD i 0) := by
 rw [List.getD_eq_getElem?_getD, List.getElem?_eq_getElem h]; rfl
theorem cl_at {c : List Int} (hc : ∀ x ∈ c, Cl x) (i : Nat) : Cl (c.getD i 0) := by
 by_cases h : i < c.length
 ·rw [List.getD_eq_getElem?_getD, List.getElem?_eq_getElem h]
  exact hc _ (List.getElem_mem h)
 ·rw [List.getD_eq_getElem?_getD, List.getElem?_eq_none (by omega)]
  exact ⟨by simp, by simp⟩
theorem stt_bd {c : List Int} (hc : ∀ x ∈ c, Cl x) : ∀ i, (0 <= stt c i /\ stt c i <= 15) /\ Cs (stt c i) (c.getD i 0)
 | 0 => ⟨⟨(cl_at hc 0).1, by have := (cl_at hc 0).2; unfold stt; omega⟩, .inl rfl⟩
 | i + 1 => by
  have h := nxS (stt_bd hc i).1 (cl_at hc (i + 1))
  exact ⟨⟨h.lo, h.hi⟩, h.cs⟩
theorem stt_12 {c : List Int} (hc : ∀ x ∈ c, Cl x) : ∀ i, stt c i = 12 ↔ ∃ j, j <= i /\ c.getD j 0 = 12 /\ ∀ m, j < m -> m <= i -> c.getD m 0 = 4
 | 0 => by
  constructor
  ·intro h; exact ⟨0, Nat.le_refl _, h, fun m h1 h2 => by omega⟩
  ·rintro ⟨j, h1, h2, _⟩
   obtain rfl : j = 0 := by omega
   exact h2
 | i + 1 => by
  rw [show stt c (i + 1) = nxs (stt c i) (c.getD (i + 1) 0) from rfl, (nxS (stt_bd hc i).1 (cl_at hc (i + 1))).pic, stt_12 hc i]
  constructor
  ·rintro (h | ⟨⟨j, h1, h2, h3⟩, h4⟩)
   ·exact ⟨i + 1, Nat.le_refl _, h, fun m h1 h2 => by omega⟩
   ·refine ⟨j, by omega, h2, fun m k1 k2 => ?_⟩
    rcases Nat.eq_or_lt_of_le k2 with e | e
    ·exact e ▸ h4
    ·exact h3 m k1 (by omega)
  ·rintro ⟨j, h1, h2, h3⟩
   rcases Nat.eq_or_lt_of_le h1 with e | e
   ·exact .inl (e ▸ h2)
   ·exact .inr ⟨⟨j, by omega, h2, fun m k1 k2 => h3 m k1 (by omega)⟩, h3 (i + 1) e (Nat.le_refl _)⟩
theorem stt_14 {c : List Int} (hc : ∀ x ∈ c, Cl x) (i : Nat) : stt c i = 14 ↔ c.getD i 0 = 5 /\ ∃ j, j < i /\ c.getD j 0 = 12 /\ ∀ m, j < m -> m < i -> c.getD m 0 = 4 := by
 cases i with
 | zero =>
  constructor
  ·intro h
   have := (cl_at hc 0).2
   have h2 : c.getD 0 0 = 14 := h
   omega
  ·rintro ⟨_, j, h, _⟩
   omega
 | succ i =>
  rw [show stt c (i + 1) = nxs (stt c i) (c.getD (i + 1) 0) from rfl, (nxS (stt_bd hc i).1 (cl_at hc (i + 1))).joi, stt_12 hc i]
  constructor
  ·rintro ⟨⟨j, h1, h2, h3⟩, h4⟩
   exact ⟨h4, j, by omega, h2, fun m k1 k2 => h3 m k1 (by omega)⟩
  ·rintro ⟨h4, j, h1, h2, h3⟩
   exact ⟨⟨j, by omega, h2, fun m k1 k2 => h3 m k1 (by omega)⟩, h4⟩
def fgs (c : List Int) : Nat -> Nat
 | 0 => if c.getD 0 0 = 13 then 1 else 0
 | i + 1 => if c.getD (i + 1) 0 = 13 then fgs c i + 1 else 0
theorem fgs_s (c : List Int) (i : Nat) : fgs c (i + 1) = if c.getD (i + 1) 0 = 13 then fgs c i + 1 else 0 := rfl
theorem stt_13 {c : List Int} (hc : ∀ x ∈ c, Cl x) : ∀ i, (stt c i = 13 ↔ fgs c i % 2 = 1) /\ (stt c i = 15 ↔ fgs c i % 2 = 0 /\ 0 < fgs c i)
 | 0 => by
  have h1 := (cl_at hc 0).2
  have e : stt c 0 = c.getD 0 0 := rfl
  unfold fgs
  rw [e]
  by_cases h : c.getD 0 0 = 13
  ·rw [if_pos h, h]; simp
  ·rw [if_neg h]
   exact ⟨⟨fun k => absurd k h, fun k => by omega⟩, ⟨fun k => by omega, fun k => by omega⟩⟩
 | i + 1 => by
  have h := nxS (stt_bd hc i).1 (cl_at hc (i + 1))
  obtain ⟨i1, i2⟩ := stt_13 hc i
  have e : stt c (i + 1) = nxs (stt c i) (c.getD (i + 1) 0) := rfl
  rw [e, h.one, h.two, i1, fgs_s]
  by_cases h1 : c.getD (i + 1) 0 = 13
  ·rw [if_pos h1]
   have : stt c i ≠ 13 ↔ ¬ fgs c i % 2 = 1 := not_congr i1
   rw [this]
   constructor
   ·constructor
    ·rintro ⟨_, k⟩; omega
    ·intro k; exact ⟨h1, by omega⟩
   ·constructor
    ·rintro ⟨k, _⟩; omega
    ·intro k; exact ⟨by omega, h1⟩
  ·rw [if_neg h1]
   exact ⟨⟨fun k => absurd k.1 h1, fun k => by omega⟩, ⟨fun k => absurd k.2 h1, fun k => by omega⟩⟩
theorem star_two (c : List Int) (f : Int) (i k : Nat) : Star (led c (.mk 2 [] [(.mk 1 [f] []), (.mk 1 [f] [])])) i k ↔ ∃ n, k = i + 2 * n /\ ∀ m, i <= m -> m < k -> c[m]? = some f := by
 have h2 : ∀ i j, led c (.mk 2 [] [(.mk 1 [f] []), (.mk 1 [f] [])]) i j ↔ j = i + 2 /\ c[i]? = some f /\ c[i + 1]? = some f := fun i j => by
  rw [led2, ledT_s]
  constructor
  ·rintro ⟨x, h1, h2⟩
   rw [ledT_1, led1] at h2
   rw [led1] at h1
   obtain ⟨rfl, z, e1, e2⟩ := h1
   obtain ⟨rfl, y, e3, e4⟩ := h2
   simp only [List.mem_singleton] at e2 e4
   subst e2 e4
   exact ⟨rfl, e1, e3⟩
  ·rintro ⟨rfl, e1, e2⟩
   exact ⟨i + 1, (led1 _ _ _ _ _).2 ⟨rfl, f, e1, by simp⟩, (ledT_1 _ _ _ _).2 ((led1 _ _ _ _ _).2 ⟨rfl, f, e2, by simp⟩)⟩
 constructor
 ·intro h
  induction h with
  | refl => exact ⟨0, rfl, fun m h1 h2 => by omega⟩
  | step h1 _ ih =>
   rw [h2] at h1
   obtain ⟨rfl, e1, e2⟩ := h1
   obtain ⟨n, e3, h3⟩ := ih
   refine ⟨n + 1, by omega, fun m k1 k2 => ?_⟩
   rcases Nat.eq_or_lt_of_le k1 with e | e
   ·exact e ▸ e1
   ·rcases Nat.eq_or_lt_of_le (Nat.succ_le_of_lt e) with e | e
    ·exact (show _ + 1 = m from e) ▸ e2
    ·exact h3 m (by omega) k2
 ·rintro ⟨n, rfl, h⟩
  induction n generalizing i with
  | zero => exact .refl _
  | succ n ih =>
   refine .step (j := i + 2) ((h2 _ _).2 ⟨rfl, h i (by omega) (by omega), h (i + 1) (by omega) (by omega)⟩) ?_
   have := ih (i + 2) (fun m k1 k2 => h m (by omega) (by omega))
   rwa [show i + 2 + 2 * n = i + 2 * (n + 1) by omega] at this
theorem fgs_run {c : List Int} : ∀ i, i < c.length -> ∀ m, m <= i -> i < m + fgs c i -> c[m]? = some 13
 | 0, hi, m, h1, h2 => by
  obtain rfl : m = 0 := by omega
  unfold fgs at h2
  rw [getD_at hi]
  split at h2
  ·rename_i e; rw [e]
  ·omega
 | i + 1, hi, m, h1, h2 => by
  rw [fgs_s] at h2
  split at h2
  ·rename_i e
   rcases Nat.eq_or_lt_of_le h1 with e2 | e2
   ·rw [e2, getD_at hi, e]
   ·exact fgs_run i (by omega) m (by omega) (by omega)
  ·omega
theorem fgs_le {c : List Int} : ∀ i, fgs c i <= i + 1
 | 0 => by unfold fgs; split <;> omega
 | i + 1 => by
  have := fgs_le (c := c) i
  rw [fgs_s]
  split <;> omega
theorem fgs_stop {c : List Int} : ∀ i, i < c.length -> fgs c i <= i -> c[i - fgs c i]? ≠ some 13
 | 0, hi, h => by
  unfold fgs at h ⊢
  split at h
  ·omega
  ·rename_i e
   rw [if_neg e, getD_at (by omega)]
   exact fun k => e (Option.some.inj k)
 | i + 1, hi, h => by
  rw [fgs_s] at h ⊢
  split at h
  ·rename_i e
   rw [if_pos e]; have := fgs_stop (c := c) i (by omega) (by omega)
   rwa [show i + 1 - (fgs c i + 1) = i - fgs c i by omega]
  ·rename_i e
   rw [if_neg e, Nat.sub_zero, getD_at hi]; exact fun k => e (Option.some.inj k)
def EnO (c : List Int) (ks : List Pat) (k : Nat) : Prop := ∃ i, i <= k /\ ledO c ks i k
def SnO (c : List Int) (ks : List Pat) (k : Nat) : Prop := ∃ j, k <= j /\ j <= c.length /\ ledO c ks k j
theorem en_or (c cls : List Int) (ks : List Pat) (k : Nat) : En c (.mk 3 cls ks) k ↔ EnO c ks k := by unfold En EnO; simp only [led3]
theorem sn_or (c cls : List Int) (ks : List Pat) (k : Nat) : Sn c (.mk 3 cls ks) k ↔ SnO c ks k := by unfold Sn SnO; simp only [led3]
theorem enO_0 (c : List Int) (k : Nat) : EnO c [] k ↔ False := by unfold EnO; simp only [ledO_0, and_false, exists_false]
theorem snO_0 (c : List Int) (k : Nat) : SnO c [] k ↔ False := by unfold SnO; simp only [ledO_0, and_false, exists_false]
theorem enO_s (c : List Int) (p : Pat) (ps : List Pat) (k : Nat) : EnO c (p :: ps) k ↔ En c p k \/ EnO c ps k := by
 unfold EnO En
 simp only [ledO_s]
 exact ⟨fun ⟨i, h1, h2⟩ => h2.imp (fun h => ⟨i, h1, h⟩) fun h => ⟨i, h1, h⟩, fun h => h.elim (fun ⟨i, h1, h2⟩ => ⟨i, h1, .inl h2⟩) fun ⟨i, h1, h2⟩ => ⟨i, h1, .inr h2⟩⟩
theorem snO_s (c : List Int) (p : Pat) (ps : List Pat) (k : Nat) : SnO c (p :: ps) k ↔ Sn c p k \/ SnO c ps k := by
 unfold SnO Sn
 simp only [ledO_s]
 exact ⟨fun ⟨i, h1, h3, h2⟩ => h2.imp (fun h => ⟨i, h1, h3, h⟩) fun h => ⟨i, h1, h3, h⟩, fun h => h.elim (fun ⟨i, h1, h3, h2⟩ => ⟨i, h1, h3, .inl h2⟩) fun ⟨i, h1, h3, h2⟩ => ⟨i, h1, h3, .inr h2⟩⟩
theorem en_set {c : List Int} {k : Nat} {a : Int} (hk : 0 < k) (ha : c[k - 1]? = some a) (cls : List Int) (kids : List Pat) : En c (.mk 1 cls kids) k ↔ a ∈ cls := by
 unfold En
 simp only [led1]
 constructor
 ·rintro ⟨i, _, rfl, z, h1, h2⟩
  rw [Nat.add_sub_cancel] at ha
  rw [ha] at h1
  cases h1
  exact h2
 ·intro h
  exact ⟨k - 1, by omega, by omega, a, ha, h⟩
theorem sn_set {c : List Int} {k : Nat} {b : Int} (hb : c[k]? = some b) (cls : List Int) (kids : List Pat) : Sn c (.mk 1 cls kids) k ↔ b ∈ cls := by
 unfold Sn
 simp only [led1]
 constructor
 ·rintro ⟨j, _, _, rfl, z, h1, h2⟩
  rw [hb] at h1
  cases h1
  exact h2
 ·intro h
  have := (List.getElem?_eq_some_iff.1 hb).1
  exact ⟨k + 1, by omega, by omega, rfl, b, hb, h⟩
theorem en_emp (c : List Int) (k : Nat) : En c (.mk 0 [] []) k ↔ True := by
 unfold En
 simp only [led0, iff_true]
 exact ⟨k, Nat.le_refl _, rfl⟩
theorem sn_emp {c : List Int} {k : Nat} (hk : k <= c.length) : Sn c (.mk 0 [] []) k ↔ True := by
 unfold Sn
 simp only [led0, iff_true]
 exact ⟨k, Nat.le_refl _, hk, rfl⟩
theorem app_plain (brk : Bool) (l r : Pat) (c : List Int) (k : Nat) : App ⟨brk, false, false, l, r⟩ c k ↔ En c l k /\ Sn c r k := by
 unfold App En Sn
 simp
theorem app_start (brk : Bool) (l r : Pat) (c : List Int) (k : Nat) : App ⟨brk, true, false, l, r⟩ c k ↔ led c l 0 k /\ Sn c r k := by
 unfold App Sn
 simp only [true_implies, Bool.false_eq_true, false_implies, and_true]
 exact ⟨fun h => ⟨h.2.2, h.2.1⟩, fun h => ⟨⟨0, Nat.zero_le _, h.1⟩, h.2, h.1⟩⟩
theorem dcd_nil (rest : Bool) (c : List Int) (k : Nat) : dcd rest c k [] = rest := rfl
theorem dcd_cons {r : Rl} {c : List Int} {k : Nat} {d : Bool} (h : App r c k ↔ d = true) (rest : Bool) (rs : List Rl) : dcd rest c k (r :: rs) = bif d then r.brk else dcd rest c k rs := by
 conv => lhs; unfold dcd
 cases d with
 | true => rw [if_pos (h.2 rfl)]; rfl
 | false => rw [if_neg (fun e => by have := h.1 e; cases this)]; rfl
theorem en_pict {c : List Int} (hc : ∀ x ∈ c, Cl x) {k : Nat} (hk : 0 < k) (hkn : k <= c.length) : En c grP11 k ↔ stt c (k - 1) = 14 := by
 rw [stt_14 hc]
 unfold En grP11
 simp only [led2, ledT_s, ledT_0, led4, star_set, led1, List.mem_singleton]
 constructor
 ·rintro ⟨i, _, j, ⟨rfl, z, h1, rfl⟩, m, ⟨h2, h3⟩, x, ⟨rfl, y, h4, rfl⟩, rfl⟩
  rw [Nat.add_sub_cancel]; refine ⟨?_, i, by omega, ?_, fun q q1 q2 => ?_⟩
  ·rw [List.getD_eq_getElem?_getD, h4]; rfl
  ·rw [List.getD_eq_getElem?_getD, h1]; rfl
  ·obtain ⟨u, u1, rfl⟩ := h3 q (by omega) q2
   rw [List.getD_eq_getElem?_getD, u1]; rfl
 ·rintro ⟨h4, j, h1, h2, h3⟩
  refine ⟨j, by omega, j + 1, ⟨rfl, 12, by rw [getD_at (by omega), h2], rfl⟩, k - 1, ⟨by omega, fun m k1 k2 => ⟨4, by rw [getD_at (by omega), h3 m (by omega) (by omega)], rfl⟩⟩, k, ⟨by omega, 5, by rw [getD_at (by omega), h4], rfl⟩, rfl⟩
theorem led_flags (c : List Int) (i k : Nat) : led c grP13 i k ↔ ∃ n, k = i + 2 * n + 1 /\ ∀ m, i <= m -> m < k -> c[m]? = some 13 := by
 unfold grP13
 simp only [led2, ledT_s, ledT_0, led4, led1, List.mem_singleton]
 constructor
 ·rintro ⟨j, h1, x, ⟨rfl, z, h2, rfl⟩, rfl⟩
  obtain ⟨n, rfl, h3⟩ := (star_two c 13 i j).1 h1
  refine ⟨n, rfl, fun m k1 k2 => ?_⟩
  rcases Nat.eq_or_lt_of_le (Nat.le_of_lt_succ k2) with e | e
  ·exact e ▸ h2
  ·exact h3 m k1 e
 ·rintro ⟨n, rfl, h⟩
  exact ⟨i + 2 * n, (star_two c 13 _ _).2 ⟨n, rfl, fun m k1 k2 => h m k1 (by omega)⟩, _, ⟨rfl, 13, h _ (by omega) (by omega), rfl⟩, rfl⟩
theorem led_flags2 (c : List Int) (i k : Nat) : led c grP15 i k ↔ (∃ z, c[i]? = some z /\ z ∈ ([0, 1, 2, 3, 4, 5, 6, 7, 8, 9, 10, 11, 12] : List Int)) /\ led c grP13 (i + 1) k := by
 unfold grP15 grP13
 rw [led2, ledT_s]
 constructor
 ·rintro ⟨j, h1, h2⟩
  rw [led1] at h1
  obtain ⟨rfl, h1⟩ := h1
  exact ⟨h1, (led2 _ _ _ _ _).2 h2⟩
 ·rintro ⟨h1, h2⟩
  exact ⟨i + 1, (led1 _ _ _ _ _).2 ⟨rfl, h1⟩, (led2 _ _ _ _ _).1 h2⟩
theorem flags_odd {c : List Int} (hc : ∀ x ∈ c, Cl x) {k : Nat} (hk : 0 < k) (hkn : k <= c.length) : (led c grP13 0 k \/ En c grP15 k) ↔ stt c (k - 1) = 13 := by
 rw [(stt_13 hc (k - 1)).1]
 have hle := fgs_le (c := c) (k - 1)
 have cnt : ∀ i n, k = i + 2 * n + 1 -> (∀ m, i <= m -> m < k -> c[m]? = some 13) -> (i = 0 \/ c[i - 1]? ≠ some 13) -> fgs c (k - 1) = k - i := by
  intro i n e h h0
  rcases Nat.lt_trichotomy (fgs c (k - 1)) (k - i) with h1 | h1 | h1
  ·exact absurd (h _ (by omega) (by omega)) (fgs_stop (c := c) (k - 1) (by omega) (by omega))
  ·exact h1
  ·rcases h0 with h0 | h0
   ·omega
   ·exact absurd (fgs_run (c := c) (k - 1) (by omega) (i - 1) (by omega) (by omega)) h0
 constructor
 ·rintro (h | ⟨i, _, h⟩)
  ·obtain ⟨n, e, h⟩ := (led_flags c 0 k).1 h
   rw [cnt 0 n e h (.inl rfl)]; omega
  ·rw [led_flags2] at h
   obtain ⟨⟨z, hz, hz2⟩, h⟩ := h
   obtain ⟨n, e, h⟩ := (led_flags c (i + 1) k).1 h
   rw [cnt (i + 1) n e h (.inr (by rw [Nat.add_sub_cancel, hz]; intro e; cases e; simp at hz2))]; omega
 ·intro h
  have run : ∀ m, k - fgs c (k - 1) <= m -> m < k -> c[m]? = some 13 := fun m h1 h2 => fgs_run (c := c) (k - 1) (by omega) m (by omega) (by omega)
  by_cases e : fgs c (k - 1) = k
  ·exact .inl ((led_flags c 0 k).2 ⟨k / 2, by omega, fun m _ h2 => run m (by omega) h2⟩)
  ·have hs := fgs_stop (c := c) (k - 1) (by omega) (by omega)
   refine .inr ⟨k - 1 - fgs c (k - 1), by omega, (led_flags2 _ _ _).2 ⟨⟨_, getD_at (by omega), ?_⟩, (led_flags _ _ _).2 ⟨fgs c (k - 1) / 2, by omega, fun m h1 h2 => run m (by omega) h2⟩⟩⟩
   rw [getD_at (by omega)] at hs
   have hcl := cl_at hc (k - 1 - fgs c (k - 1))
   generalize c.getD (k - 1 - fgs c (k - 1)) 0 = z at hs hcl
   have h13 : z ≠ 13 := fun e => hs (by rw [e])
   obtain ⟨l1, l2⟩ := hcl
   have : z = 0 \/ z = 1 \/ z = 2 \/ z = 3 \/ z = 4 \/ z = 5 \/ z = 6 \/ z = 7 \/ z = 8 \/ z = 9 \/ z = 10 \/ z = 11 \/ z = 12 := by omega
   simpa using this
def grD (a b : Int) (x y : Bool) : Bool :=
 bif decide (a = 1) && decide (b = 2) then false else bif decide (a = 1) || (decide (a = 2) || decide (a = 3)) then true else bif decide (b = 1) || (decide (b = 2) || decide (b = 3)) then true
 else bif decide (a = 8) && (decide (b = 8) || (decide (b = 9) || decide (b = 11))) then false else bif (decide (a = 9) || decide (a = 11)) && (decide (b = 9) || decide (b = 10)) then false else bif decide (a = 10) && decide (b = 10) then false
 else bif decide (b = 4) || (decide (b = 5) || decide (b = 6)) then false else bif decide (a = 7) then false else bif x && decide (b = 12) then false else bif y && decide (b = 13) then false else true
def grDC (a b : Int) : Bool := ([true, false].all fun x => [true, false].all fun y => (x && !decide (a = 5)) || (y && !decide (a = 13)) || (grD a b x y == (decide (gbt a b = 0) || (decide (gbt a b = 2) && ((decide (a = 5) && decide (b = 12) && !x) || (decide (a = 13) && decide (b = 13) && !y))))))
theorem grDC_all : ((List.range 14).all fun a => (List.range 14).all fun b => grDC a b) = true := by decide +kernel
theorem gr_dcd {c : List Int} (hc : ∀ x ∈ c, Cl x) {k : Nat} (hk : 0 < k) (hkn : k < c.length) : dcd true c k grRs = (nx (stt c (k - 1)) (c.getD k 0)).isNone := by
 have ha : c[k - 1]? = some (c.getD (k - 1) 0) := getD_at (by omega)
 have hb : c[k]? = some (c.getD k 0) := getD_at hkn
 have hsb := stt_bd hc (k - 1)
 have hcut := (nxS hsb.1 (cl_at hc k)).cut _ (cl_at hc (k - 1)) hsb.2
 have hx := en_pict hc hk (Nat.le_of_lt hkn)
 have hy := flags_odd hc hk (Nat.le_of_lt hkn)
 have h14 : stt c (k - 1) = 14 -> c.getD (k - 1) 0 = 5 := fun e => ((stt_14 hc _).1 e).1
 have h13 : stt c (k - 1) = 13 -> c.getD (k - 1) 0 = 13 := fun e => by
  have h := hsb.2
  rw [e] at h
  rcases h with h | h | h | h
  ·exact h.symm
  ·omega
  ·omega
  ·omega
 have hA := cl_at hc (k - 1)
 have hB := cl_at hc k
 generalize c.getD (k - 1) 0 = a at ha hcut h14 h13 hA
 generalize c.getD k 0 = b at hb hcut hB ⊢
 obtain ⟨x, hxb⟩ : ∃ x : Bool, x = decide (stt c (k - 1) = 14) := ⟨_, rfl⟩
 obtain ⟨y, hyb⟩ : ∃ y : Bool, y = decide (stt c (k - 1) = 13) := ⟨_, rfl⟩
 have hx' : En c grP11 k ↔ x = true := by rw [hx, hxb, decide_eq_true_eq]
 have e1 : dcd true c k grRs = grD a b x y := by
  unfold grRs grD
  rw [dcd_cons (d := decide (a = 1) && decide (b = 2)) (by rw [app_plain]; unfold grP0 grP1; rw [en_set hk ha, sn_set hb]; simp)]
  rw [dcd_cons (d := decide (a = 1) || (decide (a = 2) || decide (a = 3))) (by rw [app_plain]; unfold grP2 grP3; simp only [en_or, enO_s, enO_0, en_set hk ha, sn_emp (Nat.le_of_lt hkn)]; simp)]
  rw [dcd_cons (d := decide (b = 1) || (decide (b = 2) || decide (b = 3))) (by rw [app_plain]; unfold grP2 grP3; simp only [sn_or, snO_s, snO_0, sn_set hb, en_emp]; simp)]
  rw [dcd_cons (d := decide (a = 8) && (decide (b = 8) || (decide (b = 9) || decide (b = 11)))) (by rw [app_plain]; unfold grP4 grP5; simp only [sn_or, snO_s, snO_0, sn_set hb, en_set hk ha]; simp)]
  rw [dcd_cons (d := (decide (a = 9) || decide (a = 11)) && (decide (b = 9) || decide (b = 10))) (by rw [app_plain]; unfold grP6 grP7; simp only [sn_or, snO_s, snO_0, sn_set hb, en_or, enO_s, enO_0, en_set hk ha]; simp)]
  rw [dcd_cons (d := decide (a = 10) && decide (b = 10)) (by rw [app_plain]; unfold grP8; simp only [sn_set hb, en_set hk ha]; simp)]
  rw [dcd_cons (d := decide (b = 4) || (decide (b = 5) || decide (b = 6))) (by rw [app_plain]; unfold grP3 grP9; simp only [sn_or, snO_s, snO_0, sn_set hb, en_emp]; simp)]
  rw [dcd_cons (d := decide (a = 7)) (by rw [app_plain]; unfold grP10 grP3; simp only [en_set hk ha, sn_emp (Nat.le_of_lt hkn)]; simp)]
  rw [dcd_cons (d := x && decide (b = 12)) (by rw [app_plain, hx']; unfold grP12; simp only [sn_set hb]; simp)]
  have l10 : App ⟨false, true, false, grP13, grP14⟩ c k ↔ led c grP13 0 k /\ b = 13 := by rw [app_start]; unfold grP14; simp only [sn_set hb]; simp
  have l11 : App ⟨false, false, false, grP15, grP14⟩ c k ↔ En c grP15 k /\ b = 13 := by rw [app_plain]; unfold grP14; simp only [sn_set hb]; simp
  have e2 : dcd true c k [⟨false, true, false, grP13, grP14⟩, ⟨false, false, false, grP15, grP14⟩] = bif y && decide (b = 13) then false else true := by
   have hyy : (y && decide (b = 13)) = true ↔ (App ⟨false, true, false, grP13, grP14⟩ c k \/ App ⟨false, false, false, grP15, grP14⟩ c k) := by
    rw [l10, l11, <- or_and_right, hy, Bool.and_eq_true, hyb]
    simp
   unfold dcd
   by_cases q1 : App ⟨false, true, false, grP13, grP14⟩ c k
   ·rw [if_pos q1, hyy.2 (.inl q1)]; rfl
   ·rw [if_neg q1]
    unfold dcd
    by_cases q2 : App ⟨false, false, false, grP15, grP14⟩ c k
    ·rw [if_pos q2, hyy.2 (.inr q2)]; rfl
    ·rw [if_neg q2, dcd_nil]
     cases q : (y && decide (b = 13)) with
     | false => rfl
     | true => rcases hyy.1 q with h | h <;> contradiction
  rw [e2]
 rw [e1]
 obtain ⟨an, rfl⟩ : ∃ n : Nat, a = n := ⟨a.toNat, by have := hA.1; omega⟩
 obtain ⟨bn, rfl⟩ : ∃ n : Nat, b = n := ⟨b.toNat, by have := hB.1; omega⟩
 have h1 := List.all_eq_true.1 grDC_all an (List.mem_range.2 (by have := hA.2; omega))
 have h2 := List.all_eq_true.1 h1 bn (List.mem_range.2 (by have := hB.2; omega))
 have h3 := List.all_eq_true.1 h2 x (by cases x <;> simp)
 have h4 := List.all_eq_true.1 h3 y (by cases y <;> simp)
 have n1 : (x && !decide ((an : Int) = 5)) = false := by
  cases x with
  | false => rfl
  | true => rw [h14 (of_decide_eq_true hxb.symm)]; rfl
 have n2 : (y && !decide ((an : Int) = 13)) = false := by
  cases y with
  | false => rfl
  | true => rw [h13 (of_decide_eq_true hyb.symm)]; rfl
 rw [n1, n2, Bool.false_or, Bool.false_or, beq_iff_eq] at h4
 rw [h4]
 apply Bool.eq_iff_iff.2
 rw [hcut, hxb, hyb]
 simp [and_assoc]
def cum : Nat -> Nat -> List Int -> List Nat
 | 0, _, _ => []
 | n + 1, p, L => if L = [] then [] else (p + fstC L) :: cum n (p + fstC L) (L.drop (fstC L))
theorem stt_s (c : List Int) (i : Nat) : stt c (i + 1) = nxs (stt c i) (c.getD (i + 1) 0) := rfl
theorem gr_state {c : List Int} : ∀ (n i : Nat), c.length - i <= n -> i < c.length -> (∀ m, i < m -> m <= i + gr (stt c i) (c.drop (i + 1)) -> (nx (stt c (m - 1)) (c.getD m 0)).isNone = false) /\ (i + gr (stt c i) (c.drop (i + 1)) + 1 < c.length -> (nx (stt c (i + gr (stt c i) (c.drop (i + 1)))) (c.getD (i + gr (stt c i) (c.drop (i + 1)) + 1) 0)).isNone = true)
 | 0, i, h, hi => by omega
 | n + 1, i, h, hi => by
  by_cases h1 : i + 1 < c.length
  ·have hd : c.drop (i + 1) = c.getD (i + 1) 0 :: c.drop (i + 2) := by
    rw [List.drop_eq_getElem_cons h1]
    congr 1
    rw [List.getD_eq_getElem?_getD, List.getElem?_eq_getElem h1]; rfl
   rw [hd]
   cases hn : nx (stt c i) (c.getD (i + 1) 0) with
   | none =>
    have hg : gr (stt c i) (c.getD (i + 1) 0 :: c.drop (i + 2)) = 0 := by unfold gr; rw [hn]
    rw [hg]; refine ⟨fun m k1 k2 => by omega, fun _ => ?_⟩
    rw [Nat.add_zero, hn]; rfl
   | some q =>
    have hs : stt c (i + 1) = q := by
     show nxs _ _ = _
     unfold nxs
     rw [hn]; rfl
    have hg : gr (stt c i) (c.getD (i + 1) 0 :: c.drop (i + 2)) = gr (stt c (i + 1)) (c.drop (i + 1 + 1)) + 1 := by
     conv => lhs; unfold gr
     rw [hn, hs]
    obtain ⟨i1, i2⟩ := gr_state n (i + 1) (by omega) h1
    rw [hg]
    generalize gr (stt c (i + 1)) (c.drop (i + 1 + 1)) = g at i1 i2
    refine ⟨fun m k1 k2 => ?_, fun k => ?_⟩
    ·by_cases e : m = i + 1
     ·rw [e, Nat.add_sub_cancel, hn]; rfl
     ·exact i1 m (by omega) (by omega)
    ·have := i2 (by omega)
     rwa [show i + 1 + g = i + (g + 1) by omega] at this
  ·have hd : c.drop (i + 1) = [] := List.drop_of_length_le (by omega)
   rw [hd]; refine ⟨fun m k1 k2 => ?_, fun k => ?_⟩
   ·unfold gr at k2; omega
   ·unfold gr at k; omega
theorem fst_state {c : List Int} (p : Nat) (hp : p < c.length) (hs : stt c p = c.getD p 0) : fstC (c.drop p) = gr (stt c p) (c.drop (p + 1)) + 1 := by
 have hd : c.drop p = c.getD p 0 :: c.drop (p + 1) := by
  rw [List.drop_eq_getElem_cons hp]
  congr 1
  rw [List.getD_eq_getElem?_getD, List.getElem?_eq_getElem hp]; rfl
 rw [hd, hs]; rfl
theorem cum_flt {c : List Int} (A : Nat -> Bool) (hA : ∀ k, 0 < k -> k < c.length -> A k = (nx (stt c (k - 1)) (c.getD k 0)).isNone) (hn : A c.length = true) : ∀ (n p : Nat), c.length - p <= n -> p <= c.length -> (p < c.length -> stt c p = c.getD p 0) -> cum n p (c.drop p) = (List.range' (p + 1) (c.length - p)).filter A
 | 0, p, h, hp, _ => by
  rw [show c.length - p = 0 by omega]; rfl
 | n + 1, p, h, hp, hs => by
  unfold cum
  by_cases hl : p < c.length
  ·have hne : c.drop p ≠ [] := fun e => by have := congrArg List.length e; rw [List.length_drop, List.length_nil] at this; omega
   rw [if_neg hne]; have hb := fstC_bd (c.drop p) hne
   rw [List.length_drop] at hb
   have hf := fst_state p hl (hs hl)
   obtain ⟨g1, g2⟩ := gr_state (c := c) _ p (Nat.le_refl _) hl
   obtain ⟨g, hg⟩ : ∃ g, g = gr (stt c p) (c.drop (p + 1)) := ⟨_, rfl⟩
   rw [<- hg] at hf g1 g2
   rw [List.drop_drop, hf]; rw [hf] at hb
   have hs2 : p + (g + 1) < c.length -> stt c (p + (g + 1)) = c.getD (p + (g + 1)) 0 := fun hlt => by
    rw [show p + (g + 1) = (p + g) + 1 by omega, stt_s]
    unfold nxs
    rw [Option.isNone_iff_eq_none.1 (g2 (by omega))]; rfl
   rw [cum_flt A hA hn n (p + (g + 1)) (by omega) (by omega) hs2]
   have hr : List.range' (p + 1) (c.length - p) = List.range' (p + 1) g ++ (p + (g + 1)) :: List.range' (p + (g + 1) + 1) (c.length - (p + (g + 1))) := by
    rw [show c.length - p = g + (1 + (c.length - (p + (g + 1)))) by omega, <- List.range'_append_1, <- List.range'_append_1]
    rw [show p + 1 + g = p + (g + 1) by omega]
    rfl
   rw [hr, List.filter_append, List.filter_cons]; have hnil : (List.range' (p + 1) g).filter A = [] := List.filter_eq_nil_iff.2 fun m hm => by
    rw [List.mem_range'_1] at hm
    rw [hA m (by omega) (by omega), g1 m (by omega) (by omega)]
    simp
   have hy : A (p + (g + 1)) = true := by
    by_cases e : p + (g + 1) < c.length
    ·rw [hA _ (by omega) e]
     have := g2 (by omega)
     rwa [show p + g = p + (g + 1) - 1 by omega, show p + (g + 1) - 1 + 1 = p + (g + 1) by omega] at this
    ·rw [show p + (g + 1) = c.length by omega]; exact hn
   rw [hnil, if_pos hy, List.nil_append]
  ·rw [if_pos (List.drop_of_length_le (by omega)), show c.length - p = 0 by omega]; rfl
theorem gr_bounds {c : List Int} (hc : ∀ x ∈ c, Cl x) (hne : c ≠ []) : (List.range (c.length + 1)).filter (fun k => cutB true grRs c k) = 0 :: cum c.length 0 c := by
 have hA : ∀ k, 0 < k -> k < c.length -> cutB true grRs c k = (nx (stt c (k - 1)) (c.getD k 0)).isNone := fun k h1 h2 => by
  unfold cutB
  rw [if_neg hne, if_neg (by omega), gr_dcd hc h1 h2]
 have hn : cutB true grRs c c.length = true := by unfold cutB; rw [if_neg hne, if_pos (.inr rfl)]
 have h0 : cutB true grRs c 0 = true := by unfold cutB; rw [if_neg hne, if_pos (.inl rfl)]
 have h := cum_flt (cutB true grRs c) hA hn c.length 0 (by omega) (Nat.zero_le _) (fun _ => rfl)
 rw [List.drop_zero, Nat.sub_zero] at h
 rw [h, List.range_eq_range', List.range'_succ, List.filter_cons, if_pos h0]
end Pt
end Go.Proofs.YtdpohgoikbeplaaGreatDoor
