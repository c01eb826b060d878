/- The spelling of a set, and that it is read as the set: the mathematics. -/
import Derived.Test.YtfahbdlcokoghabGreatDoorParse
namespace Go.Proofs.YtfahbdlcokoghabGreatDoor
open Go.RowKit

/-- A hexadecimal digit, and so many of a number's lowest. -/
def dgU (d : Nat) : UInt8 := UInt8.ofNat (if d < 10 then 48 + d else 55 + d)
def hxL : Nat → Nat → List UInt8
  | 0, _ => []
  | k + 1, n => hxL k (n / 16) ++ [dgU (n % 16)]
theorem dgU_toNat (d : Nat) (h : d < 16) : (dgU d).toNat = if d < 10 then 48 + d else 55 + d := by
  unfold dgU
  split <;> (rw [UInt8.toNat_ofNat']; omega)
theorem dgU_hx (d : Nat) (h : d < 16) : isHx (dgU d) = true := by
  rw [isHx_iff, dgU_toNat d h]
  split <;> omega
theorem dgU_val (d : Nat) (h : d < 16) : hxV (dgU d) = d := by
  unfold hxV
  rw [dgU_toNat d h]
  split <;> split <;> omega
theorem hxL_len : ∀ (k n : Nat), (hxL k n).length = k
  | 0, _ => rfl
  | k + 1, n => by rw [hxL, List.length_append, hxL_len k]; rfl
theorem hxL_cons : ∀ (k n : Nat), hxL (k + 1) n = dgU (n / 16 ^ k % 16) :: hxL k n
  | 0, n => by simp [hxL]
  | k + 1, n => by
    rw [hxL, hxL_cons k (n / 16), hxL, Nat.div_div_eq_div_mul, Nat.pow_succ, Nat.mul_comm (16 ^ k) 16]; rfl
theorem hxL_all : ∀ (k n : Nat), ∀ c ∈ hxL k n, isHx c = true
  | 0, _, c, h => by cases h
  | k + 1, n, c, h => by
    rw [hxL, List.mem_append] at h
    rcases h with h | h
    · exact hxL_all k _ c h
    · simp at h; subst h; exact dgU_hx _ (by omega)
theorem hxs_snoc : ∀ (t : List UInt8) (a : Nat) (c : UInt8), hxs a (t ++ [c]) = hxs a t * 16 + hxV c
  | [], _, _ => rfl
  | x :: t, a, c => by
    show hxs (a * 16 + hxV x) (t ++ [c]) = hxs (a * 16 + hxV x) t * 16 + hxV c
    exact hxs_snoc t _ c
theorem hxL_val : ∀ (k n : Nat), n < 16 ^ k → hxs 0 (hxL k n) = n
  | 0, n, h => by simp at h; subst h; rfl
  | k + 1, n, h => by
    rw [hxL, hxs_snoc, hxL_val k (n / 16) (by rw [Nat.pow_succ] at h; omega), dgU_val _ (by omega)]
    omega
theorem hxL_pad : ∀ (m k n : Nat), n < 16 ^ k → hxL (k + m) n = List.replicate m 48 ++ hxL k n
  | 0, _, _, _ => rfl
  | m + 1, k, n, h => by
    have h2 : n < 16 ^ (k + m) := Nat.lt_of_lt_of_le h (Nat.pow_le_pow_right (by omega) (by omega))
    rw [← Nat.add_assoc, hxL_cons, hxL_pad m k n h, Nat.div_eq_of_lt h2, List.replicate_succ]; rfl
/-- How many digits a rune's number is spelled with. -/
def wdt (n : Nat) : Nat := if n < 65536 then 4 else if n < 1048576 then 5 else 6
def hex (n : Nat) : List UInt8 := hxL (wdt n) n
theorem wdt_bd (n : Nat) : 4 ≤ wdt n ∧ wdt n ≤ 6 := by unfold wdt; split <;> (try split) <;> omega
theorem wdt_pow (n : Nat) (h : n ≤ 1114111) : n < 16 ^ wdt n := by
  unfold wdt
  split
  · show n < 65536; omega
  · split
    · show n < 1048576; omega
    · show n < 16777216; omega
/-- A rune's spelling, a range's, a set's. -/
def cod (n : Nat) : List UInt8 := [85, 43] ++ hex n
theorem cod_len (n : Nat) : (cod n).length = 2 + wdt n := by unfold cod hex; rw [List.length_append, hxL_len]; rfl
def prI (g : Rg) : List UInt8 := cod g.1.toNat ++ if g.1 = g.2 then [] else 45 :: cod g.2.toNat
def prA (a : List UInt8) (l : List Rg) : List UInt8 := l.foldl (fun t g => t ++ ((if t = [] then [] else [32]) ++ prI g)) a
def prt (l : List Rg) : List UInt8 := prA [] l
theorem prt_snoc (l : List Rg) (g : Rg) : prt (l ++ [g]) = prt l ++ ((if prt l = [] then [] else [32]) ++ prI g) := by
  unfold prt prA; rw [List.foldl_append]; rfl
theorem prI_ne (g : Rg) : prI g ≠ [] := by unfold prI cod; simp
theorem prt_ne : ∀ l : List Rg, l ≠ [] → prt l ≠ [] := fun l h => by
  rcases List.eq_nil_or_concat l with rfl | ⟨Q, z, rfl⟩
  · exact absurd rfl h
  · rw [List.concat_eq_append, prt_snoc]
    intro e
    exact prI_ne z (List.append_eq_nil_iff.1 (List.append_eq_nil_iff.1 e).2).2
theorem prt_nil_iff (l : List Rg) : prt l = [] ↔ l = [] := ⟨fun h => Classical.byContradiction fun hl => prt_ne l hl h, fun h => by subst h; rfl⟩

theorem takeWhile_pre (a b : List UInt8) (ha : ∀ c ∈ a, isHx c = true) (hb : ∀ c, b.head? = some c → isHx c = false) : (a ++ b).takeWhile isHx = a := by
  induction a with
  | nil =>
    cases b with
    | nil => rfl
    | cons c b => rw [List.nil_append, List.takeWhile_cons, if_neg (by rw [hb c rfl]; decide)]
  | cons x a ih =>
    rw [List.cons_append, List.takeWhile_cons, if_pos (ha x (by simp)), ih (fun c hc => ha c (by simp [hc]))]
/-- A number that is spelled at a place is read there. -/
theorem spl_cod (p q : List UInt8) (n : Nat) (hn : n ≤ 1114111) (hq : ∀ c, q.head? = some c → isHx c = false) : spl (p ++ (cod n ++ q)) p.length = ((n : Int), p.length + 2 + wdt n, 0) := by
  have hd : (p ++ (cod n ++ q)).drop p.length = cod n ++ q := List.drop_left
  have hd2 : (p ++ (cod n ++ q)).drop (p.length + 2) = hex n ++ q := by rw [← List.drop_drop, hd]; rfl
  have hx : hxn (p ++ (cod n ++ q)) (p.length + 2) = wdt n := by
    unfold hxn
    rw [hd2]
    show ((hxL (wdt n) n ++ q).takeWhile isHx).length = _
    rw [takeWhile_pre _ _ (hxL_all _ _) hq]
    exact hxL_len _ _
  have ht : ((p ++ (cod n ++ q)).drop (p.length + 2)).take (wdt n) = hex n := by
    rw [hd2, List.take_append_of_le_length (by unfold hex; rw [hxL_len]; exact Nat.le_refl _), List.take_of_length_le (by unfold hex; rw [hxL_len]; exact Nat.le_refl _)]
  have hw := wdt_bd n
  have hv : hxs 0 (hex n) = n := hxL_val _ _ (wdt_pow n hn)
  unfold spl
  rw [if_pos (by rw [hd]; rfl)]
  unfold cdd
  rw [hx, if_neg (by omega), ht, hv, if_neg (by omega)]
theorem itm_prI (p q : List UInt8) (g : Rg) (h0 : 0 ≤ g.1) (h1 : g.1 ≤ g.2) (h2 : g.2 ≤ top) (hq : ∀ c, q.head? = some c → c = 32) : itm (p ++ (prI g ++ q)) p.length = (g, p.length + (prI g).length, 0) := by
  unfold top at h2
  have hq2 : ∀ c, q.head? = some c → isHx c = false := fun c hc => by rw [hq c hc]; decide
  by_cases he : g.1 = g.2
  · have e : prI g = cod g.1.toNat := by unfold prI; rw [if_pos he, List.append_nil]
    rw [e]
    have hs := spl_cod p q g.1.toNat (by omega) hq2
    unfold itm itmF
    rw [hs, if_neg (by exact fun h => h rfl)]
    have hc : p.length + 2 + wdt g.1.toNat = (p ++ (cod g.1.toNat ++ q)).length ∨ (p ++ (cod g.1.toNat ++ q)).getD (p.length + 2 + wdt g.1.toNat) 0 ≠ 45 := by
      cases q with
      | nil => left; rw [List.append_nil, List.length_append, cod_len]; omega
      | cons c q =>
        right
        have e2 : p ++ (cod g.1.toNat ++ c :: q) = (p ++ cod g.1.toNat) ++ c :: q := by rw [List.append_assoc]
        rw [e2, List.getD_eq_getElem?_getD, List.getElem?_append_right (by rw [List.length_append, cod_len]; omega)]
        rw [show p.length + 2 + wdt g.1.toNat - (p ++ cod g.1.toNat).length = 0 by rw [List.length_append, cod_len]; omega]
        rw [hq c rfl]
        show (32 : UInt8) ≠ 45
        decide
    rw [if_pos hc, cod_len, Nat.add_assoc]
    have eg : ((g.1.toNat : Nat) : Int) = g.1 := by omega
    dsimp only
    rw [eg]
    exact Prod.ext (Prod.ext rfl he) rfl
  · have e : prI g = cod g.1.toNat ++ 45 :: cod g.2.toNat := by unfold prI; rw [if_neg he]
    have e1 : p ++ (prI g ++ q) = p ++ (cod g.1.toNat ++ (45 :: (cod g.2.toNat ++ q))) := by rw [e]; simp
    have e2 : p ++ (prI g ++ q) = (p ++ (cod g.1.toNat ++ [45])) ++ (cod g.2.toNat ++ q) := by rw [e]; simp
    have hs1 : spl (p ++ (prI g ++ q)) p.length = ((g.1.toNat : Int), p.length + 2 + wdt g.1.toNat, 0) := by
      rw [e1]; exact spl_cod p _ g.1.toNat (by omega) (fun c hc => by cases hc; decide)
    have hl : (p ++ (cod g.1.toNat ++ [45])).length = p.length + 2 + wdt g.1.toNat + 1 := by rw [List.length_append, List.length_append, cod_len]; simp; omega
    have hs2 : spl (p ++ (prI g ++ q)) (p.length + 2 + wdt g.1.toNat + 1) = ((g.2.toNat : Int), p.length + 2 + wdt g.1.toNat + 1 + 2 + wdt g.2.toNat, 0) := by
      have h := spl_cod (p ++ (cod g.1.toNat ++ [45])) q g.2.toNat (by omega) hq2
      rw [← e2, hl] at h
      exact h
    have hge : (p ++ (prI g ++ q)).getD (p.length + 2 + wdt g.1.toNat) 0 = 45 := by
      have e3 : p ++ (prI g ++ q) = (p ++ cod g.1.toNat) ++ (45 :: (cod g.2.toNat ++ q)) := by rw [e1, List.append_assoc]
      rw [e3, List.getD_eq_getElem?_getD, List.getElem?_append_right (by rw [List.length_append, cod_len]; omega)]
      rw [show p.length + 2 + wdt g.1.toNat - (p ++ cod g.1.toNat).length = 0 by rw [List.length_append, cod_len]; omega]
      rfl
    have hlen : (p ++ (prI g ++ q)).length = p.length + 2 + wdt g.1.toNat + 1 + 2 + wdt g.2.toNat + q.length := by
      rw [e2, List.length_append, hl, List.length_append, cod_len]; omega
    unfold itm itmF
    rw [hs1, if_neg (by exact fun h => h rfl)]
    dsimp only
    rw [if_neg (by rintro (h | h); omega; exact h hge), hs2, if_neg (by exact fun h => h rfl)]
    dsimp only
    rw [if_neg (by omega)]
    have eg1 : ((g.1.toNat : Nat) : Int) = g.1 := by omega
    have eg2 : ((g.2.toNat : Nat) : Int) = g.2 := by omega
    rw [eg1, eg2, e, List.length_append, List.length_cons, cod_len, cod_len]
    refine Prod.ext rfl (Prod.ext ?_ rfl)
    show p.length + 2 + wdt g.1.toNat + 1 + 2 + wdt g.2.toNat = p.length + (2 + wdt g.1.toNat + (2 + wdt g.2.toNat + 1))
    omega
/-- What is to come of a spelling behind some ranges. -/
def prR : List Rg → List UInt8
  | [] => []
  | g :: l => 32 :: (prI g ++ prR l)
theorem prR_head (l : List Rg) : ∀ c, (prR l).head? = some c → c = 32 := fun c h => by
  cases l with
  | nil => cases h
  | cons g l => cases h; rfl
theorem prA_more : ∀ (l : List Rg) (a : List UInt8), a ≠ [] → prA a l = a ++ prR l
  | [], a, _ => by show a = a ++ []; simp
  | g :: l, a, h => by
    show prA (a ++ ((if a = [] then [] else [32]) ++ prI g)) l = _
    rw [if_neg h, prA_more l _ (by simp [h])]
    show a ++ ([32] ++ prI g) ++ prR l = a ++ (32 :: (prI g ++ prR l))
    simp
theorem prt_cons (g : Rg) (l : List Rg) : prt (g :: l) = prI g ++ prR l := by
  show prA ([] ++ ((if ([] : List UInt8) = [] then [] else [32]) ++ prI g)) l = _
  rw [if_pos rfl, List.nil_append, List.nil_append]
  exact prA_more l _ (prI_ne g)
def okG (l : List Rg) : Prop := ∀ g ∈ l, 0 ≤ g.1 ∧ g.1 ≤ g.2 ∧ g.2 ≤ top
theorem prs_more : ∀ (l : List Rg) (p : List UInt8) (acc : List Rg) (T : List UInt8), okG l → T = p ++ prR l → Prs T p.length acc → par T = (nrm (acc ++ l), 0, 0)
  | [], p, acc, T, _, hT, hP => by
    rw [List.append_nil]
    exact hP.done (by rw [hT]; simp [prR])
  | g :: l, p, acc, T, ho, hT, hP => by
    obtain ⟨g0, g1, g2⟩ := ho g (by simp)
    have hT2 : T = (p ++ [32]) ++ (prI g ++ prR l) := by rw [hT]; simp [prR]
    have hlt : p.length < T.length := by rw [hT]; simp [prR]
    have hb : T.getD p.length 0 = 32 := by rw [hT, List.getD_eq_getElem?_getD, List.getElem?_append_right (Nat.le_refl _), Nat.sub_self]; rfl
    have hP1 := hP.blank hlt hb
    have hl1 : (p ++ [32]).length = p.length + 1 := by simp
    have hi : itm T (p.length + 1) = (g, p.length + 1 + (prI g).length, 0) := by
      have h := itm_prI (p ++ [32]) (prR l) g g0 g1 g2 (prR_head l)
      rw [← hT2, hl1] at h
      exact h
    have hpos : 0 < (prI g).length := List.length_pos_iff.2 (prI_ne g)
    have hlen : T.length = p.length + 1 + (prI g).length + (prR l).length := by rw [hT2]; simp only [List.length_append, List.length_cons, List.length_nil]; omega
    have hne : T.getD (p.length + 1) 0 ≠ 32 := by
      rw [hT2, List.getD_eq_getElem?_getD, List.getElem?_append_right (by rw [hl1]; exact Nat.le_refl _), hl1, Nat.sub_self]
      show (85 : UInt8) ≠ 32
      decide
    have hP2 := hP1.more (by omega) hne (by rw [hi]) (by
      rw [hi]
      rintro ⟨h1, h2⟩
      apply h2
      have e3 : T = (p ++ ([32] ++ prI g)) ++ prR l := by rw [hT2]; simp
      have hl3 : (p ++ ([32] ++ prI g)).length = p.length + 1 + (prI g).length := by simp; omega
      dsimp only at h1 ⊢
      rw [e3, List.getD_eq_getElem?_getD, List.getElem?_append_right (by rw [hl3]; exact Nat.le_refl _), hl3, Nat.sub_self]
      cases l with
      | nil => rw [hlen] at h1; simp [prR] at h1
      | cons x l => rfl)
    rw [hi] at hP2
    have hfin := prs_more l (p ++ ([32] ++ prI g)) (acc ++ [g]) T (fun x hx => ho x (by simp [hx])) (by rw [hT2]; simp) (by
      have hl3 : (p ++ ([32] ++ prI g)).length = p.length + 1 + (prI g).length := by simp; omega
      rw [hl3]; exact hP2)
    rw [hfin]
    simp
theorem par_prt (l : List Rg) (h : nf l) : par (prt l) = (l, 0, 0) := by
  have ho : okG l := fun g hg => by
    obtain ⟨j, hj⟩ := List.getElem?_of_mem hg
    exact nf_at h hj
  have hn : nrm l = l := ((nrm_same l).2 h).symm
  cases l with
  | nil => rfl
  | cons g l =>
    obtain ⟨g0, g1, g2⟩ := ho g (by simp)
    have hT := prt_cons g l
    have hP := Prs.start (prt (g :: l))
    have hi : itm (prt (g :: l)) 0 = (g, (prI g).length, 0) := by
      have h := itm_prI [] (prR l) g g0 g1 g2 (prR_head l)
      rw [List.nil_append, ← hT] at h
      simpa using h
    have hpos : 0 < (prI g).length := List.length_pos_iff.2 (prI_ne g)
    have hlen : (prt (g :: l)).length = (prI g).length + (prR l).length := by rw [hT, List.length_append]
    have hne : (prt (g :: l)).getD 0 0 ≠ 32 := by
      rw [hT]
      show (85 : UInt8) ≠ 32
      decide
    have hP2 := hP.more (by omega) hne (by rw [hi]) (by
      rw [hi]
      rintro ⟨h1, h2⟩
      apply h2
      dsimp only at h1 ⊢
      rw [hT, List.getD_eq_getElem?_getD, List.getElem?_append_right (Nat.le_refl _), Nat.sub_self]
      cases l with
      | nil => rw [hlen] at h1; simp [prR] at h1
      | cons x l => rfl)
    rw [hi] at hP2
    have hfin := prs_more l (prI g) ([] ++ [g]) (prt (g :: l)) (fun x hx => ho x (by simp [hx])) hT hP2
    rw [hfin]
    show (nrm (g :: l), 0, 0) = (g :: l, 0, 0)
    rw [hn]
end Go.Proofs.YtfahbdlcokoghabGreatDoor
