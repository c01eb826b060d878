/- The spelling of a set, and that it is read as the set: the mathematics. -/
import Derived.Test.YtohhokjlgihbgaaGreatDoorGh
import Derived.WalkSmall
import Derived.Lib.BufferRead
import Derived.Lib.BufferMore
import Derived.Lib.Case
import Derived.Ground.NamesProg
import Derived.Shelf.Strings.OnBuilder
import Derived.Shelf.Strings.BuilderK
import Derived.Shelf.Strings.Repeat
import Derived.Test.YtohhokjlgihbgaaGreatDoorProg
namespace Go.Proofs.YtohhokjlgihbgaaGreatDoor
open Go.RowKit

/-- A hexadecimal digit, and so many of a number's lowest. -/
def dgU (d : Nat) : UInt8 := UInt8.ofNat (if d < 10 then 48 + d else 55 + d)
def hxL : Nat → Nat → List UInt8
  | 0, _ => []
  | k + 1, n => hxL k (n / 16) ++ [dgU (n % 16)]
theorem dgU_toNat (d : Nat) (h : d < 16) : (dgU d).toNat = if d < 10 then 48 + d else 55 + d := by
  unfold dgU
  split <;> (rw [UInt8.toNat_ofNat']; omega)
theorem dgU_hx (d : Nat) (h : d < 16) : isHx (dgU d) = true := by
  rw [isHx_iff, dgU_toNat d h]
  split <;> omega
theorem dgU_val (d : Nat) (h : d < 16) : hxV (dgU d) = d := by
  unfold hxV
  rw [dgU_toNat d h]
  split <;> split <;> omega
theorem hxL_len : ∀ (k n : Nat), (hxL k n).length = k
  | 0, _ => rfl
  | k + 1, n => by rw [hxL, List.length_append, hxL_len k]; rfl
theorem hxL_cons : ∀ (k n : Nat), hxL (k + 1) n = dgU (n / 16 ^ k % 16) :: hxL k n
  | 0, n => by simp [hxL]
  | k + 1, n => by
    rw [hxL, hxL_cons k (n / 16), hxL, Nat.div_div_eq_div_mul, Nat.pow_succ, Nat.mul_comm (16 ^ k) 16]; rfl
theorem hxL_all : ∀ (k n : Nat), ∀ c ∈ hxL k n, isHx c = true
  | 0, _, c, h => by cases h
  | k + 1, n, c, h => by
    rw [hxL, List.mem_append] at h
    rcases h with h | h
    · exact hxL_all k _ c h
    · simp at h; subst h; exact dgU_hx _ (by omega)
theorem hxs_snoc : ∀ (t : List UInt8) (a : Nat) (c : UInt8), hxs a (t ++ [c]) = hxs a t * 16 + hxV c
  | [], _, _ => rfl
  | x :: t, a, c => by
    show hxs (a * 16 + hxV x) (t ++ [c]) = hxs (a * 16 + hxV x) t * 16 + hxV c
    exact hxs_snoc t _ c
theorem hxL_val : ∀ (k n : Nat), n < 16 ^ k → hxs 0 (hxL k n) = n
  | 0, n, h => by simp at h; subst h; rfl
  | k + 1, n, h => by
    rw [hxL, hxs_snoc, hxL_val k (n / 16) (by rw [Nat.pow_succ] at h; omega), dgU_val _ (by omega)]
    omega
theorem hxL_pad : ∀ (m k n : Nat), n < 16 ^ k → hxL (k + m) n = List.replicate m 48 ++ hxL k n
  | 0, _, _, _ => rfl
  | m + 1, k, n, h => by
    have h2 : n < 16 ^ (k + m) := Nat.lt_of_lt_of_le h (Nat.pow_le_pow_right (by omega) (by omega))
    rw [← Nat.add_assoc, hxL_cons, hxL_pad m k n h, Nat.div_eq_of_lt h2, List.replicate_succ]; rfl
/-- How many digits a rune's number is spelled with. -/
def wdt (n : Nat) : Nat := if n < 65536 then 4 else if n < 1048576 then 5 else 6
def hex (n : Nat) : List UInt8 := hxL (wdt n) n
theorem wdt_bd (n : Nat) : 4 ≤ wdt n ∧ wdt n ≤ 6 := by unfold wdt; split <;> (try split) <;> omega
theorem wdt_pow (n : Nat) (h : n ≤ 1114111) : n < 16 ^ wdt n := by
  unfold wdt
  split
  · show n < 65536; omega
  · split
    · show n < 1048576; omega
    · show n < 16777216; omega
/-- A rune's spelling, a range's, a set's. -/
def cod (n : Nat) : List UInt8 := [85, 43] ++ hex n
theorem cod_len (n : Nat) : (cod n).length = 2 + wdt n := by unfold cod hex; rw [List.length_append, hxL_len]; rfl
def prI (g : Rg) : List UInt8 := cod g.1.toNat ++ if g.1 = g.2 then [] else 45 :: cod g.2.toNat
def prA (a : List UInt8) (l : List Rg) : List UInt8 := l.foldl (fun t g => t ++ ((if t = [] then [] else [32]) ++ prI g)) a
def prt (l : List Rg) : List UInt8 := prA [] l
theorem prt_snoc (l : List Rg) (g : Rg) : prt (l ++ [g]) = prt l ++ ((if prt l = [] then [] else [32]) ++ prI g) := by
  unfold prt prA; rw [List.foldl_append]; rfl
theorem prI_ne (g : Rg) : prI g ≠ [] := by unfold prI cod; simp
theorem prt_ne : ∀ l : List Rg, l ≠ [] → prt l ≠ [] := fun l h => by
  rcases List.eq_nil_or_concat l with rfl | ⟨Q, z, rfl⟩
  · exact absurd rfl h
  · rw [List.concat_eq_append, prt_snoc]
    intro e
    exact prI_ne z (List.append_eq_nil_iff.1 (List.append_eq_nil_iff.1 e).2).2
theorem prt_nil_iff (l : List Rg) : prt l = [] ↔ l = [] := ⟨fun h => Classical.byContradiction fun hl => prt_ne l hl h, fun h => by subst h; rfl⟩

theorem takeWhile_pre (a b : List UInt8) (ha : ∀ c ∈ a, isHx c = true) (hb : ∀ c, b.head? = some c → isHx c = false) : (a ++ b).takeWhile isHx = a := by
  induction a with
  | nil =>
    cases b with
    | nil => rfl
    | cons c b => rw [List.nil_append, List.takeWhile_cons, if_neg (by rw [hb c rfl]; decide)]
  | cons x a ih =>
    rw [List.cons_append, List.takeWhile_cons, if_pos (ha x (by simp)), ih (fun c hc => ha c (by simp [hc]))]
/-- A number that is spelled at a place is read there. -/
theorem spl_cod (p q : List UInt8) (n : Nat) (hn : n ≤ 1114111) (hq : ∀ c, q.head? = some c → isHx c = false) : spl (p ++ (cod n ++ q)) p.length = ((n : Int), p.length + 2 + wdt n, 0) := by
  have hd : (p ++ (cod n ++ q)).drop p.length = cod n ++ q := List.drop_left
  have hd2 : (p ++ (cod n ++ q)).drop (p.length + 2) = hex n ++ q := by rw [← List.drop_drop, hd]; rfl
  have hx : hxn (p ++ (cod n ++ q)) (p.length + 2) = wdt n := by
    unfold hxn
    rw [hd2]
    show ((hxL (wdt n) n ++ q).takeWhile isHx).length = _
    rw [takeWhile_pre _ _ (hxL_all _ _) hq]
    exact hxL_len _ _
  have ht : ((p ++ (cod n ++ q)).drop (p.length + 2)).take (wdt n) = hex n := by
    rw [hd2, List.take_append_of_le_length (by unfold hex; rw [hxL_len]; exact Nat.le_refl _), List.take_of_length_le (by unfold hex; rw [hxL_len]; exact Nat.le_refl _)]
  have hw := wdt_bd n
  have hv : hxs 0 (hex n) = n := hxL_val _ _ (wdt_pow n hn)
  unfold spl
  rw [if_pos (by rw [hd]; rfl)]
  unfold cdd
  rw [hx, if_neg (by omega), ht, hv, if_neg (by omega)]
theorem itm_prI (p q : List UInt8) (g : Rg) (h0 : 0 ≤ g.1) (h1 : g.1 ≤ g.2) (h2 : g.2 ≤ top) (hq : ∀ c, q.head? = some c → c = 32) : itm (p ++ (prI g ++ q)) p.length = (g, p.length + (prI g).length, 0) := by
  unfold top at h2
  have hq2 : ∀ c, q.head? = some c → isHx c = false := fun c hc => by rw [hq c hc]; decide
  by_cases he : g.1 = g.2
  · have e : prI g = cod g.1.toNat := by unfold prI; rw [if_pos he, List.append_nil]
    rw [e]
    have hs := spl_cod p q g.1.toNat (by omega) hq2
    unfold itm itmF
    rw [hs, if_neg (by exact fun h => h rfl)]
    have hc : p.length + 2 + wdt g.1.toNat = (p ++ (cod g.1.toNat ++ q)).length ∨ (p ++ (cod g.1.toNat ++ q)).getD (p.length + 2 + wdt g.1.toNat) 0 ≠ 45 := by
      cases q with
      | nil => left; rw [List.append_nil, List.length_append, cod_len]; omega
      | cons c q =>
        right
        have e2 : p ++ (cod g.1.toNat ++ c :: q) = (p ++ cod g.1.toNat) ++ c :: q := by rw [List.append_assoc]
        rw [e2, List.getD_eq_getElem?_getD, List.getElem?_append_right (by rw [List.length_append, cod_len]; omega)]
        rw [show p.length + 2 + wdt g.1.toNat - (p ++ cod g.1.toNat).length = 0 by rw [List.length_append, cod_len]; omega]
        rw [hq c rfl]
        show (32 : UInt8) ≠ 45
        decide
    rw [if_pos hc, cod_len, Nat.add_assoc]
    have eg : ((g.1.toNat : Nat) : Int) = g.1 := by omega
    dsimp only
    rw [eg]
    exact Prod.ext (Prod.ext rfl he) rfl
  · have e : prI g = cod g.1.toNat ++ 45 :: cod g.2.toNat := by unfold prI; rw [if_neg he]
    have e1 : p ++ (prI g ++ q) = p ++ (cod g.1.toNat ++ (45 :: (cod g.2.toNat ++ q))) := by rw [e]; simp
    have e2 : p ++ (prI g ++ q) = (p ++ (cod g.1.toNat ++ [45])) ++ (cod g.2.toNat ++ q) := by rw [e]; simp
    have hs1 : spl (p ++ (prI g ++ q)) p.length = ((g.1.toNat : Int), p.length + 2 + wdt g.1.toNat, 0) := by
      rw [e1]; exact spl_cod p _ g.1.toNat (by omega) (fun c hc => by cases hc; decide)
    have hl : (p ++ (cod g.1.toNat ++ [45])).length = p.length + 2 + wdt g.1.toNat + 1 := by rw [List.length_append, List.length_append, cod_len]; simp; omega
    have hs2 : spl (p ++ (prI g ++ q)) (p.length + 2 + wdt g.1.toNat + 1) = ((g.2.toNat : Int), p.length + 2 + wdt g.1.toNat + 1 + 2 + wdt g.2.toNat, 0) := by
      have h := spl_cod (p ++ (cod g.1.toNat ++ [45])) q g.2.toNat (by omega) hq2
      rw [← e2, hl] at h
      exact h
    have hge : (p ++ (prI g ++ q)).getD (p.length + 2 + wdt g.1.toNat) 0 = 45 := by
      have e3 : p ++ (prI g ++ q) = (p ++ cod g.1.toNat) ++ (45 :: (cod g.2.toNat ++ q)) := by rw [e1, List.append_assoc]
      rw [e3, List.getD_eq_getElem?_getD, List.getElem?_append_right (by rw [List.length_append, cod_len]; omega)]
      rw [show p.length + 2 + wdt g.1.toNat - (p ++ cod g.1.toNat).length = 0 by rw [List.length_append, cod_len]; omega]
      rfl
    have hlen : (p ++ (prI g ++ q)).length = p.length + 2 + wdt g.1.toNat + 1 + 2 + wdt g.2.toNat + q.length := by
      rw [e2, List.length_append, hl, List.length_append, cod_len]; omega
    unfold itm itmF
    rw [hs1, if_neg (by exact fun h => h rfl)]
    dsimp only
    rw [if_neg (by rintro (h | h); omega; exact h hge), hs2, if_neg (by exact fun h => h rfl)]
    dsimp only
    rw [if_neg (by omega)]
    have eg1 : ((g.1.toNat : Nat) : Int) = g.1 := by omega
    have eg2 : ((g.2.toNat : Nat) : Int) = g.2 := by omega
    rw [eg1, eg2, e, List.length_append, List.length_cons, cod_len, cod_len]
    refine Prod.ext rfl (Prod.ext ?_ rfl)
    show p.length + 2 + wdt g.1.toNat + 1 + 2 + wdt g.2.toNat = p.length + (2 + wdt g.1.toNat + (2 + wdt g.2.toNat + 1))
    omega
/-- What is to come of a spelling behind some ranges. -/
def prR : List Rg → List UInt8
  | [] => []
  | g :: l => 32 :: (prI g ++ prR l)
theorem prR_head (l : List Rg) : ∀ c, (prR l).head? = some c → c = 32 := fun c h => by
  cases l with
  | nil => cases h
  | cons g l => cases h; rfl
theorem prA_more : ∀ (l : List Rg) (a : List UInt8), a ≠ [] → prA a l = a ++ prR l
  | [], a, _ => by show a = a ++ []; simp
  | g :: l, a, h => by
    show prA (a ++ ((if a = [] then [] else [32]) ++ prI g)) l = _
    rw [if_neg h, prA_more l _ (by simp [h])]
    show a ++ ([32] ++ prI g) ++ prR l = a ++ (32 :: (prI g ++ prR l))
    simp
theorem prt_cons (g : Rg) (l : List Rg) : prt (g :: l) = prI g ++ prR l := by
  show prA ([] ++ ((if ([] : List UInt8) = [] then [] else [32]) ++ prI g)) l = _
  rw [if_pos rfl, List.nil_append, List.nil_append]
  exact prA_more l _ (prI_ne g)
def okG (l : List Rg) : Prop := ∀ g ∈ l, 0 ≤ g.1 ∧ g.1 ≤ g.2 ∧ g.2 ≤ top
theorem prs_more : ∀ (l : List Rg) (p : List UInt8) (acc : List Rg) (T : List UInt8), okG l → T = p ++ prR l → Prs T p.length acc → par T = (nrm (acc ++ l), 0, 0)
  | [], p, acc, T, _, hT, hP => by
    rw [List.append_nil]
    exact hP.done (by rw [hT]; simp [prR])
  | g :: l, p, acc, T, ho, hT, hP => by
    obtain ⟨g0, g1, g2⟩ := ho g (by simp)
    have hT2 : T = (p ++ [32]) ++ (prI g ++ prR l) := by rw [hT]; simp [prR]
    have hlt : p.length < T.length := by rw [hT]; simp [prR]
    have hb : T.getD p.length 0 = 32 := by rw [hT, List.getD_eq_getElem?_getD, List.getElem?_append_right (Nat.le_refl _), Nat.sub_self]; rfl
    have hP1 := hP.blank hlt hb
    have hl1 : (p ++ [32]).length = p.length + 1 := by simp
    have hi : itm T (p.length + 1) = (g, p.length + 1 + (prI g).length, 0) := by
      have h := itm_prI (p ++ [32]) (prR l) g g0 g1 g2 (prR_head l)
      rw [← hT2, hl1] at h
      exact h
    have hpos : 0 < (prI g).length := List.length_pos_iff.2 (prI_ne g)
    have hlen : T.length = p.length + 1 + (prI g).length + (prR l).length := by rw [hT2]; simp only [List.length_append, List.length_cons, List.length_nil]; omega
    have hne : T.getD (p.length + 1) 0 ≠ 32 := by
      rw [hT2, List.getD_eq_getElem?_getD, List.getElem?_append_right (by rw [hl1]; exact Nat.le_refl _), hl1, Nat.sub_self]
      show (85 : UInt8) ≠ 32
      decide
    have hP2 := hP1.more (by omega) hne (by rw [hi]) (by
      rw [hi]
      rintro ⟨h1, h2⟩
      apply h2
      have e3 : T = (p ++ ([32] ++ prI g)) ++ prR l := by rw [hT2]; simp
      have hl3 : (p ++ ([32] ++ prI g)).length = p.length + 1 + (prI g).length := by simp; omega
      dsimp only at h1 ⊢
      rw [e3, List.getD_eq_getElem?_getD, List.getElem?_append_right (by rw [hl3]; exact Nat.le_refl _), hl3, Nat.sub_self]
      cases l with
      | nil => rw [hlen] at h1; simp [prR] at h1
      | cons x l => rfl)
    rw [hi] at hP2
    have hfin := prs_more l (p ++ ([32] ++ prI g)) (acc ++ [g]) T (fun x hx => ho x (by simp [hx])) (by rw [hT2]; simp) (by
      have hl3 : (p ++ ([32] ++ prI g)).length = p.length + 1 + (prI g).length := by simp; omega
      rw [hl3]; exact hP2)
    rw [hfin]
    simp
theorem par_prt (l : List Rg) (h : nf l) : par (prt l) = (l, 0, 0) := by
  have ho : okG l := fun g hg => by
    obtain ⟨j, hj⟩ := List.getElem?_of_mem hg
    exact nf_at h hj
  have hn : nrm l = l := ((nrm_same l).2 h).symm
  cases l with
  | nil => rfl
  | cons g l =>
    obtain ⟨g0, g1, g2⟩ := ho g (by simp)
    have hT := prt_cons g l
    have hP := Prs.start (prt (g :: l))
    have hi : itm (prt (g :: l)) 0 = (g, (prI g).length, 0) := by
      have h := itm_prI [] (prR l) g g0 g1 g2 (prR_head l)
      rw [List.nil_append, ← hT] at h
      simpa using h
    have hpos : 0 < (prI g).length := List.length_pos_iff.2 (prI_ne g)
    have hlen : (prt (g :: l)).length = (prI g).length + (prR l).length := by rw [hT, List.length_append]
    have hne : (prt (g :: l)).getD 0 0 ≠ 32 := by
      rw [hT]
      show (85 : UInt8) ≠ 32
      decide
    have hP2 := hP.more (by omega) hne (by rw [hi]) (by
      rw [hi]
      rintro ⟨h1, h2⟩
      apply h2
      dsimp only at h1 ⊢
      rw [hT, List.getD_eq_getElem?_getD, List.getElem?_append_right (Nat.le_refl _), Nat.sub_self]
      cases l with
      | nil => rw [hlen] at h1; simp [prR] at h1
      | cons x l => rfl)
    rw [hi] at hP2
    have hfin := prs_more l (prI g) ([] ++ [g]) (prt (g :: l)) (fun x hx => ho x (by simp [hx])) hT hP2
    rw [hfin]
    show (nrm (g :: l), 0, 0) = (g :: l, 0, 0)
    rw [hn]
end Go.Proofs.YtohhokjlgihbgaaGreatDoor
/- The contract of the document's Hex. -/
namespace Go.Proofs.YtohhokjlgihbgaaGreatDoor
open Go.RowKit

theorem wdt_go {n j : Nat} (h : j < wdt n) : 0 < n / 16 ^ j ∨ j < 4 := by
  by_cases c : j < 4
  · exact .inr c
  · left
    unfold wdt at h
    split at h
    · omega
    · split at h
      · have : j = 4 := by omega
        subst this
        show 0 < n / 65536
        omega
      · have : j = 4 ∨ j = 5 := by omega
        rcases this with rfl | rfl
        · show 0 < n / 65536; omega
        · show 0 < n / 1048576; omega
theorem wdt_stop {n : Nat} (h : n ≤ 1114111) : n / 16 ^ wdt n = 0 := Nat.div_eq_of_lt (wdt_pow n h)
theorem dgs_at (d : Nat) (h : d < 16) (l : List UInt8) : (⟨#[48, 49, 50, 51, 52, 53, 54, 55, 56, 57, 65, 66, 67, 68, 69, 70]⟩ : ByteArray).extract d (d + 1) ++ ⟨l.toArray⟩ = ⟨(dgU d :: l).toArray⟩ := by
  have e : (⟨#[48, 49, 50, 51, 52, 53, 54, 55, 56, 57, 65, 66, 67, 68, 69, 70]⟩ : ByteArray).extract d (d + 1) = ⟨#[dgU d]⟩ := by
    have hall : ∀ d, d < 16 → (⟨#[48, 49, 50, 51, 52, 53, 54, 55, 56, 57, 65, 66, 67, 68, 69, 70]⟩ : ByteArray).extract d (d + 1) = ⟨#[dgU d]⟩ := by decide
    exact hall d h
  rw [e]
  apply ByteArray.ext
  simp
set_option maxHeartbeats 1000000 in
set_option maxRecDepth 100000 in
theorem rhex_any (n : Nat) (w : World) (hn : n ≤ 1114111) :
    Calls Tryz.prog 105 #[.int .i32 (n : Int)] w fun e w' => e = .returned (.string ⟨(hex n).toArray⟩) ∧ w' = w := by
  have hwd := wdt_bd n
  go_enter Tryz.func105, Tryz.ntmps105
  go_wp2
  go_loopw [0, 4] (fun r s wr => ∃ (j q : Nat), r = .int .i32 (q : Int) ∧ s = .string ⟨(hxL j n).toArray⟩ ∧ j ≤ wdt n ∧ q ≤ 1114111 ∧ Hid (q = n / 16 ^ j) ∧ wr = w) (fun r s _ => match s with | .string b => wdt n - b.size | _ => 0)
  case atStart => exact ⟨0, n, rfl, rfl, by omega, hn, by simp [Hid], rfl⟩
  case round =>
    obtain ⟨j, q, rfl, rfl, hj, hq, HQ, hw⟩ := hrel
    obtain rfl := hw.symm
    have hlen : (hxL j n).length = j := hxL_len j n
    by_cases c : j < wdt n
    · have hd : q % 16 < 16 := by omega
      have HC := hid (show (⟨#[48, 49, 50, 51, 52, 53, 54, 55, 56, 57, 65, 66, 67, 68, 69, 70]⟩ : ByteArray).extract (q % 16) (q % 16 + 1) ++ ⟨(hxL j n).toArray⟩ = ⟨(hxL (j + 1) n).toArray⟩ by rw [dgs_at _ hd, hxL_cons, HQ.out])
      have HQ2 := hid (show q / 16 = n / 16 ^ (j + 1) by rw [HQ.out, Nat.div_div_eq_div_mul, Nat.pow_succ])
      by_cases c1 : 0 < q
      · have c1' : (0 : Int) < (q : Int) := by omega
        go_wp2
        refine ⟨⟨j + 1, q / 16, congrArg (Value.int .i32) (by omega), congrArg Value.string HC.out, by omega, by omega, HQ2, trivial⟩, ?_⟩
        rw [HC.out]
        show wdt n - (hxL (j + 1) n).toArray.size < wdt n - (hxL j n).toArray.size
        rw [List.size_toArray, List.size_toArray, hxL_len, hlen]
        omega
      · have c2 : j < 4 := by rcases wdt_go c with h | h; rw [← HQ.out] at h; omega; exact h
        have c1' : ¬ (0 : Int) < (q : Int) := by omega
        go_wp2
        refine ⟨⟨j + 1, q / 16, congrArg (Value.int .i32) (by omega), congrArg Value.string HC.out, by omega, by omega, HQ2, trivial⟩, ?_⟩
        rw [HC.out]
        show wdt n - (hxL (j + 1) n).toArray.size < wdt n - (hxL j n).toArray.size
        rw [List.size_toArray, List.size_toArray, hxL_len, hlen]
        omega
    · have e : j = wdt n := by omega
      have HS := hid (wdt_stop hn)
      have hq0 : q = 0 := by have h := HQ.out; rw [e, HS.out] at h; exact h
      subst hq0
      have c2 : ¬ (j : Int) < 4 := by omega
      have HE := hid e
      clear e
      go_wp2
      go_ret
      exact ⟨by rw [HE.out]; rfl, rfl⟩
end Go.Proofs.YtohhokjlgihbgaaGreatDoor
/- The contract of strconv.FormatInt at the base 16. -/
namespace Go.Proofs.YtohhokjlgihbgaaGreatDoor
open Go.RowKit

/-- A digit in small letters, and so many of a number's lowest. -/
def dgL (d : Nat) : UInt8 := UInt8.ofNat (if d < 10 then 48 + d else 87 + d)
def loL : Nat → Nat → List UInt8
  | 0, _ => []
  | k + 1, n => loL k (n / 16) ++ [dgL (n % 16)]
theorem loL_len : ∀ (k n : Nat), (loL k n).length = k
  | 0, _ => rfl
  | k + 1, n => by rw [loL, List.length_append, loL_len k]; rfl
theorem loL_cons : ∀ (k n : Nat), loL (k + 1) n = dgL (n / 16 ^ k % 16) :: loL k n
  | 0, n => by simp [loL]
  | k + 1, n => by
    rw [loL, loL_cons k (n / 16), loL, Nat.div_div_eq_div_mul, Nat.pow_succ, Nat.mul_comm (16 ^ k) 16]; rfl
theorem dgL_up (d : Nat) (h : d < 16) : Lib.upperB (dgL d) = dgU d ∧ (dgL d).toNat < 128 := by
  have hall : ∀ d, d < 16 → Lib.upperB (dgL d) = dgU d ∧ (dgL d).toNat < 128 := by decide
  exact hall d h
theorem loL_up : ∀ (k n : Nat), Lib.toUpperA (loL k n) = hxL k n
  | 0, _ => rfl
  | k + 1, n => by
    have := loL_up k (n / 16)
    unfold Lib.toUpperA at this ⊢
    rw [loL, List.map_append, this, hxL, List.map_cons, List.map_nil, (dgL_up _ (by omega)).1]
theorem loL_asc : ∀ (k n : Nat), ∀ b ∈ loL k n, b.toNat < 128
  | 0, _, b, h => by cases h
  | k + 1, n, b, h => by
    rw [loL, List.mem_append] at h
    rcases h with h | h
    · exact loL_asc k _ b h
    · simp at h; subst h; exact (dgL_up _ (by omega)).2
def u8v (b : UInt8) : Value := .int .u8 (b.toNat : Int)
/-- The array in which the digits are laid from its end on. -/
def ArrAt (A j n : Nat) (w : World) : Prop := ∃ cur : Array Value, w.heap[A]? = some (.cells cur 215 (0, 0)) ∧ cur.size = 65 ∧ cur.toList.drop (65 - j) = (loL j n).map u8v
theorem arr_cell {A j n : Nat} {w : World} (h : ArrAt A j n w) (i : Nat) (hi : i < 65) : ∃ v, w.cell? ⟨A, i, none⟩ = some v ∧ w.frozen? ⟨A, i, none⟩ = false := by
  obtain ⟨cur, h1, h2, _⟩ := h
  exact ⟨cur[i], by rw [cell_of_row w A i cur 215 (0, 0) h1]; exact Array.getElem?_eq_getElem (by omega), frozen_of_row w A i cur 215 h1⟩
theorem arr_set {A j n i : Nat} {w : World} (h : ArrAt A j n w) (hi : i = 65 - (j + 1)) (hj : j < 65) : ArrAt A (j + 1) n (w.setCell ⟨A, i, none⟩ (u8v (dgL (n / 16 ^ j % 16)))) := by
  obtain ⟨cur, h1, h2, h3⟩ := h
  subst hi
  refine ⟨_, Lib.heap_setCell_same (i := 65 - (j + 1)) h1 _, by simp [h2], ?_⟩
  have hlt : 65 - (j + 1) < cur.toList.length := by simp; omega
  rw [Array.toList_setIfInBounds, List.drop_eq_getElem_cons (by simpa using hlt), List.getElem_set_self, loL_cons, List.map_cons, ← h3]
  rw [List.drop_set_of_lt (by omega)]
  have : 65 - (j + 1) + 1 = 65 - j := by omega
  rw [this]
theorem arr_read {A j n : Nat} {w : World} (h : ArrAt A j n w) (k : Nat) (hk : k < (loL j n).length) : w.cell? ((⟨A, 65 - j, none⟩ : Addr).add k) = some (.int .u8 ((loL j n)[k].toNat : Int)) := by
  obtain ⟨cur, h1, h2, h3⟩ := h
  have e : (⟨A, 65 - j, none⟩ : Addr).add k = ⟨A, 65 - j + k, none⟩ := by unfold Addr.add; split <;> simp_all
  rw [e, cell_of_row w A _ cur 215 (0, 0) h1]
  have h4 : (cur.toList.drop (65 - j))[k]? = ((loL j n).map u8v)[k]? := by rw [h3]
  rw [List.getElem?_drop, List.getElem?_map, List.getElem?_eq_getElem hk] at h4
  rw [← Array.getElem?_toList, h4]
  rfl
theorem digs_at (d : Nat) (h : d < 36) : d < (⟨#[48, 49, 50, 51, 52, 53, 54, 55, 56, 57, 97, 98, 99, 100, 101, 102, 103, 104, 105, 106, 107, 108, 109, 110, 111, 112, 113, 114, 115, 116, 117, 118, 119, 120, 121, 122]⟩ : ByteArray).size := h
theorem digs_get (d : Nat) (h : d < 16) (h2 : d < (⟨#[48, 49, 50, 51, 52, 53, 54, 55, 56, 57, 97, 98, 99, 100, 101, 102, 103, 104, 105, 106, 107, 108, 109, 110, 111, 112, 113, 114, 115, 116, 117, 118, 119, 120, 121, 122]⟩ : ByteArray).size) : (⟨#[48, 49, 50, 51, 52, 53, 54, 55, 56, 57, 97, 98, 99, 100, 101, 102, 103, 104, 105, 106, 107, 108, 109, 110, 111, 112, 113, 114, 115, 116, 117, 118, 119, 120, 121, 122]⟩ : ByteArray)[d]'h2 = dgL d := by
  have hall : ∀ d, (h : d < 16) → (⟨#[48, 49, 50, 51, 52, 53, 54, 55, 56, 57, 97, 98, 99, 100, 101, 102, 103, 104, 105, 106, 107, 108, 109, 110, 111, 112, 113, 114, 115, 116, 117, 118, 119, 120, 121, 122]⟩ : ByteArray)[d]'(Nat.lt_trans h (by decide)) = dgL d := by decide
  exact hall d h

set_option maxHeartbeats 400000 in
theorem trail_any (w : World) (hZ : w.cell? ⟨6, 15, none⟩ = some (.int .u8 4)) :
    Calls Tryz.prog 194 #[.int .u64 16] w fun e w' => e = .returned (.int .i64 4) ∧ w' = w := by
  have e1 : bits .and .u64 16 (IntKind.u64.wrap (-16)) = 16 := by decide
  have e2 : IntKind.u64.wrap (16 * 285870213051353865) / 288230376151711744 = 15 := by decide
  have e3 : IntKind.u64.wrap 4573923408821661840 = 4573923408821661840 := by decide
  go_enter Tryz.func194, Tryz.ntmps194
  go_wp2
  go_ret
  exact ⟨rfl, rfl⟩
theorem slice_arr (A i1 : Nat) (hi : i1 < 65) (W : World) : (Instr.sliceAt 215 (.pointer (some ⟨A, 0, none⟩)) (some (.int .i64 (i1 : Int))) none none).run Tryz.prog W = .ok (.slice (some ⟨A, i1, none⟩) (65 - i1) (65 - i1)) W := by
  have hlen : Tryz.prog.arrayLen 215 = 65 := by kernel_rfl
  have helem : Tryz.prog.elem 215 = 5 := by kernel_rfl
  have h := run_sliceAt_array_l (P := Tryz.prog) W 215 ⟨A, 0, none⟩ (by rw [hlen, helem]; exact Tryz.underlying215) .i64 (i1 : Int) (by omega) (by rw [hlen]; omega)
  rw [h, helem, Tryz.sizeOf5, hlen]
  have e : ¬ 65 = i1 := by omega
  have ea : (⟨A, 0, none⟩ : Addr).add i1 = ⟨A, i1, none⟩ := by unfold Addr.add; split <;> simp_all
  simp [slicedAt, e, ea]
theorem trail2_any (w : World) (hZ : w.cell? ⟨6, 15, none⟩ = some (.int .u8 4)) :
    Calls Tryz.prog 181 #[.int .u64 16] w fun e w' => e = .returned (.int .i64 4) ∧ w' = w := by
  have HZ := hid hZ
  clear hZ
  go_enter Tryz.func181, Tryz.ntmps181
  go_wp2_with (go_at_call 194; refine (trail_any _ HZ.out).mono ?_; rintro e w' ⟨rfl, hw⟩; obtain rfl := hw.symm)
  go_ret
  exact ⟨rfl, rfl⟩
theorem pow_any (w : World) : Calls Tryz.prog 180 #[.int .i64 16] w fun e w' => e = .returned (.bool true) ∧ w' = w := by
  have e1 : bits .and .i64 16 15 = 0 := by decide
  go_enter Tryz.func180, Tryz.ntmps180
  go_wp2
  go_ret
  exact ⟨rfl, rfl⟩

set_option maxHeartbeats 2000000 in
set_option maxRecDepth 100000 in
theorem bits_any (n : Nat) (w : World) (hn : n ≤ 1114111) (hZ : w.cell? ⟨6, 15, none⟩ = some (.int .u8 4)) (h9 : 9 ≤ w.heap.size) :
    Calls Tryz.prog 154 #[.slice none 0 0, .int .u64 (n : Int), .int .i64 16, .bool false, .bool false] w fun e w' => ∃ k, e = .returned (.tuple #[.slice none 0 0, .string ⟨(loL k n).toArray⟩]) ∧ 1 ≤ k ∧ n < 16 ^ k ∧ (k = 1 ∨ 16 ^ (k - 1) ≤ n) ∧ Below w.heap.size w w' := by
  obtain ⟨wa, hwa⟩ : ∃ wa, wa = w.alloc (.cells Tryz.zeroCells215 215) := ⟨_, rfl⟩
  have HBa := hid (show Below w.heap.size w wa by rw [hwa]; exact (Below.refl _ _).alloc (Nat.le_refl _) _)
  have HZ := hid (show wa.cell? ⟨6, 15, none⟩ = some (.int .u8 4) from (HBa.out.cell (p := ⟨6, 15, none⟩) (show 6 < w.heap.size by omega)).trans hZ)
  have HA := hid (show ArrAt w.heap.size 0 n wa by rw [hwa]; exact ⟨_, World.alloc_heap_new w _, by kernel_rfl, by rw [List.drop_of_length_le (by show Tryz.zeroCells215.toList.length ≤ 65; exact Nat.le_of_eq (by kernel_rfl))]; rfl⟩)
  have HWA := hid hwa
  clear hZ hwa
  go_enter Tryz.func154, Tryz.ntmps154
  go_wp2_with (first | (go_at_call 180; rw [← HWA.out]; refine (pow_any _).mono ?_; rintro e w' ⟨rfl, hw⟩; obtain rfl := hw.symm) | (go_at_call 181; refine (trail2_any _ HZ.out).mono ?_; rintro e w' ⟨rfl, hw⟩; obtain rfl := hw.symm))
  obtain ⟨A, hA⟩ : ∃ A, A = w.heap.size := ⟨_, rfl⟩
  have hAw : A ≤ wa.heap.size := by rw [hA]; exact HBa.out.size
  rw [← hA] at HA HBa ⊢
  have HAE := hid hA
  clear HWA HZ hA
  go_loopw [1, 13] (fun u i wr => ∃ j q i0 : Nat, u = .int .u64 (q : Int) ∧ i = .int .i64 (i0 : Int) ∧ i0 + j = 65 ∧ j ≤ 5 ∧ q ≤ 1114111 ∧ Hid (q = n / 16 ^ j) ∧ Hid (j = 0 ∨ 16 ^ j ≤ n) ∧ Hid (ArrAt A j n wr) ∧ Hid (Below A w wr)) (fun _ i _ => (intOf i).toNat)
  case atStart => exact ⟨0, n, 65, rfl, rfl, rfl, by omega, hn, by simp [Hid], .inl rfl, HA, HBa⟩
  case round =>
    obtain ⟨j, q, i0, rfl, rfl, hij, hj, hq, HQ, HG, HR, HB⟩ := hrel
    obtain ⟨i1, rfl⟩ : ∃ i1, i0 = i1 + 1 := ⟨i0 - 1, by omega⟩
    obtain ⟨v0, c0, f0⟩ := arr_cell HR.out i1 (by omega)
    have esub : ((i1 + 1 : Nat) : Int) - 1 = (i1 : Int) := by omega
    have ewr : IntKind.i64.wrap (i1 : Int) = (i1 : Int) := by rw [IntKind.wrap_i64]; omega
    have b0 : (0 : Int) ≤ (i1 : Int) := by omega
    have b1 : (i1 : Int) < 65 := by omega
    by_cases c : 16 ≤ q
    · have hj5 : j < 5 := by
        rcases Nat.lt_or_ge j 5 with h | h
        · exact h
        · have e : j = 5 := by omega
          subst e
          have h1 := HQ.out
          rw [show (16 : Nat) ^ 5 = 1048576 from by decide] at h1
          omega
      obtain ⟨d, hd⟩ : ∃ d, d = q % 16 := ⟨_, rfl⟩
      have hd16 : d < 16 := by omega
      have eAnd : bits .and .u64 (q : Int) 15 = (d : Int) := by
        have h := bits_and_u64_nat q 15 (by omega) (by omega)
        rw [hd, ← Nat.and_two_pow_sub_one_eq_mod q 4]
        exact h
      have hsz := digs_at d (by omega)
      have hbd := digs_get d hd16 hsz
      have HR2 := hid (show ArrAt A (j + 1) n (wr.setCell ⟨A, i1, none⟩ (.int .u8 ((dgL d).toNat : Int))) by rw [hd, HQ.out]; exact arr_set HR.out (by omega) (by omega))
      have HQ2 := hid (show q / 16 = n / 16 ^ (j + 1) by rw [HQ.out, Nat.div_div_eq_div_mul, Nat.pow_succ])
      have HG2 := hid (show j + 1 = 0 ∨ 16 ^ (j + 1) ≤ n from .inr (by
        have h1 := HQ.out
        have h2 : 16 * 16 ^ j ≤ n := (Nat.le_div_iff_mul_le (Nat.pow_pos (by omega))).1 (by rw [← h1]; exact c)
        rw [Nat.pow_succ, Nat.mul_comm]; exact h2))
      have HB2 := hid (HB.out.setCell (p := ⟨A, i1, none⟩) (Nat.le_refl _) (.int .u8 ((dgL d).toNat : Int)))
      have c' : (16 : Int) ≤ (q : Int) := by omega
      obtain ⟨dl, hdl⟩ : ∃ dl, dl = dgL d := ⟨_, rfl⟩
      rw [← hdl] at hbd HR2 HB2
      clear hd hdl HR HQ HG HB
      go_wp2
      exact ⟨⟨j + 1, q / 16, i1, congrArg (Value.int .u64) (by omega), rfl, by omega, by omega, by omega, HQ2, HG2, HR2, HB2⟩, by simp [intOf]⟩
    · have c' : ¬ (16 : Int) ≤ (q : Int) := by omega
      have hsz := digs_at q (by omega)
      have hbd := digs_get q (by omega) hsz
      have HR2 := hid (show ArrAt A (j + 1) n (wr.setCell ⟨A, i1, none⟩ (.int .u8 ((dgL q).toNat : Int))) by have h := arr_set HR.out (i := i1) (by omega) (by omega); rw [← HQ.out, Nat.mod_eq_of_lt (by omega)] at h; exact h)
      have HB2 := hid (HB.out.setCell (p := ⟨A, i1, none⟩) (Nat.le_refl _) (.int .u8 ((dgL q).toNat : Int)))
      have HQ1 := hid (show n < 16 ^ (j + 1) by
        have h1 := HQ.out
        rw [Nat.pow_succ, Nat.mul_comm]
        exact (Nat.div_lt_iff_lt_mul (Nat.pow_pos (by omega))).1 (by rw [← h1]; omega))
      have HG1 := hid (show j + 1 = 1 ∨ 16 ^ (j + 1 - 1) ≤ n from HG.out.imp (fun h => by omega) (fun h => h))
      obtain ⟨W, hW⟩ : ∃ W, W = wr.setCell ⟨A, i1, none⟩ (.int .u8 ((dgL q).toNat : Int)) := ⟨_, rfl⟩
      have hsl := slice_arr A i1 (by omega) W
      have hcv := run_convert_bytes_back (P := Tryz.prog) W 94 9 5 ⟨A, i1, none⟩ (65 - i1) (loL (j + 1) n) Tryz.underlying94 Tryz.underlying5 Tryz.underlying9 (fun k hk => by
        have h := arr_read (w := W) (A := A) (show ArrAt A (j + 1) n W by rw [hW]; exact HR2.out) k hk
        rw [show 65 - (j + 1) = i1 by omega] at h
        exact h)
      rw [loL_len, show j + 1 = 65 - i1 by omega] at hcv
      rw [hW] at hsl hcv
      have HJ := hid (show 65 - i1 = j + 1 by omega)
      obtain ⟨S, hS⟩ : ∃ S, S = loL (65 - i1) n := ⟨_, rfl⟩
      rw [← hS] at hcv
      have HS := hid hS
      obtain ⟨dl, hdl⟩ : ∃ dl, dl = dgL q := ⟨_, rfl⟩
      rw [← hdl] at hbd hsl hcv HB2
      clear hW hS hdl HR2 HR HQ HG HB
      go_wp2
      go_ret2
      exact ⟨j + 1, by rw [HS.out, HJ.out]; rfl, by omega, HQ1.out, HG1.out, by rw [← HAE.out]; exact HB2.out⟩

set_option maxHeartbeats 1000000 in
theorem fmt_any (n : Nat) (w : World) (hn : n ≤ 1114111) (hZ : w.cell? ⟨6, 15, none⟩ = some (.int .u8 4)) (h9 : 9 ≤ w.heap.size) :
    Calls Tryz.prog 130 #[.int .i64 (n : Int), .int .i64 16] w fun e w' => ∃ k, e = .returned (.string ⟨(loL k n).toArray⟩) ∧ 1 ≤ k ∧ n < 16 ^ k ∧ (k = 1 ∨ 16 ^ (k - 1) ≤ n) ∧ Below w.heap.size w w' := by
  have HC := hid (bits_any n w hn hZ h9)
  have t1 : ¬ (n : Int) < 0 := by omega
  clear hZ
  go_enter Tryz.func130, Tryz.ntmps130
  go_wp2_with fail
  refine HC.out.mono ?_
  rintro e w1 ⟨k, rfl, hk⟩
  have HK := hid hk
  clear hk HC
  go_wp2
  go_ret
  exact ⟨k, rfl, HK.out⟩
theorem fmt2_any (n : Nat) (w : World) (hn : n ≤ 1114111) (hZ : w.cell? ⟨6, 15, none⟩ = some (.int .u8 4)) (h9 : 9 ≤ w.heap.size) :
    Calls Tryz.prog 109 #[.int .i64 (n : Int), .int .i64 16] w fun e w' => ∃ k, e = .returned (.string ⟨(loL k n).toArray⟩) ∧ 1 ≤ k ∧ n < 16 ^ k ∧ (k = 1 ∨ 16 ^ (k - 1) ≤ n) ∧ Below w.heap.size w w' := by
  have HC := hid (fmt_any n w hn hZ h9)
  clear hZ
  go_enter Tryz.func109, Tryz.ntmps109
  go_wp2_with fail
  refine HC.out.mono ?_
  rintro e w1 ⟨k, rfl, hk⟩
  have HK := hid hk
  clear hk HC
  go_wp2
  go_ret
  exact ⟨k, rfl, HK.out⟩
end Go.Proofs.YtohhokjlgihbgaaGreatDoor
/- Contracts of library functions, laid at this program. -/
namespace Go.Proofs
open Go.Shelf
def Tryz.lays158_ren : Go.Shelf.Ren := ⟨fun | 158 => 108 | 165 => 119 | 166 => 53 | 167 => 55 | 169 => 56 | 230 => 128 | 203 => 129 | 240 => 82 | 241 => 143 | 197 => 87 | 118 => 147 | 168 => 148 | 270 => 149 | 262 => 150 | 276 => 106 | 277 => 164 | 260 => 111 | 242 => 176 | 313 => 177 | 278 => 190 | 274 => 191 | 275 => 192 | n => n, fun | 9 => 9 | 4 => 4 | 3 => 3 | 5 => 5 | 72 => 96 | 0 => 0 | 76 => 99 | 75 => 98 | 107 => 168 | 70 => 93 | 20 => 20 | 37 => 94 | 127 => 131 | 21 => 21 | 105 => 134 | 164 => 153 | 162 => 212 | 203 => 210 | 119 => 173 | 46 => 128 | 139 => 176 | 138 => 175 | 51 => 191 | 160 => 224 | 208 => 240 | 206 => 238 | 80 => 53 | n => n, fun | 13 => 3 | 3 => 0 | 4 => 1 | n => n⟩
theorem Tryz.lays158 : Go.Proofs.Lays.n158 Tryz.prog Tryz.lays158_ren := {
  mixed := by kernel_rfl
  f118 := Tryz.func147.trans (congrArg some (by kernel_rfl))
  f158 := Tryz.func108.trans (congrArg some (by kernel_rfl))
  f165 := Tryz.func119.trans (congrArg some (by kernel_rfl))
  f166 := Tryz.func53.trans (congrArg some (by kernel_rfl))
  f167 := Tryz.func55.trans (congrArg some (by kernel_rfl))
  f168 := Tryz.func148.trans (congrArg some (by kernel_rfl))
  f169 := Tryz.func56.trans (congrArg some (by kernel_rfl))
  f197 := Tryz.func87.trans (congrArg some (by kernel_rfl))
  f203 := Tryz.func129.trans (congrArg some (by kernel_rfl))
  f230 := Tryz.func128.trans (congrArg some (by kernel_rfl))
  f240 := Tryz.func82.trans (congrArg some (by kernel_rfl))
  f241 := Tryz.func143.trans (congrArg some (by kernel_rfl))
  f242 := Tryz.func176.trans (congrArg some (by kernel_rfl))
  f260 := Tryz.func111.trans (congrArg some (by kernel_rfl))
  f262 := Tryz.func150.trans (congrArg some (by kernel_rfl))
  f270 := Tryz.func149.trans (congrArg some (by kernel_rfl))
  f274 := Tryz.func191.trans (congrArg some (by kernel_rfl))
  f275 := Tryz.func192.trans (congrArg some (by kernel_rfl))
  f276 := Tryz.func106.trans (congrArg some (by kernel_rfl))
  f277 := Tryz.func164.trans (congrArg some (by kernel_rfl))
  f278 := Tryz.func190.trans (congrArg some (by kernel_rfl))
  f313 := Tryz.func177.trans (congrArg some (by kernel_rfl))
  t0 := Tryz.underlying0
  a0 := Tryz.isAgg0
  z0 := Tryz.sizeOf0
  v0 := Tryz.zeroValue0
  t3 := Tryz.underlying3
  a3 := Tryz.isAgg3
  z3 := Tryz.sizeOf3
  v3 := Tryz.zeroValue3
  t4 := Tryz.underlying4
  a4 := Tryz.isAgg4
  z4 := Tryz.sizeOf4
  v4 := Tryz.zeroValue4
  t5 := Tryz.underlying5
  a5 := Tryz.isAgg5
  z5 := Tryz.sizeOf5
  v5 := Tryz.zeroValue5
  t9 := Tryz.underlying9
  a9 := Tryz.isAgg9
  z9 := Tryz.sizeOf9
  v9 := Tryz.zeroValue9
  t20 := Tryz.underlying20
  a20 := Tryz.isAgg20
  z20 := Tryz.sizeOf20
  v20 := Tryz.zeroValue20
  t21 := Tryz.underlying21
  a21 := Tryz.isAgg21
  z21 := Tryz.sizeOf21
  v21 := Tryz.zeroValue21
  t37 := Tryz.underlying94
  a37 := Tryz.isAgg94
  z37 := Tryz.sizeOf94
  v37 := Tryz.zeroValue94
  t46 := Tryz.underlying128
  a46 := Tryz.isAgg128
  z46 := Tryz.sizeOf128
  v46 := Tryz.zeroValue128
  t51 := Tryz.underlying191
  a51 := Tryz.isAgg191
  z51 := Tryz.sizeOf191
  v51 := Tryz.zeroValue191
  t70 := Tryz.underlying93
  a70 := Tryz.isAgg93
  z70 := Tryz.sizeOf93
  v70 := Tryz.zeroValue93
  t72 := Tryz.underlying96
  a72 := Tryz.isAgg96
  z72 := Tryz.sizeOf96
  v72 := Tryz.zeroValue96
  t75 := Tryz.underlying98
  a75 := Tryz.isAgg98
  z75 := Tryz.sizeOf98
  v75 := Tryz.zeroValue98
  t76 := Tryz.underlying99
  a76 := Tryz.isAgg99
  z76 := Tryz.sizeOf99
  v76 := Tryz.zeroValue99
  t105 := Tryz.underlying134
  a105 := Tryz.isAgg134
  z105 := Tryz.sizeOf134
  v105 := Tryz.zeroValue134
  t107 := Tryz.underlying168
  a107 := Tryz.isAgg168
  z107 := Tryz.sizeOf168
  v107 := Tryz.zeroValue168
  t119 := Tryz.underlying173
  a119 := Tryz.isAgg173
  z119 := Tryz.sizeOf173
  t127 := Tryz.underlying131
  a127 := Tryz.isAgg131
  z127 := Tryz.sizeOf131
  v127 := Tryz.zeroValue131
  t138 := Tryz.underlying175
  a138 := Tryz.isAgg175
  z138 := Tryz.sizeOf175
  v138 := Tryz.zeroValue175
  t139 := Tryz.underlying176
  a139 := Tryz.isAgg176
  z139 := Tryz.sizeOf176
  v139 := Tryz.zeroValue176
  t160 := Tryz.underlying224
  a160 := Tryz.isAgg224
  z160 := Tryz.sizeOf224
  v160 := Tryz.zeroValue224
  t162 := Tryz.underlying212
  a162 := Tryz.isAgg212
  z162 := Tryz.sizeOf212
  v162 := Tryz.zeroValue212
  t164 := Tryz.underlying153
  a164 := Tryz.isAgg153
  z164 := Tryz.sizeOf153
  v164 := Tryz.zeroValue153
  t203 := Tryz.underlying210
  a203 := Tryz.isAgg210
  z203 := Tryz.sizeOf210
  v203 := Tryz.zeroValue210
  t206 := Tryz.underlying238
  a206 := Tryz.isAgg238
  z206 := Tryz.sizeOf238
  v206 := Tryz.zeroValue238
  t208 := Tryz.underlying240
  a208 := Tryz.isAgg240
  z208 := Tryz.sizeOf240
  v208 := Tryz.zeroValue240
  g3 := by kernel_rfl
  g4 := by kernel_rfl
  g13 := by kernel_rfl }
def Tryz.lays105_ren : Go.Shelf.Ren := ⟨fun | 105 => 110 | 212 => 131 | 99 => 132 | 165 => 119 | 166 => 53 | 170 => 133 | 169 => 56 | 263 => 155 | 264 => 156 | 206 => 157 | 240 => 82 | 241 => 143 | 276 => 106 | 277 => 164 | n => n, fun | 9 => 9 | 3 => 3 | 4 => 4 | 20 => 20 | 0 => 0 | 46 => 128 | 109 => 169 | 5 => 5 | 72 => 96 | 76 => 99 | 51 => 191 | 146 => 192 | 53 => 186 | 148 => 194 | 70 => 93 | 37 => 94 | 75 => 98 | 127 => 131 | 164 => 153 | 80 => 53 | n => n, fun | n => n⟩
theorem Tryz.lays105 : Go.Proofs.Lays.n105 Tryz.prog Tryz.lays105_ren := {
  mixed := by kernel_rfl
  f99 := Tryz.func132.trans (congrArg some (by kernel_rfl))
  f105 := Tryz.func110.trans (congrArg some (by kernel_rfl))
  f165 := Tryz.func119.trans (congrArg some (by kernel_rfl))
  f166 := Tryz.func53.trans (congrArg some (by kernel_rfl))
  f169 := Tryz.func56.trans (congrArg some (by kernel_rfl))
  f170 := Tryz.func133.trans (congrArg some (by kernel_rfl))
  f206 := Tryz.func157.trans (congrArg some (by kernel_rfl))
  f212 := Tryz.func131.trans (congrArg some (by kernel_rfl))
  f240 := Tryz.func82.trans (congrArg some (by kernel_rfl))
  f241 := Tryz.func143.trans (congrArg some (by kernel_rfl))
  f263 := Tryz.func155.trans (congrArg some (by kernel_rfl))
  f264 := Tryz.func156.trans (congrArg some (by kernel_rfl))
  f276 := Tryz.func106.trans (congrArg some (by kernel_rfl))
  f277 := Tryz.func164.trans (congrArg some (by kernel_rfl))
  t0 := Tryz.underlying0
  a0 := Tryz.isAgg0
  z0 := Tryz.sizeOf0
  v0 := Tryz.zeroValue0
  t3 := Tryz.underlying3
  a3 := Tryz.isAgg3
  z3 := Tryz.sizeOf3
  v3 := Tryz.zeroValue3
  t4 := Tryz.underlying4
  a4 := Tryz.isAgg4
  z4 := Tryz.sizeOf4
  v4 := Tryz.zeroValue4
  t5 := Tryz.underlying5
  a5 := Tryz.isAgg5
  z5 := Tryz.sizeOf5
  v5 := Tryz.zeroValue5
  t9 := Tryz.underlying9
  a9 := Tryz.isAgg9
  z9 := Tryz.sizeOf9
  v9 := Tryz.zeroValue9
  t20 := Tryz.underlying20
  a20 := Tryz.isAgg20
  z20 := Tryz.sizeOf20
  v20 := Tryz.zeroValue20
  t37 := Tryz.underlying94
  a37 := Tryz.isAgg94
  z37 := Tryz.sizeOf94
  v37 := Tryz.zeroValue94
  t46 := Tryz.underlying128
  a46 := Tryz.isAgg128
  z46 := Tryz.sizeOf128
  v46 := Tryz.zeroValue128
  t51 := Tryz.underlying191
  a51 := Tryz.isAgg191
  z51 := Tryz.sizeOf191
  v51 := Tryz.zeroValue191
  t53 := Tryz.underlying186
  a53 := Tryz.isAgg186
  z53 := Tryz.sizeOf186
  v53 := Tryz.zeroValue186
  t70 := Tryz.underlying93
  a70 := Tryz.isAgg93
  z70 := Tryz.sizeOf93
  v70 := Tryz.zeroValue93
  t72 := Tryz.underlying96
  a72 := Tryz.isAgg96
  z72 := Tryz.sizeOf96
  v72 := Tryz.zeroValue96
  t75 := Tryz.underlying98
  a75 := Tryz.isAgg98
  z75 := Tryz.sizeOf98
  v75 := Tryz.zeroValue98
  t76 := Tryz.underlying99
  a76 := Tryz.isAgg99
  z76 := Tryz.sizeOf99
  v76 := Tryz.zeroValue99
  t109 := Tryz.underlying169
  a109 := Tryz.isAgg169
  z109 := Tryz.sizeOf169
  v109 := Tryz.zeroValue169
  t127 := Tryz.underlying131
  a127 := Tryz.isAgg131
  z127 := Tryz.sizeOf131
  v127 := Tryz.zeroValue131
  t146 := Tryz.underlying192
  a146 := Tryz.isAgg192
  z146 := Tryz.sizeOf192
  v146 := Tryz.zeroValue192
  t148 := Tryz.underlying194
  a148 := Tryz.isAgg194
  z148 := Tryz.sizeOf194
  v148 := Tryz.zeroValue194
  t164 := Tryz.underlying153
  a164 := Tryz.isAgg153
  z164 := Tryz.sizeOf153
  v164 := Tryz.zeroValue153 }
end Go.Proofs
