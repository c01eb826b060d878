/- The contract of find (package runes): the range of a normal form in which a number lies, by halves. -/
import Derived.Test.YtfahbdlcokoghabGreatDoorAt
namespace Go.Proofs.YtfahbdlcokoghabGreatDoor
open Go.RowKit

def cmpR (a b r : Int) : Int := if b < r then -1 else if r < a then 1 else 0
theorem cmp_any (a b r : Int) (w : World) : Calls Tryz.prog 51 #[.agg #[.int .i32 a, .int .i32 b], .int .i32 r] w fun e w' => e = .returned (.int .i64 (cmpR a b r)) ∧ Below w.heap.size w w' := by
  by_cases h1 : b < r
  · have H := hid (show cmpR a b r = -1 by unfold cmpR; rw [if_pos h1])
    go_enter Tryz.func51, Tryz.ntmps51
    go_wp2
    go_ret
    exact ⟨by rw [H.out]; rfl, (Below.refl _ _).alloc (Nat.le_refl _) _⟩
  · by_cases h2 : r < a
    · have H := hid (show cmpR a b r = 1 by unfold cmpR; rw [if_neg h1, if_pos h2])
      go_enter Tryz.func51, Tryz.ntmps51
      go_wp2
      go_ret
      exact ⟨by rw [H.out]; rfl, (Below.refl _ _).alloc (Nat.le_refl _) _⟩
    · have H := hid (show cmpR a b r = 0 by unfold cmpR; rw [if_neg h1, if_neg h2])
      go_enter Tryz.func51, Tryz.ntmps51
      go_wp2
      go_ret
      exact ⟨by rw [H.out]; rfl, (Below.refl _ _).alloc (Nat.le_refl _) _⟩

theorem nf_rise : ∀ {l : List Rg} {b : Int} {i j : Nat} {g h : Rg}, nfF b l → i < j → l[i]? = some g → l[j]? = some h → g.2 < h.1
  | [], _, _, _, _, _, _, _, h, _ => by cases h
  | x :: l, b, 0, j + 1, g, h, hs, _, e1, e2 => by
    cases e1
    have := (nf_at hs.2.2.2 (show l[j]? = some h from e2)).1
    omega
  | x :: l, b, i + 1, j + 1, g, h, hs, hij, e1, e2 => nf_rise hs.2.2.2 (by omega) (show l[i]? = some g from e1) (show l[j]? = some h from e2)
  | x :: l, b, i, 0, g, h, hs, hij, e1, e2 => by omega

set_option maxRecDepth 100000 in
set_option maxHeartbeats 3000000 in
theorem search_any (so : Option Addr) (sc : Nat) (s : List Rg) (r : Int) (w : World) (ha : RdR w so s) (hl : s.length ≤ 100000) (hnf : nf s) :
    Calls Tryz.prog 50 #[.slice so s.length sc, .int .i32 r, .func (.func 51) #[] #[]] w fun e w' => ∃ k : Nat, e = .returned (.tuple #[.int .i64 k, .bool (hasB r s)]) ∧ (hasB r s = true → ∃ g, s[k]? = some g ∧ g.1 ≤ r ∧ r ≤ g.2) ∧ Below w.heap.size w w' := by
  have HA := hid ha
  have HNF := hid hnf
  clear ha hnf
  go_enter Tryz.func50, Tryz.ntmps50
  go_wp2
  go_loopw [9, 10] (fun x y wr => ∃ i j : Nat, x = .int .i64 i ∧ y = .int .i64 j ∧ i ≤ j ∧ j ≤ s.length ∧ Hid (∀ (m : Nat) (g : Rg), m < i → s[m]? = some g → g.2 < r) ∧ Hid (∀ (m : Nat) (g : Rg), j ≤ m → s[m]? = some g → r ≤ g.2) ∧ Hid (Below w.heap.size w wr)) (fun x y _ => (intOf y).toNat - (intOf x).toNat)
  case atStart => exact ⟨0, s.length, rfl, rfl, by omega, by omega, fun m g hm => (by omega), fun m g hm e => (by rw [List.getElem?_eq_none hm] at e; cases e), Below.refl _ _⟩
  case round =>
    obtain ⟨i, j, rfl, rfl, hij, hj, HL, HR, HB⟩ := hrel
    have hbs := HB.out.size
    by_cases hlt : i < j
    · have hlt' : (i : Int) < (j : Int) := by omega
      obtain ⟨h, hh⟩ : ∃ h : Nat, h = (i + j) / 2 := ⟨_, rfl⟩
      have eh : ((i : Int) + (j : Int)) / 2 = (h : Int) := by omega
      have h1 : i ≤ h := by omega
      have h2 : h < j := by omega
      have h3 : h < s.length := by omega
      clear hh
      obtain ⟨gs, rfl, hgs, y0, y1⟩ := HA.out.below HB.out h s[h] (List.getElem?_eq_getElem h3)
      have HG := hid (show s[h]? = some s[h] from List.getElem?_eq_getElem h3)
      have HL2 := hid (show s[h].2 < r → ∀ (m : Nat) (g : Rg), m < h + 1 → s[m]? = some g → g.2 < r from fun hc m g hm e => by
        rcases Nat.lt_or_ge m h with hm' | hm'
        · have h5 := nf_rise HNF.out hm' e HG.out
          have h6 := nf_at HNF.out HG.out
          omega
        · have : m = h := by omega
          subst this
          rw [HG.out] at e; cases e; exact hc)
      have HR2 := hid (show r ≤ s[h].2 → ∀ (m : Nat) (g : Rg), h ≤ m → s[m]? = some g → r ≤ g.2 from fun hc m g hm e => by
        rcases Nat.lt_or_ge h m with hm' | hm'
        · have h5 := nf_rise HNF.out hm' HG.out e
          have h6 := nf_at HNF.out e
          omega
        · have : m = h := by omega
          subst this
          rw [HG.out] at e; cases e; exact hc)
      clear HG
      generalize s[h].1 = f0 at *
      generalize s[h].2 = f1 at *
      go_wp2_with fail
      refine (cmp_any f0 f1 r _).mono ?_
      rintro e w2 ⟨rfl, hb2⟩
      have HB2 := hid (HB.out.trans (hb2.mono hbs))
      clear hb2
      by_cases hc : f1 < r
      · have HL3 := hid (HL2.out hc)
        have ec : cmpR f0 f1 r = -1 := by unfold cmpR; rw [if_pos hc]
        clear HL2 HR2
        go_wp2
        go_roundw
        case rel => exact ⟨h + 1, j, by go_num, rfl, by omega, hj, HL3, HR, HB2⟩
        case measure => simp [intOf]; omega
      · have HR3 := hid (HR2.out (by omega))
        have ec : ¬ cmpR f0 f1 r < 0 := by unfold cmpR; rw [if_neg hc]; split <;> omega
        clear HL2 HR2
        go_wp2
        go_roundw
        case rel => exact ⟨i, h, rfl, rfl, by omega, by omega, HL, HR3, HB2⟩
        case measure => simp [intOf]; omega
    · have hji : j = i := by omega
      subst hji
      by_cases hn : j < s.length
      · obtain ⟨gs, rfl, hgs, y0, y1⟩ := HA.out.below HB.out j s[j] (List.getElem?_eq_getElem hn)
        have HG := hid (show s[j]? = some s[j] from List.getElem?_eq_getElem hn)
        have HT := hid (show hasB r s = decide (cmpR s[j].1 s[j].2 r = 0) by
          have hnl := HR.out j s[j] (Nat.le_refl _) HG.out
          unfold cmpR
          rw [if_neg (by omega)]
          cases hb : hasB r s with
          | true =>
            rw [hasB_iff, isin_iff] at hb
            obtain ⟨g, hg, g1, g2⟩ := hb
            obtain ⟨m, e⟩ := List.getElem?_of_mem hg
            have hm : m = j := by
              rcases Nat.lt_trichotomy m j with h | h | h
              · have := HL.out m g h e; omega
              · exact h
              · have := nf_rise HNF.out h HG.out e; omega
            subst hm
            rw [HG.out] at e; cases e
            rw [if_neg (by omega)]; rfl
          | false =>
            by_cases hr : r < s[j].1
            · rw [if_pos hr]; rfl
            · exfalso
              have : hasB r s = true := by
                rw [hasB_iff, isin_iff]
                exact ⟨s[j], List.getElem_mem hn, by omega, by omega⟩
              rw [hb] at this; cases this)
        have HW := hid (show hasB r s = true → ∃ g, s[j]? = some g ∧ g.1 ≤ r ∧ r ≤ g.2 from fun hb => by
          rw [HT.out] at hb
          have hb := of_decide_eq_true hb
          have hnl := HR.out j s[j] (Nat.le_refl _) HG.out
          unfold cmpR at hb
          rw [if_neg (by omega)] at hb
          refine ⟨s[j], HG.out, ?_, by omega⟩
          by_cases hr : r < s[j].1
          · rw [if_pos hr] at hb; omega
          · omega)
        have hn' : (j : Int) < (s.length : Int) := by omega
        clear HG
        generalize s[j].1 = f0 at *
        generalize s[j].2 = f1 at *
        go_wp2_with fail
        refine (cmp_any f0 f1 r _).mono ?_
        rintro e w2 ⟨rfl, hb2⟩
        have HB2 := hid (HB.out.trans (hb2.mono hbs))
        clear hb2
        go_wp2
        go_ret2
        exact ⟨j, by rw [HT.out]; rfl, HW.out, HB2.out⟩
      · have HT := hid (show hasB r s = false by
          cases hb : hasB r s with
          | false => rfl
          | true =>
            rw [hasB_iff, isin_iff] at hb
            obtain ⟨g, hg, g1, g2⟩ := hb
            obtain ⟨m, e⟩ := List.getElem?_of_mem hg
            have := (List.getElem?_eq_some_iff.1 e).1
            have := HL.out m g (by omega) e
            omega)
        have hn' : ¬ (j : Int) < (s.length : Int) := by omega
        go_wp2
        go_ret2
        exact ⟨j, by rw [HT.out]; rfl, fun h => (by rw [HT.out] at h; cases h), HB.out⟩

set_option maxHeartbeats 1000000 in
theorem find_any (so : Option Addr) (sc : Nat) (s : List Rg) (r : Int) (w : World) (ha : RdR w so s) (hl : s.length ≤ 100000) (hnf : nf s) :
    Calls Tryz.prog 36 #[.slice so s.length sc, .int .i32 r] w fun e w' => ∃ k : Nat, e = .returned (.tuple #[.int .i64 k, .bool (hasB r s)]) ∧ (hasB r s = true → ∃ g, s[k]? = some g ∧ g.1 ≤ r ∧ r ≤ g.2) ∧ Below w.heap.size w w' := by
  have HC := hid (search_any so sc s r w ha hl hnf)
  clear ha
  go_enter Tryz.func36, Tryz.ntmps36
  go_wp2_with fail
  refine HC.out.mono ?_
  rintro e w2 ⟨k, rfl, hk, hb⟩
  have HK := hid hk
  have HB := hid hb
  clear hk hb
  go_wp2
  go_ret2
  exact ⟨k, rfl, HK.out, HB.out⟩
end Go.Proofs.YtfahbdlcokoghabGreatDoor

