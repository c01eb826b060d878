/- The contract of sure (package grapheme) at any edge. -/
import Derived.Test.YtffbdnlfknomnaaDoorGrEach
import Derived.Test.YtffbdnlfknomnaaDoorUPlaces
namespace Go.Proofs.YtffbdnlfknomnaaDoor.Wt
open Go.RowKit

theorem glast_any (l : List UInt8) (w : World) (ht : TbW w) (hl : l.length ≤ 1000000000) :
    Calls Tryd.prog 126 #[.string ⟨l.toArray⟩] w fun e w' => e = .returned (.tuple #[.int .i64 (gplast l), .int .i64 (decLast l).2]) ∧ Below w.heap.size w w' := by
  have HT := hid ht
  clear ht
  go_enter Tryd.func126, Tryd.ntmps126
  go_wp2_with fail
  refine (last_any l w (by omega) HT.out.tabs).mono ?_
  rintro e w1 ⟨rfl, be⟩
  have HB := hid be
  clear be
  obtain ⟨r, hr⟩ : ∃ r : Int, r = ((decLast l).1 : Int) := ⟨_, rfl⟩
  obtain ⟨n, hn⟩ : ∃ n : Nat, n = (decLast l).2 := ⟨_, rfl⟩
  have HN := hid hn
  have HV := hid (show gplast l = gpcls r by rw [hr]; rfl)
  rw [← hr, ← hn]
  clear hr hn
  go_wp2_with fail
  refine (gpcls_any r w1).mono ?_
  rintro e w2 ⟨rfl, hw2⟩
  obtain rfl := hw2.symm
  clear hw2
  go_wp2
  go_ret2
  exact ⟨by rw [HV.out, ← HN.out]; rfl, HB.out⟩
/-- How many runes it goes back: the classes ahead, the last first, and the class behind. -/
def srN : List Int → Int → Nat
  | [], _ => 0
  | a :: R, b => if gbt a b = 0 then 0 else srN R a + 1
theorem srN_le : ∀ (R : List Int) (b : Int), srN R b ≤ R.length
  | [], _ => Nat.le_refl _
  | a :: R, b => by
    unfold srN
    have := srN_le R a
    split
    · exact Nat.zero_le _
    · rw [List.length_cons]; omega
theorem srN_no (a b : Int) (R : List Int) (h : gbt a b ≠ 0) : srN (a :: R) b = srN R a + 1 := if_neg h
theorem srN_yes (a b : Int) (R : List Int) (h : gbt a b = 0) : srN (a :: R) b = 0 := if_pos h
/-- The edge that sure answers, by its number of runes. -/
def gsu (l : List UInt8) (k : Nat) : Nat := k - srN ((gcs l).take k).reverse (((gcs l).drop k).headD 3)
theorem take_rev (L : List Int) (j : Nat) (h : j < L.length) : (L.take (j + 1)).reverse = L[j] :: (L.take j).reverse := by
  rw [List.take_succ_eq_append_getElem h, List.reverse_append]; rfl
theorem last_pos (l : List UInt8) (j : Nat) (h : j < (rl l).length) : decLast (l.take (pos l (j + 1))) = (rl l)[j] := by
  have h1 := rl_take l (j + 1) h
  have hp : 0 < pos l (j + 1) := by have := pos_lt l j h; omega
  have hle := pos_le l (j + 1) h
  have hne : l.take (pos l (j + 1)) ≠ [] := fun e => by
    have := congrArg List.length e
    rw [List.length_take] at this
    simp only [List.length_nil] at this
    omega
  rw [rl_snoc _ hne, List.take_succ_eq_append_getElem h] at h1
  have := List.append_inj_right' h1 rfl
  exact (List.cons.inj this).1
theorem pos_back (l : List UInt8) (j : Nat) (h : j < (rl l).length) : pos l (j + 1) = pos l j + ((rl l)[j]).2 := psm_take _ j h
set_option maxHeartbeats 2000000 in
theorem gsure_any (l : List UInt8) (k p : Nat) (w : World) (ht : TbW w) (hl : l.length ≤ 1000000000) (hk : k ≤ (rl l).length) (hp : p = pos l k) :
    Calls Tryd.prog 103 #[.string ⟨l.toArray⟩, .int .i64 p] w fun e w' => e = .returned (.int .i64 (pos l (gsu l k))) ∧ Below w.heap.size w w' := by
  have HT := hid ht
  have HP := hid hp
  have HK := hid hk
  have hpl : p ≤ l.length := by rw [hp]; exact pos_le l k hk
  have HS := hid (show gstep l p = (((gcs l).drop k).headD 3, pos l (k + 1)) by rw [hp]; exact gstep_pos l k hk)
  obtain ⟨b, hb⟩ : ∃ b, b = ((gcs l).drop k).headD 3 := ⟨_, rfl⟩
  obtain ⟨q, hq⟩ : ∃ q, q = pos l (k + 1) := ⟨_, rfl⟩
  have HG := hid (show gsu l k = k - srN ((gcs l).take k).reverse b by rw [hb]; rfl)
  rw [← hb, ← hq] at HS
  clear ht hp hk hb hq
  go_enter Tryd.func103, Tryd.ntmps103
  go_wp2_with fail
  refine (gstep_any l p w HT.out hl hpl).mono ?_
  rintro e w1 ⟨rfl, be⟩
  have HB := hid be
  rw [HS.out]
  simp only []
  clear be HS
  go_wp2
  go_loopw [1, 5] (fun v c wr => ∃ (j r : Nat) (d : Int), v = .int .i64 r ∧ c = .int .i64 d ∧ r ≤ l.length ∧ Hid (r = pos l j) ∧ Hid (j ≤ (rl l).length) ∧ Hid (gsu l k = j - srN ((gcs l).take j).reverse d) ∧ Below w.heap.size w wr) (fun v _ _ => (intOf v).toNat)
  case atStart => exact ⟨k, p, b, rfl, rfl, hpl, HP, HK, HG, HB.out⟩
  case round =>
    obtain ⟨j, r, d, rfl, rfl, hr, HR, HJ, HG1, hBr⟩ := hrel
    have HB1 := hid hBr
    clear hBr HG
    by_cases h0 : 0 < r
    · have h0i : (0 : Int) < (r : Int) := by omega
      obtain ⟨i, hi⟩ : ∃ i, j = i + 1 := ⟨j - 1, by
        have h1 := HR.out
        rcases Nat.eq_zero_or_pos j with h2 | h2
        · rw [h2, pos_0] at h1; omega
        · omega⟩
      subst hi
      have hil : i < (rl l).length := HJ.out
      have HLP := hid (show decLast (l.take r) = (rl l)[i] by rw [HR.out]; exact last_pos l i hil)
      have hpb := pos_back l i hil
      rw [← HR.out] at hpb
      have HTL := hid (show (l.take r).length ≤ 1000000000 by rw [List.length_take]; omega)
      obtain ⟨a, ha⟩ : ∃ a, a = gplast (l.take r) := ⟨_, rfl⟩
      obtain ⟨m, hm⟩ : ∃ m : Nat, m = (decLast (l.take r)).2 := ⟨_, rfl⟩
      have hgi : i < (gcs l).length := by rw [gcs_len]; exact hil
      have HA := hid (show (gcs l)[i] = a by rw [ha]; unfold gplast; rw [HLP.out]; simp [gcs, gc])
      have hmr : r = pos l i + m := by rw [hm, HLP.out]; exact hpb
      have hmp : 0 < m := by rw [hm, HLP.out]; exact rl_pos _ l (Nat.le_refl _) _ (List.getElem_mem hil)
      have HTR := hid (take_rev (gcs l) i hgi)
      rw [HA.out] at HTR
      have HMR := hid hmr
      have HIL := hid hil
      have hmr2 : m ≤ r := by omega
      clear hpb hgi hmr hil HA HLP
      go_wp2_with fail
      rw [wtake]
      refine (glast_any (l.take r) wr (HT.out.below HB1.out) HTL.out).mono ?_
      rintro e w2 ⟨rfl, be⟩
      have HB2 := hid (HB1.out.trans (be.mono HB1.out.size))
      rw [← ha, ← hm]
      clear be ha hm
      go_wp2_with fail
      refine (gbt_any a d w2).mono ?_
      rintro e w3 ⟨rfl, hw3⟩
      obtain rfl := hw3.symm
      clear hw3
      by_cases hg : gbt a d = 0
      · have HF := hid (show gsu l k = i + 1 by rw [HG1.out, HTR.out, srN_yes _ _ _ hg]; rfl)
        have hgb : (gbt a d == 0) = true := by rw [hg]; rfl
        clear hg
        go_wp2
        go_ret
        exact ⟨by rw [HF.out, ← HR.out]; rfl, HB2.out⟩
      · have hgb : (gbt a d == 0) = false := beq_eq_false_iff_ne.2 hg
        have HF := hid (show gsu l k = i - srN ((gcs l).take i).reverse a by rw [HG1.out, HTR.out, srN_no _ _ _ hg]; omega)
        clear hg
        go_wp2
        go_roundw
        case rel => exact ⟨i, r - m, a, by rw [Int.ofNat_sub hmr2], rfl, by omega, by show r - m = pos l i; have := HMR.out; omega, by show i ≤ _; have := HIL.out; omega, HF, HB2.out⟩
        case measure => simp [intOf]; omega
    · obtain rfl : r = 0 := by omega
      have HF := hid (show pos l (gsu l k) = 0 by
        have h1 := HR.out
        have hj : j = 0 := by
          rcases Nat.eq_zero_or_pos j with h2 | h2
          · exact h2
          · obtain ⟨i, rfl⟩ : ∃ i, j = i + 1 := ⟨j - 1, by omega⟩
            have := pos_lt l i HJ.out
            omega
        rw [HG1.out, hj, Nat.zero_sub, pos_0])
      go_wp2
      go_ret
      exact ⟨by rw [HF.out]; rfl, HB1.out⟩
end Go.Proofs.YtffbdnlfknomnaaDoor.Wt
