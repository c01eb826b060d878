/- The walk of RunesCounts. -/
import Derived.Test.YtfahbdlcokoghaaDoorIndex
namespace Go.Proofs.YtfahbdlcokoghaaDoor
open Go.RowKit

theorem cnt_nf_bd {l : List Rg} (h : nf l) : 0 ≤ cntF l ∧ cntF l ≤ 1114114 := by
  have h2 := cnt_nn h
  have h3 := cnt_le h (by unfold top; omega)
  unfold top at h3
  omega
theorem at_eq (ao : Option Addr) (ac : Nat) (l : List Rg) (i : Int) (o : Option Int) (ho : atN l i = o) (w : World) (ha : RdR w ao l) (hl : l.length ≤ 100000) (hi0 : -9223372036854775808 ≤ i) (hi1 : i < 9223372036854775808) :
    Calls Tryd.prog 27 #[.slice ao l.length ac, .int .i64 i] w fun e w' => e = .returned (two o) ∧ Below w.heap.size w w' := by
  subst ho; exact at_any ao ac l i w ha hl hi0 hi1
theorem rat_eq (ao : Option Addr) (ac : Nat) (l : List Rg) (i : Int) (o : Option Int) (ho : atN l i = o) (w : World) (ha : RdR w ao l) (hl : l.length ≤ 100000) (hi0 : -9223372036854775808 ≤ i) (hi1 : i < 9223372036854775808) :
    Calls Tryd.prog 28 #[.slice ao l.length ac, .int .i64 i] w fun e w' => e = .returned (two o) ∧ Below w.heap.size w w' := by
  subst ho; exact rat_any ao ac l i w ha hl hi0 hi1
theorem index_eq (ao : Option Addr) (ac : Nat) (l : List Rg) (r : Int) (o : Option Int) (ho : idxN l r = o) (w : World) (ha : RdR w ao l) (hl : l.length ≤ 100000) (hr0 : -2147483648 ≤ r) (hr1 : r ≤ 2147483647) :
    Calls Tryd.prog 29 #[.slice ao l.length ac, .int .i32 r] w fun e w' => e = .returned (twoI o) ∧ Below w.heap.size w w' := by
  subst ho; exact index_any ao ac l r w ha hl hr0 hr1
theorem rindex_eq (ao : Option Addr) (ac : Nat) (l : List Rg) (r : Int) (o : Option Int) (ho : idxN l r = o) (w : World) (ha : RdR w ao l) (hl : l.length ≤ 100000) (hr0 : -2147483648 ≤ r) (hr1 : r ≤ 2147483647) :
    Calls Tryd.prog 30 #[.slice ao l.length ac, .int .i32 r] w fun e w' => e = .returned (twoI o) ∧ Below w.heap.size w w' := by
  subst ho; exact rindex_any ao ac l r w ha hl hr0 hr1
theorem idx_le : ∀ {s : List Rg} {b c r n : Int}, nfF b s → idxF s c r = some n → n ≤ c + cntF s
  | [], _, _, _, _, _, h => by simp [idxF] at h
  | g :: t, b, c, r, n, hn, h => by
    have h12 := hn.2.1
    have h0 := cnt_nn hn.2.2.2
    unfold idxF at h
    unfold cntF
    split at h
    · rename_i hg
      cases h; omega
    · have := idx_le hn.2.2.2 h
      omega
theorem idx_bd (a : List Rg) (r n : Int) (h : idxN a r = some n) : 0 ≤ n ∧ n ≤ 1114114 := by
  have h1 := idx_at (nrm_nf a) h
  have h2 := idx_le (nrm_nf a) h
  have h3 := cnt_nf_bd (nrm_nf a)
  omega
theorem at_bd (a : List Rg) (i x : Int) (h : atN a i = some x) : 0 ≤ i ∧ 0 ≤ x ∧ x ≤ 1114111 ∧ idxN a x = some i := by
  unfold atN at h
  split at h
  · cases h
  · have h1 := atF_in (nrm_nf a) (by omega) h
    have h2 := isin_ge (nrm_nf a) h1
    have h3 := isin_le (nrm_nf a) h1
    have h4 := at_idx 0 (nrm_nf a) (by omega) h
    unfold top at h3
    exact ⟨by omega, h2, h3, by unfold idxN; rw [h4, Int.zero_add]⟩

set_option maxHeartbeats 8000000 in
set_option maxRecDepth 100000 in
theorem counts_walk (ao bo : Option Addr) (ac bc : Nat) (a b : List Rg) (i r : Int) (w : World) (hT : Lib.Utf8Tabs 0 1 w) (h2 : 2 ≤ w.heap.size) (hac : ao = none → ac = 0) (hbc : bo = none → bc = 0) (ha : RdR w ao a) (hb : RdR w bo b) (hi0 : -9223372036854775808 ≤ i) (hi1 : i < 9223372036854775808) (hr0 : -2147483648 ≤ r) (hr1 : r ≤ 2147483647) :
    Calls Tryd.prog 6 #[.slice ao a.length ac, .slice bo b.length bc, .int .i64 i, .int .i32 r] w fun e w' => e = .returned (.bool true) ∧ Below w.heap.size w w' := by
  have HT := hid hT
  have HCa := hid hac
  have HCb := hid hbc
  have HRa := hid ha
  have HRb := hid hb
  have HEQ := hid (cnt_both a b)
  clear hT hac hbc ha hb
  by_cases h15 : (1500 : Int) < a.length
  · go_enter Tryd.func6, Tryd.ntmps6
    go_wp2_with (go_at_call 9; refine (live_any _ (by exact HT.out) (by exact h2)).mono ?_; rintro e w1 ⟨rfl, hb⟩)
    go_ret
    exact ⟨rfl, hb⟩
  by_cases h5 : (1500 : Int) < b.length
  · go_enter Tryd.func6, Tryd.ntmps6
    go_wp2_with (go_at_call 9; refine (live_any _ (by exact HT.out) (by exact h2)).mono ?_; rintro e w1 ⟨rfl, hb⟩)
    go_ret
    exact ⟨rfl, hb⟩
  have HB := hid (Below.refl w.heap.size w)
  obtain ⟨o1, ho1⟩ : ∃ o1, atN a i = o1 := ⟨_, rfl⟩
  obtain ⟨o2, ho2⟩ : ∃ o2, idxN a r = o2 := ⟨_, rfl⟩
  have HO1 := hid ho1
  have HO2 := hid ho2
  clear ho1 ho2
  go_enter Tryd.func6, Tryd.ntmps6
  have HP := hid (at_eq ao ac a i o1 HO1.out w HRa.out (by omega) hi0 hi1)
  go_wp2_with fail
  refine HP.out.mono ?_
  rintro e y1 ⟨rfl, hb⟩
  replace HRa := hid (HRa.out.below hb)
  replace HRb := hid (HRb.out.below hb)
  replace HB := hid (HB.out.trans (hb.mono HB.out.size))
  clear hb HP
  unfold two
  have HP := hid (rat_eq ao ac a i o1 HO1.out y1 HRa.out (by omega) hi0 hi1)
  go_wp2_with fail
  refine HP.out.mono ?_
  rintro e y2 ⟨rfl, hb⟩
  replace HRa := hid (HRa.out.below hb)
  replace HRb := hid (HRb.out.below hb)
  replace HB := hid (HB.out.trans (hb.mono HB.out.size))
  clear hb HP
  unfold two
  have HP := hid (index_eq ao ac a r o2 HO2.out y2 HRa.out (by omega) hr0 hr1)
  go_wp2_with fail
  refine HP.out.mono ?_
  rintro e y3 ⟨rfl, hb⟩
  replace HRa := hid (HRa.out.below hb)
  replace HRb := hid (HRb.out.below hb)
  replace HB := hid (HB.out.trans (hb.mono HB.out.size))
  clear hb HP
  unfold twoI
  have HP := hid (rindex_eq ao ac a r o2 HO2.out y3 HRa.out (by omega) hr0 hr1)
  go_wp2_with fail
  refine HP.out.mono ?_
  rintro e y4 ⟨rfl, hb⟩
  replace HRa := hid (HRa.out.below hb)
  replace HRb := hid (HRb.out.below hb)
  replace HB := hid (HB.out.trans (hb.mono HB.out.size))
  clear hb HP
  unfold twoI
  have HP := hid (count_any ao ac a y4 HRa.out (by omega))
  go_wp2_with fail
  refine HP.out.mono ?_
  rintro e y5 ⟨rfl, hb⟩
  replace HRa := hid (HRa.out.below hb)
  replace HRb := hid (HRb.out.below hb)
  replace HB := hid (HB.out.trans (hb.mono HB.out.size))
  clear hb HP
  have HP := hid (rcount_any ao ac a y5 HRa.out (by omega))
  go_wp2_with fail
  refine HP.out.mono ?_
  rintro e y6 ⟨rfl, hb⟩
  replace HRa := hid (HRa.out.below hb)
  replace HRb := hid (HRb.out.below hb)
  replace HB := hid (HB.out.trans (hb.mono HB.out.size))
  clear hb HP
  have q3 := cnt_nf_bd (nrm_nf a)
  have b1 : (o1.getD 0 != o1.getD 0) = false := by simp
  have b2 : (o1.isSome != o1.isSome) = false := by simp
  have b3 : (o2.getD 0 != o2.getD 0) = false := by simp
  have b4 : (o2.isSome != o2.isSome) = false := by simp
  have b5 : (cntF (nrm a) != cntF (nrm a)) = false := by simp
  clear q3
  cases o1 with
  | none =>
    simp only [Option.getD_none, Option.isSome_none] at b1 b2 ⊢
    cases o2 with
    | none =>
      simp only [Option.getD_none, Option.isSome_none] at b3 b4 ⊢
      have HP1 := hid (or_any ao bo ac bc a b y6 HRa.out HRb.out HCa.out HCb.out (by omega) (by omega))
      go_wp2_with fail
      refine HP1.out.mono ?_
      rintro e u1 ⟨v1, rfl, o1, hb⟩
      obtain ⟨po, pc, rfl, hr, _⟩ := rdr_row3 o1
      replace HRa := hid (HRa.out.below hb)
      replace HRb := hid (HRb.out.below hb)
      replace HB := hid (HB.out.trans (hb.mono HB.out.size))
      have HP2 := hid (count_eq po _ pc (orN a b) (cntF (orN a b)) rfl (by rw [nrm_of_nf (orN_nf a b)]) u1 hr (by have := orN_len a b; omega))
      clear hr hb o1 HP1
      go_wp2_with fail
      refine HP2.out.mono ?_
      rintro e u2 ⟨rfl, hb⟩
      replace HRa := hid (HRa.out.below hb)
      replace HRb := hid (HRb.out.below hb)
      replace HB := hid (HB.out.trans (hb.mono HB.out.size))
      clear hb HP2
      have HP3 := hid (and_any ao bo ac bc a b u2 HRa.out HRb.out (by omega) (by omega))
      go_wp2_with fail
      refine HP3.out.mono ?_
      rintro e u3 ⟨v3, rfl, o3, hb⟩
      obtain ⟨qo, qc, rfl, hr, _⟩ := rdr_row3 o3
      replace HRa := hid (HRa.out.below hb)
      replace HRb := hid (HRb.out.below hb)
      replace HB := hid (HB.out.trans (hb.mono HB.out.size))
      have HP4 := hid (count_eq qo _ qc (andN a b) (cntF (andN a b)) rfl (by rw [nrm_of_nf (andN_nf a b)]) u3 hr (by have := andN_len a b; omega))
      clear hr hb o3 HP3
      go_wp2_with fail
      refine HP4.out.mono ?_
      rintro e u4 ⟨rfl, hb⟩
      replace HRa := hid (HRa.out.below hb)
      replace HRb := hid (HRb.out.below hb)
      replace HB := hid (HB.out.trans (hb.mono HB.out.size))
      clear hb HP4
      have HP5 := hid (count_any ao ac a u4 HRa.out (by omega))
      go_wp2_with fail
      refine HP5.out.mono ?_
      rintro e u5 ⟨rfl, hb⟩
      replace HRa := hid (HRa.out.below hb)
      replace HRb := hid (HRb.out.below hb)
      replace HB := hid (HB.out.trans (hb.mono HB.out.size))
      clear hb HP5
      have HP6 := hid (count_any bo bc b u5 HRb.out (by omega))
      go_wp2_with fail
      refine HP6.out.mono ?_
      rintro e u6 ⟨rfl, hb⟩
      replace HRa := hid (HRa.out.below hb)
      replace HRb := hid (HRb.out.below hb)
      replace HB := hid (HB.out.trans (hb.mono HB.out.size))
      clear hb HP6
      have eqq := HEQ.out
      have q1 := cnt_nf_bd (orN_nf a b)
      have q2 := cnt_nf_bd (andN_nf a b)
      have q3 := cnt_nf_bd (nrm_nf a)
      have q4 := cnt_nf_bd (nrm_nf b)
      generalize cntF (orN a b) = n1 at *
      generalize cntF (andN a b) = n2 at *
      generalize cntF (nrm a) = n3 at *
      generalize cntF (nrm b) = n4 at *
      have eqw : wrap64 (n1 + n2) = n3 + n4 := by unfold wrap64; omega
      have p1 := q1.1
      have p2 := q2.1
      have p3 := q3.1
      have p4 := q4.1
      have p5 := q1.2
      have p6 := q2.2
      have p7 := q3.2
      have p8 := q4.2
      clear eqq q1 q2 q3 q4 HEQ
      go_wp2_with fail
      refine (live_any _ (tabs_below HT.out h2 HB.out) (by have := HB.out.size; omega)).mono ?_
      rintro e z5 ⟨rfl, hb⟩
      replace HB := hid (HB.out.trans (hb.mono HB.out.size))
      clear hb
      go_wp2
      go_ret
      exact ⟨rfl, HB.out⟩
    | some n =>
      simp only [Option.getD_some, Option.isSome_some] at b3 b4 ⊢
      have hia := idx_at (nrm_nf a) HO2.out
      rw [Int.sub_zero] at hia
      have hn9 := idx_bd a r n HO2.out
      have HATN := hid (show atN a n = some r by unfold atN; rw [if_neg (by omega)]; exact hia.2)
      clear hia
      have HP := hid (at_eq ao ac a n (some r) HATN.out y6 HRa.out (by omega) (by omega) (by omega))
      go_wp2_with fail
      refine HP.out.mono ?_
      rintro e y9 ⟨rfl, hb⟩
      replace HRa := hid (HRa.out.below hb)
      replace HRb := hid (HRb.out.below hb)
      replace HB := hid (HB.out.trans (hb.mono HB.out.size))
      clear hb HP
      unfold two
      simp only [Option.getD_some, Option.isSome_some]
      have HP1 := hid (or_any ao bo ac bc a b y9 HRa.out HRb.out HCa.out HCb.out (by omega) (by omega))
      go_wp2_with fail
      refine HP1.out.mono ?_
      rintro e u1 ⟨v1, rfl, o1, hb⟩
      obtain ⟨po, pc, rfl, hr, _⟩ := rdr_row3 o1
      replace HRa := hid (HRa.out.below hb)
      replace HRb := hid (HRb.out.below hb)
      replace HB := hid (HB.out.trans (hb.mono HB.out.size))
      have HP2 := hid (count_eq po _ pc (orN a b) (cntF (orN a b)) rfl (by rw [nrm_of_nf (orN_nf a b)]) u1 hr (by have := orN_len a b; omega))
      clear hr hb o1 HP1
      go_wp2_with fail
      refine HP2.out.mono ?_
      rintro e u2 ⟨rfl, hb⟩
      replace HRa := hid (HRa.out.below hb)
      replace HRb := hid (HRb.out.below hb)
      replace HB := hid (HB.out.trans (hb.mono HB.out.size))
      clear hb HP2
      have HP3 := hid (and_any ao bo ac bc a b u2 HRa.out HRb.out (by omega) (by omega))
      go_wp2_with fail
      refine HP3.out.mono ?_
      rintro e u3 ⟨v3, rfl, o3, hb⟩
      obtain ⟨qo, qc, rfl, hr, _⟩ := rdr_row3 o3
      replace HRa := hid (HRa.out.below hb)
      replace HRb := hid (HRb.out.below hb)
      replace HB := hid (HB.out.trans (hb.mono HB.out.size))
      have HP4 := hid (count_eq qo _ qc (andN a b) (cntF (andN a b)) rfl (by rw [nrm_of_nf (andN_nf a b)]) u3 hr (by have := andN_len a b; omega))
      clear hr hb o3 HP3
      go_wp2_with fail
      refine HP4.out.mono ?_
      rintro e u4 ⟨rfl, hb⟩
      replace HRa := hid (HRa.out.below hb)
      replace HRb := hid (HRb.out.below hb)
      replace HB := hid (HB.out.trans (hb.mono HB.out.size))
      clear hb HP4
      have HP5 := hid (count_any ao ac a u4 HRa.out (by omega))
      go_wp2_with fail
      refine HP5.out.mono ?_
      rintro e u5 ⟨rfl, hb⟩
      replace HRa := hid (HRa.out.below hb)
      replace HRb := hid (HRb.out.below hb)
      replace HB := hid (HB.out.trans (hb.mono HB.out.size))
      clear hb HP5
      have HP6 := hid (count_any bo bc b u5 HRb.out (by omega))
      go_wp2_with fail
      refine HP6.out.mono ?_
      rintro e u6 ⟨rfl, hb⟩
      replace HRa := hid (HRa.out.below hb)
      replace HRb := hid (HRb.out.below hb)
      replace HB := hid (HB.out.trans (hb.mono HB.out.size))
      clear hb HP6
      have eqq := HEQ.out
      have q1 := cnt_nf_bd (orN_nf a b)
      have q2 := cnt_nf_bd (andN_nf a b)
      have q3 := cnt_nf_bd (nrm_nf a)
      have q4 := cnt_nf_bd (nrm_nf b)
      generalize cntF (orN a b) = n1 at *
      generalize cntF (andN a b) = n2 at *
      generalize cntF (nrm a) = n3 at *
      generalize cntF (nrm b) = n4 at *
      have eqw : wrap64 (n1 + n2) = n3 + n4 := by unfold wrap64; omega
      have p1 := q1.1
      have p2 := q2.1
      have p3 := q3.1
      have p4 := q4.1
      have p5 := q1.2
      have p6 := q2.2
      have p7 := q3.2
      have p8 := q4.2
      clear eqq q1 q2 q3 q4 HEQ
      go_wp2_with fail
      refine (live_any _ (tabs_below HT.out h2 HB.out) (by have := HB.out.size; omega)).mono ?_
      rintro e z5 ⟨rfl, hb⟩
      replace HB := hid (HB.out.trans (hb.mono HB.out.size))
      clear hb
      go_wp2
      go_ret
      exact ⟨rfl, HB.out⟩
  | some x =>
    simp only [Option.getD_some, Option.isSome_some] at b1 b2 ⊢
    obtain ⟨x1, x2, x3, x4⟩ := at_bd a i x HO1.out
    have HIX := hid x4
    clear x4
    have HP := hid (index_eq ao ac a x (some i) HIX.out y6 HRa.out (by omega) (by omega) (by omega))
    go_wp2_with fail
    refine HP.out.mono ?_
    rintro e y7 ⟨rfl, hb⟩
    replace HRa := hid (HRa.out.below hb)
    replace HRb := hid (HRb.out.below hb)
    replace HB := hid (HB.out.trans (hb.mono HB.out.size))
    clear hb HP
    unfold twoI
    simp only [Option.getD_some, Option.isSome_some]
    cases o2 with
    | none =>
      simp only [Option.getD_none, Option.isSome_none] at b3 b4 ⊢
      have HP1 := hid (or_any ao bo ac bc a b y7 HRa.out HRb.out HCa.out HCb.out (by omega) (by omega))
      go_wp2_with fail
      refine HP1.out.mono ?_
      rintro e u1 ⟨v1, rfl, o1, hb⟩
      obtain ⟨po, pc, rfl, hr, _⟩ := rdr_row3 o1
      replace HRa := hid (HRa.out.below hb)
      replace HRb := hid (HRb.out.below hb)
      replace HB := hid (HB.out.trans (hb.mono HB.out.size))
      have HP2 := hid (count_eq po _ pc (orN a b) (cntF (orN a b)) rfl (by rw [nrm_of_nf (orN_nf a b)]) u1 hr (by have := orN_len a b; omega))
      clear hr hb o1 HP1
      go_wp2_with fail
      refine HP2.out.mono ?_
      rintro e u2 ⟨rfl, hb⟩
      replace HRa := hid (HRa.out.below hb)
      replace HRb := hid (HRb.out.below hb)
      replace HB := hid (HB.out.trans (hb.mono HB.out.size))
      clear hb HP2
      have HP3 := hid (and_any ao bo ac bc a b u2 HRa.out HRb.out (by omega) (by omega))
      go_wp2_with fail
      refine HP3.out.mono ?_
      rintro e u3 ⟨v3, rfl, o3, hb⟩
      obtain ⟨qo, qc, rfl, hr, _⟩ := rdr_row3 o3
      replace HRa := hid (HRa.out.below hb)
      replace HRb := hid (HRb.out.below hb)
      replace HB := hid (HB.out.trans (hb.mono HB.out.size))
      have HP4 := hid (count_eq qo _ qc (andN a b) (cntF (andN a b)) rfl (by rw [nrm_of_nf (andN_nf a b)]) u3 hr (by have := andN_len a b; omega))
      clear hr hb o3 HP3
      go_wp2_with fail
      refine HP4.out.mono ?_
      rintro e u4 ⟨rfl, hb⟩
      replace HRa := hid (HRa.out.below hb)
      replace HRb := hid (HRb.out.below hb)
      replace HB := hid (HB.out.trans (hb.mono HB.out.size))
      clear hb HP4
      have HP5 := hid (count_any ao ac a u4 HRa.out (by omega))
      go_wp2_with fail
      refine HP5.out.mono ?_
      rintro e u5 ⟨rfl, hb⟩
      replace HRa := hid (HRa.out.below hb)
      replace HRb := hid (HRb.out.below hb)
      replace HB := hid (HB.out.trans (hb.mono HB.out.size))
      clear hb HP5
      have HP6 := hid (count_any bo bc b u5 HRb.out (by omega))
      go_wp2_with fail
      refine HP6.out.mono ?_
      rintro e u6 ⟨rfl, hb⟩
      replace HRa := hid (HRa.out.below hb)
      replace HRb := hid (HRb.out.below hb)
      replace HB := hid (HB.out.trans (hb.mono HB.out.size))
      clear hb HP6
      have eqq := HEQ.out
      have q1 := cnt_nf_bd (orN_nf a b)
      have q2 := cnt_nf_bd (andN_nf a b)
      have q3 := cnt_nf_bd (nrm_nf a)
      have q4 := cnt_nf_bd (nrm_nf b)
      generalize cntF (orN a b) = n1 at *
      generalize cntF (andN a b) = n2 at *
      generalize cntF (nrm a) = n3 at *
      generalize cntF (nrm b) = n4 at *
      have eqw : wrap64 (n1 + n2) = n3 + n4 := by unfold wrap64; omega
      have p1 := q1.1
      have p2 := q2.1
      have p3 := q3.1
      have p4 := q4.1
      have p5 := q1.2
      have p6 := q2.2
      have p7 := q3.2
      have p8 := q4.2
      clear eqq q1 q2 q3 q4 HEQ
      go_wp2_with fail
      refine (live_any _ (tabs_below HT.out h2 HB.out) (by have := HB.out.size; omega)).mono ?_
      rintro e z5 ⟨rfl, hb⟩
      replace HB := hid (HB.out.trans (hb.mono HB.out.size))
      clear hb
      go_wp2
      go_ret
      exact ⟨rfl, HB.out⟩
    | some n =>
      simp only [Option.getD_some, Option.isSome_some] at b3 b4 ⊢
      have hia := idx_at (nrm_nf a) HO2.out
      rw [Int.sub_zero] at hia
      have hn9 := idx_bd a r n HO2.out
      have HATN := hid (show atN a n = some r by unfold atN; rw [if_neg (by omega)]; exact hia.2)
      clear hia
      have HP := hid (at_eq ao ac a n (some r) HATN.out y7 HRa.out (by omega) (by omega) (by omega))
      go_wp2_with fail
      refine HP.out.mono ?_
      rintro e y9 ⟨rfl, hb⟩
      replace HRa := hid (HRa.out.below hb)
      replace HRb := hid (HRb.out.below hb)
      replace HB := hid (HB.out.trans (hb.mono HB.out.size))
      clear hb HP
      unfold two
      simp only [Option.getD_some, Option.isSome_some]
      have HP1 := hid (or_any ao bo ac bc a b y9 HRa.out HRb.out HCa.out HCb.out (by omega) (by omega))
      go_wp2_with fail
      refine HP1.out.mono ?_
      rintro e u1 ⟨v1, rfl, o1, hb⟩
      obtain ⟨po, pc, rfl, hr, _⟩ := rdr_row3 o1
      replace HRa := hid (HRa.out.below hb)
      replace HRb := hid (HRb.out.below hb)
      replace HB := hid (HB.out.trans (hb.mono HB.out.size))
      have HP2 := hid (count_eq po _ pc (orN a b) (cntF (orN a b)) rfl (by rw [nrm_of_nf (orN_nf a b)]) u1 hr (by have := orN_len a b; omega))
      clear hr hb o1 HP1
      go_wp2_with fail
      refine HP2.out.mono ?_
      rintro e u2 ⟨rfl, hb⟩
      replace HRa := hid (HRa.out.below hb)
      replace HRb := hid (HRb.out.below hb)
      replace HB := hid (HB.out.trans (hb.mono HB.out.size))
      clear hb HP2
      have HP3 := hid (and_any ao bo ac bc a b u2 HRa.out HRb.out (by omega) (by omega))
      go_wp2_with fail
      refine HP3.out.mono ?_
      rintro e u3 ⟨v3, rfl, o3, hb⟩
      obtain ⟨qo, qc, rfl, hr, _⟩ := rdr_row3 o3
      replace HRa := hid (HRa.out.below hb)
      replace HRb := hid (HRb.out.below hb)
      replace HB := hid (HB.out.trans (hb.mono HB.out.size))
      have HP4 := hid (count_eq qo _ qc (andN a b) (cntF (andN a b)) rfl (by rw [nrm_of_nf (andN_nf a b)]) u3 hr (by have := andN_len a b; omega))
      clear hr hb o3 HP3
      go_wp2_with fail
      refine HP4.out.mono ?_
      rintro e u4 ⟨rfl, hb⟩
      replace HRa := hid (HRa.out.below hb)
      replace HRb := hid (HRb.out.below hb)
      replace HB := hid (HB.out.trans (hb.mono HB.out.size))
      clear hb HP4
      have HP5 := hid (count_any ao ac a u4 HRa.out (by omega))
      go_wp2_with fail
      refine HP5.out.mono ?_
      rintro e u5 ⟨rfl, hb⟩
      replace HRa := hid (HRa.out.below hb)
      replace HRb := hid (HRb.out.below hb)
      replace HB := hid (HB.out.trans (hb.mono HB.out.size))
      clear hb HP5
      have HP6 := hid (count_any bo bc b u5 HRb.out (by omega))
      go_wp2_with fail
      refine HP6.out.mono ?_
      rintro e u6 ⟨rfl, hb⟩
      replace HRa := hid (HRa.out.below hb)
      replace HRb := hid (HRb.out.below hb)
      replace HB := hid (HB.out.trans (hb.mono HB.out.size))
      clear hb HP6
      have eqq := HEQ.out
      have q1 := cnt_nf_bd (orN_nf a b)
      have q2 := cnt_nf_bd (andN_nf a b)
      have q3 := cnt_nf_bd (nrm_nf a)
      have q4 := cnt_nf_bd (nrm_nf b)
      generalize cntF (orN a b) = n1 at *
      generalize cntF (andN a b) = n2 at *
      generalize cntF (nrm a) = n3 at *
      generalize cntF (nrm b) = n4 at *
      have eqw : wrap64 (n1 + n2) = n3 + n4 := by unfold wrap64; omega
      have p1 := q1.1
      have p2 := q2.1
      have p3 := q3.1
      have p4 := q4.1
      have p5 := q1.2
      have p6 := q2.2
      have p7 := q3.2
      have p8 := q4.2
      clear eqq q1 q2 q3 q4 HEQ
      go_wp2_with fail
      refine (live_any _ (tabs_below HT.out h2 HB.out) (by have := HB.out.size; omega)).mono ?_
      rintro e z5 ⟨rfl, hb⟩
      replace HB := hid (HB.out.trans (hb.mono HB.out.size))
      clear hb
      go_wp2
      go_ret
      exact ⟨rfl, HB.out⟩
end Go.Proofs.YtfahbdlcokoghaaDoor
