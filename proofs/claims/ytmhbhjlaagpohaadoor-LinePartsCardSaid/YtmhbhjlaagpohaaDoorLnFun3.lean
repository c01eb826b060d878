/- The contracts of number, odd, glued, together, held, joined and cut (package line). -/
import Derived.Test.YtmhbhjlaagpohaaDoorLnFun2
namespace Go.Proofs.YtmhbhjlaagpohaaDoor
open Go.RowKit

theorem held_any (a b : Int) (w : World) : Calls Tryd.prog 105 #[.int .i64 a, .int .i64 b] w fun e w' => e = .returned (.bool (lnheld a b)) ∧ Below w.heap.size w w' := by
  have HB0 := hid (Below.refl w.heap.size w)
  go_enter Tryd.func105, Tryd.ntmps105
  go_wp2_with fail
  refine (isAny_lit b [6, 11, 10, 13, 14, 15] w (by decide)).mono ?_
  rintro e w1 ⟨rfl, be⟩
  have HB1 := hid (HB0.out.trans (be.mono HB0.out.size))
  obtain ⟨q1, hq1⟩ : ∃ q, q = amg [6, 11, 10, 13, 14, 15] b := ⟨_, rfl⟩
  have HQ1 := hid hq1
  rw [← hq1]
  clear hq1 be
  cases q1 with
  | true =>
    have HV := hid (show lnheld a b = true by unfold lnheld; rw [← HQ1.out]; rfl)
    go_wp2
    go_ret
    exact ⟨by rw [HV.out]; rfl, HB1.out⟩
  | false =>
    by_cases h0 : a = 9
    · subst h0
      have HV := hid (show lnheld 9 b = true by unfold lnheld; rw [← HQ1.out]; rfl)
      clear HQ1
      go_wp2
      go_ret
      exact ⟨by rw [HV.out]; rfl, HB1.out⟩
    by_cases h1 : a = 12
    · subst h1
      have HV := hid (show lnheld 12 b = (b == 9) by unfold lnheld; rw [← HQ1.out]; rfl)
      clear HQ1 h0
      go_wp2
      go_ret
      exact ⟨by rw [HV.out]; rfl, HB1.out⟩
    by_cases h2 : a = 11
    · subst h2
      have HV := hid (show lnheld 11 b = (b == 24) by unfold lnheld; rw [← HQ1.out]; rfl)
      clear HQ1 h0 h1
      go_wp2
      go_ret
      exact ⟨by rw [HV.out]; rfl, HB1.out⟩
    by_cases h3 : a = 10
    · subst h3
      have HV := hid (show lnheld 10 b = (b == 24) by unfold lnheld; rw [← HQ1.out]; rfl)
      clear HQ1 h0 h1 h2
      go_wp2
      go_ret
      exact ⟨by rw [HV.out]; rfl, HB1.out⟩
    by_cases h4 : a = 18
    · subst h4
      have HV := hid (show lnheld 18 b = (b == 18) by unfold lnheld; rw [← HQ1.out]; rfl)
      clear HQ1 h0 h1 h2 h3
      go_wp2
      go_ret
      exact ⟨by rw [HV.out]; rfl, HB1.out⟩
    have HV := hid (show lnheld a b = false by unfold lnheld; rw [← HQ1.out, if_neg (by decide), if_neg h0, if_neg h1, if_neg h2, if_neg h3, if_neg h4])
    have b0 : (a == 9) = false := beq_eq_false_iff_ne.2 h0
    have b1 : (a == 12) = false := beq_eq_false_iff_ne.2 h1
    have b2 : (a == 11) = false := beq_eq_false_iff_ne.2 h2
    have b3 : (a == 10) = false := beq_eq_false_iff_ne.2 h3
    have b4 : (a == 18) = false := beq_eq_false_iff_ne.2 h4
    go_wp2
    go_ret
    exact ⟨by rw [HV.out]; rfl, HB1.out⟩
theorem together_any (a b : Int) (w : World) : Calls Tryd.prog 120 #[.int .i64 a, .int .i64 b] w fun e w' => e = .returned (.bool (lntog a b)) ∧ Below w.heap.size w w' := by
  have HB0 := hid (Below.refl w.heap.size w)
  by_cases h0 : a = 12
  · subst h0
    have HV := hid (show lntog 12 b = true by unfold lntog; rfl)
    go_enter Tryd.func120, Tryd.ntmps120
    go_wp2
    go_ret
    exact ⟨by rw [HV.out]; rfl, HB0.out⟩
  by_cases h1 : a = 0
  · subst h1
    clear h0
    have HV := hid (show lntog 0 b = amg [0, 20, 9, 21, 22] b by unfold lntog; rfl)
    go_enter Tryd.func120, Tryd.ntmps120
    go_wp2_with fail
    refine (isAny_lit b [0, 20, 9, 21, 22] w (by decide)).mono ?_
    rintro e w1 ⟨rfl, be⟩
    have HB1 := hid (HB0.out.trans (be.mono HB0.out.size))
    obtain ⟨q1, hq1⟩ : ∃ q, q = amg [0, 20, 9, 21, 22] b := ⟨_, rfl⟩
    have HQ1 := hid hq1
    rw [← hq1]
    clear hq1 be
    go_wp2
    go_ret
    exact ⟨by rw [HV.out, ← HQ1.out]; rfl, HB1.out⟩
  by_cases h2 : a = 20
  · subst h2
    clear h0 h1
    have HV := hid (show lntog 20 b = amg [0, 20, 9, 21, 22] b by unfold lntog; rfl)
    go_enter Tryd.func120, Tryd.ntmps120
    go_wp2_with fail
    refine (isAny_lit b [0, 20, 9, 21, 22] w (by decide)).mono ?_
    rintro e w1 ⟨rfl, be⟩
    have HB1 := hid (HB0.out.trans (be.mono HB0.out.size))
    obtain ⟨q1, hq1⟩ : ∃ q, q = amg [0, 20, 9, 21, 22] b := ⟨_, rfl⟩
    have HQ1 := hid hq1
    rw [← hq1]
    clear hq1 be
    go_wp2
    go_ret
    exact ⟨by rw [HV.out, ← HQ1.out]; rfl, HB1.out⟩
  by_cases h3 : a = 14
  · subst h3
    clear h0 h1 h2
    have HV := hid (show lntog 14 b = amg [0, 20] b by unfold lntog; rfl)
    go_enter Tryd.func120, Tryd.ntmps120
    go_wp2_with fail
    refine (isAny_lit b [0, 20] w (by decide)).mono ?_
    rintro e w1 ⟨rfl, be⟩
    have HB1 := hid (HB0.out.trans (be.mono HB0.out.size))
    obtain ⟨q1, hq1⟩ : ∃ q, q = amg [0, 20] b := ⟨_, rfl⟩
    have HQ1 := hid hq1
    rw [← hq1]
    clear hq1 be
    go_wp2
    go_ret
    exact ⟨by rw [HV.out, ← HQ1.out]; rfl, HB1.out⟩
  by_cases h4 : a = 10
  · subst h4
    clear h0 h1 h2 h3
    have HV := hid (show lntog 10 b = amg [0, 20] b by unfold lntog; rfl)
    go_enter Tryd.func120, Tryd.ntmps120
    go_wp2_with fail
    refine (isAny_lit b [0, 20] w (by decide)).mono ?_
    rintro e w1 ⟨rfl, be⟩
    have HB1 := hid (HB0.out.trans (be.mono HB0.out.size))
    obtain ⟨q1, hq1⟩ : ∃ q, q = amg [0, 20] b := ⟨_, rfl⟩
    have HQ1 := hid hq1
    rw [← hq1]
    clear hq1 be
    go_wp2
    go_ret
    exact ⟨by rw [HV.out, ← HQ1.out]; rfl, HB1.out⟩
  by_cases h5 : a = 21
  · subst h5
    clear h0 h1 h2 h3 h4
    have HV := hid (show lntog 21 b = amg [0, 20] b by unfold lntog; rfl)
    go_enter Tryd.func120, Tryd.ntmps120
    go_wp2_with fail
    refine (isAny_lit b [0, 20] w (by decide)).mono ?_
    rintro e w1 ⟨rfl, be⟩
    have HB1 := hid (HB0.out.trans (be.mono HB0.out.size))
    obtain ⟨q1, hq1⟩ : ∃ q, q = amg [0, 20] b := ⟨_, rfl⟩
    have HQ1 := hid hq1
    rw [← hq1]
    clear hq1 be
    go_wp2
    go_ret
    exact ⟨by rw [HV.out, ← HQ1.out]; rfl, HB1.out⟩
  by_cases h6 : a = 22
  · subst h6
    clear h0 h1 h2 h3 h4 h5
    have HV := hid (show lntog 22 b = amg [0, 20, 23] b by unfold lntog; rfl)
    go_enter Tryd.func120, Tryd.ntmps120
    go_wp2_with fail
    refine (isAny_lit b [0, 20, 23] w (by decide)).mono ?_
    rintro e w1 ⟨rfl, be⟩
    have HB1 := hid (HB0.out.trans (be.mono HB0.out.size))
    obtain ⟨q1, hq1⟩ : ∃ q, q = amg [0, 20, 23] b := ⟨_, rfl⟩
    have HQ1 := hid hq1
    rw [← hq1]
    clear hq1 be
    go_wp2
    go_ret
    exact ⟨by rw [HV.out, ← HQ1.out]; rfl, HB1.out⟩
  by_cases h7 : a = 16
  · subst h7
    clear h0 h1 h2 h3 h4 h5 h6
    have HV := hid (show lntog 16 b = (b == 20) by unfold lntog; rfl)
    go_enter Tryd.func120, Tryd.ntmps120
    go_wp2
    go_ret
    exact ⟨by rw [HV.out]; rfl, HB0.out⟩
  by_cases h8 : a = 15
  · subst h8
    clear h0 h1 h2 h3 h4 h5 h6 h7
    have HV := hid (show lntog 15 b = (b == 20) by unfold lntog; rfl)
    go_enter Tryd.func120, Tryd.ntmps120
    go_wp2
    go_ret
    exact ⟨by rw [HV.out]; rfl, HB0.out⟩
  by_cases h9 : a = 23
  · subst h9
    clear h0 h1 h2 h3 h4 h5 h6 h7 h8
    have HV := hid (show lntog 23 b = (b == 21) by unfold lntog; rfl)
    go_enter Tryd.func120, Tryd.ntmps120
    go_wp2
    go_ret
    exact ⟨by rw [HV.out]; rfl, HB0.out⟩
  have HV := hid (show lntog a b = false by unfold lntog; rw [if_neg h0, if_neg h1, if_neg h2, if_neg h3, if_neg h4, if_neg h5, if_neg h6, if_neg h7, if_neg h8, if_neg h9])
  have b0 : (a == 12) = false := beq_eq_false_iff_ne.2 h0
  have b1 : (a == 0) = false := beq_eq_false_iff_ne.2 h1
  have b2 : (a == 20) = false := beq_eq_false_iff_ne.2 h2
  have b3 : (a == 14) = false := beq_eq_false_iff_ne.2 h3
  have b4 : (a == 10) = false := beq_eq_false_iff_ne.2 h4
  have b5 : (a == 21) = false := beq_eq_false_iff_ne.2 h5
  have b6 : (a == 22) = false := beq_eq_false_iff_ne.2 h6
  have b7 : (a == 16) = false := beq_eq_false_iff_ne.2 h7
  have b8 : (a == 15) = false := beq_eq_false_iff_ne.2 h8
  have b9 : (a == 23) = false := beq_eq_false_iff_ne.2 h9
  go_enter Tryd.func120, Tryd.ntmps120
  go_wp2
  go_ret
  exact ⟨by rw [HV.out]; rfl, HB0.out⟩
theorem glued_any (a b : Int) (w : World) : Calls Tryd.prog 119 #[.int .i64 a, .int .i64 b] w fun e w' => e = .returned (.bool (lnglued a b)) ∧ Below w.heap.size w w' := by
  have HB0 := hid (Below.refl w.heap.size w)
  go_enter Tryd.func119, Tryd.ntmps119
  go_wp2_with fail
  refine (isAny_lit a [6, 7] w (by decide)).mono ?_
  rintro e w1 ⟨rfl, be⟩
  have HB1 := hid (HB0.out.trans (be.mono HB0.out.size))
  obtain ⟨q1, hq1⟩ : ∃ q, q = amg [6, 7] a := ⟨_, rfl⟩
  have HQ1 := hid hq1
  rw [← hq1]
  clear hq1 be
  cases q1 with
  | true =>
    have HV := hid (show lnglued a b = true by unfold lnglued; rw [← HQ1.out]; rfl)
    go_wp2
    go_ret
    exact ⟨by rw [HV.out]; rfl, HB1.out⟩
  | false =>
    by_cases h7 : b = 7
    · subst h7
      go_wp2_with fail
      refine (isAny_lit a [4, 17, 16] w1 (by decide)).mono ?_
      rintro e w2 ⟨rfl, be⟩
      have HB2 := hid (HB1.out.trans (be.mono HB1.out.size))
      obtain ⟨q2, hq2⟩ : ∃ q, q = amg [4, 17, 16] a := ⟨_, rfl⟩
      have HQ2 := hid hq2
      rw [← hq2]
      clear hq2 be
      have HV := hid (show lnglued a 7 = !q2 by unfold lnglued; rw [← HQ1.out, ← HQ2.out]; rfl)
      go_wp2
      go_ret
      exact ⟨by rw [HV.out]; rfl, HB2.out⟩
    · have b7 : (b == 7) = false := beq_eq_false_iff_ne.2 h7
      have HV := hid (show lnglued a b = false by unfold lnglued; rw [← HQ1.out, b7]; rfl)
      go_wp2
      go_ret
      exact ⟨by rw [HV.out]; rfl, HB1.out⟩
theorem number_any (l : List UInt8) (w : World) (ht : Tb w) (hl : l.length ≤ 1000000000) :
    Calls Tryd.prog 121 #[.string ⟨l.toArray⟩] w fun e w' => e = .returned (.bool (lnnum l)) ∧ Below w.heap.size w w' := by
  have HT := hid ht
  clear ht
  go_enter Tryd.func121, Tryd.ntmps121
  go_wp2_with fail
  refine (withoutOne_any l [11, 10] w HT.out hl (by decide) (by decide)).mono ?_
  rintro e w1 ⟨rfl, be⟩
  have HB1 := hid be
  have hle := lnone_le [11, 10] l
  obtain ⟨l1, h1⟩ : ∃ l1, l1 = lnone [11, 10] l := ⟨_, rfl⟩
  have H1 := hid h1
  rw [← h1] at hle
  rw [← h1]
  clear h1 be
  go_wp2_with fail
  refine (withoutOne_any l1 [14, 15] w1 (HT.out.below HB1.out) (by omega) (by decide) (by decide)).mono ?_
  rintro e w2 ⟨rfl, be⟩
  have HB2 := hid (HB1.out.trans (be.mono HB1.out.size))
  have hle2 := lnone_le [14, 15] l1
  obtain ⟨l2, h2⟩ : ∃ l2, l2 = lnone [14, 15] l1 := ⟨_, rfl⟩
  have HV := hid (show lnnum l = (lnbase l2 == 20) by rw [h2, H1.out]; rfl)
  rw [← h2] at hle2
  rw [← h2]
  clear h2 be
  go_wp2_with fail
  refine (base_any l2 w2 (HT.out.below HB2.out) (by omega)).mono ?_
  rintro e w3 ⟨rfl, be⟩
  have HB3 := hid (HB2.out.trans (be.mono HB2.out.size))
  clear be
  obtain ⟨c, hc⟩ : ∃ c, c = lnbase l2 := ⟨_, rfl⟩
  rw [← hc] at HV
  rw [← hc]
  clear hc
  go_wp2
  go_ret
  exact ⟨by rw [HV.out]; rfl, HB3.out⟩
set_option maxHeartbeats 1000000 in
theorem odd_any (l : List UInt8) (w : World) (ht : Tb w) (hl : l.length ≤ 1000000000) :
    Calls Tryd.prog 122 #[.string ⟨l.toArray⟩] w fun e w' => e = .returned (.bool (lnodd l.length l false)) ∧ Below w.heap.size w w' := by
  have HT := hid ht
  clear ht
  go_enter Tryd.func122, Tryd.ntmps122
  go_wp2
  go_loopw [0, 3] (fun fs fo wr => ∃ (l' : List UInt8) (o : Bool), fs = .string ⟨l'.toArray⟩ ∧ fo = .bool o ∧ l'.length ≤ 1000000000 ∧ Hid (lnodd l.length l false = lnodd l'.length l' o) ∧ Below w.heap.size w wr) (fun fs _ _ => strLen fs)
  case atStart => exact ⟨l, false, rfl, rfl, hl, rfl, Below.refl _ _⟩
  case round =>
    obtain ⟨l', o, rfl, rfl, hl', HW, hB⟩ := hrel
    have HB := hid hB
    clear hB
    go_wp2_with fail
    refine (base_any l' wr (HT.out.below HB.out) hl').mono ?_
    rintro e w1 ⟨rfl, be⟩
    have HB1 := hid (HB.out.trans (be.mono HB.out.size))
    clear be
    by_cases h25 : lnbase l' = 25
    · have HL := hid (lnone_lt [25] l' (by decide) (by rw [h25]; decide))
      have HY := hid (HW.out.trans (lnodd_yes l' o h25))
      rw [h25]
      clear h25
      go_wp2_with fail
      refine (withoutOne_any l' [25] w1 (HT.out.below HB1.out) hl' (by decide) (by decide)).mono ?_
      rintro e w2 ⟨rfl, be⟩
      have HB2 := hid (HB1.out.trans (be.mono HB1.out.size))
      clear be
      obtain ⟨l2, h2⟩ : ∃ l2, l2 = lnone [25] l' := ⟨_, rfl⟩
      rw [← h2] at HL HY
      rw [← h2]
      clear h2
      go_wp2
      exact ⟨⟨l2, !o, rfl, rfl, by have := HL.out; omega, HY.out, HB2.out⟩, by have := HL.out; show l2.toArray.size < l'.toArray.size; simpa using this⟩
    · have HY := hid (HW.out.trans (lnodd_no l' o h25))
      obtain ⟨c, hc⟩ : ∃ c, c = lnbase l' := ⟨_, rfl⟩
      rw [← hc] at h25
      rw [← hc]
      have b25 : (c == 25) = false := beq_eq_false_iff_ne.2 h25
      clear hc h25
      go_wp2
      go_ret
      exact ⟨by rw [HY.out]; rfl, HB1.out⟩
end Go.Proofs.YtmhbhjlaagpohaaDoor
