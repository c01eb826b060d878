/- The contracts of number, odd, glued, together, held, joined and cut (package line). -/
import Derived.Test.YtkophiklkgefnaaDoorLnFun2
namespace Go.Proofs.YtkophiklkgefnaaDoor.Ln
open Go.RowKit

theorem held_any (a b : Int) (w : World) : Calls Tryd.prog 80 #[.int .i64 a, .int .i64 b] w fun e w' => e = .returned (.bool (lnheld a b)) ∧ Below w.heap.size w w' := by
  have HB0 := hid (Below.refl w.heap.size w)
  go_enter Tryd.func80, Tryd.ntmps80
  go_wp2_with fail
  refine (isAny_lit b [6, 11, 10, 13, 14, 15] w (by decide)).mono ?_
  rintro e w1 ⟨rfl, be⟩
  have HB1 := hid (HB0.out.trans (be.mono HB0.out.size))
  obtain ⟨q1, hq1⟩ : ∃ q, q = amg [6, 11, 10, 13, 14, 15] b := ⟨_, rfl⟩
  have HQ1 := hid hq1
  rw [← hq1]
  clear hq1 be
  cases q1 with
  | true =>
    have HV := hid (show lnheld a b = true by unfold lnheld; rw [← HQ1.out]; rfl)
    go_wp2
    go_ret
    exact ⟨by rw [HV.out]; rfl, HB1.out⟩
  | false =>
    by_cases h0 : a = 9
    · subst h0
      have HV := hid (show lnheld 9 b = true by unfold lnheld; rw [← HQ1.out]; rfl)
      clear HQ1
      go_wp2
      go_ret
      exact ⟨by rw [HV.out]; rfl, HB1.out⟩
    by_cases h1 : a = 12
    · subst h1
      have HV := hid (show lnheld 12 b = (b == 9) by unfold lnheld; rw [← HQ1.out]; rfl)
      clear HQ1 h0
      go_wp2
      go_ret
      exact ⟨by rw [HV.out]; rfl, HB1.out⟩
    by_cases h2 : a = 11
    · subst h2
      have HV := hid (show lnheld 11 b = (b == 24) by unfold lnheld; rw [← HQ1.out]; rfl)
      clear HQ1 h0 h1
      go_wp2
      go_ret
      exact ⟨by rw [HV.out]; rfl, HB1.out⟩
    by_cases h3 : a = 10
    · subst h3
      have HV := hid (show lnheld 10 b = (b == 24) by unfold lnheld; rw [← HQ1.out]; rfl)
      clear HQ1 h0 h1 h2
      go_wp2
      go_ret
      exact ⟨by rw [HV.out]; rfl, HB1.out⟩
    by_cases h4 : a = 18
    · subst h4
      have HV := hid (show lnheld 18 b = (b == 18) by unfold lnheld; rw [← HQ1.out]; rfl)
      clear HQ1 h0 h1 h2 h3
      go_wp2
      go_ret
      exact ⟨by rw [HV.out]; rfl, HB1.out⟩
    have HV := hid (show lnheld a b = false by unfold lnheld; rw [← HQ1.out, if_neg (by decide), if_neg h0, if_neg h1, if_neg h2, if_neg h3, if_neg h4])
    have b0 : (a == 9) = false := beq_eq_false_iff_ne.2 h0
    have b1 : (a == 12) = false := beq_eq_false_iff_ne.2 h1
    have b2 : (a == 11) = false := beq_eq_false_iff_ne.2 h2
    have b3 : (a == 10) = false := beq_eq_false_iff_ne.2 h3
    have b4 : (a == 18) = false := beq_eq_false_iff_ne.2 h4
    go_wp2
    go_ret
    exact ⟨by rw [HV.out]; rfl, HB1.out⟩
theorem together_any (a b : Int) (w : World) : Calls Tryd.prog 105 #[.int .i64 a, .int .i64 b] w fun e w' => e = .returned (.bool (lntog a b)) ∧ Below w.heap.size w w' := by
  have HB0 := hid (Below.refl w.heap.size w)
  by_cases h0 : a = 12
  · subst h0
    have HV := hid (show lntog 12 b = true by unfold lntog; rfl)
    go_enter Tryd.func105, Tryd.ntmps105
    go_wp2
    go_ret
    exact ⟨by rw [HV.out]; rfl, HB0.out⟩
  by_cases h1 : a = 0
  · subst h1
    clear h0
    have HV := hid (show lntog 0 b = amg [0, 20, 9, 21, 22] b by unfold lntog; rfl)
    go_enter Tryd.func105, Tryd.ntmps105
    go_wp2_with fail
    refine (isAny_lit b [0, 20, 9, 21, 22] w (by decide)).mono ?_
    rintro e w1 ⟨rfl, be⟩
    have HB1 := hid (HB0.out.trans (be.mono HB0.out.size))
    obtain ⟨q1, hq1⟩ : ∃ q, q = amg [0, 20, 9, 21, 22] b := ⟨_, rfl⟩
    have HQ1 := hid hq1
    rw [← hq1]
    clear hq1 be
    go_wp2
    go_ret
    exact ⟨by rw [HV.out, ← HQ1.out]; rfl, HB1.out⟩
  by_cases h2 : a = 20
  · subst h2
    clear h0 h1
    have HV := hid (show lntog 20 b = amg [0, 20, 9, 21, 22] b by unfold lntog; rfl)
    go_enter Tryd.func105, Tryd.ntmps105
    go_wp2_with fail
    refine (isAny_lit b [0, 20, 9, 21, 22] w (by decide)).mono ?_
    rintro e w1 ⟨rfl, be⟩
    have HB1 := hid (HB0.out.trans (be.mono HB0.out.size))
    obtain ⟨q1, hq1⟩ : ∃ q, q = amg [0, 20, 9, 21, 22] b := ⟨_, rfl⟩
    have HQ1 := hid hq1
    rw [← hq1]
    clear hq1 be
    go_wp2
    go_ret
    exact ⟨by rw [HV.out, ← HQ1.out]; rfl, HB1.out⟩
  by_cases h3 : a = 14
  · subst h3
    clear h0 h1 h2
    have HV := hid (show lntog 14 b = amg [0, 20] b by unfold lntog; rfl)
    go_enter Tryd.func105, Tryd.ntmps105
    go_wp2_with fail
    refine (isAny_lit b [0, 20] w (by decide)).mono ?_
    rintro e w1 ⟨rfl, be⟩
    have HB1 := hid (HB0.out.trans (be.mono HB0.out.size))
    obtain ⟨q1, hq1⟩ : ∃ q, q = amg [0, 20] b := ⟨_, rfl⟩
    have HQ1 := hid hq1
    rw [← hq1]
    clear hq1 be
    go_wp2
    go_ret
    exact ⟨by rw [HV.out, ← HQ1.out]; rfl, HB1.out⟩
  by_cases h4 : a = 10
  · subst h4
    clear h0 h1 h2 h3
    have HV := hid (show lntog 10 b = amg [0, 20] b by unfold lntog; rfl)
    go_enter Tryd.func105, Tryd.ntmps105
    go_wp2_with fail
    refine (isAny_lit b [0, 20] w (by decide)).mono ?_
    rintro e w1 ⟨rfl, be⟩
    have HB1 := hid (HB0.out.trans (be.mono HB0.out.size))
    obtain ⟨q1, hq1⟩ : ∃ q, q = amg [0, 20] b := ⟨_, rfl⟩
    have HQ1 := hid hq1
    rw [← hq1]
    clear hq1 be
    go_wp2
    go_ret
    exact ⟨by rw [HV.out, ← HQ1.out]; rfl, HB1.out⟩
  by_cases h5 : a = 21
  · subst h5
    clear h0 h1 h2 h3 h4
    have HV := hid (show lntog 21 b = amg [0, 20] b by unfold lntog; rfl)
    go_enter Tryd.func105, Tryd.ntmps105
    go_wp2_with fail
    refine (isAny_lit b [0, 20] w (by decide)).mono ?_
    rintro e w1 ⟨rfl, be⟩
    have HB1 := hid (HB0.out.trans (be.mono HB0.out.size))
    obtain ⟨q1, hq1⟩ : ∃ q, q = amg [0, 20] b := ⟨_, rfl⟩
    have HQ1 := hid hq1
    rw [← hq1]
    clear hq1 be
    go_wp2
    go_ret
    exact ⟨by rw [HV.out, ← HQ1.out]; rfl, HB1.out⟩
  by_cases h6 : a = 22
  · subst h6
    clear h0 h1 h2 h3 h4 h5
    have HV := hid (show lntog 22 b = amg [0, 20, 23] b by unfold lntog; rfl)
    go_enter Tryd.func105, Tryd.ntmps105
    go_wp2_with fail
    refine (isAny_lit b [0, 20, 23] w (by decide)).mono ?_
    rintro e w1 ⟨rfl, be⟩
    have HB1 := hid (HB0.out.trans (be.mono HB0.out.size))
    obtain ⟨q1, hq1⟩ : ∃ q, q = amg [0, 20, 23] b := ⟨_, rfl⟩
    have HQ1 := hid hq1
    rw [← hq1]
    clear hq1 be
    go_wp2
    go_ret
    exact ⟨by rw [HV.out, ← HQ1.out]; rfl, HB1.out⟩
  by_cases h7 : a = 16
  · subst h7
    clear h0 h1 h2 h3 h4 h5 h6
    have HV := hid (show lntog 16 b = (b == 20) by unfold lntog; rfl)
    go_enter Tryd.func105, Tryd.ntmps105
    go_wp2
    go_ret
    exact ⟨by rw [HV.out]; rfl, HB0.out⟩
  by_cases h8 : a = 15
  · subst h8
    clear h0 h1 h2 h3 h4 h5 h6 h7
    have HV := hid (show lntog 15 b = (b == 20) by unfold lntog; rfl)
    go_enter Tryd.func105, Tryd.ntmps105
    go_wp2
    go_ret
    exact ⟨by rw [HV.out]; rfl, HB0.out⟩
  by_cases h9 : a = 23
  · subst h9
    clear h0 h1 h2 h3 h4 h5 h6 h7 h8
    have HV := hid (show lntog 23 b = (b == 21) by unfold lntog; rfl)
    go_enter Tryd.func105, Tryd.ntmps105
    go_wp2
    go_ret
    exact ⟨by rw [HV.out]; rfl, HB0.out⟩
  have HV := hid (show lntog a b = false by unfold lntog; rw [if_neg h0, if_neg h1, if_neg h2, if_neg h3, if_neg h4, if_neg h5, if_neg h6, if_neg h7, if_neg h8, if_neg h9])
  have b0 : (a == 12) = false := beq_eq_false_iff_ne.2 h0
  have b1 : (a == 0) = false := beq_eq_false_iff_ne.2 h1
  have b2 : (a == 20) = false := beq_eq_false_iff_ne.2 h2
  have b3 : (a == 14) = false := beq_eq_false_iff_ne.2 h3
  have b4 : (a == 10) = false := beq_eq_false_iff_ne.2 h4
  have b5 : (a == 21) = false := beq_eq_false_iff_ne.2 h5
  have b6 : (a == 22) = false := beq_eq_false_iff_ne.2 h6
  have b7 : (a == 16) = false := beq_eq_false_iff_ne.2 h7
  have b8 : (a == 15) = false := beq_eq_false_iff_ne.2 h8
  have b9 : (a == 23) = false := beq_eq_false_iff_ne.2 h9
  go_enter Tryd.func105, Tryd.ntmps105
  go_wp2
  go_ret
  exact ⟨by rw [HV.out]; rfl, HB0.out⟩
theorem glued_any (a b : Int) (w : World) : Calls Tryd.prog 104 #[.int .i64 a, .int .i64 b] w fun e w' => e = .returned (.bool (lnglued a b)) ∧ Below w.heap.size w w' := by
  have HB0 := hid (Below.refl w.heap.size w)
  go_enter Tryd.func104, Tryd.ntmps104
  go_wp2_with fail
  refine (isAny_lit a [6, 7] w (by decide)).mono ?_
  rintro e w1 ⟨rfl, be⟩
  have HB1 := hid (HB0.out.trans (be.mono HB0.out.size))
  obtain ⟨q1, hq1⟩ : ∃ q, q = amg [6, 7] a := ⟨_, rfl⟩
  have HQ1 := hid hq1
  rw [← hq1]
  clear hq1 be
  cases q1 with
  | true =>
    have HV := hid (show lnglued a b = true by unfold lnglued; rw [← HQ1.out]; rfl)
    go_wp2
    go_ret
    exact ⟨by rw [HV.out]; rfl, HB1.out⟩
  | false =>
    by_cases h7 : b = 7
    · subst h7
      go_wp2_with fail
      refine (isAny_lit a [4, 17, 16] w1 (by decide)).mono ?_
      rintro e w2 ⟨rfl, be⟩
      have HB2 := hid (HB1.out.trans (be.mono HB1.out.size))
      obtain ⟨q2, hq2⟩ : ∃ q, q = amg [4, 17, 16] a := ⟨_, rfl⟩
      have HQ2 := hid hq2
      rw [← hq2]
      clear hq2 be
      have HV := hid (show lnglued a 7 = !q2 by unfold lnglued; rw [← HQ1.out, ← HQ2.out]; rfl)
      go_wp2
      go_ret
      exact ⟨by rw [HV.out]; rfl, HB2.out⟩
    · have b7 : (b == 7) = false := beq_eq_false_iff_ne.2 h7
      have HV := hid (show lnglued a b = false by unfold lnglued; rw [← HQ1.out, b7]; rfl)
      go_wp2
      go_ret
      exact ⟨by rw [HV.out]; rfl, HB1.out⟩
theorem number_any (l : List UInt8) (w : World) (ht : Tb w) (hl : l.length ≤ 1000000000) :
    Calls Tryd.prog 106 #[.string ⟨l.toArray⟩] w fun e w' => e = .returned (.bool (lnnum l)) ∧ Below w.heap.size w w' := by
  have HT := hid ht
  clear ht
  go_enter Tryd.func106, Tryd.ntmps106
  go_wp2_with fail
  refine (withoutOne_any l [11, 10] w HT.out hl (by decide) (by decide)).mono ?_
  rintro e w1 ⟨rfl, be⟩
  have HB1 := hid be
  have hle := lnone_le [11, 10] l
  obtain ⟨l1, h1⟩ : ∃ l1, l1 = lnone [11, 10] l := ⟨_, rfl⟩
  have H1 := hid h1
  rw [← h1] at hle
  rw [← h1]
  clear h1 be
  go_wp2_with fail
  refine (withoutOne_any l1 [14, 15] w1 (HT.out.below HB1.out) (by omega) (by decide) (by decide)).mono ?_
  rintro e w2 ⟨rfl, be⟩
  have HB2 := hid (HB1.out.trans (be.mono HB1.out.size))
  have hle2 := lnone_le [14, 15] l1
  obtain ⟨l2, h2⟩ : ∃ l2, l2 = lnone [14, 15] l1 := ⟨_, rfl⟩
  have HV := hid (show lnnum l = (lnbase l2 == 20) by rw [h2, H1.out]; rfl)
  rw [← h2] at hle2
  rw [← h2]
  clear h2 be
  go_wp2_with fail
  refine (base_any l2 w2 (HT.out.below HB2.out) (by omega)).mono ?_
  rintro e w3 ⟨rfl, be⟩
  have HB3 := hid (HB2.out.trans (be.mono HB2.out.size))
  clear be
  obtain ⟨c, hc⟩ : ∃ c, c = lnbase l2 := ⟨_, rfl⟩
  rw [← hc] at HV
  rw [← hc]
  clear hc
  go_wp2
  go_ret
  exact ⟨by rw [HV.out]; rfl, HB3.out⟩
set_option maxHeartbeats 1000000 in
theorem odd_any (l : List UInt8) (w : World) (ht : Tb w) (hl : l.length ≤ 1000000000) :
    Calls Tryd.prog 107 #[.string ⟨l.toArray⟩] w fun e w' => e = .returned (.bool (lnodd l.length l false)) ∧ Below w.heap.size w w' := by
  have HT := hid ht
  clear ht
  go_enter Tryd.func107, Tryd.ntmps107
  go_wp2
  go_loopw [0, 3] (fun fs fo wr => ∃ (l' : List UInt8) (o : Bool), fs = .string ⟨l'.toArray⟩ ∧ fo = .bool o ∧ l'.length ≤ 1000000000 ∧ Hid (lnodd l.length l false = lnodd l'.length l' o) ∧ Below w.heap.size w wr) (fun fs _ _ => strLen fs)
  case atStart => exact ⟨l, false, rfl, rfl, hl, rfl, Below.refl _ _⟩
  case round =>
    obtain ⟨l', o, rfl, rfl, hl', HW, hB⟩ := hrel
    have HB := hid hB
    clear hB
    go_wp2_with fail
    refine (base_any l' wr (HT.out.below HB.out) hl').mono ?_
    rintro e w1 ⟨rfl, be⟩
    have HB1 := hid (HB.out.trans (be.mono HB.out.size))
    clear be
    by_cases h25 : lnbase l' = 25
    · have HL := hid (lnone_lt [25] l' (by decide) (by rw [h25]; decide))
      have HY := hid (HW.out.trans (lnodd_yes l' o h25))
      rw [h25]
      clear h25
      go_wp2_with fail
      refine (withoutOne_any l' [25] w1 (HT.out.below HB1.out) hl' (by decide) (by decide)).mono ?_
      rintro e w2 ⟨rfl, be⟩
      have HB2 := hid (HB1.out.trans (be.mono HB1.out.size))
      clear be
      obtain ⟨l2, h2⟩ : ∃ l2, l2 = lnone [25] l' := ⟨_, rfl⟩
      rw [← h2] at HL HY
      rw [← h2]
      clear h2
      go_wp2
      exact ⟨⟨l2, !o, rfl, rfl, by have := HL.out; omega, HY.out, HB2.out⟩, by have := HL.out; show l2.toArray.size < l'.toArray.size; simpa using this⟩
    · have HY := hid (HW.out.trans (lnodd_no l' o h25))
      obtain ⟨c, hc⟩ : ∃ c, c = lnbase l' := ⟨_, rfl⟩
      rw [← hc] at h25
      rw [← hc]
      have b25 : (c == 25) = false := beq_eq_false_iff_ne.2 h25
      clear hc h25
      go_wp2
      go_ret
      exact ⟨by rw [HY.out]; rfl, HB1.out⟩
end Go.Proofs.YtkophiklkgefnaaDoor.Ln
/- The contracts of joined, cut and isMust (package line). -/
namespace Go.Proofs.YtkophiklkgefnaaDoor.Ln
open Go.RowKit

theorem ext_mid (l : List UInt8) (a b : Nat) : (⟨l.toArray⟩ : ByteArray).extract a b = ⟨((l.take b).drop a).toArray⟩ := by
  apply ByteArray.ext
  simp [ByteArray.data_extract, List.drop_take]
theorem dec_le' (l : List UInt8) : (dec l).2 ≤ l.length := by
  by_cases h : l = []
  · subst h; exact Nat.le_refl _
  · exact dec_le l h
set_option maxHeartbeats 2000000 in
theorem joined_any (s : List UInt8) (fr p : Nat) (w : World) (ht : Tb w) (hl : s.length ≤ 1000000000) (hp : p ≤ s.length) (hf : fr ≤ p) :
    Calls Tryd.prog 82 #[.string ⟨s.toArray⟩, .int .i64 fr, .int .i64 p] w fun e w' => e = .returned (.bool (lnjoin s fr p)) ∧ Below w.heap.size w w' := by
  have HT := hid ht
  have HW := hid (dec_le' (s.drop p))
  have hdl : (s.drop p).length = s.length - p := List.length_drop
  have htl : (s.take p).length = p := by rw [List.length_take]; omega
  have HDL := hid hdl
  have HTL := hid htl
  clear ht hdl htl
  go_enter Tryd.func82, Tryd.ntmps82
  go_wp2_with fail
  rw [ext_take]
  refine (base_any (s.take p) w HT.out (by have := HTL.out; omega)).mono ?_
  rintro e w1 ⟨rfl, be⟩
  have HB1 := hid be
  obtain ⟨a, ha⟩ : ∃ a, a = lnbase (s.take p) := ⟨_, rfl⟩
  have HA := hid ha
  rw [← ha]
  clear be ha
  go_wp2_with fail
  rw [ext_drop]
  refine (first_any (s.drop p) w1 (HT.out.below HB1.out)).mono ?_
  rintro e w2 ⟨rfl, be⟩
  have HB2 := hid (HB1.out.trans (be.mono HB1.out.size))
  obtain ⟨b, hb⟩ : ∃ b, b = lnfirst (s.drop p) := ⟨_, rfl⟩
  obtain ⟨n, hn⟩ : ∃ n, n = (dec (s.drop p)).2 := ⟨_, rfl⟩
  have HBE := hid hb
  have HN := hid hn
  have hpn : p + n ≤ s.length := by have := HW.out; have := HDL.out; omega
  rw [← hb, ← hn]
  clear be hb hn
  have HJ := hid (show lnjoin s fr p = if lnglued a b then true else if amg [12, 17, 16, 24, 19] b then true else if lntog a b then true else if amg [21, 22] b then lnnum (s.take p) else if amg [21, 22] a && b == 9 then lnfirst (s.drop (p + n)) == 20 else if a = 25 ∧ b = 25 then lnodd ((s.take p).drop fr).length ((s.take p).drop fr) false else false by rw [HA.out, HBE.out, HN.out]; rfl)
  clear HA HBE HN HW
  go_wp2_with fail
  refine (glued_any a b w2).mono ?_
  rintro e w3 ⟨rfl, be⟩
  have HB3 := hid (HB2.out.trans (be.mono HB2.out.size))
  obtain ⟨q3, hq3⟩ : ∃ q, q = lnglued a b := ⟨_, rfl⟩
  rw [← hq3] at HJ
  rw [← hq3]
  clear hq3 be
  cases q3 with
  | true =>
    go_wp2
    go_ret
    exact ⟨by rw [HJ.out]; rfl, HB3.out⟩
  | false =>
    go_wp2_with fail
    refine (isAny_lit b [12, 17, 16, 24, 19] w3 (by decide)).mono ?_
    rintro e w4 ⟨rfl, be⟩
    have HB4 := hid (HB3.out.trans (be.mono HB3.out.size))
    obtain ⟨q4, hq4⟩ : ∃ q, q = amg [12, 17, 16, 24, 19] b := ⟨_, rfl⟩
    rw [← hq4] at HJ
    rw [← hq4]
    clear hq4 be
    cases q4 with
    | true =>
      go_wp2
      go_ret
      exact ⟨by rw [HJ.out]; rfl, HB4.out⟩
    | false =>
      go_wp2_with fail
      refine (together_any a b w4).mono ?_
      rintro e w5 ⟨rfl, be⟩
      have HB5 := hid (HB4.out.trans (be.mono HB4.out.size))
      obtain ⟨q5, hq5⟩ : ∃ q, q = lntog a b := ⟨_, rfl⟩
      rw [← hq5] at HJ
      rw [← hq5]
      clear hq5 be
      cases q5 with
      | true =>
        go_wp2
        go_ret
        exact ⟨by rw [HJ.out]; rfl, HB5.out⟩
      | false =>
        go_wp2_with fail
        refine (isAny_lit b [21, 22] w5 (by decide)).mono ?_
        rintro e w6 ⟨rfl, be⟩
        have HB6 := hid (HB5.out.trans (be.mono HB5.out.size))
        obtain ⟨q6, hq6⟩ : ∃ q, q = amg [21, 22] b := ⟨_, rfl⟩
        rw [← hq6] at HJ
        rw [← hq6]
        clear hq6 be
        cases q6 with
        | true =>
          go_wp2_with fail
          rw [ext_take]
          refine (number_any (s.take p) w6 (HT.out.below HB6.out) (by have := HTL.out; omega)).mono ?_
          rintro e w7 ⟨rfl, be⟩
          have HB7 := hid (HB6.out.trans (be.mono HB6.out.size))
          clear be
          obtain ⟨v, hv⟩ : ∃ v, v = lnnum (s.take p) := ⟨_, rfl⟩
          rw [← hv] at HJ
          rw [← hv]
          clear hv
          go_wp2
          go_ret
          exact ⟨by rw [HJ.out]; rfl, HB7.out⟩
        | false =>
          go_wp2_with fail
          refine (isAny_lit a [21, 22] w6 (by decide)).mono ?_
          rintro e w7 ⟨rfl, be⟩
          have HB7 := hid (HB6.out.trans (be.mono HB6.out.size))
          obtain ⟨q7, hq7⟩ : ∃ q, q = amg [21, 22] a := ⟨_, rfl⟩
          rw [← hq7] at HJ
          rw [← hq7]
          clear hq7 be
          have tail : ¬ (q7 = true ∧ b = 9) → Hid (lnjoin s fr p = if a = 25 ∧ b = 25 then lnodd ((s.take p).drop fr).length ((s.take p).drop fr) false else false) := fun hne => by
            show _ = _
            rw [HJ.out]
            have e : (q7 && b == 9) = false := by
              cases q7
              · rfl
              · rw [Bool.true_and]; exact beq_eq_false_iff_ne.2 (fun h => hne ⟨rfl, h⟩)
            rw [e]; rfl
          have TAIL := hid tail
          clear tail
          by_cases h9 : q7 = true ∧ b = 9
          · obtain ⟨rfl, rfl⟩ := h9
            go_wp2_with fail
            rw [ext_drop]
            refine (first_any (s.drop (p + n)) w7 (HT.out.below HB7.out)).mono ?_
            rintro e w8 ⟨rfl, be⟩
            have HB8 := hid (HB7.out.trans (be.mono HB7.out.size))
            obtain ⟨x, hx⟩ : ∃ x, x = lnfirst (s.drop (p + n)) := ⟨_, rfl⟩
            obtain ⟨m, hm⟩ : ∃ m, m = (dec (s.drop (p + n))).2 := ⟨_, rfl⟩
            rw [← hx] at HJ
            rw [← hx, ← hm]
            clear be hx hm TAIL
            go_wp2
            go_ret
            exact ⟨by rw [HJ.out]; rfl, HB8.out⟩
          · have HJ2 := hid (TAIL.out h9).out
            have hg : q7 = true → (b == 9) = false := fun h => beq_eq_false_iff_ne.2 (fun h' => h9 ⟨h, h'⟩)
            have HG := hid hg
            clear TAIL HJ hg h9
            by_cases h25 : a = 25
            · by_cases k25 : b = 25
              · subst h25 k25
                cases q7 with
                | true =>
                  go_wp2_with fail
                  rw [ext_mid]
                  refine (odd_any ((s.take p).drop fr) w7 (HT.out.below HB7.out) (by have := HTL.out; rw [List.length_drop]; omega)).mono ?_
                  rintro e w8 ⟨rfl, be⟩
                  have HB8 := hid (HB7.out.trans (be.mono HB7.out.size))
                  obtain ⟨v, hv⟩ : ∃ v, v = lnodd ((s.take p).drop fr).length ((s.take p).drop fr) false := ⟨_, rfl⟩
                  rw [← hv] at HJ2
                  rw [← hv]
                  clear be hv
                  go_wp2
                  go_ret
                  exact ⟨by rw [HJ2.out]; rfl, HB8.out⟩
                | false =>
                  go_wp2_with fail
                  rw [ext_mid]
                  refine (odd_any ((s.take p).drop fr) w7 (HT.out.below HB7.out) (by have := HTL.out; rw [List.length_drop]; omega)).mono ?_
                  rintro e w8 ⟨rfl, be⟩
                  have HB8 := hid (HB7.out.trans (be.mono HB7.out.size))
                  obtain ⟨v, hv⟩ : ∃ v, v = lnodd ((s.take p).drop fr).length ((s.take p).drop fr) false := ⟨_, rfl⟩
                  rw [← hv] at HJ2
                  rw [← hv]
                  clear be hv
                  go_wp2
                  go_ret
                  exact ⟨by rw [HJ2.out]; rfl, HB8.out⟩
              · have HJ3 := hid (show lnjoin s fr p = false by rw [HJ2.out, if_neg (fun h => k25 h.2)])
                have b25 : (b == 25) = false := beq_eq_false_iff_ne.2 k25
                subst h25
                clear HJ2 k25
                cases q7 with
                | true =>
                  have g9 := HG.out rfl
                  go_wp2
                  go_ret
                  exact ⟨by rw [HJ3.out]; rfl, HB7.out⟩
                | false =>
                  go_wp2
                  go_ret
                  exact ⟨by rw [HJ3.out]; rfl, HB7.out⟩
            · have HJ3 := hid (show lnjoin s fr p = false by rw [HJ2.out, if_neg (fun h => h25 h.1)])
              have a25 : (a == 25) = false := beq_eq_false_iff_ne.2 h25
              clear HJ2 h25
              cases q7 with
              | true =>
                have g9 := HG.out rfl
                go_wp2
                go_ret
                exact ⟨by rw [HJ3.out]; rfl, HB7.out⟩
              | false =>
                go_wp2
                go_ret
                exact ⟨by rw [HJ3.out]; rfl, HB7.out⟩
end Go.Proofs.YtkophiklkgefnaaDoor.Ln
/- The contracts of cut and isMust (package line). -/
namespace Go.Proofs.YtkophiklkgefnaaDoor.Ln
open Go.RowKit

def lnmust (s : List UInt8) (p : Nat) : Bool := decide (p = s.length) || lnends (lnlast (s.take p))
set_option maxHeartbeats 1000000 in
theorem isMust_any (s : List UInt8) (p : Nat) (w : World) (ht : Tb w) (hl : s.length ≤ 1000000000) (hp : p ≤ s.length) :
    Calls Tryd.prog 53 #[.string ⟨s.toArray⟩, .int .i64 p] w fun e w' => e = .returned (.bool (lnmust s p)) ∧ Below w.heap.size w w' := by
  have HT := hid ht
  have HTL := hid (show (s.take p).length = p by rw [List.length_take]; omega)
  clear ht
  go_enter Tryd.func53, Tryd.ntmps53
  go_wp2_with fail
  rw [ext_take]
  refine (last_any' (s.take p) w HT.out (by have := HTL.out; omega)).mono ?_
  rintro e w1 ⟨rfl, be⟩
  have HB1 := hid be
  obtain ⟨a, ha⟩ : ∃ a, a = lnlast (s.take p) := ⟨_, rfl⟩
  obtain ⟨m, hm⟩ : ∃ m : Nat, m = (decLast (s.take p)).2 := ⟨_, rfl⟩
  have HA := hid ha
  rw [← ha, ← hm]
  clear be ha hm
  by_cases hps : p = s.length
  · have HV := hid (show lnmust s p = true by unfold lnmust; rw [hps]; simp)
    have b1 : ((p : Int) == (s.length : Int)) = true := by rw [hps]; exact beq_self_eq_true _
    have HP := hid hps
    clear hps
    go_wp2
    go_ret
    exact ⟨by rw [HV.out]; rfl, HB1.out⟩
  · have b1 : ((p : Int) == (s.length : Int)) = false := beq_eq_false_iff_ne.2 (by omega)
    have HV := hid (show lnmust s p = lnends a by unfold lnmust; rw [HA.out, decide_eq_false hps, Bool.false_or])
    go_wp2_with fail
    refine (endsLine_any a w1).mono ?_
    rintro e w2 ⟨rfl, be⟩
    have HB2 := hid (HB1.out.trans (be.mono HB1.out.size))
    obtain ⟨v, hv⟩ : ∃ v, v = lnends a := ⟨_, rfl⟩
    rw [← hv] at HV
    rw [← hv]
    clear be hv
    go_wp2
    go_ret
    exact ⟨by rw [HV.out]; rfl, HB2.out⟩
set_option maxHeartbeats 4000000 in
theorem cut_any (s : List UInt8) (fr p : Nat) (w : World) (ht : Tb w) (hl : s.length ≤ 1000000000) (hp : p ≤ s.length) (hf : fr ≤ p) :
    Calls Tryd.prog 52 #[.string ⟨s.toArray⟩, .int .i64 fr, .int .i64 p] w fun e w' => e = .returned (.bool (lncut s fr p)) ∧ Below w.heap.size w w' := by
  have HT := hid ht
  have HTL := hid (show (s.take p).length = p by rw [List.length_take]; omega)
  have HWL := hid (wthL_le [4] _ (s.take p) (Nat.le_refl _))
  clear ht
  go_enter Tryd.func52, Tryd.ntmps52
  go_wp2_with fail
  rw [ext_take]
  refine (last_any' (s.take p) w HT.out (by have := HTL.out; omega)).mono ?_
  rintro e w1 ⟨rfl, be⟩
  have HB1 := hid be
  obtain ⟨a, ha⟩ : ∃ a, a = lnlast (s.take p) := ⟨_, rfl⟩
  obtain ⟨m, hm⟩ : ∃ m : Nat, m = (decLast (s.take p)).2 := ⟨_, rfl⟩
  have HA := hid ha
  rw [← ha, ← hm]
  clear be ha hm
  go_wp2_with fail
  rw [ext_drop]
  refine (first_any (s.drop p) w1 (HT.out.below HB1.out)).mono ?_
  rintro e w2 ⟨rfl, be⟩
  have HB2 := hid (HB1.out.trans (be.mono HB1.out.size))
  obtain ⟨b, hb⟩ : ∃ b, b = lnfirst (s.drop p) := ⟨_, rfl⟩
  obtain ⟨n, hn⟩ : ∃ n, n = (dec (s.drop p)).2 := ⟨_, rfl⟩
  have HBE := hid hb
  rw [← hb, ← hn]
  clear be hb hn
  obtain ⟨t, htt⟩ : ∃ t, t = wthL [4] (s.take p) := ⟨_, rfl⟩
  have HTT := hid htt
  rw [← htt] at HWL
  have HV := hid (show lncut s fr p = if a = 2 ∧ b = 3 then false else if lnends a then true else if lnends b then false else if amg [4, 5] b then false else if lnlast t = 5 then true else if a = 4 then !lnheld (lnbase t) b else !(b == 8) && !lnheld (lnbase t) b && !lnjoin s fr p by rw [HA.out, HBE.out, htt]; rfl)
  clear HA HBE htt
  by_cases h23 : a = 2 ∧ b = 3
  · obtain ⟨rfl, rfl⟩ := h23
    go_wp2
    go_ret
    exact ⟨by rw [HV.out]; rfl, HB2.out⟩
  have H23 := hid h23
  replace HV := hid (HV.out.trans (if_neg h23))
  have g2 : a = 2 → (b == 3) = false := fun h => beq_eq_false_iff_ne.2 (fun h' => h23 ⟨h, h'⟩)
  have G2 := hid g2
  clear h23 g2
  have step : ∀ (X : Prop), (a = 2 → (b == 3) = false → X) → ((a == 2) = false → X) → X := fun X h1 h2 => by
    by_cases h : a = 2
    · exact h1 h (G2.out h)
    · exact h2 (beq_eq_false_iff_ne.2 h)
  have STEP := hid step
  clear step
  refine STEP.out _ (fun e2 b3 => ?_) (fun n2 => ?_)
  · subst e2
    have HV2 := hid (show lncut s fr p = true by rw [HV.out]; rfl)
    clear HV
    go_wp2_with fail
    refine (endsLine_any 2 w2).mono ?_
    rintro e w3 ⟨rfl, be⟩
    have HB3 := hid (HB2.out.trans (be.mono HB2.out.size))
    rw [show lnends 2 = true by decide]
    clear be
    go_wp2
    go_ret
    exact ⟨by rw [HV2.out]; rfl, HB3.out⟩
  · go_wp2_with fail
    refine (endsLine_any a w2).mono ?_
    rintro e w3 ⟨rfl, be⟩
    have HB3 := hid (HB2.out.trans (be.mono HB2.out.size))
    obtain ⟨q3, hq3⟩ : ∃ q, q = lnends a := ⟨_, rfl⟩
    rw [← hq3] at HV
    rw [← hq3]
    clear be hq3 STEP G2 H23
    cases q3 with
    | true =>
      go_wp2
      go_ret
      exact ⟨by rw [HV.out]; rfl, HB3.out⟩
    | false =>
      go_wp2_with fail
      refine (endsLine_any b w3).mono ?_
      rintro e w4 ⟨rfl, be⟩
      have HB4 := hid (HB3.out.trans (be.mono HB3.out.size))
      obtain ⟨q4, hq4⟩ : ∃ q, q = lnends b := ⟨_, rfl⟩
      rw [← hq4] at HV
      rw [← hq4]
      clear be hq4
      cases q4 with
      | true =>
        go_wp2
        go_ret
        exact ⟨by rw [HV.out]; rfl, HB4.out⟩
      | false =>
        go_wp2_with fail
        refine (isAny_lit b [4, 5] w4 (by decide)).mono ?_
        rintro e w5 ⟨rfl, be⟩
        have HB5 := hid (HB4.out.trans (be.mono HB4.out.size))
        obtain ⟨q5, hq5⟩ : ∃ q, q = amg [4, 5] b := ⟨_, rfl⟩
        rw [← hq5] at HV
        rw [← hq5]
        clear be hq5
        cases q5 with
        | true =>
          go_wp2
          go_ret
          exact ⟨by rw [HV.out]; rfl, HB5.out⟩
        | false =>
          have HV := hid (show lncut s fr p = if lnlast t = 5 then true else if a = 4 then !lnheld (lnbase t) b else !(b == 8) && !lnheld (lnbase t) b && !lnjoin s fr p from HV.out)
          go_wp2_with fail
          rw [ext_take]
          refine (without_lit (s.take p) [4] w5 (HT.out.below HB5.out) (by have := HTL.out; omega) (by decide) (by decide)).mono ?_
          rintro e w6 ⟨rfl, be⟩
          have HB6 := hid (HB5.out.trans (be.mono HB5.out.size))
          rw [← HTT.out]
          clear be HTT
          have htl : t.length ≤ 1000000000 := by have := HWL.out; have := HTL.out; omega
          go_wp2_with fail
          refine (last_any' t w6 (HT.out.below HB6.out) htl).mono ?_
          rintro e w7 ⟨rfl, be⟩
          have HB7 := hid (HB6.out.trans (be.mono HB6.out.size))
          obtain ⟨x, hx⟩ : ∃ x, x = lnlast t := ⟨_, rfl⟩
          obtain ⟨y, hy⟩ : ∃ y : Nat, y = (decLast t).2 := ⟨_, rfl⟩
          rw [← hx] at HV
          rw [← hx, ← hy]
          clear be hx hy
          by_cases h5 : x = 5
          · subst h5
            go_wp2
            go_ret
            exact ⟨by rw [HV.out]; rfl, HB7.out⟩
          · have b5 : (x == 5) = false := beq_eq_false_iff_ne.2 h5
            have HV := hid (HV.out.trans (if_neg h5))
            clear h5
            by_cases h4 : a = 4
            · subst h4
              have HV := hid (HV.out.trans (if_pos rfl))
              go_wp2_with fail
              refine (base_any t w7 (HT.out.below HB7.out) htl).mono ?_
              rintro e w8 ⟨rfl, be⟩
              have HB8 := hid (HB7.out.trans (be.mono HB7.out.size))
              obtain ⟨z, hz⟩ : ∃ z, z = lnbase t := ⟨_, rfl⟩
              rw [← hz] at HV
              rw [← hz]
              clear be hz
              go_wp2_with fail
              refine (held_any z b w8).mono ?_
              rintro e w9 ⟨rfl, be⟩
              have HB9 := hid (HB8.out.trans (be.mono HB8.out.size))
              obtain ⟨v, hv⟩ : ∃ v, v = lnheld z b := ⟨_, rfl⟩
              rw [← hv] at HV
              rw [← hv]
              clear be hv
              go_wp2
              go_ret
              exact ⟨by rw [HV.out]; rfl, HB9.out⟩
            · have b4 : (a == 4) = false := beq_eq_false_iff_ne.2 h4
              have HV := hid (HV.out.trans (if_neg h4))
              clear h4
              by_cases h8 : b = 8
              · subst h8
                go_wp2
                go_ret
                exact ⟨by rw [HV.out]; rfl, HB7.out⟩
              · have b8 : (b == 8) = false := beq_eq_false_iff_ne.2 h8
                have HV := hid (show lncut s fr p = (!lnheld (lnbase t) b && !lnjoin s fr p) by rw [HV.out, b8]; rfl)
                have n8 : (b != 8) = true := by simp [h8]
                clear h8
                go_wp2_with fail
                refine (base_any t w7 (HT.out.below HB7.out) htl).mono ?_
                rintro e w8 ⟨rfl, be⟩
                have HB8 := hid (HB7.out.trans (be.mono HB7.out.size))
                obtain ⟨z, hz⟩ : ∃ z, z = lnbase t := ⟨_, rfl⟩
                rw [← hz] at HV
                rw [← hz]
                clear be hz
                go_wp2_with fail
                refine (held_any z b w8).mono ?_
                rintro e w9 ⟨rfl, be⟩
                have HB9 := hid (HB8.out.trans (be.mono HB8.out.size))
                obtain ⟨v, hv⟩ : ∃ v, v = lnheld z b := ⟨_, rfl⟩
                rw [← hv] at HV
                rw [← hv]
                clear be hv
                cases v with
                | true =>
                  go_wp2
                  go_ret
                  exact ⟨by rw [HV.out]; rfl, HB9.out⟩
                | false =>
                  go_wp2_with fail
                  refine (joined_any s fr p w9 (HT.out.below HB9.out) hl hp hf).mono ?_
                  rintro e w10 ⟨rfl, be⟩
                  have HB10 := hid (HB9.out.trans (be.mono HB9.out.size))
                  obtain ⟨u, hu⟩ : ∃ u, u = lnjoin s fr p := ⟨_, rfl⟩
                  rw [← hu] at HV
                  rw [← hu]
                  clear be hu
                  go_wp2
                  go_ret
                  exact ⟨by rw [HV.out]; rfl, HB10.out⟩
end Go.Proofs.YtkophiklkgefnaaDoor.Ln
