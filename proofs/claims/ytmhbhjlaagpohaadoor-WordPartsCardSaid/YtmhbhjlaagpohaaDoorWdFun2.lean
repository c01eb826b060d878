/- The contracts of joined and cut (package word). -/
import Derived.Test.YtmhbhjlaagpohaaDoorWdFun1
import Derived.Test.YtmhbhjlaagpohaaDoorWdBri
namespace Go.Proofs.YtmhbhjlaagpohaaDoor
open Go.RowKit

theorem wdec_le (l : List UInt8) : (dec l).2 ≤ l.length := by
  by_cases h : l = []
  · subst h; exact Nat.le_refl _
  · exact dec_le l h
set_option maxHeartbeats 2000000 in
theorem wjoined_any (s : List UInt8) (p : Nat) (w : World) (ht : TbW w) (hl : s.length ≤ 1000000000) (hp : p ≤ s.length) :
    Calls Tryd.prog 100 #[.string ⟨s.toArray⟩, .int .i64 p] w fun e w' => e = .returned (.bool (wjoin s p)) ∧ Below w.heap.size w w' := by
  have HT := hid ht
  have HW := hid (wdec_le (s.drop p))
  have hdl : (s.drop p).length = s.length - p := List.length_drop
  have htl : (s.take p).length = p := by rw [List.length_take]; omega
  have HBL := hid (wbs_le _ (s.take p) (Nat.le_refl _))
  have HDL := hid hdl
  have HTL := hid htl
  clear ht hdl htl
  go_enter Tryd.func100, Tryd.ntmps100
  go_wp2_with fail
  rw [wtake]
  refine (wbase_any (s.take p) w HT.out (by have := HTL.out; omega)).mono ?_
  rintro e w1 ⟨rfl, be⟩
  have HB1 := hid be
  obtain ⟨a, ha⟩ : ∃ a, a = (wbs (s.take p)).1 := ⟨_, rfl⟩
  obtain ⟨f, hf⟩ : ∃ f, f = (wbs (s.take p)).2 := ⟨_, rfl⟩
  have HA := hid ha
  have HF := hid hf
  have hfl : f ≤ s.length := by have h1 := HBL.out; have h2 := HTL.out; rw [hf]; omega
  rw [← ha, ← hf]
  clear be ha hf
  go_wp2_with fail
  rw [ext_drop]
  refine (wfirst_any (s.drop p) w1 (HT.out.below HB1.out)).mono ?_
  rintro e w2 ⟨rfl, be⟩
  have HB2 := hid (HB1.out.trans (be.mono HB1.out.size))
  obtain ⟨b, hb⟩ : ∃ b, b = wfirst (s.drop p) := ⟨_, rfl⟩
  obtain ⟨n, hn⟩ : ∃ n, n = (dec (s.drop p)).2 := ⟨_, rfl⟩
  have HBE := hid hb
  have HN := hid hn
  have hpn : p + n ≤ s.length := by have := HW.out; have := HDL.out; omega
  rw [← hb, ← hn]
  clear be hb hn
  have HJ := hid (show wjoin s p = if wtog a b then true else if a == 7 && b == 7 then wod (s.take p) false else if wmid b then wbri a b (won (s.drop (p + n))) else if wmid a then wbri (wbs (s.take f)).1 a b else false by rw [HA.out, HBE.out, HN.out, HF.out]; rfl)
  clear HA HBE HN HW HF HBL
  go_wp2_with fail
  refine (wtog_any a b w2).mono ?_
  rintro e w3 ⟨rfl, hw3⟩
  obtain rfl := hw3.symm
  clear hw3
  obtain ⟨q3, hq3⟩ : ∃ q, q = wtog a b := ⟨_, rfl⟩
  rw [← hq3] at HJ
  rw [← hq3]
  clear hq3
  cases q3 with
  | true =>
    go_wp2
    go_ret
    exact ⟨by rw [HJ.out]; rfl, HB2.out⟩
  | false =>
    by_cases h77 : a = 7 ∧ b = 7
    · obtain ⟨rfl, rfl⟩ := h77
      go_wp2_with fail
      rw [wtake]
      refine (wodd_any (s.take p) w2 (HT.out.below HB2.out) (by have := HTL.out; omega)).mono ?_
      rintro e w4 ⟨rfl, be⟩
      have HB4 := hid (HB2.out.trans (be.mono HB2.out.size))
      obtain ⟨v, hv⟩ : ∃ v, v = wod (s.take p) false := ⟨_, rfl⟩
      rw [← hv] at HJ
      rw [← hv]
      clear be hv
      go_wp2
      go_ret
      exact ⟨by rw [HJ.out]; rfl, HB4.out⟩
    have h7f : (a == 7 && b == 7) = false := by
      by_cases h : a = 7
      · rw [beq_eq_false_iff_ne.2 (fun h' => h77 ⟨h, h'⟩), Bool.and_false]
      · rw [beq_eq_false_iff_ne.2 h, Bool.false_and]
    have HJ2 := hid (show wjoin s p = if wmid b then wbri a b (won (s.drop (p + n))) else if wmid a then wbri (wbs (s.take f)).1 a b else false by rw [HJ.out, h7f]; rfl)
    have H7 := hid (show ∀ X : Prop, (a = 7 → (b == 7) = false → X) → ((a == 7) = false → X) → X from fun X k1 k2 => by
      by_cases h : a = 7
      · exact k1 h (beq_eq_false_iff_ne.2 (fun h' => h77 ⟨h, h'⟩))
      · exact k2 (beq_eq_false_iff_ne.2 h))
    clear HJ h7f h77
    refine H7.out _ (fun e7 b7 => ?_) (fun a7 => ?_)
    · subst e7
      clear H7
      go_wp2_with fail
      refine (wmid_any b w2).mono ?_
      rintro e w3 ⟨rfl, hw3⟩
      obtain rfl := hw3.symm
      clear hw3
      obtain ⟨q4, hq4⟩ : ∃ q, q = wmid b := ⟨_, rfl⟩
      rw [← hq4] at HJ2
      rw [← hq4]
      clear hq4
      cases q4 with
      | true =>
        go_wp2_with fail
        rw [ext_drop]
        refine (wonward_any (s.drop (p + n)) w2).mono ?_
        rintro e w4 ⟨rfl, be⟩
        have HB4 := hid (HB2.out.trans (be.mono HB2.out.size))
        obtain ⟨x, hx⟩ : ∃ x, x = won (s.drop (p + n)) := ⟨_, rfl⟩
        rw [← hx] at HJ2
        rw [← hx]
        clear be hx
        go_wp2_with fail
        refine (wbri_any 7 b x w4).mono ?_
        rintro e w5 ⟨rfl, hw5⟩
        obtain rfl := hw5.symm
        clear hw5
        obtain ⟨v, hv⟩ : ∃ v, v = wbri 7 b x := ⟨_, rfl⟩
        rw [← hv] at HJ2
        rw [← hv]
        clear hv
        go_wp2
        go_ret
        exact ⟨by rw [HJ2.out]; rfl, HB4.out⟩
      | false =>
        go_wp2_with fail
        refine (wmid_any 7 w2).mono ?_
        rintro e w3 ⟨rfl, hw3⟩
        obtain rfl := hw3.symm
        clear hw3
        rw [show wmid 7 = false by decide]
        have HJ3 := hid (show wjoin s p = false from HJ2.out)
        go_wp2
        go_ret
        exact ⟨by rw [HJ3.out]; rfl, HB2.out⟩
    · clear H7
      go_wp2_with fail
      refine (wmid_any b w2).mono ?_
      rintro e w3 ⟨rfl, hw3⟩
      obtain rfl := hw3.symm
      clear hw3
      obtain ⟨q4, hq4⟩ : ∃ q, q = wmid b := ⟨_, rfl⟩
      rw [← hq4] at HJ2
      rw [← hq4]
      clear hq4
      cases q4 with
      | true =>
        go_wp2_with fail
        rw [ext_drop]
        refine (wonward_any (s.drop (p + n)) w2).mono ?_
        rintro e w4 ⟨rfl, be⟩
        have HB4 := hid (HB2.out.trans (be.mono HB2.out.size))
        obtain ⟨x, hx⟩ : ∃ x, x = won (s.drop (p + n)) := ⟨_, rfl⟩
        rw [← hx] at HJ2
        rw [← hx]
        clear be hx
        go_wp2_with fail
        refine (wbri_any a b x w4).mono ?_
        rintro e w5 ⟨rfl, hw5⟩
        obtain rfl := hw5.symm
        clear hw5
        obtain ⟨v, hv⟩ : ∃ v, v = wbri a b x := ⟨_, rfl⟩
        rw [← hv] at HJ2
        rw [← hv]
        clear hv
        go_wp2
        go_ret
        exact ⟨by rw [HJ2.out]; rfl, HB4.out⟩
      | false =>
        go_wp2_with fail
        refine (wmid_any a w2).mono ?_
        rintro e w3 ⟨rfl, hw3⟩
        obtain rfl := hw3.symm
        clear hw3
        obtain ⟨q5, hq5⟩ : ∃ q, q = wmid a := ⟨_, rfl⟩
        rw [← hq5] at HJ2
        rw [← hq5]
        clear hq5
        cases q5 with
        | true =>
          go_wp2_with fail
          rw [wtake]
          refine (wbase_any (s.take f) w2 (HT.out.below HB2.out) (by rw [List.length_take]; omega)).mono ?_
          rintro e w4 ⟨rfl, be⟩
          have HB4 := hid (HB2.out.trans (be.mono HB2.out.size))
          obtain ⟨x, hx⟩ : ∃ x, x = (wbs (s.take f)).1 := ⟨_, rfl⟩
          obtain ⟨y, hy⟩ : ∃ y, y = (wbs (s.take f)).2 := ⟨_, rfl⟩
          rw [← hx] at HJ2
          rw [← hx, ← hy]
          clear be hx hy
          go_wp2_with fail
          refine (wbri_any x a b w4).mono ?_
          rintro e w5 ⟨rfl, hw5⟩
          obtain rfl := hw5.symm
          clear hw5
          obtain ⟨v, hv⟩ : ∃ v, v = wbri x a b := ⟨_, rfl⟩
          rw [← hv] at HJ2
          rw [← hv]
          clear hv
          go_wp2
          go_ret
          exact ⟨by rw [HJ2.out]; rfl, HB4.out⟩
        | false =>
          go_wp2
          go_ret
          exact ⟨by rw [HJ2.out]; rfl, HB2.out⟩
theorem two_no (a b x y : Int) (h : (a == x && b == y) = false) (X : Prop) (k1 : a = x → (b == y) = false → X) (k2 : (a == x) = false → X) : X := by
  by_cases e : a = x
  · refine k1 e ?_
    rw [e, beq_self_eq_true, Bool.true_and] at h
    exact h
  · exact k2 (beq_eq_false_iff_ne.2 e)
/-- Behind the tests of two classes. -/
def wcutT (s : List UInt8) (p : Nat) (b : Int) : Bool := if wclings b then false else !wjoin s p
set_option maxHeartbeats 4000000 in
theorem wcut_any (s : List UInt8) (p : Nat) (w : World) (ht : TbW w) (hl : s.length ≤ 1000000000) (hp : p ≤ s.length) :
    Calls Tryd.prog 73 #[.string ⟨s.toArray⟩, .int .i64 p] w fun e w' => e = .returned (.bool (wcut s p)) ∧ Below w.heap.size w w' := by
  have HT := hid ht
  have HTL := hid (show (s.take p).length = p by rw [List.length_take]; omega)
  clear ht
  go_enter Tryd.func73, Tryd.ntmps73
  go_wp2_with fail
  rw [wtake]
  refine (wlast_any (s.take p) w HT.out (by have := HTL.out; omega)).mono ?_
  rintro e w1 ⟨rfl, be⟩
  have HB1 := hid be
  obtain ⟨a, ha⟩ : ∃ a, a = wlast (s.take p) := ⟨_, rfl⟩
  obtain ⟨m, hm⟩ : ∃ m : Nat, m = (decLast (s.take p)).2 := ⟨_, rfl⟩
  have HA := hid ha
  rw [← ha, ← hm]
  clear be ha hm
  go_wp2_with fail
  rw [ext_drop]
  refine (wfirst_any (s.drop p) w1 (HT.out.below HB1.out)).mono ?_
  rintro e w2 ⟨rfl, be⟩
  have HB2 := hid (HB1.out.trans (be.mono HB1.out.size))
  obtain ⟨b, hb⟩ : ∃ b, b = wfirst (s.drop p) := ⟨_, rfl⟩
  obtain ⟨n, hn⟩ : ∃ n, n = (dec (s.drop p)).2 := ⟨_, rfl⟩
  have HBE := hid hb
  rw [← hb, ← hn]
  clear be hb hn
  have HV := hid (show wcut s p = if a == 1 && b == 2 then false else if wends a then true else if wends b then true else if a == 5 && b == 19 then false else if a == 18 && b == 18 then false else wcutT s p b by rw [HA.out, HBE.out]; rfl)
  clear HA HBE
  by_cases h12 : a = 1 ∧ b = 2
  · obtain ⟨rfl, rfl⟩ := h12
    go_wp2
    go_ret
    exact ⟨by rw [HV.out]; rfl, HB2.out⟩
  by_cases hea : wends a = true
  · have HV2 := hid (show wcut s p = true by
      rw [HV.out, if_neg (by intro h; rw [Bool.and_eq_true] at h; exact h12 ⟨eq_of_beq h.1, eq_of_beq h.2⟩), if_pos hea])
    have HE := hid hea
    have hf : (a == 1 && b == 2) = false := by
      rw [Bool.eq_false_iff]; intro h; rw [Bool.and_eq_true] at h; exact h12 ⟨eq_of_beq h.1, eq_of_beq h.2⟩
    clear h12 HV hea
    refine two_no a b 1 2 hf _ (fun e1 b2 => ?_) (fun a1 => ?_)
    · subst e1
      clear hf
      go_wp2_with fail
      refine (wends_any 1 w2).mono ?_
      rintro e w3 ⟨rfl, hw3⟩
      obtain rfl := hw3.symm
      clear hw3
      rw [show wends 1 = true by decide]
      go_wp2
      go_ret
      exact ⟨by rw [HV2.out]; rfl, HB2.out⟩
    · clear hf
      go_wp2_with fail
      refine (wends_any a w2).mono ?_
      rintro e w3 ⟨rfl, hw3⟩
      obtain rfl := hw3.symm
      clear hw3
      rw [HE.out]
      go_wp2
      go_ret
      exact ⟨by rw [HV2.out]; rfl, HB2.out⟩
  have hea' : wends a = false := Bool.eq_false_iff.2 hea
  have a1 : (a == 1) = false := by
    rw [Bool.eq_false_iff]; intro h; rw [eq_of_beq h] at hea'; cases hea'
  have HV2 := hid (show wcut s p = if wends b then true else if a == 5 && b == 19 then false else if a == 18 && b == 18 then false else wcutT s p b by rw [HV.out, a1, hea']; rfl)
  have HEA := hid hea'
  clear HV h12 hea hea'
  go_wp2_with fail
  refine (wends_any a w2).mono ?_
  rintro e w3 ⟨rfl, hw3⟩
  obtain rfl := hw3.symm
  clear hw3
  rw [HEA.out]
  go_wp2_with fail
  refine (wends_any b w2).mono ?_
  rintro e w3 ⟨rfl, hw3⟩
  obtain rfl := hw3.symm
  clear hw3
  obtain ⟨q4, hq4⟩ : ∃ q, q = wends b := ⟨_, rfl⟩
  rw [← hq4] at HV2
  rw [← hq4]
  clear hq4
  cases q4 with
  | true =>
    go_wp2
    go_ret
    exact ⟨by rw [HV2.out]; rfl, HB2.out⟩
  | false =>
    by_cases h5 : a = 5 ∧ b = 19
    · obtain ⟨rfl, rfl⟩ := h5
      go_wp2
      go_ret
      exact ⟨by rw [HV2.out]; rfl, HB2.out⟩
    have f5 : (a == 5 && b == 19) = false := by
      rw [Bool.eq_false_iff]; intro h; rw [Bool.and_eq_true] at h; exact h5 ⟨eq_of_beq h.1, eq_of_beq h.2⟩
    by_cases h8 : a = 18 ∧ b = 18
    · obtain ⟨rfl, rfl⟩ := h8
      go_wp2
      go_ret
      exact ⟨by rw [HV2.out]; rfl, HB2.out⟩
    have f8 : (a == 18 && b == 18) = false := by
      rw [Bool.eq_false_iff]; intro h; rw [Bool.and_eq_true] at h; exact h8 ⟨eq_of_beq h.1, eq_of_beq h.2⟩
    have HV3 := hid (show wcut s p = if wclings b then false else !wjoin s p by rw [HV2.out, f5, f8]; rfl)
    clear HV2 h5 h8
    refine two_no a b 5 19 f5 _ (fun e5 b9 => ?_) (fun a5 => ?_)
    · subst e5
      clear f5 f8
      go_wp2_with fail
      refine (wclings_any b w2).mono ?_
      rintro e w3 ⟨rfl, hw3⟩
      obtain rfl := hw3.symm
      clear hw3
      obtain ⟨q5, hq5⟩ : ∃ q, q = wclings b := ⟨_, rfl⟩
      rw [← hq5] at HV3
      rw [← hq5]
      clear hq5
      cases q5 with
      | true =>
        go_wp2
        go_ret
        exact ⟨by rw [HV3.out]; rfl, HB2.out⟩
      | false =>
        go_wp2_with fail
        refine (wjoined_any s p w2 (HT.out.below HB2.out) hl hp).mono ?_
        rintro e w4 ⟨rfl, be⟩
        have HB4 := hid (HB2.out.trans (be.mono HB2.out.size))
        obtain ⟨v, hv⟩ : ∃ v, v = wjoin s p := ⟨_, rfl⟩
        rw [← hv] at HV3
        rw [← hv]
        clear be hv
        go_wp2
        go_ret
        exact ⟨by rw [HV3.out]; rfl, HB4.out⟩
    · clear f5
      refine two_no a b 18 18 f8 _ (fun e8 b18 => ?_) (fun a8 => ?_)
      · subst e8
        clear f8
        go_wp2_with fail
        refine (wclings_any b w2).mono ?_
        rintro e w3 ⟨rfl, hw3⟩
        obtain rfl := hw3.symm
        clear hw3
        obtain ⟨q5, hq5⟩ : ∃ q, q = wclings b := ⟨_, rfl⟩
        rw [← hq5] at HV3
        rw [← hq5]
        clear hq5
        cases q5 with
        | true =>
          go_wp2
          go_ret
          exact ⟨by rw [HV3.out]; rfl, HB2.out⟩
        | false =>
          go_wp2_with fail
          refine (wjoined_any s p w2 (HT.out.below HB2.out) hl hp).mono ?_
          rintro e w4 ⟨rfl, be⟩
          have HB4 := hid (HB2.out.trans (be.mono HB2.out.size))
          obtain ⟨v, hv⟩ : ∃ v, v = wjoin s p := ⟨_, rfl⟩
          rw [← hv] at HV3
          rw [← hv]
          clear be hv
          go_wp2
          go_ret
          exact ⟨by rw [HV3.out]; rfl, HB4.out⟩
      · clear f8
        go_wp2_with fail
        refine (wclings_any b w2).mono ?_
        rintro e w3 ⟨rfl, hw3⟩
        obtain rfl := hw3.symm
        clear hw3
        obtain ⟨q5, hq5⟩ : ∃ q, q = wclings b := ⟨_, rfl⟩
        rw [← hq5] at HV3
        rw [← hq5]
        clear hq5
        cases q5 with
        | true =>
          go_wp2
          go_ret
          exact ⟨by rw [HV3.out]; rfl, HB2.out⟩
        | false =>
          go_wp2_with fail
          refine (wjoined_any s p w2 (HT.out.below HB2.out) hl hp).mono ?_
          rintro e w4 ⟨rfl, be⟩
          have HB4 := hid (HB2.out.trans (be.mono HB2.out.size))
          obtain ⟨v, hv⟩ : ∃ v, v = wjoin s p := ⟨_, rfl⟩
          rw [← hv] at HV3
          rw [← hv]
          clear be hv
          go_wp2
          go_ret
          exact ⟨by rw [HV3.out]; rfl, HB4.out⟩
end Go.Proofs.YtmhbhjlaagpohaaDoor
