/- The contracts of joined, cut and isMust (package line). -/
import Derived.Test.YtmhbhjlaagpohaaDoorLnFun3
namespace Go.Proofs.YtmhbhjlaagpohaaDoor
open Go.RowKit

theorem ext_mid (l : List UInt8) (a b : Nat) : (⟨l.toArray⟩ : ByteArray).extract a b = ⟨((l.take b).drop a).toArray⟩ := by
  apply ByteArray.ext
  simp [ByteArray.data_extract, List.drop_take]
theorem dec_le' (l : List UInt8) : (dec l).2 ≤ l.length := by
  by_cases h : l = []
  · subst h; exact Nat.le_refl _
  · exact dec_le l h
set_option maxHeartbeats 2000000 in
theorem joined_any (s : List UInt8) (fr p : Nat) (w : World) (ht : Tb w) (hl : s.length ≤ 1000000000) (hp : p ≤ s.length) (hf : fr ≤ p) :
    Calls Tryd.prog 107 #[.string ⟨s.toArray⟩, .int .i64 fr, .int .i64 p] w fun e w' => e = .returned (.bool (lnjoin s fr p)) ∧ Below w.heap.size w w' := by
  have HT := hid ht
  have HW := hid (dec_le' (s.drop p))
  have hdl : (s.drop p).length = s.length - p := List.length_drop
  have htl : (s.take p).length = p := by rw [List.length_take]; omega
  have HDL := hid hdl
  have HTL := hid htl
  clear ht hdl htl
  go_enter Tryd.func107, Tryd.ntmps107
  go_wp2_with fail
  rw [ext_take]
  refine (base_any (s.take p) w HT.out (by have := HTL.out; omega)).mono ?_
  rintro e w1 ⟨rfl, be⟩
  have HB1 := hid be
  obtain ⟨a, ha⟩ : ∃ a, a = lnbase (s.take p) := ⟨_, rfl⟩
  have HA := hid ha
  rw [← ha]
  clear be ha
  go_wp2_with fail
  rw [ext_drop]
  refine (first_any (s.drop p) w1 (HT.out.below HB1.out)).mono ?_
  rintro e w2 ⟨rfl, be⟩
  have HB2 := hid (HB1.out.trans (be.mono HB1.out.size))
  obtain ⟨b, hb⟩ : ∃ b, b = lnfirst (s.drop p) := ⟨_, rfl⟩
  obtain ⟨n, hn⟩ : ∃ n, n = (dec (s.drop p)).2 := ⟨_, rfl⟩
  have HBE := hid hb
  have HN := hid hn
  have hpn : p + n ≤ s.length := by have := HW.out; have := HDL.out; omega
  rw [← hb, ← hn]
  clear be hb hn
  have HJ := hid (show lnjoin s fr p = if lnglued a b then true else if amg [12, 17, 16, 24, 19] b then true else if lntog a b then true else if amg [21, 22] b then lnnum (s.take p) else if amg [21, 22] a && b == 9 then lnfirst (s.drop (p + n)) == 20 else if a = 25 ∧ b = 25 then lnodd ((s.take p).drop fr).length ((s.take p).drop fr) false else false by rw [HA.out, HBE.out, HN.out]; rfl)
  clear HA HBE HN HW
  go_wp2_with fail
  refine (glued_any a b w2).mono ?_
  rintro e w3 ⟨rfl, be⟩
  have HB3 := hid (HB2.out.trans (be.mono HB2.out.size))
  obtain ⟨q3, hq3⟩ : ∃ q, q = lnglued a b := ⟨_, rfl⟩
  rw [← hq3] at HJ
  rw [← hq3]
  clear hq3 be
  cases q3 with
  | true =>
    go_wp2
    go_ret
    exact ⟨by rw [HJ.out]; rfl, HB3.out⟩
  | false =>
    go_wp2_with fail
    refine (isAny_lit b [12, 17, 16, 24, 19] w3 (by decide)).mono ?_
    rintro e w4 ⟨rfl, be⟩
    have HB4 := hid (HB3.out.trans (be.mono HB3.out.size))
    obtain ⟨q4, hq4⟩ : ∃ q, q = amg [12, 17, 16, 24, 19] b := ⟨_, rfl⟩
    rw [← hq4] at HJ
    rw [← hq4]
    clear hq4 be
    cases q4 with
    | true =>
      go_wp2
      go_ret
      exact ⟨by rw [HJ.out]; rfl, HB4.out⟩
    | false =>
      go_wp2_with fail
      refine (together_any a b w4).mono ?_
      rintro e w5 ⟨rfl, be⟩
      have HB5 := hid (HB4.out.trans (be.mono HB4.out.size))
      obtain ⟨q5, hq5⟩ : ∃ q, q = lntog a b := ⟨_, rfl⟩
      rw [← hq5] at HJ
      rw [← hq5]
      clear hq5 be
      cases q5 with
      | true =>
        go_wp2
        go_ret
        exact ⟨by rw [HJ.out]; rfl, HB5.out⟩
      | false =>
        go_wp2_with fail
        refine (isAny_lit b [21, 22] w5 (by decide)).mono ?_
        rintro e w6 ⟨rfl, be⟩
        have HB6 := hid (HB5.out.trans (be.mono HB5.out.size))
        obtain ⟨q6, hq6⟩ : ∃ q, q = amg [21, 22] b := ⟨_, rfl⟩
        rw [← hq6] at HJ
        rw [← hq6]
        clear hq6 be
        cases q6 with
        | true =>
          go_wp2_with fail
          rw [ext_take]
          refine (number_any (s.take p) w6 (HT.out.below HB6.out) (by have := HTL.out; omega)).mono ?_
          rintro e w7 ⟨rfl, be⟩
          have HB7 := hid (HB6.out.trans (be.mono HB6.out.size))
          clear be
          obtain ⟨v, hv⟩ : ∃ v, v = lnnum (s.take p) := ⟨_, rfl⟩
          rw [← hv] at HJ
          rw [← hv]
          clear hv
          go_wp2
          go_ret
          exact ⟨by rw [HJ.out]; rfl, HB7.out⟩
        | false =>
          go_wp2_with fail
          refine (isAny_lit a [21, 22] w6 (by decide)).mono ?_
          rintro e w7 ⟨rfl, be⟩
          have HB7 := hid (HB6.out.trans (be.mono HB6.out.size))
          obtain ⟨q7, hq7⟩ : ∃ q, q = amg [21, 22] a := ⟨_, rfl⟩
          rw [← hq7] at HJ
          rw [← hq7]
          clear hq7 be
          have tail : ¬ (q7 = true ∧ b = 9) → Hid (lnjoin s fr p = if a = 25 ∧ b = 25 then lnodd ((s.take p).drop fr).length ((s.take p).drop fr) false else false) := fun hne => by
            show _ = _
            rw [HJ.out]
            have e : (q7 && b == 9) = false := by
              cases q7
              · rfl
              · rw [Bool.true_and]; exact beq_eq_false_iff_ne.2 (fun h => hne ⟨rfl, h⟩)
            rw [e]; rfl
          have TAIL := hid tail
          clear tail
          by_cases h9 : q7 = true ∧ b = 9
          · obtain ⟨rfl, rfl⟩ := h9
            go_wp2_with fail
            rw [ext_drop]
            refine (first_any (s.drop (p + n)) w7 (HT.out.below HB7.out)).mono ?_
            rintro e w8 ⟨rfl, be⟩
            have HB8 := hid (HB7.out.trans (be.mono HB7.out.size))
            obtain ⟨x, hx⟩ : ∃ x, x = lnfirst (s.drop (p + n)) := ⟨_, rfl⟩
            obtain ⟨m, hm⟩ : ∃ m, m = (dec (s.drop (p + n))).2 := ⟨_, rfl⟩
            rw [← hx] at HJ
            rw [← hx, ← hm]
            clear be hx hm TAIL
            go_wp2
            go_ret
            exact ⟨by rw [HJ.out]; rfl, HB8.out⟩
          · have HJ2 := hid (TAIL.out h9).out
            have hg : q7 = true → (b == 9) = false := fun h => beq_eq_false_iff_ne.2 (fun h' => h9 ⟨h, h'⟩)
            have HG := hid hg
            clear TAIL HJ hg h9
            by_cases h25 : a = 25
            · by_cases k25 : b = 25
              · subst h25 k25
                cases q7 with
                | true =>
                  go_wp2_with fail
                  rw [ext_mid]
                  refine (odd_any ((s.take p).drop fr) w7 (HT.out.below HB7.out) (by have := HTL.out; rw [List.length_drop]; omega)).mono ?_
                  rintro e w8 ⟨rfl, be⟩
                  have HB8 := hid (HB7.out.trans (be.mono HB7.out.size))
                  obtain ⟨v, hv⟩ : ∃ v, v = lnodd ((s.take p).drop fr).length ((s.take p).drop fr) false := ⟨_, rfl⟩
                  rw [← hv] at HJ2
                  rw [← hv]
                  clear be hv
                  go_wp2
                  go_ret
                  exact ⟨by rw [HJ2.out]; rfl, HB8.out⟩
                | false =>
                  go_wp2_with fail
                  rw [ext_mid]
                  refine (odd_any ((s.take p).drop fr) w7 (HT.out.below HB7.out) (by have := HTL.out; rw [List.length_drop]; omega)).mono ?_
                  rintro e w8 ⟨rfl, be⟩
                  have HB8 := hid (HB7.out.trans (be.mono HB7.out.size))
                  obtain ⟨v, hv⟩ : ∃ v, v = lnodd ((s.take p).drop fr).length ((s.take p).drop fr) false := ⟨_, rfl⟩
                  rw [← hv] at HJ2
                  rw [← hv]
                  clear be hv
                  go_wp2
                  go_ret
                  exact ⟨by rw [HJ2.out]; rfl, HB8.out⟩
              · have HJ3 := hid (show lnjoin s fr p = false by rw [HJ2.out, if_neg (fun h => k25 h.2)])
                have b25 : (b == 25) = false := beq_eq_false_iff_ne.2 k25
                subst h25
                clear HJ2 k25
                cases q7 with
                | true =>
                  have g9 := HG.out rfl
                  go_wp2
                  go_ret
                  exact ⟨by rw [HJ3.out]; rfl, HB7.out⟩
                | false =>
                  go_wp2
                  go_ret
                  exact ⟨by rw [HJ3.out]; rfl, HB7.out⟩
            · have HJ3 := hid (show lnjoin s fr p = false by rw [HJ2.out, if_neg (fun h => h25 h.1)])
              have a25 : (a == 25) = false := beq_eq_false_iff_ne.2 h25
              clear HJ2 h25
              cases q7 with
              | true =>
                have g9 := HG.out rfl
                go_wp2
                go_ret
                exact ⟨by rw [HJ3.out]; rfl, HB7.out⟩
              | false =>
                go_wp2
                go_ret
                exact ⟨by rw [HJ3.out]; rfl, HB7.out⟩
end Go.Proofs.YtmhbhjlaagpohaaDoor
