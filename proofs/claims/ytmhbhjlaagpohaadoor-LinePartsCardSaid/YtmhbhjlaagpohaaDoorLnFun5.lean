/- The contracts of cut and isMust (package line). -/
import Derived.Test.YtmhbhjlaagpohaaDoorLnFun4
namespace Go.Proofs.YtmhbhjlaagpohaaDoor
open Go.RowKit

def lnmust (s : List UInt8) (p : Nat) : Bool := decide (p = s.length) || lnends (lnlast (s.take p))
set_option maxHeartbeats 1000000 in
theorem isMust_any (s : List UInt8) (p : Nat) (w : World) (ht : Tb w) (hl : s.length ≤ 1000000000) (hp : p ≤ s.length) :
    Calls Tryd.prog 76 #[.string ⟨s.toArray⟩, .int .i64 p] w fun e w' => e = .returned (.bool (lnmust s p)) ∧ Below w.heap.size w w' := by
  have HT := hid ht
  have HTL := hid (show (s.take p).length = p by rw [List.length_take]; omega)
  clear ht
  go_enter Tryd.func76, Tryd.ntmps76
  go_wp2_with fail
  rw [ext_take]
  refine (last_any' (s.take p) w HT.out (by have := HTL.out; omega)).mono ?_
  rintro e w1 ⟨rfl, be⟩
  have HB1 := hid be
  obtain ⟨a, ha⟩ : ∃ a, a = lnlast (s.take p) := ⟨_, rfl⟩
  obtain ⟨m, hm⟩ : ∃ m : Nat, m = (decLast (s.take p)).2 := ⟨_, rfl⟩
  have HA := hid ha
  rw [← ha, ← hm]
  clear be ha hm
  by_cases hps : p = s.length
  · have HV := hid (show lnmust s p = true by unfold lnmust; rw [hps]; simp)
    have b1 : ((p : Int) == (s.length : Int)) = true := by rw [hps]; exact beq_self_eq_true _
    have HP := hid hps
    clear hps
    go_wp2
    go_ret
    exact ⟨by rw [HV.out]; rfl, HB1.out⟩
  · have b1 : ((p : Int) == (s.length : Int)) = false := beq_eq_false_iff_ne.2 (by omega)
    have HV := hid (show lnmust s p = lnends a by unfold lnmust; rw [HA.out, decide_eq_false hps, Bool.false_or])
    go_wp2_with fail
    refine (endsLine_any a w1).mono ?_
    rintro e w2 ⟨rfl, be⟩
    have HB2 := hid (HB1.out.trans (be.mono HB1.out.size))
    obtain ⟨v, hv⟩ : ∃ v, v = lnends a := ⟨_, rfl⟩
    rw [← hv] at HV
    rw [← hv]
    clear be hv
    go_wp2
    go_ret
    exact ⟨by rw [HV.out]; rfl, HB2.out⟩
set_option maxHeartbeats 4000000 in
theorem cut_any (s : List UInt8) (fr p : Nat) (w : World) (ht : Tb w) (hl : s.length ≤ 1000000000) (hp : p ≤ s.length) (hf : fr ≤ p) :
    Calls Tryd.prog 75 #[.string ⟨s.toArray⟩, .int .i64 fr, .int .i64 p] w fun e w' => e = .returned (.bool (lncut s fr p)) ∧ Below w.heap.size w w' := by
  have HT := hid ht
  have HTL := hid (show (s.take p).length = p by rw [List.length_take]; omega)
  have HWL := hid (wthL_le [4] _ (s.take p) (Nat.le_refl _))
  clear ht
  go_enter Tryd.func75, Tryd.ntmps75
  go_wp2_with fail
  rw [ext_take]
  refine (last_any' (s.take p) w HT.out (by have := HTL.out; omega)).mono ?_
  rintro e w1 ⟨rfl, be⟩
  have HB1 := hid be
  obtain ⟨a, ha⟩ : ∃ a, a = lnlast (s.take p) := ⟨_, rfl⟩
  obtain ⟨m, hm⟩ : ∃ m : Nat, m = (decLast (s.take p)).2 := ⟨_, rfl⟩
  have HA := hid ha
  rw [← ha, ← hm]
  clear be ha hm
  go_wp2_with fail
  rw [ext_drop]
  refine (first_any (s.drop p) w1 (HT.out.below HB1.out)).mono ?_
  rintro e w2 ⟨rfl, be⟩
  have HB2 := hid (HB1.out.trans (be.mono HB1.out.size))
  obtain ⟨b, hb⟩ : ∃ b, b = lnfirst (s.drop p) := ⟨_, rfl⟩
  obtain ⟨n, hn⟩ : ∃ n, n = (dec (s.drop p)).2 := ⟨_, rfl⟩
  have HBE := hid hb
  rw [← hb, ← hn]
  clear be hb hn
  obtain ⟨t, htt⟩ : ∃ t, t = wthL [4] (s.take p) := ⟨_, rfl⟩
  have HTT := hid htt
  rw [← htt] at HWL
  have HV := hid (show lncut s fr p = if a = 2 ∧ b = 3 then false else if lnends a then true else if lnends b then false else if amg [4, 5] b then false else if lnlast t = 5 then true else if a = 4 then !lnheld (lnbase t) b else !(b == 8) && !lnheld (lnbase t) b && !lnjoin s fr p by rw [HA.out, HBE.out, htt]; rfl)
  clear HA HBE htt
  by_cases h23 : a = 2 ∧ b = 3
  · obtain ⟨rfl, rfl⟩ := h23
    go_wp2
    go_ret
    exact ⟨by rw [HV.out]; rfl, HB2.out⟩
  have H23 := hid h23
  replace HV := hid (HV.out.trans (if_neg h23))
  have g2 : a = 2 → (b == 3) = false := fun h => beq_eq_false_iff_ne.2 (fun h' => h23 ⟨h, h'⟩)
  have G2 := hid g2
  clear h23 g2
  have step : ∀ (X : Prop), (a = 2 → (b == 3) = false → X) → ((a == 2) = false → X) → X := fun X h1 h2 => by
    by_cases h : a = 2
    · exact h1 h (G2.out h)
    · exact h2 (beq_eq_false_iff_ne.2 h)
  have STEP := hid step
  clear step
  refine STEP.out _ (fun e2 b3 => ?_) (fun n2 => ?_)
  · subst e2
    have HV2 := hid (show lncut s fr p = true by rw [HV.out]; rfl)
    clear HV
    go_wp2_with fail
    refine (endsLine_any 2 w2).mono ?_
    rintro e w3 ⟨rfl, be⟩
    have HB3 := hid (HB2.out.trans (be.mono HB2.out.size))
    rw [show lnends 2 = true by decide]
    clear be
    go_wp2
    go_ret
    exact ⟨by rw [HV2.out]; rfl, HB3.out⟩
  · go_wp2_with fail
    refine (endsLine_any a w2).mono ?_
    rintro e w3 ⟨rfl, be⟩
    have HB3 := hid (HB2.out.trans (be.mono HB2.out.size))
    obtain ⟨q3, hq3⟩ : ∃ q, q = lnends a := ⟨_, rfl⟩
    rw [← hq3] at HV
    rw [← hq3]
    clear be hq3 STEP G2 H23
    cases q3 with
    | true =>
      go_wp2
      go_ret
      exact ⟨by rw [HV.out]; rfl, HB3.out⟩
    | false =>
      go_wp2_with fail
      refine (endsLine_any b w3).mono ?_
      rintro e w4 ⟨rfl, be⟩
      have HB4 := hid (HB3.out.trans (be.mono HB3.out.size))
      obtain ⟨q4, hq4⟩ : ∃ q, q = lnends b := ⟨_, rfl⟩
      rw [← hq4] at HV
      rw [← hq4]
      clear be hq4
      cases q4 with
      | true =>
        go_wp2
        go_ret
        exact ⟨by rw [HV.out]; rfl, HB4.out⟩
      | false =>
        go_wp2_with fail
        refine (isAny_lit b [4, 5] w4 (by decide)).mono ?_
        rintro e w5 ⟨rfl, be⟩
        have HB5 := hid (HB4.out.trans (be.mono HB4.out.size))
        obtain ⟨q5, hq5⟩ : ∃ q, q = amg [4, 5] b := ⟨_, rfl⟩
        rw [← hq5] at HV
        rw [← hq5]
        clear be hq5
        cases q5 with
        | true =>
          go_wp2
          go_ret
          exact ⟨by rw [HV.out]; rfl, HB5.out⟩
        | false =>
          have HV := hid (show lncut s fr p = if lnlast t = 5 then true else if a = 4 then !lnheld (lnbase t) b else !(b == 8) && !lnheld (lnbase t) b && !lnjoin s fr p from HV.out)
          go_wp2_with fail
          rw [ext_take]
          refine (without_lit (s.take p) [4] w5 (HT.out.below HB5.out) (by have := HTL.out; omega) (by decide) (by decide)).mono ?_
          rintro e w6 ⟨rfl, be⟩
          have HB6 := hid (HB5.out.trans (be.mono HB5.out.size))
          rw [← HTT.out]
          clear be HTT
          have htl : t.length ≤ 1000000000 := by have := HWL.out; have := HTL.out; omega
          go_wp2_with fail
          refine (last_any' t w6 (HT.out.below HB6.out) htl).mono ?_
          rintro e w7 ⟨rfl, be⟩
          have HB7 := hid (HB6.out.trans (be.mono HB6.out.size))
          obtain ⟨x, hx⟩ : ∃ x, x = lnlast t := ⟨_, rfl⟩
          obtain ⟨y, hy⟩ : ∃ y : Nat, y = (decLast t).2 := ⟨_, rfl⟩
          rw [← hx] at HV
          rw [← hx, ← hy]
          clear be hx hy
          by_cases h5 : x = 5
          · subst h5
            go_wp2
            go_ret
            exact ⟨by rw [HV.out]; rfl, HB7.out⟩
          · have b5 : (x == 5) = false := beq_eq_false_iff_ne.2 h5
            have HV := hid (HV.out.trans (if_neg h5))
            clear h5
            by_cases h4 : a = 4
            · subst h4
              have HV := hid (HV.out.trans (if_pos rfl))
              go_wp2_with fail
              refine (base_any t w7 (HT.out.below HB7.out) htl).mono ?_
              rintro e w8 ⟨rfl, be⟩
              have HB8 := hid (HB7.out.trans (be.mono HB7.out.size))
              obtain ⟨z, hz⟩ : ∃ z, z = lnbase t := ⟨_, rfl⟩
              rw [← hz] at HV
              rw [← hz]
              clear be hz
              go_wp2_with fail
              refine (held_any z b w8).mono ?_
              rintro e w9 ⟨rfl, be⟩
              have HB9 := hid (HB8.out.trans (be.mono HB8.out.size))
              obtain ⟨v, hv⟩ : ∃ v, v = lnheld z b := ⟨_, rfl⟩
              rw [← hv] at HV
              rw [← hv]
              clear be hv
              go_wp2
              go_ret
              exact ⟨by rw [HV.out]; rfl, HB9.out⟩
            · have b4 : (a == 4) = false := beq_eq_false_iff_ne.2 h4
              have HV := hid (HV.out.trans (if_neg h4))
              clear h4
              by_cases h8 : b = 8
              · subst h8
                go_wp2
                go_ret
                exact ⟨by rw [HV.out]; rfl, HB7.out⟩
              · have b8 : (b == 8) = false := beq_eq_false_iff_ne.2 h8
                have HV := hid (show lncut s fr p = (!lnheld (lnbase t) b && !lnjoin s fr p) by rw [HV.out, b8]; rfl)
                have n8 : (b != 8) = true := by simp [h8]
                clear h8
                go_wp2_with fail
                refine (base_any t w7 (HT.out.below HB7.out) htl).mono ?_
                rintro e w8 ⟨rfl, be⟩
                have HB8 := hid (HB7.out.trans (be.mono HB7.out.size))
                obtain ⟨z, hz⟩ : ∃ z, z = lnbase t := ⟨_, rfl⟩
                rw [← hz] at HV
                rw [← hz]
                clear be hz
                go_wp2_with fail
                refine (held_any z b w8).mono ?_
                rintro e w9 ⟨rfl, be⟩
                have HB9 := hid (HB8.out.trans (be.mono HB8.out.size))
                obtain ⟨v, hv⟩ : ∃ v, v = lnheld z b := ⟨_, rfl⟩
                rw [← hv] at HV
                rw [← hv]
                clear be hv
                cases v with
                | true =>
                  go_wp2
                  go_ret
                  exact ⟨by rw [HV.out]; rfl, HB9.out⟩
                | false =>
                  go_wp2_with fail
                  refine (joined_any s fr p w9 (HT.out.below HB9.out) hl hp hf).mono ?_
                  rintro e w10 ⟨rfl, be⟩
                  have HB10 := hid (HB9.out.trans (be.mono HB9.out.size))
                  obtain ⟨u, hu⟩ : ∃ u, u = lnjoin s fr p := ⟨_, rfl⟩
                  rw [← hu] at HV
                  rw [← hu]
                  clear be hu
                  go_wp2
                  go_ret
                  exact ⟨by rw [HV.out]; rfl, HB10.out⟩
end Go.Proofs.YtmhbhjlaagpohaaDoor
