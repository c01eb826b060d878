/- The contracts of within and Check of the document's side (kerfref16), and the walk of WrapChecks. -/
import Derived.Test.YtkopefljnhgdkaaGreatDoorWpChk
import Derived.Test.YtkopefljnhgdkaaGreatDoorLiveRun
namespace Go.Proofs.YtkopefljnhgdkaaGreatDoor
open Go.RowKit

theorem within_any (z lo : Int) (w : World) : Calls Tryz.prog 18 #[.int .i64 z, .int .i64 lo] w fun e w' => e = .returned (.bool (decide (lo ≤ z) && decide (z ≤ 100000))) ∧ w' = w := by
  obtain ⟨b, hb⟩ : ∃ b, b = (decide (lo ≤ z) && decide (z ≤ 100000)) := ⟨_, rfl⟩
  rw [← hb]
  by_cases h1 : lo ≤ z
  · by_cases h2 : z ≤ 100000
    · have HV := hid (show b = true by rw [hb]; simp [h1, h2])
      clear hb
      go_enter Tryz.func18, Tryz.ntmps18
      go_wp2
      go_ret
      exact ⟨by rw [HV.out]; rfl, rfl⟩
    · have HV := hid (show b = false by rw [hb]; simp [h2])
      clear hb
      go_enter Tryz.func18, Tryz.ntmps18
      go_wp2
      go_ret
      exact ⟨by rw [HV.out]; rfl, rfl⟩
  · have HV := hid (show b = false by rw [hb]; simp [h1])
    clear hb
    go_enter Tryz.func18, Tryz.ntmps18
    go_wp2
    go_ret
    exact ⟨by rw [HV.out]; rfl, rfl⟩
theorem within0 (z : Int) (w : World) : Calls Tryz.prog 18 #[.int .i64 z, .int .i64 0] w fun e w' => e = .returned (.bool (isC z)) ∧ w' = w := within_any z 0 w
theorem within1 (z : Int) (w : World) : Calls Tryz.prog 18 #[.int .i64 z, .int .i64 1] w fun e w' => e = .returned (.bool (decide (1 ≤ z) && isC z)) ∧ w' = w :=
  (within_any z 1 w).mono fun e w' ⟨he, hw⟩ => ⟨by
    rw [he]
    have : (decide (1 ≤ z) && decide (z ≤ 100000)) = (decide (1 ≤ z) && isC z) := by
      unfold isC
      by_cases h : 1 ≤ z
      · have h0 : 0 ≤ z := by omega
        simp [h, h0]
      · simp [h]
    rw [this], hw⟩
set_option maxHeartbeats 4000000 in
theorem rcheck_any (lo : Option Addr) (n c : Nat) (wd fi re ho : Int) (L : List Bx) (w : World) (hn : n = L.length) (hr : RdB w lo L) :
    Calls Tryz.prog 7 #[.slice lo n c, .agg #[.int .i64 wd, .int .i64 fi, .int .i64 re, .int .i64 ho]] w fun e w' => e = .returned (.tuple #[.int .i64 (chk ⟨wd, fi, re, ho⟩ L).1, .int .i64 ((chk ⟨wd, fi, re, ho⟩ L).2 : Nat)]) ∧ Below w.heap.size w w' := by
  have HS := hid (Wrs.new w wd fi re ho)
  have HB := hid (below_box (w := w) (o := .cells #[.int .i64 wd, .int .i64 fi, .int .i64 re, .int .i64 ho] 24))
  have HR := hid (hr.below HB.out)
  have HN := hid hn
  clear hr hn
  cases h1 : (decide (1 ≤ wd) && isC wd) with
  | false =>
    have HV := hid (show chk ⟨wd, fi, re, ho⟩ L = (161, 0) by
      unfold chk wrOk; rw [if_neg]; rw [← Bool.and_assoc, h1]; simp)
    go_enter Tryz.func7, Tryz.ntmps7
    go_wp2_with fail
    refine (within1 wd _).mono ?_
    rintro e w1 ⟨rfl, rfl⟩
    rw [h1]
    go_wp2
    go_ret2
    exact ⟨by rw [HV.out]; rfl, HB.out⟩
  | true =>
  cases h2 : isC fi with
  | false =>
    have HV := hid (show chk ⟨wd, fi, re, ho⟩ L = (161, 0) by
      unfold chk wrOk; rw [if_neg]; rw [h2]; simp)
    go_enter Tryz.func7, Tryz.ntmps7
    go_wp2_with fail
    refine (within1 wd _).mono ?_
    rintro e w1 ⟨rfl, rfl⟩
    rw [h1]
    go_wp2_with fail
    refine (within0 fi _).mono ?_
    rintro e w1 ⟨rfl, rfl⟩
    rw [h2]
    go_wp2
    go_ret2
    exact ⟨by rw [HV.out]; rfl, HB.out⟩
  | true =>
  cases h3 : isC re with
  | false =>
    have HV := hid (show chk ⟨wd, fi, re, ho⟩ L = (161, 0) by
      unfold chk wrOk; rw [if_neg]; rw [h3]; simp)
    go_enter Tryz.func7, Tryz.ntmps7
    go_wp2_with fail
    refine (within1 wd _).mono ?_
    rintro e w1 ⟨rfl, rfl⟩
    rw [h1]
    go_wp2_with fail
    refine (within0 fi _).mono ?_
    rintro e w1 ⟨rfl, rfl⟩
    rw [h2]
    go_wp2_with fail
    refine (within0 re _).mono ?_
    rintro e w1 ⟨rfl, rfl⟩
    rw [h3]
    go_wp2
    go_ret2
    exact ⟨by rw [HV.out]; rfl, HB.out⟩
  | true =>
    have HWO := hid (show wrOk ⟨wd, fi, re, ho⟩ = true by show (decide (1 ≤ wd) && (isC wd && (isC fi && isC re))) = true; rw [← Bool.and_assoc, h1, h2, h3]; rfl)
    by_cases h4 : ho = 0 ∨ ho = 1
    · have HHO := hid (show hoOk ⟨wd, fi, re, ho⟩ = true by simpa [hoOk] using h4)
      by_cases h5 : 4096 < n
      · have HV := hid (show chk ⟨wd, fi, re, ho⟩ L = (6, 0) by
          unfold chk; rw [if_pos HWO.out, if_pos HHO.out, if_neg (by have := HN.out; omega)])
        have i4 : (4096 : Int) < (n : Int) := by omega
        rcases h4 with rfl | rfl
        all_goals
          go_enter Tryz.func7, Tryz.ntmps7
          go_wp2_with fail
          refine (within1 wd _).mono ?_
          rintro e w1 ⟨rfl, rfl⟩
          rw [h1]
          go_wp2_with fail
          refine (within0 fi _).mono ?_
          rintro e w1 ⟨rfl, rfl⟩
          rw [h2]
          go_wp2_with fail
          refine (within0 re _).mono ?_
          rintro e w1 ⟨rfl, rfl⟩
          rw [h3]
          go_wp2
          go_ret2
          exact ⟨by rw [HV.out]; rfl, HB.out⟩
      · have i4 : ¬ (4096 : Int) < (n : Int) := by omega
        have HV0 := hid (show badB L 0 = none → chk ⟨wd, fi, re, ho⟩ L = (0, 0) from fun h => by
          unfold chk; rw [if_pos HWO.out, if_pos HHO.out, if_pos (by have := HN.out; omega), h])
        have HV1 := hid (show ∀ i, badB L 0 = some i → chk ⟨wd, fi, re, ho⟩ L = (160, i) from fun i h => by
          unfold chk; rw [if_pos HWO.out, if_pos HHO.out, if_pos (by have := HN.out; omega), h])
        rcases h4 with rfl | rfl
        all_goals
          go_enter Tryz.func7, Tryz.ntmps7
          go_wp2_with fail
          refine (within1 wd _).mono ?_
          rintro e w1 ⟨rfl, rfl⟩
          rw [h1]
          go_wp2_with fail
          refine (within0 fi _).mono ?_
          rintro e w1 ⟨rfl, rfl⟩
          rw [h2]
          go_wp2_with fail
          refine (within0 re _).mono ?_
          rintro e w1 ⟨rfl, rfl⟩
          rw [h3]
          go_wp2
          go_loop [6] (fun v => ∃ k : Nat, v = .int .i64 k ∧ k ≤ n ∧ Hid (badB L 0 = badB (L.drop k) k)) (fun v => n - (intOf v).toNat)
          case atStart => exact ⟨0, rfl, Nat.zero_le _, rfl⟩
          case round =>
            obtain ⟨k, rfl, hk, HBD⟩ := hrel
            by_cases hlt : k < n
            · have hkl : k < L.length := by have := HN.out; omega
              obtain ⟨a, rfl, ha, a0, a1, a2, a3⟩ := HR.out.at hkl
              have HBD2 := hid (show badB L 0 = if bxOk (bx L k) = true then badB (L.drop (k + 1)) (k + 1) else some k by rw [HBD.out, drop_at hkl, ← bx_at hkl]; rfl)
              obtain ⟨x, hx⟩ : ∃ x, x = bx L k := ⟨_, rfl⟩
              rw [← hx] at a0 a1 a2 a3 HBD2
              have i0 : (0 : Int) ≤ (k : Int) := by omega
              have i1 : (k : Int) < (n : Int) := by omega
              clear hx hkl HBD
              obtain ⟨xw, xb, xh, xm⟩ := x
              dsimp only at a0 a1 a2 a3
              cases q1 : isC xw with
              | false =>
                have HB4 := hid (show badB L 0 = some k by rw [HBD2.out, if_neg]; unfold bxOk; rw [q1]; simp)
                go_wp2_with fail
                refine (within0 xw _).mono ?_
                rintro e w1 ⟨rfl, rfl⟩
                rw [q1]
                go_wp2
                go_ret2
                exact ⟨by rw [HV1.out k HB4.out]; rfl, HB.out⟩
              | true =>
              cases q2 : isC xb with
              | false =>
                have HB4 := hid (show badB L 0 = some k by rw [HBD2.out, if_neg]; unfold bxOk; rw [q2]; simp)
                go_wp2_with fail
                refine (within0 xw _).mono ?_
                rintro e w1 ⟨rfl, rfl⟩
                rw [q1]
                go_wp2_with fail
                refine (within0 xb _).mono ?_
                rintro e w1 ⟨rfl, rfl⟩
                rw [q2]
                go_wp2
                go_ret2
                exact ⟨by rw [HV1.out k HB4.out]; rfl, HB.out⟩
              | true =>
              cases q3 : isC xh with
              | false =>
                have HB4 := hid (show badB L 0 = some k by rw [HBD2.out, if_neg]; unfold bxOk; rw [q3]; simp)
                go_wp2_with fail
                refine (within0 xw _).mono ?_
                rintro e w1 ⟨rfl, rfl⟩
                rw [q1]
                go_wp2_with fail
                refine (within0 xb _).mono ?_
                rintro e w1 ⟨rfl, rfl⟩
                rw [q2]
                go_wp2_with fail
                refine (within0 xh _).mono ?_
                rintro e w1 ⟨rfl, rfl⟩
                rw [q3]
                go_wp2
                go_ret2
                exact ⟨by rw [HV1.out k HB4.out]; rfl, HB.out⟩
              | true =>
                have HB4 := hid (show badB L 0 = badB (L.drop (k + 1)) (k + 1) by rw [HBD2.out, if_pos]; unfold bxOk; rw [q1, q2, q3]; rfl)
                go_wp2_with fail
                refine (within0 xw _).mono ?_
                rintro e w1 ⟨rfl, rfl⟩
                rw [q1]
                go_wp2_with fail
                refine (within0 xb _).mono ?_
                rintro e w1 ⟨rfl, rfl⟩
                rw [q2]
                go_wp2_with fail
                refine (within0 xh _).mono ?_
                rintro e w1 ⟨rfl, rfl⟩
                rw [q3]
                go_wp2
                go_round
                case rel => exact ⟨k + 1, by go_num, by omega, HB4⟩
                case measure => simp [intOf]; omega
            · have i1 : ¬ (k : Int) < (n : Int) := by omega
              have HB4 := hid (show badB L 0 = none by rw [HBD.out, List.drop_of_length_le (by have := HN.out; omega)]; rfl)
              go_wp2
              go_ret2
              exact ⟨by rw [HV0.out HB4.out]; rfl, HB.out⟩
    · have HV := hid (show chk ⟨wd, fi, re, ho⟩ L = (161, 0) by
        unfold chk; rw [if_pos HWO.out, if_neg]; simpa [hoOk] using h4)
      have b1 : (ho != 0) = true := bne_iff_ne.2 (fun h => h4 (.inl h))
      have b2 : (ho != 1) = true := bne_iff_ne.2 (fun h => h4 (.inr h))
      clear h4
      go_enter Tryz.func7, Tryz.ntmps7
      go_wp2_with fail
      refine (within1 wd _).mono ?_
      rintro e w1 ⟨rfl, rfl⟩
      rw [h1]
      go_wp2_with fail
      refine (within0 fi _).mono ?_
      rintro e w1 ⟨rfl, rfl⟩
      rw [h2]
      go_wp2_with fail
      refine (within0 re _).mono ?_
      rintro e w1 ⟨rfl, rfl⟩
      rw [h3]
      go_wp2
      go_ret2
      exact ⟨by rw [HV.out]; rfl, HB.out⟩
theorem tbs_below {w w' : World} (h : Ev.Tbs tabs w) (hb : Below w.heap.size w w') : Ev.Tbs tabs w' := fun x hx => by
  obtain ⟨c, h1, h2⟩ := h x hx
  exact ⟨c, (hb.block _ (Array.getElem?_eq_some_iff.1 h1).1).trans h1, h2⟩
theorem num_any (e : Int) (w : World) : Calls Tryz.prog 8 #[.int .i64 e] w fun r w' => r = .returned (.int .i64 e) ∧ w' = w := by
  go_enter Tryz.func8, Tryz.ntmps8
  go_wp2
  go_ret
  exact ⟨rfl, rfl⟩
set_option maxHeartbeats 4000000 in
theorem checks_main (lo : Option Addr) (n c : Nat) (wd fi re ho : Int) (L : List Bx) (w : World) (hn : n = L.length) (hr : RdB w lo L) (htb : Ev.Tbs tabs w) :
    Calls Tryz.prog 3 #[.slice lo n c, .agg #[.int .i64 wd, .int .i64 fi, .int .i64 re, .int .i64 ho]] w fun e w' => e = .returned (.bool true) ∧ Below w.heap.size w w' := by
  have HTB := hid (fun W (h : Below w.heap.size w W) => lives W (tbs_below htb h))
  have HB := hid (below_box (w := w) (o := .cells #[.int .i64 wd, .int .i64 fi, .int .i64 re, .int .i64 ho] 24))
  have HS := hid (Wrs.new w wd fi re ho)
  have HN := hid hn
  have HR0 := hid hr
  clear htb hn hr
  by_cases hbig : 40 < n ∧ n ≤ 4096
  · have j1 : (40 : Int) < (n : Int) := by omega
    have j2 : (n : Int) ≤ 4096 := by omega
    clear hbig
    go_enter Tryz.func3, Tryz.ntmps3
    go_wp2_with fail
    refine (HTB.out _ HB.out).mono ?_
    rintro e w2 ⟨rfl, be2⟩
    have HB2 := hid (HB.out.trans (be2.mono HB.out.size))
    clear be2
    go_wp2
    go_ret
    exact ⟨rfl, HB2.out⟩
  · have hc : ¬ 40 < n ∨ (40 < n ∧ ¬ n ≤ 4096) := by omega
    obtain ⟨d0, d1, d2, d3⟩ := HS.out.cell
    clear hbig
    rcases hc with h1 | ⟨h1, h2⟩
    all_goals
      first | (have j1 : (40 : Int) < (n : Int) := by omega) | (have j1 : ¬ (40 : Int) < (n : Int) := by omega)
      (try have j2 : ¬ (n : Int) ≤ 4096 := by omega)
      go_enter Tryz.func3, Tryz.ntmps3
      go_wp2_with fail
      refine (check_any lo n c wd fi re ho L _ HN.out (HR0.out.below HB.out)).mono ?_
      rintro e w1 ⟨rfl, be1⟩
      have HB1 := hid (HB.out.trans (be1.mono HB.out.size))
      obtain ⟨k0, k1, k2, k3⟩ := (HS.out.kept be1).cell
      clear be1 d0 d1 d2 d3
      go_wp2_with fail
      refine (rcheck_any lo n c wd fi re ho L _ HN.out (HR0.out.below HB1.out)).mono ?_
      rintro e w2 ⟨rfl, be2⟩
      have HB2 := hid (HB1.out.trans (be2.mono HB1.out.size))
      obtain ⟨z, hz⟩ : ∃ z, z = (chk ⟨wd, fi, re, ho⟩ L).1 := ⟨_, rfl⟩
      obtain ⟨y, hy⟩ : ∃ y, y = (chk ⟨wd, fi, re, ho⟩ L).2 := ⟨_, rfl⟩
      rw [← hz, ← hy]
      have b1 : (z == z) = true := beq_iff_eq.2 rfl
      have b2 : ((y : Int) == (y : Int)) = true := beq_iff_eq.2 rfl
      clear be2 hz hy k0 k1 k2 k3
      go_wp2_with fail
      refine (num_any z w2).mono ?_
      rintro e w2' ⟨rfl, hw3⟩
      obtain rfl := hw3.symm
      clear hw3
      go_wp2_with fail
      refine (HTB.out _ HB2.out).mono ?_
      rintro e w3 ⟨rfl, be3⟩
      have HB3 := hid (HB2.out.trans (be3.mono HB2.out.size))
      clear be3
      go_wp2
      go_ret
      exact ⟨rfl, HB3.out⟩
end Go.Proofs.YtkopefljnhgdkaaGreatDoor
