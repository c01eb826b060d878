/- The contracts of within and Check of the document's side (kerfref16), and the walk of WrapChecks. -/
import Derived.Test.YtkopefljnhgdkaaGreatDoorWpChk
import Derived.Test.YtkopefljnhgdkaaGreatDoorLiveRun
import Derived.Test.YtkopefljnhgdkaaGreatDoorWpIt0
import Derived.Test.YtkopefljnhgdkaaGreatDoorWpOwn
import Derived.Test.YtkopefljnhgdkaaGreatDoorWpGr
import Derived.Test.YtkopefljnhgdkaaGreatDoorWpEvn
namespace Go.Proofs.YtkopefljnhgdkaaGreatDoor
open Go.RowKit

theorem within_any (z lo : Int) (w : World) : Calls Tryz.prog 18 #[.int .i64 z, .int .i64 lo] w fun e w' => e = .returned (.bool (decide (lo ≤ z) && decide (z ≤ 100000))) ∧ w' = w := by
  obtain ⟨b, hb⟩ : ∃ b, b = (decide (lo ≤ z) && decide (z ≤ 100000)) := ⟨_, rfl⟩
  rw [← hb]
  by_cases h1 : lo ≤ z
  · by_cases h2 : z ≤ 100000
    · have HV := hid (show b = true by rw [hb]; simp [h1, h2])
      clear hb
      go_enter Tryz.func18, Tryz.ntmps18
      go_wp2
      go_ret
      exact ⟨by rw [HV.out]; rfl, rfl⟩
    · have HV := hid (show b = false by rw [hb]; simp [h2])
      clear hb
      go_enter Tryz.func18, Tryz.ntmps18
      go_wp2
      go_ret
      exact ⟨by rw [HV.out]; rfl, rfl⟩
  · have HV := hid (show b = false by rw [hb]; simp [h1])
    clear hb
    go_enter Tryz.func18, Tryz.ntmps18
    go_wp2
    go_ret
    exact ⟨by rw [HV.out]; rfl, rfl⟩
theorem within0 (z : Int) (w : World) : Calls Tryz.prog 18 #[.int .i64 z, .int .i64 0] w fun e w' => e = .returned (.bool (isC z)) ∧ w' = w := within_any z 0 w
theorem within1 (z : Int) (w : World) : Calls Tryz.prog 18 #[.int .i64 z, .int .i64 1] w fun e w' => e = .returned (.bool (decide (1 ≤ z) && isC z)) ∧ w' = w :=
  (within_any z 1 w).mono fun e w' ⟨he, hw⟩ => ⟨by
    rw [he]
    have : (decide (1 ≤ z) && decide (z ≤ 100000)) = (decide (1 ≤ z) && isC z) := by
      unfold isC
      by_cases h : 1 ≤ z
      · have h0 : 0 ≤ z := by omega
        simp [h, h0]
      · simp [h]
    rw [this], hw⟩
set_option maxHeartbeats 4000000 in
theorem rcheck_any (lo : Option Addr) (n c : Nat) (wd fi re ho : Int) (L : List Bx) (w : World) (hn : n = L.length) (hr : RdB w lo L) :
    Calls Tryz.prog 7 #[.slice lo n c, .agg #[.int .i64 wd, .int .i64 fi, .int .i64 re, .int .i64 ho]] w fun e w' => e = .returned (.tuple #[.int .i64 (chk ⟨wd, fi, re, ho⟩ L).1, .int .i64 ((chk ⟨wd, fi, re, ho⟩ L).2 : Nat)]) ∧ Below w.heap.size w w' := by
  have HS := hid (Wrs.new w wd fi re ho)
  have HB := hid (below_box (w := w) (o := .cells #[.int .i64 wd, .int .i64 fi, .int .i64 re, .int .i64 ho] 24))
  have HR := hid (hr.below HB.out)
  have HN := hid hn
  clear hr hn
  cases h1 : (decide (1 ≤ wd) && isC wd) with
  | false =>
    have HV := hid (show chk ⟨wd, fi, re, ho⟩ L = (161, 0) by
      unfold chk wrOk; rw [if_neg]; rw [← Bool.and_assoc, h1]; simp)
    go_enter Tryz.func7, Tryz.ntmps7
    go_wp2_with fail
    refine (within1 wd _).mono ?_
    rintro e w1 ⟨rfl, rfl⟩
    rw [h1]
    go_wp2
    go_ret2
    exact ⟨by rw [HV.out]; rfl, HB.out⟩
  | true =>
  cases h2 : isC fi with
  | false =>
    have HV := hid (show chk ⟨wd, fi, re, ho⟩ L = (161, 0) by
      unfold chk wrOk; rw [if_neg]; rw [h2]; simp)
    go_enter Tryz.func7, Tryz.ntmps7
    go_wp2_with fail
    refine (within1 wd _).mono ?_
    rintro e w1 ⟨rfl, rfl⟩
    rw [h1]
    go_wp2_with fail
    refine (within0 fi _).mono ?_
    rintro e w1 ⟨rfl, rfl⟩
    rw [h2]
    go_wp2
    go_ret2
    exact ⟨by rw [HV.out]; rfl, HB.out⟩
  | true =>
  cases h3 : isC re with
  | false =>
    have HV := hid (show chk ⟨wd, fi, re, ho⟩ L = (161, 0) by
      unfold chk wrOk; rw [if_neg]; rw [h3]; simp)
    go_enter Tryz.func7, Tryz.ntmps7
    go_wp2_with fail
    refine (within1 wd _).mono ?_
    rintro e w1 ⟨rfl, rfl⟩
    rw [h1]
    go_wp2_with fail
    refine (within0 fi _).mono ?_
    rintro e w1 ⟨rfl, rfl⟩
    rw [h2]
    go_wp2_with fail
    refine (within0 re _).mono ?_
    rintro e w1 ⟨rfl, rfl⟩
    rw [h3]
    go_wp2
    go_ret2
    exact ⟨by rw [HV.out]; rfl, HB.out⟩
  | true =>
    have HWO := hid (show wrOk ⟨wd, fi, re, ho⟩ = true by show (decide (1 ≤ wd) && (isC wd && (isC fi && isC re))) = true; rw [← Bool.and_assoc, h1, h2, h3]; rfl)
    by_cases h4 : ho = 0 ∨ ho = 1
    · have HHO := hid (show hoOk ⟨wd, fi, re, ho⟩ = true by simpa [hoOk] using h4)
      by_cases h5 : 4096 < n
      · have HV := hid (show chk ⟨wd, fi, re, ho⟩ L = (6, 0) by
          unfold chk; rw [if_pos HWO.out, if_pos HHO.out, if_neg (by have := HN.out; omega)])
        have i4 : (4096 : Int) < (n : Int) := by omega
        rcases h4 with rfl | rfl
        all_goals
          go_enter Tryz.func7, Tryz.ntmps7
          go_wp2_with fail
          refine (within1 wd _).mono ?_
          rintro e w1 ⟨rfl, rfl⟩
          rw [h1]
          go_wp2_with fail
          refine (within0 fi _).mono ?_
          rintro e w1 ⟨rfl, rfl⟩
          rw [h2]
          go_wp2_with fail
          refine (within0 re _).mono ?_
          rintro e w1 ⟨rfl, rfl⟩
          rw [h3]
          go_wp2
          go_ret2
          exact ⟨by rw [HV.out]; rfl, HB.out⟩
      · have i4 : ¬ (4096 : Int) < (n : Int) := by omega
        have HV0 := hid (show badB L 0 = none → chk ⟨wd, fi, re, ho⟩ L = (0, 0) from fun h => by
          unfold chk; rw [if_pos HWO.out, if_pos HHO.out, if_pos (by have := HN.out; omega), h])
        have HV1 := hid (show ∀ i, badB L 0 = some i → chk ⟨wd, fi, re, ho⟩ L = (160, i) from fun i h => by
          unfold chk; rw [if_pos HWO.out, if_pos HHO.out, if_pos (by have := HN.out; omega), h])
        rcases h4 with rfl | rfl
        all_goals
          go_enter Tryz.func7, Tryz.ntmps7
          go_wp2_with fail
          refine (within1 wd _).mono ?_
          rintro e w1 ⟨rfl, rfl⟩
          rw [h1]
          go_wp2_with fail
          refine (within0 fi _).mono ?_
          rintro e w1 ⟨rfl, rfl⟩
          rw [h2]
          go_wp2_with fail
          refine (within0 re _).mono ?_
          rintro e w1 ⟨rfl, rfl⟩
          rw [h3]
          go_wp2
          go_loop [6] (fun v => ∃ k : Nat, v = .int .i64 k ∧ k ≤ n ∧ Hid (badB L 0 = badB (L.drop k) k)) (fun v => n - (intOf v).toNat)
          case atStart => exact ⟨0, rfl, Nat.zero_le _, rfl⟩
          case round =>
            obtain ⟨k, rfl, hk, HBD⟩ := hrel
            by_cases hlt : k < n
            · have hkl : k < L.length := by have := HN.out; omega
              obtain ⟨a, rfl, ha, a0, a1, a2, a3⟩ := HR.out.at hkl
              have HBD2 := hid (show badB L 0 = if bxOk (bx L k) = true then badB (L.drop (k + 1)) (k + 1) else some k by rw [HBD.out, drop_at hkl, ← bx_at hkl]; rfl)
              obtain ⟨x, hx⟩ : ∃ x, x = bx L k := ⟨_, rfl⟩
              rw [← hx] at a0 a1 a2 a3 HBD2
              have i0 : (0 : Int) ≤ (k : Int) := by omega
              have i1 : (k : Int) < (n : Int) := by omega
              clear hx hkl HBD
              obtain ⟨xw, xb, xh, xm⟩ := x
              dsimp only at a0 a1 a2 a3
              cases q1 : isC xw with
              | false =>
                have HB4 := hid (show badB L 0 = some k by rw [HBD2.out, if_neg]; unfold bxOk; rw [q1]; simp)
                go_wp2_with fail
                refine (within0 xw _).mono ?_
                rintro e w1 ⟨rfl, rfl⟩
                rw [q1]
                go_wp2
                go_ret2
                exact ⟨by rw [HV1.out k HB4.out]; rfl, HB.out⟩
              | true =>
              cases q2 : isC xb with
              | false =>
                have HB4 := hid (show badB L 0 = some k by rw [HBD2.out, if_neg]; unfold bxOk; rw [q2]; simp)
                go_wp2_with fail
                refine (within0 xw _).mono ?_
                rintro e w1 ⟨rfl, rfl⟩
                rw [q1]
                go_wp2_with fail
                refine (within0 xb _).mono ?_
                rintro e w1 ⟨rfl, rfl⟩
                rw [q2]
                go_wp2
                go_ret2
                exact ⟨by rw [HV1.out k HB4.out]; rfl, HB.out⟩
              | true =>
              cases q3 : isC xh with
              | false =>
                have HB4 := hid (show badB L 0 = some k by rw [HBD2.out, if_neg]; unfold bxOk; rw [q3]; simp)
                go_wp2_with fail
                refine (within0 xw _).mono ?_
                rintro e w1 ⟨rfl, rfl⟩
                rw [q1]
                go_wp2_with fail
                refine (within0 xb _).mono ?_
                rintro e w1 ⟨rfl, rfl⟩
                rw [q2]
                go_wp2_with fail
                refine (within0 xh _).mono ?_
                rintro e w1 ⟨rfl, rfl⟩
                rw [q3]
                go_wp2
                go_ret2
                exact ⟨by rw [HV1.out k HB4.out]; rfl, HB.out⟩
              | true =>
                have HB4 := hid (show badB L 0 = badB (L.drop (k + 1)) (k + 1) by rw [HBD2.out, if_pos]; unfold bxOk; rw [q1, q2, q3]; rfl)
                go_wp2_with fail
                refine (within0 xw _).mono ?_
                rintro e w1 ⟨rfl, rfl⟩
                rw [q1]
                go_wp2_with fail
                refine (within0 xb _).mono ?_
                rintro e w1 ⟨rfl, rfl⟩
                rw [q2]
                go_wp2_with fail
                refine (within0 xh _).mono ?_
                rintro e w1 ⟨rfl, rfl⟩
                rw [q3]
                go_wp2
                go_round
                case rel => exact ⟨k + 1, by go_num, by omega, HB4⟩
                case measure => simp [intOf]; omega
            · have i1 : ¬ (k : Int) < (n : Int) := by omega
              have HB4 := hid (show badB L 0 = none by rw [HBD.out, List.drop_of_length_le (by have := HN.out; omega)]; rfl)
              go_wp2
              go_ret2
              exact ⟨by rw [HV0.out HB4.out]; rfl, HB.out⟩
    · have HV := hid (show chk ⟨wd, fi, re, ho⟩ L = (161, 0) by
        unfold chk; rw [if_pos HWO.out, if_neg]; simpa [hoOk] using h4)
      have b1 : (ho != 0) = true := bne_iff_ne.2 (fun h => h4 (.inl h))
      have b2 : (ho != 1) = true := bne_iff_ne.2 (fun h => h4 (.inr h))
      clear h4
      go_enter Tryz.func7, Tryz.ntmps7
      go_wp2_with fail
      refine (within1 wd _).mono ?_
      rintro e w1 ⟨rfl, rfl⟩
      rw [h1]
      go_wp2_with fail
      refine (within0 fi _).mono ?_
      rintro e w1 ⟨rfl, rfl⟩
      rw [h2]
      go_wp2_with fail
      refine (within0 re _).mono ?_
      rintro e w1 ⟨rfl, rfl⟩
      rw [h3]
      go_wp2
      go_ret2
      exact ⟨by rw [HV.out]; rfl, HB.out⟩
theorem tbs_below {w w' : World} (h : Ev.Tbs tabs w) (hb : Below w.heap.size w w') : Ev.Tbs tabs w' := fun x hx => by
  obtain ⟨c, h1, h2⟩ := h x hx
  exact ⟨c, (hb.block _ (Array.getElem?_eq_some_iff.1 h1).1).trans h1, h2⟩
theorem num_any (e : Int) (w : World) : Calls Tryz.prog 8 #[.int .i64 e] w fun r w' => r = .returned (.int .i64 e) ∧ w' = w := by
  go_enter Tryz.func8, Tryz.ntmps8
  go_wp2
  go_ret
  exact ⟨rfl, rfl⟩
set_option maxHeartbeats 4000000 in
theorem checks_main (lo : Option Addr) (n c : Nat) (wd fi re ho : Int) (L : List Bx) (w : World) (hn : n = L.length) (hr : RdB w lo L) (htb : Ev.Tbs tabs w) :
    Calls Tryz.prog 3 #[.slice lo n c, .agg #[.int .i64 wd, .int .i64 fi, .int .i64 re, .int .i64 ho]] w fun e w' => e = .returned (.bool true) ∧ Below w.heap.size w w' := by
  have HTB := hid (fun W (h : Below w.heap.size w W) => lives W (tbs_below htb h))
  have HB := hid (below_box (w := w) (o := .cells #[.int .i64 wd, .int .i64 fi, .int .i64 re, .int .i64 ho] 24))
  have HS := hid (Wrs.new w wd fi re ho)
  have HN := hid hn
  have HR0 := hid hr
  clear htb hn hr
  by_cases hbig : 40 < n ∧ n ≤ 4096
  · have j1 : (40 : Int) < (n : Int) := by omega
    have j2 : (n : Int) ≤ 4096 := by omega
    clear hbig
    go_enter Tryz.func3, Tryz.ntmps3
    go_wp2_with fail
    refine (HTB.out _ HB.out).mono ?_
    rintro e w2 ⟨rfl, be2⟩
    have HB2 := hid (HB.out.trans (be2.mono HB.out.size))
    clear be2
    go_wp2
    go_ret
    exact ⟨rfl, HB2.out⟩
  · have hc : ¬ 40 < n ∨ (40 < n ∧ ¬ n ≤ 4096) := by omega
    obtain ⟨d0, d1, d2, d3⟩ := HS.out.cell
    clear hbig
    rcases hc with h1 | ⟨h1, h2⟩
    all_goals
      first | (have j1 : (40 : Int) < (n : Int) := by omega) | (have j1 : ¬ (40 : Int) < (n : Int) := by omega)
      (try have j2 : ¬ (n : Int) ≤ 4096 := by omega)
      go_enter Tryz.func3, Tryz.ntmps3
      go_wp2_with fail
      refine (check_any lo n c wd fi re ho L _ HN.out (HR0.out.below HB.out)).mono ?_
      rintro e w1 ⟨rfl, be1⟩
      have HB1 := hid (HB.out.trans (be1.mono HB.out.size))
      obtain ⟨k0, k1, k2, k3⟩ := (HS.out.kept be1).cell
      clear be1 d0 d1 d2 d3
      go_wp2_with fail
      refine (rcheck_any lo n c wd fi re ho L _ HN.out (HR0.out.below HB1.out)).mono ?_
      rintro e w2 ⟨rfl, be2⟩
      have HB2 := hid (HB1.out.trans (be2.mono HB1.out.size))
      obtain ⟨z, hz⟩ : ∃ z, z = (chk ⟨wd, fi, re, ho⟩ L).1 := ⟨_, rfl⟩
      obtain ⟨y, hy⟩ : ∃ y, y = (chk ⟨wd, fi, re, ho⟩ L).2 := ⟨_, rfl⟩
      rw [← hz, ← hy]
      have b1 : (z == z) = true := beq_iff_eq.2 rfl
      have b2 : ((y : Int) == (y : Int)) = true := beq_iff_eq.2 rfl
      clear be2 hz hy k0 k1 k2 k3
      go_wp2_with fail
      refine (num_any z w2).mono ?_
      rintro e w2' ⟨rfl, hw3⟩
      obtain rfl := hw3.symm
      clear hw3
      go_wp2_with fail
      refine (HTB.out _ HB2.out).mono ?_
      rintro e w3 ⟨rfl, be3⟩
      have HB3 := hid (HB2.out.trans (be3.mono HB2.out.size))
      clear be3
      go_wp2
      go_ret
      exact ⟨rfl, HB3.out⟩
end Go.Proofs.YtkopefljnhgdkaaGreatDoor
/- The contracts of last, room, size, fits and cost of the document's side (kerfref16). -/
namespace Go.Proofs.YtkopefljnhgdkaaGreatDoor
open Go.RowKit

/-- A paragraph's last box, of that in which a box lies. -/
def La (L : List Bx) (i j : Nat) : Prop := Par L i j ∧ en L j = true
theorem La.self_iff {L : List Bx} {i j : Nat} (h : La L i j) : j = i ↔ en L i = true := by
  constructor
  · intro e; rw [← e]; exact h.2
  · intro e
    rcases Nat.eq_or_lt_of_le h.1.1 with e1 | e1
    · exact e1.symm
    · have := h.1.2.2 i (Nat.le_refl _) e1
      rw [e] at this; cases this
theorem La.par {L : List Bx} {i j k : Nat} (h : La L i j) : Par L i k ↔ i ≤ k ∧ k ≤ j := by
  constructor
  · intro hp
    refine ⟨hp.1, ?_⟩
    rcases Nat.lt_or_ge j k with e | e
    · have := hp.2.2 j h.1.1 e
      rw [h.2] at this; cases this
    · exact e
  · rintro ⟨h1, h2⟩
    exact h.1.upper h1 h2
set_option maxHeartbeats 1000000 in
theorem rlast_any (lo : Option Addr) (n c : Nat) (L : List Bx) (i : Nat) (w : World) (hn : n = L.length) (hr : RdB w lo L) (hi : i < n) (hl : n ≤ 4096) :
    Calls Tryz.prog 25 #[.slice lo n c, .int .i64 i] w fun e w' => (∃ j : Nat, e = .returned (.int .i64 j) ∧ La L i j) ∧ w' = w := by
  have HN := hid hn
  have HR := hid hr
  clear hn hr
  go_enter Tryz.func25, Tryz.ntmps25
  go_wp2
  go_loop [1] (fun v => ∃ k : Nat, v = .int .i64 k ∧ k < n ∧ Hid (Run L i k)) (fun v => n - (intOf v).toNat)
  case atStart => exact ⟨i, rfl, hi, Run.self L i⟩
  case round =>
    obtain ⟨k, rfl, hk, HRN⟩ := hrel
    have HKL := hid (show k < L.length by have := HN.out; omega)
    obtain ⟨a, rfl, ha, a0, a1, a2, a3⟩ := HR.out.at HKL.out
    have i0 : (0 : Int) ≤ (k : Int) := by omega
    have i1 : (k : Int) < (n : Int) := by omega
    by_cases h1 : k + 1 < n
    · have j1 : (k : Int) + 1 < (n : Int) := by omega
      cases hm : (bx L k).m with
      | true =>
        have HQ := hid (show La L i k from ⟨HRN.out.par HKL.out, by unfold en; rw [hm]; rfl⟩)
        rw [hm] at a3
        clear hm a0 a1 a2 ha
        go_wp2
        go_ret
        exact ⟨⟨k, rfl, HQ.out⟩, rfl⟩
      | false =>
        have HQ := hid (HRN.out.next (show en L k = false by unfold en; rw [hm, ← HN.out]; simp; omega))
        rw [hm] at a3
        clear hm a0 a1 a2 ha
        go_wp2
        go_round
        case rel => exact ⟨k + 1, by go_num, by omega, HQ⟩
        case measure => simp [intOf]; omega
    · have j1 : ¬ (k : Int) + 1 < (n : Int) := by omega
      have HQ := hid (show La L i k from ⟨HRN.out.par HKL.out, by unfold en; rw [← HN.out]; simp; omega⟩)
      go_wp2
      go_ret
      exact ⟨⟨k, rfl, HQ.out⟩, rfl⟩
set_option maxHeartbeats 1000000 in
theorem rroom_any (lo : Option Addr) (n c : Nat) (wd fi re ho : Int) (L : List Bx) (i : Nat) (w : World) (hn : n = L.length) (hr : RdB w lo L) (hi : i ≤ n) (o : Okb ⟨wd, fi, re, ho⟩ L) :
    Calls Tryz.prog 37 #[.slice lo n c, .agg #[.int .i64 wd, .int .i64 fi, .int .i64 re, .int .i64 ho], .int .i64 i] w fun e w' => e = .returned (.int .i64 (rm ⟨wd, fi, re, ho⟩ L i)) ∧ Below w.heap.size w w' := by
  have HS := hid (Wrs.new w wd fi re ho)
  have HB := hid (below_box (w := w) (o := .cells #[.int .i64 wd, .int .i64 fi, .int .i64 re, .int .i64 ho] 24))
  have HR := hid (hr.below HB.out)
  obtain ⟨c0, c1, c2, c3⟩ := HS.out.cell
  have h1 := o.wd
  have h2 := o.fi
  have h3 := o.re
  dsimp only at h1 h2 h3
  have hlen : n ≤ 4096 := hn ▸ o.len
  have HN := hid hn
  clear hr hn o
  by_cases h0 : i = 0
  · subst h0
    have HV := hid (show rm ⟨wd, fi, re, ho⟩ L 0 = wd - fi by unfold rm ind; rw [if_pos (by simp [bg])])
    go_enter Tryz.func37, Tryz.ntmps37
    go_wp2
    go_ret
    exact ⟨by rw [HV.out]; rfl, HB.out⟩
  · obtain ⟨j, rfl⟩ : ∃ j, i = j + 1 := ⟨i - 1, by omega⟩
    obtain ⟨a, rfl, ha, a0, a1, a2, a3⟩ := HR.out.at (i := j) (by have := HN.out; omega)
    have i0 : (0 : Int) ≤ (j : Int) := by omega
    have i1 : (j : Int) < (n : Int) := by omega
    have b1 : (((j + 1 : Nat) : Int) == 0) = false := by rw [beq_eq_false_iff_ne]; omega
    have e1 : ((j + 1 : Nat) : Int) - 1 = (j : Int) := by omega
    obtain ⟨x, hx⟩ : ∃ x : Int, x = ((j + 1 : Nat) : Int) := ⟨_, rfl⟩
    rw [← hx] at b1 e1
    rw [← hx]
    have hx1 : IntKind.i64.wrap (x - 1) = (j : Int) := by rw [e1, IntKind.wrap_i64]; omega
    cases hm : (bx L j).m with
    | true =>
      have HV := hid (show rm ⟨wd, fi, re, ho⟩ L (j + 1) = wd - fi by unfold rm ind; rw [if_pos (by simp [bg, hm])])
      rw [hm] at a3
      clear hm a0 a1 a2 h0 hx hi ha
      go_enter Tryz.func37, Tryz.ntmps37
      go_wp2
      go_ret
      exact ⟨by rw [HV.out]; rfl, HB.out⟩
    | false =>
      have HV := hid (show rm ⟨wd, fi, re, ho⟩ L (j + 1) = wd - re by unfold rm ind; rw [if_neg (by simp [bg, hm])])
      rw [hm] at a3
      clear hm a0 a1 a2 h0 hx hi ha
      go_enter Tryz.func37, Tryz.ntmps37
      go_wp2
      go_ret
      exact ⟨by rw [HV.out]; rfl, HB.out⟩
set_option maxHeartbeats 2000000 in
theorem rsize_any (lo : Option Addr) (n c : Nat) (W : Wr) (L : List Bx) (i j : Nat) (w : World) (hn : n = L.length) (hr : RdB w lo L) (hij : i ≤ j) (hj : j < n) (o : Okb W L) :
    Calls Tryz.prog 36 #[.slice lo n c, .int .i64 i, .int .i64 j] w fun e w' => e = .returned (.int .i64 (sz L i j)) ∧ Below w.heap.size w w' := by
  have hlen : n ≤ 4096 := hn ▸ o.len
  have HN := hid hn
  have HR := hid hr
  have HO := hid o
  clear hr hn o
  go_enter Tryz.func36, Tryz.ntmps36
  go_wp2
  go_loopw [7, 8] (fun v7 v8 wr => ∃ (k : Nat) (z : Int), v7 = .int .i64 z ∧ v8 = .int .i64 k ∧ (i ≤ k ∧ k ≤ j) ∧ (0 ≤ z ∧ z ≤ 200000 * (k : Int)) ∧ Hid (z = sm L i (k - i)) ∧ Hid (Below w.heap.size w wr)) (fun _ v8 _ => j - (intOf v8).toNat)
  case atStart => exact ⟨i, 0, rfl, rfl, ⟨Nat.le_refl _, hij⟩, ⟨Int.le_refl _, by omega⟩, by show (0 : Int) = sm L i (i - i); rw [Nat.sub_self]; rfl, Below.refl _ _⟩
  case round =>
    obtain ⟨k, z, rfl, rfl, ⟨hk1, hk2⟩, ⟨hz0, hz1⟩, HZ, HBr⟩ := hrel
    by_cases hlt : k < j
    · have hlti : (k : Int) < (j : Int) := by omega
      obtain ⟨a, rfl, ha, a0, a1, a2, a3⟩ := (HR.out.below HBr.out).at (i := k) (by have := HN.out; omega)
      have hw := HO.out.w k
      have hb := HO.out.b k
      have HZ2 := hid (show z + (bx L k).w + (bx L k).b = sm L i (k + 1 - i) by rw [HZ.out]; exact (sm_at L hk1).symm)
      obtain ⟨xw, hxw⟩ : ∃ x, x = (bx L k).w := ⟨_, rfl⟩
      obtain ⟨xb, hxb⟩ : ∃ x, x = (bx L k).b := ⟨_, rfl⟩
      rw [← hxw] at a0 hw HZ2
      rw [← hxb] at a1 hb HZ2
      have i0 : (0 : Int) ≤ (k : Int) := by omega
      have i1 : (k : Int) < (n : Int) := by omega
      have e1 : IntKind.i64.wrap (z + xw) = z + xw := by rw [IntKind.wrap_i64]; omega
      have e2 : IntKind.i64.wrap (z + xw + xb) = z + xw + xb := by rw [IntKind.wrap_i64]; omega
      clear hxw hxb a2 a3 ha
      go_wp2_with fail
      go_quiet (fail)
      go_wp2
      go_roundw
      case rel => exact ⟨k + 1, z + xw + xb, rfl, by go_num, ⟨by omega, by omega⟩, ⟨by omega, by omega⟩, HZ2, below_drN HBr.out _⟩
      case measure => simp [intOf]; omega
    · have hlti : ¬ (k : Int) < (j : Int) := by omega
      obtain rfl : k = j := by omega
      obtain ⟨a, rfl, ha, a0, a1, a2, a3⟩ := (HR.out.below HBr.out).at (i := k) (by have := HN.out; omega)
      have hw := HO.out.w k
      have hh := HO.out.h k
      have HSZ := hid (show sz L i k = z + (bx L k).w + hy L k by rw [HZ.out]; rfl)
      have i0 : (0 : Int) ≤ (k : Int) := by omega
      have i1 : (k : Int) < (n : Int) := by omega
      go_wp2_with fail
      refine (rlast_any (some a) n c L k wr HN.out (HR.out.below HBr.out) hj hlen).mono ?_
      rintro e w2 ⟨⟨q, rfl, hq⟩, hw2⟩
      obtain rfl := hw2.symm
      clear hw2
      cases he : en L k with
      | true =>
        have hqk := hq.self_iff.2 he
        subst hqk
        have HV := hid (show sz L i q = z + (bx L q).w by rw [HSZ.out]; unfold hy; rw [if_pos he]; omega)
        have b1 : ((q : Int) != (q : Int)) = false := bne_eq_false_iff_eq.2 rfl
        clear hq he a0 a1 a2 a3
        go_wp2
        go_ret
        exact ⟨by rw [HV.out]; rfl, HBr.out⟩
      | false =>
        have hqk : q ≠ k := fun e => by have := hq.self_iff.1 e; rw [he] at this; cases this
        have HV := hid (show sz L i k = z + (bx L k).w + (bx L k).h by rw [HSZ.out]; unfold hy; rw [if_neg (by rw [he]; simp)])
        have b1 : ((k : Int) != (q : Int)) = true := bne_iff_ne.2 (by omega)
        clear hq he a0 a1 a3 hqk
        go_wp2
        go_ret
        exact ⟨by rw [HV.out]; rfl, HBr.out⟩
end Go.Proofs.YtkopefljnhgdkaaGreatDoor
/- The contracts of fits, cost and greedy of the document's side (kerfref16). -/
namespace Go.Proofs.YtkopefljnhgdkaaGreatDoor
open Go.RowKit

theorem mix_skip {P : Program} {ops : Array Oper} {Q : Exit → Act → World → Prop} {S : World → Prop} {fin : Nat → Bool} {o : Oper} {k : Nat} {r : List (Nat × Bool)} {a : Act} {w : World} (h0 : ops[k]? = some o) (hw : Region.wanted o (yielded ops a.tmps) = false) (hS : fin k = false → S w) (h2 : wpMix P ops Q S fin r (a.put o.dst undef) w) : wpMix P ops Q S fin ((k, false) :: r) a w := by
  refine ⟨o, h0, ?_⟩
  rw [if_neg (by rw [hw]; simp)]
  exact ⟨hS, h2⟩
theorem Wrs.dr {W : World} {B : Nat} {wd fi re ho : Int} (h : Wrs W B wd fi re ho) : Wrs W.drew B wd fi re ho := h
theorem lin_iff {W : Wr} {L : List Bx} {i j : Nat} (h : Par L i j) : Lin W L i j ↔ (i = j ∨ sz L i j ≤ rm W L i) := ⟨fun h1 => h1.2, fun h1 => ⟨h, h1⟩⟩
set_option maxHeartbeats 2000000 in
theorem rfits_any (lo : Option Addr) (n c : Nat) (wd fi re ho : Int) (L : List Bx) (i j : Nat) (w : World) (hn : n = L.length) (hr : RdB w lo L) (hp : Par L i j) (o : Okb ⟨wd, fi, re, ho⟩ L) :
    Calls Tryz.prog 26 #[.slice lo n c, .agg #[.int .i64 wd, .int .i64 fi, .int .i64 re, .int .i64 ho], .int .i64 i, .int .i64 j] w fun e w' => (∃ b : Bool, e = .returned (.bool b) ∧ (b = true ↔ Lin ⟨wd, fi, re, ho⟩ L i j)) ∧ Below w.heap.size w w' := by
  have HS := hid (Wrs.new w wd fi re ho)
  have HB := hid (below_box (w := w) (o := .cells #[.int .i64 wd, .int .i64 fi, .int .i64 re, .int .i64 ho] 24))
  have HR := hid (hr.below HB.out)
  have HN := hid hn
  have HO := hid o
  have HP := hid hp
  clear hr hn o hp
  by_cases h0 : i = j
  · subst h0
    have HV := hid (show Lin ⟨wd, fi, re, ho⟩ L i i from (lin_iff HP.out).2 (.inl rfl))
    have b1 : ((i : Int) == (i : Int)) = true := beq_iff_eq.2 rfl
    go_enter Tryz.func26, Tryz.ntmps26
    go_wp2_with fail
    refine wp_region_mix [(0, true), (1, true), (2, true), (3, true), (4, true), (5, true), (6, true), (8, true), (9, true), (10, true), (7, false), (11, false), (12, true), (13, true), (14, true)] (fun w' => Below w.heap.size w w') (fun _ => false) (by kernel_rfl) (by kernel_rfl) (fun j hj => by cases hj) rfl (by kernel_rfl) HB.out.drew ?_
    iterate 4 (refine mix_free ?_ rfl (by kernel_rfl) (fun w' hS => ?_) ?_; (rotate_left; (go_simp; with_reducible rfl); rotate_left))
    iterate 6 (refine mix_pass rfl (by kernel_rfl) ?_)
    iterate 2 (refine mix_skip rfl (by kernel_rfl) (fun _ => HB.out.drew) ?_)
    refine mix_pass rfl (by kernel_rfl) ?_
    iterate 2 (refine mix_free ?_ rfl (by kernel_rfl) (fun w' hS => ?_) ?_; (rotate_left; (go_simp; with_reducible rfl); rotate_left))
    refine mix_end (NoPanic.normal ?_)
    go_simp
    go_wp2
    go_ret
    exact ⟨⟨true, rfl, ⟨fun _ => HV.out, fun _ => rfl⟩⟩, HB.out.drew⟩
  · have HV := hid (show ∀ b : Bool, (b = true ↔ sz L i j ≤ rm ⟨wd, fi, re, ho⟩ L i) → (b = true ↔ Lin ⟨wd, fi, re, ho⟩ L i j) from fun b hb => hb.trans ⟨fun h => (lin_iff HP.out).2 (.inr h), fun h => ((lin_iff HP.out).1 h).resolve_left h0⟩)
    have b1 : ((i : Int) == (j : Int)) = false := by rw [beq_eq_false_iff_ne]; omega
    have HSZ := hid (rsize_any lo n c ⟨wd, fi, re, ho⟩ L i j _ HN.out HR.out.dr HP.out.1 (by have := HP.out.2.1; have := HN.out; omega) HO.out)
    have HRM := hid (fun WW (h : RdB WW lo L) => rroom_any lo n c wd fi re ho L i WW HN.out h (by have := HP.out.1; have := HP.out.2.1; have := HN.out; omega) HO.out)
    obtain ⟨s, hs⟩ : ∃ s, s = sz L i j := ⟨_, rfl⟩
    obtain ⟨r, hr⟩ : ∃ r, r = rm ⟨wd, fi, re, ho⟩ L i := ⟨_, rfl⟩
    rw [← hs] at HSZ HV
    rw [← hr] at HRM HV
    clear h0 hs hr
    go_enter Tryz.func26, Tryz.ntmps26
    go_wp2_with fail
    refine wp_region_mix [(0, true), (1, true), (2, true), (3, true), (4, true), (5, true), (6, true), (8, true), (9, true), (10, true), (7, false), (11, false), (12, true), (13, true), (14, true)] (fun w' => Wrs w' w.heap.size wd fi re ho ∧ Below w.heap.size w w') (fun _ => false) (by kernel_rfl) (by kernel_rfl) (fun j hj => by cases hj) rfl (by kernel_rfl) ⟨HS.out, HB.out.drew⟩ ?_
    iterate 10 (refine mix_free ?_ rfl (by kernel_rfl) (fun w' hS => ?_) ?_; (rotate_left; (obtain ⟨s0, s1, s2, s3⟩ := hS.1.cell; go_simp; with_reducible rfl); rotate_left))
    refine mix_go rfl (by kernel_rfl) fun KK hKK => ?_
    go_simp
    refine HSZ.out.mono ?_
    rintro e w1 ⟨rfl, be1⟩
    have HB1 := hid (show Below w.heap.size w w1 from HB.out.drew.trans (be1.mono HB.out.size))
    have HS1 := hid (show Wrs w1 w.heap.size wd fi re ho from HS.out.dr.kept be1)
    have HR1 := hid (HR.out.dr.below be1)
    refine hKK _ _ (fun _ => ⟨HS1.out, HB1.out⟩) ?_
    clear hKK KK be1
    refine mix_go rfl (by kernel_rfl) fun KK hKK => ?_
    go_simp
    refine (HRM.out w1 HR1.out).mono ?_
    rintro e w2 ⟨rfl, be2⟩
    have HB2 := hid (show Below w.heap.size w w2 from HB1.out.trans (be2.mono HB1.out.size))
    refine hKK _ _ (fun _ => ⟨HS1.out.kept be2, HB2.out⟩) ?_
    clear hKK KK be2
    obtain ⟨b, hb⟩ : ∃ b : Bool, b = decide (s ≤ r) := ⟨_, rfl⟩
    have HBB := hid (HV.out b (by rw [hb]; simp))
    refine mix_free (.bool b) rfl (by kernel_rfl) (fun w' hS => ?_) ?_
    · go_simp
    clear hb
    iterate 2 (refine mix_free ?_ rfl (by kernel_rfl) (fun w' hS => ?_) ?_; (rotate_left; (go_simp; with_reducible rfl); rotate_left))
    refine mix_end (NoPanic.normal ?_)
    go_simp
    go_wp2
    go_ret
    exact ⟨⟨b, rfl, HBB.out⟩, HB2.out⟩
set_option maxHeartbeats 2000000 in
theorem rcost_any (lo : Option Addr) (n c : Nat) (wd fi re ho : Int) (L : List Bx) (i j : Nat) (w : World) (hn : n = L.length) (hr : RdB w lo L) (hl : Lin ⟨wd, fi, re, ho⟩ L i j) (o : Okb ⟨wd, fi, re, ho⟩ L) :
    Calls Tryz.prog 27 #[.slice lo n c, .agg #[.int .i64 wd, .int .i64 fi, .int .i64 re, .int .i64 ho], .int .i64 i, .int .i64 j] w fun e w' => e = .returned (.int .i64 (lc ⟨wd, fi, re, ho⟩ L i j)) ∧ Below w.heap.size w w' := by
  have HS := hid (Wrs.new w wd fi re ho)
  have HB := hid (below_box (w := w) (o := .cells #[.int .i64 wd, .int .i64 fi, .int .i64 re, .int .i64 ho] 24))
  have HR := hid (hr.below HB.out)
  have HN := hid hn
  have hlen : n ≤ 4096 := hn ▸ o.len
  have hjn : j < n := by have := hl.1.2.1; omega
  have hin : i ≤ n := by have := hl.1.1; omega
  have HSZ := hid (rsize_any lo n c ⟨wd, fi, re, ho⟩ L i j _ hn HR.out.dr hl.1.1 hjn o)
  have HRM := hid (fun WW (h : RdB WW lo L) => rroom_any lo n c wd fi re ho L i WW hn h hin o)
  have HLA := hid (fun WW (h : RdB WW lo L) => rlast_any lo n c L j WW hn h hjn hlen)
  have hc := o.line hl
  have hrm := o.room i
  have hsz := o.size (i := i) hl.1.2.1
  have hlow : -300000 ≤ rm ⟨wd, fi, re, ho⟩ L i - sz L i j := by
    rcases hl.2 with e | e
    · subst e
      have := o.w i; have := o.hyp i
      have : sz L i i = (bx L i).w + hy L i := by unfold sz; simp [sm]
      omega
    · omega
  rw [← lcr_lc] at hc
  rw [← lcr_lc]
  obtain ⟨r, hr'⟩ : ∃ r, r = rm ⟨wd, fi, re, ho⟩ L i := ⟨_, rfl⟩
  obtain ⟨s, hs⟩ : ∃ s, s = sz L i j := ⟨_, rfl⟩
  rw [← hr'] at hc hrm hlow HRM
  rw [← hs] at hc hsz hlow HSZ
  rw [← hr', ← hs]
  have hq := sq_le (r - s) 300000 (by omega) (by omega)
  have e : (300000 : Int) * 300000 = 90000000000 := by decide
  rw [e] at hq
  have HQ := hid (IntWalk.wrap64_in (10 * (r - s) * (r - s)) (by rw [Int.mul_assoc]; omega))
  have HQ2 := hid (IntWalk.wrap64_in ((r - s) * (r - s)) (by omega))
  have HEN := hid (show ∀ q, La L j q → (q = j ↔ en L j = true) from fun q h => h.self_iff)
  clear hr hn o hl hr' hs hin e hq
  go_enter Tryz.func27, Tryz.ntmps27
  go_wp2_with fail
  refine wp_region_mix [(0, true), (1, true), (2, true), (4, true), (5, true), (6, true), (3, false), (7, false), (8, true), (9, true)] (fun w' => Wrs w' w.heap.size wd fi re ho ∧ Below w.heap.size w w') (fun _ => false) (by kernel_rfl) (by kernel_rfl) (fun j hj => by cases hj) rfl (by kernel_rfl) ⟨HS.out, HB.out.drew⟩ ?_
  iterate 6 (refine mix_free ?_ rfl (by kernel_rfl) (fun w' hS => ?_) ?_; (rotate_left; (obtain ⟨s0, s1, s2, s3⟩ := hS.1.cell; go_simp; with_reducible rfl); rotate_left))
  refine mix_go rfl (by kernel_rfl) fun KK hKK => ?_
  go_simp
  refine HSZ.out.mono ?_
  rintro e w1 ⟨rfl, be1⟩
  have HB1 := hid (show Below w.heap.size w w1 from HB.out.drew.trans (be1.mono HB.out.size))
  have HS1 := hid (show Wrs w1 w.heap.size wd fi re ho from HS.out.dr.kept be1)
  have HR1 := hid (HR.out.dr.below be1)
  refine hKK _ _ (fun _ => ⟨HS1.out, HB1.out⟩) ?_
  clear hKK KK be1
  refine mix_go rfl (by kernel_rfl) fun KK hKK => ?_
  go_simp
  refine (HRM.out w1 HR1.out).mono ?_
  rintro e w2 ⟨rfl, be2⟩
  have HB2 := hid (show Below w.heap.size w w2 from HB1.out.trans (be2.mono HB1.out.size))
  have HR2 := hid (HR1.out.below be2)
  refine hKK _ _ (fun _ => ⟨HS1.out.kept be2, HB2.out⟩) ?_
  clear hKK KK be2
  iterate 2 (refine mix_free ?_ rfl (by kernel_rfl) (fun w' hS => ?_) ?_; (rotate_left; (go_simp; with_reducible rfl); rotate_left))
  refine mix_end (NoPanic.normal ?_)
  go_simp
  by_cases hneg : r - s < 0
  · have HV := hid (show lcr L r s j = 10 * (r - s) * (r - s) by unfold lcr; rw [if_pos hneg])
    go_wp2
    go_ret
    exact ⟨by rw [HV.out, HQ.out]; rfl, HB2.out⟩
  · have hV0 : en L j = true → lcr L r s j = 0 := fun hb => by unfold lcr; rw [if_neg hneg, if_pos hb]
    have hV1 : en L j = false → lcr L r s j = (r - s) * (r - s) := fun hb => by unfold lcr; rw [if_neg hneg, if_neg (by rw [hb]; simp)]
    have HV0 := hid hV0
    have HV1 := hid hV1
    clear hV0 hV1
    go_wp2_with fail
    refine (HLA.out w2 HR2.out).mono ?_
    rintro e w3 ⟨⟨q, rfl, hqla⟩, hw3⟩
    obtain rfl := hw3.symm
    clear hw3
    have hqi := HEN.out q hqla
    cases hb : en L j with
    | true =>
      have hqj := hqi.2 hb
      subst hqj
      have HV := hid (HV0.out hb)
      have b1 : ((q : Int) == (q : Int)) = true := beq_iff_eq.2 rfl
      clear hqla hqi hb
      go_wp2
      go_ret
      exact ⟨by rw [HV.out]; rfl, HB2.out⟩
    | false =>
      have HV := hid (HV1.out hb)
      have b1 : ((j : Int) == (q : Int)) = false := by rw [beq_eq_false_iff_ne]; intro e; have := hqi.1 (by omega); rw [hb] at this; cases this
      clear hqla hqi hb
      go_wp2
      go_ret
      exact ⟨by rw [HV.out, HQ2.out]; rfl, HB2.out⟩
end Go.Proofs.YtkopefljnhgdkaaGreatDoor
/- The contract of greedy of the document's side (kerfref16). -/
namespace Go.Proofs.YtkopefljnhgdkaaGreatDoor
open Go.RowKit Go.Shelf

/-- The greatest last box below j of a line that fits. -/
structure Gj (W : Wr) (L : List Bx) (i j b : Nat) : Prop where
  lin : Lin W L i b
  lt : b < j ∨ b = i
  all : ∀ k, k < j → Lin W L i k → k ≤ b
theorem Gj.yes {W : Wr} {L : List Bx} {i j b : Nat} (_h : Gj W L i j b) (hl : Lin W L i j) : Gj W L i (j + 1) j := ⟨hl, .inl (Nat.lt_succ_self _), fun k hk _ => by omega⟩
theorem Gj.no {W : Wr} {L : List Bx} {i j b : Nat} (h : Gj W L i j b) (hl : ¬ Lin W L i j) : Gj W L i (j + 1) b := ⟨h.lin, h.lt.imp (fun h => by omega) id, fun k hk hk2 => by
  rcases Nat.eq_or_lt_of_le (Nat.le_of_lt_succ hk) with e | e
  · rw [e] at hk2; exact absurd hk2 hl
  · exact h.all k e hk2⟩
theorem Gj.gr {W : Wr} {L : List Bx} {i j b q : Nat} (h : Gj W L i j b) (hq : La L i q) (hj : q < j) : Gr W L i b := ⟨h.lin, fun k hk => h.all k (by have := (hq.par.1 hk.1).2; omega) hk⟩
set_option maxHeartbeats 4000000 in
theorem rgreedy_any (lo : Option Addr) (n c : Nat) (wd fi re ho : Int) (L : List Bx) (w : World) (hn : n = L.length) (hr : RdB w lo L) (o : Okb ⟨wd, fi, re, ho⟩ L) :
    Calls Tryz.prog 21 #[.slice lo n c, .agg #[.int .i64 wd, .int .i64 fi, .int .i64 re, .int .i64 ho]] w fun e w' => GrQ w ⟨wd, fi, re, ho⟩ L e w' := by
  obtain ⟨i0, hi3, hz0, hz1, hz2⟩ := info_parts Tryz.info3
  have HI := hid (And.intro hi3 (And.intro hz0 (And.intro hz1 hz2)))
  clear hi3 hz0 hz1 hz2
  have HS := hid (Wrs.new w wd fi re ho)
  have HB := hid (below_box (w := w) (o := .cells #[.int .i64 wd, .int .i64 fi, .int .i64 re, .int .i64 ho] 24))
  have HN := hid hn
  have HR0 := hid hr
  have HO := hid o
  have hlen : n ≤ 4096 := hn ▸ o.len
  clear hr hn o
  go_enter Tryz.func21, Tryz.ntmps21
  go_wp2
  go_loopw [5, 6] (fun v5 v6 wr => ∃ (first : Nat) (es : List Int) (eo : Option Addr) (el ec : Nat), v5 = .slice eo el ec ∧ v6 = .int .i64 first ∧ first ≤ n ∧ el ≤ first ∧ Hid (el = es.length) ∧ Hid (wr.ownsRow (w.heap.size + 1) 3 1 (.slice eo el ec) el (i64s es)) ∧ Hid (∀ t, GrL ⟨wd, fi, re, ho⟩ L first t → GrL ⟨wd, fi, re, ho⟩ L 0 (es ++ t)) ∧ Hid (Below (w.heap.size + 1) (w.alloc (.cells #[.int .i64 wd, .int .i64 fi, .int .i64 re, .int .i64 ho] 24)) wr)) (fun _ v6 _ => n - (intOf v6).toNat)
  case atStart => exact ⟨0, [], none, 0, 0, rfl, rfl, Nat.zero_le _, Nat.le_refl _, rfl, own_nil _ _ _ _, fun t ht => ht, box_self⟩
  case round =>
    obtain ⟨first, es, eo, el, ec, rfl, rfl, hf, hel, HEL, HOW, HEV, HBr⟩ := hrel
    have HBW := hid (box_trans HBr.out)
    have hws : w.heap.size + 1 ≤ wr.heap.size := by have := HBr.out.size; simpa using this
    by_cases hlt : first < n
    · have hlti : (first : Int) < (n : Int) := by omega
      obtain ⟨nr, hnr⟩ : ∃ nr, nr = wr := ⟨_, rfl⟩
      go_wp2_with fail
      refine (rlast_any lo n c L first wr HN.out (HR0.out.below HBW.out) hlt hlen).mono ?_
      rintro e w2 ⟨⟨q, rfl, hq⟩, hw2⟩
      obtain rfl := hw2.symm
      clear hw2
      have HQ := hid hq
      have hq1 := hq.1.1
      have hq2 : q < n := by have := hq.1.2.1; have := HN.out; omega
      clear hq
      rw [← hnr] at HBr HOW hws HBW
      go_wp2
      go_loopw [7, 9] (fun v7 v9 wi => ∃ (j b : Nat), v7 = .int .i64 b ∧ v9 = .int .i64 j ∧ (first ≤ j ∧ j ≤ q + 1) ∧ b < n ∧ first ≤ b ∧ Hid (Gj ⟨wd, fi, re, ho⟩ L first j b) ∧ Hid (Below nr.heap.size nr wi)) (fun _ v9 _ => q + 1 - (intOf v9).toNat)
      case atStart => exact ⟨first, first, rfl, rfl, ⟨Nat.le_refl _, by omega⟩, hlt, Nat.le_refl _, ⟨Lin.self (by have := HN.out; omega), .inr rfl, fun k hk hl => by have := hl.1.1; omega⟩, by rw [hnr]; exact Below.refl _ _⟩
      case round =>
        clear hnr
        obtain ⟨j, b, rfl, rfl, ⟨hj1, hj2⟩, hbn, hfb, HG, HBi⟩ := hrel
        have HBA := hid (HBr.out.trans (HBi.out.mono hws))
        have hsi := HBi.out.size
        by_cases hjl : j ≤ q
        · have hjli : (j : Int) ≤ (q : Int) := by omega
          have HPJ := hid (HQ.out.par.2 ⟨hj1, hjl⟩)
          obtain ⟨c0, c1, c2, c3⟩ := (show Wrs wr w.heap.size wd fi re ho from (HBA.out.block _ (by omega)).trans HS.out).cell
          go_wp2_with fail
          refine (rfits_any lo n c wd fi re ho L first j wr HN.out (HR0.out.below (box_trans HBA.out)) HPJ.out HO.out).mono ?_
          rintro e w3 ⟨⟨bb, rfl, hbb⟩, be3⟩
          have HB3 := hid (HBi.out.trans (be3.mono hsi))
          have HBB := hid hbb
          clear hbb be3 c0 c1 c2 c3
          cases bb with
          | true =>
            have HG2 := hid (HG.out.yes (HBB.out.1 rfl))
            clear HBB
            go_wp2
            go_roundw
            case rel => exact ⟨j + 1, j, rfl, by go_num, ⟨by omega, by omega⟩, by omega, hj1, HG2, HB3⟩
            case measure => simp [intOf]; omega
          | false =>
            have HG2 := hid (HG.out.no (fun h => by have := HBB.out.2 h; cases this))
            clear HBB
            go_wp2
            go_roundw
            case rel => exact ⟨j + 1, b, rfl, by go_num, ⟨by omega, by omega⟩, hbn, hfb, HG2, HB3⟩
            case measure => simp [intOf]; omega
        · have hjli : ¬ (j : Int) ≤ (q : Int) := by omega
          have HGR := hid (HG.out.gr HQ.out (by omega))
          have HE2 := hid (GrL.snoc HEV.out HGR.out)
          have HOWi := hid (own_same HOW.out (fun k hk hkl => HBi.out.block k hkl))
          have hwi : w.heap.size + 1 ≤ wr.heap.size := by omega
          have HNX := hid (show ∀ (g5 ec5 : Nat) (w5 : World), w5.ownsRow (w.heap.size + 1) 3 1 (.slice (some ⟨g5, 0, none⟩) (el + 1) ec5) (el + 1) (i64s es ++ [.int .i64 (b : Int)]) → (wr.alloc (.cells #[.int .i64 (b : Int)] 3)).grownBy w5 (Value.ownBlock (.slice eo el ec)) →
              w5.ownsRow (w.heap.size + 1) 3 1 (.slice (some ⟨g5, 0, none⟩) (el + 1) ec5) (el + 1) (i64s (es ++ [(b : Int)])) ∧ Below (w.heap.size + 1) (w.alloc (.cells #[.int .i64 wd, .int .i64 fi, .int .i64 re, .int .i64 ho] 24)) w5 by
            intro g5 ec5 w5 o5 gr5
            exact ⟨by rw [i64s_snoc]; exact o5, (HBA.out.alloc (by omega) _).grown gr5 (by simp; omega) (fun k hk => (HOWi.out.lt k hk).1)⟩)
          go_wp2_with (at_builtin; refine wpList_append_lies _ rfl _ _ 33 rfl (w.heap.size + 1) 3 i0 (.int .i64 0) 1 8 Tryz.underlying33 HI.out.1 HI.out.2.1 HI.out.2.2.1 HI.out.2.2.2 rfl (by decide) (.slice eo el ec) el (i64s es) rfl (HOWi.out.alloc _) ⟨wr.heap.size, 0, none⟩ 1 1 [.int .i64 (b : Int)] rfl rfl (news_one wr _ 3) (i64s_one [(b : Int)]) (by decide) (by unfold maxLen; omega) (by omega) (by simp; omega) (wr.heap.size + 1) (by simp) ?_; intro g5 ec5 w5 o5 gr5 hl5 hlt5; obtain ⟨hO5, hB5⟩ := HNX.out g5 ec5 w5 o5 gr5; have HO5 := hid hO5; have HB5 := hid hB5; clear hO5 hB5 o5 gr5 hl5 hlt5)
          go_roundw
          case rel => exact ⟨b + 1, es ++ [(b : Int)], _, el + 1, _, rfl, by go_num, by omega, by omega, by show el + 1 = _; rw [List.length_append, ← HEL.out]; rfl, HO5, HE2, HB5⟩
          case measure => simp [intOf]; omega
    · have hlti : ¬ (first : Int) < (n : Int) := by omega
      have HQ := hid (HEV.out [] (show first = L.length by have := HN.out; omega))
      go_wp2
      go_ret
      exact ⟨es, eo, el, ec, rfl, HEL.out, own_mono' HOW.out (by omega), by have := HQ.out; rwa [List.append_nil] at this, HBW.out⟩
end Go.Proofs.YtkopefljnhgdkaaGreatDoor
/- The document's table of best ways (kerfref16) in memory. -/
namespace Go.Proofs.YtkopefljnhgdkaaGreatDoor
open Go.RowKit Go.Shelf

/-- A way in a box. -/
def WyR (W : World) (B : Nat) (x : Way) : Prop := W.heap[B]? = some (.cells #[.int .i64 x.c, .int .i64 x.l, .int .i64 (x.e : Nat)] 76 (0, 0))
theorem WyR.lt {W : World} {B : Nat} {x : Way} (h : WyR W B x) : B < W.heap.size := (Array.getElem?_eq_some_iff.1 h).1
theorem WyR.cell {W : World} {B : Nat} {x : Way} (h : WyR W B x) : W.cell? ⟨B, 0, none⟩ = some (.int .i64 x.c) ∧ W.cell? ⟨B, 1, none⟩ = some (.int .i64 x.l) ∧ W.cell? ⟨B, 2, none⟩ = some (.int .i64 (x.e : Nat)) := by
  unfold WyR at h
  refine ⟨?_, ?_, ?_⟩ <;> simp [World.cell?, h]
theorem WyR.new (w : World) (x : Way) : WyR (w.alloc (.cells #[.int .i64 x.c, .int .i64 x.l, .int .i64 (x.e : Nat)] 76)) w.heap.size x := World.alloc_heap_new w _
theorem WyR.kept {W W' : World} {B : Nat} {x : Way} (h : WyR W B x) (hb : Below W.heap.size W W') : WyR W' B x := (hb.block _ h.lt).trans h
theorem WyR.frz {W : World} {B : Nat} {x : Way} (h : WyR W B x) : W.frozen? ⟨B, 0, none⟩ = false ∧ W.frozen? ⟨B, 1, none⟩ = false ∧ W.frozen? ⟨B, 2, none⟩ = false := by
  unfold WyR at h
  refine ⟨?_, ?_, ?_⟩ <;> simp [World.frozen?, h]
theorem WyR.st {W : World} {B : Nat} {x : Way} (h : WyR W B x) (y : Way) : WyR (st3 W B (.int .i64 y.c) (.int .i64 y.l) (.int .i64 (y.e : Nat))) B y := st3_at h
/-- A table of ways in memory, whole: from k on it holds T. -/
structure TbR (W : World) (g : Nat) (T : Nat → Way) (k n : Nat) : Prop where
  blk : ∃ cs : Array Value, W.heap[g]? = some (.cells cs 76 (0, 0)) ∧ cs.size = (n + 1) * 3 ∧ ∀ j, k ≤ j → j ≤ n → cs[j * 3]? = some (.int .i64 (T j).c) ∧ cs[j * 3 + 1]? = some (.int .i64 (T j).l) ∧ cs[j * 3 + 2]? = some (.int .i64 ((T j).e : Nat))
theorem TbR.rd {W : World} {g : Nat} {T : Nat → Way} {k n : Nat} (h : TbR W g T k n) : RdT W g T k n := by
  obtain ⟨cs, h1, h2, h3⟩ := h.blk
  refine ⟨(Array.getElem?_eq_some_iff.1 h1).1, fun j hj hn => ?_⟩
  obtain ⟨a, b, c⟩ := h3 j hj hn
  refine ⟨?_, ?_, ?_⟩
  · rw [cell_of_row _ g (j * 3) cs _ _ h1]; exact a
  · rw [cell_of_row _ g (j * 3 + 1) cs _ _ h1]; exact b
  · rw [cell_of_row _ g (j * 3 + 2) cs _ _ h1]; exact c
theorem TbR.keep {W W' : World} {g : Nat} {T : Nat → Way} {k n : Nat} (h : TbR W g T k n) (hb : W'.heap[g]? = W.heap[g]?) : TbR W' g T k n := by
  obtain ⟨cs, h1, h2, h3⟩ := h.blk
  exact ⟨cs, hb.trans h1, h2, h3⟩
theorem TbR.lt {W : World} {g : Nat} {T : Nat → Way} {k n : Nat} (h : TbR W g T k n) : g < W.heap.size := by
  obtain ⟨cs, h1, _⟩ := h.blk
  exact (Array.getElem?_eq_some_iff.1 h1).1
theorem TbR.st {W : World} {g : Nat} {T : Nat → Way} {i n : Nat} (h : TbR W g T (i + 1) n) (hi : i ≤ n) (x : Way) : TbR (stw W g (i * 3) (.int .i64 x.c) (.int .i64 x.l) (.int .i64 (x.e : Nat))) g (fun j => if j = i then x else T j) i n := by
  obtain ⟨cs, h1, h2, h3⟩ := h.blk
  have e1 := heap_setCell_same W g (i * 3) cs _ (.int .i64 x.c) h1
  have e2 := heap_setCell_same _ g (i * 3 + 1) _ _ (.int .i64 x.l) e1
  have e3 := heap_setCell_same _ g (i * 3 + 2) _ _ (.int .i64 (x.e : Nat)) e2
  refine ⟨_, e3, by simp [h2], fun j hj hn => ?_⟩
  by_cases e : j = i
  · subst e
    simp only [if_true]
    have s0 : j * 3 < cs.size := by omega
    have s1 : j * 3 + 1 < cs.size := by omega
    have s2 : j * 3 + 2 < cs.size := by omega
    refine ⟨?_, ?_, ?_⟩ <;> simp [s0, s1, s2]
  · simp only [e, if_false]
    obtain ⟨a, b, c⟩ := h3 j (by omega) hn
    refine ⟨?_, ?_, ?_⟩
    · rw [Array.getElem?_setIfInBounds_ne (by omega), Array.getElem?_setIfInBounds_ne (by omega), Array.getElem?_setIfInBounds_ne (by omega)]; exact a
    · rw [Array.getElem?_setIfInBounds_ne (by omega), Array.getElem?_setIfInBounds_ne (by omega), Array.getElem?_setIfInBounds_ne (by omega)]; exact b
    · rw [Array.getElem?_setIfInBounds_ne (by omega), Array.getElem?_setIfInBounds_ne (by omega), Array.getElem?_setIfInBounds_ne (by omega)]; exact c
theorem TbR.cells {W : World} {g : Nat} {T : Nat → Way} {k n : Nat} (h : TbR W g T k n) {i : Nat} (hi : i ≤ n) : (∃ v0, W.cell? ⟨g, i * 3, none⟩ = some v0) ∧ (∃ v1, W.cell? ⟨g, i * 3 + 1, none⟩ = some v1) ∧ (∃ v2, W.cell? ⟨g, i * 3 + 2, none⟩ = some v2) ∧ ∀ o, W.frozen? ⟨g, o, none⟩ = false := by
  obtain ⟨cs, h1, h2, h3⟩ := h.blk
  refine ⟨⟨cs[i * 3]'(by omega), ?_⟩, ⟨cs[i * 3 + 1]'(by omega), ?_⟩, ⟨cs[i * 3 + 2]'(by omega), ?_⟩, fun o => by simp [World.frozen?, h1]⟩
  · rw [cell_of_row _ g _ cs _ _ h1]; exact Array.getElem?_eq_getElem _
  · rw [cell_of_row _ g _ cs _ _ h1]; exact Array.getElem?_eq_getElem _
  · rw [cell_of_row _ g _ cs _ _ h1]; exact Array.getElem?_eq_getElem _
theorem TbR.up {W : World} {g : Nat} {T U : Nat → Way} {i k n : Nat} (h : TbR W g T i n) (hk : i ≤ k) (hu : ∀ j, k ≤ j → T j = U j) : TbR W g U k n := by
  obtain ⟨cs, h1, h2, h3⟩ := h.blk
  exact ⟨cs, h1, h2, fun j hj hn => by rw [← hu j hj]; exact h3 j (by omega) hn⟩
def upd (T : Nat → Way) (i : Nat) (x : Way) : Nat → Way := fun j => if j = i then x else T j
/-- The lines from i on that fit, up to boxes below j. -/
structure Js (W : Wr) (L : List Bx) (i j : Nat) (js : List Nat) : Prop where
  rise : js.Pairwise (· < ·)
  lt : ∀ x ∈ js, x < j
  lin : ∀ x ∈ js, Lin W L i x
  all : ∀ x, x < j → Lin W L i x → x ∈ js
theorem Js.nil (W : Wr) (L : List Bx) (i : Nat) : Js W L i i [] := ⟨.nil, fun _ h => (by cases h), fun _ h => (by cases h), fun x hx hl => by have := hl.1.1; omega⟩
theorem Js.yes {W : Wr} {L : List Bx} {i j : Nat} {js : List Nat} (h : Js W L i j js) (hl : Lin W L i j) : Js W L i (j + 1) (js ++ [j]) := by
  refine ⟨?_, fun x hx => ?_, fun x hx => ?_, fun x hx hlx => ?_⟩
  · rw [List.pairwise_append]
    refine ⟨h.rise, List.pairwise_singleton _ _, fun a ha b hb => ?_⟩
    have : b = j := by simpa using hb
    rw [this]; exact h.lt a ha
  · rcases List.mem_append.1 hx with h1 | h1
    · have := h.lt x h1; omega
    · have : x = j := by simpa using h1
      omega
  · rcases List.mem_append.1 hx with h1 | h1
    · exact h.lin x h1
    · have : x = j := by simpa using h1
      rw [this]; exact hl
  · rcases Nat.eq_or_lt_of_le (Nat.le_of_lt_succ hx) with e | e
    · simp [e]
    · exact List.mem_append_left _ (h.all x e hlx)
theorem Js.no {W : Wr} {L : List Bx} {i j : Nat} {js : List Nat} (h : Js W L i j js) (hl : ¬ Lin W L i j) : Js W L i (j + 1) js :=
  ⟨h.rise, fun x hx => by have := h.lt x hx; omega, h.lin, fun x hx hlx => by
    rcases Nat.eq_or_lt_of_le (Nat.le_of_lt_succ hx) with e | e
    · rw [e] at hlx; exact absurd hlx hl
    · exact h.all x e hlx⟩
theorem Js.best {W : Wr} {L : List Bx} {i j q : Nat} {js : List Nat} (o : Okb W L) (h : Js W L i j js) (hi : i < L.length) (hq : La L i q) (hj : q < j) {T : Nat → Way} (hT : ∀ k, i < k → k ≤ L.length → TOk L T k) :
    js ≠ [] ∧ Best W L T i (bstL W L T i js) ∧ (0 ≤ (bstL W L T i js).c ∧ (bstL W L T i js).c ≤ 1000000000000 * ((L.length - i : Nat) : Int)) ∧ 0 ≤ (bstL W L T i js).l ∧ (bstL W L T i js).l ≤ ((L.length - i : Nat) : Int) := by
  have hmem : i ∈ js := h.all i (by have := hq.1.1; omega) (Lin.self hi)
  rcases bstL_is o T i hT js h.rise h.lin with ⟨e, _⟩ | ⟨h1, h2, h3⟩
  · rw [e] at hmem; cases hmem
  · have hl := h.lin _ h1
    refine ⟨fun e => (by rw [e] at hmem; cases hmem), ⟨hl, h2, fun k hk => h3 k (h.all k (by have := (hq.par.1 hk.1).2; omega) hk)⟩, ?_⟩
    have := wy_small o hl (hT _ (by have := hl.1.1; omega) hl.1.2.1)
    rw [← h2] at this
    exact this
/-- The first line is taken, whatever it costs. -/
theorem bst1_first {W : Wr} {L : List Bx} (o : Okb W L) {T : Nat → Way} {i j : Nat} {y : Way} (hl : Lin W L i j) (hT : TOk L T (j + 1)) (h : wy W L T i j = y) : bst1 W L T i way0 j = y := by
  refine bst1_yes h (.inl ?_)
  have h1 := wy_small o hl hT
  rw [h] at h1
  have := o.len
  simp only [way0]
  omega
end Go.Proofs.YtkopefljnhgdkaaGreatDoor
