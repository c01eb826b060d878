/- The walk of RunesOps. -/
import Derived.Test.YtfahbdlcokoghaaDoorAnd
namespace Go.Proofs.YtfahbdlcokoghaaDoor
open Go.RowKit

theorem andF_len : ∀ (n : Nat) (a b : List Rg), (andF n a b).length ≤ a.length + b.length
  | 0, _, _ => by simp [andF]
  | n + 1, [], _ => by simp [andF]
  | n + 1, _ :: _, [] => by simp [andF]
  | n + 1, g :: a, h :: b => by
    rw [andF, List.length_append]
    have e1 : (if max g.1 h.1 ≤ min g.2 h.2 then [(max g.1 h.1, min g.2 h.2)] else []).length ≤ 1 := by split <;> simp
    have e4 : (if g.2 = min g.2 h.2 then andF n a (h :: b) else andF n (g :: a) b).length ≤ a.length + b.length + 1 := by
      split
      · have := andF_len n a (h :: b); simp only [List.length_cons] at this; omega
      · have := andF_len n (g :: a) b; simp only [List.length_cons] at this; omega
    simp only [List.length_cons]
    omega
theorem andN_len (a b : List Rg) : (andN a b).length ≤ a.length + b.length := by
  have h1 := andF_len ((nrm a).length + (nrm b).length) (nrm a) (nrm b)
  have h2 := nrm_len a
  have h3 := nrm_len b
  unfold andN
  omega
theorem minN_len (a b : List Rg) : (minN a b).length ≤ a.length + b.length + 1 := by
  have h1 := andN_len a (nt b)
  have h2 := nt_len b
  unfold minN
  omega

set_option maxHeartbeats 4000000 in
set_option maxRecDepth 100000 in
theorem ops_walk (ao bo : Option Addr) (ac bc : Nat) (a b : List Rg) (w : World) (hT : Lib.Utf8Tabs 0 1 w) (h2 : 2 ≤ w.heap.size) (hac : ao = none → ac = 0) (hbc : bo = none → bc = 0) (ha : RdR w ao a) (hb : RdR w bo b) :
    Calls Tryd.prog 4 #[.slice ao a.length ac, .slice bo b.length bc] w fun e w' => e = .returned (.bool true) ∧ Below w.heap.size w w' := by
  have HT := hid hT
  have HCA := hid hac
  have HCB := hid hbc
  by_cases h15 : (1500 : Int) < a.length
  · clear hT hac hbc ha hb
    go_enter Tryd.func4, Tryd.ntmps4
    go_wp2_with (go_at_call 9; refine (live_any _ (by exact HT.out) (by exact h2)).mono ?_; rintro e w1 ⟨rfl, hb⟩)
    go_ret
    exact ⟨rfl, hb⟩
  by_cases h5 : (1500 : Int) < b.length
  · clear hT hac hbc ha hb
    go_enter Tryd.func4, Tryd.ntmps4
    go_wp2_with (go_at_call 9; refine (live_any _ (by exact HT.out) (by exact h2)).mono ?_; rintro e w1 ⟨rfl, hb⟩)
    go_ret
    exact ⟨rfl, hb⟩
  have HO1 := hid (own_any ao ac a w ha hac (by omega))
  have HLA0 := hid ha
  have HLB0 := hid hb
  clear hT hac hbc ha hb
  go_enter Tryd.func4, Tryd.ntmps4
  go_wp2_with fail
  refine HO1.out.mono ?_
  rintro e w1 ⟨g, cap, rfl, hx1, _, hbw1⟩
  have HBW1 := hid hbw1
  have HX1 := hid hx1
  have HO2 := hid (own_any bo bc b w1 (HLB0.out.below hbw1) HCB.out (by omega))
  clear hx1 hbw1 HO1
  go_wp2_with fail
  refine HO2.out.mono ?_
  rintro e w2 ⟨h, cbp, rfl, hy2, _, hbw2⟩
  have HY := hid hy2
  have HX := hid (HX1.out.below hbw2)
  have HBW := hid (HBW1.out.trans (hbw2.mono HBW1.out.size))
  have HLA := hid (HLA0.out.below HBW.out)
  have HLB := hid (HLB0.out.below HBW.out)
  have HB2 := hid (Below.refl w2.heap.size w2)
  clear hy2 hbw2 HO2 HX1 HBW1 HLA0 HLB0
  have HP1 := hid (or_any (some ⟨g, 0, none⟩) (some ⟨h, 0, none⟩) cap cbp a b w2 (HX.out.below HB2.out).reads.left (HY.out.below HB2.out).reads.left (fun h => by cases h) (fun h => by cases h) (by omega) (by omega))
  go_wp2_with fail
  refine HP1.out.mono ?_
  rintro e w3 ⟨p1, rfl, o1, hbw3⟩
  obtain ⟨po1, pc1, rfl, hp1, _⟩ := rdr_row3 o1
  have HR1 := hid hp1
  have HB3 := hid (HB2.out.trans (hbw3.mono HB2.out.size))
  clear o1 hp1 hbw3 HP1
  have HQ1 := hid (ror_any ao bo ac bc a b w3 (HLA.out.below HB3.out) (HLB.out.below HB3.out) HCA.out HCB.out (by omega) (by omega))
  go_wp2_with fail
  refine HQ1.out.mono ?_
  rintro e w4 ⟨q1, rfl, r1, hbw4⟩
  obtain ⟨qo1, qc1, rfl, hq1, _⟩ := rdr_row3 r1
  have HS1 := hid (same_eq po1 qo1 pc1 qc1 _ _ true (decide_eq_true rfl) w4 (HR1.out.below hbw4) hq1 (by have := orN_len a b; omega))
  have HB4 := hid (HB3.out.trans (hbw4.mono HB3.out.size))
  clear r1 hq1 hbw4 HQ1 HR1
  go_wp2_with fail
  refine HS1.out.mono ?_
  rintro e w5 ⟨rfl, hbw5⟩
  have HB5 := hid (HB4.out.trans (hbw5.mono HB4.out.size))
  clear hbw5 HS1
  have HP2 := hid (and_any (some ⟨g, 0, none⟩) (some ⟨h, 0, none⟩) cap cbp a b w5 (HX.out.below HB5.out).reads.left (HY.out.below HB5.out).reads.left (by omega) (by omega))
  go_wp2_with fail
  refine HP2.out.mono ?_
  rintro e w6 ⟨p2, rfl, o2, hbw6⟩
  obtain ⟨po2, pc2, rfl, hp2, _⟩ := rdr_row3 o2
  have HR2 := hid hp2
  have HB6 := hid (HB5.out.trans (hbw6.mono HB5.out.size))
  clear o2 hp2 hbw6 HP2
  have HQ2 := hid (rand_any ao bo ac bc a b w6 (HLA.out.below HB6.out) (HLB.out.below HB6.out) (by omega) (by omega))
  go_wp2_with fail
  refine HQ2.out.mono ?_
  rintro e w7 ⟨q2, rfl, r2, hbw7⟩
  obtain ⟨qo2, qc2, rfl, hq2, _⟩ := rdr_row3 r2
  have HS2 := hid (same_eq po2 qo2 pc2 qc2 _ _ true (decide_eq_true rfl) w7 (HR2.out.below hbw7) hq2 (by have := andN_len a b; omega))
  have HB7 := hid (HB6.out.trans (hbw7.mono HB6.out.size))
  clear r2 hq2 hbw7 HQ2 HR2
  go_wp2_with fail
  refine HS2.out.mono ?_
  rintro e w8 ⟨rfl, hbw8⟩
  have HB8 := hid (HB7.out.trans (hbw8.mono HB7.out.size))
  clear hbw8 HS2
  have HP3 := hid (minus_any (some ⟨g, 0, none⟩) (some ⟨h, 0, none⟩) cap cbp a b w8 (HX.out.below HB8.out).reads.left (HY.out.below HB8.out).reads.left (by omega) (by omega))
  go_wp2_with fail
  refine HP3.out.mono ?_
  rintro e w9 ⟨p3, rfl, o3, hbw9⟩
  obtain ⟨po3, pc3, rfl, hp3, _⟩ := rdr_row3 o3
  have HR3 := hid hp3
  have HB9 := hid (HB8.out.trans (hbw9.mono HB8.out.size))
  clear o3 hp3 hbw9 HP3
  have HQ3 := hid (rminus_any ao bo ac bc a b w9 (HLA.out.below HB9.out) (HLB.out.below HB9.out) (by omega) (by omega))
  go_wp2_with fail
  refine HQ3.out.mono ?_
  rintro e w10 ⟨q3, rfl, r3, hbw10⟩
  obtain ⟨qo3, qc3, rfl, hq3, _⟩ := rdr_row3 r3
  have HS3 := hid (same_eq po3 qo3 pc3 qc3 _ _ true (decide_eq_true rfl) w10 (HR3.out.below hbw10) hq3 (by have := minN_len a b; omega))
  have HB10 := hid (HB9.out.trans (hbw10.mono HB9.out.size))
  clear r3 hq3 hbw10 HQ3 HR3
  go_wp2_with fail
  refine HS3.out.mono ?_
  rintro e w11 ⟨rfl, hbw11⟩
  have HB11 := hid (HB10.out.trans (hbw11.mono HB10.out.size))
  clear hbw11 HS3
  have HP4 := hid (not_any (some ⟨g, 0, none⟩) cap a w11 (HX.out.below HB11.out).reads.left (by omega))
  go_wp2_with fail
  refine HP4.out.mono ?_
  rintro e w12 ⟨p4, rfl, o4, hbw12⟩
  obtain ⟨po4, pc4, rfl, hp4, _⟩ := rdr_row3 o4
  have HR4 := hid hp4
  have HB12 := hid (HB11.out.trans (hbw12.mono HB11.out.size))
  clear o4 hp4 hbw12 HP4
  have HQ4 := hid (rnot_any ao ac a w12 (HLA.out.below HB12.out) (by omega))
  go_wp2_with fail
  refine HQ4.out.mono ?_
  rintro e w13 ⟨q4, rfl, r4, hbw13⟩
  obtain ⟨qo4, qc4, rfl, hq4, _⟩ := rdr_row3 r4
  have HS4 := hid (same_eq po4 qo4 pc4 qc4 _ _ true (decide_eq_true rfl) w13 (HR4.out.below hbw13) hq4 (by have := nt_len a; omega))
  have HB13 := hid (HB12.out.trans (hbw13.mono HB12.out.size))
  clear r4 hq4 hbw13 HQ4 HR4
  go_wp2_with fail
  refine HS4.out.mono ?_
  rintro e w14 ⟨rfl, hbw14⟩
  have HB14 := hid (HB13.out.trans (hbw14.mono HB13.out.size))
  clear hbw14 HS4
  have HK1 := hid (kept_any _ g cap ao ac a w14 (HX.out.below HB14.out) (HLA.out.below HB14.out) (by omega))
  go_wp2_with fail
  refine HK1.out.mono ?_
  rintro e w15 ⟨rfl, hbk1⟩
  have HB15 := hid (HB14.out.trans (hbk1.mono HB14.out.size))
  have HK2 := hid (kept_any _ h cbp bo bc b w15 (HY.out.below HB15.out) (HLB.out.below HB15.out) (by omega))
  clear hbk1 HK1
  go_wp2_with fail
  refine HK2.out.mono ?_
  rintro e w16 ⟨rfl, hbk2⟩
  have HZ1 := hid (HBW.out.trans ((HB15.out.trans (hbk2.mono HB15.out.size)).mono HBW.out.size))
  clear hbk2 HK2
  go_wp2_with fail
  refine (live_any _ (tabs_below HT.out h2 HZ1.out) (by have := HZ1.out.size; omega)).mono ?_
  rintro e z2 ⟨rfl, hz2⟩
  have HZ2 := hid (HZ1.out.trans (hz2.mono HZ1.out.size))
  clear hz2
  go_wp2
  go_ret
  exact ⟨rfl, HZ2.out⟩
end Go.Proofs.YtfahbdlcokoghaaDoor
