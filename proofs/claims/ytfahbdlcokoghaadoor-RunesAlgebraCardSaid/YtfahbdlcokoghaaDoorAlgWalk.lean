/- The walk of RunesAlgebra. -/
import Derived.Test.YtfahbdlcokoghaaDoorAlgMath
import Derived.Test.YtfahbdlcokoghaaDoorNormWalk
namespace Go.Proofs.YtfahbdlcokoghaaDoor
open Go.RowKit

set_option maxHeartbeats 8000000 in
set_option maxRecDepth 100000 in
theorem alg_walk (ao bo co eo : Option Addr) (ac bc cc ec : Nat) (a b c : List Rg) (E : List Int) (w : World) (hT : Lib.Utf8Tabs 0 1 w) (h2 : 2 ≤ w.heap.size) (hac : ao = none → ac = 0) (hbc : bo = none → bc = 0) (hcc : co = none → cc = 0) (ha : RdR w ao a) (hb : RdR w bo b) (hc : RdR w co c) (hE : RdI w eo E) (sa : a.length ≤ 1125899906842624) (sb : b.length ≤ 1125899906842624) (sd : c.length ≤ 1125899906842624) :
    Calls Tryd.prog 5 #[.slice ao a.length ac, .slice bo b.length bc, .slice co c.length cc, .slice eo E.length ec] w fun e w' => e = .returned (.bool true) ∧ Below w.heap.size w w' := by
  have HT := hid hT
  have HCa := hid hac
  have HCb := hid hbc
  have HCc := hid hcc
  have HRa := hid ha
  have HRb := hid hb
  have HRc := hid hc
  have HRE := hid hE
  clear hT hac hbc hcc ha hb hc hE
  by_cases h15 : (1500 : Int) < (a.length : Int) + b.length + c.length
  · go_enter Tryd.func5, Tryd.ntmps5
    go_wp2_with (go_at_call 9; refine (live_any _ (by exact HT.out) (by exact h2)).mono ?_; rintro e w1 ⟨rfl, hb⟩)
    go_ret
    exact ⟨rfl, hb⟩
  by_cases h5 : (500 : Int) < E.length
  · go_enter Tryd.func5, Tryd.ntmps5
    go_wp2_with (go_at_call 9; refine (live_any _ (by exact HT.out) (by exact h2)).mono ?_; rintro e w1 ⟨rfl, hb⟩)
    go_ret
    exact ⟨rfl, hb⟩
  have hla : a.length ≤ 1500 := by omega
  have hlb : b.length ≤ 1500 := by omega
  have hlc : c.length ≤ 1500 := by omega
  have HB := hid (Below.refl w.heap.size w)
  go_enter Tryd.func5, Tryd.ntmps5
  have HP := hid (norm_any ao ac a w HRa.out (by omega))
  go_wp2_with fail
  refine HP.out.mono ?_
  rintro e w1 ⟨v, rfl, o, hb⟩
  obtain ⟨no, nc, rfl, hr, hc⟩ := rdr_row3 o
  replace HRa := hid (HRa.out.below hb)
  replace HRb := hid (HRb.out.below hb)
  replace HRc := hid (HRc.out.below hb)
  replace HRE := hid (HRE.out.below hb)
  replace HB := hid (HB.out.trans (hb.mono HB.out.size))
  have HRn := hid hr
  have HCn := hid hc
  have hln : (nrm a).length ≤ 1500 := Nat.le_trans (nrm_len a) (by omega)
  clear hr hc o hb HP
  have HRz := hid (show RdR w1 none [] from fun k g hk => (by cases hk))
  have HCz := hid (show (none : Option Addr) = none → 0 = 0 from fun _ => rfl)
  have hlz : ([] : List Rg).length ≤ 0 := Nat.le_refl _
  have HP := hid (not_any none 0 [] w1 HRz.out (by omega))
  go_wp2_with fail
  refine HP.out.mono ?_
  rintro e w2 ⟨v, rfl, o, hb⟩
  obtain ⟨uo, uc, rfl, hr, hc⟩ := rdr_row3 o
  replace HRa := hid (HRa.out.below hb)
  replace HRb := hid (HRb.out.below hb)
  replace HRc := hid (HRc.out.below hb)
  replace HRn := hid (HRn.out.below hb)
  replace HRz := hid (HRz.out.below hb)
  replace HRE := hid (HRE.out.below hb)
  replace HB := hid (HB.out.trans (hb.mono HB.out.size))
  have HRu := hid hr
  have HCu := hid hc
  have hlu : (nt []).length ≤ 1 := Nat.le_trans (nt_len []) (by omega)
  clear hr hc o hb HP
  clear HRz HCz hlz
  have HP := hid (not_any ao ac a w2 HRa.out (by omega))
  go_wp2_with fail
  refine HP.out.mono ?_
  rintro e w3 ⟨v, rfl, o, hb⟩
  obtain ⟨t3o, t3c, rfl, hr, hc⟩ := rdr_row3 o
  replace HRa := hid (HRa.out.below hb)
  replace HRb := hid (HRb.out.below hb)
  replace HRc := hid (HRc.out.below hb)
  replace HRn := hid (HRn.out.below hb)
  replace HRu := hid (HRu.out.below hb)
  replace HRE := hid (HRE.out.below hb)
  replace HB := hid (HB.out.trans (hb.mono HB.out.size))
  have HRt3 := hid hr
  have HCt3 := hid hc
  have hlt3 : (nt a).length ≤ 1501 := Nat.le_trans (nt_len a) (by omega)
  clear hr hc o hb HP
  have HP := hid (not_any t3o t3c (nt a) w3 HRt3.out (by omega))
  go_wp2_with fail
  refine HP.out.mono ?_
  rintro e w4 ⟨v, rfl, o, hb⟩
  obtain ⟨t4o, t4c, rfl, hr, hc⟩ := rdr_row3 o
  replace HRa := hid (HRa.out.below hb)
  replace HRb := hid (HRb.out.below hb)
  replace HRc := hid (HRc.out.below hb)
  replace HRn := hid (HRn.out.below hb)
  replace HRu := hid (HRu.out.below hb)
  replace HRt3 := hid (HRt3.out.below hb)
  replace HRE := hid (HRE.out.below hb)
  replace HB := hid (HB.out.trans (hb.mono HB.out.size))
  have HRt4 := hid hr
  have HCt4 := hid hc
  have hlt4 : (nt (nt a)).length ≤ 1502 := Nat.le_trans (nt_len (nt a)) (by omega)
  clear hr hc o hb HP
  clear HRt3 HCt3 hlt3
  have HP := hid (same_eq t4o no t4c nc (nt (nt a)) (nrm a) true (decide_eq_true (alg1 a)) w4 HRt4.out HRn.out (by omega))
  go_wp2_with fail
  refine HP.out.mono ?_
  rintro e w5 ⟨rfl, hb⟩
  replace HRa := hid (HRa.out.below hb)
  replace HRb := hid (HRb.out.below hb)
  replace HRc := hid (HRc.out.below hb)
  replace HRn := hid (HRn.out.below hb)
  replace HRu := hid (HRu.out.below hb)
  replace HRt4 := hid (HRt4.out.below hb)
  replace HRE := hid (HRE.out.below hb)
  replace HB := hid (HB.out.trans (hb.mono HB.out.size))
  clear hb HP
  clear HRt4 HCt4 hlt4
  have HP := hid (or_any ao ao ac ac a a w5 HRa.out HRa.out HCa.out HCa.out (by omega) (by omega))
  go_wp2_with fail
  refine HP.out.mono ?_
  rintro e w6 ⟨v, rfl, o, hb⟩
  obtain ⟨t6o, t6c, rfl, hr, hc⟩ := rdr_row3 o
  replace HRa := hid (HRa.out.below hb)
  replace HRb := hid (HRb.out.below hb)
  replace HRc := hid (HRc.out.below hb)
  replace HRn := hid (HRn.out.below hb)
  replace HRu := hid (HRu.out.below hb)
  replace HRE := hid (HRE.out.below hb)
  replace HB := hid (HB.out.trans (hb.mono HB.out.size))
  have HRt6 := hid hr
  have HCt6 := hid hc
  have hlt6 : (orN a a).length ≤ 3000 := Nat.le_trans (orN_len a a) (by omega)
  clear hr hc o hb HP
  have HP := hid (same_eq t6o no t6c nc (orN a a) (nrm a) true (decide_eq_true (alg2 a)) w6 HRt6.out HRn.out (by omega))
  go_wp2_with fail
  refine HP.out.mono ?_
  rintro e w7 ⟨rfl, hb⟩
  replace HRa := hid (HRa.out.below hb)
  replace HRb := hid (HRb.out.below hb)
  replace HRc := hid (HRc.out.below hb)
  replace HRn := hid (HRn.out.below hb)
  replace HRu := hid (HRu.out.below hb)
  replace HRt6 := hid (HRt6.out.below hb)
  replace HRE := hid (HRE.out.below hb)
  replace HB := hid (HB.out.trans (hb.mono HB.out.size))
  clear hb HP
  clear HRt6 HCt6 hlt6
  have HP := hid (and_any ao ao ac ac a a w7 HRa.out HRa.out (by omega) (by omega))
  go_wp2_with fail
  refine HP.out.mono ?_
  rintro e w8 ⟨v, rfl, o, hb⟩
  obtain ⟨t8o, t8c, rfl, hr, hc⟩ := rdr_row3 o
  replace HRa := hid (HRa.out.below hb)
  replace HRb := hid (HRb.out.below hb)
  replace HRc := hid (HRc.out.below hb)
  replace HRn := hid (HRn.out.below hb)
  replace HRu := hid (HRu.out.below hb)
  replace HRE := hid (HRE.out.below hb)
  replace HB := hid (HB.out.trans (hb.mono HB.out.size))
  have HRt8 := hid hr
  have HCt8 := hid hc
  have hlt8 : (andN a a).length ≤ 3000 := Nat.le_trans (andN_len a a) (by omega)
  clear hr hc o hb HP
  have HP := hid (same_eq t8o no t8c nc (andN a a) (nrm a) true (decide_eq_true (alg3 a)) w8 HRt8.out HRn.out (by omega))
  go_wp2_with fail
  refine HP.out.mono ?_
  rintro e w9 ⟨rfl, hb⟩
  replace HRa := hid (HRa.out.below hb)
  replace HRb := hid (HRb.out.below hb)
  replace HRc := hid (HRc.out.below hb)
  replace HRn := hid (HRn.out.below hb)
  replace HRu := hid (HRu.out.below hb)
  replace HRt8 := hid (HRt8.out.below hb)
  replace HRE := hid (HRE.out.below hb)
  replace HB := hid (HB.out.trans (hb.mono HB.out.size))
  clear hb HP
  clear HRt8 HCt8 hlt8
  have HP := hid (not_any ao ac a w9 HRa.out (by omega))
  go_wp2_with fail
  refine HP.out.mono ?_
  rintro e w10 ⟨v, rfl, o, hb⟩
  obtain ⟨t10o, t10c, rfl, hr, hc⟩ := rdr_row3 o
  replace HRa := hid (HRa.out.below hb)
  replace HRb := hid (HRb.out.below hb)
  replace HRc := hid (HRc.out.below hb)
  replace HRn := hid (HRn.out.below hb)
  replace HRu := hid (HRu.out.below hb)
  replace HRE := hid (HRE.out.below hb)
  replace HB := hid (HB.out.trans (hb.mono HB.out.size))
  have HRt10 := hid hr
  have HCt10 := hid hc
  have hlt10 : (nt a).length ≤ 1501 := Nat.le_trans (nt_len a) (by omega)
  clear hr hc o hb HP
  have HP := hid (and_any ao t10o ac t10c a (nt a) w10 HRa.out HRt10.out (by omega) (by omega))
  go_wp2_with fail
  refine HP.out.mono ?_
  rintro e w11 ⟨v, rfl, o, hb⟩
  obtain ⟨t11o, t11c, rfl, hr, hc⟩ := rdr_row3 o
  replace HRa := hid (HRa.out.below hb)
  replace HRb := hid (HRb.out.below hb)
  replace HRc := hid (HRc.out.below hb)
  replace HRn := hid (HRn.out.below hb)
  replace HRu := hid (HRu.out.below hb)
  replace HRt10 := hid (HRt10.out.below hb)
  replace HRE := hid (HRE.out.below hb)
  replace HB := hid (HB.out.trans (hb.mono HB.out.size))
  have HRt11 := hid hr
  have HCt11 := hid hc
  have hlt11 : (andN a (nt a)).length ≤ 3001 := Nat.le_trans (andN_len a (nt a)) (by omega)
  clear hr hc o hb HP
  have hz0 : (andN a (nt a)).length = 0 := by rw [alg4]; rfl
  clear HRt10 HCt10 hlt10
  clear HRt11 HCt11 hlt11
  have HP := hid (not_any ao ac a w11 HRa.out (by omega))
  go_wp2_with fail
  refine HP.out.mono ?_
  rintro e w12 ⟨v, rfl, o, hb⟩
  obtain ⟨t12o, t12c, rfl, hr, hc⟩ := rdr_row3 o
  replace HRa := hid (HRa.out.below hb)
  replace HRb := hid (HRb.out.below hb)
  replace HRc := hid (HRc.out.below hb)
  replace HRn := hid (HRn.out.below hb)
  replace HRu := hid (HRu.out.below hb)
  replace HRE := hid (HRE.out.below hb)
  replace HB := hid (HB.out.trans (hb.mono HB.out.size))
  have HRt12 := hid hr
  have HCt12 := hid hc
  have hlt12 : (nt a).length ≤ 1501 := Nat.le_trans (nt_len a) (by omega)
  clear hr hc o hb HP
  have HP := hid (or_any ao t12o ac t12c a (nt a) w12 HRa.out HRt12.out HCa.out HCt12.out (by omega) (by omega))
  go_wp2_with fail
  refine HP.out.mono ?_
  rintro e w13 ⟨v, rfl, o, hb⟩
  obtain ⟨t13o, t13c, rfl, hr, hc⟩ := rdr_row3 o
  replace HRa := hid (HRa.out.below hb)
  replace HRb := hid (HRb.out.below hb)
  replace HRc := hid (HRc.out.below hb)
  replace HRn := hid (HRn.out.below hb)
  replace HRu := hid (HRu.out.below hb)
  replace HRt12 := hid (HRt12.out.below hb)
  replace HRE := hid (HRE.out.below hb)
  replace HB := hid (HB.out.trans (hb.mono HB.out.size))
  have HRt13 := hid hr
  have HCt13 := hid hc
  have hlt13 : (orN a (nt a)).length ≤ 3001 := Nat.le_trans (orN_len a (nt a)) (by omega)
  clear hr hc o hb HP
  clear HRt12 HCt12 hlt12
  have HP := hid (same_eq t13o uo t13c uc (orN a (nt a)) (nt []) true (decide_eq_true (alg5 a)) w13 HRt13.out HRu.out (by omega))
  go_wp2_with fail
  refine HP.out.mono ?_
  rintro e w14 ⟨rfl, hb⟩
  replace HRa := hid (HRa.out.below hb)
  replace HRb := hid (HRb.out.below hb)
  replace HRc := hid (HRc.out.below hb)
  replace HRn := hid (HRn.out.below hb)
  replace HRu := hid (HRu.out.below hb)
  replace HRt13 := hid (HRt13.out.below hb)
  replace HRE := hid (HRE.out.below hb)
  replace HB := hid (HB.out.trans (hb.mono HB.out.size))
  clear hb HP
  clear HRt13 HCt13 hlt13
  have HP := hid (and_any ao uo ac uc a (nt []) w14 HRa.out HRu.out (by omega) (by omega))
  go_wp2_with fail
  refine HP.out.mono ?_
  rintro e w15 ⟨v, rfl, o, hb⟩
  obtain ⟨t15o, t15c, rfl, hr, hc⟩ := rdr_row3 o
  replace HRa := hid (HRa.out.below hb)
  replace HRb := hid (HRb.out.below hb)
  replace HRc := hid (HRc.out.below hb)
  replace HRn := hid (HRn.out.below hb)
  replace HRu := hid (HRu.out.below hb)
  replace HRE := hid (HRE.out.below hb)
  replace HB := hid (HB.out.trans (hb.mono HB.out.size))
  have HRt15 := hid hr
  have HCt15 := hid hc
  have hlt15 : (andN a (nt [])).length ≤ 1501 := Nat.le_trans (andN_len a (nt [])) (by omega)
  clear hr hc o hb HP
  have HP := hid (same_eq t15o no t15c nc (andN a (nt [])) (nrm a) true (decide_eq_true (alg6 a)) w15 HRt15.out HRn.out (by omega))
  go_wp2_with fail
  refine HP.out.mono ?_
  rintro e w16 ⟨rfl, hb⟩
  replace HRa := hid (HRa.out.below hb)
  replace HRb := hid (HRb.out.below hb)
  replace HRc := hid (HRc.out.below hb)
  replace HRn := hid (HRn.out.below hb)
  replace HRu := hid (HRu.out.below hb)
  replace HRt15 := hid (HRt15.out.below hb)
  replace HRE := hid (HRE.out.below hb)
  replace HB := hid (HB.out.trans (hb.mono HB.out.size))
  clear hb HP
  clear HRt15 HCt15 hlt15
  have HP := hid (or_any ao bo ac bc a b w16 HRa.out HRb.out HCa.out HCb.out (by omega) (by omega))
  go_wp2_with fail
  refine HP.out.mono ?_
  rintro e w17 ⟨v, rfl, o, hb⟩
  obtain ⟨t17o, t17c, rfl, hr, hc⟩ := rdr_row3 o
  replace HRa := hid (HRa.out.below hb)
  replace HRb := hid (HRb.out.below hb)
  replace HRc := hid (HRc.out.below hb)
  replace HRn := hid (HRn.out.below hb)
  replace HRu := hid (HRu.out.below hb)
  replace HRE := hid (HRE.out.below hb)
  replace HB := hid (HB.out.trans (hb.mono HB.out.size))
  have HRt17 := hid hr
  have HCt17 := hid hc
  have hlt17 : (orN a b).length ≤ 3000 := Nat.le_trans (orN_len a b) (by omega)
  clear hr hc o hb HP
  have HP := hid (or_any bo ao bc ac b a w17 HRb.out HRa.out HCb.out HCa.out (by omega) (by omega))
  go_wp2_with fail
  refine HP.out.mono ?_
  rintro e w18 ⟨v, rfl, o, hb⟩
  obtain ⟨t18o, t18c, rfl, hr, hc⟩ := rdr_row3 o
  replace HRa := hid (HRa.out.below hb)
  replace HRb := hid (HRb.out.below hb)
  replace HRc := hid (HRc.out.below hb)
  replace HRn := hid (HRn.out.below hb)
  replace HRu := hid (HRu.out.below hb)
  replace HRt17 := hid (HRt17.out.below hb)
  replace HRE := hid (HRE.out.below hb)
  replace HB := hid (HB.out.trans (hb.mono HB.out.size))
  have HRt18 := hid hr
  have HCt18 := hid hc
  have hlt18 : (orN b a).length ≤ 3000 := Nat.le_trans (orN_len b a) (by omega)
  clear hr hc o hb HP
  have HP := hid (same_eq t17o t18o t17c t18c (orN a b) (orN b a) true (decide_eq_true (alg7 a b)) w18 HRt17.out HRt18.out (by omega))
  go_wp2_with fail
  refine HP.out.mono ?_
  rintro e w19 ⟨rfl, hb⟩
  replace HRa := hid (HRa.out.below hb)
  replace HRb := hid (HRb.out.below hb)
  replace HRc := hid (HRc.out.below hb)
  replace HRn := hid (HRn.out.below hb)
  replace HRu := hid (HRu.out.below hb)
  replace HRt17 := hid (HRt17.out.below hb)
  replace HRt18 := hid (HRt18.out.below hb)
  replace HRE := hid (HRE.out.below hb)
  replace HB := hid (HB.out.trans (hb.mono HB.out.size))
  clear hb HP
  clear HRt17 HCt17 hlt17
  clear HRt18 HCt18 hlt18
  have HP := hid (and_any ao bo ac bc a b w19 HRa.out HRb.out (by omega) (by omega))
  go_wp2_with fail
  refine HP.out.mono ?_
  rintro e w20 ⟨v, rfl, o, hb⟩
  obtain ⟨t20o, t20c, rfl, hr, hc⟩ := rdr_row3 o
  replace HRa := hid (HRa.out.below hb)
  replace HRb := hid (HRb.out.below hb)
  replace HRc := hid (HRc.out.below hb)
  replace HRn := hid (HRn.out.below hb)
  replace HRu := hid (HRu.out.below hb)
  replace HRE := hid (HRE.out.below hb)
  replace HB := hid (HB.out.trans (hb.mono HB.out.size))
  have HRt20 := hid hr
  have HCt20 := hid hc
  have hlt20 : (andN a b).length ≤ 3000 := Nat.le_trans (andN_len a b) (by omega)
  clear hr hc o hb HP
  have HP := hid (and_any bo ao bc ac b a w20 HRb.out HRa.out (by omega) (by omega))
  go_wp2_with fail
  refine HP.out.mono ?_
  rintro e w21 ⟨v, rfl, o, hb⟩
  obtain ⟨t21o, t21c, rfl, hr, hc⟩ := rdr_row3 o
  replace HRa := hid (HRa.out.below hb)
  replace HRb := hid (HRb.out.below hb)
  replace HRc := hid (HRc.out.below hb)
  replace HRn := hid (HRn.out.below hb)
  replace HRu := hid (HRu.out.below hb)
  replace HRt20 := hid (HRt20.out.below hb)
  replace HRE := hid (HRE.out.below hb)
  replace HB := hid (HB.out.trans (hb.mono HB.out.size))
  have HRt21 := hid hr
  have HCt21 := hid hc
  have hlt21 : (andN b a).length ≤ 3000 := Nat.le_trans (andN_len b a) (by omega)
  clear hr hc o hb HP
  have HP := hid (same_eq t20o t21o t20c t21c (andN a b) (andN b a) true (decide_eq_true (alg8 a b)) w21 HRt20.out HRt21.out (by omega))
  go_wp2_with fail
  refine HP.out.mono ?_
  rintro e w22 ⟨rfl, hb⟩
  replace HRa := hid (HRa.out.below hb)
  replace HRb := hid (HRb.out.below hb)
  replace HRc := hid (HRc.out.below hb)
  replace HRn := hid (HRn.out.below hb)
  replace HRu := hid (HRu.out.below hb)
  replace HRt20 := hid (HRt20.out.below hb)
  replace HRt21 := hid (HRt21.out.below hb)
  replace HRE := hid (HRE.out.below hb)
  replace HB := hid (HB.out.trans (hb.mono HB.out.size))
  clear hb HP
  clear HRt20 HCt20 hlt20
  clear HRt21 HCt21 hlt21
  have HP := hid (minus_any ao bo ac bc a b w22 HRa.out HRb.out (by omega) (by omega))
  go_wp2_with fail
  refine HP.out.mono ?_
  rintro e w23 ⟨v, rfl, o, hb⟩
  obtain ⟨t23o, t23c, rfl, hr, hc⟩ := rdr_row3 o
  replace HRa := hid (HRa.out.below hb)
  replace HRb := hid (HRb.out.below hb)
  replace HRc := hid (HRc.out.below hb)
  replace HRn := hid (HRn.out.below hb)
  replace HRu := hid (HRu.out.below hb)
  replace HRE := hid (HRE.out.below hb)
  replace HB := hid (HB.out.trans (hb.mono HB.out.size))
  have HRt23 := hid hr
  have HCt23 := hid hc
  have hlt23 : (minN a b).length ≤ 3001 := Nat.le_trans (minN_len a b) (by omega)
  clear hr hc o hb HP
  have HP := hid (not_any bo bc b w23 HRb.out (by omega))
  go_wp2_with fail
  refine HP.out.mono ?_
  rintro e w24 ⟨v, rfl, o, hb⟩
  obtain ⟨t24o, t24c, rfl, hr, hc⟩ := rdr_row3 o
  replace HRa := hid (HRa.out.below hb)
  replace HRb := hid (HRb.out.below hb)
  replace HRc := hid (HRc.out.below hb)
  replace HRn := hid (HRn.out.below hb)
  replace HRu := hid (HRu.out.below hb)
  replace HRt23 := hid (HRt23.out.below hb)
  replace HRE := hid (HRE.out.below hb)
  replace HB := hid (HB.out.trans (hb.mono HB.out.size))
  have HRt24 := hid hr
  have HCt24 := hid hc
  have hlt24 : (nt b).length ≤ 1501 := Nat.le_trans (nt_len b) (by omega)
  clear hr hc o hb HP
  have HP := hid (and_any ao t24o ac t24c a (nt b) w24 HRa.out HRt24.out (by omega) (by omega))
  go_wp2_with fail
  refine HP.out.mono ?_
  rintro e w25 ⟨v, rfl, o, hb⟩
  obtain ⟨t25o, t25c, rfl, hr, hc⟩ := rdr_row3 o
  replace HRa := hid (HRa.out.below hb)
  replace HRb := hid (HRb.out.below hb)
  replace HRc := hid (HRc.out.below hb)
  replace HRn := hid (HRn.out.below hb)
  replace HRu := hid (HRu.out.below hb)
  replace HRt23 := hid (HRt23.out.below hb)
  replace HRt24 := hid (HRt24.out.below hb)
  replace HRE := hid (HRE.out.below hb)
  replace HB := hid (HB.out.trans (hb.mono HB.out.size))
  have HRt25 := hid hr
  have HCt25 := hid hc
  have hlt25 : (andN a (nt b)).length ≤ 3001 := Nat.le_trans (andN_len a (nt b)) (by omega)
  clear hr hc o hb HP
  clear HRt24 HCt24 hlt24
  have HP := hid (same_eq t23o t25o t23c t25c (minN a b) (andN a (nt b)) true (decide_eq_true (rfl)) w25 HRt23.out HRt25.out (by omega))
  go_wp2_with fail
  refine HP.out.mono ?_
  rintro e w26 ⟨rfl, hb⟩
  replace HRa := hid (HRa.out.below hb)
  replace HRb := hid (HRb.out.below hb)
  replace HRc := hid (HRc.out.below hb)
  replace HRn := hid (HRn.out.below hb)
  replace HRu := hid (HRu.out.below hb)
  replace HRt23 := hid (HRt23.out.below hb)
  replace HRt25 := hid (HRt25.out.below hb)
  replace HRE := hid (HRE.out.below hb)
  replace HB := hid (HB.out.trans (hb.mono HB.out.size))
  clear hb HP
  clear HRt23 HCt23 hlt23
  clear HRt25 HCt25 hlt25
  have HP := hid (or_any ao bo ac bc a b w26 HRa.out HRb.out HCa.out HCb.out (by omega) (by omega))
  go_wp2_with fail
  refine HP.out.mono ?_
  rintro e w27 ⟨v, rfl, o, hb⟩
  obtain ⟨t27o, t27c, rfl, hr, hc⟩ := rdr_row3 o
  replace HRa := hid (HRa.out.below hb)
  replace HRb := hid (HRb.out.below hb)
  replace HRc := hid (HRc.out.below hb)
  replace HRn := hid (HRn.out.below hb)
  replace HRu := hid (HRu.out.below hb)
  replace HRE := hid (HRE.out.below hb)
  replace HB := hid (HB.out.trans (hb.mono HB.out.size))
  have HRt27 := hid hr
  have HCt27 := hid hc
  have hlt27 : (orN a b).length ≤ 3000 := Nat.le_trans (orN_len a b) (by omega)
  clear hr hc o hb HP
  have HP := hid (not_any t27o t27c (orN a b) w27 HRt27.out (by omega))
  go_wp2_with fail
  refine HP.out.mono ?_
  rintro e w28 ⟨v, rfl, o, hb⟩
  obtain ⟨t28o, t28c, rfl, hr, hc⟩ := rdr_row3 o
  replace HRa := hid (HRa.out.below hb)
  replace HRb := hid (HRb.out.below hb)
  replace HRc := hid (HRc.out.below hb)
  replace HRn := hid (HRn.out.below hb)
  replace HRu := hid (HRu.out.below hb)
  replace HRt27 := hid (HRt27.out.below hb)
  replace HRE := hid (HRE.out.below hb)
  replace HB := hid (HB.out.trans (hb.mono HB.out.size))
  have HRt28 := hid hr
  have HCt28 := hid hc
  have hlt28 : (nt (orN a b)).length ≤ 3001 := Nat.le_trans (nt_len (orN a b)) (by omega)
  clear hr hc o hb HP
  clear HRt27 HCt27 hlt27
  have HP := hid (not_any ao ac a w28 HRa.out (by omega))
  go_wp2_with fail
  refine HP.out.mono ?_
  rintro e w29 ⟨v, rfl, o, hb⟩
  obtain ⟨t29o, t29c, rfl, hr, hc⟩ := rdr_row3 o
  replace HRa := hid (HRa.out.below hb)
  replace HRb := hid (HRb.out.below hb)
  replace HRc := hid (HRc.out.below hb)
  replace HRn := hid (HRn.out.below hb)
  replace HRu := hid (HRu.out.below hb)
  replace HRt28 := hid (HRt28.out.below hb)
  replace HRE := hid (HRE.out.below hb)
  replace HB := hid (HB.out.trans (hb.mono HB.out.size))
  have HRt29 := hid hr
  have HCt29 := hid hc
  have hlt29 : (nt a).length ≤ 1501 := Nat.le_trans (nt_len a) (by omega)
  clear hr hc o hb HP
  have HP := hid (not_any bo bc b w29 HRb.out (by omega))
  go_wp2_with fail
  refine HP.out.mono ?_
  rintro e w30 ⟨v, rfl, o, hb⟩
  obtain ⟨t30o, t30c, rfl, hr, hc⟩ := rdr_row3 o
  replace HRa := hid (HRa.out.below hb)
  replace HRb := hid (HRb.out.below hb)
  replace HRc := hid (HRc.out.below hb)
  replace HRn := hid (HRn.out.below hb)
  replace HRu := hid (HRu.out.below hb)
  replace HRt28 := hid (HRt28.out.below hb)
  replace HRt29 := hid (HRt29.out.below hb)
  replace HRE := hid (HRE.out.below hb)
  replace HB := hid (HB.out.trans (hb.mono HB.out.size))
  have HRt30 := hid hr
  have HCt30 := hid hc
  have hlt30 : (nt b).length ≤ 1501 := Nat.le_trans (nt_len b) (by omega)
  clear hr hc o hb HP
  have HP := hid (and_any t29o t30o t29c t30c (nt a) (nt b) w30 HRt29.out HRt30.out (by omega) (by omega))
  go_wp2_with fail
  refine HP.out.mono ?_
  rintro e w31 ⟨v, rfl, o, hb⟩
  obtain ⟨t31o, t31c, rfl, hr, hc⟩ := rdr_row3 o
  replace HRa := hid (HRa.out.below hb)
  replace HRb := hid (HRb.out.below hb)
  replace HRc := hid (HRc.out.below hb)
  replace HRn := hid (HRn.out.below hb)
  replace HRu := hid (HRu.out.below hb)
  replace HRt28 := hid (HRt28.out.below hb)
  replace HRt29 := hid (HRt29.out.below hb)
  replace HRt30 := hid (HRt30.out.below hb)
  replace HRE := hid (HRE.out.below hb)
  replace HB := hid (HB.out.trans (hb.mono HB.out.size))
  have HRt31 := hid hr
  have HCt31 := hid hc
  have hlt31 : (andN (nt a) (nt b)).length ≤ 3002 := Nat.le_trans (andN_len (nt a) (nt b)) (by omega)
  clear hr hc o hb HP
  clear HRt29 HCt29 hlt29
  clear HRt30 HCt30 hlt30
  have HP := hid (same_eq t28o t31o t28c t31c (nt (orN a b)) (andN (nt a) (nt b)) true (decide_eq_true (alg10 a b)) w31 HRt28.out HRt31.out (by omega))
  go_wp2_with fail
  refine HP.out.mono ?_
  rintro e w32 ⟨rfl, hb⟩
  replace HRa := hid (HRa.out.below hb)
  replace HRb := hid (HRb.out.below hb)
  replace HRc := hid (HRc.out.below hb)
  replace HRn := hid (HRn.out.below hb)
  replace HRu := hid (HRu.out.below hb)
  replace HRt28 := hid (HRt28.out.below hb)
  replace HRt31 := hid (HRt31.out.below hb)
  replace HRE := hid (HRE.out.below hb)
  replace HB := hid (HB.out.trans (hb.mono HB.out.size))
  clear hb HP
  clear HRt28 HCt28 hlt28
  clear HRt31 HCt31 hlt31
  have HP := hid (and_any ao bo ac bc a b w32 HRa.out HRb.out (by omega) (by omega))
  go_wp2_with fail
  refine HP.out.mono ?_
  rintro e w33 ⟨v, rfl, o, hb⟩
  obtain ⟨t33o, t33c, rfl, hr, hc⟩ := rdr_row3 o
  replace HRa := hid (HRa.out.below hb)
  replace HRb := hid (HRb.out.below hb)
  replace HRc := hid (HRc.out.below hb)
  replace HRn := hid (HRn.out.below hb)
  replace HRu := hid (HRu.out.below hb)
  replace HRE := hid (HRE.out.below hb)
  replace HB := hid (HB.out.trans (hb.mono HB.out.size))
  have HRt33 := hid hr
  have HCt33 := hid hc
  have hlt33 : (andN a b).length ≤ 3000 := Nat.le_trans (andN_len a b) (by omega)
  clear hr hc o hb HP
  have HP := hid (or_any ao t33o ac t33c a (andN a b) w33 HRa.out HRt33.out HCa.out HCt33.out (by omega) (by omega))
  go_wp2_with fail
  refine HP.out.mono ?_
  rintro e w34 ⟨v, rfl, o, hb⟩
  obtain ⟨t34o, t34c, rfl, hr, hc⟩ := rdr_row3 o
  replace HRa := hid (HRa.out.below hb)
  replace HRb := hid (HRb.out.below hb)
  replace HRc := hid (HRc.out.below hb)
  replace HRn := hid (HRn.out.below hb)
  replace HRu := hid (HRu.out.below hb)
  replace HRt33 := hid (HRt33.out.below hb)
  replace HRE := hid (HRE.out.below hb)
  replace HB := hid (HB.out.trans (hb.mono HB.out.size))
  have HRt34 := hid hr
  have HCt34 := hid hc
  have hlt34 : (orN a (andN a b)).length ≤ 4500 := Nat.le_trans (orN_len a (andN a b)) (by omega)
  clear hr hc o hb HP
  clear HRt33 HCt33 hlt33
  have HP := hid (same_eq t34o no t34c nc (orN a (andN a b)) (nrm a) true (decide_eq_true (alg11 a b)) w34 HRt34.out HRn.out (by omega))
  go_wp2_with fail
  refine HP.out.mono ?_
  rintro e w35 ⟨rfl, hb⟩
  replace HRa := hid (HRa.out.below hb)
  replace HRb := hid (HRb.out.below hb)
  replace HRc := hid (HRc.out.below hb)
  replace HRn := hid (HRn.out.below hb)
  replace HRu := hid (HRu.out.below hb)
  replace HRt34 := hid (HRt34.out.below hb)
  replace HRE := hid (HRE.out.below hb)
  replace HB := hid (HB.out.trans (hb.mono HB.out.size))
  clear hb HP
  clear HRt34 HCt34 hlt34
  have HP := hid (or_any bo co bc cc b c w35 HRb.out HRc.out HCb.out HCc.out (by omega) (by omega))
  go_wp2_with fail
  refine HP.out.mono ?_
  rintro e w36 ⟨v, rfl, o, hb⟩
  obtain ⟨t36o, t36c, rfl, hr, hc⟩ := rdr_row3 o
  replace HRa := hid (HRa.out.below hb)
  replace HRb := hid (HRb.out.below hb)
  replace HRc := hid (HRc.out.below hb)
  replace HRn := hid (HRn.out.below hb)
  replace HRu := hid (HRu.out.below hb)
  replace HRE := hid (HRE.out.below hb)
  replace HB := hid (HB.out.trans (hb.mono HB.out.size))
  have HRt36 := hid hr
  have HCt36 := hid hc
  have hlt36 : (orN b c).length ≤ 3000 := Nat.le_trans (orN_len b c) (by omega)
  clear hr hc o hb HP
  have HP := hid (and_any ao t36o ac t36c a (orN b c) w36 HRa.out HRt36.out (by omega) (by omega))
  go_wp2_with fail
  refine HP.out.mono ?_
  rintro e w37 ⟨v, rfl, o, hb⟩
  obtain ⟨t37o, t37c, rfl, hr, hc⟩ := rdr_row3 o
  replace HRa := hid (HRa.out.below hb)
  replace HRb := hid (HRb.out.below hb)
  replace HRc := hid (HRc.out.below hb)
  replace HRn := hid (HRn.out.below hb)
  replace HRu := hid (HRu.out.below hb)
  replace HRt36 := hid (HRt36.out.below hb)
  replace HRE := hid (HRE.out.below hb)
  replace HB := hid (HB.out.trans (hb.mono HB.out.size))
  have HRt37 := hid hr
  have HCt37 := hid hc
  have hlt37 : (andN a (orN b c)).length ≤ 4500 := Nat.le_trans (andN_len a (orN b c)) (by omega)
  clear hr hc o hb HP
  clear HRt36 HCt36 hlt36
  have HP := hid (and_any ao bo ac bc a b w37 HRa.out HRb.out (by omega) (by omega))
  go_wp2_with fail
  refine HP.out.mono ?_
  rintro e w38 ⟨v, rfl, o, hb⟩
  obtain ⟨t38o, t38c, rfl, hr, hc⟩ := rdr_row3 o
  replace HRa := hid (HRa.out.below hb)
  replace HRb := hid (HRb.out.below hb)
  replace HRc := hid (HRc.out.below hb)
  replace HRn := hid (HRn.out.below hb)
  replace HRu := hid (HRu.out.below hb)
  replace HRt37 := hid (HRt37.out.below hb)
  replace HRE := hid (HRE.out.below hb)
  replace HB := hid (HB.out.trans (hb.mono HB.out.size))
  have HRt38 := hid hr
  have HCt38 := hid hc
  have hlt38 : (andN a b).length ≤ 3000 := Nat.le_trans (andN_len a b) (by omega)
  clear hr hc o hb HP
  have HP := hid (and_any ao co ac cc a c w38 HRa.out HRc.out (by omega) (by omega))
  go_wp2_with fail
  refine HP.out.mono ?_
  rintro e w39 ⟨v, rfl, o, hb⟩
  obtain ⟨t39o, t39c, rfl, hr, hc⟩ := rdr_row3 o
  replace HRa := hid (HRa.out.below hb)
  replace HRb := hid (HRb.out.below hb)
  replace HRc := hid (HRc.out.below hb)
  replace HRn := hid (HRn.out.below hb)
  replace HRu := hid (HRu.out.below hb)
  replace HRt37 := hid (HRt37.out.below hb)
  replace HRt38 := hid (HRt38.out.below hb)
  replace HRE := hid (HRE.out.below hb)
  replace HB := hid (HB.out.trans (hb.mono HB.out.size))
  have HRt39 := hid hr
  have HCt39 := hid hc
  have hlt39 : (andN a c).length ≤ 3000 := Nat.le_trans (andN_len a c) (by omega)
  clear hr hc o hb HP
  have HP := hid (or_any t38o t39o t38c t39c (andN a b) (andN a c) w39 HRt38.out HRt39.out HCt38.out HCt39.out (by omega) (by omega))
  go_wp2_with fail
  refine HP.out.mono ?_
  rintro e w40 ⟨v, rfl, o, hb⟩
  obtain ⟨t40o, t40c, rfl, hr, hc⟩ := rdr_row3 o
  replace HRa := hid (HRa.out.below hb)
  replace HRb := hid (HRb.out.below hb)
  replace HRc := hid (HRc.out.below hb)
  replace HRn := hid (HRn.out.below hb)
  replace HRu := hid (HRu.out.below hb)
  replace HRt37 := hid (HRt37.out.below hb)
  replace HRt38 := hid (HRt38.out.below hb)
  replace HRt39 := hid (HRt39.out.below hb)
  replace HRE := hid (HRE.out.below hb)
  replace HB := hid (HB.out.trans (hb.mono HB.out.size))
  have HRt40 := hid hr
  have HCt40 := hid hc
  have hlt40 : (orN (andN a b) (andN a c)).length ≤ 6000 := Nat.le_trans (orN_len (andN a b) (andN a c)) (by omega)
  clear hr hc o hb HP
  clear HRt38 HCt38 hlt38
  clear HRt39 HCt39 hlt39
  have HP := hid (same_eq t37o t40o t37c t40c (andN a (orN b c)) (orN (andN a b) (andN a c)) true (decide_eq_true (alg12 a b c)) w40 HRt37.out HRt40.out (by omega))
  go_wp2_with fail
  refine HP.out.mono ?_
  rintro e w41 ⟨rfl, hb⟩
  replace HRa := hid (HRa.out.below hb)
  replace HRb := hid (HRb.out.below hb)
  replace HRc := hid (HRc.out.below hb)
  replace HRn := hid (HRn.out.below hb)
  replace HRu := hid (HRu.out.below hb)
  replace HRt37 := hid (HRt37.out.below hb)
  replace HRt40 := hid (HRt40.out.below hb)
  replace HRE := hid (HRE.out.below hb)
  replace HB := hid (HB.out.trans (hb.mono HB.out.size))
  clear hb HP
  clear HRt37 HCt37 hlt37
  clear HRt40 HCt40 hlt40
  have HP := hid (or_any bo co bc cc b c w41 HRb.out HRc.out HCb.out HCc.out (by omega) (by omega))
  go_wp2_with fail
  refine HP.out.mono ?_
  rintro e w42 ⟨v, rfl, o, hb⟩
  obtain ⟨t42o, t42c, rfl, hr, hc⟩ := rdr_row3 o
  replace HRa := hid (HRa.out.below hb)
  replace HRb := hid (HRb.out.below hb)
  replace HRc := hid (HRc.out.below hb)
  replace HRn := hid (HRn.out.below hb)
  replace HRu := hid (HRu.out.below hb)
  replace HRE := hid (HRE.out.below hb)
  replace HB := hid (HB.out.trans (hb.mono HB.out.size))
  have HRt42 := hid hr
  have HCt42 := hid hc
  have hlt42 : (orN b c).length ≤ 3000 := Nat.le_trans (orN_len b c) (by omega)
  clear hr hc o hb HP
  have HP := hid (or_any ao t42o ac t42c a (orN b c) w42 HRa.out HRt42.out HCa.out HCt42.out (by omega) (by omega))
  go_wp2_with fail
  refine HP.out.mono ?_
  rintro e w43 ⟨v, rfl, o, hb⟩
  obtain ⟨t43o, t43c, rfl, hr, hc⟩ := rdr_row3 o
  replace HRa := hid (HRa.out.below hb)
  replace HRb := hid (HRb.out.below hb)
  replace HRc := hid (HRc.out.below hb)
  replace HRn := hid (HRn.out.below hb)
  replace HRu := hid (HRu.out.below hb)
  replace HRt42 := hid (HRt42.out.below hb)
  replace HRE := hid (HRE.out.below hb)
  replace HB := hid (HB.out.trans (hb.mono HB.out.size))
  have HRt43 := hid hr
  have HCt43 := hid hc
  have hlt43 : (orN a (orN b c)).length ≤ 4500 := Nat.le_trans (orN_len a (orN b c)) (by omega)
  clear hr hc o hb HP
  clear HRt42 HCt42 hlt42
  have HP := hid (or_any ao bo ac bc a b w43 HRa.out HRb.out HCa.out HCb.out (by omega) (by omega))
  go_wp2_with fail
  refine HP.out.mono ?_
  rintro e w44 ⟨v, rfl, o, hb⟩
  obtain ⟨t44o, t44c, rfl, hr, hc⟩ := rdr_row3 o
  replace HRa := hid (HRa.out.below hb)
  replace HRb := hid (HRb.out.below hb)
  replace HRc := hid (HRc.out.below hb)
  replace HRn := hid (HRn.out.below hb)
  replace HRu := hid (HRu.out.below hb)
  replace HRt43 := hid (HRt43.out.below hb)
  replace HRE := hid (HRE.out.below hb)
  replace HB := hid (HB.out.trans (hb.mono HB.out.size))
  have HRt44 := hid hr
  have HCt44 := hid hc
  have hlt44 : (orN a b).length ≤ 3000 := Nat.le_trans (orN_len a b) (by omega)
  clear hr hc o hb HP
  have HP := hid (or_any t44o co t44c cc (orN a b) c w44 HRt44.out HRc.out HCt44.out HCc.out (by omega) (by omega))
  go_wp2_with fail
  refine HP.out.mono ?_
  rintro e w45 ⟨v, rfl, o, hb⟩
  obtain ⟨t45o, t45c, rfl, hr, hc⟩ := rdr_row3 o
  replace HRa := hid (HRa.out.below hb)
  replace HRb := hid (HRb.out.below hb)
  replace HRc := hid (HRc.out.below hb)
  replace HRn := hid (HRn.out.below hb)
  replace HRu := hid (HRu.out.below hb)
  replace HRt43 := hid (HRt43.out.below hb)
  replace HRt44 := hid (HRt44.out.below hb)
  replace HRE := hid (HRE.out.below hb)
  replace HB := hid (HB.out.trans (hb.mono HB.out.size))
  have HRt45 := hid hr
  have HCt45 := hid hc
  have hlt45 : (orN (orN a b) c).length ≤ 4500 := Nat.le_trans (orN_len (orN a b) c) (by omega)
  clear hr hc o hb HP
  clear HRt44 HCt44 hlt44
  have HP := hid (same_eq t43o t45o t43c t45c (orN a (orN b c)) (orN (orN a b) c) true (decide_eq_true (alg13 a b c)) w45 HRt43.out HRt45.out (by omega))
  go_wp2_with fail
  refine HP.out.mono ?_
  rintro e w46 ⟨rfl, hb⟩
  replace HRa := hid (HRa.out.below hb)
  replace HRb := hid (HRb.out.below hb)
  replace HRc := hid (HRc.out.below hb)
  replace HRn := hid (HRn.out.below hb)
  replace HRu := hid (HRu.out.below hb)
  replace HRt43 := hid (HRt43.out.below hb)
  replace HRt45 := hid (HRt45.out.below hb)
  replace HRE := hid (HRE.out.below hb)
  replace HB := hid (HB.out.trans (hb.mono HB.out.size))
  clear hb HP
  clear HRt43 HCt43 hlt43
  clear HRt45 HCt45 hlt45
  have HP := hid (or_any ao bo ac bc a b w46 HRa.out HRb.out HCa.out HCb.out (by omega) (by omega))
  go_wp2_with fail
  refine HP.out.mono ?_
  rintro e w47 ⟨v, rfl, o, hb⟩
  obtain ⟨po, pc, rfl, hr, hc⟩ := rdr_row3 o
  replace HRa := hid (HRa.out.below hb)
  replace HRb := hid (HRb.out.below hb)
  replace HRc := hid (HRc.out.below hb)
  replace HRn := hid (HRn.out.below hb)
  replace HRu := hid (HRu.out.below hb)
  replace HRE := hid (HRE.out.below hb)
  replace HB := hid (HB.out.trans (hb.mono HB.out.size))
  have HRp := hid hr
  have HCp := hid hc
  have hlp : (orN a b).length ≤ 3000 := Nat.le_trans (orN_len a b) (by omega)
  clear hr hc o hb HP
  have HP := hid (and_any ao bo ac bc a b w47 HRa.out HRb.out (by omega) (by omega))
  go_wp2_with fail
  refine HP.out.mono ?_
  rintro e w48 ⟨v, rfl, o, hb⟩
  obtain ⟨qo, qc, rfl, hr, hc⟩ := rdr_row3 o
  replace HRa := hid (HRa.out.below hb)
  replace HRb := hid (HRb.out.below hb)
  replace HRc := hid (HRc.out.below hb)
  replace HRn := hid (HRn.out.below hb)
  replace HRu := hid (HRu.out.below hb)
  replace HRp := hid (HRp.out.below hb)
  replace HRE := hid (HRE.out.below hb)
  replace HB := hid (HB.out.trans (hb.mono HB.out.size))
  have HRq := hid hr
  have HCq := hid hc
  have hlq : (andN a b).length ≤ 3000 := Nat.le_trans (andN_len a b) (by omega)
  clear hr hc o hb HP
  have HP := hid (minus_any ao bo ac bc a b w48 HRa.out HRb.out (by omega) (by omega))
  go_wp2_with fail
  refine HP.out.mono ?_
  rintro e w49 ⟨v, rfl, o, hb⟩
  obtain ⟨so, sc, rfl, hr, hc⟩ := rdr_row3 o
  replace HRa := hid (HRa.out.below hb)
  replace HRb := hid (HRb.out.below hb)
  replace HRc := hid (HRc.out.below hb)
  replace HRn := hid (HRn.out.below hb)
  replace HRu := hid (HRu.out.below hb)
  replace HRp := hid (HRp.out.below hb)
  replace HRq := hid (HRq.out.below hb)
  replace HRE := hid (HRE.out.below hb)
  replace HB := hid (HB.out.trans (hb.mono HB.out.size))
  have HRs := hid hr
  have HCs := hid hc
  have hls : (minN a b).length ≤ 3001 := Nat.le_trans (minN_len a b) (by omega)
  clear hr hc o hb HP
  have HP := hid (not_any ao ac a w49 HRa.out (by omega))
  go_wp2_with fail
  refine HP.out.mono ?_
  rintro e w50 ⟨v, rfl, o, hb⟩
  obtain ⟨mo, mc, rfl, hr, hc⟩ := rdr_row3 o
  replace HRa := hid (HRa.out.below hb)
  replace HRb := hid (HRb.out.below hb)
  replace HRc := hid (HRc.out.below hb)
  replace HRn := hid (HRn.out.below hb)
  replace HRu := hid (HRu.out.below hb)
  replace HRp := hid (HRp.out.below hb)
  replace HRq := hid (HRq.out.below hb)
  replace HRs := hid (HRs.out.below hb)
  replace HRE := hid (HRE.out.below hb)
  replace HB := hid (HB.out.trans (hb.mono HB.out.size))
  have HRm := hid hr
  have HCm := hid hc
  have hlm : (nt a).length ≤ 1501 := Nat.le_trans (nt_len a) (by omega)
  clear hr hc o hb HP
  clear HRn HCn hln
  clear HRu HCu hlu
  clear HRc HCc hlc
  go_wp2
  go_loopw [15] (fun i wr => ∃ k : Nat, i = .int .i64 k ∧ k ≤ E.length ∧ Hid (Below w50.heap.size w50 wr)) (fun i _ => E.length - (intOf i).toNat)
  case atStart => exact ⟨0, rfl, by omega, Below.refl _ _⟩
  case round =>
    obtain ⟨k, rfl, hk, HBr⟩ := hrel
    have hsr := HBr.out.size
    by_cases hlt : k < E.length
    · obtain ⟨d, rfl, hab, hac⟩ := (HRE.out.below HBr.out) k E[k] (List.getElem?_eq_getElem hlt)
      generalize E[k] = z at hac
      obtain ⟨x, hx⟩ : ∃ x, hasR z a = x := ⟨_, rfl⟩
      obtain ⟨y, hy⟩ : ∃ y, hasR z b = y := ⟨_, rfl⟩
      have HHa := hid (fun W (hW : Below w50.heap.size w50 W) => has_eq ao ac a z x hx W (HRa.out.below hW) (by omega))
      have HHb := hid (fun W (hW : Below w50.heap.size w50 W) => has_eq bo bc b z y hy W (HRb.out.below hW) (by omega))
      have HHp := hid (fun W (hW : Below w50.heap.size w50 W) => has_eq po pc (orN a b) z (x || y) (by rw [has_or, hx, hy]) W (HRp.out.below hW) (by omega))
      have HHq := hid (fun W (hW : Below w50.heap.size w50 W) => has_eq qo qc (andN a b) z (x && y) (by rw [has_and, hx, hy]) W (HRq.out.below hW) (by omega))
      have HHs := hid (fun W (hW : Below w50.heap.size w50 W) => has_eq so sc (minN a b) z (x && !y) (by rw [has_min, hx, hy]) W (HRs.out.below hW) (by omega))
      have HHm := hid (fun j (hj : (decide (0 ≤ z) && decide (z ≤ 1114111)) = j) W (hW : Below w50.heap.size w50 W) => has_eq mo mc (nt a) z (j && !x) (by rw [has_nt, hx, hj]) W (HRm.out.below hW) (by omega))
      clear hx hy
      go_wp2_with fail
      refine (HHa.out _ HBr.out).mono ?_
      rintro e y1 ⟨rfl, hy1⟩
      have HY1 := hid (HBr.out.trans (hy1.mono (by omega)))
      clear hy1 HHa
      go_wp2_with fail
      refine (HHb.out _ HY1.out).mono ?_
      rintro e y2 ⟨rfl, hy2⟩
      have HY2 := hid (HY1.out.trans (hy2.mono HY1.out.size))
      clear hy2 HHb
      rcases (show (0 ≤ z ∧ z ≤ 1114111) ∨ (0 ≤ z ∧ ¬ z ≤ 1114111) ∨ ¬ 0 ≤ z by omega) with ⟨r0, r1⟩ | ⟨r0, r1⟩ | r0
      · have HHj := hid (HHm.out true (by simp [r0, r1]))
        cases x <;> cases y
        all_goals go_wp2_with fail
        all_goals refine (HHp.out _ HY2.out).mono ?_
        all_goals rintro e y3 ⟨rfl, hy3⟩
        all_goals have HY3 := hid (HY2.out.trans (hy3.mono HY2.out.size))
        all_goals clear hy3
        all_goals go_wp2_with fail
        all_goals refine (HHq.out _ HY3.out).mono ?_
        all_goals rintro e y4 ⟨rfl, hy4⟩
        all_goals have HY4 := hid (HY3.out.trans (hy4.mono HY3.out.size))
        all_goals clear hy4
        all_goals go_wp2_with fail
        all_goals refine (HHs.out _ HY4.out).mono ?_
        all_goals rintro e y5 ⟨rfl, hy5⟩
        all_goals have HY5 := hid (HY4.out.trans (hy5.mono HY4.out.size))
        all_goals clear hy5
        all_goals go_wp2_with fail
        all_goals refine (HHj.out _ HY5.out).mono ?_
        all_goals rintro e y6 ⟨rfl, hy6⟩
        all_goals have HY6 := hid (HY5.out.trans (hy6.mono HY5.out.size))
        all_goals clear hy6
        all_goals go_wp2
        all_goals refine ⟨⟨k + 1, by go_num, by omega, HY6⟩, ?_⟩
        all_goals (simp [intOf]; omega)
      · have HHj := hid (HHm.out false (by simp [r1]))
        cases x <;> cases y
        all_goals go_wp2_with fail
        all_goals refine (HHp.out _ HY2.out).mono ?_
        all_goals rintro e y3 ⟨rfl, hy3⟩
        all_goals have HY3 := hid (HY2.out.trans (hy3.mono HY2.out.size))
        all_goals clear hy3
        all_goals go_wp2_with fail
        all_goals refine (HHq.out _ HY3.out).mono ?_
        all_goals rintro e y4 ⟨rfl, hy4⟩
        all_goals have HY4 := hid (HY3.out.trans (hy4.mono HY3.out.size))
        all_goals clear hy4
        all_goals go_wp2_with fail
        all_goals refine (HHs.out _ HY4.out).mono ?_
        all_goals rintro e y5 ⟨rfl, hy5⟩
        all_goals have HY5 := hid (HY4.out.trans (hy5.mono HY4.out.size))
        all_goals clear hy5
        all_goals go_wp2_with fail
        all_goals refine (HHj.out _ HY5.out).mono ?_
        all_goals rintro e y6 ⟨rfl, hy6⟩
        all_goals have HY6 := hid (HY5.out.trans (hy6.mono HY5.out.size))
        all_goals clear hy6
        all_goals go_wp2
        all_goals refine ⟨⟨k + 1, by go_num, by omega, HY6⟩, ?_⟩
        all_goals (simp [intOf]; omega)
      · have HHj := hid (HHm.out false (by simp [r0]))
        cases x <;> cases y
        all_goals go_wp2_with fail
        all_goals refine (HHp.out _ HY2.out).mono ?_
        all_goals rintro e y3 ⟨rfl, hy3⟩
        all_goals have HY3 := hid (HY2.out.trans (hy3.mono HY2.out.size))
        all_goals clear hy3
        all_goals go_wp2_with fail
        all_goals refine (HHq.out _ HY3.out).mono ?_
        all_goals rintro e y4 ⟨rfl, hy4⟩
        all_goals have HY4 := hid (HY3.out.trans (hy4.mono HY3.out.size))
        all_goals clear hy4
        all_goals go_wp2_with fail
        all_goals refine (HHs.out _ HY4.out).mono ?_
        all_goals rintro e y5 ⟨rfl, hy5⟩
        all_goals have HY5 := hid (HY4.out.trans (hy5.mono HY4.out.size))
        all_goals clear hy5
        all_goals go_wp2_with fail
        all_goals refine (HHj.out _ HY5.out).mono ?_
        all_goals rintro e y6 ⟨rfl, hy6⟩
        all_goals have HY6 := hid (HY5.out.trans (hy6.mono HY5.out.size))
        all_goals clear hy6
        all_goals go_wp2
        all_goals refine ⟨⟨k + 1, by go_num, by omega, HY6⟩, ?_⟩
        all_goals (simp [intOf]; omega)
    · have HBw := hid (HB.out.trans (HBr.out.mono HB.out.size))
      have nfp := (nfB_iff (orN a b) 0).2 (orN_nf a b)
      have nfq := (nfB_iff (andN a b) 0).2 (andN_nf a b)
      have nfs : nfB 0 (minN a b) = true := (nfB_iff (minN a b) 0).2 (andN_nf a (nt b))
      have nfm := (nfB_iff (nt a) 0).2 (nt_nf a)
      have HP := hid (is_eq po pc (orN a b) true nfp wr (HRp.out.below HBr.out) (by omega))
      have HIq := hid (fun W hW => is_eq qo qc (andN a b) true nfq W hW (by omega))
      have HIs := hid (fun W hW => is_eq so sc (minN a b) true nfs W hW (by omega))
      have HIm := hid (fun W hW => is_eq mo mc (nt a) true nfm W hW (by omega))
      replace HRq := hid (HRq.out.below HBr.out)
      replace HRs := hid (HRs.out.below HBr.out)
      replace HRm := hid (HRm.out.below HBr.out)
      clear nfp nfq nfs nfm
      go_wp2_with fail
      refine HP.out.mono ?_
      rintro e z1 ⟨rfl, hb⟩
      have HZ1 := hid (HBw.out.trans (hb.mono HBw.out.size))
      replace HRq := hid (HRq.out.below hb)
      replace HRs := hid (HRs.out.below hb)
      replace HRm := hid (HRm.out.below hb)
      clear hb
      go_wp2_with fail
      refine (HIq.out _ HRq.out).mono ?_
      rintro e z2 ⟨rfl, hb⟩
      have HZ2 := hid (HZ1.out.trans (hb.mono HZ1.out.size))
      replace HRs := hid (HRs.out.below hb)
      replace HRm := hid (HRm.out.below hb)
      clear hb
      go_wp2_with fail
      refine (HIs.out _ HRs.out).mono ?_
      rintro e z3 ⟨rfl, hb⟩
      have HZ3 := hid (HZ2.out.trans (hb.mono HZ2.out.size))
      replace HRm := hid (HRm.out.below hb)
      clear hb
      go_wp2_with fail
      refine (HIm.out _ HRm.out).mono ?_
      rintro e z4 ⟨rfl, hb⟩
      have HZ4 := hid (HZ3.out.trans (hb.mono HZ3.out.size))
      clear hb
      go_wp2_with fail
      refine (live_any _ (tabs_below HT.out h2 HZ4.out) (by have := HZ4.out.size; omega)).mono ?_
      rintro e z5 ⟨rfl, hb⟩
      have HZ5 := hid (HZ4.out.trans (hb.mono HZ4.out.size))
      clear hb
      go_wp2
      go_ret
      exact ⟨rfl, HZ5.out⟩
end Go.Proofs.YtfahbdlcokoghaaDoor
