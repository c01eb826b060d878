/- The walk of RunesBack. -/
import Derived.Test.YtfahbdlcokoghabGreatDoorRPrn
import Derived.Test.YtfahbdlcokoghabGreatDoorPrn
import Derived.Test.YtfahbdlcokoghabGreatDoorNormWalk
namespace Go.Proofs.YtfahbdlcokoghabGreatDoor
open Go.RowKit

set_option maxHeartbeats 2000000 in
set_option maxRecDepth 100000 in
theorem back_walk (lo : Option Addr) (lc : Nat) (l : List Rg) (w : World) (hT : Lib.Utf8Tabs 3 4 w) (hZ : w.cell? ⟨6, 15, none⟩ = some (.int .u8 4)) (h9 : 9 ≤ w.heap.size) (hlc : lo = none → lc = 0) (hl : RdR w lo l) :
    Calls Tryz.prog 3 #[.slice lo l.length lc] w fun e w' => e = .returned (.bool true) ∧ Below w.heap.size w w' := by
  have HT := hid hT
  have HZ := hid hZ
  have HL := hid hl
  clear hT hZ hl
  by_cases h1 : (1500 : Int) < l.length
  · have HLV := hid (live_any w HT.out (by omega))
    go_enter Tryz.func3, Tryz.ntmps3
    go_wp2_with fail
    refine HLV.out.mono ?_
    rintro e w1 ⟨rfl, hb⟩
    have HB := hid hb
    clear hb
    go_wp2
    go_ret
    exact ⟨rfl, HB.out⟩
  · have HOW := hid (own_any lo lc l w HL.out hlc (by omega))
    have hnl := nrm_len l
    have hpl := prt_len (nrm l)
    have HPP := hid (par_prt (nrm l) (nrm_nf l))
    obtain ⟨P, hP⟩ : ∃ P, P = prt (nrm l) := ⟨_, rfl⟩
    rw [← hP] at HPP hpl
    have HP := hid hP
    clear hP hlc
    go_enter Tryz.func3, Tryz.ntmps3
    go_wp2_with fail
    refine HOW.out.mono ?_
    rintro e w1 ⟨g, cap, rfl, ho1, hwg, hb1⟩
    have HO1 := hid ho1
    have HB1 := hid hb1
    have hs1 := hb1.size
    have HPR := hid (print_any (some ⟨g, 0, none⟩) cap l w1 ho1.reads.left (by omega) ((hb1.cell (p := ⟨6, 15, none⟩) (show 6 < w.heap.size by omega)).trans HZ.out) (by omega))
    rw [← HP.out] at HPR
    clear ho1 hb1 HOW
    go_wp2_with fail
    refine HPR.out.mono ?_
    rintro e w2 ⟨rfl, hb2⟩
    have HB2 := hid hb2
    have HBw2 := hid (HB1.out.trans (hb2.mono hs1))
    have hs2 := hb2.size
    have HPA := hid (parse_any P w2 (by omega) (tabs_below HT.out (by omega) HBw2.out) (by omega))
    rw [HPP.out] at HPA
    clear hb2 HPR
    go_wp2_with fail
    refine HPA.out.mono ?_
    rintro e w3 ⟨v3, rfl, o3, hb3⟩
    obtain ⟨po, pc, rfl, hr3⟩ := rdr_row o3
    have HB3 := hid (HB2.out.trans (hb3.mono hs2))
    have HR3 := hid hr3
    have hs3 := HB3.out.size
    have HBw3 := hid (HB1.out.trans (HB3.out.mono hs1))
    have HRP := hid (rprint_any lo lc l w3 (HL.out.below HBw3.out) (by omega))
    rw [← HP.out] at HRP
    clear o3 hb3 hr3 HPA HB2 HBw2
    go_wp2_with fail
    refine HRP.out.mono ?_
    rintro e w4 ⟨rfl, hb4⟩
    have HB4 := hid (HB3.out.trans (hb4.mono hs3))
    have HR4 := hid (HR3.out.below hb4)
    have hs4 := HB4.out.size
    have HBw4 := hid (HB1.out.trans (HB4.out.mono hs1))
    have HNO := hid (norm_any lo lc l w4 (HL.out.below HBw4.out) (by omega))
    clear hb4 HRP HB3 HR3 HBw3
    go_wp2_with (go_at_call 9; refine (num_any _ _).mono ?_; rintro e w' ⟨rfl, hw⟩; obtain rfl := hw.symm)
    refine HNO.out.mono ?_
    rintro e w5 ⟨v5, rfl, o5, hb5⟩
    obtain ⟨qo, qc, rfl, hr5⟩ := rdr_row o5
    have HB5 := hid (HB4.out.trans (hb5.mono hs4))
    have hs5 := HB5.out.size
    have HSA := hid (same_eq po qo pc qc (nrm l) (nrm l) true (decide_eq_true rfl) w5 (HR4.out.below hb5) hr5 (by omega))
    clear o5 hb5 hr5 HNO HB4 HR4 HBw4
    go_wp2_with fail
    refine HSA.out.mono ?_
    rintro e w6 ⟨rfl, hb6⟩
    have HB6 := hid (HB5.out.trans (hb6.mono hs5))
    have hs6 := HB6.out.size
    have HBw6 := hid (HB1.out.trans (HB6.out.mono hs1))
    have HKE := hid (kept_any _ g cap lo lc l w6 (HO1.out.below HB6.out) (HL.out.below HBw6.out) (by omega))
    clear hb6 HSA HB5
    go_wp2_with fail
    refine HKE.out.mono ?_
    rintro e w7 ⟨rfl, hb7⟩
    have HBw7 := hid (HBw6.out.trans (hb7.mono (by omega)))
    have hs7 := HBw7.out.size
    have HLV := hid (live_any w7 (tabs_below HT.out (by omega) HBw7.out) (by omega))
    clear hb7 HKE HB6 HBw6
    go_wp2_with fail
    refine HLV.out.mono ?_
    rintro e w8 ⟨rfl, hb8⟩
    have HB8 := hid (HBw7.out.trans (hb8.mono hs7))
    clear hb8 HLV
    go_wp2
    go_ret
    exact ⟨rfl, HB8.out⟩
end Go.Proofs.YtfahbdlcokoghabGreatDoor
