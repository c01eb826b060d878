/- The walk of RunesReads. -/
import Derived.Test.YtfahbdlcokoghabDoorRParse
import Derived.Test.YtfahbdlcokoghabDoorNormWalk
namespace Go.Proofs.YtfahbdlcokoghabDoor
open Go.RowKit

theorem par_len (l : List UInt8) : ∀ (f p : Nat) (acc : List Rg), p ≤ l.length → acc.length ≤ p → (parF f l p acc).1.length ≤ l.length
  | 0, _, _, _, _ => by simp [parF]
  | f + 1, p, acc, hp, ha => by
    have hi := itm_le l p hp
    unfold parF
    split
    · have := nrm_len acc; dsimp only; omega
    · split
      · exact par_len l f (p + 1) acc (by omega) (by omega)
      · split
        · simp
        · rename_i h1 h2 h3
          have h3' : (itm l p).2.2 = 0 := Classical.not_not.1 h3
          split
          · simp
          · exact par_len l f _ _ hi.1 (by rw [List.length_append]; have := hi.2.1 h3'; simp; omega)
theorem par_bd (l : List UInt8) : (par l).1.length ≤ l.length := par_len l _ 0 [] (by omega) (by simp)

set_option maxHeartbeats 1000000 in
theorem read_walk (l : List UInt8) (w : World) (hT : Lib.Utf8Tabs 0 1 w) (h2 : 2 ≤ w.heap.size) :
    Calls Tryd.prog 4 #[.string ⟨l.toArray⟩] w fun e w' => e = .returned (.bool true) ∧ Below w.heap.size w w' := by
  have HSZ := hid (show (⟨l.toArray⟩ : ByteArray).size = l.length by show l.toArray.size = _; simp)
  have HT := hid hT
  clear hT
  by_cases h1 : (20000 : Int) < l.length
  · have HL := hid (live_any w HT.out h2)
    go_enter Tryd.func4, Tryd.ntmps4
    go_wp2_with fail
    refine HL.out.mono ?_
    rintro e w1 ⟨rfl, hb⟩
    have HB := hid hb
    clear hb
    go_wp2
    go_ret
    exact ⟨rfl, HB.out⟩
  · have hbd := par_bd l
    have HP := hid (parse_any l w (by omega) HT.out h2)
    have HRP := hid (fun W => rparse_any l W (by omega))
    obtain ⟨m, er, at', hpar⟩ : ∃ a b d, par l = (a, b, d) := ⟨_, _, _, rfl⟩
    rw [hpar] at HP HRP hbd
    clear hpar
    dsimp only at hbd HP HRP
    go_enter Tryd.func4, Tryd.ntmps4
    go_wp2_with fail
    refine HP.out.mono ?_
    rintro e w1 ⟨v, rfl, o1, hb1⟩
    obtain ⟨so, sc, rfl, hr1⟩ := rdr_row o1
    have HR1 := hid hr1
    have HB1 := hid hb1
    have hs1 := hb1.size
    clear o1 hb1 hr1 HP
    go_wp2_with fail
    refine (HRP.out _).mono ?_
    rintro e w2 ⟨v, rfl, o2, hb2⟩
    obtain ⟨uo, uc, rfl, hr2⟩ := rdr_row o2
    have HB2 := hid (HB1.out.trans (hb2.mono hs1))
    have hs2 := HB2.out.size
    have HSA := hid (same_eq so uo sc uc m m true (decide_eq_true rfl) w2 (HR1.out.below hb2) hr2 (by omega))
    clear o2 hb2 hr2 HRP HB1 HR1
    go_wp2_with fail
    refine HSA.out.mono ?_
    rintro e w3 ⟨rfl, hb3⟩
    have HB3 := hid (HB2.out.trans (hb3.mono hs2))
    have hs3 := HB3.out.size
    have HL := hid (live_any w3 (tabs_below HT.out h2 HB3.out) (by omega))
    clear hb3 HSA HB2
    go_wp2_with (go_at_call 15; refine (num_any _ _).mono ?_; rintro e w' ⟨rfl, hw⟩; obtain rfl := hw.symm)
    refine HL.out.mono ?_
    rintro e w4 ⟨rfl, hb4⟩
    have HB4 := hid (HB3.out.trans (hb4.mono hs3))
    clear hb4
    go_wp2
    go_ret
    exact ⟨rfl, HB4.out⟩
end Go.Proofs.YtfahbdlcokoghabDoor
