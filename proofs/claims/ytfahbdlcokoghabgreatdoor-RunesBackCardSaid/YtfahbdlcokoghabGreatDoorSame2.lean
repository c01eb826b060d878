/- The contracts of the document's Same (at any two lists) and Has. -/
import Derived.Test.YtfahbdlcokoghabGreatDoorRows2
namespace Go.Proofs.YtfahbdlcokoghabGreatDoor
open Go.RowKit

theorem take_eq_step {l m : List Rg} {k : Nat} (hk : k < l.length) (hm : k < m.length) (h : l.take k = m.take k) (e : l[k] = m[k]) : l.take (k + 1) = m.take (k + 1) := by
  rw [List.take_succ_eq_append_getElem hk, List.take_succ_eq_append_getElem hm, h, e]

set_option maxHeartbeats 1000000 in
theorem same2_any (ao bo : Option Addr) (ac bc : Nat) (l m : List Rg) (w : World) (ha : RdR w ao l) (hb : RdR w bo m) (hl : l.length ≤ 1000000000000) :
    Calls Tryz.prog 10 #[.slice ao l.length ac, .slice bo m.length bc] w fun e w' => e = .returned (.bool (decide (l = m))) ∧ Below w.heap.size w w' := by
  have HA := hid ha
  have HB := hid hb
  clear ha hb
  by_cases hlm : l.length = m.length
  · have hne : ((l.length : Int) != (m.length : Int)) = false := by simp; omega
    go_enter Tryz.func10, Tryz.ntmps10
    have HLM := hid hlm
    clear hlm
    go_wp2
    go_loopw [5] (fun i wr => ∃ k : Nat, k ≤ l.length ∧ i = .int .i64 k ∧ Hid (l.take k = m.take k) ∧ Below w.heap.size w wr) (fun i _ => l.length - (intOf i).toNat)
    case atStart => exact ⟨0, by omega, rfl, rfl, Below.refl _ _⟩
    case round =>
      obtain ⟨k, hk, rfl, HE, hBr⟩ := hrel
      by_cases hlt : k < l.length
      · have hltm : k < m.length := by have := HLM.out; omega
        obtain ⟨a, rfl, ha, a0, a1⟩ := HA.out.below hBr k l[k] (List.getElem?_eq_getElem hlt)
        obtain ⟨b, rfl, hb, b0, b1⟩ := HB.out.below hBr k m[k] (List.getElem?_eq_getElem hltm)
        have HS := hid (fun e => take_eq_step hlt hltm HE.out e)
        have HD := hid (show l[k] ≠ m[k] → decide (l = m) = false from fun hne => decide_eq_false (fun e => hne (by subst e; rfl)))
        have HX := hid (show l[k].1 = m[k].1 → l[k].2 = m[k].2 → l[k] = m[k] from fun h1 h2 => Prod.ext h1 h2)
        have HX1 := hid (fun h : l[k] = m[k] => congrArg Prod.fst h)
        have HX2 := hid (fun h : l[k] = m[k] => congrArg Prod.snd h)
        obtain ⟨x0, e0⟩ : ∃ x0, x0 = l[k].1 := ⟨_, rfl⟩
        obtain ⟨x1, e1⟩ : ∃ x1, x1 = l[k].2 := ⟨_, rfl⟩
        obtain ⟨y0, f0⟩ : ∃ y0, y0 = m[k].1 := ⟨_, rfl⟩
        obtain ⟨y1, f1⟩ : ∃ y1, y1 = m[k].2 := ⟨_, rfl⟩
        rw [← e0] at a0 HX HX1
        rw [← e1] at a1 HX HX2
        rw [← f0] at b0 HX HX1
        rw [← f1] at b1 HX HX2
        clear e0 e1 f0 f1
        by_cases q0 : x0 = y0
        · by_cases q1 : x1 = y1
          · have HZ := hid (HS.out (HX.out q0 q1))
            subst q0 q1
            clear HS HD HX HX1 HX2
            go_wp2_with fail
            go_region
            go_wp2
            go_roundw
            case rel => exact ⟨k + 1, by omega, by go_num, HZ, hBr.drew⟩
            case measure => simp [intOf]; omega
          · have HZ := hid (HD.out (fun h => q1 (HX2.out h)))
            have t1 : (x1 == y1) = false := beq_eq_false_iff_ne.2 q1
            have t2 : (x1 != y1) = true := bne_iff_ne.2 q1
            clear HS HD HX HX1 HX2
            go_wp2_with fail
            go_region
            go_wp2
            go_ret
            exact ⟨by rw [HZ.out]; rfl, hBr.drew⟩
        · have HZ := hid (HD.out (fun h => q0 (HX1.out h)))
          have t1 : (x0 == y0) = false := beq_eq_false_iff_ne.2 q0
          have t2 : (x0 != y0) = true := bne_iff_ne.2 q0
          clear HS HD HX HX1 HX2
          go_wp2_with fail
          go_region
          go_wp2
          go_ret
          exact ⟨by rw [HZ.out]; rfl, hBr.drew⟩
      · have HZ := hid (show decide (l = m) = true from decide_eq_true (by have h := HE.out; rw [List.take_of_length_le (by omega), List.take_of_length_le (by have := HLM.out; omega)] at h; exact h))
        go_wp2
        go_ret
        exact ⟨by rw [HZ.out]; rfl, hBr⟩
  · have hne : ((l.length : Int) != (m.length : Int)) = true := by simp; omega
    have HZ := hid (show decide (l = m) = false from decide_eq_false (fun e => hlm (by rw [e])))
    clear hlm
    go_enter Tryz.func10, Tryz.ntmps10
    go_wp2
    go_ret
    exact ⟨by rw [HZ.out]; rfl, Below.refl _ _⟩

end Go.Proofs.YtfahbdlcokoghabGreatDoor

