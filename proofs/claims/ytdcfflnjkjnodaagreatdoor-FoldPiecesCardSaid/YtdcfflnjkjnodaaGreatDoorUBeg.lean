/- The contracts of begin and Is (package utf). -/
import Derived.Test.YtdcfflnjkjnodaaGreatDoorBase
namespace Go.Proofs.YtdcfflnjkjnodaaGreatDoor
open Go.RowKit

theorem start_eq (b q : Int) (w : World) (hb : b = q) (h0 : 0 ≤ q) (h1 : q < 256) :
    Calls Tryz.prog 45 #[.int .u8 b] w fun e w' => e = .returned (.bool (Lib.runeStart q)) ∧ w' = w := by
  subst hb
  exact Tryz.utf8_RuneStart b w h0 h1
set_option maxRecDepth 100000 in
set_option maxHeartbeats 400000 in
theorem begin_any (l : List UInt8) (p : Nat) (w : World) (hp : p < l.length) (hl : l.length ≤ 1000000000000) (hT : Lib.Utf8Tabs 0 1 w) (h2 : 2 ≤ w.heap.size) :
    Calls Tryz.prog 28 #[.string ⟨l.toArray⟩, .int .i64 p] w fun e w' => e = .returned (.int .i64 (bgF l p 4)) ∧ Below w.heap.size w w' := by
  have HT := hid hT
  clear hT
  go_enter Tryz.func28, Tryz.ntmps28
  go_wp2
  go_loopw [5] (fun fr wr => ∃ (f : Nat) (z : Int), fr = .int .i64 z ∧ z = (p : Int) - (4 - f) ∧ f ≤ 4 ∧ -1 ≤ z ∧ Hid (bgF l p f = bgF l p 4) ∧ Below w.heap.size w wr) (fun fr _ => (intOf fr + 1).toNat)
  case atStart => exact ⟨4, _, rfl, by omega, by omega, by omega, rfl, Below.refl _ _⟩
  case round =>
    obtain ⟨f, z, rfl, hz, hf4, hz1, HF, hB⟩ := hrel
    by_cases hf : p < 4 - f
    · have HR := hid (HF.out.symm.trans (bgF_out l p f hf))
      obtain rfl : z = -1 := by omega
      clear hz
      go_wp2
      go_ret
      exact ⟨by rw [HR.out]; rfl, hB⟩
    cases f with
    | zero =>
      have HR := hid (HF.out.symm)
      have hz' : z = (p : Int) - 4 := by omega
      have HZ := hid hz'
      have c1 : ¬ (p : Int) - 4 < z := by omega
      clear hz hz'
      by_cases c2 : 0 ≤ z
      all_goals
        go_wp2
        go_ret
        exact ⟨by rw [HR.out]; rfl, hB⟩
    | succ f =>
      obtain ⟨t, ht⟩ : ∃ t : Nat, t + (3 - f) = p := ⟨p - (3 - f), by omega⟩
      obtain rfl : z = t := by omega
      have hlt : t < l.length := by omega
      have c1 : (p : Int) - 4 < t := by omega
      have htp : t ≤ p := by omega
      have hsz : t < (⟨l.toArray⟩ : ByteArray).size := by show t < l.toArray.size; simpa using hlt
      have HZ := hid hz
      have HTP := hid ht
      obtain ⟨b0, b1⟩ := byt_bd l t
      have HT1 := hid (tabs_below HT.out h2 hB)
      have hw2 : 2 ≤ wr.heap.size := by have := hB.size; omega
      clear hz ht hf
      cases hr : Lib.runeStart (byt l t) with
      | false =>
        have HM := hid (bgF_more l p f t HTP.out hr)
        go_wp2_with (go_at_call 45; refine (start_eq _ (byt l t) _ (byt_eq l t hsz) b0 b1).mono ?_; rintro e w' ⟨rfl, rfl⟩)
        go_roundw
        case rel => exact ⟨f, _, rfl, by have := HZ.out; omega, by omega, by omega, (HM.out.symm.trans HF.out), hB⟩
        case measure => simp [intOf]
      | true =>
        have h4 := dec_le4 (l.drop t)
        by_cases hn : p < t + (dec (l.drop t)).2
        · have HR := hid (HF.out.symm.trans (bgF_in l p f t HTP.out hr hn))
          go_wp2_with (go_at_call 45; refine (start_eq _ (byt l t) _ (byt_eq l t hsz) b0 b1).mono ?_; rintro e w' ⟨rfl, rfl⟩)
          refine (decode_eq _ (l.drop t) _ (ext_drop l t) (by exact HT1.out)).mono ?_
          rintro e w1 ⟨rfl, hb⟩
          generalize (dec (l.drop t)).1 = rr at *
          generalize (dec (l.drop t)).2 = nn at *
          clear hr HT1 HT HF HZ HTP b0 b1 hsz
          go_wp2
          go_ret
          exact ⟨by rw [HR.out]; rfl, hB.trans (hb.mono hB.size)⟩
        · have HR := hid (HF.out.symm.trans (bgF_off l p f t HTP.out hr hn))
          go_wp2_with (go_at_call 45; refine (start_eq _ (byt l t) _ (byt_eq l t hsz) b0 b1).mono ?_; rintro e w' ⟨rfl, rfl⟩)
          refine (decode_eq _ (l.drop t) _ (ext_drop l t) (by exact HT1.out)).mono ?_
          rintro e w1 ⟨rfl, hb⟩
          generalize (dec (l.drop t)).1 = rr at *
          generalize (dec (l.drop t)).2 = nn at *
          clear hr HT1 HT HF HZ HTP b0 b1 hsz
          go_wp2
          go_ret
          exact ⟨by rw [HR.out]; rfl, hB.trans (hb.mono hB.size)⟩
set_option maxHeartbeats 400000 in
theorem is_any (l : List UInt8) (p : Int) (w : World) (hl : l.length ≤ 1000000000000) (hT : Lib.Utf8Tabs 0 1 w) (h2 : 2 ≤ w.heap.size) :
    Calls Tryz.prog 12 #[.string ⟨l.toArray⟩, .int .i64 p] w fun e w' => e = .returned (.bool (isE l p)) ∧ Below w.heap.size w w' := by
  have HT := hid hT
  clear hT
  by_cases c1 : p ≤ 0
  · have HI := hid (show isE l p = (p == 0) from if_pos c1)
    by_cases c0 : p = 0
    · subst c0
      go_enter Tryz.func12, Tryz.ntmps12
      go_wp2
      go_ret
      exact ⟨by rw [HI.out]; rfl, Below.refl _ _⟩
    · have c3 : (p == 0) = false := beq_eq_false_iff_ne.2 c0
      have c4 : (p == (l.length : Int)) = false := beq_eq_false_iff_ne.2 (by omega)
      go_enter Tryz.func12, Tryz.ntmps12
      go_wp2
      go_ret
      exact ⟨by rw [HI.out, c3]; rfl, Below.refl _ _⟩
  by_cases c2 : (l.length : Int) ≤ p
  · have HI := hid (show isE l p = (p == l.length) from (if_neg c1).trans (if_pos c2))
    have c3 : (p == 0) = false := beq_eq_false_iff_ne.2 (by omega)
    by_cases c0 : p = l.length
    · have c4 : (p == (l.length : Int)) = true := beq_iff_eq.2 c0
      clear c0
      go_enter Tryz.func12, Tryz.ntmps12
      go_wp2
      go_ret
      exact ⟨by rw [HI.out, c4]; rfl, Below.refl _ _⟩
    · have c4 : (p == (l.length : Int)) = false := beq_eq_false_iff_ne.2 c0
      clear c0
      go_enter Tryz.func12, Tryz.ntmps12
      go_wp2
      go_ret
      exact ⟨by rw [HI.out, c4]; rfl, Below.refl _ _⟩
  · obtain ⟨q, rfl⟩ : ∃ q : Nat, p = q := ⟨p.toNat, by omega⟩
    have hq : q < l.length := by omega
    have HI := hid (show isE l q = (bgF l q 4 == q) from (if_neg c1).trans (if_neg c2))
    go_enter Tryz.func12, Tryz.ntmps12
    go_wp2_with (go_at_call 28; refine (begin_any l q _ hq hl (by exact HT.out) (by exact h2)).mono ?_; rintro e w1 ⟨rfl, hb⟩)
    go_ret
    exact ⟨by rw [HI.out]; exact congrArg (fun b => Ending.returned (Value.bool b)) (beq_nat (bgF l q 4) q), hb⟩
end Go.Proofs.YtdcfflnjkjnodaaGreatDoor
