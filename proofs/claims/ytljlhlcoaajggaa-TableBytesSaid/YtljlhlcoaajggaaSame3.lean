/- The contract of the document's Same, at any two lists of ranges with classes. -/
import Derived.Deep.RegionHeld3
import Derived.Test.YtljlhlcoaajggaaSmallAll
namespace Go.Proofs.Ytljlhlcoaajggaa
open Go.RowKit

theorem take_eq_step {l m : List Rk} {k : Nat} (hk : k < l.length) (hm : k < m.length) (h : l.take k = m.take k) (e : l[k] = m[k]) : l.take (k + 1) = m.take (k + 1) := by
  rw [List.take_succ_eq_append_getElem hk, List.take_succ_eq_append_getElem hm, h, e]

set_option maxRecDepth 100000 in
set_option maxHeartbeats 2000000 in
theorem same3_any (ao bo : Option Addr) (ac bc : Nat) (l m : List Rk) (w : World) (ha : RdK w ao l) (hb : RdK w bo m) (hl : l.length ≤ 1000000000) :
    Calls Try.prog 14 #[.slice ao l.length ac, .slice bo m.length bc] w fun e w' => e = .returned (.bool (decide (l = m))) ∧ Below w.heap.size w w' := by
  have HA := hid ha
  have HB := hid hb
  clear ha hb
  by_cases hlm : l.length = m.length
  · have hne : ((l.length : Int) != (m.length : Int)) = false := by simp; omega
    go_enter Try.func14, Try.ntmps14
    have HLM := hid hlm
    clear hlm
    go_wp2
    go_loopw [5] (fun i wr => ∃ k : Nat, k ≤ l.length ∧ i = .int .i64 k ∧ Hid (l.take k = m.take k) ∧ Below w.heap.size w wr) (fun i _ => l.length - (intOf i).toNat)
    case atStart => exact ⟨0, by omega, rfl, rfl, Below.refl _ _⟩
    case round =>
      obtain ⟨k, hk, rfl, HE, hBr⟩ := hrel
      by_cases hlt : k < l.length
      · have hltm : k < m.length := by have := HLM.out; omega
        obtain ⟨a, rfl, ha, a0, a1, a2⟩ := HA.out.below hBr k l[k] (List.getElem?_eq_getElem hlt)
        obtain ⟨b, rfl, hb, b0, b1, b2⟩ := HB.out.below hBr k m[k] (List.getElem?_eq_getElem hltm)
        have HS := hid (fun e => take_eq_step hlt hltm HE.out e)
        have HD := hid (show l[k] ≠ m[k] → decide (l = m) = false from fun hne => decide_eq_false (fun e => hne (by subst e; rfl)))
        obtain ⟨gx, hx⟩ : ∃ gx, l[k] = gx := ⟨_, rfl⟩
        obtain ⟨gy, hy⟩ : ∃ gy, m[k] = gy := ⟨_, rfl⟩
        rw [hx] at a0 a1 a2 HS HD
        rw [hy] at b0 b1 b2 HS HD
        clear hx hy
        obtain ⟨x0, x1, x2⟩ := gx
        obtain ⟨y0, y1, y2⟩ := gy
        dsimp only at a0 a1 a2 b0 b1 b2
        have i3 : (k : Int) < (l.length : Int) := by omega
        have i4 : (k : Int) < (m.length : Int) := by omega
        by_cases q : (x0, x1, x2) = (y0, y1, y2)
        · have HZ := hid (HS.out q)
          cases q
          clear HS HD
          go_wp2_with fail
          go_region
          go_wp2
          go_roundw
          case rel => exact ⟨k + 1, by omega, by go_num, HZ, hBr.drew⟩
          case measure => simp [intOf]; omega
        · have HZ := hid (HD.out q)
          clear HS HD
          by_cases q0 : x0 = y0
          · by_cases q1 : x1 = y1
            · have q2 : x2 ≠ y2 := fun q2 => q (by rw [q0, q1, q2])
              have t1 : (x2 == y2) = false := beq_eq_false_iff_ne.2 q2
              have t2 : (x2 != y2) = true := bne_iff_ne.2 q2
              subst q0 q1
              clear q
              go_wp2_with fail
              go_region
              go_wp2
              go_ret
              exact ⟨by rw [HZ.out]; rfl, hBr.drew⟩
            · have t1 : (x1 == y1) = false := beq_eq_false_iff_ne.2 q1
              have t2 : (x1 != y1) = true := bne_iff_ne.2 q1
              subst q0
              clear q
              go_wp2_with fail
              go_region
              go_wp2
              go_ret
              exact ⟨by rw [HZ.out]; rfl, hBr.drew⟩
          · have t1 : (x0 == y0) = false := beq_eq_false_iff_ne.2 q0
            have t2 : (x0 != y0) = true := bne_iff_ne.2 q0
            clear q
            go_wp2_with fail
            go_region
            go_wp2
            go_ret
            exact ⟨by rw [HZ.out]; rfl, hBr.drew⟩
      · have HZ := hid (show decide (l = m) = true from decide_eq_true (by have h := HE.out; rw [List.take_of_length_le (by omega), List.take_of_length_le (by have := HLM.out; omega)] at h; exact h))
        go_wp2
        go_ret
        exact ⟨by rw [HZ.out]; rfl, hBr⟩
  · have hne : ((l.length : Int) != (m.length : Int)) = true := by simp; omega
    have HZ := hid (show decide (l = m) = false from decide_eq_false (fun e => hlm (by rw [e])))
    clear hlm
    go_enter Try.func14, Try.ntmps14
    go_wp2
    go_ret
    exact ⟨by rw [HZ.out]; rfl, Below.refl _ _⟩
end Go.Proofs.Ytljlhlcoaajggaa
