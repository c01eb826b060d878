/- The contract of rises (the document's). -/
import Derived.Test.YtbabidhhdfakjaaDoorRows6
namespace Go.Proofs.YtbabidhhdfakjaaDoor
open Go.RowKit

set_option maxHeartbeats 1000000 in
theorem rises_any (ao : Option Addr) (ac n : Nat) (l : List Int) (w : World) (hn : n = l.length) (ha : RdI w ao l) (hl : n ≤ most) :
    Calls Tryd.prog 113 #[.slice ao n ac] w fun e w' => e = .returned (.bool (rs (-1) l)) ∧ Below w.heap.size w w' := by
  unfold most at hl
  have HA := hid ha
  have HN := hid hn
  clear ha hn
  go_enter Tryd.func113, Tryd.ntmps113
  go_wp2
  go_loopw [3] (fun x wr => ∃ (k : Nat) (last : Int), x = .int .i64 k ∧ k ≤ n ∧ Hid (rs (-1) l = rs last (l.drop k)) ∧ (k = 0 → last = -1) ∧ (0 < k → 0 ≤ last ∧ l[k - 1]? = some last) ∧ Hid (Below w.heap.size w wr)) (fun y _ => n - (intOf y).toNat)
  case atStart => exact ⟨0, -1, rfl, Nat.zero_le _, rfl, fun _ => rfl, fun h => by omega, Below.refl _ _⟩
  case round =>
    obtain ⟨k, last, rfl, hk, HE, hl0, hl1, HB⟩ := hrel
    by_cases hlt : k < n
    · have hkl : k < l.length := by have := HN.out; omega
      obtain ⟨a, rfl, ha, a0⟩ := HA.out.below HB.out k l[k] (List.getElem?_eq_getElem hkl)
      have HD := hid (drop_at hkl)
      rw [HD.out] at HE
      have HZ := hid (List.getElem?_eq_getElem hkl)
      obtain ⟨z, hz⟩ : ∃ z, z = l[k] := ⟨_, rfl⟩
      rw [← hz] at a0 HE HZ
      have i3 : (k : Int) < (n : Int) := by omega
      clear hz HD hkl
      by_cases c0 : z < 0
      · have hlow : z ≤ last := by
          by_cases h0 : k = 0
          · have := hl0 h0; omega
          · have := (hl1 (by omega)).1; omega
        have HF := hid (HE.out.trans (rs_bad (.inl hlow)))
        clear hl0 hl1 hlow
        have d0 : decide (z < 0) = true := decide_eq_true c0
        go_wp2_with fail
        go_quiet (fail)
        go_wp2
        go_ret
        exact ⟨by rw [HF.out]; rfl, below_drN HB.out _⟩
      · have c0' : ¬ z < 0 := c0
        by_cases c2 : 64 ≤ z
        · have HF := hid (HE.out.trans (rs_bad (.inr c2)))
          clear hl0 hl1
          have d0 : decide (z < 0) = false := decide_eq_false c0
          have d1 : decide (64 ≤ z) = true := decide_eq_true c2
          go_wp2_with fail
          go_quiet (fail)
          go_wp2
          go_ret
          exact ⟨by rw [HF.out]; rfl, below_drN HB.out _⟩
        · by_cases h0 : 0 < k
          · obtain ⟨hp, hq⟩ := hl1 h0
            obtain ⟨a', ha', _, a1⟩ := HA.out.below HB.out (k - 1) last hq
            cases ha'
            have i4 : (0 : Int) < (k : Int) := by omega
            have i5 : ((k : Int) - 1) = ((k - 1 : Nat) : Int) := by omega
            clear hl0 hl1 hq
            have d0 : decide (z < 0) = false := decide_eq_false c0
            have d1 : decide (64 ≤ z) = false := decide_eq_false c2
            have d2 : decide (0 < (k : Int)) = true := decide_eq_true i4
            have ewr : IntKind.i64.wrap ((k : Int) - 1) = ((k - 1 : Nat) : Int) := by rw [IntKind.wrap_i64]; omega
            have i6 : (0 : Int) ≤ ((k - 1 : Nat) : Int) := by omega
            have i7 : ((k - 1 : Nat) : Int) < (n : Int) := by omega
            by_cases c1 : z ≤ last
            · have HF := hid (HE.out.trans (rs_bad (.inl c1)))
              have d3 : decide (z ≤ last) = true := decide_eq_true c1
              go_wp2_with fail
              go_quiet (fail)
              go_wp2
              go_ret
              exact ⟨by rw [HF.out]; rfl, below_drN HB.out _⟩
            · have HF := hid (HE.out.trans (rs_ok (by omega) (by omega)))
              have d3 : decide (z ≤ last) = false := decide_eq_false c1
              go_wp2_with fail
              go_quiet (fail)
              go_wp2
              go_roundw
              case rel => exact ⟨k + 1, z, by go_num, by omega, HF, fun h => by omega, fun _ => ⟨by omega, HZ.out⟩, below_drN HB.out _⟩
              case measure => simp [intOf]; omega
          · have hm := hl0 (by omega)
            have HF := hid (HE.out.trans (rs_ok (by omega) (by omega)))
            have d0 : decide (z < 0) = false := decide_eq_false c0
            have d1 : decide (64 ≤ z) = false := decide_eq_false c2
            have i4 : ¬ (0 : Int) < (k : Int) := by omega
            have d2 : decide (0 < (k : Int)) = false := decide_eq_false i4
            clear hl0 hl1 hm
            go_wp2_with fail
            go_quiet (fail)
            go_wp2
            go_roundw
            case rel => exact ⟨k + 1, z, by go_num, by omega, HF, fun h => by omega, fun _ => ⟨by omega, HZ.out⟩, below_drN HB.out _⟩
            case measure => simp [intOf]; omega
    · have HD := hid (drop_end (l := l) (k := k) (by have := HN.out; omega))
      rw [HD.out] at HE
      clear hl0 hl1
      go_wp2
      go_ret
      exact ⟨by rw [HE.out]; rfl, HB.out⟩
end Go.Proofs.YtbabidhhdfakjaaDoor
