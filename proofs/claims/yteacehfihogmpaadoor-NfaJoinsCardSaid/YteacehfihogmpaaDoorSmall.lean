/- The contracts of within and rising (package nfa). -/
import Derived.Test.YteacehfihogmpaaDoorRows6
namespace Go.Proofs.YteacehfihogmpaaDoor
open Go.RowKit

theorem within_any (i n : Int) (w : World) : Calls Tryd.prog 73 #[.int .i64 i, .int .i64 n] w fun e w' => e = .returned (.bool (wn i n)) ∧ w' = w := by
  by_cases h0 : 0 ≤ i
  · by_cases h1 : i < n
    · have hW := hid (wn_yes h0 h1)
      go_enter Tryd.func73, Tryd.ntmps73
      go_wp2
      go_ret
      exact ⟨by rw [hW.out]; rfl, rfl⟩
    · have hW := hid (wn_no (i := i) (n := n) (.inr (by omega)))
      go_enter Tryd.func73, Tryd.ntmps73
      go_wp2
      go_ret
      exact ⟨by rw [hW.out]; rfl, rfl⟩
  · have hW := hid (wn_no (i := i) (n := n) (.inl (by omega)))
    go_enter Tryd.func73, Tryd.ntmps73
    go_wp2
    go_ret
    exact ⟨by rw [hW.out]; rfl, rfl⟩

set_option maxHeartbeats 1000000 in
theorem rising_any (ao : Option Addr) (ac n : Nat) (l : List Int) (w : World) (hn : n = l.length) (ha : RdI w ao l) (hl : n ≤ most) :
    Calls Tryd.prog 112 #[.slice ao n ac] w fun e w' => e = .returned (.bool (rs (-1) l)) ∧ w' = w := by
  unfold most at hl
  have HA := hid ha
  have HN := hid hn
  clear ha hn
  go_enter Tryd.func112, Tryd.ntmps112
  go_wp2
  go_loop [3, 8] (fun x y => ∃ (k : Nat) (last : Int), x = .int .i64 last ∧ y = .int .i64 k ∧ k ≤ n ∧ Hid (rs (-1) l = rs last (l.drop k))) (fun _ y => n - (intOf y).toNat)
  case atStart => exact ⟨0, -1, rfl, rfl, Nat.zero_le _, rfl⟩
  case round =>
    obtain ⟨k, last, rfl, rfl, hk, HE⟩ := hrel
    by_cases hlt : k < n
    · have hkl : k < l.length := by have := HN.out; omega
      obtain ⟨a, rfl, ha, a0⟩ := HA.out k l[k] (List.getElem?_eq_getElem hkl)
      have HD := hid (drop_at hkl)
      rw [HD.out] at HE
      obtain ⟨z, hz⟩ : ∃ z, z = l[k] := ⟨_, rfl⟩
      rw [← hz] at a0 HE
      clear hz HD hkl
      by_cases c1 : z ≤ last
      · have HF := hid (HE.out.trans (rs_bad (.inl c1)))
        go_wp2
        go_ret
        exact ⟨by rw [HF.out]; rfl, rfl⟩
      · by_cases c2 : 64 ≤ z
        · have HF := hid (HE.out.trans (rs_bad (.inr c2)))
          go_wp2
          go_ret
          exact ⟨by rw [HF.out]; rfl, rfl⟩
        · have HF := hid (HE.out.trans (rs_ok (by omega) (by omega)))
          go_wp2
          go_round
          case rel => exact ⟨k + 1, z, rfl, by go_num, by omega, HF⟩
          case measure => simp [intOf]; omega
    · have HD := hid (drop_end (l := l) (k := k) (by have := HN.out; omega))
      rw [HD.out] at HE
      go_wp2
      go_ret
      exact ⟨by rw [HE.out]; rfl, rfl⟩

end Go.Proofs.YteacehfihogmpaaDoor
