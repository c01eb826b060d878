/- The contract of the document's Hex. -/
import Derived.Test.YtfahbdlcokoghabGreatDoorBackMath
namespace Go.Proofs.YtfahbdlcokoghabGreatDoor
open Go.RowKit

theorem wdt_go {n j : Nat} (h : j < wdt n) : 0 < n / 16 ^ j ∨ j < 4 := by
  by_cases c : j < 4
  · exact .inr c
  · left
    unfold wdt at h
    split at h
    · omega
    · split at h
      · have : j = 4 := by omega
        subst this
        show 0 < n / 65536
        omega
      · have : j = 4 ∨ j = 5 := by omega
        rcases this with rfl | rfl
        · show 0 < n / 65536; omega
        · show 0 < n / 1048576; omega
theorem wdt_stop {n : Nat} (h : n ≤ 1114111) : n / 16 ^ wdt n = 0 := Nat.div_eq_of_lt (wdt_pow n h)
theorem dgs_at (d : Nat) (h : d < 16) (l : List UInt8) : (⟨#[48, 49, 50, 51, 52, 53, 54, 55, 56, 57, 65, 66, 67, 68, 69, 70]⟩ : ByteArray).extract d (d + 1) ++ ⟨l.toArray⟩ = ⟨(dgU d :: l).toArray⟩ := by
  have e : (⟨#[48, 49, 50, 51, 52, 53, 54, 55, 56, 57, 65, 66, 67, 68, 69, 70]⟩ : ByteArray).extract d (d + 1) = ⟨#[dgU d]⟩ := by
    have hall : ∀ d, d < 16 → (⟨#[48, 49, 50, 51, 52, 53, 54, 55, 56, 57, 65, 66, 67, 68, 69, 70]⟩ : ByteArray).extract d (d + 1) = ⟨#[dgU d]⟩ := by decide
    exact hall d h
  rw [e]
  apply ByteArray.ext
  simp
set_option maxHeartbeats 1000000 in
set_option maxRecDepth 100000 in
theorem rhex_any (n : Nat) (w : World) (hn : n ≤ 1114111) :
    Calls Tryz.prog 22 #[.int .i32 (n : Int)] w fun e w' => e = .returned (.string ⟨(hex n).toArray⟩) ∧ w' = w := by
  have hwd := wdt_bd n
  go_enter Tryz.func22, Tryz.ntmps22
  go_wp2
  go_loopw [0, 4] (fun r s wr => ∃ (j q : Nat), r = .int .i32 (q : Int) ∧ s = .string ⟨(hxL j n).toArray⟩ ∧ j ≤ wdt n ∧ q ≤ 1114111 ∧ Hid (q = n / 16 ^ j) ∧ wr = w) (fun r s _ => match s with | .string b => wdt n - b.size | _ => 0)
  case atStart => exact ⟨0, n, rfl, rfl, by omega, hn, by simp [Hid], rfl⟩
  case round =>
    obtain ⟨j, q, rfl, rfl, hj, hq, HQ, hw⟩ := hrel
    obtain rfl := hw.symm
    have hlen : (hxL j n).length = j := hxL_len j n
    by_cases c : j < wdt n
    · have hd : q % 16 < 16 := by omega
      have HC := hid (show (⟨#[48, 49, 50, 51, 52, 53, 54, 55, 56, 57, 65, 66, 67, 68, 69, 70]⟩ : ByteArray).extract (q % 16) (q % 16 + 1) ++ ⟨(hxL j n).toArray⟩ = ⟨(hxL (j + 1) n).toArray⟩ by rw [dgs_at _ hd, hxL_cons, HQ.out])
      have HQ2 := hid (show q / 16 = n / 16 ^ (j + 1) by rw [HQ.out, Nat.div_div_eq_div_mul, Nat.pow_succ])
      by_cases c1 : 0 < q
      · have c1' : (0 : Int) < (q : Int) := by omega
        go_wp2
        refine ⟨⟨j + 1, q / 16, congrArg (Value.int .i32) (by omega), congrArg Value.string HC.out, by omega, by omega, HQ2, trivial⟩, ?_⟩
        rw [HC.out]
        show wdt n - (hxL (j + 1) n).toArray.size < wdt n - (hxL j n).toArray.size
        rw [List.size_toArray, List.size_toArray, hxL_len, hlen]
        omega
      · have c2 : j < 4 := by rcases wdt_go c with h | h; rw [← HQ.out] at h; omega; exact h
        have c1' : ¬ (0 : Int) < (q : Int) := by omega
        go_wp2
        refine ⟨⟨j + 1, q / 16, congrArg (Value.int .i32) (by omega), congrArg Value.string HC.out, by omega, by omega, HQ2, trivial⟩, ?_⟩
        rw [HC.out]
        show wdt n - (hxL (j + 1) n).toArray.size < wdt n - (hxL j n).toArray.size
        rw [List.size_toArray, List.size_toArray, hxL_len, hlen]
        omega
    · have e : j = wdt n := by omega
      have HS := hid (wdt_stop hn)
      have hq0 : q = 0 := by have h := HQ.out; rw [e, HS.out] at h; exact h
      subst hq0
      have c2 : ¬ (j : Int) < 4 := by omega
      have HE := hid e
      clear e
      go_wp2
      go_ret
      exact ⟨by rw [HE.out]; rfl, rfl⟩
end Go.Proofs.YtfahbdlcokoghabGreatDoor
