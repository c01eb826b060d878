/- The contract of lead (package utf): the four numbers that it tells of a first byte. -/
import Derived.Test.YtflehkdijfhmgabDoorRows
import Derived.Test.YtflehkdijfhmgabDoorMath
import Derived.WalkKit
import Derived.WalkSpells
import Derived.WalkLawsBesides
namespace Go.Proofs.YtflehkdijfhmgabDoor
open Go.RowKit

theorem ret4 {a a' b b' c c' d d' : Int} (h1 : a = a') (h2 : b = b') (h3 : c = c') (h4 : d = d') :
    Ending.returned (Value.tuple #[.int .i32 a, .int .i64 b, .int .u8 c, .int .u8 d]) = .returned (.tuple #[.int .i32 a', .int .i64 b', .int .u8 c', .int .u8 d']) := by
  rw [h1, h2, h3, h4]

set_option maxHeartbeats 400000 in
theorem lead_any (c : Int) (w : World) (h0 : 0 ≤ c) (h9 : c < 256) :
    Calls Tryd.prog 36 #[.int .u8 c] w fun e w' => e = .returned (.tuple #[.int .i32 (ldBits c), .int .i64 (ldMore c), .int .u8 (ldLow c), .int .u8 (ldHigh c)]) ∧ w' = w := by
  by_cases h1 : c < 128
  · go_enter Tryd.func36, Tryd.ntmps36
    go_wp2
    exact bodyPost_ret (v := .tuple #[.int .i32 c, .int .i64 0, .int .u8 128, .int .u8 191]) (by simp [results, Tryd.results36, go_sem]) rfl ⟨ret4 (by unfold ldBits; omega) (by unfold ldMore; omega) (by unfold ldLow; omega) (by unfold ldHigh; omega), rfl⟩
  by_cases h2 : c < 194
  · go_enter Tryd.func36, Tryd.ntmps36
    go_wp2
    exact bodyPost_ret (v := .tuple #[.int .i32 0, .int .i64 (-1), .int .u8 128, .int .u8 191]) (by simp [results, Tryd.results36, go_sem]) rfl ⟨ret4 (by unfold ldBits; omega) (by unfold ldMore; omega) (by unfold ldLow; omega) (by unfold ldHigh; omega), rfl⟩
  by_cases h3 : 244 < c
  · go_enter Tryd.func36, Tryd.ntmps36
    go_wp2
    exact bodyPost_ret (v := .tuple #[.int .i32 0, .int .i64 (-1), .int .u8 128, .int .u8 191]) (by simp [results, Tryd.results36, go_sem]) rfl ⟨ret4 (by unfold ldBits; omega) (by unfold ldMore; omega) (by unfold ldLow; omega) (by unfold ldHigh; omega), rfl⟩
  by_cases h4 : c < 224
  · go_enter Tryd.func36, Tryd.ntmps36
    go_wp2
    exact bodyPost_ret (v := .tuple #[.int .i32 (c % 32), .int .i64 1, .int .u8 128, .int .u8 191]) (by simp [results, Tryd.results36, go_sem]) rfl ⟨ret4 (by unfold ldBits; omega) (by unfold ldMore; omega) (by unfold ldLow; omega) (by unfold ldHigh; omega), rfl⟩
  by_cases h5 : c < 240
  · by_cases h6 : c = 224
    · subst h6
      go_enter Tryd.func36, Tryd.ntmps36
      go_wp2
      exact bodyPost_ret (v := .tuple #[.int .i32 0, .int .i64 2, .int .u8 160, .int .u8 191]) (by simp [results, Tryd.results36, go_sem]) rfl ⟨ret4 (by decide) (by decide) (by decide) (by decide), rfl⟩
    by_cases h7 : c = 237
    · subst h7
      go_enter Tryd.func36, Tryd.ntmps36
      go_wp2
      exact bodyPost_ret (v := .tuple #[.int .i32 13, .int .i64 2, .int .u8 128, .int .u8 159]) (by simp [results, Tryd.results36, go_sem]) rfl ⟨ret4 (by decide) (by decide) (by decide) (by decide), rfl⟩
    have b1 : (c == 224) = false := beq_eq_false_iff_ne.2 h6
    have b2 : (c == 237) = false := beq_eq_false_iff_ne.2 h7
    go_enter Tryd.func36, Tryd.ntmps36
    go_wp2
    exact bodyPost_ret (v := .tuple #[.int .i32 (c % 16), .int .i64 2, .int .u8 128, .int .u8 191]) (by simp [results, Tryd.results36, go_sem]) rfl ⟨ret4 (by unfold ldBits; omega) (by unfold ldMore; omega) (by unfold ldLow; omega) (by unfold ldHigh; omega), rfl⟩
  by_cases h6 : c = 240
  · subst h6
    go_enter Tryd.func36, Tryd.ntmps36
    go_wp2
    exact bodyPost_ret (v := .tuple #[.int .i32 0, .int .i64 3, .int .u8 144, .int .u8 191]) (by simp [results, Tryd.results36, go_sem]) rfl ⟨ret4 (by decide) (by decide) (by decide) (by decide), rfl⟩
  by_cases h7 : c = 244
  · subst h7
    go_enter Tryd.func36, Tryd.ntmps36
    go_wp2
    exact bodyPost_ret (v := .tuple #[.int .i32 4, .int .i64 3, .int .u8 128, .int .u8 143]) (by simp [results, Tryd.results36, go_sem]) rfl ⟨ret4 (by decide) (by decide) (by decide) (by decide), rfl⟩
  have b1 : (c == 240) = false := beq_eq_false_iff_ne.2 h6
  have b2 : (c == 244) = false := beq_eq_false_iff_ne.2 h7
  go_enter Tryd.func36, Tryd.ntmps36
  go_wp2
  exact bodyPost_ret (v := .tuple #[.int .i32 (c % 8), .int .i64 3, .int .u8 128, .int .u8 191]) (by simp [results, Tryd.results36, go_sem]) rfl ⟨ret4 (by unfold ldBits; omega) (by unfold ldMore; omega) (by unfold ldLow; omega) (by unfold ldHigh; omega), rfl⟩
end Go.Proofs.YtflehkdijfhmgabDoor
