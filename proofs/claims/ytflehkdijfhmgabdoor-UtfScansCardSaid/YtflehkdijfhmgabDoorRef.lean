/- The contracts of the document's answers: lead, Rune, Width, Decode. -/
import Derived.Test.YtflehkdijfhmgabDoorRefMath
namespace Go.Proofs.YtflehkdijfhmgabDoor
open Go.RowKit

theorem ret2 {a a' b b' : Int} (h1 : a = a') (h2 : b = b') : Ending.returned (Value.tuple #[.int .i64 a, .int .i32 b]) = .returned (.tuple #[.int .i64 a', .int .i32 b']) := by rw [h1, h2]

set_option maxHeartbeats 400000 in
theorem rlead_any (c : Int) (w : World) (h0 : 0 ≤ c) (h9 : c < 256) :
    Calls Tryd.prog 37 #[.int .u8 c] w fun e w' => e = .returned (.tuple #[.int .i64 (rlN c), .int .i32 (rlB c)]) ∧ w' = w := by
  by_cases h1 : c < 128
  · go_enter Tryd.func37, Tryd.ntmps37
    go_wp2
    go_ret2
    exact ⟨ret2 (by unfold rlN; omega) (by unfold rlB; omega), rfl⟩
  by_cases h2 : c < 192
  · go_enter Tryd.func37, Tryd.ntmps37
    go_wp2
    go_ret2
    exact ⟨ret2 (by unfold rlN; omega) (by unfold rlB; omega), rfl⟩
  by_cases h3 : c < 224
  · go_enter Tryd.func37, Tryd.ntmps37
    go_wp2
    go_ret2
    exact ⟨ret2 (by unfold rlN; omega) (by unfold rlB; omega), rfl⟩
  by_cases h4 : c < 240
  · go_enter Tryd.func37, Tryd.ntmps37
    go_wp2
    go_ret2
    exact ⟨ret2 (by unfold rlN; omega) (by unfold rlB; omega), rfl⟩
  by_cases h5 : c < 248
  · go_enter Tryd.func37, Tryd.ntmps37
    go_wp2
    go_ret2
    exact ⟨ret2 (by unfold rlN; omega) (by unfold rlB; omega), rfl⟩
  · go_enter Tryd.func37, Tryd.ntmps37
    go_wp2
    go_ret2
    exact ⟨ret2 (by unfold rlN; omega) (by unfold rlB; omega), rfl⟩

theorem rlead_eq (c n r : Int) (w : World) (h0 : 0 ≤ c) (h9 : c < 256) (hn : rlN c = n) (hr : rlB c = r) :
    Calls Tryd.prog 37 #[.int .u8 c] w fun e w' => e = .returned (.tuple #[.int .i64 n, .int .i32 r]) ∧ w' = w := by
  subst hn; subst hr
  exact rlead_any c w h0 h9

theorem cont_test (b : Int) (h0 : 0 ≤ b) (h1 : b < 256) : (bits BinOp.and IntKind.u8 b 192 != 128) = !decide (b / 64 = 2) := by
  rw [Lib.runeStart_of b h0 h1]
  unfold Lib.runeStart
  by_cases h : b / 64 = 2 <;> simp [h]

set_option maxHeartbeats 400000 in
theorem rune_any (r : Int) (w : World) :
    Calls Tryd.prog 40 #[.int .i32 r] w fun e w' => e = .returned (.bool (isR r)) ∧ w' = w := by
  by_cases h1 : 0 ≤ r
  · by_cases h2 : r ≤ 1114111
    · by_cases h3 : r < 55296
      · have HR := hid (show isR r = true by simp [isR, h1, h2, h3])
        go_enter Tryd.func40, Tryd.ntmps40
        go_wp2
        go_ret
        exact ⟨by rw [HR.out]; rfl, rfl⟩
      · by_cases h4 : 57343 < r
        · have HR := hid (show isR r = true by simp [isR, h1, h2, h4])
          go_enter Tryd.func40, Tryd.ntmps40
          go_wp2
          go_ret
          exact ⟨by rw [HR.out]; rfl, rfl⟩
        · have HR := hid (show isR r = false by simp [isR, h3, h4])
          go_enter Tryd.func40, Tryd.ntmps40
          go_wp2
          go_ret
          exact ⟨by rw [HR.out]; rfl, rfl⟩
    · have HR := hid (show isR r = false by simp [isR, h2])
      go_enter Tryd.func40, Tryd.ntmps40
      go_wp2
      go_ret
      exact ⟨by rw [HR.out]; rfl, rfl⟩
  · have HR := hid (show isR r = false by simp [isR, h1])
    go_enter Tryd.func40, Tryd.ntmps40
    go_wp2
    go_ret
    exact ⟨by rw [HR.out]; rfl, rfl⟩

set_option maxHeartbeats 400000 in
theorem width_any (r : Int) (w : World) :
    Calls Tryd.prog 38 #[.int .i32 r] w fun e w' => e = .returned (.int .i64 (widI r)) ∧ w' = w := by
  cases hr : isR r with
  | false =>
    have HW := hid (show widI r = 0 by simp [widI, hr])
    go_enter Tryd.func38, Tryd.ntmps38
    go_wp2_with (go_at_call 40; refine (rune_any _ _).mono ?_; rintro e w' ⟨rfl, rfl⟩)
    go_ret
    exact ⟨by rw [HW.out]; rfl, rfl⟩
  | true =>
    have hw : widI r = if r < 128 then 1 else if r < 2048 then 2 else if r < 65536 then 3 else 4 := by simp [widI, hr]
    by_cases h1 : r < 128
    · have HW := hid (show widI r = 1 by rw [hw]; omega)
      clear hw
      go_enter Tryd.func38, Tryd.ntmps38
      go_wp2_with (go_at_call 40; refine (rune_any _ _).mono ?_; rintro e w' ⟨rfl, rfl⟩)
      go_ret
      exact ⟨by rw [HW.out]; rfl, rfl⟩
    by_cases h2 : r < 2048
    · have HW := hid (show widI r = 2 by rw [hw]; omega)
      clear hw
      go_enter Tryd.func38, Tryd.ntmps38
      go_wp2_with (go_at_call 40; refine (rune_any _ _).mono ?_; rintro e w' ⟨rfl, rfl⟩)
      go_ret
      exact ⟨by rw [HW.out]; rfl, rfl⟩
    by_cases h3 : r < 65536
    · have HW := hid (show widI r = 3 by rw [hw]; omega)
      clear hw
      go_enter Tryd.func38, Tryd.ntmps38
      go_wp2_with (go_at_call 40; refine (rune_any _ _).mono ?_; rintro e w' ⟨rfl, rfl⟩)
      go_ret
      exact ⟨by rw [HW.out]; rfl, rfl⟩
    · have HW := hid (show widI r = 4 by rw [hw]; omega)
      clear hw
      go_enter Tryd.func38, Tryd.ntmps38
      go_wp2_with (go_at_call 40; refine (rune_any _ _).mono ?_; rintro e w' ⟨rfl, rfl⟩)
      go_ret
      exact ⟨by rw [HW.out]; rfl, rfl⟩

set_option maxHeartbeats 400000 in
theorem rdec_any (l : List UInt8) (w : World) (hl : l.length ≤ 1000000000000) :
    Calls Tryd.prog 29 #[.string ⟨l.toArray⟩] w fun e w' => e = .returned (.tuple #[.int .i32 (dec l).1, .int .i64 (dec l).2]) ∧ w' = w := by
  by_cases h : l = []
  · subst h
    go_enter Tryd.func29, Tryd.ntmps29
    go_wp2
    go_ret2
    exact ⟨rfl, rfl⟩
  have h1 : 1 ≤ l.length := by cases l with | nil => exact absurd rfl h | cons => simp
  have hsz : 0 < (⟨l.toArray⟩ : ByteArray).size := by show 0 < l.toArray.size; simp; omega
  obtain ⟨b0, b1⟩ := byt_bd l 0
  have he := byt_eq l 0 hsz
  have hl0 : ((l.length : Int) == 0) = false := beq_eq_false_iff_ne.2 (by omega)
  obtain ⟨c, hc⟩ : ∃ c, c = byt l 0 := ⟨_, rfl⟩
  rw [← hc] at he b0 b1
  have HC := hid hc
  clear hc
  have hn4 : 0 ≤ rlN c ∧ rlN c ≤ 4 := by unfold rlN; omega
  by_cases hz : rlN c = 0
  · have HD := hid (dec_short l h (Or.inl (by rw [← HC.out]; exact hz)))
    have hz' : (rlN c == 0) = true := beq_iff_eq.2 hz
    clear hz
    go_enter Tryd.func29, Tryd.ntmps29
    go_wp2_with (go_at_call 37; refine (rlead_any _ _ b0 b1).mono ?_; rintro e w' ⟨rfl, rfl⟩)
    go_ret2
    exact ⟨by rw [HD.out]; rfl, rfl⟩
  have hz' : (rlN c == 0) = false := beq_eq_false_iff_ne.2 hz
  by_cases hs : (l.length : Int) < rlN c
  · have HD := hid (dec_short l h (Or.inr (by rw [← HC.out]; exact hs)))
    clear hz
    go_enter Tryd.func29, Tryd.ntmps29
    go_wp2_with (go_at_call 37; refine (rlead_any _ _ b0 b1).mono ?_; rintro e w' ⟨rfl, rfl⟩)
    go_ret2
    exact ⟨by rw [HD.out]; rfl, rfl⟩
  obtain ⟨n, hn⟩ : ∃ n : Nat, rlN c = n := ⟨(rlN c).toNat, by omega⟩
  have HN := hid hn
  have hnl : n ≤ l.length := by omega
  have hn1 : 1 ≤ n := by omega
  have hn5 : n ≤ 4 := by omega
  have hacc0 : rlB c = acc l 0 := by rw [HC.out]; rfl
  have HA0 := hid hacc0
  clear hz hs hacc0 hn hz' hn4
  go_enter Tryd.func29, Tryd.ntmps29
  have hnl' : ¬ (l.length : Int) < (n : Int) := by omega
  have hn0' : ((n : Int) == 0) = false := beq_eq_false_iff_ne.2 (by omega)
  go_wp2_with (go_at_call 37; refine (rlead_eq _ _ _ _ b0 b1 HN.out HA0.out).mono ?_; rintro e w' ⟨rfl, rfl⟩)
  go_loop [5, 6] (fun r i => ∃ k : Nat, k + 1 ≤ n ∧ i = .int .i64 ((k : Int) + 1) ∧ r = .int .i32 (acc l k) ∧ Hid (∀ j, 1 ≤ j → j < k + 1 → byt l j / 64 = 2)) (fun _ i => n - (intOf i).toNat)
  case atStart => exact ⟨0, by omega, by simp, rfl, fun j h1 h2 => by omega⟩
  case round =>
    obtain ⟨k, hk, rfl, rfl, HB⟩ := hrel
    by_cases hlt : k + 1 < n
    · have hlt' : ((k : Int) + 1) < n := by omega
      have hsk : k + 1 < (⟨l.toArray⟩ : ByteArray).size := by show k + 1 < l.toArray.size; simp; omega
      have hek := byt_eq l (k + 1) hsk
      obtain ⟨d, hd⟩ : ∃ d, d = byt l (k + 1) := ⟨_, rfl⟩
      obtain ⟨d0, d1⟩ := byt_bd l (k + 1)
      rw [← hd] at d0 d1 hek
      have hct := cont_test d d0 d1
      have hab := acc_bd l k
      have hk2 : k ≤ 2 := by omega
      have hab1 : acc l k < 524288 := by
        have : k = 0 ∨ k = 1 ∨ k = 2 := by omega
        rcases this with rfl | rfl | rfl <;> omega
      have hab0 := hab.1
      have HDD := hid hd
      clear hab hd
      by_cases hcn : d / 64 = 2
      · have HX := hid (show acc l (k + 1) = acc l k * 64 + d % 64 by rw [HDD.out]; rfl)
        have HB2 := hid (show ∀ j, 1 ≤ j → j < k + 1 + 1 → byt l j / 64 = 2 from fun j h1 h2 => by
          by_cases e : j = k + 1
          · rw [e, ← HDD.out]; exact hcn
          · exact HB.out j h1 (by omega))
        simp only [hcn, decide_true, Bool.not_true] at hct
        clear hcn
        generalize acc l k = a at *
        go_wp2
        go_round
        case rel => exact ⟨k + 1, by omega, by go_num, by rw [HX.out], HB2⟩
        case measure => simp [intOf]; omega
      · have HD := hid (dec_fail l h (k + 1) (by omega) (by rw [← HC.out, HN.out]; omega) (by rw [← HDD.out]; exact hcn))
        simp only [hcn, decide_false, Bool.not_false] at hct
        clear hcn
        go_wp2
        go_ret2
        exact ⟨by rw [HD.out]; rfl, rfl⟩
    · have hke : k = n - 1 := by omega
      have hge : ¬ ((k : Int) + 1) < n := by omega
      have hD := dec_end l h n (by rw [← HC.out]; exact HN.out) hn1 hnl (fun j h1 h2 => HB.out j h1 (by omega))
      rw [← hke] at hD
      clear hke
      by_cases hw : widI (acc l k) = n
      · rw [if_pos hw] at hD
        have HD := hid hD
        have hw' : (widI (acc l k) != (n : Int)) = false := by simp [hw]
        have hab := (acc_bd l k).1
        clear hD hw
        go_wp2_with (go_at_call 38; refine (width_any _ _).mono ?_; rintro e w' ⟨rfl, rfl⟩)
        go_ret2
        exact ⟨by rw [HD.out]; simp [Int.toNat_of_nonneg hab], rfl⟩
      · rw [if_neg hw] at hD
        have HD := hid hD
        have hw' : (widI (acc l k) != (n : Int)) = true := by simp [hw]
        clear hD hw
        go_wp2_with (go_at_call 38; refine (width_any _ _).mono ?_; rintro e w' ⟨rfl, rfl⟩)
        go_ret2
        exact ⟨by rw [HD.out]; rfl, rfl⟩
end Go.Proofs.YtflehkdijfhmgabDoor
