/- What Decode answers, in numbers: the document's way to it. -/
import Derived.Lib.DecodeN
import Derived.Test.YtffbdnlfknomnaaDoorBase
import Derived.Test.YtffbdnlfknomnaaDoorPcPntJoint
namespace Go.Proofs.YtffbdnlfknomnaaDoor.Rf

def rlN (c : Int) : Int := if c < 128 then 1 else if c < 192 then 0 else if c < 224 then 2 else if c < 240 then 3 else if c < 248 then 4 else 0
def rlB (c : Int) : Int := if c < 128 then c else if c < 192 then 0 else if c < 224 then c % 32 else if c < 240 then c % 16 else if c < 248 then c % 8 else 0
/-- Whether a number is a rune. -/
def isR (r : Int) : Bool := decide (0 ≤ r) && (decide (r ≤ 1114111) && (decide (r < 55296) || decide (57343 < r)))
def widI (r : Int) : Int := if isR r = false then 0 else if r < 128 then 1 else if r < 2048 then 2 else if r < 65536 then 3 else 4

/-- The bits, so many bytes on. -/
def acc (l : List UInt8) : Nat → Int
  | 0 => rlB (byt l 0)
  | k + 1 => acc l k * 64 + byt l (k + 1) % 64

theorem rlB_bd (c : Int) (h : 0 ≤ c) : 0 ≤ rlB c ∧ rlB c ≤ 127 := by unfold rlB; omega
theorem acc_bd (l : List UInt8) : ∀ k, 0 ≤ acc l k ∧ acc l k + 1 ≤ 128 * 64 ^ k
  | 0 => by have := rlB_bd (byt l 0) (byt_bd l 0).1; simp [acc]; omega
  | k + 1 => by
    obtain ⟨h1, h2⟩ := acc_bd l k
    have hp : (64 : Int) ^ (k + 1) = 64 * 64 ^ k := by rw [Int.pow_succ]; omega
    simp only [acc, hp]
    omega

theorem dec_short (l : List UInt8) (h : l ≠ []) (hn : rlN (byt l 0) = 0 ∨ (l.length : Int) < rlN (byt l 0)) : dec l = (65533, 1) := by
  rw [dec_numbers l h]
  have h1 : 1 ≤ l.length := by cases l with | nil => exact absurd rfl h | cons => simp
  unfold rlN byt at hn
  generalize (l.getD 0 0).toNat = b0 at *
  unfold Lib.decodeN
  repeat' split
  all_goals first | rfl | (exfalso; omega)

theorem dec_fail (l : List UInt8) (h : l ≠ []) (k : Nat) (h1 : 1 ≤ k) (hk : (k : Int) < rlN (byt l 0)) (hb : ¬ byt l k / 64 = 2) : dec l = (65533, 1) := by
  rw [dec_numbers l h]
  have h4 : rlN (byt l 0) ≤ 4 := by unfold rlN; omega
  have hk3 : k = 1 ∨ k = 2 ∨ k = 3 := by omega
  rcases hk3 with rfl | rfl | rfl
  all_goals
    unfold rlN byt at hk
    unfold byt at hb
    generalize (l.getD 0 0).toNat = b0 at *
    generalize (l.getD 1 0).toNat = b1 at *
    generalize (l.getD 2 0).toNat = b2 at *
    generalize (l.getD 3 0).toNat = b3 at *
    unfold Lib.decodeN
    repeat' split
    all_goals first | rfl | (exfalso; omega)

theorem isR_iff (r : Int) : isR r = true ↔ 0 ≤ r ∧ r ≤ 1114111 ∧ (r < 55296 ∨ 57343 < r) := by simp [isR]
theorem widI_val (x : Nat) : widI (x : Int) = if x ≤ 1114111 ∧ (x < 55296 ∨ 57343 < x) then (if x < 128 then 1 else if x < 2048 then 2 else if x < 65536 then 3 else 4) else 0 := by
  have hi := isR_iff (x : Int)
  unfold widI
  by_cases h : x ≤ 1114111 ∧ (x < 55296 ∨ 57343 < x)
  · rw [hi.2 (by omega), if_pos h, if_neg (by decide)]
    repeat' split
    all_goals omega
  · have hr : isR (x : Int) = false := by
      cases hr : isR (x : Int) with
      | false => rfl
      | true => have := hi.1 hr; omega
    rw [hr, if_neg h, if_pos rfl]
theorem wid_pick3 (x : Nat) (hx : x < 65536) : (if x ≥ 2048 ∧ (x < 55296 ∨ (57344 ≤ x ∧ x ≤ 1114111)) then (x, 3) else (65533, 1)) = if widI (x : Int) = ((3 : Nat) : Int) then ((x : Int).toNat, 3) else (65533, 1) := by
  rw [widI_val, Int.toNat_natCast]
  repeat' split
  all_goals first | rfl | (exfalso; omega)
theorem wid_pick4 (x : Nat) : (if x ≥ 65536 ∧ (x < 55296 ∨ (57344 ≤ x ∧ x ≤ 1114111)) then (x, 4) else (65533, 1)) = if widI (x : Int) = ((4 : Nat) : Int) then ((x : Int).toNat, 4) else (65533, 1) := by
  rw [widI_val, Int.toNat_natCast]
  repeat' split
  all_goals first | rfl | (exfalso; omega)

theorem dec_end (l : List UInt8) (h : l ≠ []) (n : Nat) (hn : rlN (byt l 0) = n) (hn1 : 1 ≤ n) (hl : n ≤ l.length) (hb : ∀ k, 1 ≤ k → k < n → byt l k / 64 = 2) :
    dec l = if widI (acc l (n - 1)) = n then ((acc l (n - 1)).toNat, n) else (65533, 1) := by
  rw [dec_numbers l h]
  have h4 : rlN (byt l 0) ≤ 4 := by unfold rlN; omega
  have hn4 : n = 1 ∨ n = 2 ∨ n = 3 ∨ n = 4 := by omega
  have g0 := (l.getD 0 0).toNat_lt
  have g1 := (l.getD 1 0).toNat_lt
  have g2 := (l.getD 2 0).toNat_lt
  have g3 := (l.getD 3 0).toNat_lt
  rcases hn4 with rfl | rfl | rfl | rfl
  · simp only [Nat.sub_self, acc]
    unfold rlN byt at hn
    unfold byt
    generalize (l.getD 0 0).toNat = b0 at *
    have hb0 : b0 < 128 := by omega
    have e1 : rlB b0 = b0 := by unfold rlB; omega
    have e2 : widI b0 = 1 := by simp [widI, isR]; omega
    rw [e1, e2]
    unfold Lib.decodeN
    rw [if_pos hb0]
    simp
  · have hb1 := hb 1 (by omega) (by omega)
    simp only [Nat.reduceSub, acc]
    unfold rlN byt at hn
    unfold byt at hb1 ⊢
    simp only [Nat.zero_add] at *
    generalize (l.getD 0 0).toNat = b0 at *
    generalize (l.getD 1 0).toNat = b1 at *
    have e1 : rlB b0 = (b0 : Int) % 32 := by unfold rlB; omega
    rw [e1]
    unfold Lib.decodeN widI isR
    simp
    repeat' split
    all_goals first | rfl | (exfalso; omega) | (simp; omega)
  · have hb1 := hb 1 (by omega) (by omega)
    have hb2 := hb 2 (by omega) (by omega)
    simp only [Nat.reduceSub, acc]
    unfold rlN byt at hn
    unfold byt at hb1 hb2 ⊢
    simp only [Nat.zero_add, Nat.reduceAdd] at *
    generalize (l.getD 0 0).toNat = b0 at *
    generalize (l.getD 1 0).toNat = b1 at *
    generalize (l.getD 2 0).toNat = b2 at *
    have e1 : rlB b0 = (b0 : Int) % 16 := by unfold rlB; omega
    rw [e1]
    have e2 : ((b0 : Int) % 16 * 64 + (b1 : Int) % 64) * 64 + (b2 : Int) % 64 = ((b0 % 16 * 4096 + b1 % 64 * 64 + b2 % 64 : Nat) : Int) := by omega
    rw [e2]
    unfold Lib.decodeN
    rw [if_neg (by omega), if_neg (by omega), if_pos (by omega)]
    have hx : b0 % 16 * 4096 + b1 % 64 * 64 + b2 % 64 < 65536 := by omega
    generalize b0 % 16 * 4096 + b1 % 64 * 64 + b2 % 64 = x at *
    exact wid_pick3 x hx
  · have hb1 := hb 1 (by omega) (by omega)
    have hb2 := hb 2 (by omega) (by omega)
    have hb3 := hb 3 (by omega) (by omega)
    simp only [Nat.reduceSub, acc]
    unfold rlN byt at hn
    unfold byt at hb1 hb2 hb3 ⊢
    simp only [Nat.zero_add, Nat.reduceAdd] at *
    generalize (l.getD 0 0).toNat = b0 at *
    generalize (l.getD 1 0).toNat = b1 at *
    generalize (l.getD 2 0).toNat = b2 at *
    generalize (l.getD 3 0).toNat = b3 at *
    have e1 : rlB b0 = (b0 : Int) % 8 := by unfold rlB; omega
    rw [e1]
    have e2 : (((b0 : Int) % 8 * 64 + (b1 : Int) % 64) * 64 + (b2 : Int) % 64) * 64 + (b3 : Int) % 64 = ((b0 % 8 * 262144 + b1 % 64 * 4096 + b2 % 64 * 64 + b3 % 64 : Nat) : Int) := by omega
    rw [e2]
    unfold Lib.decodeN
    rw [if_neg (by omega), if_neg (by omega), if_neg (by omega), if_pos (by omega)]
    generalize b0 % 8 * 262144 + b1 % 64 * 4096 + b2 % 64 * 64 + b3 % 64 = x at *
    exact wid_pick4 x
end Go.Proofs.YtffbdnlfknomnaaDoor.Rf
/- The contracts of the document's answers: lead, Rune, Width, Decode. -/
namespace Go.Proofs.YtffbdnlfknomnaaDoor.Rf
open Go.RowKit

theorem ret2 {a a' b b' : Int} (h1 : a = a') (h2 : b = b') : Ending.returned (Value.tuple #[.int .i64 a, .int .i32 b]) = .returned (.tuple #[.int .i64 a', .int .i32 b']) := by rw [h1, h2]

set_option maxHeartbeats 400000 in
theorem rlead_any (c : Int) (w : World) (h0 : 0 ≤ c) (h9 : c < 256) :
    Calls Tryd.prog 86 #[.int .u8 c] w fun e w' => e = .returned (.tuple #[.int .i64 (rlN c), .int .i32 (rlB c)]) ∧ w' = w := by
  by_cases h1 : c < 128
  · go_enter Tryd.func86, Tryd.ntmps86
    go_wp2
    go_ret2
    exact ⟨ret2 (by unfold rlN; omega) (by unfold rlB; omega), rfl⟩
  by_cases h2 : c < 192
  · go_enter Tryd.func86, Tryd.ntmps86
    go_wp2
    go_ret2
    exact ⟨ret2 (by unfold rlN; omega) (by unfold rlB; omega), rfl⟩
  by_cases h3 : c < 224
  · go_enter Tryd.func86, Tryd.ntmps86
    go_wp2
    go_ret2
    exact ⟨ret2 (by unfold rlN; omega) (by unfold rlB; omega), rfl⟩
  by_cases h4 : c < 240
  · go_enter Tryd.func86, Tryd.ntmps86
    go_wp2
    go_ret2
    exact ⟨ret2 (by unfold rlN; omega) (by unfold rlB; omega), rfl⟩
  by_cases h5 : c < 248
  · go_enter Tryd.func86, Tryd.ntmps86
    go_wp2
    go_ret2
    exact ⟨ret2 (by unfold rlN; omega) (by unfold rlB; omega), rfl⟩
  · go_enter Tryd.func86, Tryd.ntmps86
    go_wp2
    go_ret2
    exact ⟨ret2 (by unfold rlN; omega) (by unfold rlB; omega), rfl⟩

theorem rlead_eq (c n r : Int) (w : World) (h0 : 0 ≤ c) (h9 : c < 256) (hn : rlN c = n) (hr : rlB c = r) :
    Calls Tryd.prog 86 #[.int .u8 c] w fun e w' => e = .returned (.tuple #[.int .i64 n, .int .i32 r]) ∧ w' = w := by
  subst hn; subst hr
  exact rlead_any c w h0 h9

theorem cont_test (b : Int) (h0 : 0 ≤ b) (h1 : b < 256) : (bits BinOp.and IntKind.u8 b 192 != 128) = !decide (b / 64 = 2) := by
  rw [Lib.runeStart_of b h0 h1]
  unfold Lib.runeStart
  by_cases h : b / 64 = 2 <;> simp [h]

set_option maxHeartbeats 400000 in
theorem rune_any (r : Int) (w : World) :
    Calls Tryd.prog 105 #[.int .i32 r] w fun e w' => e = .returned (.bool (isR r)) ∧ w' = w := by
  by_cases h1 : 0 ≤ r
  · by_cases h2 : r ≤ 1114111
    · by_cases h3 : r < 55296
      · have HR := hid (show isR r = true by simp [isR, h1, h2, h3])
        go_enter Tryd.func105, Tryd.ntmps105
        go_wp2
        go_ret
        exact ⟨by rw [HR.out]; rfl, rfl⟩
      · by_cases h4 : 57343 < r
        · have HR := hid (show isR r = true by simp [isR, h1, h2, h4])
          go_enter Tryd.func105, Tryd.ntmps105
          go_wp2
          go_ret
          exact ⟨by rw [HR.out]; rfl, rfl⟩
        · have HR := hid (show isR r = false by simp [isR, h3, h4])
          go_enter Tryd.func105, Tryd.ntmps105
          go_wp2
          go_ret
          exact ⟨by rw [HR.out]; rfl, rfl⟩
    · have HR := hid (show isR r = false by simp [isR, h2])
      go_enter Tryd.func105, Tryd.ntmps105
      go_wp2
      go_ret
      exact ⟨by rw [HR.out]; rfl, rfl⟩
  · have HR := hid (show isR r = false by simp [isR, h1])
    go_enter Tryd.func105, Tryd.ntmps105
    go_wp2
    go_ret
    exact ⟨by rw [HR.out]; rfl, rfl⟩

set_option maxHeartbeats 400000 in
theorem width_any (r : Int) (w : World) :
    Calls Tryd.prog 87 #[.int .i32 r] w fun e w' => e = .returned (.int .i64 (widI r)) ∧ w' = w := by
  cases hr : isR r with
  | false =>
    have HW := hid (show widI r = 0 by simp [widI, hr])
    go_enter Tryd.func87, Tryd.ntmps87
    go_wp2_with (go_at_call 105; refine (rune_any _ _).mono ?_; rintro e w' ⟨rfl, rfl⟩)
    go_ret
    exact ⟨by rw [HW.out]; rfl, rfl⟩
  | true =>
    have hw : widI r = if r < 128 then 1 else if r < 2048 then 2 else if r < 65536 then 3 else 4 := by simp [widI, hr]
    by_cases h1 : r < 128
    · have HW := hid (show widI r = 1 by rw [hw]; omega)
      clear hw
      go_enter Tryd.func87, Tryd.ntmps87
      go_wp2_with (go_at_call 105; refine (rune_any _ _).mono ?_; rintro e w' ⟨rfl, rfl⟩)
      go_ret
      exact ⟨by rw [HW.out]; rfl, rfl⟩
    by_cases h2 : r < 2048
    · have HW := hid (show widI r = 2 by rw [hw]; omega)
      clear hw
      go_enter Tryd.func87, Tryd.ntmps87
      go_wp2_with (go_at_call 105; refine (rune_any _ _).mono ?_; rintro e w' ⟨rfl, rfl⟩)
      go_ret
      exact ⟨by rw [HW.out]; rfl, rfl⟩
    by_cases h3 : r < 65536
    · have HW := hid (show widI r = 3 by rw [hw]; omega)
      clear hw
      go_enter Tryd.func87, Tryd.ntmps87
      go_wp2_with (go_at_call 105; refine (rune_any _ _).mono ?_; rintro e w' ⟨rfl, rfl⟩)
      go_ret
      exact ⟨by rw [HW.out]; rfl, rfl⟩
    · have HW := hid (show widI r = 4 by rw [hw]; omega)
      clear hw
      go_enter Tryd.func87, Tryd.ntmps87
      go_wp2_with (go_at_call 105; refine (rune_any _ _).mono ?_; rintro e w' ⟨rfl, rfl⟩)
      go_ret
      exact ⟨by rw [HW.out]; rfl, rfl⟩

set_option maxHeartbeats 400000 in
theorem rdec_any (l : List UInt8) (w : World) (hl : l.length ≤ 1000000000000) :
    Calls Tryd.prog 66 #[.string ⟨l.toArray⟩] w fun e w' => e = .returned (.tuple #[.int .i32 (dec l).1, .int .i64 (dec l).2]) ∧ w' = w := by
  by_cases h : l = []
  · subst h
    go_enter Tryd.func66, Tryd.ntmps66
    go_wp2
    go_ret2
    exact ⟨rfl, rfl⟩
  have h1 : 1 ≤ l.length := by cases l with | nil => exact absurd rfl h | cons => simp
  have hsz : 0 < (⟨l.toArray⟩ : ByteArray).size := by show 0 < l.toArray.size; simp; omega
  obtain ⟨b0, b1⟩ := byt_bd l 0
  have he := byt_eq l 0 hsz
  have hl0 : ((l.length : Int) == 0) = false := beq_eq_false_iff_ne.2 (by omega)
  obtain ⟨c, hc⟩ : ∃ c, c = byt l 0 := ⟨_, rfl⟩
  rw [← hc] at he b0 b1
  have HC := hid hc
  clear hc
  have hn4 : 0 ≤ rlN c ∧ rlN c ≤ 4 := by unfold rlN; omega
  by_cases hz : rlN c = 0
  · have HD := hid (dec_short l h (Or.inl (by rw [← HC.out]; exact hz)))
    have hz' : (rlN c == 0) = true := beq_iff_eq.2 hz
    clear hz
    go_enter Tryd.func66, Tryd.ntmps66
    go_wp2_with (go_at_call 86; refine (rlead_any _ _ b0 b1).mono ?_; rintro e w' ⟨rfl, rfl⟩)
    go_ret2
    exact ⟨by rw [HD.out]; rfl, rfl⟩
  have hz' : (rlN c == 0) = false := beq_eq_false_iff_ne.2 hz
  by_cases hs : (l.length : Int) < rlN c
  · have HD := hid (dec_short l h (Or.inr (by rw [← HC.out]; exact hs)))
    clear hz
    go_enter Tryd.func66, Tryd.ntmps66
    go_wp2_with (go_at_call 86; refine (rlead_any _ _ b0 b1).mono ?_; rintro e w' ⟨rfl, rfl⟩)
    go_ret2
    exact ⟨by rw [HD.out]; rfl, rfl⟩
  obtain ⟨n, hn⟩ : ∃ n : Nat, rlN c = n := ⟨(rlN c).toNat, by omega⟩
  have HN := hid hn
  have hnl : n ≤ l.length := by omega
  have hn1 : 1 ≤ n := by omega
  have hn5 : n ≤ 4 := by omega
  have hacc0 : rlB c = acc l 0 := by rw [HC.out]; rfl
  have HA0 := hid hacc0
  clear hz hs hacc0 hn hz' hn4
  go_enter Tryd.func66, Tryd.ntmps66
  have hnl' : ¬ (l.length : Int) < (n : Int) := by omega
  have hn0' : ((n : Int) == 0) = false := beq_eq_false_iff_ne.2 (by omega)
  go_wp2_with (go_at_call 86; refine (rlead_eq _ _ _ _ b0 b1 HN.out HA0.out).mono ?_; rintro e w' ⟨rfl, rfl⟩)
  go_loop [5, 6] (fun r i => ∃ k : Nat, k + 1 ≤ n ∧ i = .int .i64 ((k : Int) + 1) ∧ r = .int .i32 (acc l k) ∧ Hid (∀ j, 1 ≤ j → j < k + 1 → byt l j / 64 = 2)) (fun _ i => n - (intOf i).toNat)
  case atStart => exact ⟨0, by omega, by simp, rfl, fun j h1 h2 => by omega⟩
  case round =>
    obtain ⟨k, hk, rfl, rfl, HB⟩ := hrel
    by_cases hlt : k + 1 < n
    · have hlt' : ((k : Int) + 1) < n := by omega
      have hsk : k + 1 < (⟨l.toArray⟩ : ByteArray).size := by show k + 1 < l.toArray.size; simp; omega
      have hek := byt_eq l (k + 1) hsk
      obtain ⟨d, hd⟩ : ∃ d, d = byt l (k + 1) := ⟨_, rfl⟩
      obtain ⟨d0, d1⟩ := byt_bd l (k + 1)
      rw [← hd] at d0 d1 hek
      have hct := cont_test d d0 d1
      have hab := acc_bd l k
      have hk2 : k ≤ 2 := by omega
      have hab1 : acc l k < 524288 := by
        have : k = 0 ∨ k = 1 ∨ k = 2 := by omega
        rcases this with rfl | rfl | rfl <;> omega
      have hab0 := hab.1
      have HDD := hid hd
      clear hab hd
      by_cases hcn : d / 64 = 2
      · have HX := hid (show acc l (k + 1) = acc l k * 64 + d % 64 by rw [HDD.out]; rfl)
        have HB2 := hid (show ∀ j, 1 ≤ j → j < k + 1 + 1 → byt l j / 64 = 2 from fun j h1 h2 => by
          by_cases e : j = k + 1
          · rw [e, ← HDD.out]; exact hcn
          · exact HB.out j h1 (by omega))
        simp only [hcn, decide_true, Bool.not_true] at hct
        clear hcn
        generalize acc l k = a at *
        go_wp2
        go_round
        case rel => exact ⟨k + 1, by omega, by go_num, by rw [HX.out], HB2⟩
        case measure => simp [intOf]; omega
      · have HD := hid (dec_fail l h (k + 1) (by omega) (by rw [← HC.out, HN.out]; omega) (by rw [← HDD.out]; exact hcn))
        simp only [hcn, decide_false, Bool.not_false] at hct
        clear hcn
        go_wp2
        go_ret2
        exact ⟨by rw [HD.out]; rfl, rfl⟩
    · have hke : k = n - 1 := by omega
      have hge : ¬ ((k : Int) + 1) < n := by omega
      have hD := dec_end l h n (by rw [← HC.out]; exact HN.out) hn1 hnl (fun j h1 h2 => HB.out j h1 (by omega))
      rw [← hke] at hD
      clear hke
      by_cases hw : widI (acc l k) = n
      · rw [if_pos hw] at hD
        have HD := hid hD
        have hw' : (widI (acc l k) != (n : Int)) = false := by simp [hw]
        have hab := (acc_bd l k).1
        clear hD hw
        go_wp2_with (go_at_call 87; refine (width_any _ _).mono ?_; rintro e w' ⟨rfl, rfl⟩)
        go_ret2
        exact ⟨by rw [HD.out]; simp [Int.toNat_of_nonneg hab], rfl⟩
      · rw [if_neg hw] at hD
        have HD := hid hD
        have hw' : (widI (acc l k) != (n : Int)) = true := by simp [hw]
        clear hD hw
        go_wp2_with (go_at_call 87; refine (width_any _ _).mono ?_; rintro e w' ⟨rfl, rfl⟩)
        go_ret2
        exact ⟨by rw [HD.out]; rfl, rfl⟩
end Go.Proofs.YtffbdnlfknomnaaDoor.Rf
/- The contract of the document's Marks: the runes of a text, each with its place, its width, itself and whether it is a fault. -/
namespace Go.Proofs.YtffbdnlfknomnaaDoor.Rf
open Go.RowKit

theorem Tryd.info86 : (Tryd.prog.info? 86).map (fun i => (i.zero, i.size, i.bytes)) = some (some (.agg #[.int .i64 0, .int .i64 0, .int .i32 0, .bool false]), 4, 24) := by kernel_rfl
/-- The cells of a mark. -/
def mkc (m : Mk) : List Value := [.int .i64 m.pl, .int .i64 m.wd, .int .i32 m.ru, .bool m.bad]
def mkcs (ms : List Mk) : List Value := ms.flatMap mkc
theorem mkcs_snoc (ms : List Mk) (m : Mk) : mkcs (ms ++ [m]) = mkcs ms ++ mkc m := by simp [mkcs]
theorem mkc_one (m : Mk) : ∀ u ∈ mkc m, u.oneCell' = true := by
  intro u hu
  simp only [mkc, List.mem_cons, List.mem_nil_iff, or_false] at hu
  rcases hu with rfl | rfl | rfl | rfl <;> rfl
theorem news_one (wr : World) (cs : Array Value) (t : TypeId) : ∀ j u, cs.toList[j]? = some u → (wr.alloc (.cells cs t)).cell? ((⟨wr.heap.size, 0, none⟩ : Addr).add j) = some u := fun j u h => by
  rw [Addr.add_lit, Nat.zero_add, (Wt.Cb.new wr cs t).cell j]
  simpa using h
/-- What was found so far and what is to come make the whole. -/
def PartM (l : List UInt8) (ms : List Mk) (t : Nat) : Prop := t ≤ l.length ∧ ms ++ mks t (l.drop t) = mks 0 l ∧ ms.length ≤ t
theorem PartM.start (l : List UInt8) : PartM l [] 0 := by simp [PartM]
theorem PartM.step {l : List UInt8} {ms : List Mk} {t : Nat} (h : PartM l ms t) (ht : t < l.length) : PartM l (ms ++ [mk1 t (l.drop t)]) (t + (dec (l.drop t)).2) := by
  obtain ⟨h1, h2, h3⟩ := h
  have hne : l.drop t ≠ [] := fun e => by have := congrArg List.length e; simp at this; omega
  have g1 := dec_ge _ hne
  have g2 := dec_le _ hne
  simp only [List.length_drop] at g2
  refine ⟨by omega, ?_, by simp; omega⟩
  rw [← h2, mks_cons t (l.drop t) hne]
  simp [List.drop_drop]
theorem PartM.done {l : List UInt8} {ms : List Mk} {t : Nat} (h : PartM l ms t) (ht : ¬ t < l.length) : ms = mks 0 l := by
  have h2 := h.2.1
  rw [List.drop_of_length_le (by omega), mks_nil] at h2
  simpa using h2

theorem rdec_eq (s : ByteArray) (l : List UInt8) (w : World) (hs : s = ⟨l.toArray⟩) (hl : l.length ≤ 1000000000000) :
    Calls Tryd.prog 66 #[.string s] w fun e w' => e = .returned (.tuple #[.int .i32 (dec l).1, .int .i64 (dec l).2]) ∧ w' = w := by
  subst hs
  exact rdec_any l w hl

set_option maxHeartbeats 1000000 in
theorem marks_any (l : List UInt8) (w : World) (hl : l.length ≤ 1000000000000) :
    Calls Tryd.prog 40 #[.string ⟨l.toArray⟩] w fun e w' => ∃ v, e = .returned v ∧ w'.ownsRow w.heap.size 86 4 v (mks 0 l).length (mkcs (mks 0 l)) ∧ Below w.heap.size w w' := by
  obtain ⟨i0, hi, hz0, hz1, hz2⟩ := info_parts Tryd.info86
  go_enter Tryd.func40, Tryd.ntmps40
  go_wp2
  go_loopw [3, 4] (fun v i wr => ∃ (t : Nat) (q : Int) (ms : List Mk), i = .int .i64 q ∧ q = t ∧ Hid (PartM l ms t) ∧ wr.ownsRow w.heap.size 86 4 v ms.length (mkcs ms) ∧ Below w.heap.size w wr) (fun _ i _ => l.length - (intOf i).toNat)
  case atStart => exact ⟨0, 0, [], rfl, rfl, PartM.start l, World.ownsRow_nil _ _ _ _, Below.refl _ _⟩
  case round =>
    obtain ⟨t, q, ms, rfl, rfl, HP, hown, hB⟩ := hrel
    have htl : t ≤ l.length := HP.out.1
    have hml : ms.length ≤ t := HP.out.2.2
    by_cases hlt : t < l.length
    · have hne : l.drop t ≠ [] := fun e => by have := congrArg List.length e; simp at this; omega
      have g1 := dec_ge _ hne
      have g2 := dec_le _ hne
      have g3 := dec_rune _ hne
      simp only [List.length_drop] at g2
      have HS := hid (HP.out.step hlt)
      have HK := hid (show mk1 t (l.drop t) = ⟨t, (dec (l.drop t)).2, (dec (l.drop t)).1, decide ((dec (l.drop t)).2 = 1) && decide ((dec (l.drop t)).1 = 65533)⟩ from rfl)
      clear hne
      go_wp2_with fail
      refine (rdec_eq _ (l.drop t) _ (ext_drop l t) (by simp; omega)).mono ?_
      rintro e w1 ⟨rfl, rfl⟩
      generalize (dec (l.drop t)).1 = rr at *
      generalize (dec (l.drop t)).2 = nn at *
      rw [HK.out] at HS
      clear HK HP
      by_cases hn1 : nn = 1
      · by_cases hr1 : rr = 65533
        · have e : (decide (nn = 1) && decide (rr = 65533)) = true := by simp [hn1, hr1]
          rw [e] at HS
          have t1 : (((nn : Int)) == 1) = true := beq_iff_eq.2 (by omega)
          have t2 : (((rr : Int)) == 65533) = true := beq_iff_eq.2 (by omega)
          clear hn1 hr1 e
          have hB1s := hB.size
          go_wp2_with (at_builtin; refine wpList_append_own _ rfl _ _ 83 rfl w.heap.size 86 i0 (.agg #[.int .i64 0, .int .i64 0, .int .i32 0, .bool false]) 4 24 Tryd.underlying83 hi hz0 hz1 hz2 rfl (by decide) _ _ _ rfl (hown.alloc _) ⟨w1.heap.size, 0, none⟩ 1 1 (mkc ⟨t, nn, rr, true⟩) rfl rfl (news_one w1 #[.int .i64 t, .int .i64 nn, .int .i32 rr, .bool true] 86) (mkc_one _) (by unfold maxLen; omega) (by omega) (by simp; omega) ?_)
          intro v' w2 hown' hgrow _
          have hB2 : Below w.heap.size w w2 := (hB.alloc hB.size _).grown hgrow (by simp; omega) (fun k hk => (hown.lt k hk).1)
          have hown2 : w2.ownsRow w.heap.size 86 4 v' (ms ++ [Mk.mk t nn rr true]).length (mkcs (ms ++ [Mk.mk t nn rr true])) := by rw [mkcs_snoc, List.length_append]; exact hown'
          clear hown' hgrow hown hB
          go_wp2
          go_roundw
          case rel => exact ⟨t + nn, _, _, rfl, by omega, HS, hown2, hB2⟩
          case measure => simp [intOf]; omega
        · have e : (decide (nn = 1) && decide (rr = 65533)) = false := by simp [hr1]
          rw [e] at HS
          have t1 : (((nn : Int)) == 1) = true := beq_iff_eq.2 (by omega)
          have t2 : (((rr : Int)) == 65533) = false := beq_eq_false_iff_ne.2 (by omega)
          clear hn1 hr1 e
          have hB1s := hB.size
          go_wp2_with (at_builtin; refine wpList_append_own _ rfl _ _ 83 rfl w.heap.size 86 i0 (.agg #[.int .i64 0, .int .i64 0, .int .i32 0, .bool false]) 4 24 Tryd.underlying83 hi hz0 hz1 hz2 rfl (by decide) _ _ _ rfl (hown.alloc _) ⟨w1.heap.size, 0, none⟩ 1 1 (mkc ⟨t, nn, rr, false⟩) rfl rfl (news_one w1 #[.int .i64 t, .int .i64 nn, .int .i32 rr, .bool false] 86) (mkc_one _) (by unfold maxLen; omega) (by omega) (by simp; omega) ?_)
          intro v' w2 hown' hgrow _
          have hB2 : Below w.heap.size w w2 := (hB.alloc hB.size _).grown hgrow (by simp; omega) (fun k hk => (hown.lt k hk).1)
          have hown2 : w2.ownsRow w.heap.size 86 4 v' (ms ++ [Mk.mk t nn rr false]).length (mkcs (ms ++ [Mk.mk t nn rr false])) := by rw [mkcs_snoc, List.length_append]; exact hown'
          clear hown' hgrow hown hB
          go_wp2
          go_roundw
          case rel => exact ⟨t + nn, _, _, rfl, by omega, HS, hown2, hB2⟩
          case measure => simp [intOf]; omega
      · have e : (decide (nn = 1) && decide (rr = 65533)) = false := by simp [hn1]
        rw [e] at HS
        have t1 : (((nn : Int)) == 1) = false := beq_eq_false_iff_ne.2 (by omega)
        clear hn1 e
        have hB1s := hB.size
        go_wp2_with (at_builtin; refine wpList_append_own _ rfl _ _ 83 rfl w.heap.size 86 i0 (.agg #[.int .i64 0, .int .i64 0, .int .i32 0, .bool false]) 4 24 Tryd.underlying83 hi hz0 hz1 hz2 rfl (by decide) _ _ _ rfl (hown.alloc _) ⟨w1.heap.size, 0, none⟩ 1 1 (mkc ⟨t, nn, rr, false⟩) rfl rfl (news_one w1 #[.int .i64 t, .int .i64 nn, .int .i32 rr, .bool false] 86) (mkc_one _) (by unfold maxLen; omega) (by omega) (by simp; omega) ?_)
        intro v' w2 hown' hgrow _
        have hB2 : Below w.heap.size w w2 := (hB.alloc hB.size _).grown hgrow (by simp; omega) (fun k hk => (hown.lt k hk).1)
        have hown2 : w2.ownsRow w.heap.size 86 4 v' (ms ++ [Mk.mk t nn rr false]).length (mkcs (ms ++ [Mk.mk t nn rr false])) := by rw [mkcs_snoc, List.length_append]; exact hown'
        clear hown' hgrow hown hB
        go_wp2
        go_roundw
        case rel => exact ⟨t + nn, _, _, rfl, by omega, HS, hown2, hB2⟩
        case measure => simp [intOf]; omega
    · have HD := hid (HP.out.done hlt)
      go_wp2
      go_ret
      exact ⟨_, rfl, by rw [← HD.out]; exact hown, hB⟩
end Go.Proofs.YtffbdnlfknomnaaDoor.Rf
/- Lines as the document finds them, rune by rune: the mathematics. -/
namespace Go.Proofs.YtffbdnlfknomnaaDoor.Rf
open Go.Proofs.YtffbdnlfknomnaaDoor.Wt

/-- Marks are runes with their places. -/
def rpw : Nat → List (Nat × Nat) → List (Int × Int × Int)
  | _, [] => []
  | p, x :: L => ((p : Int), (x.2 : Int), (x.1 : Int)) :: rpw (p + x.2) L
theorem mks_rpw : ∀ (n p : Nat) (l : List UInt8), l.length ≤ n → (mks p l).map (fun m => (m.pl, m.wd, m.ru)) = rpw p (rl l)
  | n, p, l, hn => by
    by_cases h : l = []
    · subst h; rfl
    · have h1 := dec_ge l h
      have hp : 0 < l.length := List.length_pos_iff.2 h
      cases n with
      | zero => omega
      | succ n =>
        rw [mks_cons p l h, rl_cons l h, List.map_cons, rpw, mks_rpw n _ _ (by rw [List.length_drop]; omega)]
        rfl
theorem rpw_get : ∀ (X : List (Nat × Nat)) (p k : Nat) (h : k < X.length), (rpw p X)[k]? = some (((p + psm (X.take k) : Nat) : Int), ((X[k]).2 : Int), ((X[k]).1 : Int))
  | [], _, _, h => by cases h
  | x :: X, p, 0, _ => by simp [rpw, psm]
  | x :: X, p, k + 1, h => by
    rw [rpw, List.getElem?_cons_succ, rpw_get X (p + x.2) k (by simpa using h), List.take_succ_cons, psm_cons, Nat.add_assoc]
    simp
theorem mks_at_k (l : List UInt8) (k : Nat) (h : k < (rl l).length) : ∃ m, (mks 0 l)[k]? = some m ∧ m.pl = (pos l k : Nat) ∧ m.wd = (((rl l)[k]).2 : Nat) ∧ m.ru = (((rl l)[k]).1 : Nat) := by
  have h1 := mks_rpw _ 0 l (Nat.le_refl _)
  have h2 := rpw_get (rl l) 0 k h
  rw [← h1, List.getElem?_map] at h2
  cases hm : (mks 0 l)[k]? with
  | none => rw [hm] at h2; cases h2
  | some m =>
    rw [hm] at h2
    have h3 := Option.some.inj h2
    simp only [Nat.zero_add, Prod.mk.injEq] at h3
    exact ⟨m, rfl, h3.1, h3.2.1, h3.2.2⟩
theorem mks_len (l : List UInt8) : (mks 0 l).length = (rl l).length := by
  have h1 := congrArg List.length (mks_rpw _ 0 l (Nat.le_refl _))
  rw [List.length_map] at h1
  have : ∀ (X : List (Nat × Nat)) (p : Nat), (rpw p X).length = X.length := by
    intro X
    induction X with
    | nil => intro p; rfl
    | cons x X ih => intro p; rw [rpw, List.length_cons, List.length_cons, ih]
  rw [h1, this]
/-- How many line ends stand among the first runes. -/
def eK (l : List UInt8) (k : Nat) : Nat := (((rp l 0).take k).filter (endP l)).length
theorem rp_get (l : List UInt8) (k : Nat) (h : k < (rl l).length) : (rp l 0)[k]? = some (pos l k, ((rl l)[k]).1) := by
  have hk : k < (rp l 0).length := by show k < (rpN 0 (rl l)).length; rw [rpN_len]; exact h
  have hs : rp l 0 = (rp l 0).take k ++ (rp l 0)[k] :: (rp l 0).drop (k + 1) := by
    rw [← List.drop_eq_getElem_cons hk, List.take_append_drop]
  obtain ⟨j, hj, hj0, e1, e2, _⟩ := rp_at l _ _ _ hs
  have hjk : j = k := by rw [hj0, List.length_take]; omega
  subst hjk
  rw [List.getElem?_eq_getElem hk]
  congr 1
  exact Prod.ext e1 e2
theorem eK_succ (l : List UInt8) (k : Nat) (h : k < (rl l).length) : eK l (k + 1) = eK l k + (if endP l (pos l k, ((rl l)[k]).1) = true then 1 else 0) := by
  have hk : k < (rp l 0).length := by show k < (rpN 0 (rl l)).length; rw [rpN_len]; exact h
  have hg := rp_get l k h
  rw [List.getElem?_eq_getElem hk] at hg
  unfold eK
  rw [List.take_succ_eq_append_getElem hk, List.filter_append, List.length_append, Option.some.inj hg]
  by_cases he : endP l (pos l k, ((rl l)[k]).1) = true
  · rw [if_pos he, List.filter_cons_of_pos he]; rfl
  · rw [if_neg he, List.filter_cons_of_neg he]; rfl
theorem eK_all (l : List UInt8) : eK l (rl l).length = (endsL l).length := by
  unfold eK endsL
  have : (rp l 0).length = (rl l).length := rpN_len _ _
  rw [List.take_of_length_le (by omega), List.length_map]
/-- A line's end by its number. -/
theorem lnT_eK (l : List UInt8) (k : Nat) (h : k < (rl l).length) (he : endP l (pos l k, ((rl l)[k]).1) = true) : lnT l (eK l k) = pos l k ∧ eK l k < (endsL l).length := by
  have hk : k < (rp l 0).length := by show k < (rpN 0 (rl l)).length; rw [rpN_len]; exact h
  have hg := rp_get l k h
  rw [List.getElem?_eq_getElem hk] at hg
  have hE : endsL l = (((rp l 0).take k).filter (endP l)).map (·.1) ++ pos l k :: (((rp l 0).drop (k + 1)).filter (endP l)).map (·.1) := by
    have hs : rp l 0 = (rp l 0).take k ++ (pos l k, ((rl l)[k]).1) :: (rp l 0).drop (k + 1) := by
      rw [← Option.some.inj hg, ← List.drop_eq_getElem_cons hk, List.take_append_drop]
    unfold endsL
    conv => lhs; rw [hs]
    rw [List.filter_append, List.map_append, List.filter_cons_of_pos he]
    rfl
  have hl : ((((rp l 0).take k).filter (endP l)).map (·.1)).length = eK l k := List.length_map ..
  constructor
  · unfold lnT
    rw [hE, List.getElem?_append_right (by omega), hl, Nat.sub_self]; rfl
  · rw [hE, List.length_append, hl, List.length_cons]; omega
/-- The letter of what ends a line. -/
theorem nxl_ends (l : List UInt8) (k : Nat) (h : k < (rl l).length) (he : endP l (pos l k, ((rl l)[k]).1) = true) :
    nxl l (pos l k) = (if ((rl l)[k]).1 = 13 ∧ (((rl l).drop (k + 1)).head?).map (·.1) = some 10 then pos l (k + 2) else pos l (k + 1)) := by
  have hm : pos l k ∈ endsL l := by
    have hk : k < (rp l 0).length := by show k < (rpN 0 (rl l)).length; rw [rpN_len]; exact h
    have hg := rp_get l k h
    exact List.mem_map.2 ⟨_, List.mem_filter.2 ⟨List.mem_of_getElem? hg, he⟩, rfl⟩
  obtain ⟨j, hj, e1, hN, _, hG⟩ := ends_letter l _ hm
  have hjk : j = k := by
    rcases Nat.lt_trichotomy j k with h1 | h1 | h1
    · have := pos_mono l (k - j) j (by omega)
      rw [show j + (k - j) = k by omega] at this
      omega
    · exact h1
    · have := pos_mono l (j - k) k (by omega)
      rw [show k + (j - k) = j by omega] at this
      omega
  subst hjk
  have hal : galone (gc (rl l)[j]) = true := isN_alone _ hN
  have hdr : (rl l).drop j = (rl l)[j] :: (rl l).drop (j + 1) := List.drop_eq_getElem_cons hj
  have hne : (rl l).drop j ≠ [] := by rw [hdr]; exact List.cons_ne_nil _ _
  have hmem : (pos l j, pos l j + psm (((rl l).drop j).take (fstC (((rl l).drop j).map gc)))) ∈ gpF l 0 := by
    rw [hG, pcl_cons gc _ hne, plc]
    simp
  have hfst := fst_bd gc _ hne
  have hlen : ((rl l).drop j).length = (rl l).length - j := List.length_drop ..
  have hpsm : pos l j + psm (((rl l).drop j).take (fstC (((rl l).drop j).map gc))) = pos l (j + fstC (((rl l).drop j).map gc)) := by
    unfold pos
    rw [List.take_add, psm_app]
  rw [hpsm] at hmem
  rw [nxl_of l (pos l j) _ _ hmem (Nat.le_refl _) (by
    have := pos_mono l (fstC (((rl l).drop j).map gc)) j (by omega)
    omega)]
  have hgr : ∀ (c : Int) (L : List Int), galone c = true → gr c L = if c = 1 ∧ L.head? = some 2 then 1 else 0 := by
    intro c L hc
    have hc3 : c = 1 ∨ c = 2 ∨ c = 3 := by
      unfold galone at hc
      simp only [Bool.or_eq_true, beq_iff_eq] at hc
      omega
    cases L with
    | nil => rw [if_neg (by simp)]; rfl
    | cons b L =>
      have hnx : nx c b = if gbt c b = 1 then some b else none := by
        unfold nx
        rw [if_neg (by omega), if_neg (by omega), if_neg (by omega), if_neg (by omega)]
      have hgb : gbt c b = if c = 1 ∧ b = 2 then 1 else 0 := by
        unfold gbt
        by_cases h1 : c = 1 ∧ b = 2
        · rw [if_pos h1, if_pos h1]
        · rw [if_neg h1, if_neg h1, if_pos (.inl hc)]
      by_cases h1 : c = 1 ∧ b = 2
      · rw [if_pos ⟨h1.1, by rw [h1.2]; rfl⟩, gr_cons, hnx, hgb, if_pos h1, if_pos rfl, h1.2]
        have h2 : gr 2 L = 0 := by
          cases L with
          | nil => rfl
          | cons d L =>
            rw [gr_cons]
            have : nx 2 d = none := by
              unfold nx
              rw [if_neg (by omega), if_neg (by omega), if_neg (by omega), if_neg (by omega)]
              have : gbt 2 d = 0 := by
                unfold gbt
                rw [if_neg (by omega), if_pos (.inl rfl)]
              rw [this]; rfl
            rw [this]
        simp only [h2]
      · rw [if_neg (by rintro ⟨q1, q2⟩; exact h1 ⟨q1, by simpa using q2⟩), gr_cons, hnx, hgb, if_neg h1]
        rfl
  have hf : fstC (((rl l).drop j).map gc) = gr (gc (rl l)[j]) (((rl l).drop (j + 1)).map gc) + 1 := by rw [hdr]; rfl
  rw [hf, hgr _ _ hal]
  have hc1 : gc (rl l)[j] = 1 ↔ ((rl l)[j]).1 = 13 := by
    constructor
    · intro q; have := (gp_12 _).1 q; omega
    · intro q; unfold gc; rw [q]; decide
  have hc2 : (((rl l).drop (j + 1)).map gc).head? = some 2 ↔ (((rl l).drop (j + 1)).head?).map (·.1) = some 10 := by
    cases ((rl l).drop (j + 1)) with
    | nil => simp
    | cons b L =>
      simp only [List.map_cons, List.head?_cons, Option.map_some, Option.some.injEq]
      constructor
      · intro q; have := (gp_12 _).2 q; omega
      · intro q; unfold gc; rw [q]; decide
  by_cases h1 : ((rl l)[j]).1 = 13 ∧ (((rl l).drop (j + 1)).head?).map (·.1) = some 10
  · rw [if_pos h1, if_pos ⟨hc1.2 h1.1, hc2.2 h1.2⟩]
  · rw [if_neg h1, if_neg (fun q => h1 ⟨hc1.1 q.1, hc2.1 q.2⟩)]
end Go.Proofs.YtffbdnlfknomnaaDoor.Rf
/- Lines as the document finds them: how its count stands between two runes. Mathematics alone. -/
namespace Go.Proofs.YtffbdnlfknomnaaDoor.Rf
open Go.Proofs.YtffbdnlfknomnaaDoor.Wt

theorem dec_asc (l : List UInt8) (c : Nat) (hl : l ≠ []) (h : byt l 0 = (c : Nat)) (hc : c < 128) : dec l = (c, 1) := by
  cases l with
  | nil => exact absurd rfl hl
  | cons u t =>
    have hu : u.toNat = c := by
      have : byt (u :: t) 0 = (u.toNat : Int) := rfl
      omega
    rw [dec_ascii u t (by omega), hu]
/-- The rune number k. -/
def rn (l : List UInt8) (k : Nat) : Option Nat := ((rl l)[k]?).map (·.1)
theorem rn_at (l : List UInt8) (k : Nat) (h : k < (rl l).length) : rn l k = some ((rl l)[k]).1 := by
  unfold rn; rw [List.getElem?_eq_getElem h]; rfl
theorem sec_is (l : List UInt8) (k : Nat) (h : k < (rl l).length) : sec l (pos l k) = true ↔ (rn l k = some 10 ∧ 0 < k ∧ rn l (k - 1) = some 13) := by
  rw [rn_at l k h, Option.some.injEq]
  constructor
  · intro hs
    unfold sec at hs
    simp only [Bool.and_eq_true, beq_iff_eq, decide_eq_true_eq] at hs
    obtain ⟨⟨h1, h2⟩, h3⟩ := hs
    have hk : 0 < k := by
      rcases Nat.eq_zero_or_pos k with e | e
      · rw [e, pos_0] at h2; omega
      · exact e
    obtain ⟨j, rfl⟩ : ∃ j, k = j + 1 := ⟨k - 1, by omega⟩
    have hj : j < (rl l).length := by omega
    refine ⟨?_, by omega, ?_⟩
    · have hd := dec_pos l (j + 1) h
      rw [← hd, dec_asc (l.drop (pos l (j + 1))) 10 (drop_ne l _ (pos_end l _ h)) (by rw [byt_drop, Nat.add_zero]; exact h1) (by decide)]
    · rw [Nat.add_sub_cancel, rn_at l j hj, Option.some.injEq]
      have hd := dec_pos l j hj
      have hne := drop_ne l _ (pos_end l j hj)
      have hst := pos_step l j hj
      have hge := dec_ge _ hne
      rcases Nat.eq_or_lt_of_le hge with e | e
      · rw [← e] at hst
        rw [← hst, Nat.add_sub_cancel] at h3
        rw [← hd, dec_asc (l.drop (pos l j)) 13 hne (by rw [byt_drop, Nat.add_zero]; exact h3) (by decide)]
      · exfalso
        have hin := (dec_inner (l.drop (pos l j)) hne ((dec (l.drop (pos l j))).2 - 1) (by omega) (by omega)).1
        rw [byt_drop, show pos l j + ((dec (l.drop (pos l j))).2 - 1) = pos l (j + 1) - 1 by omega, h3] at hin
        revert hin
        decide
  · rintro ⟨h1, h2, h3⟩
    obtain ⟨j, rfl⟩ : ∃ j, k = j + 1 := ⟨k - 1, by omega⟩
    have hj : j < (rl l).length := by omega
    rw [Nat.add_sub_cancel, rn_at l j hj, Option.some.injEq] at h3
    obtain ⟨b1, b2⟩ := rune_low l j hj 13 (by decide) h3
    obtain ⟨b3, _⟩ := rune_low l (j + 1) h 10 (by decide) h1
    unfold sec
    rw [b3, b2, Nat.add_sub_cancel, b1]
    simp
/-- How many lines are told ahead of the rune number k. -/
def St (l : List UInt8) (k o : Nat) : Prop := if 0 < k ∧ rn l (k - 1) = some 13 ∧ rn l k = some 10 then eK l k = o + 1 else eK l k = o
theorem st_0 (l : List UInt8) : St l 0 0 := by unfold St; rw [if_neg (by omega)]; rfl
theorem st_end (l : List UInt8) (o : Nat) (h : St l (rl l).length o) : o = (endsL l).length := by
  unfold St at h
  rw [if_neg (fun q => by have := q.2.2; unfold rn at this; rw [List.getElem?_eq_none (Nat.le_refl _)] at this; cases this)] at h
  rw [← h, eK_all]
theorem endP_is (l : List UInt8) (k r : Nat) (h : k < (rl l).length) (hr : ((rl l)[k]).1 = r) : endP l (pos l k, ((rl l)[k]).1) = true ↔ (isN r = true ∧ ¬ (r = 10 ∧ 0 < k ∧ rn l (k - 1) = some 13)) := by
  have hs := sec_is l k h
  rw [rn_at l k h, hr, Option.some.injEq] at hs
  unfold endP
  simp only [hr, Bool.and_eq_true, Bool.not_eq_true']
  rw [← hs]
  simp
theorem st_skip (l : List UInt8) (k o r : Nat) (h : k < (rl l).length) (hr : ((rl l)[k]).1 = r) (hN : isN r = false) (hs : St l k o) : St l (k + 1) o := by
  have h10 : r ≠ 10 := fun e => by rw [e] at hN; exact absurd hN (by decide)
  have h13 : r ≠ 13 := fun e => by rw [e] at hN; exact absurd hN (by decide)
  have hk := rn_at l k h
  rw [hr] at hk
  unfold St at hs ⊢
  rw [if_neg (fun q => by have := q.2.2; rw [hk] at this; exact h10 (Option.some.inj this))] at hs
  rw [if_neg (fun q => by have := q.2.1; rw [Nat.add_sub_cancel, hk] at this; exact h13 (Option.some.inj this)), eK_succ l k h, if_neg (fun q => by rw [endP_is l k r h hr, hN] at q; exact absurd q.1 (by decide))]
  exact hs
theorem st_cr (l : List UInt8) (k o : Nat) (h : k < (rl l).length) (hr : ((rl l)[k]).1 = 13) (hn : rn l (k + 1) = some 10) (hs : St l k o) : St l (k + 1) o := by
  have hk := rn_at l k h
  rw [hr] at hk
  unfold St at hs ⊢
  rw [if_neg (fun q => by have := q.2.2; rw [hk] at this; exact absurd (Option.some.inj this) (by decide))] at hs
  rw [if_pos ⟨by omega, by rw [Nat.add_sub_cancel]; exact hk, hn⟩, eK_succ l k h, if_pos ((endP_is l k 13 h hr).2 ⟨by decide, by omega⟩), hs]
theorem hd_rn (l : List UInt8) (k : Nat) : (((rl l).drop (k + 1)).head?).map (·.1) = rn l (k + 1) := by
  unfold rn
  rw [List.head?_drop]
/-- A line is told. -/
theorem st_tell (l : List UInt8) (k o r : Nat) (h : k < (rl l).length) (hr : ((rl l)[k]).1 = r) (hN : isN r = true) (h1 : ¬ (r = 13 ∧ rn l (k + 1) = some 10)) (h2 : ¬ (r = 10 ∧ 0 < k ∧ rn l (k - 1) = some 13)) (hs : St l k o) :
    lnT l o = pos l k ∧ nxl l (lnT l o) = pos l (k + 1) ∧ St l (k + 1) (o + 1) := by
  have hk := rn_at l k h
  rw [hr] at hk
  have he : endP l (pos l k, ((rl l)[k]).1) = true := (endP_is l k r h hr).2 ⟨hN, h2⟩
  have ho : eK l k = o := by
    unfold St at hs
    rw [if_neg (fun q => h2 ⟨by have := q.2.2; rw [hk] at this; exact Option.some.inj this, q.1, q.2.1⟩)] at hs
    exact hs
  obtain ⟨hT, _⟩ := lnT_eK l k h he
  rw [ho] at hT
  refine ⟨hT, ?_, ?_⟩
  · rw [hT, nxl_ends l k h he, if_neg (by rw [hd_rn, hr]; exact h1)]
  · unfold St
    rw [if_neg (fun q => h1 ⟨by have := q.2.1; rw [Nat.add_sub_cancel, hk] at this; exact Option.some.inj this, q.2.2⟩), eK_succ l k h, if_pos he, ho]
theorem st_lf (l : List UInt8) (k o : Nat) (h : k + 1 < (rl l).length) (hr : ((rl l)[k + 1]).1 = 10) (hp : rn l k = some 13) (hs : St l (k + 1) o) :
    lnT l o = pos l k ∧ nxl l (lnT l o) = pos l (k + 2) ∧ St l (k + 2) (o + 1) := by
  have hk0 : k < (rl l).length := by omega
  have hk := rn_at l (k + 1) h
  rw [hr] at hk
  have hr0 : ((rl l)[k]).1 = 13 := by rw [rn_at l k hk0] at hp; exact Option.some.inj hp
  have he : endP l (pos l k, ((rl l)[k]).1) = true := (endP_is l k 13 hk0 hr0).2 ⟨by decide, by omega⟩
  have ho : eK l k = o := by
    unfold St at hs
    rw [if_pos ⟨by omega, by rw [Nat.add_sub_cancel]; exact hp, hk⟩, eK_succ l k hk0, if_pos he] at hs
    omega
  obtain ⟨hT, _⟩ := lnT_eK l k hk0 he
  rw [ho] at hT
  refine ⟨hT, ?_, ?_⟩
  · rw [hT, nxl_ends l k hk0 he, if_pos (by rw [hd_rn]; exact ⟨hr0, hk⟩)]
  · unfold St
    rw [if_neg (fun q => by have := q.2.1; rw [show k + 2 - 1 = k + 1 by omega, hk] at this; exact absurd (Option.some.inj this) (by decide)), eK_succ l (k + 1) h, if_neg (fun q => ((endP_is l (k + 1) 10 h hr).1 q).2 ⟨rfl, by omega, by rw [Nat.add_sub_cancel]; exact hp⟩), eK_succ l k hk0, if_pos he, ho]
end Go.Proofs.YtffbdnlfknomnaaDoor.Rf
/- The contract of the document's Lines: where each line begins, ends without what ends it, and with it. -/
namespace Go.Proofs.YtffbdnlfknomnaaDoor.Rf
open Go.RowKit Go.Proofs.YtffbdnlfknomnaaDoor.Wt

theorem Tryd.info43 : (Tryd.prog.info? 43).map (fun i => (i.zero, i.size, i.bytes)) = some (some (.agg #[.int .i64 0, .int .i64 0, .int .i64 0]), 3, 24) := by kernel_rfl
/-- The cells of a line. -/
def lnc (l : List UInt8) (i : Nat) : List Value := [.int .i64 (lnF l i : Nat), .int .i64 (lnT l i : Nat), .int .i64 (nxl l (lnT l i) : Nat)]
def lncs (l : List UInt8) (n : Nat) : List Value := (List.range n).flatMap (lnc l)
theorem lncs_succ (l : List UInt8) (n : Nat) : lncs l (n + 1) = lncs l n ++ lnc l n := by
  unfold lncs
  rw [List.range_succ, List.flatMap_append]
  simp
theorem mkcs_get : ∀ (ms : List Mk) (k j : Nat) (m : Mk), ms[k]? = some m → j < 4 → (mkcs ms)[k * 4 + j]? = (mkc m)[j]?
  | [], k, j, m, h, _ => by simp at h
  | x :: ms, 0, j, m, h, hj => by
    simp at h; subst h
    show (mkc x ++ mkcs ms)[0 * 4 + j]? = _
    rw [Nat.zero_mul, Nat.zero_add, List.getElem?_append_left (by simpa [mkc] using hj)]
  | x :: ms, k + 1, j, m, h, hj => by
    show (mkc x ++ mkcs ms)[(k + 1) * 4 + j]? = _
    rw [List.getElem?_append_right (by simp [mkc]; omega)]
    have e : (k + 1) * 4 + j - (mkc x).length = k * 4 + j := by simp [mkc]; omega
    rw [e]
    exact mkcs_get ms k j m (by simpa using h) hj
/-- The marks of a text, read. -/
def RdM (w : World) (g : Nat) (l : List UInt8) : Prop := ∀ (k : Nat) (h : k < (rl l).length), w.cell? ⟨g, k * 4, none⟩ = some (.int .i64 (pos l k : Nat)) ∧ w.cell? ⟨g, k * 4 + 1, none⟩ = some (.int .i64 (((rl l)[k]).2 : Nat)) ∧ w.cell? ⟨g, k * 4 + 2, none⟩ = some (.int .i32 (((rl l)[k]).1 : Nat))
theorem RdM.below {w w' : World} {g N : Nat} {l : List UInt8} (h : RdM w g l) (hb : Below N w w') (hg : g < N) : RdM w' g l := fun k hk => by
  obtain ⟨h0, h1, h2⟩ := h k hk
  exact ⟨(hb.cell (p := ⟨g, k * 4, none⟩) hg).trans h0, (hb.cell (p := ⟨g, k * 4 + 1, none⟩) hg).trans h1, (hb.cell (p := ⟨g, k * 4 + 2, none⟩) hg).trans h2⟩
theorem three_new (w : World) (a b c : Value) (t : Nat) : ∀ j u, [a, b, c][j]? = some u → (w.alloc (.cells #[a, b, c] t)).cell? ((⟨w.heap.size, 0, none⟩ : Addr).add j) = some u := fun j u h => by
  rw [Addr.add_lit, Nat.zero_add, (Cb.new w #[a, b, c] t).cell j]
  simpa using h
/-- A text's marks, whether there are any or not. -/
theorem marks_read (l : List UInt8) (w : World) (hl : l.length ≤ 100) :
    Calls Tryd.prog 40 #[.string ⟨l.toArray⟩] w fun e w' => (∃ ao c, e = .returned (.slice ao (rl l).length c) ∧ (0 < (rl l).length → ∃ g, ao = some ⟨g, 0, none⟩ ∧ g < w'.heap.size ∧ RdM w' g l)) ∧ Below w.heap.size w w' := by
  refine (marks_any l w (by omega)).mono ?_
  rintro e w1 ⟨v, rfl, hown, be⟩
  refine ⟨?_, be⟩
  have hml := mks_len l
  rcases hown.2 with ⟨rfl, h0⟩ | ⟨g, cap, cur, rfl, hrest⟩
  · refine ⟨none, 0, by rw [show (rl l).length = 0 by omega], fun h => by omega⟩
  · refine ⟨some ⟨g, 0, none⟩, cap, by rw [hml], fun _ => ⟨g, rfl, (hown.lt g rfl).2, fun k hk => ?_⟩⟩
    obtain ⟨m, hm, e1, e2, e3⟩ := mks_at_k l k hk
    have hsz : ∀ j, j < 4 → k * 4 + j < (mks 0 l).length * 4 := fun j hj => by rw [hml]; omega
    have hc : ∀ j, j < 4 → w1.cell? ⟨g, k * 4 + j, none⟩ = (mkc m)[j]? := fun j hj => by
      rw [hown.cellAt (k * 4 + j) (hsz j hj)]
      exact mkcs_get (mks 0 l) k j m hm hj
    refine ⟨?_, ?_, ?_⟩
    · have := hc 0 (by omega)
      rw [Nat.add_zero] at this
      rw [this, ← e1]; rfl
    · rw [hc 1 (by omega), ← e2]; rfl
    · rw [hc 2 (by omega), ← e3]; rfl
theorem pos_back2 (l : List UInt8) (k : Nat) (h : k < (rl l).length) : pos l (k + 1) = pos l k + ((rl l)[k]).2 := psm_take _ k h
theorem rl_max : ∀ (n : Nat) (l : List UInt8), l.length ≤ n → ∀ x ∈ rl l, x.1 ≤ 1114111
  | n, l, hn, x, hx => by
    by_cases hl : l = []
    · rw [hl, rl_nil] at hx; cases hx
    · have h1 := dec_ge l hl
      have hp : 0 < l.length := List.length_pos_iff.2 hl
      rw [rl_cons l hl] at hx
      rcases List.mem_cons.1 hx with rfl | hx
      · exact dec_rune l hl
      · cases n with
        | zero => omega
        | succ n => exact rl_max n _ (by rw [List.length_drop]; omega) x hx
theorem isN_no (r : Nat) (h1 : r < 10 ∨ 13 < r) (h2 : r ≠ 133) (h3 : r ≠ 8232) (h4 : r ≠ 8233) : isN r = false := by
  unfold isN
  simp only [Bool.or_eq_false_iff, beq_eq_false_iff_ne]
  omega
theorem isN_yes (r : Nat) (h : 10 ≤ r ∧ r ≤ 13 ∨ r = 133 ∨ r = 8232 ∨ r = 8233) : isN r = true := by
  unfold isN
  simp only [Bool.or_eq_true, beq_iff_eq]
  omega
theorem ownsRow_base {w : World} {B B' e sz n : Nat} {v : Value} {xs : List Value} (h : w.ownsRow B e sz v n xs) (hb : B' ≤ B) : w.ownsRow B' e sz v n xs := by
  refine ⟨h.1, ?_⟩
  rcases h.2 with h0 | ⟨g, cap, cur, h1, h2, h3⟩
  · exact .inl h0
  · exact .inr ⟨g, cap, cur, h1, Nat.le_trans hb h2, h3⟩
theorem own_dr {w : World} {B e sz n : Nat} {v : Value} {xs : List Value} (h : w.ownsRow B e sz v n xs) (q : Nat) (o : Obj) : ((w.drewN q).alloc o).ownsRow B e sz v n xs := by
  have h2 : (w.drewN q).ownsRow B e sz v n xs := h
  exact h2.alloc o
theorem below_gr {w1 w w2 : World} {q : Nat} {o : Obj} {v : Value} (hB : Below w1.heap.size w1 w) (hg : ((w.drewN q).alloc o).grownBy w2 v.ownBlock) (hr : ∀ k, v.ownBlock = some k → w1.heap.size ≤ k) : Below w1.heap.size w1 w2 :=
  ((below_drN hB q).alloc (by exact hB.size) _).grown hg (by simp; have := hB.size; omega) hr
set_option maxRecDepth 100000 in
set_option maxHeartbeats 4000000 in
theorem rlines_any (l : List UInt8) (w : World) (hl : l.length ≤ 100) :
    Calls Tryd.prog 14 #[.string ⟨l.toArray⟩] w fun e w' => ∃ v, e = .returned v ∧ w'.ownsRow w.heap.size 43 3 v ((endsL l).length + 1) (lncs l ((endsL l).length + 1)) ∧ Below w.heap.size w w' := by
  obtain ⟨i0, hi0, hz0, hz1, hz2⟩ := info_parts Tryd.info43
  have HI0 := hid (And.intro hi0 (And.intro hz0 (And.intro hz1 hz2)))
  clear hi0 hz0 hz1 hz2
  have hnl : (rl l).length ≤ l.length := by have := rpN_len (rl l) 0; exact rise_len (List.pairwise_map.2 (rp_rise l)) (fun p hp => runes_scl.lt l p hp) |> (fun h => by rw [List.length_map] at h; exact (show (rl l).length ≤ l.length from by rw [← this]; exact h))
  have HEL := hid (ends_len l)
  go_enter Tryd.func14, Tryd.ntmps14
  go_wp2_with fail
  refine (marks_read l w hl).mono ?_
  rintro e w1 ⟨⟨ao, mc, rfl, hM⟩, be1⟩
  have HM := hid hM
  have HB1 := hid be1
  obtain ⟨n, hn⟩ : ∃ n, n = (rl l).length := ⟨_, rfl⟩
  have HN := hid hn
  rw [← hn] at hnl ⊢
  clear hM be1 hn
  go_wp2
  go_loopw [4, 5, 6] (fun vo vf vk wr => ∃ (k o f : Nat), vk = .int .i64 k ∧ vf = .int .i64 f ∧ k ≤ n ∧ o ≤ k ∧ f ≤ 1000 ∧ Hid (f = lnF l o) ∧ Hid (St l k o) ∧ Hid (wr.ownsRow w1.heap.size 43 3 vo o (lncs l o)) ∧ Hid (Below w1.heap.size w1 wr)) (fun _ _ vk _ => n - (intOf vk).toNat)
  case atStart => exact ⟨0, 0, 0, rfl, rfl, Nat.zero_le _, Nat.le_refl _, by omega, rfl, st_0 l, World.ownsRow_nil _ _ _ _, Below.refl _ _⟩
  case round =>
    obtain ⟨k, o, f, rfl, rfl, hkn, hok, hf1, HF, HS, HO, HB⟩ := hrel
    by_cases hlt : k < n
    · have hki : (k : Int) < (n : Int) := by omega
      have HK := hid (show k < (rl l).length by rw [← HN.out]; exact hlt)
      obtain ⟨g, rfl, hg, hR⟩ := HM.out (by have := HK.out; omega)
      have HRD := hid (hR.below HB.out hg)
      obtain ⟨m0, m1, m2⟩ := HRD.out k HK.out
      have hpl := pos_le l (k + 1) HK.out
      have hpk := pos_lt l k HK.out
      have hps := pos_back2 l k HK.out
      obtain ⟨r, hr⟩ : ∃ r, r = ((rl l)[k]'HK.out).1 := ⟨_, rfl⟩
      obtain ⟨wd, hwd⟩ : ∃ wd, wd = ((rl l)[k]'HK.out).2 := ⟨_, rfl⟩
      have HR := hid hr.symm
      rw [← hr] at m2
      rw [← hwd] at m1 hps
      obtain ⟨p, hp⟩ : ∃ p, p = pos l k := ⟨_, rfl⟩
      obtain ⟨q, hq⟩ : ∃ q, q = pos l (k + 1) := ⟨_, rfl⟩
      have HP := hid hp
      have HQ := hid hq
      rw [← hp] at m0 hpk hps
      rw [← hq] at hpl hpk hps
      have hr31 : r ≤ 1114111 := by rw [hr]; exact rl_max _ l (Nat.le_refl _) _ (List.getElem_mem HK.out)
      clear hR hr hwd hp hq
      have hk4 : (k : Int) * 4 + 4 < 1000 := by omega
      have hwpw : IntKind.i64.wrap ((p : Int) + wd) = (p : Int) + wd := by rw [IntKind.wrap_i64]; omega
      have HPW := hid (show (p : Int) + wd = (q : Int) by omega)
      have hwd1 : wd ≤ 100 := by omega
      have hp1 : p ≤ 100 := by omega
      clear hps
      by_cases hA : (r : Int) < 10
      · have HS2 := hid (st_skip l k o r HK.out HR.out (isN_no r (by omega) (by omega) (by omega) (by omega)) HS.out)
        have t1 : ¬ (10 : Int) ≤ (r : Int) := by omega
        have t2 : ((r : Int) == 133) = false := beq_eq_false_iff_ne.2 (by omega)
        have t3 : ((r : Int) == 8232) = false := beq_eq_false_iff_ne.2 (by omega)
        have t4 : ((r : Int) == 8233) = false := beq_eq_false_iff_ne.2 (by omega)
        go_wp2
        go_roundw
        case rel => exact ⟨k + 1, o, f, by go_num, rfl, by omega, by omega, hf1, HF, HS2, HO, HB⟩
        case measure => simp [intOf]; omega
      have t1 : (10 : Int) ≤ (r : Int) := by omega
      by_cases hB13 : (r : Int) ≤ 13
      · obtain hc | hc | hc : r = 13 ∨ r = 10 ∨ (r = 11 ∨ r = 12) := by omega
        · subst hc
          by_cases hk1 : k + 1 < n
          · have hk1i : (k : Int) + 1 < (n : Int) := by omega
            have HK1 := hid (show k + 1 < (rl l).length by rw [← HN.out]; exact hk1)
            obtain ⟨_, _, x2⟩ := HRD.out (k + 1) HK1.out
            obtain ⟨r2, hr2⟩ : ∃ r2, r2 = ((rl l)[k + 1]'HK1.out).1 := ⟨_, rfl⟩
            rw [← hr2] at x2
            have HR2 := hid (show rn l (k + 1) = some r2 by rw [rn_at l (k + 1) HK1.out, hr2])
            clear hr2
            by_cases h10 : r2 = 10
            · subst h10
              have HS2 := hid (st_cr l k o HK.out HR.out HR2.out HS.out)
              go_wp2
              go_roundw
              case rel => exact ⟨k + 1, o, f, by go_num, rfl, by omega, by omega, hf1, HF, HS2, HO, HB⟩
              case measure => simp [intOf]; omega
            · have e2 : ((r2 : Int) == 10) = false := beq_eq_false_iff_ne.2 (by omega)
              have HNE := hid h10
              clear h10
              obtain ⟨hT, hX, hS⟩ := st_tell l k o 13 HK.out HR.out (by decide) (fun q => HNE.out (Option.some.inj (HR2.out.symm.trans q.2))) (fun q => absurd q.1 (by decide)) HS.out
              have HC := hid (show lnc l o = [.int .i64 (f : Nat), .int .i64 (p : Nat), .int .i64 ((p : Int) + wd)] by
                unfold lnc
                rw [← HF.out, hX, hT, ← HP.out, ← HQ.out, HPW.out])
              have HS2 := hid hS
              have HF2 := hid (show q = lnF l (o + 1) by rw [lnF_succ, hX, ← HQ.out])
              have hBs := HB.out.size
              clear hT hX hS
              go_wp2_with fail
              go_quiet (fail)
              go_wp2_with (at_builtin; refine wpList_append_own _ rfl _ _ 40 rfl w1.heap.size 43 i0 (.agg #[.int .i64 0, .int .i64 0, .int .i64 0]) 3 24 Tryd.underlying40 HI0.out.1 HI0.out.2.1 HI0.out.2.2.1 HI0.out.2.2.2 rfl (by decide) u4 o (lncs l o) rfl (own_dr HO.out _ _) ⟨wr.heap.size, 0, none⟩ 1 1 [.int .i64 (f : Nat), .int .i64 (p : Nat), .int .i64 ((p : Int) + wd)] rfl rfl (by exact three_new _ _ _ _ _) (by simp [Value.oneCell']) (by unfold maxLen; omega) (by omega) (by simp; omega) ?_; intro v' w2 hown' hgrow _; have hB2 : Below w1.heap.size w1 w2 := below_gr HB.out hgrow (fun k hk => (HO.out.lt k hk).1); rw [← HC.out, ← lncs_succ] at hown'; have HOW := hid hown'; have HB2 := hid hB2; clear hown' hgrow hB2)
              go_roundw
              case rel => exact ⟨k + 1, o + 1, q, by go_num, by rw [HPW.out], by omega, by omega, by omega, HF2, HS2, HOW, HB2⟩
              case measure => simp [intOf]; omega
          · have hk1i : ¬ (k : Int) + 1 < (n : Int) := by omega
            have HNK := hid (show rn l (k + 1) = none by unfold rn; rw [List.getElem?_eq_none (by rw [← HN.out]; omega)]; rfl)
            obtain ⟨hT, hX, hS⟩ := st_tell l k o 13 HK.out HR.out (by decide) (fun q => by rw [HNK.out] at q; cases q.2) (fun q => absurd q.1 (by decide)) HS.out
            have HC := hid (show lnc l o = [.int .i64 (f : Nat), .int .i64 (p : Nat), .int .i64 ((p : Int) + wd)] by
              unfold lnc
              rw [← HF.out, hX, hT, ← HP.out, ← HQ.out, HPW.out])
            have HS2 := hid hS
            have HF2 := hid (show q = lnF l (o + 1) by rw [lnF_succ, hX, ← HQ.out])
            have hBs := HB.out.size
            clear hT hX hS
            go_wp2_with fail
            go_quiet (fail)
            go_wp2_with (at_builtin; refine wpList_append_own _ rfl _ _ 40 rfl w1.heap.size 43 i0 (.agg #[.int .i64 0, .int .i64 0, .int .i64 0]) 3 24 Tryd.underlying40 HI0.out.1 HI0.out.2.1 HI0.out.2.2.1 HI0.out.2.2.2 rfl (by decide) u4 o (lncs l o) rfl (own_dr HO.out _ _) ⟨wr.heap.size, 0, none⟩ 1 1 [.int .i64 (f : Nat), .int .i64 (p : Nat), .int .i64 ((p : Int) + wd)] rfl rfl (by exact three_new _ _ _ _ _) (by simp [Value.oneCell']) (by unfold maxLen; omega) (by omega) (by simp; omega) ?_; intro v' w2 hown' hgrow _; have hB2 : Below w1.heap.size w1 w2 := below_gr HB.out hgrow (fun k hk => (HO.out.lt k hk).1); rw [← HC.out, ← lncs_succ] at hown'; have HOW := hid hown'; have HB2 := hid hB2; clear hown' hgrow hB2)
            go_roundw
            case rel => exact ⟨k + 1, o + 1, q, by go_num, by rw [HPW.out], by omega, by omega, by omega, HF2, HS2, HOW, HB2⟩
            case measure => simp [intOf]; omega
        · subst hc
          cases k with
          | zero =>
            obtain ⟨hT, hX, hS⟩ := st_tell l 0 o 10 HK.out HR.out (by decide) (fun q => absurd q.1 (by decide)) (fun q => absurd q.2.1 (by decide)) HS.out
            have HC := hid (show lnc l o = [.int .i64 (f : Nat), .int .i64 (p : Nat), .int .i64 ((p : Int) + wd)] by
              unfold lnc
              rw [← HF.out, hX, hT, ← HP.out, ← HQ.out, HPW.out])
            have HS2 := hid hS
            have HF2 := hid (show q = lnF l (o + 1) by rw [lnF_succ, hX, ← HQ.out])
            have hBs := HB.out.size
            clear hT hX hS
            go_wp2_with fail
            go_quiet (fail)
            go_wp2_with (at_builtin; refine wpList_append_own _ rfl _ _ 40 rfl w1.heap.size 43 i0 (.agg #[.int .i64 0, .int .i64 0, .int .i64 0]) 3 24 Tryd.underlying40 HI0.out.1 HI0.out.2.1 HI0.out.2.2.1 HI0.out.2.2.2 rfl (by decide) u4 o (lncs l o) rfl (own_dr HO.out _ _) ⟨wr.heap.size, 0, none⟩ 1 1 [.int .i64 (f : Nat), .int .i64 (p : Nat), .int .i64 ((p : Int) + wd)] rfl rfl (by exact three_new _ _ _ _ _) (by simp [Value.oneCell']) (by unfold maxLen; omega) (by omega) (by simp; omega) ?_; intro v' w2 hown' hgrow _; have hB2 : Below w1.heap.size w1 w2 := below_gr HB.out hgrow (fun k hk => (HO.out.lt k hk).1); rw [← HC.out, ← lncs_succ] at hown'; have HOW := hid hown'; have HB2 := hid hB2; clear hown' hgrow hB2)
            go_roundw
            case rel => exact ⟨0 + 1, o + 1, q, by go_num, by rw [HPW.out], by omega, by omega, by omega, HF2, HS2, HOW, HB2⟩
            case measure => simp [intOf]; omega
          | succ j =>
            have HJ := hid (show j < (rl l).length by have := HK.out; omega)
            obtain ⟨y0, _, y2⟩ := HRD.out j HJ.out
            obtain ⟨r0, hr0⟩ : ∃ r0, r0 = ((rl l)[j]'HJ.out).1 := ⟨_, rfl⟩
            obtain ⟨p0, hp0⟩ : ∃ p0, p0 = pos l j := ⟨_, rfl⟩
            rw [← hr0] at y2
            rw [← hp0] at y0
            have HPP := hid hp0
            have HR0 := hid (show rn l j = some r0 by rw [rn_at l j HJ.out, hr0])
            clear hr0 hp0
            by_cases h13 : r0 = 13
            · subst h13
              obtain ⟨hT, hX, hS⟩ := st_lf l j o HK.out HR.out HR0.out HS.out
              have HC := hid (show lnc l o = [.int .i64 (f : Nat), .int .i64 (p0 : Nat), .int .i64 ((p : Int) + wd)] by
                unfold lnc
                rw [← HF.out, hX, hT, ← HPP.out, ← HQ.out, HPW.out])
              have HS2 := hid hS
              have HF2 := hid (show q = lnF l (o + 1) by rw [lnF_succ, hX, ← HQ.out])
              have hBs := HB.out.size
              clear hT hX hS
              go_wp2_with fail
              go_quiet (fail)
              go_wp2_with (at_builtin; refine wpList_append_own _ rfl _ _ 40 rfl w1.heap.size 43 i0 (.agg #[.int .i64 0, .int .i64 0, .int .i64 0]) 3 24 Tryd.underlying40 HI0.out.1 HI0.out.2.1 HI0.out.2.2.1 HI0.out.2.2.2 rfl (by decide) u4 o (lncs l o) rfl (own_dr HO.out _ _) ⟨wr.heap.size, 0, none⟩ 1 1 [.int .i64 (f : Nat), .int .i64 (p0 : Nat), .int .i64 ((p : Int) + wd)] rfl rfl (by exact three_new _ _ _ _ _) (by simp [Value.oneCell']) (by unfold maxLen; omega) (by omega) (by simp; omega) ?_; intro v' w2 hown' hgrow _; have hB2 : Below w1.heap.size w1 w2 := below_gr HB.out hgrow (fun k hk => (HO.out.lt k hk).1); rw [← HC.out, ← lncs_succ] at hown'; have HOW := hid hown'; have HB2 := hid hB2; clear hown' hgrow hB2)
              go_roundw
              case rel => exact ⟨j + 1 + 1, o + 1, q, by go_num, by rw [HPW.out], by omega, by omega, by omega, HF2, HS2, HOW, HB2⟩
              case measure => simp [intOf]; omega
            · have e2 : ((r0 : Int) == 13) = false := beq_eq_false_iff_ne.2 (by omega)
              have HNE := hid h13
              clear h13
              obtain ⟨hT, hX, hS⟩ := st_tell l (j + 1) o 10 HK.out HR.out (by decide) (fun q => absurd q.1 (by decide)) (fun q => HNE.out (Option.some.inj (HR0.out.symm.trans (by have := q.2.2; rwa [Nat.add_sub_cancel] at this)))) HS.out
              have HC := hid (show lnc l o = [.int .i64 (f : Nat), .int .i64 (p : Nat), .int .i64 ((p : Int) + wd)] by
                unfold lnc
                rw [← HF.out, hX, hT, ← HP.out, ← HQ.out, HPW.out])
              have HS2 := hid hS
              have HF2 := hid (show q = lnF l (o + 1) by rw [lnF_succ, hX, ← HQ.out])
              have hBs := HB.out.size
              clear hT hX hS
              go_wp2_with fail
              go_quiet (fail)
              go_wp2_with (at_builtin; refine wpList_append_own _ rfl _ _ 40 rfl w1.heap.size 43 i0 (.agg #[.int .i64 0, .int .i64 0, .int .i64 0]) 3 24 Tryd.underlying40 HI0.out.1 HI0.out.2.1 HI0.out.2.2.1 HI0.out.2.2.2 rfl (by decide) u4 o (lncs l o) rfl (own_dr HO.out _ _) ⟨wr.heap.size, 0, none⟩ 1 1 [.int .i64 (f : Nat), .int .i64 (p : Nat), .int .i64 ((p : Int) + wd)] rfl rfl (by exact three_new _ _ _ _ _) (by simp [Value.oneCell']) (by unfold maxLen; omega) (by omega) (by simp; omega) ?_; intro v' w2 hown' hgrow _; have hB2 : Below w1.heap.size w1 w2 := below_gr HB.out hgrow (fun k hk => (HO.out.lt k hk).1); rw [← HC.out, ← lncs_succ] at hown'; have HOW := hid hown'; have HB2 := hid hB2; clear hown' hgrow hB2)
              go_roundw
              case rel => exact ⟨j + 1 + 1, o + 1, q, by go_num, by rw [HPW.out], by omega, by omega, by omega, HF2, HS2, HOW, HB2⟩
              case measure => simp [intOf]; omega
        · have e13 : ((r : Int) == 13) = false := beq_eq_false_iff_ne.2 (by omega)
          have e10 : ((r : Int) == 10) = false := beq_eq_false_iff_ne.2 (by omega)
          have HNN := hid (show r ≠ 13 ∧ r ≠ 10 by omega)
          have HIS := hid (isN_yes r (by omega))
          clear hc
          obtain ⟨hT, hX, hS⟩ := st_tell l k o r HK.out HR.out HIS.out (fun q => HNN.out.1 q.1) (fun q => HNN.out.2 q.1) HS.out
          have HC := hid (show lnc l o = [.int .i64 (f : Nat), .int .i64 (p : Nat), .int .i64 ((p : Int) + wd)] by
            unfold lnc
            rw [← HF.out, hX, hT, ← HP.out, ← HQ.out, HPW.out])
          have HS2 := hid hS
          have HF2 := hid (show q = lnF l (o + 1) by rw [lnF_succ, hX, ← HQ.out])
          have hBs := HB.out.size
          clear hT hX hS
          go_wp2_with fail
          go_quiet (fail)
          go_wp2_with (at_builtin; refine wpList_append_own _ rfl _ _ 40 rfl w1.heap.size 43 i0 (.agg #[.int .i64 0, .int .i64 0, .int .i64 0]) 3 24 Tryd.underlying40 HI0.out.1 HI0.out.2.1 HI0.out.2.2.1 HI0.out.2.2.2 rfl (by decide) u4 o (lncs l o) rfl (own_dr HO.out _ _) ⟨wr.heap.size, 0, none⟩ 1 1 [.int .i64 (f : Nat), .int .i64 (p : Nat), .int .i64 ((p : Int) + wd)] rfl rfl (by exact three_new _ _ _ _ _) (by simp [Value.oneCell']) (by unfold maxLen; omega) (by omega) (by simp; omega) ?_; intro v' w2 hown' hgrow _; have hB2 : Below w1.heap.size w1 w2 := below_gr HB.out hgrow (fun k hk => (HO.out.lt k hk).1); rw [← HC.out, ← lncs_succ] at hown'; have HOW := hid hown'; have HB2 := hid hB2; clear hown' hgrow hB2)
          go_roundw
          case rel => exact ⟨k + 1, o + 1, q, by go_num, by rw [HPW.out], by omega, by omega, by omega, HF2, HS2, HOW, HB2⟩
          case measure => simp [intOf]; omega
      · by_cases h133 : r = 133
        · have t2 : ((r : Int) == 133) = true := beq_iff_eq.2 (by omega)
          have e13 : ((r : Int) == 13) = false := beq_eq_false_iff_ne.2 (by omega)
          have e10 : ((r : Int) == 10) = false := beq_eq_false_iff_ne.2 (by omega)
          have HNN := hid (show r ≠ 13 ∧ r ≠ 10 by omega)
          have HIS := hid (isN_yes r (by omega))
          clear h133
          obtain ⟨hT, hX, hS⟩ := st_tell l k o r HK.out HR.out HIS.out (fun q => HNN.out.1 q.1) (fun q => HNN.out.2 q.1) HS.out
          have HC := hid (show lnc l o = [.int .i64 (f : Nat), .int .i64 (p : Nat), .int .i64 ((p : Int) + wd)] by
            unfold lnc
            rw [← HF.out, hX, hT, ← HP.out, ← HQ.out, HPW.out])
          have HS2 := hid hS
          have HF2 := hid (show q = lnF l (o + 1) by rw [lnF_succ, hX, ← HQ.out])
          have hBs := HB.out.size
          clear hT hX hS
          go_wp2_with fail
          go_quiet (fail)
          go_wp2_with (at_builtin; refine wpList_append_own _ rfl _ _ 40 rfl w1.heap.size 43 i0 (.agg #[.int .i64 0, .int .i64 0, .int .i64 0]) 3 24 Tryd.underlying40 HI0.out.1 HI0.out.2.1 HI0.out.2.2.1 HI0.out.2.2.2 rfl (by decide) u4 o (lncs l o) rfl (own_dr HO.out _ _) ⟨wr.heap.size, 0, none⟩ 1 1 [.int .i64 (f : Nat), .int .i64 (p : Nat), .int .i64 ((p : Int) + wd)] rfl rfl (by exact three_new _ _ _ _ _) (by simp [Value.oneCell']) (by unfold maxLen; omega) (by omega) (by simp; omega) ?_; intro v' w2 hown' hgrow _; have hB2 : Below w1.heap.size w1 w2 := below_gr HB.out hgrow (fun k hk => (HO.out.lt k hk).1); rw [← HC.out, ← lncs_succ] at hown'; have HOW := hid hown'; have HB2 := hid hB2; clear hown' hgrow hB2)
          go_roundw
          case rel => exact ⟨k + 1, o + 1, q, by go_num, by rw [HPW.out], by omega, by omega, by omega, HF2, HS2, HOW, HB2⟩
          case measure => simp [intOf]; omega
        by_cases h8232 : r = 8232
        · have t2 : ((r : Int) == 133) = false := beq_eq_false_iff_ne.2 (by omega)
          have t3 : ((r : Int) == 8232) = true := beq_iff_eq.2 (by omega)
          have e13 : ((r : Int) == 13) = false := beq_eq_false_iff_ne.2 (by omega)
          have e10 : ((r : Int) == 10) = false := beq_eq_false_iff_ne.2 (by omega)
          have HNN := hid (show r ≠ 13 ∧ r ≠ 10 by omega)
          have HIS := hid (isN_yes r (by omega))
          clear h8232
          obtain ⟨hT, hX, hS⟩ := st_tell l k o r HK.out HR.out HIS.out (fun q => HNN.out.1 q.1) (fun q => HNN.out.2 q.1) HS.out
          have HC := hid (show lnc l o = [.int .i64 (f : Nat), .int .i64 (p : Nat), .int .i64 ((p : Int) + wd)] by
            unfold lnc
            rw [← HF.out, hX, hT, ← HP.out, ← HQ.out, HPW.out])
          have HS2 := hid hS
          have HF2 := hid (show q = lnF l (o + 1) by rw [lnF_succ, hX, ← HQ.out])
          have hBs := HB.out.size
          clear hT hX hS
          go_wp2_with fail
          go_quiet (fail)
          go_wp2_with (at_builtin; refine wpList_append_own _ rfl _ _ 40 rfl w1.heap.size 43 i0 (.agg #[.int .i64 0, .int .i64 0, .int .i64 0]) 3 24 Tryd.underlying40 HI0.out.1 HI0.out.2.1 HI0.out.2.2.1 HI0.out.2.2.2 rfl (by decide) u4 o (lncs l o) rfl (own_dr HO.out _ _) ⟨wr.heap.size, 0, none⟩ 1 1 [.int .i64 (f : Nat), .int .i64 (p : Nat), .int .i64 ((p : Int) + wd)] rfl rfl (by exact three_new _ _ _ _ _) (by simp [Value.oneCell']) (by unfold maxLen; omega) (by omega) (by simp; omega) ?_; intro v' w2 hown' hgrow _; have hB2 : Below w1.heap.size w1 w2 := below_gr HB.out hgrow (fun k hk => (HO.out.lt k hk).1); rw [← HC.out, ← lncs_succ] at hown'; have HOW := hid hown'; have HB2 := hid hB2; clear hown' hgrow hB2)
          go_roundw
          case rel => exact ⟨k + 1, o + 1, q, by go_num, by rw [HPW.out], by omega, by omega, by omega, HF2, HS2, HOW, HB2⟩
          case measure => simp [intOf]; omega
        by_cases h8233 : r = 8233
        · have t2 : ((r : Int) == 133) = false := beq_eq_false_iff_ne.2 (by omega)
          have t3 : ((r : Int) == 8232) = false := beq_eq_false_iff_ne.2 (by omega)
          have t4 : ((r : Int) == 8233) = true := beq_iff_eq.2 (by omega)
          have e13 : ((r : Int) == 13) = false := beq_eq_false_iff_ne.2 (by omega)
          have e10 : ((r : Int) == 10) = false := beq_eq_false_iff_ne.2 (by omega)
          have HNN := hid (show r ≠ 13 ∧ r ≠ 10 by omega)
          have HIS := hid (isN_yes r (by omega))
          clear h8233
          obtain ⟨hT, hX, hS⟩ := st_tell l k o r HK.out HR.out HIS.out (fun q => HNN.out.1 q.1) (fun q => HNN.out.2 q.1) HS.out
          have HC := hid (show lnc l o = [.int .i64 (f : Nat), .int .i64 (p : Nat), .int .i64 ((p : Int) + wd)] by
            unfold lnc
            rw [← HF.out, hX, hT, ← HP.out, ← HQ.out, HPW.out])
          have HS2 := hid hS
          have HF2 := hid (show q = lnF l (o + 1) by rw [lnF_succ, hX, ← HQ.out])
          have hBs := HB.out.size
          clear hT hX hS
          go_wp2_with fail
          go_quiet (fail)
          go_wp2_with (at_builtin; refine wpList_append_own _ rfl _ _ 40 rfl w1.heap.size 43 i0 (.agg #[.int .i64 0, .int .i64 0, .int .i64 0]) 3 24 Tryd.underlying40 HI0.out.1 HI0.out.2.1 HI0.out.2.2.1 HI0.out.2.2.2 rfl (by decide) u4 o (lncs l o) rfl (own_dr HO.out _ _) ⟨wr.heap.size, 0, none⟩ 1 1 [.int .i64 (f : Nat), .int .i64 (p : Nat), .int .i64 ((p : Int) + wd)] rfl rfl (by exact three_new _ _ _ _ _) (by simp [Value.oneCell']) (by unfold maxLen; omega) (by omega) (by simp; omega) ?_; intro v' w2 hown' hgrow _; have hB2 : Below w1.heap.size w1 w2 := below_gr HB.out hgrow (fun k hk => (HO.out.lt k hk).1); rw [← HC.out, ← lncs_succ] at hown'; have HOW := hid hown'; have HB2 := hid hB2; clear hown' hgrow hB2)
          go_roundw
          case rel => exact ⟨k + 1, o + 1, q, by go_num, by rw [HPW.out], by omega, by omega, by omega, HF2, HS2, HOW, HB2⟩
          case measure => simp [intOf]; omega
        have HS2 := hid (st_skip l k o r HK.out HR.out (isN_no r (by omega) h133 h8232 h8233) HS.out)
        have t2 : ((r : Int) == 133) = false := beq_eq_false_iff_ne.2 (by omega)
        have t3 : ((r : Int) == 8232) = false := beq_eq_false_iff_ne.2 (by omega)
        have t4 : ((r : Int) == 8233) = false := beq_eq_false_iff_ne.2 (by omega)
        clear h133 h8232 h8233
        go_wp2
        go_roundw
        case rel => exact ⟨k + 1, o, f, by go_num, rfl, by omega, by omega, hf1, HF, HS2, HO, HB⟩
        case measure => simp [intOf]; omega
    · have hki : ¬ (k : Int) < (n : Int) := by omega
      have hke : k = n := by omega
      have HOE := hid (show o = (endsL l).length from st_end l o (by rw [← HN.out, ← hke]; exact HS.out))
      have HC := hid (show lnc l o = [.int .i64 (f : Nat), .int .i64 (l.length : Nat), .int .i64 (l.length : Nat)] by
        unfold lnc
        rw [← HF.out, lnT_end l o (by rw [HOE.out]; exact Nat.le_refl _), nxl_end l _ (Nat.le_refl _)])
      clear hke
      have hBs := HB.out.size
      go_wp2_with (at_builtin; refine wpList_append_own _ rfl _ _ 40 rfl w1.heap.size 43 i0 (.agg #[.int .i64 0, .int .i64 0, .int .i64 0]) 3 24 Tryd.underlying40 HI0.out.1 HI0.out.2.1 HI0.out.2.2.1 HI0.out.2.2.2 rfl (by decide) _ _ _ rfl (HO.out.alloc _) ⟨wr.heap.size, 0, none⟩ 1 1 [.int .i64 (f : Nat), .int .i64 (l.length : Nat), .int .i64 (l.length : Nat)] rfl rfl (three_new _ _ _ _ _) (by simp [Value.oneCell']) (by unfold maxLen; omega) (by omega) (by simp; omega) ?_)
      intro v' w2 hown' hgrow _
      have hB2 : Below w1.heap.size w1 w2 := (HB.out.alloc HB.out.size _).grown hgrow (by simp; omega) (fun k hk => (HO.out.lt k hk).1)
      rw [← HC.out, ← lncs_succ] at hown'
      have HOW := hid hown'
      have HB2 := hid hB2
      clear hown' hgrow hB2
      go_wp2
      go_ret
      refine ⟨v', rfl, ?_, HB1.out.trans (HB2.out.mono HB1.out.size)⟩
      rw [← HOE.out]
      exact ownsRow_base HOW.out HB1.out.size
end Go.Proofs.YtffbdnlfknomnaaDoor.Rf
