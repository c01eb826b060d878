/- The runes of a text: the contracts of utf.Count and of the document's Decode and Marks. -/
import Derived.Shelf.Small.Utf8
import Derived.Shelf.Utf8.RuneCount
import Derived.Shelf.Strings.RuneCount
import Derived.Lib.DecodeN
import Derived.Shelf.Unicode.DecodeSlow
import Derived.Deep.AppendLies
import Derived.Lib.MapLaws
import Derived.Test.YtljlhlcoaajggaaNum
namespace Go.Proofs
open Go.Shelf
def Try.lays195_ren : Go.Shelf.Ren := ⟨fun | 195 => 76 | n => n, fun | 9 => 9 | 3 => 3 | 0 => 0 | 4 => 4 | n => n, fun | n => n⟩
theorem Try.lays195 : Go.Proofs.Lays.n195 Try.prog Try.lays195_ren := {
  mixed := by kernel_rfl
  f195 := Try.func76.trans (congrArg some (by kernel_rfl))
  t0 := Try.underlying0
  a0 := Try.isAgg0
  z0 := Try.sizeOf0
  v0 := Try.zeroValue0
  t3 := Try.underlying3
  a3 := Try.isAgg3
  z3 := Try.sizeOf3
  v3 := Try.zeroValue3
  t4 := Try.underlying4
  a4 := Try.isAgg4
  z4 := Try.sizeOf4
  v4 := Try.zeroValue4
  t9 := Try.underlying9
  a9 := Try.isAgg9
  z9 := Try.sizeOf9
  v9 := Try.zeroValue9 }
open Go.RowKit in
theorem Try.utf8_RuneCountInString (s : ByteArray) (w : World) (hs : s.size < 9223372036854775807) :
    Calls Try.prog 76 #[.string s] w fun e w' => e = .returned (.int .i64 (Lib.runeCount s)) ∧ ∃ pos, w' = w.iter s pos := Any.utf8_RuneCountInString Try.lays195 s w hs
namespace Ytljlhlcoaajggaa
open Go.RowKit

/-- What Decode answers. -/
def dec (l : List UInt8) : Nat × Nat := if l = [] then (0, 0) else Lib.decodeGo ⟨l.toArray⟩
theorem ext_drop (l : List UInt8) (t : Nat) : (⟨l.toArray⟩ : ByteArray).extract t l.length = ⟨(l.drop t).toArray⟩ := by
  apply ByteArray.ext
  simp [ByteArray.data_extract, List.take_of_length_le]
set_option maxHeartbeats 400000 in
theorem ucount_any (l : List UInt8) (w : World) (hl : l.length < 9223372036854775807) :
    Calls Try.prog 67 #[.string ⟨l.toArray⟩] w fun e w' => e = .returned (.int .i64 (Lib.runeCount ⟨l.toArray⟩)) ∧ Below w.heap.size w w' := by
  have hs' : (⟨l.toArray⟩ : ByteArray).size < 9223372036854775807 := by show l.toArray.size < _; simpa using hl
  have HS := hid hs'
  clear hs'
  go_enter Try.func67, Try.ntmps67
  go_wp2_with (go_at_call 76; refine (Try.utf8_RuneCountInString ⟨l.toArray⟩ _ HS.out).mono ?_; rintro e w1 ⟨rfl, pos, rfl⟩)
  go_ret
  exact ⟨rfl, (Below.refl _ _).alloc (Nat.le_refl _) _⟩
/-- A byte of a text, as a number. -/
def byt (l : List UInt8) (i : Nat) : Int := ((l.getD i 0).toNat : Int)
theorem byt_bd (l : List UInt8) (i : Nat) : 0 ≤ byt l i ∧ byt l i < 256 := by
  have := (l.getD i 0).toNat_lt; unfold byt; omega
theorem byt_eq (l : List UInt8) (t : Nat) (h : t < (⟨l.toArray⟩ : ByteArray).size) : (((⟨l.toArray⟩ : ByteArray)[t]'h).toNat : Int) = byt l t := by
  have h' : t < l.length := by have : t < l.toArray.size := h; simpa using this
  unfold byt
  rw [show (⟨l.toArray⟩ : ByteArray)[t]'h = l[t] from rfl]
  simp [List.getD, h']
def rlN (c : Int) : Int := if c < 128 then 1 else if c < 192 then 0 else if c < 224 then 2 else if c < 240 then 3 else if c < 248 then 4 else 0
def rlB (c : Int) : Int := if c < 128 then c else if c < 192 then 0 else if c < 224 then c % 32 else if c < 240 then c % 16 else if c < 248 then c % 8 else 0
/-- Whether a number is a rune. -/
def isR (r : Int) : Bool := decide (0 ≤ r) && (decide (r ≤ 1114111) && (decide (r < 55296) || decide (57343 < r)))
def widI (r : Int) : Int := if isR r = false then 0 else if r < 128 then 1 else if r < 2048 then 2 else if r < 65536 then 3 else 4
theorem get_list (l : List UInt8) (i : Nat) : (⟨l.toArray⟩ : ByteArray).get! i = l.getD i 0 := by
  show l.toArray.getD i default = l.getD i 0
  by_cases h : i < l.length
  · simp [Array.getD, List.getD, h]
  · simp [Array.getD, List.getD, h]; rfl
theorem dec_numbers (l : List UInt8) (h : l ≠ []) : dec l = Lib.decodeN l.length (l.getD 0 0).toNat (l.getD 1 0).toNat (l.getD 2 0).toNat (l.getD 3 0).toNat := by
  unfold dec
  rw [if_neg h]
  unfold Lib.decodeGo
  have hs : (⟨l.toArray⟩ : ByteArray).size = l.length := by show l.toArray.size = _; simp
  rw [if_neg (by rw [hs]; exact fun e => h (List.length_eq_zero_iff.1 e)), Lib.decode_at, hs]
  simp only [get_list, Nat.zero_add, Nat.sub_zero]
/-- The bits, so many bytes on. -/
def acc (l : List UInt8) : Nat → Int
  | 0 => rlB (byt l 0)
  | k + 1 => acc l k * 64 + byt l (k + 1) % 64
theorem rlB_bd (c : Int) (h : 0 ≤ c) : 0 ≤ rlB c ∧ rlB c ≤ 127 := by unfold rlB; omega
theorem acc_bd (l : List UInt8) : ∀ k, 0 ≤ acc l k ∧ acc l k + 1 ≤ 128 * 64 ^ k
  | 0 => by have := rlB_bd (byt l 0) (byt_bd l 0).1; simp [acc]; omega
  | k + 1 => by
    obtain ⟨h1, h2⟩ := acc_bd l k
    have hp : (64 : Int) ^ (k + 1) = 64 * 64 ^ k := by rw [Int.pow_succ]; omega
    simp only [acc, hp]
    omega
theorem dec_short (l : List UInt8) (h : l ≠ []) (hn : rlN (byt l 0) = 0 ∨ (l.length : Int) < rlN (byt l 0)) : dec l = (65533, 1) := by
  rw [dec_numbers l h]
  have h1 : 1 ≤ l.length := by cases l with | nil => exact absurd rfl h | cons => simp
  unfold rlN byt at hn
  generalize (l.getD 0 0).toNat = b0 at *
  unfold Lib.decodeN
  repeat' split
  all_goals first | rfl | (exfalso; omega)
theorem dec_fail (l : List UInt8) (h : l ≠ []) (k : Nat) (h1 : 1 ≤ k) (hk : (k : Int) < rlN (byt l 0)) (hb : ¬ byt l k / 64 = 2) : dec l = (65533, 1) := by
  rw [dec_numbers l h]
  have h4 : rlN (byt l 0) ≤ 4 := by unfold rlN; omega
  have hk3 : k = 1 ∨ k = 2 ∨ k = 3 := by omega
  rcases hk3 with rfl | rfl | rfl
  all_goals
    unfold rlN byt at hk
    unfold byt at hb
    generalize (l.getD 0 0).toNat = b0 at *
    generalize (l.getD 1 0).toNat = b1 at *
    generalize (l.getD 2 0).toNat = b2 at *
    generalize (l.getD 3 0).toNat = b3 at *
    unfold Lib.decodeN
    repeat' split
    all_goals first | rfl | (exfalso; omega)
theorem isR_iff (r : Int) : isR r = true ↔ 0 ≤ r ∧ r ≤ 1114111 ∧ (r < 55296 ∨ 57343 < r) := by simp [isR]
theorem widI_val (x : Nat) : widI (x : Int) = if x ≤ 1114111 ∧ (x < 55296 ∨ 57343 < x) then (if x < 128 then 1 else if x < 2048 then 2 else if x < 65536 then 3 else 4) else 0 := by
  have hi := isR_iff (x : Int)
  unfold widI
  by_cases h : x ≤ 1114111 ∧ (x < 55296 ∨ 57343 < x)
  · rw [hi.2 (by omega), if_pos h, if_neg (by decide)]
    repeat' split
    all_goals omega
  · have hr : isR (x : Int) = false := by
      cases hr : isR (x : Int) with
      | false => rfl
      | true => have := hi.1 hr; omega
    rw [hr, if_neg h, if_pos rfl]
theorem wid_pick3 (x : Nat) (hx : x < 65536) : (if x ≥ 2048 ∧ (x < 55296 ∨ (57344 ≤ x ∧ x ≤ 1114111)) then (x, 3) else (65533, 1)) = if widI (x : Int) = ((3 : Nat) : Int) then ((x : Int).toNat, 3) else (65533, 1) := by
  rw [widI_val, Int.toNat_natCast]
  repeat' split
  all_goals first | rfl | (exfalso; omega)
theorem wid_pick4 (x : Nat) : (if x ≥ 65536 ∧ (x < 55296 ∨ (57344 ≤ x ∧ x ≤ 1114111)) then (x, 4) else (65533, 1)) = if widI (x : Int) = ((4 : Nat) : Int) then ((x : Int).toNat, 4) else (65533, 1) := by
  rw [widI_val, Int.toNat_natCast]
  repeat' split
  all_goals first | rfl | (exfalso; omega)
theorem dec_end (l : List UInt8) (h : l ≠ []) (n : Nat) (hn : rlN (byt l 0) = n) (hn1 : 1 ≤ n) (hl : n ≤ l.length) (hb : ∀ k, 1 ≤ k → k < n → byt l k / 64 = 2) :
    dec l = if widI (acc l (n - 1)) = n then ((acc l (n - 1)).toNat, n) else (65533, 1) := by
  rw [dec_numbers l h]
  have h4 : rlN (byt l 0) ≤ 4 := by unfold rlN; omega
  have hn4 : n = 1 ∨ n = 2 ∨ n = 3 ∨ n = 4 := by omega
  have g0 := (l.getD 0 0).toNat_lt
  have g1 := (l.getD 1 0).toNat_lt
  have g2 := (l.getD 2 0).toNat_lt
  have g3 := (l.getD 3 0).toNat_lt
  rcases hn4 with rfl | rfl | rfl | rfl
  · simp only [Nat.sub_self, acc]
    unfold rlN byt at hn
    unfold byt
    generalize (l.getD 0 0).toNat = b0 at *
    have hb0 : b0 < 128 := by omega
    have e1 : rlB b0 = b0 := by unfold rlB; omega
    have e2 : widI b0 = 1 := by simp [widI, isR]; omega
    rw [e1, e2]
    unfold Lib.decodeN
    rw [if_pos hb0]
    simp
  · have hb1 := hb 1 (by omega) (by omega)
    simp only [Nat.reduceSub, acc]
    unfold rlN byt at hn
    unfold byt at hb1 ⊢
    simp only [Nat.zero_add] at *
    generalize (l.getD 0 0).toNat = b0 at *
    generalize (l.getD 1 0).toNat = b1 at *
    have e1 : rlB b0 = (b0 : Int) % 32 := by unfold rlB; omega
    rw [e1]
    unfold Lib.decodeN widI isR
    simp
    repeat' split
    all_goals first | rfl | (exfalso; omega) | (simp; omega)
  · have hb1 := hb 1 (by omega) (by omega)
    have hb2 := hb 2 (by omega) (by omega)
    simp only [Nat.reduceSub, acc]
    unfold rlN byt at hn
    unfold byt at hb1 hb2 ⊢
    simp only [Nat.zero_add, Nat.reduceAdd] at *
    generalize (l.getD 0 0).toNat = b0 at *
    generalize (l.getD 1 0).toNat = b1 at *
    generalize (l.getD 2 0).toNat = b2 at *
    have e1 : rlB b0 = (b0 : Int) % 16 := by unfold rlB; omega
    rw [e1]
    have e2 : ((b0 : Int) % 16 * 64 + (b1 : Int) % 64) * 64 + (b2 : Int) % 64 = ((b0 % 16 * 4096 + b1 % 64 * 64 + b2 % 64 : Nat) : Int) := by omega
    rw [e2]
    unfold Lib.decodeN
    rw [if_neg (by omega), if_neg (by omega), if_pos (by omega)]
    have hx : b0 % 16 * 4096 + b1 % 64 * 64 + b2 % 64 < 65536 := by omega
    generalize b0 % 16 * 4096 + b1 % 64 * 64 + b2 % 64 = x at *
    exact wid_pick3 x hx
  · have hb1 := hb 1 (by omega) (by omega)
    have hb2 := hb 2 (by omega) (by omega)
    have hb3 := hb 3 (by omega) (by omega)
    simp only [Nat.reduceSub, acc]
    unfold rlN byt at hn
    unfold byt at hb1 hb2 hb3 ⊢
    simp only [Nat.zero_add, Nat.reduceAdd] at *
    generalize (l.getD 0 0).toNat = b0 at *
    generalize (l.getD 1 0).toNat = b1 at *
    generalize (l.getD 2 0).toNat = b2 at *
    generalize (l.getD 3 0).toNat = b3 at *
    have e1 : rlB b0 = (b0 : Int) % 8 := by unfold rlB; omega
    rw [e1]
    have e2 : (((b0 : Int) % 8 * 64 + (b1 : Int) % 64) * 64 + (b2 : Int) % 64) * 64 + (b3 : Int) % 64 = ((b0 % 8 * 262144 + b1 % 64 * 4096 + b2 % 64 * 64 + b3 % 64 : Nat) : Int) := by omega
    rw [e2]
    unfold Lib.decodeN
    rw [if_neg (by omega), if_neg (by omega), if_neg (by omega), if_pos (by omega)]
    generalize b0 % 8 * 262144 + b1 % 64 * 4096 + b2 % 64 * 64 + b3 % 64 = x at *
    exact wid_pick4 x
theorem ret2 {a a' b b' : Int} (h1 : a = a') (h2 : b = b') : Ending.returned (Value.tuple #[.int .i64 a, .int .i32 b]) = .returned (.tuple #[.int .i64 a', .int .i32 b']) := by rw [h1, h2]
set_option maxHeartbeats 400000 in
theorem rlead_any (c : Int) (w : World) (h0 : 0 ≤ c) (h9 : c < 256) :
    Calls Try.prog 81 #[.int .u8 c] w fun e w' => e = .returned (.tuple #[.int .i64 (rlN c), .int .i32 (rlB c)]) ∧ w' = w := by
  by_cases h1 : c < 128
  · go_enter Try.func81, Try.ntmps81
    go_wp2
    go_ret2
    exact ⟨ret2 (by unfold rlN; omega) (by unfold rlB; omega), rfl⟩
  by_cases h2 : c < 192
  · go_enter Try.func81, Try.ntmps81
    go_wp2
    go_ret2
    exact ⟨ret2 (by unfold rlN; omega) (by unfold rlB; omega), rfl⟩
  by_cases h3 : c < 224
  · go_enter Try.func81, Try.ntmps81
    go_wp2
    go_ret2
    exact ⟨ret2 (by unfold rlN; omega) (by unfold rlB; omega), rfl⟩
  by_cases h4 : c < 240
  · go_enter Try.func81, Try.ntmps81
    go_wp2
    go_ret2
    exact ⟨ret2 (by unfold rlN; omega) (by unfold rlB; omega), rfl⟩
  by_cases h5 : c < 248
  · go_enter Try.func81, Try.ntmps81
    go_wp2
    go_ret2
    exact ⟨ret2 (by unfold rlN; omega) (by unfold rlB; omega), rfl⟩
  · go_enter Try.func81, Try.ntmps81
    go_wp2
    go_ret2
    exact ⟨ret2 (by unfold rlN; omega) (by unfold rlB; omega), rfl⟩
theorem rlead_eq (c n r : Int) (w : World) (h0 : 0 ≤ c) (h9 : c < 256) (hn : rlN c = n) (hr : rlB c = r) :
    Calls Try.prog 81 #[.int .u8 c] w fun e w' => e = .returned (.tuple #[.int .i64 n, .int .i32 r]) ∧ w' = w := by
  subst hn; subst hr
  exact rlead_any c w h0 h9
theorem cont_test (b : Int) (h0 : 0 ≤ b) (h1 : b < 256) : (bits BinOp.and IntKind.u8 b 192 != 128) = !decide (b / 64 = 2) := by
  rw [Lib.runeStart_of b h0 h1]
  unfold Lib.runeStart
  by_cases h : b / 64 = 2 <;> simp [h]
set_option maxHeartbeats 400000 in
theorem rune_any (r : Int) (w : World) :
    Calls Try.prog 83 #[.int .i32 r] w fun e w' => e = .returned (.bool (isR r)) ∧ w' = w := by
  by_cases h1 : 0 ≤ r
  · by_cases h2 : r ≤ 1114111
    · by_cases h3 : r < 55296
      · have HR := hid (show isR r = true by simp [isR, h1, h2, h3])
        go_enter Try.func83, Try.ntmps83
        go_wp2
        go_ret
        exact ⟨by rw [HR.out]; rfl, rfl⟩
      · by_cases h4 : 57343 < r
        · have HR := hid (show isR r = true by simp [isR, h1, h2, h4])
          go_enter Try.func83, Try.ntmps83
          go_wp2
          go_ret
          exact ⟨by rw [HR.out]; rfl, rfl⟩
        · have HR := hid (show isR r = false by simp [isR, h3, h4])
          go_enter Try.func83, Try.ntmps83
          go_wp2
          go_ret
          exact ⟨by rw [HR.out]; rfl, rfl⟩
    · have HR := hid (show isR r = false by simp [isR, h2])
      go_enter Try.func83, Try.ntmps83
      go_wp2
      go_ret
      exact ⟨by rw [HR.out]; rfl, rfl⟩
  · have HR := hid (show isR r = false by simp [isR, h1])
    go_enter Try.func83, Try.ntmps83
    go_wp2
    go_ret
    exact ⟨by rw [HR.out]; rfl, rfl⟩
set_option maxHeartbeats 400000 in
theorem width_any (r : Int) (w : World) :
    Calls Try.prog 82 #[.int .i32 r] w fun e w' => e = .returned (.int .i64 (widI r)) ∧ w' = w := by
  cases hr : isR r with
  | false =>
    have HW := hid (show widI r = 0 by simp [widI, hr])
    go_enter Try.func82, Try.ntmps82
    go_wp2_with (go_at_call 83; refine (rune_any _ _).mono ?_; rintro e w' ⟨rfl, rfl⟩)
    go_ret
    exact ⟨by rw [HW.out]; rfl, rfl⟩
  | true =>
    have hw : widI r = if r < 128 then 1 else if r < 2048 then 2 else if r < 65536 then 3 else 4 := by simp [widI, hr]
    by_cases h1 : r < 128
    · have HW := hid (show widI r = 1 by rw [hw]; omega)
      clear hw
      go_enter Try.func82, Try.ntmps82
      go_wp2_with (go_at_call 83; refine (rune_any _ _).mono ?_; rintro e w' ⟨rfl, rfl⟩)
      go_ret
      exact ⟨by rw [HW.out]; rfl, rfl⟩
    by_cases h2 : r < 2048
    · have HW := hid (show widI r = 2 by rw [hw]; omega)
      clear hw
      go_enter Try.func82, Try.ntmps82
      go_wp2_with (go_at_call 83; refine (rune_any _ _).mono ?_; rintro e w' ⟨rfl, rfl⟩)
      go_ret
      exact ⟨by rw [HW.out]; rfl, rfl⟩
    by_cases h3 : r < 65536
    · have HW := hid (show widI r = 3 by rw [hw]; omega)
      clear hw
      go_enter Try.func82, Try.ntmps82
      go_wp2_with (go_at_call 83; refine (rune_any _ _).mono ?_; rintro e w' ⟨rfl, rfl⟩)
      go_ret
      exact ⟨by rw [HW.out]; rfl, rfl⟩
    · have HW := hid (show widI r = 4 by rw [hw]; omega)
      clear hw
      go_enter Try.func82, Try.ntmps82
      go_wp2_with (go_at_call 83; refine (rune_any _ _).mono ?_; rintro e w' ⟨rfl, rfl⟩)
      go_ret
      exact ⟨by rw [HW.out]; rfl, rfl⟩
set_option maxHeartbeats 400000 in
theorem rdec_any (l : List UInt8) (w : World) (hl : l.length ≤ 1000000000000) :
    Calls Try.prog 80 #[.string ⟨l.toArray⟩] w fun e w' => e = .returned (.tuple #[.int .i32 (dec l).1, .int .i64 (dec l).2]) ∧ w' = w := by
  by_cases h : l = []
  · subst h
    go_enter Try.func80, Try.ntmps80
    go_wp2
    go_ret2
    exact ⟨rfl, rfl⟩
  have h1 : 1 ≤ l.length := by cases l with | nil => exact absurd rfl h | cons => simp
  have hsz : 0 < (⟨l.toArray⟩ : ByteArray).size := by show 0 < l.toArray.size; simp; omega
  obtain ⟨b0, b1⟩ := byt_bd l 0
  have he := byt_eq l 0 hsz
  have hl0 : ((l.length : Int) == 0) = false := beq_eq_false_iff_ne.2 (by omega)
  obtain ⟨c, hc⟩ : ∃ c, c = byt l 0 := ⟨_, rfl⟩
  rw [← hc] at he b0 b1
  have HC := hid hc
  clear hc
  have hn4 : 0 ≤ rlN c ∧ rlN c ≤ 4 := by unfold rlN; omega
  by_cases hz : rlN c = 0
  · have HD := hid (dec_short l h (Or.inl (by rw [← HC.out]; exact hz)))
    have hz' : (rlN c == 0) = true := beq_iff_eq.2 hz
    clear hz
    go_enter Try.func80, Try.ntmps80
    go_wp2_with (go_at_call 81; refine (rlead_any _ _ b0 b1).mono ?_; rintro e w' ⟨rfl, rfl⟩)
    go_ret2
    exact ⟨by rw [HD.out]; rfl, rfl⟩
  have hz' : (rlN c == 0) = false := beq_eq_false_iff_ne.2 hz
  by_cases hs : (l.length : Int) < rlN c
  · have HD := hid (dec_short l h (Or.inr (by rw [← HC.out]; exact hs)))
    clear hz
    go_enter Try.func80, Try.ntmps80
    go_wp2_with (go_at_call 81; refine (rlead_any _ _ b0 b1).mono ?_; rintro e w' ⟨rfl, rfl⟩)
    go_ret2
    exact ⟨by rw [HD.out]; rfl, rfl⟩
  obtain ⟨n, hn⟩ : ∃ n : Nat, rlN c = n := ⟨(rlN c).toNat, by omega⟩
  have HN := hid hn
  have hnl : n ≤ l.length := by omega
  have hn1 : 1 ≤ n := by omega
  have hn5 : n ≤ 4 := by omega
  have hacc0 : rlB c = acc l 0 := by rw [HC.out]; rfl
  have HA0 := hid hacc0
  clear hz hs hacc0 hn hz' hn4
  go_enter Try.func80, Try.ntmps80
  have hnl' : ¬ (l.length : Int) < (n : Int) := by omega
  have hn0' : ((n : Int) == 0) = false := beq_eq_false_iff_ne.2 (by omega)
  go_wp2_with (go_at_call 81; refine (rlead_eq _ _ _ _ b0 b1 HN.out HA0.out).mono ?_; rintro e w' ⟨rfl, rfl⟩)
  go_loop [5, 6] (fun r i => ∃ k : Nat, k + 1 ≤ n ∧ i = .int .i64 ((k : Int) + 1) ∧ r = .int .i32 (acc l k) ∧ Hid (∀ j, 1 ≤ j → j < k + 1 → byt l j / 64 = 2)) (fun _ i => n - (intOf i).toNat)
  case atStart => exact ⟨0, by omega, by simp, rfl, fun j h1 h2 => by omega⟩
  case round =>
    obtain ⟨k, hk, rfl, rfl, HB⟩ := hrel
    by_cases hlt : k + 1 < n
    · have hlt' : ((k : Int) + 1) < n := by omega
      have hsk : k + 1 < (⟨l.toArray⟩ : ByteArray).size := by show k + 1 < l.toArray.size; simp; omega
      have hek := byt_eq l (k + 1) hsk
      obtain ⟨d, hd⟩ : ∃ d, d = byt l (k + 1) := ⟨_, rfl⟩
      obtain ⟨d0, d1⟩ := byt_bd l (k + 1)
      rw [← hd] at d0 d1 hek
      have hct := cont_test d d0 d1
      have hab := acc_bd l k
      have hk2 : k ≤ 2 := by omega
      have hab1 : acc l k < 524288 := by
        have : k = 0 ∨ k = 1 ∨ k = 2 := by omega
        rcases this with rfl | rfl | rfl <;> omega
      have hab0 := hab.1
      have HDD := hid hd
      clear hab hd
      by_cases hcn : d / 64 = 2
      · have HX := hid (show acc l (k + 1) = acc l k * 64 + d % 64 by rw [HDD.out]; rfl)
        have HB2 := hid (show ∀ j, 1 ≤ j → j < k + 1 + 1 → byt l j / 64 = 2 from fun j h1 h2 => by
          by_cases e : j = k + 1
          · rw [e, ← HDD.out]; exact hcn
          · exact HB.out j h1 (by omega))
        simp only [hcn, decide_true, Bool.not_true] at hct
        clear hcn
        generalize acc l k = a at *
        go_wp2
        go_round
        case rel => exact ⟨k + 1, by omega, by go_num, by rw [HX.out], HB2⟩
        case measure => simp [intOf]; omega
      · have HD := hid (dec_fail l h (k + 1) (by omega) (by rw [← HC.out, HN.out]; omega) (by rw [← HDD.out]; exact hcn))
        simp only [hcn, decide_false, Bool.not_false] at hct
        clear hcn
        go_wp2
        go_ret2
        exact ⟨by rw [HD.out]; rfl, rfl⟩
    · have hke : k = n - 1 := by omega
      have hge : ¬ ((k : Int) + 1) < n := by omega
      have hD := dec_end l h n (by rw [← HC.out]; exact HN.out) hn1 hnl (fun j h1 h2 => HB.out j h1 (by omega))
      rw [← hke] at hD
      clear hke
      by_cases hw : widI (acc l k) = n
      · rw [if_pos hw] at hD
        have HD := hid hD
        have hw' : (widI (acc l k) != (n : Int)) = false := by simp [hw]
        have hab := (acc_bd l k).1
        clear hD hw
        go_wp2_with (go_at_call 82; refine (width_any _ _).mono ?_; rintro e w' ⟨rfl, rfl⟩)
        go_ret2
        exact ⟨by rw [HD.out]; simp [Int.toNat_of_nonneg hab], rfl⟩
      · rw [if_neg hw] at hD
        have HD := hid hD
        have hw' : (widI (acc l k) != (n : Int)) = true := by simp [hw]
        clear hD hw
        go_wp2_with (go_at_call 82; refine (width_any _ _).mono ?_; rintro e w' ⟨rfl, rfl⟩)
        go_ret2
        exact ⟨by rw [HD.out]; rfl, rfl⟩
/-- A mark: the place, the width, the rune, whether it is a fault. -/
structure Mk where
  pl : Int
  wd : Int
  ru : Int
  bad : Bool
theorem Try.info122 : (Try.prog.info? 122).map (fun i => (i.zero, i.size, i.bytes)) = some (some (.agg #[.int .i64 0, .int .i64 0, .int .i32 0, .bool false]), 4, 24) := by kernel_rfl
/-- The cells of a mark. -/
def mrkc (m : Mk) : List Value := [.int .i64 m.pl, .int .i64 m.wd, .int .i32 m.ru, .bool m.bad]
def mrkcs (ms : List Mk) : List Value := ms.flatMap mrkc
theorem mrkcs_snoc (ms : List Mk) (m : Mk) : mrkcs (ms ++ [m]) = mrkcs ms ++ mrkc m := by simp [mrkcs]
theorem mrkc_one (m : Mk) : ∀ u ∈ mrkc m, u.oneCell' = true := by
  intro u hu
  simp only [mrkc, List.mem_cons, List.mem_nil_iff, or_false] at hu
  rcases hu with rfl | rfl | rfl | rfl <;> rfl
theorem news_one (wr : World) (cs : Array Value) (t : TypeId) : ∀ j u, cs.toList[j]? = some u → (wr.alloc (.cells cs t)).cell? ((⟨wr.heap.size, 0, none⟩ : Addr).add j) = some u := World.news_of_block (heap_alloc_new wr _)
theorem dec_eqL (l : List UInt8) (h : l ≠ []) : dec l = Lib.decodeL l := by
  unfold dec
  rw [if_neg h]
  unfold Lib.decodeGo
  have hs : (⟨l.toArray⟩ : ByteArray).size = l.length := by show l.toArray.size = _; simp
  rw [if_neg (by rw [hs]; exact fun e => h (List.length_eq_zero_iff.1 e))]
  rfl
theorem dec_ge (l : List UInt8) (h : l ≠ []) : 1 ≤ (dec l).2 := by rw [dec_eqL l h]; exact Lib.decodeL_width l
theorem dec_le (l : List UInt8) (h : l ≠ []) : (dec l).2 ≤ l.length := by rw [dec_eqL l h]; exact Lib.decodeL_le l h
theorem dec_rune (l : List UInt8) (h : l ≠ []) : (dec l).1 ≤ 1114111 := by rw [dec_eqL l h]; exact Lib.decodeL_rune l
/-- The mark of the first rune. -/
def mk1 (p : Nat) (l : List UInt8) : Mk := ⟨p, (dec l).2, (dec l).1, decide ((dec l).2 = 1) && decide ((dec l).1 = 65533)⟩
def mksF : Nat → Nat → List UInt8 → List Mk
  | 0, _, _ => []
  | k + 1, p, l => if l = [] then [] else mk1 p l :: mksF k (p + (dec l).2) (l.drop (dec l).2)
theorem mksF_any : ∀ (k k' p : Nat) (l : List UInt8), l.length ≤ k → l.length ≤ k' → mksF k p l = mksF k' p l
  | 0, 0, _, _, _, _ => rfl
  | 0, k' + 1, p, l, h, _ => by
    have : l = [] := List.length_eq_zero_iff.1 (by omega)
    subst this; simp [mksF]
  | k + 1, 0, p, l, _, h => by
    have : l = [] := List.length_eq_zero_iff.1 (by omega)
    subst this; simp [mksF]
  | k + 1, k' + 1, p, l, h, h' => by
    unfold mksF
    by_cases e : l = []
    · simp [e]
    · rw [if_neg e, if_neg e]
      have := dec_ge l e
      rw [mksF_any k k' (p + (dec l).2) (l.drop (dec l).2) (by simp; omega) (by simp; omega)]
/-- The marks of a text that begins at a place. -/
def mks (p : Nat) (l : List UInt8) : List Mk := mksF l.length p l
theorem mks_nil (p : Nat) : mks p [] = [] := rfl
theorem mks_cons (p : Nat) (l : List UInt8) (h : l ≠ []) : mks p l = mk1 p l :: mks (p + (dec l).2) (l.drop (dec l).2) := by
  have h1 := dec_ge l h
  have h2 := dec_le l h
  unfold mks
  rw [mksF_any l.length (l.length - 1 + 1) p l (by omega) (by omega)]
  conv => lhs; unfold mksF
  rw [if_neg h, mksF_any (l.length - 1) (l.drop (dec l).2).length _ _ (by simp; omega) (by omega)]
/-- What was found so far and what is to come make the whole. -/
def PartM (l : List UInt8) (ms : List Mk) (t : Nat) : Prop := t ≤ l.length ∧ ms ++ mks t (l.drop t) = mks 0 l ∧ ms.length ≤ t
theorem PartM.start (l : List UInt8) : PartM l [] 0 := by simp [PartM]
theorem PartM.step {l : List UInt8} {ms : List Mk} {t : Nat} (h : PartM l ms t) (ht : t < l.length) : PartM l (ms ++ [mk1 t (l.drop t)]) (t + (dec (l.drop t)).2) := by
  obtain ⟨h1, h2, h3⟩ := h
  have hne : l.drop t ≠ [] := fun e => by have := congrArg List.length e; simp at this; omega
  have g1 := dec_ge _ hne
  have g2 := dec_le _ hne
  simp only [List.length_drop] at g2
  refine ⟨by omega, ?_, by simp; omega⟩
  rw [← h2, mks_cons t (l.drop t) hne]
  simp [List.drop_drop]
theorem PartM.done {l : List UInt8} {ms : List Mk} {t : Nat} (h : PartM l ms t) (ht : ¬ t < l.length) : ms = mks 0 l := by
  have h2 := h.2.1
  rw [List.drop_of_length_le (by omega), mks_nil] at h2
  simpa using h2
theorem rdec_eq (s : ByteArray) (l : List UInt8) (w : World) (hs : s = ⟨l.toArray⟩) (hl : l.length ≤ 1000000000000) :
    Calls Try.prog 80 #[.string s] w fun e w' => e = .returned (.tuple #[.int .i32 (dec l).1, .int .i64 (dec l).2]) ∧ w' = w := by
  subst hs
  exact rdec_any l w hl
set_option maxHeartbeats 1000000 in
theorem marks_any (l : List UInt8) (w : World) (hl : l.length ≤ 1000000000000) :
    Calls Try.prog 78 #[.string ⟨l.toArray⟩] w fun e w' => ∃ v, e = .returned v ∧ w'.ownsRow w.heap.size 122 4 v (mks 0 l).length (mrkcs (mks 0 l)) ∧ Below w.heap.size w w' := by
  obtain ⟨i0, hi, hz0, hz1, hz2⟩ := info_parts Try.info122
  go_enter Try.func78, Try.ntmps78
  go_wp2
  go_loopw [3, 4] (fun v i wr => ∃ (t : Nat) (q : Int) (ms : List Mk), i = .int .i64 q ∧ q = t ∧ Hid (PartM l ms t) ∧ wr.ownsRow w.heap.size 122 4 v ms.length (mrkcs ms) ∧ Below w.heap.size w wr) (fun _ i _ => l.length - (intOf i).toNat)
  case atStart => exact ⟨0, 0, [], rfl, rfl, PartM.start l, World.ownsRow_nil _ _ _ _, Below.refl _ _⟩
  case round =>
    obtain ⟨t, q, ms, rfl, rfl, HP, hown, hB⟩ := hrel
    have htl : t ≤ l.length := HP.out.1
    have hml : ms.length ≤ t := HP.out.2.2
    by_cases hlt : t < l.length
    · have hne : l.drop t ≠ [] := fun e => by have := congrArg List.length e; simp at this; omega
      have g1 := dec_ge _ hne
      have g2 := dec_le _ hne
      have g3 := dec_rune _ hne
      simp only [List.length_drop] at g2
      have HS := hid (HP.out.step hlt)
      have HK := hid (show mk1 t (l.drop t) = ⟨t, (dec (l.drop t)).2, (dec (l.drop t)).1, decide ((dec (l.drop t)).2 = 1) && decide ((dec (l.drop t)).1 = 65533)⟩ from rfl)
      clear hne
      go_wp2_with fail
      refine (rdec_eq _ (l.drop t) _ (ext_drop l t) (by simp; omega)).mono ?_
      rintro e w1 ⟨rfl, rfl⟩
      generalize (dec (l.drop t)).1 = rr at *
      generalize (dec (l.drop t)).2 = nn at *
      rw [HK.out] at HS
      clear HK HP
      by_cases hn1 : nn = 1
      · by_cases hr1 : rr = 65533
        · have e : (decide (nn = 1) && decide (rr = 65533)) = true := by simp [hn1, hr1]
          rw [e] at HS
          have t1 : (((nn : Int)) == 1) = true := beq_iff_eq.2 (by omega)
          have t2 : (((rr : Int)) == 65533) = true := beq_iff_eq.2 (by omega)
          clear hn1 hr1 e
          have hB1s := hB.size
          go_wp2_with (at_builtin; refine wpList_append_own _ rfl _ _ 119 rfl w.heap.size 122 i0 (.agg #[.int .i64 0, .int .i64 0, .int .i32 0, .bool false]) 4 24 Try.underlying119 hi hz0 hz1 hz2 rfl (by decide) _ _ _ rfl (hown.alloc _) ⟨w1.heap.size, 0, none⟩ 1 1 (mrkc ⟨t, nn, rr, true⟩) rfl rfl (news_one w1 #[.int .i64 t, .int .i64 nn, .int .i32 rr, .bool true] 122) (mrkc_one _) (by unfold maxLen; omega) (by omega) (by simp; omega) ?_)
          intro v' w2 hown' hgrow _
          have hB2 : Below w.heap.size w w2 := (hB.alloc hB.size _).grown hgrow (by simp; omega) (fun k hk => (hown.lt k hk).1)
          have hown2 : w2.ownsRow w.heap.size 122 4 v' (ms ++ [Mk.mk t nn rr true]).length (mrkcs (ms ++ [Mk.mk t nn rr true])) := by rw [mrkcs_snoc, List.length_append]; exact hown'
          clear hown' hgrow hown hB
          go_wp2
          go_roundw
          case rel => exact ⟨t + nn, _, _, rfl, by omega, HS, hown2, hB2⟩
          case measure => simp [intOf]; omega
        · have e : (decide (nn = 1) && decide (rr = 65533)) = false := by simp [hr1]
          rw [e] at HS
          have t1 : (((nn : Int)) == 1) = true := beq_iff_eq.2 (by omega)
          have t2 : (((rr : Int)) == 65533) = false := beq_eq_false_iff_ne.2 (by omega)
          clear hn1 hr1 e
          have hB1s := hB.size
          go_wp2_with (at_builtin; refine wpList_append_own _ rfl _ _ 119 rfl w.heap.size 122 i0 (.agg #[.int .i64 0, .int .i64 0, .int .i32 0, .bool false]) 4 24 Try.underlying119 hi hz0 hz1 hz2 rfl (by decide) _ _ _ rfl (hown.alloc _) ⟨w1.heap.size, 0, none⟩ 1 1 (mrkc ⟨t, nn, rr, false⟩) rfl rfl (news_one w1 #[.int .i64 t, .int .i64 nn, .int .i32 rr, .bool false] 122) (mrkc_one _) (by unfold maxLen; omega) (by omega) (by simp; omega) ?_)
          intro v' w2 hown' hgrow _
          have hB2 : Below w.heap.size w w2 := (hB.alloc hB.size _).grown hgrow (by simp; omega) (fun k hk => (hown.lt k hk).1)
          have hown2 : w2.ownsRow w.heap.size 122 4 v' (ms ++ [Mk.mk t nn rr false]).length (mrkcs (ms ++ [Mk.mk t nn rr false])) := by rw [mrkcs_snoc, List.length_append]; exact hown'
          clear hown' hgrow hown hB
          go_wp2
          go_roundw
          case rel => exact ⟨t + nn, _, _, rfl, by omega, HS, hown2, hB2⟩
          case measure => simp [intOf]; omega
      · have e : (decide (nn = 1) && decide (rr = 65533)) = false := by simp [hn1]
        rw [e] at HS
        have t1 : (((nn : Int)) == 1) = false := beq_eq_false_iff_ne.2 (by omega)
        clear hn1 e
        have hB1s := hB.size
        go_wp2_with (at_builtin; refine wpList_append_own _ rfl _ _ 119 rfl w.heap.size 122 i0 (.agg #[.int .i64 0, .int .i64 0, .int .i32 0, .bool false]) 4 24 Try.underlying119 hi hz0 hz1 hz2 rfl (by decide) _ _ _ rfl (hown.alloc _) ⟨w1.heap.size, 0, none⟩ 1 1 (mrkc ⟨t, nn, rr, false⟩) rfl rfl (news_one w1 #[.int .i64 t, .int .i64 nn, .int .i32 rr, .bool false] 122) (mrkc_one _) (by unfold maxLen; omega) (by omega) (by simp; omega) ?_)
        intro v' w2 hown' hgrow _
        have hB2 : Below w.heap.size w w2 := (hB.alloc hB.size _).grown hgrow (by simp; omega) (fun k hk => (hown.lt k hk).1)
        have hown2 : w2.ownsRow w.heap.size 122 4 v' (ms ++ [Mk.mk t nn rr false]).length (mrkcs (ms ++ [Mk.mk t nn rr false])) := by rw [mrkcs_snoc, List.length_append]; exact hown'
        clear hown' hgrow hown hB
        go_wp2
        go_roundw
        case rel => exact ⟨t + nn, _, _, rfl, by omega, HS, hown2, hB2⟩
        case measure => simp [intOf]; omega
    · have HD := hid (HP.out.done hlt)
      go_wp2
      go_ret
      exact ⟨_, rfl, by rw [← HD.out]; exact hown, hB⟩
end Ytljlhlcoaajggaa
end Go.Proofs
