/- What Decode answers, in numbers: the document's way to it. -/
import Derived.Test.YtflehkdijfhmgabDoorTexts
import Derived.Lib.DecodeN
namespace Go.Proofs.YtflehkdijfhmgabDoor

def rlN (c : Int) : Int := if c < 128 then 1 else if c < 192 then 0 else if c < 224 then 2 else if c < 240 then 3 else if c < 248 then 4 else 0
def rlB (c : Int) : Int := if c < 128 then c else if c < 192 then 0 else if c < 224 then c % 32 else if c < 240 then c % 16 else if c < 248 then c % 8 else 0
/-- Whether a number is a rune. -/
def isR (r : Int) : Bool := decide (0 ≤ r) && (decide (r ≤ 1114111) && (decide (r < 55296) || decide (57343 < r)))
def widI (r : Int) : Int := if isR r = false then 0 else if r < 128 then 1 else if r < 2048 then 2 else if r < 65536 then 3 else 4

theorem get_list (l : List UInt8) (i : Nat) : (⟨l.toArray⟩ : ByteArray).get! i = l.getD i 0 := by
  show l.toArray.getD i default = l.getD i 0
  by_cases h : i < l.length
  · simp [Array.getD, List.getD, h]
  · simp [Array.getD, List.getD, h]; rfl

theorem dec_numbers (l : List UInt8) (h : l ≠ []) : dec l = Lib.decodeN l.length (l.getD 0 0).toNat (l.getD 1 0).toNat (l.getD 2 0).toNat (l.getD 3 0).toNat := by
  unfold dec
  rw [if_neg h]
  unfold Lib.decodeGo
  have hs : (⟨l.toArray⟩ : ByteArray).size = l.length := by show l.toArray.size = _; simp
  rw [if_neg (by rw [hs]; exact fun e => h (List.length_eq_zero_iff.1 e)), Lib.decode_at, hs]
  simp only [get_list, Nat.zero_add, Nat.sub_zero]

/-- The bits, so many bytes on. -/
def acc (l : List UInt8) : Nat → Int
  | 0 => rlB (byt l 0)
  | k + 1 => acc l k * 64 + byt l (k + 1) % 64

theorem rlB_bd (c : Int) (h : 0 ≤ c) : 0 ≤ rlB c ∧ rlB c ≤ 127 := by unfold rlB; omega
theorem acc_bd (l : List UInt8) : ∀ k, 0 ≤ acc l k ∧ acc l k + 1 ≤ 128 * 64 ^ k
  | 0 => by have := rlB_bd (byt l 0) (byt_bd l 0).1; simp [acc]; omega
  | k + 1 => by
    obtain ⟨h1, h2⟩ := acc_bd l k
    have hp : (64 : Int) ^ (k + 1) = 64 * 64 ^ k := by rw [Int.pow_succ]; omega
    simp only [acc, hp]
    omega

theorem dec_short (l : List UInt8) (h : l ≠ []) (hn : rlN (byt l 0) = 0 ∨ (l.length : Int) < rlN (byt l 0)) : dec l = (65533, 1) := by
  rw [dec_numbers l h]
  have h1 : 1 ≤ l.length := by cases l with | nil => exact absurd rfl h | cons => simp
  unfold rlN byt at hn
  generalize (l.getD 0 0).toNat = b0 at *
  unfold Lib.decodeN
  repeat' split
  all_goals first | rfl | (exfalso; omega)

theorem dec_fail (l : List UInt8) (h : l ≠ []) (k : Nat) (h1 : 1 ≤ k) (hk : (k : Int) < rlN (byt l 0)) (hb : ¬ byt l k / 64 = 2) : dec l = (65533, 1) := by
  rw [dec_numbers l h]
  have h4 : rlN (byt l 0) ≤ 4 := by unfold rlN; omega
  have hk3 : k = 1 ∨ k = 2 ∨ k = 3 := by omega
  rcases hk3 with rfl | rfl | rfl
  all_goals
    unfold rlN byt at hk
    unfold byt at hb
    generalize (l.getD 0 0).toNat = b0 at *
    generalize (l.getD 1 0).toNat = b1 at *
    generalize (l.getD 2 0).toNat = b2 at *
    generalize (l.getD 3 0).toNat = b3 at *
    unfold Lib.decodeN
    repeat' split
    all_goals first | rfl | (exfalso; omega)

theorem isR_iff (r : Int) : isR r = true ↔ 0 ≤ r ∧ r ≤ 1114111 ∧ (r < 55296 ∨ 57343 < r) := by simp [isR]
theorem widI_val (x : Nat) : widI (x : Int) = if x ≤ 1114111 ∧ (x < 55296 ∨ 57343 < x) then (if x < 128 then 1 else if x < 2048 then 2 else if x < 65536 then 3 else 4) else 0 := by
  have hi := isR_iff (x : Int)
  unfold widI
  by_cases h : x ≤ 1114111 ∧ (x < 55296 ∨ 57343 < x)
  · rw [hi.2 (by omega), if_pos h, if_neg (by decide)]
    repeat' split
    all_goals omega
  · have hr : isR (x : Int) = false := by
      cases hr : isR (x : Int) with
      | false => rfl
      | true => have := hi.1 hr; omega
    rw [hr, if_neg h, if_pos rfl]
theorem wid_pick3 (x : Nat) (hx : x < 65536) : (if x ≥ 2048 ∧ (x < 55296 ∨ (57344 ≤ x ∧ x ≤ 1114111)) then (x, 3) else (65533, 1)) = if widI (x : Int) = ((3 : Nat) : Int) then ((x : Int).toNat, 3) else (65533, 1) := by
  rw [widI_val, Int.toNat_natCast]
  repeat' split
  all_goals first | rfl | (exfalso; omega)
theorem wid_pick4 (x : Nat) : (if x ≥ 65536 ∧ (x < 55296 ∨ (57344 ≤ x ∧ x ≤ 1114111)) then (x, 4) else (65533, 1)) = if widI (x : Int) = ((4 : Nat) : Int) then ((x : Int).toNat, 4) else (65533, 1) := by
  rw [widI_val, Int.toNat_natCast]
  repeat' split
  all_goals first | rfl | (exfalso; omega)

theorem dec_end (l : List UInt8) (h : l ≠ []) (n : Nat) (hn : rlN (byt l 0) = n) (hn1 : 1 ≤ n) (hl : n ≤ l.length) (hb : ∀ k, 1 ≤ k → k < n → byt l k / 64 = 2) :
    dec l = if widI (acc l (n - 1)) = n then ((acc l (n - 1)).toNat, n) else (65533, 1) := by
  rw [dec_numbers l h]
  have h4 : rlN (byt l 0) ≤ 4 := by unfold rlN; omega
  have hn4 : n = 1 ∨ n = 2 ∨ n = 3 ∨ n = 4 := by omega
  have g0 := (l.getD 0 0).toNat_lt
  have g1 := (l.getD 1 0).toNat_lt
  have g2 := (l.getD 2 0).toNat_lt
  have g3 := (l.getD 3 0).toNat_lt
  rcases hn4 with rfl | rfl | rfl | rfl
  · simp only [Nat.sub_self, acc]
    unfold rlN byt at hn
    unfold byt
    generalize (l.getD 0 0).toNat = b0 at *
    have hb0 : b0 < 128 := by omega
    have e1 : rlB b0 = b0 := by unfold rlB; omega
    have e2 : widI b0 = 1 := by simp [widI, isR]; omega
    rw [e1, e2]
    unfold Lib.decodeN
    rw [if_pos hb0]
    simp
  · have hb1 := hb 1 (by omega) (by omega)
    simp only [Nat.reduceSub, acc]
    unfold rlN byt at hn
    unfold byt at hb1 ⊢
    simp only [Nat.zero_add] at *
    generalize (l.getD 0 0).toNat = b0 at *
    generalize (l.getD 1 0).toNat = b1 at *
    have e1 : rlB b0 = (b0 : Int) % 32 := by unfold rlB; omega
    rw [e1]
    unfold Lib.decodeN widI isR
    simp
    repeat' split
    all_goals first | rfl | (exfalso; omega) | (simp; omega)
  · have hb1 := hb 1 (by omega) (by omega)
    have hb2 := hb 2 (by omega) (by omega)
    simp only [Nat.reduceSub, acc]
    unfold rlN byt at hn
    unfold byt at hb1 hb2 ⊢
    simp only [Nat.zero_add, Nat.reduceAdd] at *
    generalize (l.getD 0 0).toNat = b0 at *
    generalize (l.getD 1 0).toNat = b1 at *
    generalize (l.getD 2 0).toNat = b2 at *
    have e1 : rlB b0 = (b0 : Int) % 16 := by unfold rlB; omega
    rw [e1]
    have e2 : ((b0 : Int) % 16 * 64 + (b1 : Int) % 64) * 64 + (b2 : Int) % 64 = ((b0 % 16 * 4096 + b1 % 64 * 64 + b2 % 64 : Nat) : Int) := by omega
    rw [e2]
    unfold Lib.decodeN
    rw [if_neg (by omega), if_neg (by omega), if_pos (by omega)]
    have hx : b0 % 16 * 4096 + b1 % 64 * 64 + b2 % 64 < 65536 := by omega
    generalize b0 % 16 * 4096 + b1 % 64 * 64 + b2 % 64 = x at *
    exact wid_pick3 x hx
  · have hb1 := hb 1 (by omega) (by omega)
    have hb2 := hb 2 (by omega) (by omega)
    have hb3 := hb 3 (by omega) (by omega)
    simp only [Nat.reduceSub, acc]
    unfold rlN byt at hn
    unfold byt at hb1 hb2 hb3 ⊢
    simp only [Nat.zero_add, Nat.reduceAdd] at *
    generalize (l.getD 0 0).toNat = b0 at *
    generalize (l.getD 1 0).toNat = b1 at *
    generalize (l.getD 2 0).toNat = b2 at *
    generalize (l.getD 3 0).toNat = b3 at *
    have e1 : rlB b0 = (b0 : Int) % 8 := by unfold rlB; omega
    rw [e1]
    have e2 : (((b0 : Int) % 8 * 64 + (b1 : Int) % 64) * 64 + (b2 : Int) % 64) * 64 + (b3 : Int) % 64 = ((b0 % 8 * 262144 + b1 % 64 * 4096 + b2 % 64 * 64 + b3 % 64 : Nat) : Int) := by omega
    rw [e2]
    unfold Lib.decodeN
    rw [if_neg (by omega), if_neg (by omega), if_neg (by omega), if_pos (by omega)]
    generalize b0 % 8 * 262144 + b1 % 64 * 4096 + b2 % 64 * 64 + b3 % 64 = x at *
    exact wid_pick4 x
end Go.Proofs.YtflehkdijfhmgabDoor
