/- Base, UBeg, UPlaces, RfMath, RfDec: parts of the proof, joined. -/
import Derived.Deep.AppendLies
import Derived.WalkSpells
import Derived.WalkLawsBesides
import Derived.BigQuiet
import Derived.Test.YtdpohgoikbeplaaGreatDoorUShelf
import Derived.Test.YtdpohgoikbeplaaGreatDoorUUMath
namespace Go.Proofs.YtdpohgoikbeplaaGreatDoor
open Go.RowKit
theorem hid {p : Prop} (h : p) : Hid p := h
theorem tabs_below {w w' : World} (h : Lib.Utf8Tabs 1 2 w) (hs : 3 <= w.heap.size) (hb : Below w.heap.size w w') : Lib.Utf8Tabs 1 2 w' :=
 ⟨fun c hc => (hb.cell (p := ⟨1, c, none⟩) (by show 1 < w.heap.size; omega)).trans (h.1 c hc), fun i hi => ⟨(hb.cell (p := ⟨2, 2 * i, none⟩) (by show 2 < w.heap.size; omega)).trans (h.2 i hi).1, (hb.cell (p := ⟨2, 2 * i + 1, none⟩) (by show 2 < w.heap.size; omega)).trans (h.2 i hi).2⟩⟩
set_option maxHeartbeats 400000 in
theorem decode_any (l : List UInt8) (w : World) (hT : Lib.Utf8Tabs 1 2 w) :
  Calls Tryz.prog 106 #[.string ⟨l.toArray⟩] w fun e w' => e = .returned (.tuple #[.int .i32 (dec l).1, .int .i64 (dec l).2]) /\ Below w.heap.size w w' := by
 by_cases h : l = []
 ·subst h
  go_enter Tryz.func106, Tryz.ntmps106
  go_wp2
  go_ret2; exact ⟨rfl, Below.refl _ _⟩
 ·have hd : dec l = Lib.decodeGo ⟨l.toArray⟩ := if_neg h
  rw [hd]; have he : l.isEmpty = false := by simpa using h
  clear hd h; have HT := hid hT
  clear hT
  go_enter Tryz.func106, Tryz.ntmps106
  go_wp2_with (go_at_call 124; refine (Tryz.utf8_DecodeRuneInString _ _ (by exact HT.out)).mono ?_; rintro e w1 ⟨rfl, hb⟩)
  go_ret2; exact ⟨rfl, hb⟩
theorem decode_eq (s : ByteArray) (l : List UInt8) (w : World) (hs : s = ⟨l.toArray⟩) (hT : Lib.Utf8Tabs 1 2 w) :
  Calls Tryz.prog 106 #[.string s] w fun e w' => e = .returned (.tuple #[.int .i32 (dec l).1, .int .i64 (dec l).2]) /\ Below w.heap.size w w' := by
 subst hs
 exact decode_any l w hT
set_option maxHeartbeats 400000 in
theorem last_any (l : List UInt8) (w : World) (hl : l.length <= 9223372036854775807) (hT : Lib.Utf8Tabs 1 2 w) :
  Calls Tryz.prog 107 #[.string ⟨l.toArray⟩] w fun e w' => e = .returned (.tuple #[.int .i32 (decLast l).1, .int .i64 (decLast l).2]) /\ Below w.heap.size w w' := by
 by_cases h : l = []
 ·subst h
  go_enter Tryz.func107, Tryz.ntmps107
  go_wp2
  go_ret2; exact ⟨rfl, Below.refl _ _⟩
 ·have hd : decLast l = Lib.decodeLastL l := if_neg h
  rw [hd]; have he : l.isEmpty = false := by simpa using h
  clear hd h; have HT := hid hT
  have hs' : (⟨l.toArray⟩ : ByteArray).size <= 9223372036854775807 := by show l.toArray.size <= _; simpa using hl
  have HS := hid hs'
  clear hT hs'
  go_enter Tryz.func107, Tryz.ntmps107
  go_wp2_with (go_at_call 125; refine (Tryz.utf8_DecodeLastRuneInString ⟨l.toArray⟩ _ HS.out (by exact HT.out)).mono ?_; rintro e w1 ⟨rfl, hb⟩)
  go_ret2; exact ⟨rfl, hb⟩
end Go.Proofs.YtdpohgoikbeplaaGreatDoor
namespace Go.Proofs.YtdpohgoikbeplaaGreatDoor
open Go.RowKit
theorem start_eq (b q : Int) (w : World) (hb : b = q) (h0 : 0 <= q) (h1 : q < 256) :
  Calls Tryz.prog 110 #[.int .u8 b] w fun e w' => e = .returned (.bool (Lib.runeStart q)) /\ w' = w := by
 subst hb
 exact Tryz.utf8_RuneStart b w h0 h1
set_option maxRecDepth 100000 in
set_option maxHeartbeats 400000 in
theorem begin_any (l : List UInt8) (p : Nat) (w : World) (hp : p < l.length) (hl : l.length <= 1000000000000) (hT : Lib.Utf8Tabs 1 2 w) (h2 : 3 <= w.heap.size) :
  Calls Tryz.prog 79 #[.string ⟨l.toArray⟩, .int .i64 p] w fun e w' => e = .returned (.int .i64 (bgF l p 4)) /\ Below w.heap.size w w' := by
 have HT := hid hT
 clear hT
 go_enter Tryz.func79, Tryz.ntmps79
 go_wp2
 go_loopw [5] (fun fr wr => ∃ (f : Nat) (z : Int), fr = .int .i64 z /\ z = (p : Int) - (4 - f) /\ f <= 4 /\ -1 <= z /\ Hid (bgF l p f = bgF l p 4) /\ Below w.heap.size w wr) (fun fr _ => (intOf fr + 1).toNat)
 case atStart => exact ⟨4, _, rfl, by omega, by omega, by omega, rfl, Below.refl _ _⟩
 case round =>
  obtain ⟨f, z, rfl, hz, hf4, hz1, HF, hB⟩ := hrel
  by_cases hf : p < 4 - f
  ·have HR := hid (HF.out.symm.trans (bgF_out l p f hf))
   obtain rfl : z = -1 := by omega
   clear hz
   go_wp2
   go_ret; exact ⟨by rw [HR.out]; rfl, hB⟩
  cases f with
  | zero =>
   have HR := hid (HF.out.symm)
   have hz' : z = (p : Int) - 4 := by omega
   have HZ := hid hz'
   have c1 : ¬ (p : Int) - 4 < z := by omega
   clear hz hz'
   by_cases c2 : 0 <= z
   all_goals
    go_wp2
    go_ret; exact ⟨by rw [HR.out]; rfl, hB⟩
  | succ f =>
   obtain ⟨t, ht⟩ : ∃ t : Nat, t + (3 - f) = p := ⟨p - (3 - f), by omega⟩
   obtain rfl : z = t := by omega
   have hlt : t < l.length := by omega
   have c1 : (p : Int) - 4 < t := by omega
   have htp : t <= p := by omega
   have hsz : t < (⟨l.toArray⟩ : ByteArray).size := by show t < l.toArray.size; simpa using hlt
   have HZ := hid hz
   have HTP := hid ht
   obtain ⟨b0, b1⟩ := byt_bd l t
   have HT1 := hid (tabs_below HT.out h2 hB)
   have hw2 : 3 <= wr.heap.size := by have := hB.size; omega
   clear hz ht hf
   cases hr : Lib.runeStart (byt l t) with
   | false =>
    have HM := hid (bgF_more l p f t HTP.out hr)
    go_wp2_with (go_at_call 110; refine (start_eq _ (byt l t) _ (byt_eq l t hsz) b0 b1).mono ?_; rintro e w' ⟨rfl, rfl⟩)
    go_roundw
    case rel => exact ⟨f, _, rfl, by have := HZ.out; omega, by omega, by omega, (HM.out.symm.trans HF.out), hB⟩
    case measure => simp [intOf]
   | true =>
    have h4 := dec_le4 (l.drop t)
    by_cases hn : p < t + (dec (l.drop t)).2
    ·have HR := hid (HF.out.symm.trans (bgF_in l p f t HTP.out hr hn))
     go_wp2_with (go_at_call 110; refine (start_eq _ (byt l t) _ (byt_eq l t hsz) b0 b1).mono ?_; rintro e w' ⟨rfl, rfl⟩)
     refine (decode_eq _ (l.drop t) _ (ext_drop l t) (by exact HT1.out)).mono ?_
     rintro e w1 ⟨rfl, hb⟩
     generalize (dec (l.drop t)).1 = rr at *
     generalize (dec (l.drop t)).2 = nn at *
     clear hr HT1 HT HF HZ HTP b0 b1 hsz
     go_wp2
     go_ret; exact ⟨by rw [HR.out]; rfl, hB.trans (hb.mono hB.size)⟩
    ·have HR := hid (HF.out.symm.trans (bgF_off l p f t HTP.out hr hn))
     go_wp2_with (go_at_call 110; refine (start_eq _ (byt l t) _ (byt_eq l t hsz) b0 b1).mono ?_; rintro e w' ⟨rfl, rfl⟩)
     refine (decode_eq _ (l.drop t) _ (ext_drop l t) (by exact HT1.out)).mono ?_
     rintro e w1 ⟨rfl, hb⟩
     generalize (dec (l.drop t)).1 = rr at *
     generalize (dec (l.drop t)).2 = nn at *
     clear hr HT1 HT HF HZ HTP b0 b1 hsz
     go_wp2
     go_ret; exact ⟨by rw [HR.out]; rfl, hB.trans (hb.mono hB.size)⟩
set_option maxHeartbeats 400000 in
theorem is_any (l : List UInt8) (p : Int) (w : World) (hl : l.length <= 1000000000000) (hT : Lib.Utf8Tabs 1 2 w) (h2 : 3 <= w.heap.size) :
  Calls Tryz.prog 36 #[.string ⟨l.toArray⟩, .int .i64 p] w fun e w' => e = .returned (.bool (isE l p)) /\ Below w.heap.size w w' := by
 have HT := hid hT
 clear hT
 by_cases c1 : p <= 0
 ·have HI := hid (show isE l p = (p == 0) from if_pos c1)
  by_cases c0 : p = 0
  ·subst c0
   go_enter Tryz.func36, Tryz.ntmps36
   go_wp2
   go_ret; exact ⟨by rw [HI.out]; rfl, Below.refl _ _⟩
  ·have c3 : (p == 0) = false := beq_eq_false_iff_ne.2 c0
   have c4 : (p == (l.length : Int)) = false := beq_eq_false_iff_ne.2 (by omega)
   go_enter Tryz.func36, Tryz.ntmps36
   go_wp2
   go_ret; exact ⟨by rw [HI.out, c3]; rfl, Below.refl _ _⟩
 by_cases c2 : (l.length : Int) <= p
 ·have HI := hid (show isE l p = (p == l.length) from (if_neg c1).trans (if_pos c2))
  have c3 : (p == 0) = false := beq_eq_false_iff_ne.2 (by omega)
  by_cases c0 : p = l.length
  ·have c4 : (p == (l.length : Int)) = true := beq_iff_eq.2 c0
   clear c0
   go_enter Tryz.func36, Tryz.ntmps36
   go_wp2
   go_ret; exact ⟨by rw [HI.out, c4]; rfl, Below.refl _ _⟩
  ·have c4 : (p == (l.length : Int)) = false := beq_eq_false_iff_ne.2 c0
   clear c0
   go_enter Tryz.func36, Tryz.ntmps36
   go_wp2
   go_ret; exact ⟨by rw [HI.out, c4]; rfl, Below.refl _ _⟩
 ·obtain ⟨q, rfl⟩ : ∃ q : Nat, p = q := ⟨p.toNat, by omega⟩
  have hq : q < l.length := by omega
  have HI := hid (show isE l q = (bgF l q 4 == q) from (if_neg c1).trans (if_neg c2))
  go_enter Tryz.func36, Tryz.ntmps36
  go_wp2_with (go_at_call 79; refine (begin_any l q _ hq hl (by exact HT.out) (by exact h2)).mono ?_; rintro e w1 ⟨rfl, hb⟩)
  go_ret; exact ⟨by rw [HI.out]; exact congrArg (fun b => Ending.returned (Value.bool b)) (beq_nat (bgF l q 4) q), hb⟩
end Go.Proofs.YtdpohgoikbeplaaGreatDoor
namespace Go.Proofs.YtdpohgoikbeplaaGreatDoor.Wt
open Go.RowKit
theorem begin_eq (l : List UInt8) (p : Nat) (z : Int) (w : World) (hz : z = p) (hp : p < l.length) (hl : l.length <= 1000000000000) (hT : Lib.Utf8Tabs 1 2 w) (h2 : 3 <= w.heap.size) :
  Calls Tryz.prog 79 #[.string ⟨l.toArray⟩, .int .i64 z] w fun e w' => e = .returned (.int .i64 (bgF l p 4)) /\ Below w.heap.size w w' := by
 subst hz
 exact begin_any l p w hp hl hT h2
set_option maxHeartbeats 400000 in
theorem back_any (l : List UInt8) (p : Int) (w : World) (hl : l.length <= 1000000000000) (hT : Lib.Utf8Tabs 1 2 w) (h2 : 3 <= w.heap.size) :
  Calls Tryz.prog 59 #[.string ⟨l.toArray⟩, .int .i64 p] w fun e w' => e = .returned (.int .i64 (backE l p)) /\ Below w.heap.size w w' := by
 have HT := hid hT
 clear hT
 by_cases h1 : p <= 0
 ·have HR := hid (show backE l p = 0 from if_pos h1)
  go_enter Tryz.func59, Tryz.ntmps59
  go_wp2
  go_ret; exact ⟨by rw [HR.out]; rfl, Below.refl _ _⟩
 by_cases h3 : (l.length : Int) < p
 ·have HR := hid (show backE l p = l.length from (if_neg h1).trans (if_pos h3))
  go_enter Tryz.func59, Tryz.ntmps59
  go_wp2
  go_ret; exact ⟨by rw [HR.out]; rfl, Below.refl _ _⟩
 ·have HR := hid (show backE l p = bgF l (p.toNat - 1) 4 from (if_neg h1).trans (if_neg h3))
  go_enter Tryz.func59, Tryz.ntmps59
  go_wp2_with (go_at_call 79; refine (begin_eq l (p.toNat - 1) _ _ (by omega) (by omega) hl (by exact HT.out) (by exact h2)).mono ?_; rintro e w1 ⟨rfl, hb⟩)
  go_ret; exact ⟨by rw [HR.out]; rfl, hb⟩
end Go.Proofs.YtdpohgoikbeplaaGreatDoor.Wt
namespace Go.Proofs.YtdpohgoikbeplaaGreatDoor.Rf
def rlN (c : Int) : Int := if c < 128 then 1 else if c < 192 then 0 else if c < 224 then 2 else if c < 240 then 3 else if c < 248 then 4 else 0
def rlB (c : Int) : Int := if c < 128 then c else if c < 192 then 0 else if c < 224 then c % 32 else if c < 240 then c % 16 else if c < 248 then c % 8 else 0
def isR (r : Int) : Bool := decide (0 <= r) && (decide (r <= 1114111) && (decide (r < 55296) || decide (57343 < r)))
def widI (r : Int) : Int := if isR r = false then 0 else if r < 128 then 1 else if r < 2048 then 2 else if r < 65536 then 3 else 4
def acc (l : List UInt8) : Nat -> Int
 | 0 => rlB (byt l 0)
 | k + 1 => acc l k * 64 + byt l (k + 1) % 64
theorem rlB_bd (c : Int) (h : 0 <= c) : 0 <= rlB c /\ rlB c <= 127 := by unfold rlB; omega
theorem acc_bd (l : List UInt8) : ∀ k, 0 <= acc l k /\ acc l k + 1 <= 128 * 64 ^ k
 | 0 => by have := rlB_bd (byt l 0) (byt_bd l 0).1; simp [acc]; omega
 | k + 1 => by
  obtain ⟨h1, h2⟩ := acc_bd l k
  have hp : (64 : Int) ^ (k + 1) = 64 * 64 ^ k := by rw [Int.pow_succ]; omega
  simp only [acc, hp]
  omega
theorem dec_short (l : List UInt8) (h : l ≠ []) (hn : rlN (byt l 0) = 0 \/ (l.length : Int) < rlN (byt l 0)) : dec l = (65533, 1) := by
 rw [dec_numbers l h]
 have h1 : 1 <= l.length := by cases l with | nil => exact absurd rfl h | cons => simp
 unfold rlN byt at hn
 generalize (l.getD 0 0).toNat = b0 at *
 unfold Lib.decodeN
 repeat' split
 all_goals first | rfl | (exfalso; omega)
theorem dec_fail (l : List UInt8) (h : l ≠ []) (k : Nat) (h1 : 1 <= k) (hk : (k : Int) < rlN (byt l 0)) (hb : ¬ byt l k / 64 = 2) : dec l = (65533, 1) := by
 rw [dec_numbers l h]
 have h4 : rlN (byt l 0) <= 4 := by unfold rlN; omega
 have hk3 : k = 1 \/ k = 2 \/ k = 3 := by omega
 rcases hk3 with rfl | rfl | rfl
 all_goals
  unfold rlN byt at hk
  unfold byt at hb
  generalize (l.getD 0 0).toNat = b0 at *
  generalize (l.getD 1 0).toNat = b1 at *
  generalize (l.getD 2 0).toNat = b2 at *
  generalize (l.getD 3 0).toNat = b3 at *
  unfold Lib.decodeN
  repeat' split
  all_goals first | rfl | (exfalso; omega)
theorem isR_iff (r : Int) : isR r = true ↔ 0 <= r /\ r <= 1114111 /\ (r < 55296 \/ 57343 < r) := by simp [isR]
theorem widI_val (x : Nat) : widI (x : Int) = if x <= 1114111 /\ (x < 55296 \/ 57343 < x) then (if x < 128 then 1 else if x < 2048 then 2 else if x < 65536 then 3 else 4) else 0 := by
 have hi := isR_iff (x : Int)
 unfold widI
 by_cases h : x <= 1114111 /\ (x < 55296 \/ 57343 < x)
 ·rw [hi.2 (by omega), if_pos h, if_neg (by decide)]
  repeat' split
  all_goals omega
 ·have hr : isR (x : Int) = false := by
   cases hr : isR (x : Int) with
   | false => rfl
   | true => have := hi.1 hr; omega
  rw [hr, if_neg h, if_pos rfl]
theorem wid_pick3 (x : Nat) (hx : x < 65536) : (if x ≥ 2048 /\ (x < 55296 \/ (57344 <= x /\ x <= 1114111)) then (x, 3) else (65533, 1)) = if widI (x : Int) = ((3 : Nat) : Int) then ((x : Int).toNat, 3) else (65533, 1) := by
 rw [widI_val, Int.toNat_natCast]
 repeat' split
 all_goals first | rfl | (exfalso; omega)
theorem wid_pick4 (x : Nat) : (if x ≥ 65536 /\ (x < 55296 \/ (57344 <= x /\ x <= 1114111)) then (x, 4) else (65533, 1)) = if widI (x : Int) = ((4 : Nat) : Int) then ((x : Int).toNat, 4) else (65533, 1) := by
 rw [widI_val, Int.toNat_natCast]
 repeat' split
 all_goals first | rfl | (exfalso; omega)
theorem dec_end (l : List UInt8) (h : l ≠ []) (n : Nat) (hn : rlN (byt l 0) = n) (hn1 : 1 <= n) (hl : n <= l.length) (hb : ∀ k, 1 <= k -> k < n -> byt l k / 64 = 2) :
  dec l = if widI (acc l (n - 1)) = n then ((acc l (n - 1)).toNat, n) else (65533, 1) := by
 rw [dec_numbers l h]
 have h4 : rlN (byt l 0) <= 4 := by unfold rlN; omega
 have hn4 : n = 1 \/ n = 2 \/ n = 3 \/ n = 4 := by omega
 have g0 := (l.getD 0 0).toNat_lt
 have g1 := (l.getD 1 0).toNat_lt
 have g2 := (l.getD 2 0).toNat_lt
 have g3 := (l.getD 3 0).toNat_lt
 rcases hn4 with rfl | rfl | rfl | rfl
 ·simp only [Nat.sub_self, acc]
  unfold rlN byt at hn
  unfold byt
  generalize (l.getD 0 0).toNat = b0 at *
  have hb0 : b0 < 128 := by omega
  have e1 : rlB b0 = b0 := by unfold rlB; omega
  have e2 : widI b0 = 1 := by simp [widI, isR]; omega
  rw [e1, e2]
  unfold Lib.decodeN
  rw [if_pos hb0]
  simp
 ·have hb1 := hb 1 (by omega) (by omega)
  simp only [Nat.reduceSub, acc]
  unfold rlN byt at hn
  unfold byt at hb1 ⊢
  simp only [Nat.zero_add] at *
  generalize (l.getD 0 0).toNat = b0 at *
  generalize (l.getD 1 0).toNat = b1 at *
  have e1 : rlB b0 = (b0 : Int) % 32 := by unfold rlB; omega
  rw [e1]
  unfold Lib.decodeN widI isR
  simp
  repeat' split
  all_goals first | rfl | (exfalso; omega) | (simp; omega)
 ·have hb1 := hb 1 (by omega) (by omega)
  have hb2 := hb 2 (by omega) (by omega)
  simp only [Nat.reduceSub, acc]
  unfold rlN byt at hn
  unfold byt at hb1 hb2 ⊢
  simp only [Nat.zero_add, Nat.reduceAdd] at *
  generalize (l.getD 0 0).toNat = b0 at *
  generalize (l.getD 1 0).toNat = b1 at *
  generalize (l.getD 2 0).toNat = b2 at *
  have e1 : rlB b0 = (b0 : Int) % 16 := by unfold rlB; omega
  rw [e1]; have e2 : ((b0 : Int) % 16 * 64 + (b1 : Int) % 64) * 64 + (b2 : Int) % 64 = ((b0 % 16 * 4096 + b1 % 64 * 64 + b2 % 64 : Nat) : Int) := by omega
  rw [e2]
  unfold Lib.decodeN
  rw [if_neg (by omega), if_neg (by omega), if_pos (by omega)]
  have hx : b0 % 16 * 4096 + b1 % 64 * 64 + b2 % 64 < 65536 := by omega
  generalize b0 % 16 * 4096 + b1 % 64 * 64 + b2 % 64 = x at *
  exact wid_pick3 x hx
 ·have hb1 := hb 1 (by omega) (by omega)
  have hb2 := hb 2 (by omega) (by omega)
  have hb3 := hb 3 (by omega) (by omega)
  simp only [Nat.reduceSub, acc]
  unfold rlN byt at hn
  unfold byt at hb1 hb2 hb3 ⊢
  simp only [Nat.zero_add, Nat.reduceAdd] at *
  generalize (l.getD 0 0).toNat = b0 at *
  generalize (l.getD 1 0).toNat = b1 at *
  generalize (l.getD 2 0).toNat = b2 at *
  generalize (l.getD 3 0).toNat = b3 at *
  have e1 : rlB b0 = (b0 : Int) % 8 := by unfold rlB; omega
  rw [e1]; have e2 : (((b0 : Int) % 8 * 64 + (b1 : Int) % 64) * 64 + (b2 : Int) % 64) * 64 + (b3 : Int) % 64 = ((b0 % 8 * 262144 + b1 % 64 * 4096 + b2 % 64 * 64 + b3 % 64 : Nat) : Int) := by omega
  rw [e2]
  unfold Lib.decodeN
  rw [if_neg (by omega), if_neg (by omega), if_neg (by omega), if_pos (by omega)]
  generalize b0 % 8 * 262144 + b1 % 64 * 4096 + b2 % 64 * 64 + b3 % 64 = x at *
  exact wid_pick4 x
end Go.Proofs.YtdpohgoikbeplaaGreatDoor.Rf
namespace Go.Proofs.YtdpohgoikbeplaaGreatDoor.Rf
open Go.RowKit
theorem ret2 {a a' b b' : Int} (h1 : a = a') (h2 : b = b') : Ending.returned (Value.tuple #[.int .i64 a, .int .i32 b]) = .returned (.tuple #[.int .i64 a', .int .i32 b']) := by rw [h1, h2]
set_option maxHeartbeats 400000 in
theorem rlead_any (c : Int) (w : World) (h0 : 0 <= c) (h9 : c < 256) :
  Calls Tryz.prog 129 #[.int .u8 c] w fun e w' => e = .returned (.tuple #[.int .i64 (rlN c), .int .i32 (rlB c)]) /\ w' = w := by
 by_cases h1 : c < 128
 ·go_enter Tryz.func129, Tryz.ntmps129
  go_wp2
  go_ret2; exact ⟨ret2 (by unfold rlN; omega) (by unfold rlB; omega), rfl⟩
 by_cases h2 : c < 192
 ·go_enter Tryz.func129, Tryz.ntmps129
  go_wp2
  go_ret2; exact ⟨ret2 (by unfold rlN; omega) (by unfold rlB; omega), rfl⟩
 by_cases h3 : c < 224
 ·go_enter Tryz.func129, Tryz.ntmps129
  go_wp2
  go_ret2; exact ⟨ret2 (by unfold rlN; omega) (by unfold rlB; omega), rfl⟩
 by_cases h4 : c < 240
 ·go_enter Tryz.func129, Tryz.ntmps129
  go_wp2
  go_ret2; exact ⟨ret2 (by unfold rlN; omega) (by unfold rlB; omega), rfl⟩
 by_cases h5 : c < 248
 ·go_enter Tryz.func129, Tryz.ntmps129
  go_wp2
  go_ret2; exact ⟨ret2 (by unfold rlN; omega) (by unfold rlB; omega), rfl⟩
 ·go_enter Tryz.func129, Tryz.ntmps129
  go_wp2
  go_ret2; exact ⟨ret2 (by unfold rlN; omega) (by unfold rlB; omega), rfl⟩
theorem rlead_eq (c n r : Int) (w : World) (h0 : 0 <= c) (h9 : c < 256) (hn : rlN c = n) (hr : rlB c = r) :
  Calls Tryz.prog 129 #[.int .u8 c] w fun e w' => e = .returned (.tuple #[.int .i64 n, .int .i32 r]) /\ w' = w := by
 subst hn; subst hr
 exact rlead_any c w h0 h9
theorem cont_test (b : Int) (h0 : 0 <= b) (h1 : b < 256) : (bits BinOp.and IntKind.u8 b 192 != 128) = !decide (b / 64 = 2) := by
 rw [Lib.runeStart_of b h0 h1]
 unfold Lib.runeStart
 by_cases h : b / 64 = 2 <;> simp [h]
set_option maxHeartbeats 400000 in
theorem rune_any (r : Int) (w : World) :
  Calls Tryz.prog 150 #[.int .i32 r] w fun e w' => e = .returned (.bool (isR r)) /\ w' = w := by
 by_cases h1 : 0 <= r
 ·by_cases h2 : r <= 1114111
  ·by_cases h3 : r < 55296
   ·have HR := hid (show isR r = true by simp [isR, h1, h2, h3])
    go_enter Tryz.func150, Tryz.ntmps150
    go_wp2
    go_ret; exact ⟨by rw [HR.out]; rfl, rfl⟩
   ·by_cases h4 : 57343 < r
    ·have HR := hid (show isR r = true by simp [isR, h1, h2, h4])
     go_enter Tryz.func150, Tryz.ntmps150
     go_wp2
     go_ret; exact ⟨by rw [HR.out]; rfl, rfl⟩
    ·have HR := hid (show isR r = false by simp [isR, h3, h4])
     go_enter Tryz.func150, Tryz.ntmps150
     go_wp2
     go_ret; exact ⟨by rw [HR.out]; rfl, rfl⟩
  ·have HR := hid (show isR r = false by simp [isR, h2])
   go_enter Tryz.func150, Tryz.ntmps150
   go_wp2
   go_ret; exact ⟨by rw [HR.out]; rfl, rfl⟩
 ·have HR := hid (show isR r = false by simp [isR, h1])
  go_enter Tryz.func150, Tryz.ntmps150
  go_wp2
  go_ret; exact ⟨by rw [HR.out]; rfl, rfl⟩
set_option maxHeartbeats 400000 in
theorem width_any (r : Int) (w : World) :
  Calls Tryz.prog 130 #[.int .i32 r] w fun e w' => e = .returned (.int .i64 (widI r)) /\ w' = w := by
 cases hr : isR r with
 | false =>
  have HW := hid (show widI r = 0 by simp [widI, hr])
  go_enter Tryz.func130, Tryz.ntmps130
  go_wp2_with (go_at_call 150; refine (rune_any _ _).mono ?_; rintro e w' ⟨rfl, rfl⟩)
  go_ret; exact ⟨by rw [HW.out]; rfl, rfl⟩
 | true =>
  have hw : widI r = if r < 128 then 1 else if r < 2048 then 2 else if r < 65536 then 3 else 4 := by simp [widI, hr]
  by_cases h1 : r < 128
  ·have HW := hid (show widI r = 1 by rw [hw]; omega)
   clear hw
   go_enter Tryz.func130, Tryz.ntmps130
   go_wp2_with (go_at_call 150; refine (rune_any _ _).mono ?_; rintro e w' ⟨rfl, rfl⟩)
   go_ret; exact ⟨by rw [HW.out]; rfl, rfl⟩
  by_cases h2 : r < 2048
  ·have HW := hid (show widI r = 2 by rw [hw]; omega)
   clear hw
   go_enter Tryz.func130, Tryz.ntmps130
   go_wp2_with (go_at_call 150; refine (rune_any _ _).mono ?_; rintro e w' ⟨rfl, rfl⟩)
   go_ret; exact ⟨by rw [HW.out]; rfl, rfl⟩
  by_cases h3 : r < 65536
  ·have HW := hid (show widI r = 3 by rw [hw]; omega)
   clear hw
   go_enter Tryz.func130, Tryz.ntmps130
   go_wp2_with (go_at_call 150; refine (rune_any _ _).mono ?_; rintro e w' ⟨rfl, rfl⟩)
   go_ret; exact ⟨by rw [HW.out]; rfl, rfl⟩
  ·have HW := hid (show widI r = 4 by rw [hw]; omega)
   clear hw
   go_enter Tryz.func130, Tryz.ntmps130
   go_wp2_with (go_at_call 150; refine (rune_any _ _).mono ?_; rintro e w' ⟨rfl, rfl⟩)
   go_ret; exact ⟨by rw [HW.out]; rfl, rfl⟩
set_option maxHeartbeats 400000 in
theorem rdec_any (l : List UInt8) (w : World) (hl : l.length <= 1000000000000) :
  Calls Tryz.prog 113 #[.string ⟨l.toArray⟩] w fun e w' => e = .returned (.tuple #[.int .i32 (dec l).1, .int .i64 (dec l).2]) /\ w' = w := by
 by_cases h : l = []
 ·subst h
  go_enter Tryz.func113, Tryz.ntmps113
  go_wp2
  go_ret2; exact ⟨rfl, rfl⟩
 have h1 : 1 <= l.length := by cases l with | nil => exact absurd rfl h | cons => simp
 have hsz : 0 < (⟨l.toArray⟩ : ByteArray).size := by show 0 < l.toArray.size; simp; omega
 obtain ⟨b0, b1⟩ := byt_bd l 0
 have he := byt_eq l 0 hsz
 have hl0 : ((l.length : Int) == 0) = false := beq_eq_false_iff_ne.2 (by omega)
 obtain ⟨c, hc⟩ : ∃ c, c = byt l 0 := ⟨_, rfl⟩
 rw [<- hc] at he b0 b1
 have HC := hid hc
 clear hc
 have hn4 : 0 <= rlN c /\ rlN c <= 4 := by unfold rlN; omega
 by_cases hz : rlN c = 0
 ·have HD := hid (dec_short l h (Or.inl (by rw [<- HC.out]; exact hz)))
  have hz' : (rlN c == 0) = true := beq_iff_eq.2 hz
  clear hz
  go_enter Tryz.func113, Tryz.ntmps113
  go_wp2_with (go_at_call 129; refine (rlead_any _ _ b0 b1).mono ?_; rintro e w' ⟨rfl, rfl⟩)
  go_ret2; exact ⟨by rw [HD.out]; rfl, rfl⟩
 have hz' : (rlN c == 0) = false := beq_eq_false_iff_ne.2 hz
 by_cases hs : (l.length : Int) < rlN c
 ·have HD := hid (dec_short l h (Or.inr (by rw [<- HC.out]; exact hs)))
  clear hz
  go_enter Tryz.func113, Tryz.ntmps113
  go_wp2_with (go_at_call 129; refine (rlead_any _ _ b0 b1).mono ?_; rintro e w' ⟨rfl, rfl⟩)
  go_ret2; exact ⟨by rw [HD.out]; rfl, rfl⟩
 obtain ⟨n, hn⟩ : ∃ n : Nat, rlN c = n := ⟨(rlN c).toNat, by omega⟩
 have HN := hid hn
 have hnl : n <= l.length := by omega
 have hn1 : 1 <= n := by omega
 have hn5 : n <= 4 := by omega
 have hacc0 : rlB c = acc l 0 := by rw [HC.out]; rfl
 have HA0 := hid hacc0
 clear hz hs hacc0 hn hz' hn4
 go_enter Tryz.func113, Tryz.ntmps113
 have hnl' : ¬ (l.length : Int) < (n : Int) := by omega
 have hn0' : ((n : Int) == 0) = false := beq_eq_false_iff_ne.2 (by omega)
 go_wp2_with (go_at_call 129; refine (rlead_eq _ _ _ _ b0 b1 HN.out HA0.out).mono ?_; rintro e w' ⟨rfl, rfl⟩)
 go_loop [5, 6] (fun r i => ∃ k : Nat, k + 1 <= n /\ i = .int .i64 ((k : Int) + 1) /\ r = .int .i32 (acc l k) /\ Hid (∀ j, 1 <= j -> j < k + 1 -> byt l j / 64 = 2)) (fun _ i => n - (intOf i).toNat)
 case atStart => exact ⟨0, by omega, by simp, rfl, fun j h1 h2 => by omega⟩
 case round =>
  obtain ⟨k, hk, rfl, rfl, HB⟩ := hrel
  by_cases hlt : k + 1 < n
  ·have hlt' : ((k : Int) + 1) < n := by omega
   have hsk : k + 1 < (⟨l.toArray⟩ : ByteArray).size := by show k + 1 < l.toArray.size; simp; omega
   have hek := byt_eq l (k + 1) hsk
   obtain ⟨d, hd⟩ : ∃ d, d = byt l (k + 1) := ⟨_, rfl⟩
   obtain ⟨d0, d1⟩ := byt_bd l (k + 1)
   rw [<- hd] at d0 d1 hek
   have hct := cont_test d d0 d1
   have hab := acc_bd l k
   have hk2 : k <= 2 := by omega
   have hab1 : acc l k < 524288 := by
    have : k = 0 \/ k = 1 \/ k = 2 := by omega
    rcases this with rfl | rfl | rfl <;> omega
   have hab0 := hab.1
   have HDD := hid hd
   clear hab hd
   by_cases hcn : d / 64 = 2
   ·have HX := hid (show acc l (k + 1) = acc l k * 64 + d % 64 by rw [HDD.out]; rfl)
    have HB2 := hid (show ∀ j, 1 <= j -> j < k + 1 + 1 -> byt l j / 64 = 2 from fun j h1 h2 => by
     by_cases e : j = k + 1
     ·rw [e, <- HDD.out]; exact hcn
     ·exact HB.out j h1 (by omega))
    simp only [hcn, decide_true, Bool.not_true] at hct
    clear hcn
    generalize acc l k = a at *
    go_wp2
    go_round
    case rel => exact ⟨k + 1, by omega, by go_num, by rw [HX.out], HB2⟩
    case measure => simp [intOf]; omega
   ·have HD := hid (dec_fail l h (k + 1) (by omega) (by rw [<- HC.out, HN.out]; omega) (by rw [<- HDD.out]; exact hcn))
    simp only [hcn, decide_false, Bool.not_false] at hct
    clear hcn
    go_wp2
    go_ret2; exact ⟨by rw [HD.out]; rfl, rfl⟩
  ·have hke : k = n - 1 := by omega
   have hge : ¬ ((k : Int) + 1) < n := by omega
   have hD := dec_end l h n (by rw [<- HC.out]; exact HN.out) hn1 hnl (fun j h1 h2 => HB.out j h1 (by omega))
   rw [<- hke] at hD
   clear hke
   by_cases hw : widI (acc l k) = n
   ·rw [if_pos hw] at hD
    have HD := hid hD
    have hw' : (widI (acc l k) != (n : Int)) = false := by simp [hw]
    have hab := (acc_bd l k).1
    clear hD hw
    go_wp2_with (go_at_call 130; refine (width_any _ _).mono ?_; rintro e w' ⟨rfl, rfl⟩)
    go_ret2; exact ⟨by rw [HD.out]; simp [Int.toNat_of_nonneg hab], rfl⟩
   ·rw [if_neg hw] at hD
    have HD := hid hD
    have hw' : (widI (acc l k) != (n : Int)) = true := by simp [hw]
    clear hD hw
    go_wp2_with (go_at_call 130; refine (width_any _ _).mono ?_; rintro e w' ⟨rfl, rfl⟩)
    go_ret2; exact ⟨by rw [HD.out]; rfl, rfl⟩
end Go.Proofs.YtdpohgoikbeplaaGreatDoor.Rf
