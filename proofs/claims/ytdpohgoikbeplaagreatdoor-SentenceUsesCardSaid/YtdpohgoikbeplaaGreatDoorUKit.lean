/- Kit, SnCls, SnTxt, SnEdge, SnHas, SnMath, SnFun1, RfMk2, RfEdg, RfMr: parts of the proof, joined. -/
import Derived.RangeFuncNested
import Derived.RangeFuncBound
import Derived.Shelf.RegionOpen
import Derived.OwnWalkIn
import Derived.LoopNIn
import Derived.LoopIn
import Derived.Test.YtdpohgoikbeplaaGreatDoorUBase
namespace Go.Proofs.YtdpohgoikbeplaaGreatDoor.Wt
open Go.RowKit Go.Shelf
structure TbW (w : World) : Prop where
 tabs : Lib.Utf8Tabs 1 2 w
 two : 3 <= w.heap.size
theorem TbW.below {w w' : World} (h : TbW w) (hb : Below w.heap.size w w') : TbW w' := ⟨tabs_below h.tabs h.two hb, Nat.le_trans h.two hb.size⟩
theorem wtake (l : List UInt8) (t : Nat) : (⟨l.toArray⟩ : ByteArray).extract 0 t = ⟨(l.take t).toArray⟩ := by
 apply ByteArray.ext
 simp [ByteArray.data_extract]
def wstrLen : Value -> Nat
 | .string s => s.size
 | _ => 0
theorem wnext_at {P : Program} (w : World) (it : Nat) (s : ByteArray) (pos : Nat) (ty : TypeId) (hit : w.heap[it]? = some (.stringIter s pos)) (h : pos < s.size) :
  (Instr.next (.pointer (some ⟨it, 0, none⟩)) true ty).run P w = .ok (.tuple #[.bool true, .int .i64 pos, .int .i32 (Utf8.decode s pos).1]) (w.putObj it (.stringIter s (pos + (Utf8.decode s pos).2))) := by
 simp [Instr.next, getObj, setObj, Sem.run_bind, Sem.run, hit, Result.andThen, h, goInt, World.putObj]
theorem wnext_stop {P : Program} (w : World) (it : Nat) (s : ByteArray) (pos : Nat) (ty : TypeId) (hit : w.heap[it]? = some (.stringIter s pos)) (h : ¬ pos < s.size) :
  (Instr.next (.pointer (some ⟨it, 0, none⟩)) true ty).run P w = .ok (.tuple #[.bool false]) w := by
 simp [Instr.next, getObj, Sem.run, hit, h]
def KrW (K : Nat -> Prop) (W W' : World) : Prop := KeepsWalks W W' /\ ∀ k, K k -> W'.heap[k]? = W.heap[k]?
theorem KrW_t {K : Nat -> Prop} {A B C : World} (h : KrW K A B) (k : KrW K B C) : KrW K A C := ⟨h.1.trans k.1, fun i h1 => (k.2 i h1).trans (h.2 i h1)⟩
theorem KrW_b {K : Nat -> Prop} {w : World} (hw : ∀ k, K k -> k < w.heap.size) (W : World) (l : Nat) (o o' : Obj) (hl : w.heap.size <= l) (h : W.heap[l]? = some o) (_ : o.isCells = false) (hk : o.isWalk = false) : KrW K W (W.putObj l o') :=
 ⟨KeepsWalks.putObj _ h hk, fun k h2 => World.putObj_heap_other (by have := hw k h2; omega)⟩
theorem wgrown {w w' : World} (h : Below w.heap.size w w') : w.grownBy w' none := ⟨h.os, h.tape, h.output, h.size, fun k hk _ => h.block k hk⟩
def KW (Bs k : Nat) : Prop := k = Bs \/ k < 3
structure WaAt (Bs : Nat) (l : List UInt8) (w : World) : Prop where
 bs : Boxed w Bs 9 (.string ⟨l.toArray⟩)
 tb : TbW w
theorem WaAt.lt {Bs : Nat} {l : List UInt8} {w : World} (h : WaAt Bs l w) : ∀ k, KW Bs k -> k < w.heap.size := fun k hk => by
 rcases hk with rfl | hk
 ·exact h.bs.lt
 ·exact Nat.lt_of_lt_of_le hk h.tb.two
theorem WaAt.keeps {Bs : Nat} {l : List UInt8} {w w' : World} (h : WaAt Bs l w) (hs : w.heap.size <= w'.heap.size) (hk : ∀ k, KW Bs k -> w'.heap[k]? = w.heap[k]?) : WaAt Bs l w' where
 bs := (hk Bs (.inl rfl)).trans h.bs
 tb := ⟨⟨fun c hc => (World.cell?_of_block (w := w) (a := ⟨1, c, none⟩) (hk 1 (.inr (by decide)))).trans (h.tb.tabs.1 c hc), fun i hi => ⟨(World.cell?_of_block (w := w) (a := ⟨2, 2 * i, none⟩) (hk 2 (.inr (by decide)))).trans (h.tb.tabs.2 i hi).1, (World.cell?_of_block (w := w) (a := ⟨2, 2 * i + 1, none⟩) (hk 2 (.inr (by decide)))).trans (h.tb.tabs.2 i hi).2⟩⟩, Nat.le_trans h.tb.two hs⟩
theorem WaAt.below {Bs : Nat} {l : List UInt8} {w w' : World} (h : WaAt Bs l w) (hb : Below w.heap.size w w') : WaAt Bs l w' :=
 h.keeps hb.size (fun k h2 => hb.block k (h.lt k h2))
theorem Tryz.info3 : (Tryz.prog.info? 3).map (fun i => (i.zero, i.size, i.bytes)) = some (some (.int .i64 0), 1, 8) := by kernel_rfl
theorem waAt_from {β : Type} (B Bs : Nat) (l : List UInt8) (hB : 3 <= B) : OwnFrom B (fun (_ : β) W => WaAt Bs l W) := fun _ A C row h hg hr => by
 refine h.keeps hg.size fun k hk => hg.block k (h.lt k hk) fun e => ?_
 obtain ⟨hle, o, ho, hc⟩ := hr k e.symm
 rcases hk with rfl | hk
 ·have := h.bs; unfold Boxed at this; rw [this] at ho; cases ho; cases hc
 ·omega
end Go.Proofs.YtdpohgoikbeplaaGreatDoor.Wt
namespace Go.Proofs.YtdpohgoikbeplaaGreatDoor.Sn
open Wt
open Go.RowKit
theorem snin_yes (r lo hi : Int) (w : World) (h : lo <= r /\ r <= hi) : Calls Tryz.prog 114 #[.int .i32 r, .int .i32 lo, .int .i32 hi] w fun e w' => e = .returned (.bool true) /\ w' = w := by
 obtain ⟨h1, h2⟩ := h
 go_enter Tryz.func114, Tryz.ntmps114
 go_wp2
 go_ret
 exact ⟨rfl, rfl⟩
theorem snin_no (r lo hi : Int) (w : World) (h : ¬ (lo <= r /\ r <= hi)) : Calls Tryz.prog 114 #[.int .i32 r, .int .i32 lo, .int .i32 hi] w fun e w' => e = .returned (.bool false) /\ w' = w := by
 by_cases h1 : lo <= r
 ·have h2 : ¬ r <= hi := fun h2 => h ⟨h1, h2⟩
  clear h
  go_enter Tryz.func114, Tryz.ntmps114
  go_wp2
  go_ret; exact ⟨rfl, rfl⟩
 ·clear h
  go_enter Tryz.func114, Tryz.ntmps114
  go_wp2
  go_ret; exact ⟨rfl, rfl⟩
def snascii (r : Int) : Int :=
 if 97 <= r /\ r <= 122 then 5 else if 65 <= r /\ r <= 90 then 6 else if 48 <= r /\ r <= 57 then 8 else if r = 13 then 1 else if r = 10 then 2 else if r = 32 then 4 else if r = 9 then 4 else if r = 11 then 4 else if r = 12 then 4 else if r = 46 then 9 else if r = 33 then 10 else if r = 63 then 10 else if r = 34 then 11 else if r = 39 then 11 else if r = 40 then 11 else if r = 41 then 11 else if r = 91 then 11 else if r = 93 then 11 else if r = 123 then 11 else if r = 125 then 11 else if r = 44 then 12 else if r = 45 then 12 else if r = 58 then 12 else 0
set_option maxHeartbeats 4000000 in
theorem snascii_any (r : Int) (w : World) : Calls Tryz.prog 90 #[.int .i32 r] w fun e w' => e = .returned (.int .i64 (snascii r)) /\ w' = w := by
 rcases Classical.em (97 <= r /\ r <= 122) with h0 | h0
 have u0 := h0.1
 have v0 := h0.2
 rotate_left
 rcases Classical.em (65 <= r /\ r <= 90) with h1 | h1
 have u1 := h1.1
 have v1 := h1.2
 rotate_left
 rcases Classical.em (48 <= r /\ r <= 57) with h2 | h2
 have u2 := h2.1
 have v2 := h2.2
 rotate_left
 rcases Classical.em (r = 13) with h3 | h3
 subst h3
 rotate_left
 have b3 := beq_eq_false_iff_ne.2 h3
 rcases Classical.em (r = 10) with h4 | h4
 subst h4
 rotate_left
 have b4 := beq_eq_false_iff_ne.2 h4
 rcases Classical.em (r = 32) with h5 | h5
 subst h5
 rotate_left
 have b5 := beq_eq_false_iff_ne.2 h5
 rcases Classical.em (r = 9) with h6 | h6
 subst h6
 rotate_left
 have b6 := beq_eq_false_iff_ne.2 h6
 rcases Classical.em (r = 11) with h7 | h7
 subst h7
 rotate_left
 have b7 := beq_eq_false_iff_ne.2 h7
 rcases Classical.em (r = 12) with h8 | h8
 subst h8
 rotate_left
 have b8 := beq_eq_false_iff_ne.2 h8
 rcases Classical.em (r = 46) with h9 | h9
 subst h9
 rotate_left
 have b9 := beq_eq_false_iff_ne.2 h9
 rcases Classical.em (r = 33) with h10 | h10
 subst h10
 rotate_left
 have b10 := beq_eq_false_iff_ne.2 h10
 rcases Classical.em (r = 63) with h11 | h11
 subst h11
 rotate_left
 have b11 := beq_eq_false_iff_ne.2 h11
 rcases Classical.em (r = 34) with h12 | h12
 subst h12
 rotate_left
 have b12 := beq_eq_false_iff_ne.2 h12
 rcases Classical.em (r = 39) with h13 | h13
 subst h13
 rotate_left
 have b13 := beq_eq_false_iff_ne.2 h13
 rcases Classical.em (r = 40) with h14 | h14
 subst h14
 rotate_left
 have b14 := beq_eq_false_iff_ne.2 h14
 rcases Classical.em (r = 41) with h15 | h15
 subst h15
 rotate_left
 have b15 := beq_eq_false_iff_ne.2 h15
 rcases Classical.em (r = 91) with h16 | h16
 subst h16
 rotate_left
 have b16 := beq_eq_false_iff_ne.2 h16
 rcases Classical.em (r = 93) with h17 | h17
 subst h17
 rotate_left
 have b17 := beq_eq_false_iff_ne.2 h17
 rcases Classical.em (r = 123) with h18 | h18
 subst h18
 rotate_left
 have b18 := beq_eq_false_iff_ne.2 h18
 rcases Classical.em (r = 125) with h19 | h19
 subst h19
 rotate_left
 have b19 := beq_eq_false_iff_ne.2 h19
 rcases Classical.em (r = 44) with h20 | h20
 subst h20
 rotate_left
 have b20 := beq_eq_false_iff_ne.2 h20
 rcases Classical.em (r = 45) with h21 | h21
 subst h21
 rotate_left
 have b21 := beq_eq_false_iff_ne.2 h21
 rcases Classical.em (r = 58) with h22 | h22
 subst h22
 rotate_left
 have b22 := beq_eq_false_iff_ne.2 h22
 all_goals (
  go_enter Tryz.func90, Tryz.ntmps90
  go_wp2_with (first | (go_at_call 114; (first | refine (snin_yes _ _ _ _ (by omega)).mono ?_ | refine (snin_no _ _ _ _ (by omega)).mono ?_); rintro e w1 ⟨rfl, hw1⟩; obtain rfl := hw1.symm; clear hw1))
  go_ret; exact ⟨by unfold snascii; repeat (first | rw [if_pos (by omega)] | rw [if_neg (by omega)] | rfl), rfl⟩)
def snlatin (r : Int) : Int :=
 if r = 133 then 3 else if r = 160 then 4 else if r = 170 then 7 else if r = 186 then 7 else if r = 171 then 11 else if r = 187 then 11 else if r = 173 then 13 else if 192 <= r /\ r <= 214 then 6 else if 216 <= r /\ r <= 222 then 6 else if r = 181 then 5 else if 223 <= r /\ r <= 246 then 5 else if 248 <= r /\ r <= 255 then 5 else 0
set_option maxHeartbeats 4000000 in
theorem snlatin_any (r : Int) (w : World) : Calls Tryz.prog 91 #[.int .i32 r] w fun e w' => e = .returned (.int .i64 (snlatin r)) /\ w' = w := by
 rcases Classical.em (r = 133) with h0 | h0
 subst h0
 rotate_left
 have b0 := beq_eq_false_iff_ne.2 h0
 rcases Classical.em (r = 160) with h1 | h1
 subst h1
 rotate_left
 have b1 := beq_eq_false_iff_ne.2 h1
 rcases Classical.em (r = 170) with h2 | h2
 subst h2
 rotate_left
 have b2 := beq_eq_false_iff_ne.2 h2
 rcases Classical.em (r = 186) with h3 | h3
 subst h3
 rotate_left
 have b3 := beq_eq_false_iff_ne.2 h3
 rcases Classical.em (r = 171) with h4 | h4
 subst h4
 rotate_left
 have b4 := beq_eq_false_iff_ne.2 h4
 rcases Classical.em (r = 187) with h5 | h5
 subst h5
 rotate_left
 have b5 := beq_eq_false_iff_ne.2 h5
 rcases Classical.em (r = 173) with h6 | h6
 subst h6
 rotate_left
 have b6 := beq_eq_false_iff_ne.2 h6
 rcases Classical.em (192 <= r /\ r <= 214) with h7 | h7
 have u7 := h7.1
 have v7 := h7.2
 rotate_left
 rcases Classical.em (216 <= r /\ r <= 222) with h8 | h8
 have u8 := h8.1
 have v8 := h8.2
 rotate_left
 rcases Classical.em (r = 181) with h9 | h9
 subst h9
 rotate_left
 have b9 := beq_eq_false_iff_ne.2 h9
 rcases Classical.em (223 <= r /\ r <= 246) with h10 | h10
 have u10 := h10.1
 have v10 := h10.2
 rotate_left
 rcases Classical.em (248 <= r /\ r <= 255) with h11 | h11
 have u11 := h11.1
 have v11 := h11.2
 rotate_left
 all_goals (
  go_enter Tryz.func91, Tryz.ntmps91
  go_wp2_with (first | (go_at_call 114; (first | refine (snin_yes _ _ _ _ (by omega)).mono ?_ | refine (snin_no _ _ _ _ (by omega)).mono ?_); rintro e w1 ⟨rfl, hw1⟩; obtain rfl := hw1.symm; clear hw1))
  go_ret; exact ⟨by unfold snlatin; repeat (first | rw [if_pos (by omega)] | rw [if_neg (by omega)] | rfl), rfl⟩)
def sneuropean (r : Int) : Int :=
 if r <= 879 then 13 else if 1155 <= r /\ r <= 1161 then 13 else if 913 <= r /\ r <= 929 then 6 else if 931 <= r /\ r <= 937 then 6 else if 1024 <= r /\ r <= 1071 then 6 else if 945 <= r /\ r <= 969 then 5 else if 1072 <= r /\ r <= 1119 then 5 else 0
set_option maxHeartbeats 4000000 in
theorem sneuropean_any (r : Int) (w : World) : Calls Tryz.prog 92 #[.int .i32 r] w fun e w' => e = .returned (.int .i64 (sneuropean r)) /\ w' = w := by
 rcases Classical.em (r <= 879) with h0 | h0
 rotate_left
 rcases Classical.em (1155 <= r /\ r <= 1161) with h1 | h1
 have u1 := h1.1
 have v1 := h1.2
 rotate_left
 rcases Classical.em (913 <= r /\ r <= 929) with h2 | h2
 have u2 := h2.1
 have v2 := h2.2
 rotate_left
 rcases Classical.em (931 <= r /\ r <= 937) with h3 | h3
 have u3 := h3.1
 have v3 := h3.2
 rotate_left
 rcases Classical.em (1024 <= r /\ r <= 1071) with h4 | h4
 have u4 := h4.1
 have v4 := h4.2
 rotate_left
 rcases Classical.em (945 <= r /\ r <= 969) with h5 | h5
 have u5 := h5.1
 have v5 := h5.2
 rotate_left
 rcases Classical.em (1072 <= r /\ r <= 1119) with h6 | h6
 have u6 := h6.1
 have v6 := h6.2
 rotate_left
 all_goals (
  go_enter Tryz.func92, Tryz.ntmps92
  go_wp2_with (first | (go_at_call 114; (first | refine (snin_yes _ _ _ _ (by omega)).mono ?_ | refine (snin_no _ _ _ _ (by omega)).mono ?_); rintro e w1 ⟨rfl, hw1⟩; obtain rfl := hw1.symm; clear hw1))
  go_ret; exact ⟨by unfold sneuropean; repeat (first | rw [if_pos (by omega)] | rw [if_neg (by omega)] | rfl), rfl⟩)
def snsemitic (r : Int) : Int :=
 if r = 1373 then 12 else if r = 1548 then 12 else if r = 1549 then 12 else if r = 1417 then 10 else if r = 1567 then 10 else if r = 1748 then 10 else if 1488 <= r /\ r <= 1514 then 7 else if 1569 <= r /\ r <= 1610 then 7 else if 1611 <= r /\ r <= 1631 then 13 else if 1632 <= r /\ r <= 1641 then 8 else if 1776 <= r /\ r <= 1785 then 8 else 0
set_option maxHeartbeats 4000000 in
theorem snsemitic_any (r : Int) (w : World) : Calls Tryz.prog 93 #[.int .i32 r] w fun e w' => e = .returned (.int .i64 (snsemitic r)) /\ w' = w := by
 rcases Classical.em (r = 1373) with h0 | h0
 subst h0
 rotate_left
 have b0 := beq_eq_false_iff_ne.2 h0
 rcases Classical.em (r = 1548) with h1 | h1
 subst h1
 rotate_left
 have b1 := beq_eq_false_iff_ne.2 h1
 rcases Classical.em (r = 1549) with h2 | h2
 subst h2
 rotate_left
 have b2 := beq_eq_false_iff_ne.2 h2
 rcases Classical.em (r = 1417) with h3 | h3
 subst h3
 rotate_left
 have b3 := beq_eq_false_iff_ne.2 h3
 rcases Classical.em (r = 1567) with h4 | h4
 subst h4
 rotate_left
 have b4 := beq_eq_false_iff_ne.2 h4
 rcases Classical.em (r = 1748) with h5 | h5
 subst h5
 rotate_left
 have b5 := beq_eq_false_iff_ne.2 h5
 rcases Classical.em (1488 <= r /\ r <= 1514) with h6 | h6
 have u6 := h6.1
 have v6 := h6.2
 rotate_left
 rcases Classical.em (1569 <= r /\ r <= 1610) with h7 | h7
 have u7 := h7.1
 have v7 := h7.2
 rotate_left
 rcases Classical.em (1611 <= r /\ r <= 1631) with h8 | h8
 have u8 := h8.1
 have v8 := h8.2
 rotate_left
 rcases Classical.em (1632 <= r /\ r <= 1641) with h9 | h9
 have u9 := h9.1
 have v9 := h9.2
 rotate_left
 rcases Classical.em (1776 <= r /\ r <= 1785) with h10 | h10
 have u10 := h10.1
 have v10 := h10.2
 rotate_left
 all_goals (
  go_enter Tryz.func93, Tryz.ntmps93
  go_wp2_with (first | (go_at_call 114; (first | refine (snin_yes _ _ _ _ (by omega)).mono ?_ | refine (snin_no _ _ _ _ (by omega)).mono ?_); rintro e w1 ⟨rfl, hw1⟩; obtain rfl := hw1.symm; clear hw1))
  go_ret; exact ⟨by unfold snsemitic; repeat (first | rw [if_pos (by omega)] | rw [if_neg (by omega)] | rfl), rfl⟩)
def snindic (r : Int) : Int :=
 if 2308 <= r /\ r <= 2361 then 7 else if 3585 <= r /\ r <= 3632 then 7 else if 4352 <= r /\ r <= 4607 then 7 else if r = 2364 then 13 else if r = 2381 then 13 else if r = 2404 then 10 else if r = 2405 then 10 else if 2406 <= r /\ r <= 2415 then 8 else if r = 5760 then 4 else 0
set_option maxHeartbeats 4000000 in
theorem snindic_any (r : Int) (w : World) : Calls Tryz.prog 94 #[.int .i32 r] w fun e w' => e = .returned (.int .i64 (snindic r)) /\ w' = w := by
 rcases Classical.em (2308 <= r /\ r <= 2361) with h0 | h0
 have u0 := h0.1
 have v0 := h0.2
 rotate_left
 rcases Classical.em (3585 <= r /\ r <= 3632) with h1 | h1
 have u1 := h1.1
 have v1 := h1.2
 rotate_left
 rcases Classical.em (4352 <= r /\ r <= 4607) with h2 | h2
 have u2 := h2.1
 have v2 := h2.2
 rotate_left
 rcases Classical.em (r = 2364) with h3 | h3
 subst h3
 rotate_left
 have b3 := beq_eq_false_iff_ne.2 h3
 rcases Classical.em (r = 2381) with h4 | h4
 subst h4
 rotate_left
 have b4 := beq_eq_false_iff_ne.2 h4
 rcases Classical.em (r = 2404) with h5 | h5
 subst h5
 rotate_left
 have b5 := beq_eq_false_iff_ne.2 h5
 rcases Classical.em (r = 2405) with h6 | h6
 subst h6
 rotate_left
 have b6 := beq_eq_false_iff_ne.2 h6
 rcases Classical.em (2406 <= r /\ r <= 2415) with h7 | h7
 have u7 := h7.1
 have v7 := h7.2
 rotate_left
 rcases Classical.em (r = 5760) with h8 | h8
 subst h8
 rotate_left
 have b8 := beq_eq_false_iff_ne.2 h8
 all_goals (
  go_enter Tryz.func94, Tryz.ntmps94
  go_wp2_with (first | (go_at_call 114; (first | refine (snin_yes _ _ _ _ (by omega)).mono ?_ | refine (snin_no _ _ _ _ (by omega)).mono ?_); rintro e w1 ⟨rfl, hw1⟩; obtain rfl := hw1.symm; clear hw1))
  go_ret; exact ⟨by unfold snindic; repeat (first | rw [if_pos (by omega)] | rw [if_neg (by omega)] | rfl), rfl⟩)
def snpunct (r : Int) : Int :=
 if r <= 8202 then 4 else if r = 8239 then 4 else if r = 8287 then 4 else if r <= 8207 then 13 else if 8234 <= r /\ r <= 8238 then 13 else if 8288 <= r /\ r <= 8292 then 13 else if 8400 <= r /\ r <= 8432 then 13 else if r = 8211 then 12 else if r = 8212 then 12 else if 8216 <= r /\ r <= 8223 then 11 else if r = 8249 then 11 else if r = 8250 then 11 else if r = 8261 then 11 else if r = 8262 then 11 else if r = 8228 then 9 else if r = 8232 then 3 else if r = 8233 then 3 else if r = 8252 then 10 else if r = 8253 then 10 else if 8263 <= r /\ r <= 8265 then 10 else 0
set_option maxHeartbeats 4000000 in
theorem snpunct_any (r : Int) (w : World) : Calls Tryz.prog 95 #[.int .i32 r] w fun e w' => e = .returned (.int .i64 (snpunct r)) /\ w' = w := by
 rcases Classical.em (r <= 8202) with h0 | h0
 rotate_left
 rcases Classical.em (r = 8239) with h1 | h1
 subst h1
 rotate_left
 have b1 := beq_eq_false_iff_ne.2 h1
 rcases Classical.em (r = 8287) with h2 | h2
 subst h2
 rotate_left
 have b2 := beq_eq_false_iff_ne.2 h2
 rcases Classical.em (r <= 8207) with h3 | h3
 rotate_left
 rcases Classical.em (8234 <= r /\ r <= 8238) with h4 | h4
 have u4 := h4.1
 have v4 := h4.2
 rotate_left
 rcases Classical.em (8288 <= r /\ r <= 8292) with h5 | h5
 have u5 := h5.1
 have v5 := h5.2
 rotate_left
 rcases Classical.em (8400 <= r /\ r <= 8432) with h6 | h6
 have u6 := h6.1
 have v6 := h6.2
 rotate_left
 rcases Classical.em (r = 8211) with h7 | h7
 subst h7
 rotate_left
 have b7 := beq_eq_false_iff_ne.2 h7
 rcases Classical.em (r = 8212) with h8 | h8
 subst h8
 rotate_left
 have b8 := beq_eq_false_iff_ne.2 h8
 rcases Classical.em (8216 <= r /\ r <= 8223) with h9 | h9
 have u9 := h9.1
 have v9 := h9.2
 rotate_left
 rcases Classical.em (r = 8249) with h10 | h10
 subst h10
 rotate_left
 have b10 := beq_eq_false_iff_ne.2 h10
 rcases Classical.em (r = 8250) with h11 | h11
 subst h11
 rotate_left
 have b11 := beq_eq_false_iff_ne.2 h11
 rcases Classical.em (r = 8261) with h12 | h12
 subst h12
 rotate_left
 have b12 := beq_eq_false_iff_ne.2 h12
 rcases Classical.em (r = 8262) with h13 | h13
 subst h13
 rotate_left
 have b13 := beq_eq_false_iff_ne.2 h13
 rcases Classical.em (r = 8228) with h14 | h14
 subst h14
 rotate_left
 have b14 := beq_eq_false_iff_ne.2 h14
 rcases Classical.em (r = 8232) with h15 | h15
 subst h15
 rotate_left
 have b15 := beq_eq_false_iff_ne.2 h15
 rcases Classical.em (r = 8233) with h16 | h16
 subst h16
 rotate_left
 have b16 := beq_eq_false_iff_ne.2 h16
 rcases Classical.em (r = 8252) with h17 | h17
 subst h17
 rotate_left
 have b17 := beq_eq_false_iff_ne.2 h17
 rcases Classical.em (r = 8253) with h18 | h18
 subst h18
 rotate_left
 have b18 := beq_eq_false_iff_ne.2 h18
 rcases Classical.em (8263 <= r /\ r <= 8265) with h19 | h19
 have u19 := h19.1
 have v19 := h19.2
 rotate_left
 all_goals (
  go_enter Tryz.func95, Tryz.ntmps95
  go_wp2_with (first | (go_at_call 114; (first | refine (snin_yes _ _ _ _ (by omega)).mono ?_ | refine (snin_no _ _ _ _ (by omega)).mono ?_); rintro e w1 ⟨rfl, hw1⟩; obtain rfl := hw1.symm; clear hw1))
  go_ret; exact ⟨by unfold snpunct; repeat (first | rw [if_pos (by omega)] | rw [if_neg (by omega)] | rfl), rfl⟩)
def snkana (r : Int) : Int :=
 if r = 12288 then 4 else if r = 12289 then 12 else if r = 12290 then 10 else if 12296 <= r /\ r <= 12305 then 11 else if 12353 <= r /\ r <= 12438 then 7 else if 12449 <= r /\ r <= 12538 then 7 else 0
set_option maxHeartbeats 4000000 in
theorem snkana_any (r : Int) (w : World) : Calls Tryz.prog 96 #[.int .i32 r] w fun e w' => e = .returned (.int .i64 (snkana r)) /\ w' = w := by
 rcases Classical.em (r = 12288) with h0 | h0
 subst h0
 rotate_left
 have b0 := beq_eq_false_iff_ne.2 h0
 rcases Classical.em (r = 12289) with h1 | h1
 subst h1
 rotate_left
 have b1 := beq_eq_false_iff_ne.2 h1
 rcases Classical.em (r = 12290) with h2 | h2
 subst h2
 rotate_left
 have b2 := beq_eq_false_iff_ne.2 h2
 rcases Classical.em (12296 <= r /\ r <= 12305) with h3 | h3
 have u3 := h3.1
 have v3 := h3.2
 rotate_left
 rcases Classical.em (12353 <= r /\ r <= 12438) with h4 | h4
 have u4 := h4.1
 have v4 := h4.2
 rotate_left
 rcases Classical.em (12449 <= r /\ r <= 12538) with h5 | h5
 have u5 := h5.1
 have v5 := h5.2
 rotate_left
 all_goals (
  go_enter Tryz.func96, Tryz.ntmps96
  go_wp2_with (first | (go_at_call 114; (first | refine (snin_yes _ _ _ _ (by omega)).mono ?_ | refine (snin_no _ _ _ _ (by omega)).mono ?_); rintro e w1 ⟨rfl, hw1⟩; obtain rfl := hw1.symm; clear hw1))
  go_ret; exact ⟨by unfold snkana; repeat (first | rw [if_pos (by omega)] | rw [if_neg (by omega)] | rfl), rfl⟩)
def snhigh (r : Int) : Int :=
 if 19968 <= r /\ r <= 40959 then 7 else if 44032 <= r /\ r <= 55203 then 7 else if 65024 <= r /\ r <= 65039 then 13 else if r = 65279 then 13 else if 127995 <= r /\ r <= 127999 then 13 else if r = 65106 then 9 else if r = 65294 then 9 else if r = 65281 then 10 else if r = 65311 then 10 else if r = 65377 then 10 else if r = 65292 then 12 else if r = 65293 then 12 else if r = 65306 then 12 else 0
set_option maxHeartbeats 4000000 in
theorem snhigh_any (r : Int) (w : World) : Calls Tryz.prog 97 #[.int .i32 r] w fun e w' => e = .returned (.int .i64 (snhigh r)) /\ w' = w := by
 rcases Classical.em (19968 <= r /\ r <= 40959) with h0 | h0
 have u0 := h0.1
 have v0 := h0.2
 rotate_left
 rcases Classical.em (44032 <= r /\ r <= 55203) with h1 | h1
 have u1 := h1.1
 have v1 := h1.2
 rotate_left
 rcases Classical.em (65024 <= r /\ r <= 65039) with h2 | h2
 have u2 := h2.1
 have v2 := h2.2
 rotate_left
 rcases Classical.em (r = 65279) with h3 | h3
 subst h3
 rotate_left
 have b3 := beq_eq_false_iff_ne.2 h3
 rcases Classical.em (127995 <= r /\ r <= 127999) with h4 | h4
 have u4 := h4.1
 have v4 := h4.2
 rotate_left
 rcases Classical.em (r = 65106) with h5 | h5
 subst h5
 rotate_left
 have b5 := beq_eq_false_iff_ne.2 h5
 rcases Classical.em (r = 65294) with h6 | h6
 subst h6
 rotate_left
 have b6 := beq_eq_false_iff_ne.2 h6
 rcases Classical.em (r = 65281) with h7 | h7
 subst h7
 rotate_left
 have b7 := beq_eq_false_iff_ne.2 h7
 rcases Classical.em (r = 65311) with h8 | h8
 subst h8
 rotate_left
 have b8 := beq_eq_false_iff_ne.2 h8
 rcases Classical.em (r = 65377) with h9 | h9
 subst h9
 rotate_left
 have b9 := beq_eq_false_iff_ne.2 h9
 rcases Classical.em (r = 65292) with h10 | h10
 subst h10
 rotate_left
 have b10 := beq_eq_false_iff_ne.2 h10
 rcases Classical.em (r = 65293) with h11 | h11
 subst h11
 rotate_left
 have b11 := beq_eq_false_iff_ne.2 h11
 rcases Classical.em (r = 65306) with h12 | h12
 subst h12
 rotate_left
 have b12 := beq_eq_false_iff_ne.2 h12
 all_goals (
  go_enter Tryz.func97, Tryz.ntmps97
  go_wp2_with (first | (go_at_call 114; (first | refine (snin_yes _ _ _ _ (by omega)).mono ?_ | refine (snin_no _ _ _ _ (by omega)).mono ?_); rintro e w1 ⟨rfl, hw1⟩; obtain rfl := hw1.symm; clear hw1))
  go_ret; exact ⟨by unfold snhigh; repeat (first | rw [if_pos (by omega)] | rw [if_neg (by omega)] | rfl), rfl⟩)
def sncls (r : Int) : Int :=
 if r < 128 then snascii r else if r < 768 then snlatin r else if r < 1280 then sneuropean r else if r < 2304 then snsemitic r else if r < 8192 then snindic r else if r < 8448 then snpunct r else if r < 12544 then snkana r else snhigh r
theorem sncls_any (r : Int) (w : World) : Calls Tryz.prog 50 #[.int .i32 r] w fun e w' => e = .returned (.int .i64 (sncls r)) /\ w' = w := by
 by_cases h0 : r < 128
 ·have HV := hid (show sncls r = snascii r by unfold sncls; rw [if_pos h0])
  go_enter Tryz.func50, Tryz.ntmps50
  go_wp2_with fail
  refine (snascii_any r w).mono ?_
  rintro e w1 ⟨rfl, hw1⟩; obtain rfl := hw1.symm
  clear hw1
  go_wp2
  go_ret; exact ⟨by rw [HV.out]; rfl, rfl⟩
 by_cases h1 : r < 768
 ·have HV := hid (show sncls r = snlatin r by unfold sncls; rw [if_neg h0, if_pos h1])
  go_enter Tryz.func50, Tryz.ntmps50
  go_wp2_with fail
  refine (snlatin_any r w).mono ?_
  rintro e w1 ⟨rfl, hw1⟩; obtain rfl := hw1.symm
  clear hw1
  go_wp2
  go_ret; exact ⟨by rw [HV.out]; rfl, rfl⟩
 by_cases h2 : r < 1280
 ·have HV := hid (show sncls r = sneuropean r by unfold sncls; rw [if_neg h0, if_neg h1, if_pos h2])
  go_enter Tryz.func50, Tryz.ntmps50
  go_wp2_with fail
  refine (sneuropean_any r w).mono ?_
  rintro e w1 ⟨rfl, hw1⟩; obtain rfl := hw1.symm
  clear hw1
  go_wp2
  go_ret; exact ⟨by rw [HV.out]; rfl, rfl⟩
 by_cases h3 : r < 2304
 ·have HV := hid (show sncls r = snsemitic r by unfold sncls; rw [if_neg h0, if_neg h1, if_neg h2, if_pos h3])
  go_enter Tryz.func50, Tryz.ntmps50
  go_wp2_with fail
  refine (snsemitic_any r w).mono ?_
  rintro e w1 ⟨rfl, hw1⟩; obtain rfl := hw1.symm
  clear hw1
  go_wp2
  go_ret; exact ⟨by rw [HV.out]; rfl, rfl⟩
 by_cases h4 : r < 8192
 ·have HV := hid (show sncls r = snindic r by unfold sncls; rw [if_neg h0, if_neg h1, if_neg h2, if_neg h3, if_pos h4])
  go_enter Tryz.func50, Tryz.ntmps50
  go_wp2_with fail
  refine (snindic_any r w).mono ?_
  rintro e w1 ⟨rfl, hw1⟩; obtain rfl := hw1.symm
  clear hw1
  go_wp2
  go_ret; exact ⟨by rw [HV.out]; rfl, rfl⟩
 by_cases h5 : r < 8448
 ·have HV := hid (show sncls r = snpunct r by unfold sncls; rw [if_neg h0, if_neg h1, if_neg h2, if_neg h3, if_neg h4, if_pos h5])
  go_enter Tryz.func50, Tryz.ntmps50
  go_wp2_with fail
  refine (snpunct_any r w).mono ?_
  rintro e w1 ⟨rfl, hw1⟩; obtain rfl := hw1.symm
  clear hw1
  go_wp2
  go_ret; exact ⟨by rw [HV.out]; rfl, rfl⟩
 by_cases h6 : r < 12544
 ·have HV := hid (show sncls r = snkana r by unfold sncls; rw [if_neg h0, if_neg h1, if_neg h2, if_neg h3, if_neg h4, if_neg h5, if_pos h6])
  go_enter Tryz.func50, Tryz.ntmps50
  go_wp2_with fail
  refine (snkana_any r w).mono ?_
  rintro e w1 ⟨rfl, hw1⟩; obtain rfl := hw1.symm
  clear hw1
  go_wp2
  go_ret; exact ⟨by rw [HV.out]; rfl, rfl⟩
 have HV := hid (show sncls r = snhigh r by unfold sncls; rw [if_neg h0, if_neg h1, if_neg h2, if_neg h3, if_neg h4, if_neg h5, if_neg h6])
 go_enter Tryz.func50, Tryz.ntmps50
 go_wp2_with fail
 refine (snhigh_any r w).mono ?_
 rintro e w1 ⟨rfl, hw1⟩
 obtain rfl := hw1.symm
 clear hw1
 go_wp2
 go_ret
 exact ⟨by rw [HV.out]; rfl, rfl⟩
end Go.Proofs.YtdpohgoikbeplaaGreatDoor.Sn
namespace Go.Proofs.YtdpohgoikbeplaaGreatDoor.Sn
open Wt
def slast (l : List UInt8) : Int := sncls (decLast l).1
def sfirst (l : List UInt8) : Int := sncls (dec l).1
def shas (x : Nat) (c : Int) : Bool := bits BinOp.and IntKind.u32 ((x : Int) / 2 ^ c.toNat) 1 == 1
def fw (l : List UInt8) : List Int := (rl l).map fun x => sncls x.1
def bk (l : List UInt8) : List Int := (rl l).reverse.map fun x => sncls x.1
theorem fw_cons (l : List UInt8) (h : l ≠ []) : fw l = sfirst l :: fw (l.drop (dec l).2) := by unfold fw; rw [rl_cons l h]; rfl
theorem bk_cons (l : List UInt8) (h : l ≠ []) : bk l = slast l :: bk (ltl l) := by unfold bk; rw [rl_snoc l h]; simp [slast]
theorem sncls_0 : sncls 0 = 0 := by decide
theorem slast_nil : slast [] = 0 := sncls_0
theorem sfirst_nil : sfirst [] = 0 := sncls_0
theorem slast_hd (l : List UInt8) : slast l = (bk l).headD 0 := by
 by_cases h : l = []
 ·subst h; exact slast_nil
 ·rw [bk_cons l h, List.headD_cons]
theorem sfirst_hd (l : List UInt8) : sfirst l = (fw l).headD 0 := by
 by_cases h : l = []
 ·subst h; exact sfirst_nil
 ·rw [fw_cons l h, List.headD_cons]
theorem slast_bd (l : List UInt8) (h : l ≠ []) : 1 <= (decLast l).2 /\ (decLast l).2 <= l.length := by
 obtain ⟨e, n, c, h1, h2, h3, _⟩ := last_step l h
 rw [h1]
 exact ⟨h2, by show n <= _; omega⟩
theorem sltl_lt (l : List UInt8) (h : l ≠ []) : (ltl l).length < l.length := by
 have := slast_bd l h
 have : 0 < l.length := List.length_pos_iff.2 h
 unfold ltl
 rw [List.length_take]
 omega
def swthF (x : Nat) : Nat -> List UInt8 -> List UInt8
 | 0, _ => []
 | f + 1, l => if l = [] then [] else if shas x (slast l) then swthF x f (ltl l) else l
theorem swthF_any (x : Nat) : ∀ (f g : Nat) (l : List UInt8), l.length <= f -> l.length <= g -> swthF x f l = swthF x g l
 | 0, 0, _, _, _ => rfl
 | 0, g + 1, l, hf, hg => by
  have : l = [] := List.length_eq_zero_iff.1 (by omega)
  subst this; rfl
 | f + 1, 0, l, hf, hg => by
  have : l = [] := List.length_eq_zero_iff.1 (by omega)
  subst this; rfl
 | f + 1, g + 1, l, hf, hg => by
  unfold swthF
  by_cases h : l = []
  ·rw [if_pos h, if_pos h]
  ·have := sltl_lt l h
   rw [if_neg h, if_neg h, swthF_any x f g (ltl l) (by omega) (by omega)]
def swth (x : Nat) (l : List UInt8) : List UInt8 := swthF x l.length l
theorem swth_yes (x : Nat) (l : List UInt8) (h : l ≠ []) (hk : shas x (slast l) = true) : swth x l = swth x (ltl l) := by
 have h1 := sltl_lt l h
 unfold swth
 rw [swthF_any x l.length (l.length - 1 + 1) l (by omega) (by omega)]
 conv => lhs; unfold swthF
 rw [if_neg h, if_pos hk]
 exact swthF_any x _ _ _ (by omega) (by omega)
theorem swth_no (x : Nat) (l : List UInt8) (h : l ≠ []) (hk : shas x (slast l) = false) : swth x l = l := by
 have hp : 0 < l.length := List.length_pos_iff.2 h
 unfold swth
 obtain ⟨n, hn⟩ : ∃ n, l.length = n + 1 := ⟨l.length - 1, by omega⟩
 rw [hn]
 unfold swthF
 rw [if_neg h, if_neg (by rw [hk]; simp)]
theorem swth_le (x : Nat) : ∀ (n : Nat) (l : List UInt8), l.length <= n -> (swth x l).length <= l.length
 | 0, l, hl => by
  have : l = [] := List.length_eq_zero_iff.1 (by omega)
  subst this; exact Nat.le_refl _
 | n + 1, l, hl => by
  by_cases h : l = []
  ·subst h; exact Nat.le_refl _
  ·have h1 := sltl_lt l h
   cases hk : shas x (slast l) with
   | true => rw [swth_yes x l h hk]; exact Nat.le_trans (swth_le x n (ltl l) (by omega)) (Nat.le_of_lt h1)
   | false => rw [swth_no x l h hk]; exact Nat.le_refl _
theorem swth_bk (x : Nat) : ∀ (n : Nat) (l : List UInt8), l.length <= n -> bk (swth x l) = (bk l).dropWhile (shas x)
 | 0, l, hl => by
  have : l = [] := List.length_eq_zero_iff.1 (by omega)
  subst this; rfl
 | n + 1, l, hl => by
  by_cases h : l = []
  ·subst h; rfl
  ·have h1 := sltl_lt l h
   cases hk : shas x (slast l) with
   | true => rw [swth_yes x l h hk, swth_bk x n (ltl l) (by omega), bk_cons l h, List.dropWhile_cons_of_pos hk]
   | false => rw [swth_no x l h hk, bk_cons l h, List.dropWhile_cons_of_neg (by rw [hk]; simp)]
def csdR (A : List Int) : Bool := ((A.dropWhile (shas 8192)).headD 0) == 6 || ((A.dropWhile (shas 8192)).headD 0) == 5
def mrkR (A : List Int) : Int := ((A.dropWhile (shas 8208)).dropWhile (shas 10240)).headD 0
def goR : List Int -> Bool
 | [] => false
 | c :: B => if shas 14609 c then goR B else c == 5
def prtR (A B : List Int) : Bool :=
 if B.headD 0 == 11 && (A.dropWhile (shas 8192)).headD 0 != 4 then false else
 if (A.dropWhile (shas 8192)).headD 0 == 9 && B.headD 0 == 8 then false else
 if (A.dropWhile (shas 8192)).headD 0 == 9 && B.headD 0 == 6 && csdR (A.dropWhile (shas 8192)).tail then false else
 if mrkR (A.dropWhile (shas 8192)) == 10 then true else if mrkR (A.dropWhile (shas 8192)) == 9 then !goR B else false
def cutR (A B : List Int) : Bool :=
 if A.headD 0 == 1 && B.headD 0 == 2 then false else if shas 14 (A.headD 0) then true else if shas 13854 (B.headD 0) then false else prtR A B
def scut (s : List UInt8) (p : Nat) : Bool := cutR (bk (s.take p)) (fw (s.drop p))
end Go.Proofs.YtdpohgoikbeplaaGreatDoor.Sn
namespace Go.Proofs.YtdpohgoikbeplaaGreatDoor.Sn
open Wt
theorem bk_fw (l : List UInt8) : bk l = (fw l).reverse := by unfold bk fw; rw [List.map_reverse]
theorem fw_len (l : List UInt8) : (fw l).length = (rl l).length := List.length_map _
theorem bk_take (s : List UInt8) (k : Nat) (h : k <= (rl s).length) : bk (s.take (pos s k)) = ((fw s).take k).reverse := by
 rw [bk_fw]
 unfold fw
 rw [rl_take s k h, List.map_take]
theorem fw_drop (s : List UInt8) (k : Nat) (h : k <= (rl s).length) : fw (s.drop (pos s k)) = (fw s).drop k := by
 unfold fw
 rw [rl_drop s k h, List.map_drop]
theorem scut_at (s : List UInt8) (k : Nat) (h : k <= (rl s).length) : scut s (pos s k) = cutR ((fw s).take k).reverse ((fw s).drop k) := by
 unfold scut
 rw [bk_take s k h, fw_drop s k h]
def onwF (s : List UInt8) (p : Nat) : Nat -> Nat -> Nat
 | 0, _ => s.length
 | f + 1, t => if t < (s.drop p).length then (if 0 < t /\ scut s (p + t) = true then p + t else onwF s p f (t + (dec ((s.drop p).drop t)).2)) else s.length
theorem onwF_any (s : List UInt8) (p : Nat) : ∀ (f g t : Nat), (s.drop p).length - t <= f -> (s.drop p).length - t <= g -> onwF s p f t = onwF s p g t
 | 0, 0, t, _, _ => rfl
 | 0, g + 1, t, hf, hg => by
  unfold onwF
  rw [if_neg (by omega)]
 | f + 1, 0, t, hf, hg => by
  unfold onwF
  rw [if_neg (by omega)]
 | f + 1, g + 1, t, hf, hg => by
  unfold onwF
  by_cases h : t < (s.drop p).length
  ·have h1 := dec_ge ((s.drop p).drop t) (drop_ne _ t h)
   rw [if_pos h, if_pos h, onwF_any s p f g (t + (dec ((s.drop p).drop t)).2) (by omega) (by omega)]
  ·rw [if_neg h, if_neg h]
def onwT (s : List UInt8) (p t : Nat) : Nat := onwF s p ((s.drop p).length - t) t
theorem onwT_end (s : List UInt8) (p t : Nat) (h : ¬ t < (s.drop p).length) : onwT s p t = s.length := by
 unfold onwT
 rw [show (s.drop p).length - t = 0 by omega]; rfl
theorem onwT_here (s : List UInt8) (p t : Nat) (h : t < (s.drop p).length) (h0 : 0 < t) (hc : scut s (p + t) = true) : onwT s p t = p + t := by
 unfold onwT
 rw [onwF_any s p _ ((s.drop p).length - t - 1 + 1) t (by omega) (by omega)]
 unfold onwF
 rw [if_pos h, if_pos ⟨h0, hc⟩]
theorem onwT_next (s : List UInt8) (p t : Nat) (h : t < (s.drop p).length) (hc : ¬ (0 < t /\ scut s (p + t) = true)) : onwT s p t = onwT s p (t + (dec ((s.drop p).drop t)).2) := by
 have h1 := dec_ge ((s.drop p).drop t) (drop_ne _ t h)
 unfold onwT
 rw [onwF_any s p _ ((s.drop p).length - t - 1 + 1) t (by omega) (by omega)]
 conv => lhs; unfold onwF
 rw [if_pos h, if_neg hc]
 exact onwF_any s p _ _ _ (by omega) (by omega)
def snx (s : List UInt8) (p : Nat) : Nat := onwT s p 0
end Go.Proofs.YtdpohgoikbeplaaGreatDoor.Sn
namespace Go.Proofs.YtdpohgoikbeplaaGreatDoor.Sn
open Wt
open Go.RowKit
def InB (z : Int) : Prop := 0 <= z /\ z <= 13
theorem ib_ite {p : Prop} [Decidable p] {a b : Int} (ha : InB a) (hb : InB b) : InB (if p then a else b) := by
 by_cases h : p
 ·rw [if_pos h]; exact ha
 ·rw [if_neg h]; exact hb
theorem ib_ascii (r : Int) : InB (snascii r) := by
 unfold snascii
 repeat refine ib_ite ⟨by decide, by decide⟩ ?_
 exact ⟨by decide, by decide⟩
theorem ib_latin (r : Int) : InB (snlatin r) := by
 unfold snlatin
 repeat refine ib_ite ⟨by decide, by decide⟩ ?_
 exact ⟨by decide, by decide⟩
theorem ib_european (r : Int) : InB (sneuropean r) := by
 unfold sneuropean
 repeat refine ib_ite ⟨by decide, by decide⟩ ?_
 exact ⟨by decide, by decide⟩
theorem ib_semitic (r : Int) : InB (snsemitic r) := by
 unfold snsemitic
 repeat refine ib_ite ⟨by decide, by decide⟩ ?_
 exact ⟨by decide, by decide⟩
theorem ib_indic (r : Int) : InB (snindic r) := by
 unfold snindic
 repeat refine ib_ite ⟨by decide, by decide⟩ ?_
 exact ⟨by decide, by decide⟩
theorem ib_punct (r : Int) : InB (snpunct r) := by
 unfold snpunct
 repeat refine ib_ite ⟨by decide, by decide⟩ ?_
 exact ⟨by decide, by decide⟩
theorem ib_kana (r : Int) : InB (snkana r) := by
 unfold snkana
 repeat refine ib_ite ⟨by decide, by decide⟩ ?_
 exact ⟨by decide, by decide⟩
theorem ib_high (r : Int) : InB (snhigh r) := by
 unfold snhigh
 repeat refine ib_ite ⟨by decide, by decide⟩ ?_
 exact ⟨by decide, by decide⟩
theorem sn_bd (r : Int) : 0 <= sncls r /\ sncls r <= 13 := by
 show InB (sncls r)
 unfold sncls
 exact ib_ite (ib_ascii r) (ib_ite (ib_latin r) (ib_ite (ib_european r) (ib_ite (ib_semitic r) (ib_ite (ib_indic r) (ib_ite (ib_punct r) (ib_ite (ib_kana r) (ib_high r)))))))
theorem shas_any (x : Nat) (z c : Int) (w : World) (hz : z = x) (h0 : 0 <= c) (hc : c <= 13) :
  Calls Tryz.prog 85 #[.int .u32 z, .int .i64 c] w fun e w' => e = .returned (.bool (shas x c)) /\ w' = w := by
 subst hz
 obtain ⟨n, rfl⟩ : ∃ n : Nat, c = n := ⟨c.toNat, by omega⟩
 have hn : n <= 13 := by omega
 clear h0 hc
 go_enter Tryz.func85, Tryz.ntmps85
 go_wp2
 go_ret
 exact ⟨rfl, rfl⟩
example : shas 14 1 = true := by decide
example : shas 13854 12 = true := by decide
example : shas 14609 5 = false := by decide
theorem sfirst_any (l : List UInt8) (w : World) (ht : TbW w) :
  Calls Tryz.prog 111 #[.string ⟨l.toArray⟩] w fun e w' => e = .returned (.int .i64 (sfirst l)) /\ Below w.heap.size w w' := by
 have HT := hid ht
 clear ht
 go_enter Tryz.func111, Tryz.ntmps111
 go_wp2_with fail
 refine (decode_any l w HT.out.tabs).mono ?_
 rintro e w1 ⟨rfl, be⟩
 have HB := hid be
 clear be
 obtain ⟨r, hr⟩ : ∃ r : Int, r = ((dec l).1 : Int) := ⟨_, rfl⟩
 obtain ⟨n, hn⟩ : ∃ n : Nat, n = (dec l).2 := ⟨_, rfl⟩
 have HV := hid (show sfirst l = sncls r by rw [hr]; rfl)
 rw [<- hr, <- hn]
 clear hr hn
 go_wp2_with fail
 refine (sncls_any r w1).mono ?_
 rintro e w2 ⟨rfl, hw2⟩
 obtain rfl := hw2.symm
 clear hw2
 go_wp2
 go_ret
 exact ⟨by rw [HV.out]; rfl, HB.out⟩
theorem slast_any (l : List UInt8) (w : World) (ht : TbW w) (hl : l.length <= 1000000000) :
  Calls Tryz.prog 98 #[.string ⟨l.toArray⟩] w fun e w' => e = .returned (.tuple #[.int .i64 (slast l), .int .i64 (decLast l).2]) /\ Below w.heap.size w w' := by
 have HT := hid ht
 clear ht
 go_enter Tryz.func98, Tryz.ntmps98
 go_wp2_with fail
 refine (last_any l w (by omega) HT.out.tabs).mono ?_
 rintro e w1 ⟨rfl, be⟩
 have HB := hid be
 clear be
 obtain ⟨r, hr⟩ : ∃ r : Int, r = ((decLast l).1 : Int) := ⟨_, rfl⟩
 obtain ⟨n, hn⟩ : ∃ n : Nat, n = (decLast l).2 := ⟨_, rfl⟩
 have HN := hid hn
 have HV := hid (show slast l = sncls r by rw [hr]; rfl)
 rw [<- hr, <- hn]
 clear hr hn
 go_wp2_with fail
 refine (sncls_any r w1).mono ?_
 rintro e w2 ⟨rfl, hw2⟩
 obtain rfl := hw2.symm
 clear hw2
 go_wp2
 go_ret2
 exact ⟨by rw [HV.out, <- HN.out]; rfl, HB.out⟩
set_option maxHeartbeats 2000000 in
theorem swth_any (x : Nat) (l : List UInt8) (w : World) (ht : TbW w) (hl : l.length <= 1000000000) :
  Calls Tryz.prog 86 #[.string ⟨l.toArray⟩, .int .u32 x] w fun e w' => e = .returned (.string ⟨(swth x l).toArray⟩) /\ Below w.heap.size w w' := by
 have HT := hid ht
 clear ht
 go_enter Tryz.func86, Tryz.ntmps86
 go_wp2
 go_loopw [0] (fun fr wr => ∃ l' : List UInt8, fr = .string ⟨l'.toArray⟩ /\ l'.length <= 1000000000 /\ Hid (swth x l = swth x l') /\ Below w.heap.size w wr) (fun fr _ => wstrLen fr)
 case atStart => exact ⟨l, rfl, hl, rfl, Below.refl _ _⟩
 case round =>
  obtain ⟨l', rfl, hl', HW, hB⟩ := hrel
  have HB := hid hB
  clear hB
  by_cases he : l' = []
  ·subst he
   have HE := hid (show swth x l = [] by rw [HW.out]; rfl)
   go_wp2
   go_ret; exact ⟨by rw [HE.out]; rfl, HB.out⟩
  ·have he' : l'.isEmpty = false := by simpa using he
   obtain ⟨hb1, hb2⟩ := slast_bd l' he
   have HNE := hid he
   clear he
   go_wp2_with fail
   refine (slast_any l' wr (HT.out.below HB.out) hl').mono ?_
   rintro e w1 ⟨rfl, be1⟩; have HB1 := hid (HB.out.trans (be1.mono HB.out.size))
   obtain ⟨c0, c1⟩ : 0 <= slast l' /\ slast l' <= 13 := sn_bd _
   obtain ⟨c, hc⟩ : ∃ c : Int, c = slast l' := ⟨_, rfl⟩
   obtain ⟨m, hm⟩ : ∃ m : Nat, m = (decLast l').2 := ⟨_, rfl⟩
   have HC := hid hc
   have HM := hid hm
   rw [<- hm] at hb1 hb2
   rw [<- hc] at c0 c1
   rw [<- hc, <- hm]; clear hc hm be1 HB; have HLE := hid (show ltl l' = l'.take (l'.length - m) by unfold ltl; rw [HM.out])
   have HLT := hid (sltl_lt l' HNE.out)
   go_wp2_with fail
   refine (shas_any x _ c w1 rfl c0 c1).mono ?_
   rintro e w2 ⟨rfl, hw2⟩; obtain rfl := hw2.symm
   clear hw2; obtain ⟨b, hb⟩ : ∃ b, b = shas x c := ⟨_, rfl⟩
   have HBB := hid hb
   rw [<- hb]; clear hb
   cases b with
   | true =>
    have HW2 := hid (HW.out.trans (swth_yes x l' HNE.out (by rw [<- HC.out]; exact HBB.out.symm)))
    go_wp2; rw [wtake, <- HLE.out]
    go_roundw
    case rel => exact ⟨ltl l', rfl, by have := HLT.out; omega, HW2, HB1.out⟩
    case measure =>
     show (⟨(ltl l').toArray⟩ : ByteArray).size < (⟨l'.toArray⟩ : ByteArray).size
     exact HLT.out
   | false =>
    have HE := hid (HW.out.trans (swth_no x l' HNE.out (by rw [<- HC.out]; exact HBB.out.symm)))
    go_wp2
    go_ret; exact ⟨by rw [HE.out]; rfl, HB1.out⟩
end Go.Proofs.YtdpohgoikbeplaaGreatDoor.Sn
namespace Go.Proofs.YtdpohgoikbeplaaGreatDoor.Sn
open Wt
theorem all14 (p : Int -> Prop) (h : ∀ n : Nat, n < 14 -> p n) (c : Int) (hc : 0 <= c /\ c <= 13) : p c := by
 obtain ⟨n, rfl⟩ : ∃ n : Nat, c = n := ⟨c.toNat, by omega⟩
 exact h n (by omega)
theorem shE (c : Int) (hc : 0 <= c /\ c <= 13) : shas 8192 c = true ↔ c = 13 := all14 (fun c => shas 8192 c = true ↔ c = 13) (by decide) c hc
theorem shS (c : Int) (hc : 0 <= c /\ c <= 13) : shas 8208 c = true ↔ c = 4 \/ c = 13 := all14 (fun c => shas 8208 c = true ↔ c = 4 \/ c = 13) (by decide) c hc
theorem shC (c : Int) (hc : 0 <= c /\ c <= 13) : shas 10240 c = true ↔ c = 11 \/ c = 13 := all14 (fun c => shas 10240 c = true ↔ c = 11 \/ c = 13) (by decide) c hc
theorem dw_dw (f g : Int -> Bool) : ∀ A : List Int, (∀ c ∈ A, f c = true -> g c = true) -> (A.dropWhile f).dropWhile g = A.dropWhile g
 | [], _ => rfl
 | c :: A, h => by
  cases hf : f c with
  | true =>
   rw [List.dropWhile_cons_of_pos hf, List.dropWhile_cons_of_pos (h c (by simp) hf)]
   exact dw_dw f g A (fun c hc => h c (by simp [hc]))
  | false => rw [List.dropWhile_cons_of_neg (by rw [hf]; simp)]
abbrev Cls (A : List Int) : Prop := ∀ c ∈ A, 0 <= c /\ c <= 13
def d3 (A : List Int) : List Int := A.dropWhile (shas 10240)
def d2 (A : List Int) : List Int := (A.dropWhile (shas 8208)).dropWhile (shas 10240)
theorem mrk_d2 (A : List Int) (h : Cls A) : mrkR (A.dropWhile (shas 8192)) = (d2 A).headD 0 := by
 unfold mrkR d2
 rw [dw_dw (shas 8192) (shas 8208) A (fun c hc h1 => (shS c (h c hc)).2 (.inr ((shE c (h c hc)).1 h1)))]
def kndR (P : List Int) : Int := if (P.dropWhile (shas 10270)).headD 0 == 9 then 1 else if (P.dropWhile (shas 10270)).headD 0 == 10 then 2 else 0
theorem cls_take {C : List Int} (h : Cls C) (k : Nat) : Cls (C.take k).reverse := fun c hc => h c (List.mem_of_mem_take (List.mem_reverse.1 hc))
end Go.Proofs.YtdpohgoikbeplaaGreatDoor.Sn
namespace Go.Proofs.YtdpohgoikbeplaaGreatDoor.Sn
open Wt
open Go.RowKit
theorem goR_cons (c : Int) (B : List Int) : goR (c :: B) = if shas 14609 c then goR B else c == 5 := rfl
set_option maxHeartbeats 1000000 in
theorem scased_any (l : List UInt8) (w : World) (ht : TbW w) (hl : l.length <= 1000000000) :
  Calls Tryz.prog 126 #[.string ⟨l.toArray⟩] w fun e w' => e = .returned (.bool (csdR (bk l))) /\ Below w.heap.size w w' := by
 have HT := hid ht
 have HL := hid (swth_le 8192 _ l (Nat.le_refl _))
 have HV := hid (show csdR (bk l) = (slast (swth 8192 l) == 6 || slast (swth 8192 l) == 5) by unfold csdR; rw [<- swth_bk 8192 _ l (Nat.le_refl _), <- slast_hd])
 clear ht
 go_enter Tryz.func126, Tryz.ntmps126
 go_wp2_with fail
 refine (swth_any 8192 l w HT.out hl).mono ?_
 rintro e w1 ⟨rfl, be⟩
 have HB1 := hid be
 clear be
 go_wp2_with fail
 refine (slast_any (swth 8192 l) w1 (HT.out.below HB1.out) (by have := HL.out; omega)).mono ?_
 rintro e w2 ⟨rfl, be⟩
 have HB2 := hid (HB1.out.trans (be.mono HB1.out.size))
 obtain ⟨c, hc⟩ : ∃ c, c = slast (swth 8192 l) := ⟨_, rfl⟩
 obtain ⟨m, hm⟩ : ∃ m : Nat, m = (decLast (swth 8192 l)).2 := ⟨_, rfl⟩
 rw [<- hc] at HV
 rw [<- hc, <- hm]
 clear hc hm be
 by_cases h6 : c = 6
 ·subst h6
  go_wp2
  go_ret; exact ⟨by rw [HV.out]; rfl, HB2.out⟩
 ·have b6 : (c == 6) = false := beq_eq_false_iff_ne.2 h6
  rw [b6, Bool.false_or] at HV
  go_wp2
  go_ret; exact ⟨by rw [HV.out]; rfl, HB2.out⟩
set_option maxHeartbeats 1000000 in
theorem smark_any (l : List UInt8) (w : World) (ht : TbW w) (hl : l.length <= 1000000000) :
  Calls Tryz.prog 127 #[.string ⟨l.toArray⟩] w fun e w' => e = .returned (.int .i64 (mrkR (bk l))) /\ Below w.heap.size w w' := by
 have HT := hid ht
 have HL := hid (swth_le 8208 _ l (Nat.le_refl _))
 have HL2 := hid (swth_le 10240 _ (swth 8208 l) (Nat.le_refl _))
 have HV := hid (show mrkR (bk l) = slast (swth 10240 (swth 8208 l)) by unfold mrkR; rw [<- swth_bk 8208 _ l (Nat.le_refl _), <- swth_bk 10240 _ _ (Nat.le_refl _), <- slast_hd])
 clear ht
 go_enter Tryz.func127, Tryz.ntmps127
 go_wp2_with fail
 refine (swth_any 8208 l w HT.out hl).mono ?_
 rintro e w1 ⟨rfl, be⟩
 have HB1 := hid be
 clear be
 go_wp2_with fail
 refine (swth_any 10240 (swth 8208 l) w1 (HT.out.below HB1.out) (by have := HL.out; omega)).mono ?_
 rintro e w2 ⟨rfl, be⟩
 have HB2 := hid (HB1.out.trans (be.mono HB1.out.size))
 clear be
 go_wp2_with fail
 refine (slast_any (swth 10240 (swth 8208 l)) w2 (HT.out.below HB2.out) (by have := HL.out; have := HL2.out; omega)).mono ?_
 rintro e w3 ⟨rfl, be⟩
 have HB3 := hid (HB2.out.trans (be.mono HB2.out.size))
 obtain ⟨c, hc⟩ : ∃ c, c = slast (swth 10240 (swth 8208 l)) := ⟨_, rfl⟩
 obtain ⟨m, hm⟩ : ∃ m : Nat, m = (decLast (swth 10240 (swth 8208 l))).2 := ⟨_, rfl⟩
 rw [<- hc] at HV
 rw [<- hc, <- hm]
 clear hc hm be
 go_wp2
 go_ret
 exact ⟨by rw [HV.out]; rfl, HB3.out⟩
set_option maxHeartbeats 1000000 in
theorem sgoes_any (l : List UInt8) (w : World) :
  Calls Tryz.prog 128 #[.string ⟨l.toArray⟩] w fun e w' => e = .returned (.bool (goR (fw l))) /\ Below w.heap.size w w' := by
 have HSZ := hid (show (⟨l.toArray⟩ : ByteArray).size = l.length by show l.toArray.size = _; simp)
 have HB0 := hid ((Below.refl w.heap.size w).alloc (Nat.le_refl _) (.stringIter ⟨l.toArray⟩ 0))
 have HIT0 := hid (World.iter_heap w ⟨l.toArray⟩ 0)
 go_enter Tryz.func128, Tryz.ntmps128
 go_wp2
 go_loopw [4, 5] (fun _ _ wr => ∃ t : Nat, Hid (goR (fw l) = goR (fw (l.drop t))) /\ Hid (wr.heap[w.heap.size]? = some (.stringIter ⟨l.toArray⟩ t)) /\ Hid (Below w.heap.size w wr)) (fun _ _ wr => l.length - wr.iterPos w.heap.size)
 case atStart => exact ⟨0, rfl, HIT0, HB0⟩
 case round =>
  obtain ⟨t, HP, HI, HB⟩ := hrel
  have hin : w.heap.size < wr.heap.size := (Array.getElem?_eq_some_iff.1 HI.out).1
  by_cases hlt : t < l.length
  ·have hnx := wnext_at (P := Tryz.prog) wr w.heap.size ⟨l.toArray⟩ t 0 HI.out (by rw [HSZ.out]; exact hlt)
   rw [decode_place l t hlt] at hnx
   have hne := drop_ne l t hlt
   have d1 := dec_ge _ hne
   have HG := hid (HP.out.trans (congrArg goR (fw_cons (l.drop t) hne)))
   rw [List.drop_drop, goR_cons] at HG
   have HWF := hid (show sfirst (l.drop t) = sncls ((dec (l.drop t)).1 : Int) from rfl)
   obtain ⟨nn, hnn⟩ : ∃ nn, nn = (dec (l.drop t)).2 := ⟨_, rfl⟩
   obtain ⟨rr, hrr⟩ : ∃ rr : Int, rr = ((dec (l.drop t)).1 : Int) := ⟨_, rfl⟩
   rw [<- hnn] at hnx d1 HG
   rw [<- hrr] at hnx HWF
   rw [HWF.out] at HG
   obtain ⟨w1, hw1⟩ : ∃ w1, w1 = wr.putObj w.heap.size (.stringIter ⟨l.toArray⟩ (t + nn)) := ⟨_, rfl⟩
   rw [<- hw1] at hnx
   have HI1 := hid (show w1.heap[w.heap.size]? = some (.stringIter ⟨l.toArray⟩ (t + nn)) by rw [hw1]; exact World.putObj_heap_same hin)
   have HB1 := hid (show Below w.heap.size w w1 by rw [hw1]; exact HB.out.trans ⟨rfl, rfl, rfl, by simp [World.putObj], fun j hj => World.putObj_heap_other (by omega)⟩)
   have HM := hid (show l.length - wr.iterPos w.heap.size = l.length - t by unfold World.iterPos; rw [HI.out])
   clear hnn hrr hw1 HI HB hne HWF
   go_wp2_with fail
   refine (sncls_any rr w1).mono ?_
   rintro e w2 ⟨rfl, hw2⟩; obtain rfl := hw2.symm
   clear hw2; obtain ⟨c0, c1⟩ := sn_bd rr
   obtain ⟨c, hc⟩ : ∃ c, c = sncls rr := ⟨_, rfl⟩
   rw [<- hc] at HG c0 c1
   rw [<- hc]; clear hc hnx
   go_wp2_with fail
   refine (shas_any 14609 _ c w1 rfl c0 c1).mono ?_
   rintro e w2 ⟨rfl, hw2⟩; obtain rfl := hw2.symm
   clear hw2; obtain ⟨b, hb⟩ : ∃ b, b = shas 14609 c := ⟨_, rfl⟩
   rw [<- hb] at HG
   rw [<- hb]; clear hb
   cases b with
   | true =>
    go_wp2
    go_roundw
    case rel => exact ⟨t + nn, HG, HI1, HB1⟩
    case measure =>
     rw [HM.out]
     unfold World.iterPos
     rw [HI1.out]
     simp only []
     omega
   | false =>
    have HE := hid (show goR (fw l) = (c == 5) from HG.out)
    clear HG
    go_wp2
    go_ret; exact ⟨by rw [HE.out]; rfl, HB1.out⟩
  ·have hnx := wnext_stop (P := Tryz.prog) wr w.heap.size ⟨l.toArray⟩ t 0 HI.out (by rw [HSZ.out]; exact hlt)
   have HE := hid (show goR (fw l) = false by rw [HP.out, List.drop_of_length_le (by omega)]; rfl)
   go_wp2
   go_ret; exact ⟨by rw [HE.out]; rfl, HB.out⟩
def prtT (A B : List Int) : Bool := if mrkR A == 10 then true else if mrkR A == 9 then !goR B else false
set_option maxHeartbeats 2000000 in
theorem sparts_any (a b : List UInt8) (w : World) (ht : TbW w) (hl : a.length <= 1000000000) :
  Calls Tryz.prog 112 #[.string ⟨a.toArray⟩, .string ⟨b.toArray⟩] w fun e w' => e = .returned (.bool (prtR (bk a) (fw b))) /\ Below w.heap.size w w' := by
 have HT := hid ht
 have HL := hid (swth_le 8192 _ a (Nat.le_refl _))
 obtain ⟨d, hd⟩ : ∃ d, d = swth 8192 a := ⟨_, rfl⟩
 have HV := hid (show prtR (bk a) (fw b) = if sfirst b == 11 && slast d != 4 then false else if slast d == 9 && sfirst b == 8 then false else
   if slast d == 9 && sfirst b == 6 && csdR (bk d).tail then false else prtT (bk d) (fw b) by
  rw [hd]
  unfold prtR prtT
  rw [slast_hd, sfirst_hd, swth_bk 8192 _ a (Nat.le_refl _)])
 have HBL := hid (show slast d = 9 -> 1 <= (decLast d).2 /\ (decLast d).2 <= d.length from fun h => slast_bd d (fun e => by rw [e, slast_nil] at h; cases h))
 have HTL := hid (show slast d = 9 -> (bk d).tail = bk (ltl d) from fun h => by rw [bk_cons d (fun e => by rw [e, slast_nil] at h; cases h)]; rfl)
 have hdl : d.length <= 1000000000 := by have := HL.out; rw [hd]; omega
 have HD := hid hd
 clear ht hd
 go_enter Tryz.func112, Tryz.ntmps112
 go_wp2_with fail
 refine (swth_any 8192 a w HT.out hl).mono ?_
 rintro e w1 ⟨rfl, be⟩
 rw [<- HD.out]
 have HB1 := hid be
 clear be
 go_wp2_with fail
 refine (slast_any d w1 (HT.out.below HB1.out) hdl).mono ?_
 rintro e w2 ⟨rfl, be⟩
 have HB2 := hid (HB1.out.trans (be.mono HB1.out.size))
 have HLT := hid (show ltl d = d.take (d.length - (decLast d).2) from rfl)
 obtain ⟨n, hn⟩ : ∃ n, n = slast d := ⟨_, rfl⟩
 obtain ⟨m, hm⟩ : ∃ m : Nat, m = (decLast d).2 := ⟨_, rfl⟩
 rw [<- hn] at HV HBL HTL
 rw [<- hm] at HBL HLT
 rw [<- hn, <- hm]
 clear hn hm be HB1
 go_wp2_with fail
 refine (sfirst_any b w2 (HT.out.below HB2.out)).mono ?_
 rintro e w3 ⟨rfl, be⟩
 have HB3 := hid (HB2.out.trans (be.mono HB2.out.size))
 obtain ⟨x, hx⟩ : ∃ x, x = sfirst b := ⟨_, rfl⟩
 rw [<- hx] at HV
 rw [<- hx]
 clear hx be HB2
 by_cases h11 : x = 11
 ·subst h11
  by_cases h4 : n = 4
  ·subst h4
   have HV2 := hid (show prtR (bk a) (fw b) = if mrkR (bk d) == 10 then true else if mrkR (bk d) == 9 then !goR (fw b) else false from HV.out)
   clear HV
   go_wp2_with fail
   refine (smark_any d w3 (HT.out.below HB3.out) hdl).mono ?_
   rintro e w5 ⟨rfl, be⟩; have HB5 := hid (HB3.out.trans (be.mono HB3.out.size))
   obtain ⟨v, hv⟩ : ∃ v, v = mrkR (bk d) := ⟨_, rfl⟩
   rw [<- hv] at HV2
   rw [<- hv]; clear hv be
   by_cases h10 : v = 10
   ·subst h10
    go_wp2
    go_ret; exact ⟨by rw [HV2.out]; rfl, HB5.out⟩
   have b10 : (v == 10) = false := beq_eq_false_iff_ne.2 h10
   by_cases h9 : v = 9
   ·subst h9
    go_wp2_with fail
    refine (sgoes_any b w5).mono ?_
    rintro e w6 ⟨rfl, be⟩; have HB6 := hid (HB5.out.trans (be.mono HB5.out.size))
    obtain ⟨g, hg⟩ : ∃ g, g = goR (fw b) := ⟨_, rfl⟩
    rw [<- hg] at HV2
    rw [<- hg]; clear hg be; have HV3 := hid (show prtR (bk a) (fw b) = !g from HV2.out)
    clear HV2
    go_wp2
    go_ret; exact ⟨by rw [HV3.out]; rfl, HB6.out⟩
   have b9' : (v == 9) = false := beq_eq_false_iff_ne.2 h9
   have HV3 := hid (show prtR (bk a) (fw b) = false by rw [HV2.out, b10, b9']; rfl)
   clear HV2
   go_wp2
   go_ret; exact ⟨by rw [HV3.out]; rfl, HB5.out⟩
  ·have b4 : (n != 4) = true := bne_iff_ne.2 h4
   have HV2 := hid (show prtR (bk a) (fw b) = false by rw [HV.out, b4]; rfl)
   go_wp2
   go_ret; exact ⟨by rw [HV2.out]; rfl, HB3.out⟩
 have b11 : (x == 11) = false := beq_eq_false_iff_ne.2 h11
 by_cases hn9 : n = 9
 ·subst hn9
  by_cases h8 : x = 8
  ·subst h8
   go_wp2
   go_ret; exact ⟨by rw [HV.out]; rfl, HB3.out⟩
  have b8 : (x == 8) = false := beq_eq_false_iff_ne.2 h8
  by_cases h6 : x = 6
  ·subst h6
   obtain ⟨hm1, hm2⟩ := HBL.out rfl
   have HT9 := hid (HTL.out rfl)
   clear HTL HBL
   go_wp2_with fail
   rw [wtake, <- HLT.out]; refine (scased_any (ltl d) w3 (HT.out.below HB3.out) (by rw [HLT.out, List.length_take]; omega)).mono ?_
   rintro e w4 ⟨rfl, be⟩; have HB4 := hid (HB3.out.trans (be.mono HB3.out.size))
   obtain ⟨k, hk⟩ : ∃ k, k = csdR (bk (ltl d)) := ⟨_, rfl⟩
   rw [HT9.out, <- hk] at HV
   rw [<- hk]; clear hk be
   cases k with
   | true =>
    go_wp2
    go_ret; exact ⟨by rw [HV.out]; rfl, HB4.out⟩
   | false =>
    have HV2 := hid (show prtR (bk a) (fw b) = if mrkR (bk d) == 10 then true else if mrkR (bk d) == 9 then !goR (fw b) else false from HV.out)
    clear HV
    go_wp2_with fail
    refine (smark_any d w4 (HT.out.below HB4.out) hdl).mono ?_
    rintro e w5 ⟨rfl, be⟩; have HB5 := hid (HB4.out.trans (be.mono HB4.out.size))
    obtain ⟨v, hv⟩ : ∃ v, v = mrkR (bk d) := ⟨_, rfl⟩
    rw [<- hv] at HV2
    rw [<- hv]; clear hv be
    by_cases h10 : v = 10
    ·subst h10
     go_wp2
     go_ret; exact ⟨by rw [HV2.out]; rfl, HB5.out⟩
    have b10 : (v == 10) = false := beq_eq_false_iff_ne.2 h10
    by_cases h9 : v = 9
    ·subst h9
     go_wp2_with fail
     refine (sgoes_any b w5).mono ?_
     rintro e w6 ⟨rfl, be⟩; have HB6 := hid (HB5.out.trans (be.mono HB5.out.size))
     obtain ⟨g, hg⟩ : ∃ g, g = goR (fw b) := ⟨_, rfl⟩
     rw [<- hg] at HV2
     rw [<- hg]; clear hg be; have HV3 := hid (show prtR (bk a) (fw b) = !g from HV2.out)
     clear HV2
     go_wp2
     go_ret; exact ⟨by rw [HV3.out]; rfl, HB6.out⟩
    have b9' : (v == 9) = false := beq_eq_false_iff_ne.2 h9
    have HV3 := hid (show prtR (bk a) (fw b) = false by rw [HV2.out, b10, b9']; rfl)
    clear HV2
    go_wp2
    go_ret; exact ⟨by rw [HV3.out]; rfl, HB5.out⟩
  have b6 : (x == 6) = false := beq_eq_false_iff_ne.2 h6
  have HV2 := hid (show prtR (bk a) (fw b) = if mrkR (bk d) == 10 then true else if mrkR (bk d) == 9 then !goR (fw b) else false by rw [HV.out, b11, b8, b6]; rfl)
  clear HV
  go_wp2_with fail
  refine (smark_any d w3 (HT.out.below HB3.out) hdl).mono ?_
  rintro e w5 ⟨rfl, be⟩; have HB5 := hid (HB3.out.trans (be.mono HB3.out.size))
  obtain ⟨v, hv⟩ : ∃ v, v = mrkR (bk d) := ⟨_, rfl⟩
  rw [<- hv] at HV2
  rw [<- hv]; clear hv be
  by_cases h10 : v = 10
  ·subst h10
   go_wp2
   go_ret; exact ⟨by rw [HV2.out]; rfl, HB5.out⟩
  have b10 : (v == 10) = false := beq_eq_false_iff_ne.2 h10
  by_cases h9 : v = 9
  ·subst h9
   go_wp2_with fail
   refine (sgoes_any b w5).mono ?_
   rintro e w6 ⟨rfl, be⟩; have HB6 := hid (HB5.out.trans (be.mono HB5.out.size))
   obtain ⟨g, hg⟩ : ∃ g, g = goR (fw b) := ⟨_, rfl⟩
   rw [<- hg] at HV2
   rw [<- hg]; clear hg be; have HV3 := hid (show prtR (bk a) (fw b) = !g from HV2.out)
   clear HV2
   go_wp2
   go_ret; exact ⟨by rw [HV3.out]; rfl, HB6.out⟩
  have b9' : (v == 9) = false := beq_eq_false_iff_ne.2 h9
  have HV3 := hid (show prtR (bk a) (fw b) = false by rw [HV2.out, b10, b9']; rfl)
  clear HV2
  go_wp2
  go_ret; exact ⟨by rw [HV3.out]; rfl, HB5.out⟩
 have bn9 : (n == 9) = false := beq_eq_false_iff_ne.2 hn9
 have HV2 := hid (show prtR (bk a) (fw b) = if mrkR (bk d) == 10 then true else if mrkR (bk d) == 9 then !goR (fw b) else false by rw [HV.out, b11, bn9]; rfl)
 clear HV
 go_wp2_with fail
 refine (smark_any d w3 (HT.out.below HB3.out) hdl).mono ?_
 rintro e w5 ⟨rfl, be⟩
 have HB5 := hid (HB3.out.trans (be.mono HB3.out.size))
 obtain ⟨v, hv⟩ : ∃ v, v = mrkR (bk d) := ⟨_, rfl⟩
 rw [<- hv] at HV2
 rw [<- hv]
 clear hv be
 by_cases h10 : v = 10
 ·subst h10
  go_wp2
  go_ret; exact ⟨by rw [HV2.out]; rfl, HB5.out⟩
 have b10 : (v == 10) = false := beq_eq_false_iff_ne.2 h10
 by_cases h9 : v = 9
 ·subst h9
  go_wp2_with fail
  refine (sgoes_any b w5).mono ?_
  rintro e w6 ⟨rfl, be⟩; have HB6 := hid (HB5.out.trans (be.mono HB5.out.size))
  obtain ⟨g, hg⟩ : ∃ g, g = goR (fw b) := ⟨_, rfl⟩
  rw [<- hg] at HV2
  rw [<- hg]; clear hg be; have HV3 := hid (show prtR (bk a) (fw b) = !g from HV2.out)
  clear HV2
  go_wp2
  go_ret; exact ⟨by rw [HV3.out]; rfl, HB6.out⟩
 have b9' : (v == 9) = false := beq_eq_false_iff_ne.2 h9
 have HV3 := hid (show prtR (bk a) (fw b) = false by rw [HV2.out, b10, b9']; rfl)
 clear HV2
 go_wp2
 go_ret
 exact ⟨by rw [HV3.out]; rfl, HB5.out⟩
end Go.Proofs.YtdpohgoikbeplaaGreatDoor.Sn
namespace Go.Proofs.YtdpohgoikbeplaaGreatDoor.Rf
open Go.RowKit
theorem Tryz.info89 : (Tryz.prog.info? 89).map (fun i => (i.zero, i.size, i.bytes)) = some (some (.agg #[.int .i64 0, .int .i64 0, .int .i32 0, .bool false]), 4, 24) := by kernel_rfl
def mkc (m : Mk) : List Value := [.int .i64 m.pl, .int .i64 m.wd, .int .i32 m.ru, .bool m.bad]
def mkcs (ms : List Mk) : List Value := ms.flatMap mkc
theorem mkcs_snoc (ms : List Mk) (m : Mk) : mkcs (ms ++ [m]) = mkcs ms ++ mkc m := by simp [mkcs]
theorem mkc_one (m : Mk) : ∀ u ∈ mkc m, u.oneCell' = true := by
 intro u hu
 simp only [mkc, List.mem_cons, List.mem_nil_iff, or_false] at hu
 rcases hu with rfl | rfl | rfl | rfl <;> rfl
theorem news_one (wr : World) (cs : Array Value) (t : TypeId) : ∀ j u, cs.toList[j]? = some u -> (wr.alloc (.cells cs t)).cell? ((⟨wr.heap.size, 0, none⟩ : Addr).add j) = some u := fun j u h => by
 rw [show (⟨wr.heap.size, 0, none⟩ : Addr).add j = ⟨wr.heap.size, j, none⟩ by simp [Addr.add]; exact fun h => h.symm]
 have e : (wr.alloc (.cells cs t)).heap[wr.heap.size]? = some (.cells cs t (0, 0)) := World.alloc_heap_new wr _
 rw [cell_of_row _ _ j cs t _ e]
 simpa using h
def PartM (l : List UInt8) (ms : List Mk) (t : Nat) : Prop := t <= l.length /\ ms ++ mks t (l.drop t) = mks 0 l /\ ms.length <= t
theorem PartM.start (l : List UInt8) : PartM l [] 0 := by simp [PartM]
theorem PartM.step {l : List UInt8} {ms : List Mk} {t : Nat} (h : PartM l ms t) (ht : t < l.length) : PartM l (ms ++ [mk1 t (l.drop t)]) (t + (dec (l.drop t)).2) := by
 obtain ⟨h1, h2, h3⟩ := h
 have hne : l.drop t ≠ [] := fun e => by have := congrArg List.length e; simp at this; omega
 have g1 := dec_ge _ hne
 have g2 := dec_le _ hne
 simp only [List.length_drop] at g2
 refine ⟨by omega, ?_, by simp; omega⟩
 rw [<- h2, mks_cons t (l.drop t) hne]
 simp [List.drop_drop]
theorem PartM.done {l : List UInt8} {ms : List Mk} {t : Nat} (h : PartM l ms t) (ht : ¬ t < l.length) : ms = mks 0 l := by
 have h2 := h.2.1
 rw [List.drop_of_length_le (by omega), mks_nil] at h2
 simpa using h2
theorem rdec_eq (s : ByteArray) (l : List UInt8) (w : World) (hs : s = ⟨l.toArray⟩) (hl : l.length <= 1000000000000) :
  Calls Tryz.prog 113 #[.string s] w fun e w' => e = .returned (.tuple #[.int .i32 (dec l).1, .int .i64 (dec l).2]) /\ w' = w := by
 subst hs
 exact rdec_any l w hl
set_option maxHeartbeats 1000000 in
theorem marks_any (l : List UInt8) (w : World) (hl : l.length <= 1000000000000) :
  Calls Tryz.prog 88 #[.string ⟨l.toArray⟩] w fun e w' => ∃ v, e = .returned v /\ w'.ownsRow w.heap.size 89 4 v (mks 0 l).length (mkcs (mks 0 l)) /\ Below w.heap.size w w' := by
 obtain ⟨i0, hi, hz0, hz1, hz2⟩ := info_parts Tryz.info89
 go_enter Tryz.func88, Tryz.ntmps88
 go_wp2
 go_loopw [3, 4] (fun v i wr => ∃ (t : Nat) (q : Int) (ms : List Mk), i = .int .i64 q /\ q = t /\ Hid (PartM l ms t) /\ wr.ownsRow w.heap.size 89 4 v ms.length (mkcs ms) /\ Below w.heap.size w wr) (fun _ i _ => l.length - (intOf i).toNat)
 case atStart => exact ⟨0, 0, [], rfl, rfl, PartM.start l, World.ownsRow_nil _ _ _ _, Below.refl _ _⟩
 case round =>
  obtain ⟨t, q, ms, rfl, rfl, HP, hown, hB⟩ := hrel
  have htl : t <= l.length := HP.out.1
  have hml : ms.length <= t := HP.out.2.2
  by_cases hlt : t < l.length
  ·have hne : l.drop t ≠ [] := fun e => by have := congrArg List.length e; simp at this; omega
   have g1 := dec_ge _ hne
   have g2 := dec_le _ hne
   have g3 := dec_rune _ hne
   simp only [List.length_drop] at g2
   have HS := hid (HP.out.step hlt)
   have HK := hid (show mk1 t (l.drop t) = ⟨t, (dec (l.drop t)).2, (dec (l.drop t)).1, decide ((dec (l.drop t)).2 = 1) && decide ((dec (l.drop t)).1 = 65533)⟩ from rfl)
   clear hne
   go_wp2_with fail
   refine (rdec_eq _ (l.drop t) _ (ext_drop l t) (by simp; omega)).mono ?_
   rintro e w1 ⟨rfl, rfl⟩
   generalize (dec (l.drop t)).1 = rr at *
   generalize (dec (l.drop t)).2 = nn at *
   rw [HK.out] at HS
   clear HK HP
   by_cases hn1 : nn = 1
   ·by_cases hr1 : rr = 65533
    ·have e : (decide (nn = 1) && decide (rr = 65533)) = true := by simp [hn1, hr1]
     rw [e] at HS
     have t1 : (((nn : Int)) == 1) = true := beq_iff_eq.2 (by omega)
     have t2 : (((rr : Int)) == 65533) = true := beq_iff_eq.2 (by omega)
     clear hn1 hr1 e; have hB1s := hB.size
     go_wp2_with (at_builtin; refine wpList_append_own _ rfl _ _ 86 rfl w.heap.size 89 i0 (.agg #[.int .i64 0, .int .i64 0, .int .i32 0, .bool false]) 4 24 Tryz.underlying86 hi hz0 hz1 hz2 rfl (by decide) _ _ _ rfl (hown.alloc _) ⟨w1.heap.size, 0, none⟩ 1 1 (mkc ⟨t, nn, rr, true⟩) rfl rfl (news_one w1 #[.int .i64 t, .int .i64 nn, .int .i32 rr, .bool true] 89) (mkc_one _) (by unfold maxLen; omega) (by omega) (by simp; omega) ?_)
     intro v' w2 hown' hgrow _
     have hB2 : Below w.heap.size w w2 := (hB.alloc hB.size _).grown hgrow (by simp; omega) (fun k hk => (hown.lt k hk).1)
     have hown2 : w2.ownsRow w.heap.size 89 4 v' (ms ++ [Mk.mk t nn rr true]).length (mkcs (ms ++ [Mk.mk t nn rr true])) := by rw [mkcs_snoc, List.length_append]; exact hown'
     clear hown' hgrow hown hB
     go_wp2
     go_roundw
     case rel => exact ⟨t + nn, _, _, rfl, by omega, HS, hown2, hB2⟩
     case measure => simp [intOf]; omega
    ·have e : (decide (nn = 1) && decide (rr = 65533)) = false := by simp [hr1]
     rw [e] at HS
     have t1 : (((nn : Int)) == 1) = true := beq_iff_eq.2 (by omega)
     have t2 : (((rr : Int)) == 65533) = false := beq_eq_false_iff_ne.2 (by omega)
     clear hn1 hr1 e; have hB1s := hB.size
     go_wp2_with (at_builtin; refine wpList_append_own _ rfl _ _ 86 rfl w.heap.size 89 i0 (.agg #[.int .i64 0, .int .i64 0, .int .i32 0, .bool false]) 4 24 Tryz.underlying86 hi hz0 hz1 hz2 rfl (by decide) _ _ _ rfl (hown.alloc _) ⟨w1.heap.size, 0, none⟩ 1 1 (mkc ⟨t, nn, rr, false⟩) rfl rfl (news_one w1 #[.int .i64 t, .int .i64 nn, .int .i32 rr, .bool false] 89) (mkc_one _) (by unfold maxLen; omega) (by omega) (by simp; omega) ?_)
     intro v' w2 hown' hgrow _
     have hB2 : Below w.heap.size w w2 := (hB.alloc hB.size _).grown hgrow (by simp; omega) (fun k hk => (hown.lt k hk).1)
     have hown2 : w2.ownsRow w.heap.size 89 4 v' (ms ++ [Mk.mk t nn rr false]).length (mkcs (ms ++ [Mk.mk t nn rr false])) := by rw [mkcs_snoc, List.length_append]; exact hown'
     clear hown' hgrow hown hB
     go_wp2
     go_roundw
     case rel => exact ⟨t + nn, _, _, rfl, by omega, HS, hown2, hB2⟩
     case measure => simp [intOf]; omega
   ·have e : (decide (nn = 1) && decide (rr = 65533)) = false := by simp [hn1]
    rw [e] at HS
    have t1 : (((nn : Int)) == 1) = false := beq_eq_false_iff_ne.2 (by omega)
    clear hn1 e; have hB1s := hB.size
    go_wp2_with (at_builtin; refine wpList_append_own _ rfl _ _ 86 rfl w.heap.size 89 i0 (.agg #[.int .i64 0, .int .i64 0, .int .i32 0, .bool false]) 4 24 Tryz.underlying86 hi hz0 hz1 hz2 rfl (by decide) _ _ _ rfl (hown.alloc _) ⟨w1.heap.size, 0, none⟩ 1 1 (mkc ⟨t, nn, rr, false⟩) rfl rfl (news_one w1 #[.int .i64 t, .int .i64 nn, .int .i32 rr, .bool false] 89) (mkc_one _) (by unfold maxLen; omega) (by omega) (by simp; omega) ?_)
    intro v' w2 hown' hgrow _
    have hB2 : Below w.heap.size w w2 := (hB.alloc hB.size _).grown hgrow (by simp; omega) (fun k hk => (hown.lt k hk).1)
    have hown2 : w2.ownsRow w.heap.size 89 4 v' (ms ++ [Mk.mk t nn rr false]).length (mkcs (ms ++ [Mk.mk t nn rr false])) := by rw [mkcs_snoc, List.length_append]; exact hown'
    clear hown' hgrow hown hB
    go_wp2
    go_roundw
    case rel => exact ⟨t + nn, _, _, rfl, by omega, HS, hown2, hB2⟩
    case measure => simp [intOf]; omega
  ·have HD := hid (HP.out.done hlt)
   go_wp2
   go_ret; exact ⟨_, rfl, by rw [<- HD.out]; exact hown, hB⟩
end Go.Proofs.YtdpohgoikbeplaaGreatDoor.Rf
namespace Go.Proofs.YtdpohgoikbeplaaGreatDoor.Rf
open Go.RowKit Wt
def rpw : Nat -> List (Nat × Nat) -> List (Int × Int × Int)
 | _, [] => []
 | p, x :: L => ((p : Int), (x.2 : Int), (x.1 : Int)) :: rpw (p + x.2) L
theorem mks_rpw : ∀ (n p : Nat) (l : List UInt8), l.length <= n -> (mks p l).map (fun m => (m.pl, m.wd, m.ru)) = rpw p (rl l)
 | n, p, l, hn => by
  by_cases h : l = []
  ·subst h; rfl
  ·have h1 := dec_ge l h
   have hp : 0 < l.length := List.length_pos_iff.2 h
   cases n with
   | zero => omega
   | succ n =>
    rw [mks_cons p l h, rl_cons l h, List.map_cons, rpw, mks_rpw n _ _ (by rw [List.length_drop]; omega)]
    rfl
theorem rpw_get : ∀ (X : List (Nat × Nat)) (p k : Nat) (h : k < X.length), (rpw p X)[k]? = some (((p + psm (X.take k) : Nat) : Int), ((X[k]).2 : Int), ((X[k]).1 : Int))
 | [], _, _, h => by cases h
 | x :: X, p, 0, _ => by simp [rpw, psm]
 | x :: X, p, k + 1, h => by
  rw [rpw, List.getElem?_cons_succ, rpw_get X (p + x.2) k (by simpa using h), List.take_succ_cons, psm_cons, Nat.add_assoc]
  simp
theorem mks_at_k (l : List UInt8) (k : Nat) (h : k < (rl l).length) : ∃ m, (mks 0 l)[k]? = some m /\ m.pl = (pos l k : Nat) /\ m.wd = (((rl l)[k]).2 : Nat) /\ m.ru = (((rl l)[k]).1 : Nat) := by
 have h1 := mks_rpw _ 0 l (Nat.le_refl _)
 have h2 := rpw_get (rl l) 0 k h
 rw [<- h1, List.getElem?_map] at h2
 cases hm : (mks 0 l)[k]? with
 | none => rw [hm] at h2; cases h2
 | some m =>
  rw [hm] at h2
  have h3 := Option.some.inj h2
  simp only [Nat.zero_add, Prod.mk.injEq] at h3
  exact ⟨m, rfl, h3.1, h3.2.1, h3.2.2⟩
theorem mks_len (l : List UInt8) : (mks 0 l).length = (rl l).length := by
 have h1 := congrArg List.length (mks_rpw _ 0 l (Nat.le_refl _))
 rw [List.length_map] at h1
 have : ∀ (X : List (Nat × Nat)) (p : Nat), (rpw p X).length = X.length := by
  intro X
  induction X with
  | nil => intro p; rfl
  | cons x X ih => intro p; rw [rpw, List.length_cons, List.length_cons, ih]
 rw [h1, this]
theorem mkcs_get : ∀ (ms : List Mk) (k j : Nat) (m : Mk), ms[k]? = some m -> j < 4 -> (mkcs ms)[k * 4 + j]? = (mkc m)[j]?
 | [], k, j, m, h, _ => by simp at h
 | x :: ms, 0, j, m, h, hj => by
  simp at h; subst h
  show (mkc x ++ mkcs ms)[0 * 4 + j]? = _
  rw [Nat.zero_mul, Nat.zero_add, List.getElem?_append_left (by simpa [mkc] using hj)]
 | x :: ms, k + 1, j, m, h, hj => by
  show (mkc x ++ mkcs ms)[(k + 1) * 4 + j]? = _
  rw [List.getElem?_append_right (by simp [mkc]; omega)]
  have e : (k + 1) * 4 + j - (mkc x).length = k * 4 + j := by simp [mkc]; omega
  rw [e]; exact mkcs_get ms k j m (by simpa using h) hj
theorem ownsRow_base {w : World} {B B' e sz n : Nat} {v : Value} {xs : List Value} (h : w.ownsRow B e sz v n xs) (hb : B' <= B) : w.ownsRow B' e sz v n xs := by
 refine ⟨h.1, ?_⟩
 rcases h.2 with h0 | ⟨g, cap, cur, h1, h2, h3⟩
 ·exact .inl h0
 ·exact .inr ⟨g, cap, cur, h1, Nat.le_trans hb h2, h3⟩
theorem owns_form {w : World} {base e size n : Nat} {v : Value} {xs : List Value} (h : w.ownsRow base e size v n xs) : ∃ ao cap, v = .slice ao n cap /\ (0 < n -> ∃ g, ao = some ⟨g, 0, none⟩ /\ base <= g /\ g < w.heap.size) := by
 rcases h.2 with ⟨hv, h0⟩ | ⟨g, cap, cur, hv, hb, hg, _⟩
 ·exact ⟨none, 0, by rw [hv, h0], fun hn => by omega⟩
 ·exact ⟨_, cap, hv, fun _ => ⟨g, rfl, hb, (Array.getElem?_eq_some_iff.1 hg).1⟩⟩
theorem rl_len : ∀ (n : Nat) (l : List UInt8), l.length <= n -> (rl l).length <= l.length := fun n l _ => by
 have h := pos_mono l (rl l).length 0 (by omega)
 rw [Nat.zero_add, pos_0, pos_all l _ (Nat.le_refl _)] at h
 omega
def pre64 (ms : List Mk) (k : Nat) : List Value := ((ms.take k).map (·.pl)).map (Value.int .i64)
theorem pre64_succ (ms : List Mk) (k : Nat) (h : k < ms.length) : pre64 ms (k + 1) = pre64 ms k ++ [.int .i64 ms[k].pl] := by
 unfold pre64
 rw [List.take_succ_eq_append_getElem h, List.map_append, List.map_append]; rfl
theorem pre64_all (ms : List Mk) (k : Nat) (h : ¬ k < ms.length) : pre64 ms k = (ms.map (·.pl)).map (Value.int .i64) := by
 unfold pre64
 rw [List.take_of_length_le (by omega)]
set_option maxHeartbeats 1000000 in
theorem edges_any (l : List UInt8) (w : World) (hl : l.length <= 1000000000000) :
  Calls Tryz.prog 55 #[.string ⟨l.toArray⟩] w fun e w' => ∃ v, e = .returned v /\ w'.ownsRow w.heap.size 3 1 v (edg l).length ((edg l).map (Value.int .i64)) /\ Below w.heap.size w w' := by
 obtain ⟨i0, hi, hz0, hz1, hz2⟩ := info_parts Tryz.info3
 go_enter Tryz.func55, Tryz.ntmps55
 go_wp2_with fail
 refine (marks_any l _ hl).mono ?_
 rintro e w1 ⟨v, rfl, hown1, hb1⟩
 obtain ⟨ms, hms⟩ : ∃ ms, ms = mks 0 l := ⟨_, rfl⟩
 rw [<- hms] at hown1
 have hlen : ms.length <= l.length := by
  rw [hms, mks_len]; exact rl_len _ l (Nat.le_refl _)
 have HMS := hid hms
 obtain ⟨ao, cap, rfl, hao⟩ := owns_form hown1
 have hcell : ∀ (k : Nat) (m : Mk), ms[k]? = some m -> ∃ g, ao = some ⟨g, 0, none⟩ /\ g < w1.heap.size /\ w1.cell? ⟨g, k * 4, none⟩ = some (.int .i64 m.pl) := fun k m hk => by
  have hkl : k < ms.length := (List.getElem?_eq_some_iff.1 hk).1
  obtain ⟨g, hg, hg0, hg1⟩ := hao (by omega)
  have hc := hown1.cells (g := g) (by rw [hg]; rfl) (k * 4 + 0) (.int .i64 m.pl) (by rw [mkcs_get ms k 0 m hk (by omega)]; rfl)
  rw [show (⟨g, 0, none⟩ : Addr).add (k * 4 + 0) = ⟨g, k * 4, none⟩ by unfold Addr.add; split <;> simp_all] at hc
  exact ⟨g, hg, hg1, hc⟩
 have HCELL := hid hcell
 clear hcell hown1 hao hms
 go_wp2
 go_loopw [4, 5] (fun o i wr => ∃ k : Nat, k <= ms.length /\ i = .int .i64 k /\ wr.ownsRow w1.heap.size 3 1 o k (pre64 ms k) /\ Below w1.heap.size w1 wr) (fun _ i _ => ms.length - (intOf i).toNat)
 case atStart => exact ⟨0, by omega, rfl, World.ownsRow_nil _ _ _ _, Below.refl _ _⟩
 case round =>
  obtain ⟨k, hk, rfl, hown, hB⟩ := hrel
  have hs := hB.size
  by_cases hlt : k < ms.length
  ·obtain ⟨g, rfl, hg1, hcg⟩ := HCELL.out k ms[k] (List.getElem?_eq_getElem hlt)
   have hcw : wr.cell? ⟨g, k * 4, none⟩ = some (.int .i64 ms[k].pl) := (hB.cell (p := ⟨g, k * 4, none⟩) hg1).trans hcg
   obtain ⟨z, hz⟩ : ∃ z, z = ms[k].pl := ⟨_, rfl⟩
   rw [<- hz] at hcw
   have HZ := hid hz
   clear hz hcg
   go_wp2_with (at_builtin; refine wpList_append_own _ rfl _ _ 23 rfl w1.heap.size 3 i0 (.int .i64 0) 1 8 Tryz.underlying23 hi hz0 hz1 hz2 rfl (by decide) _ _ _ rfl (hown.alloc _) ⟨wr.heap.size, 0, none⟩ 1 1 [.int .i64 z] rfl rfl (news_one wr #[.int .i64 z] 3) (by intro u hu; simp at hu; subst hu; rfl) (by unfold maxLen; omega) (by omega) (by simp; omega) ?_)
   intro v' w2 hown' hgrow _
   have hB2 : Below w1.heap.size w1 w2 := (hB.alloc hB.size _).grown hgrow (by simp; omega) (fun k hk => (hown.lt k hk).1)
   have hown2 : w2.ownsRow w1.heap.size 3 1 v' (k + 1) (pre64 ms (k + 1)) := by rw [pre64_succ ms k hlt, <- HZ.out]; exact hown'
   clear hown' hgrow hown hB hcw
   go_wp2
   go_roundw
   case rel => exact ⟨k + 1, by omega, by go_num, hown2, hB2⟩
   case measure => simp [intOf]; omega
  ·have hke : k = ms.length := by omega
   have HKE := hid hke
   have HP := hid (pre64_all ms k hlt)
   have hk1 : k <= l.length := by omega
   clear hke
   go_wp2_with (at_builtin; refine wpList_append_own _ rfl _ _ 23 rfl w1.heap.size 3 i0 (.int .i64 0) 1 8 Tryz.underlying23 hi hz0 hz1 hz2 rfl (by decide) _ _ _ rfl (hown.alloc _) ⟨wr.heap.size, 0, none⟩ 1 1 [.int .i64 l.length] rfl rfl (news_one wr #[.int .i64 l.length] 3) (by intro u hu; simp at hu; subst hu; rfl) (by unfold maxLen; omega) (by omega) (by simp; omega) ?_)
   intro v' w2 hown' hgrow _
   have hB2 : Below w1.heap.size w1 w2 := (hB.alloc hB.size _).grown hgrow (by simp; omega) (fun k hk => (hown.lt k hk).1)
   have hfin : w2.ownsRow w.heap.size 3 1 v' (edg l).length ((edg l).map (Value.int .i64)) := by
    rw [HP.out] at hown'
    have e1 : (edg l).length = k + 1 := by unfold edg; rw [<- HMS.out]; have := HKE.out; simp; omega
    have e2 : (edg l).map (Value.int .i64) = (ms.map (·.pl)).map (Value.int .i64) ++ [.int .i64 l.length] := by unfold edg; rw [<- HMS.out]; simp
    rw [e1, e2]; exact ownsRow_base hown' hb1.size
   have HF := hid hfin
   have HB := hid (hb1.trans (hB2.mono hb1.size))
   clear hown' hgrow hown hB hB2 hfin
   go_wp2
   go_ret; exact ⟨_, rfl, HF.out, HB.out⟩
theorem edg_pos (l : List UInt8) : edg l = (List.range ((rl l).length + 1)).map fun k => (pos l k : Int) := by
 apply List.ext_getElem?
 intro k
 unfold edg
 by_cases h : k < (rl l).length
 ·obtain ⟨m, hm, hp, _⟩ := mks_at_k l k h
  rw [List.getElem?_append_left (by rw [List.length_map, mks_len]; exact h), List.getElem?_map, hm, List.getElem?_map, List.getElem?_range (by omega)]
  simp [hp]
 ·by_cases e : k = (rl l).length
  ·subst e
   rw [List.getElem?_append_right (by rw [List.length_map, mks_len]; exact Nat.le_refl _), List.length_map, mks_len, Nat.sub_self, List.getElem?_map, List.getElem?_range (by omega)]
   simp [pos_all]
  ·rw [List.getElem?_eq_none (by rw [List.length_append, List.length_map, mks_len]; simp; omega), List.getElem?_eq_none (by simp; omega)]
end Go.Proofs.YtdpohgoikbeplaaGreatDoor.Rf
namespace Go.Proofs.YtdpohgoikbeplaaGreatDoor.Rf
open Go.RowKit Go.Proofs.YtdpohgoikbeplaaGreatDoor.Wt
def RdM (w : World) (g : Nat) (l : List UInt8) : Prop := ∀ (k : Nat) (h : k < (rl l).length), w.cell? ⟨g, k * 4, none⟩ = some (.int .i64 (pos l k : Nat)) /\ w.cell? ⟨g, k * 4 + 1, none⟩ = some (.int .i64 (((rl l)[k]).2 : Nat)) /\ w.cell? ⟨g, k * 4 + 2, none⟩ = some (.int .i32 (((rl l)[k]).1 : Nat))
theorem RdM.below {w w' : World} {g N : Nat} {l : List UInt8} (h : RdM w g l) (hb : Below N w w') (hg : g < N) : RdM w' g l := fun k hk => by
 obtain ⟨h0, h1, h2⟩ := h k hk
 exact ⟨(hb.cell (p := ⟨g, k * 4, none⟩) hg).trans h0, (hb.cell (p := ⟨g, k * 4 + 1, none⟩) hg).trans h1, (hb.cell (p := ⟨g, k * 4 + 2, none⟩) hg).trans h2⟩
theorem marks_read (l : List UInt8) (w : World) (hl : l.length <= 100) :
  Calls Tryz.prog 88 #[.string ⟨l.toArray⟩] w fun e w' => (∃ ao c, e = .returned (.slice ao (rl l).length c) /\ (0 < (rl l).length -> ∃ g, ao = some ⟨g, 0, none⟩ /\ g < w'.heap.size /\ RdM w' g l)) /\ Below w.heap.size w w' := by
 refine (marks_any l w (by omega)).mono ?_
 rintro e w1 ⟨v, rfl, hown, be⟩
 refine ⟨?_, be⟩
 have hml := mks_len l
 rcases hown.2 with ⟨rfl, h0⟩ | ⟨g, cap, cur, rfl, hrest⟩
 ·refine ⟨none, 0, by rw [show (rl l).length = 0 by omega], fun h => by omega⟩
 ·refine ⟨some ⟨g, 0, none⟩, cap, by rw [hml], fun _ => ⟨g, rfl, (hown.lt g rfl).2, fun k hk => ?_⟩⟩
  obtain ⟨m, hm, e1, e2, e3⟩ := mks_at_k l k hk
  have hsz : ∀ j, j < 4 -> k * 4 + j < (mks 0 l).length * 4 := fun j hj => by rw [hml]; omega
  have hc : ∀ j, j < 4 -> w1.cell? ⟨g, k * 4 + j, none⟩ = (mkc m)[j]? := fun j hj => by
   rw [hown.cellAt (k * 4 + j) (hsz j hj)]
   exact mkcs_get (mks 0 l) k j m hm hj
  refine ⟨?_, ?_, ?_⟩
  ·have := hc 0 (by omega)
   rw [Nat.add_zero] at this
   rw [this, <- e1]; rfl
  ·rw [hc 1 (by omega), <- e2]; rfl
  ·rw [hc 2 (by omega), <- e3]; rfl
theorem pos_back2 (l : List UInt8) (k : Nat) (h : k < (rl l).length) : pos l (k + 1) = pos l k + ((rl l)[k]).2 := psm_take _ k h
end Go.Proofs.YtdpohgoikbeplaaGreatDoor.Rf
