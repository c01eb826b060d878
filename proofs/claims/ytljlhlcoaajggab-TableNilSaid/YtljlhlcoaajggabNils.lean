/- The contracts of package table's calls at a nil Table. -/
import Derived.Test.YtljlhlcoaajggabLive
namespace Go.Proofs.Ytljlhlcoaajggab
open Go.RowKit

theorem nil_map (v : Value) (w : World) : Calls Try.prog 4 #[.pointer none, v] w fun e w' => e = .returned (.tuple #[.pointer none, .int .i64 0]) ∧ Below w.heap.size w w' := by
  go_enter Try.func4, Try.ntmps4
  go_wp2
  go_ret2
  exact ⟨rfl, by first | exact Below.refl _ _ | exact (Below.refl _ _).alloc (Nat.le_refl _) _⟩
theorem nil_pair (w : World) : Calls Try.prog 5 #[.pointer none, .pointer none] w fun e w' => e = .returned (.tuple #[.pointer none, .slice none 0 0, .int .i64 0]) ∧ Below w.heap.size w w' := by
  go_enter Try.func5, Try.ntmps5
  go_wp2
  go_ret3
  exact ⟨rfl, by first | exact Below.refl _ _ | exact (Below.refl _ _).alloc (Nat.le_refl _) _⟩
theorem nil_get (r : Int) (w : World) : Calls Try.prog 8 #[.pointer none, .int .i32 r] w fun e w' => e = .returned (.int .i64 0) ∧ w' = w := by
  go_enter Try.func8, Try.ntmps8
  go_wp2
  go_ret
  exact ⟨rfl, rfl⟩
theorem nil_rest (w : World) : Calls Try.prog 9 #[.pointer none] w fun e w' => e = .returned (.int .i64 0) ∧ w' = w := by
  go_enter Try.func9, Try.ntmps9
  go_wp2
  go_ret
  exact ⟨rfl, rfl⟩
theorem nil_classes (s : ByteArray) (w : World) : Calls Try.prog 10 #[.pointer none, .string s] w fun e w' => e = .returned (.slice none 0 0) ∧ Below w.heap.size w w' := by
  go_enter Try.func10, Try.ntmps10
  go_wp2
  go_ret
  exact ⟨rfl, by first | exact Below.refl _ _ | exact (Below.refl _ _).alloc (Nat.le_refl _) _⟩
theorem nil_ranges (w : World) : Calls Try.prog 11 #[.pointer none] w fun e w' => e = .returned (.slice none 0 0) ∧ Below w.heap.size w w' := by
  go_enter Try.func11, Try.ntmps11
  go_wp2
  go_ret
  exact ⟨rfl, by first | exact Below.refl _ _ | exact (Below.refl _ _).alloc (Nat.le_refl _) _⟩
theorem nil_blocks (w : World) : Calls Try.prog 12 #[.pointer none] w fun e w' => e = .returned (.int .i64 0) ∧ w' = w := by
  go_enter Try.func12, Try.ntmps12
  go_wp2
  go_ret
  exact ⟨rfl, rfl⟩
theorem nil_count (c : Int) (w : World) : Calls Try.prog 13 #[.pointer none, .int .i64 c] w fun e w' => e = .returned (.int .i64 0) ∧ w' = w := by
  go_enter Try.func13, Try.ntmps13
  go_wp2
  go_ret
  exact ⟨rfl, rfl⟩
theorem nil_bytes (w : World) : Calls Try.prog 15 #[.pointer none] w fun e w' => e = .returned (.slice none 0 0) ∧ w' = w := by
  go_enter Try.func15, Try.ntmps15
  go_wp2
  go_ret
  exact ⟨rfl, rfl⟩
theorem eq_none (w : World) : Calls Try.prog 14 #[.pointer none, .pointer none] w fun e w' => e = .returned (.bool true) ∧ w' = w := by
  go_enter Try.func14, Try.ntmps14
  go_wp2
  go_ret
  exact ⟨rfl, rfl⟩
theorem eq_right (a : Addr) (w : World) : Calls Try.prog 14 #[.pointer (some a), .pointer none] w fun e w' => e = .returned (.bool false) ∧ w' = w := by
  go_enter Try.func14, Try.ntmps14
  go_wp2
  go_ret
  exact ⟨rfl, rfl⟩
theorem eq_left (a : Addr) (w : World) : Calls Try.prog 14 #[.pointer none, .pointer (some a)] w fun e w' => e = .returned (.bool false) ∧ w' = w := by
  have hp : ∀ W, (Op.equalIn 10000 22 (.pointer none) (.pointer (some a))).run Try.prog W = .ok false W := fun W => by
    unfold Op.equalIn
    rw [Sem.run_bind, run_underlying Try.underlying22 W]
    rfl
  have hq : ∀ W, (binOp .eql 22 (.pointer none) (.pointer (some a))).run Try.prog W = .ok (.bool false) W := fun W => by
    simp only [binOp]
    simp [Op.equal, Op.maxDepth, hp]
  clear hp
  go_enter Try.func14, Try.ntmps14
  go_wp2
  go_ret
  exact ⟨rfl, rfl⟩
theorem eq_nils (p q : Option Addr) (h : p = none ∨ q = none) (w : World) : Calls Try.prog 14 #[.pointer p, .pointer q] w fun e w' => e = .returned (.bool (p.isNone && q.isNone)) ∧ w' = w := by
  cases p with
  | none =>
    cases q with
    | none => exact eq_none w
    | some a => exact eq_left a w
  | some a =>
    cases q with
    | none => exact eq_right a w
    | some b => rcases h with h | h <;> cases h
theorem rd_nil (w : World) : RdK w none [] := fun k g hk => by simp at hk

set_option maxHeartbeats 4000000 in
set_option maxRecDepth 100000 in
theorem nil_walk (r : Int) (s : ByteArray) (w : World) : Calls Try.prog 3 #[.int .i32 r, .string s] w fun e w' => e = .returned (.bool true) ∧ Below w.heap.size w w' := by
  have HB0 := hid ((Below.refl w.heap.size w).alloc (Nat.le_refl _) (.cells #[.int .i64 1] 3))
  go_enter Try.func3, Try.ntmps3
  go_wp2_with fail
  refine (nil_map _ _).mono ?_
  rintro e w1 ⟨rfl, b1⟩
  have HB1 := hid (HB0.out.trans (b1.mono (by simp)))
  clear b1
  go_wp2_with fail
  refine (nil_pair _).mono ?_
  rintro e w2 ⟨rfl, b2⟩
  have HB2 := hid (HB1.out.trans (b2.mono HB1.out.size))
  clear b2
  have HBU := hid (build_any none 0 [] 1 w2 (rd_nil w2) (by decide))
  go_wp2_with fail
  refine HBU.out.mono ?_
  rintro e w3 ⟨b3, hc⟩
  have hbo : bo [] 1 = none := by decide
  rw [hbo] at hc
  rcases hc with ⟨c, k, hc, _⟩ | ⟨_, T, F, rfl, _, _, _, _⟩
  · cases hc
  have HB3 := hid (HB2.out.trans (b3.mono HB2.out.size))
  clear b3 HBU hbo
  go_wp2_with (first
    | (go_at_call 7; refine (num_any _ _).mono ?_; rintro e w9 ⟨rfl, h9⟩; obtain rfl := h9.symm)
    | (go_at_call 8; refine (nil_get _ _).mono ?_; rintro e w9 ⟨rfl, h9⟩; obtain rfl := h9.symm)
    | (go_at_call 9; refine (nil_rest _).mono ?_; rintro e w9 ⟨rfl, h9⟩; obtain rfl := h9.symm)
    | fail)
  refine (nil_classes _ _).mono ?_
  rintro e w4 ⟨rfl, b4⟩
  have HB4 := hid (HB3.out.trans (b4.mono HB3.out.size))
  clear b4
  go_wp2_with fail
  refine (nil_ranges _).mono ?_
  rintro e w5 ⟨rfl, b5⟩
  have HB5 := hid (HB4.out.trans (b5.mono HB4.out.size))
  clear b5
  go_wp2_with (first
    | (go_at_call 7; refine (num_any _ _).mono ?_; rintro e w9 ⟨rfl, h9⟩; obtain rfl := h9.symm)
    | (go_at_call 12; refine (nil_blocks _).mono ?_; rintro e w9 ⟨rfl, h9⟩; obtain rfl := h9.symm)
    | (go_at_call 13; refine (nil_count _ _).mono ?_; rintro e w9 ⟨rfl, h9⟩; obtain rfl := h9.symm)
    | (go_at_call 15; refine (nil_bytes _).mono ?_; rintro e w9 ⟨rfl, h9⟩; obtain rfl := h9.symm)
    | (go_at_call 14; refine (eq_nils _ _ (by simp) _).mono ?_; rintro e w9 ⟨rfl, h9⟩; obtain rfl := h9.symm)
    | fail)
  refine (live_any _).mono ?_
  rintro e w6 ⟨rfl, b6⟩
  have HB6 := hid (HB5.out.trans (b6.mono HB5.out.size))
  clear b6
  go_wp2
  go_ret
  exact ⟨rfl, HB6.out⟩
end Go.Proofs.Ytljlhlcoaajggab
