/- EditNil: the walk. -/
import Derived.Test.YtkjnaamlhkldmabEnC
namespace Go.Proofs.Ytkjnaamlhkldmab
open Ev Go.RowKit
theorem cells_below {w w' : World} {b : Nat} {x y : Value} (h : w.heap[b]? = some (.cells #[x, y] 24)) (hb : Below w.heap.size w w') : w'.heap[b]? = some (.cells #[x, y] 24) := (hb.block b (Array.getElem?_eq_some_iff.1 h).1).trans h
set_option maxHeartbeats 8000000 in
set_option maxRecDepth 100000 in
theorem en_walk (a b : Value) (n : Int) (w : World) : Calls Try.prog 5 #[.agg #[a, b], .int .i64 n] w fun e w' => e = .returned (.bool true) ∧ Below w.heap.size w w' := by
  have HB0 := hid0 ((Below.refl w.heap.size w).alloc (Nat.le_refl _) (.cells #[a, b] 24))
  go_enter Try.func5, Try.ntmps5
  go_wp2_with fail
  refine (c_do a b _).mono ?_
  rintro e w1 ⟨rfl, b1⟩
  have HB1 := hid0 (HB0.out.trans (b1.mono HB0.out.size))
  clear b1
  go_wp2_with fail
  refine (c_go n w1).mono ?_
  rintro e w2 ⟨rfl, b2⟩
  have HB2 := hid0 (HB1.out.trans (b2.mono HB1.out.size))
  clear b2
  go_wp2_with fail
  obtain ⟨w3, hw3⟩ : ∃ W, W = w2.alloc (.cells #[.int .i64 0, .slice none 0 0] 24) := ⟨_, rfl⟩
  obtain ⟨g, hg⟩ : ∃ g, g = w2.heap.size := ⟨_, rfl⟩
  have HB3 := hid0 (show Below w.heap.size w w3 by rw [hw3]; exact HB2.out.alloc HB2.out.size _)
  have HD3 := hid0 (show w3.heap[g]? = some (.cells #[.int .i64 0, .slice none 0 0] 24) by rw [hw3, hg]; exact World.alloc_heap_new _ _)
  rw [← hw3, ← hg]
  clear hw3 hg
  refine (c_num w3).mono ?_
  rintro e w4 ⟨rfl, bk⟩
  have HB4 := hid0 (HB3.out.trans (bk.mono HB3.out.size))
  have HD4 := hid0 (cells_below HD3.out bk)
  clear bk
  go_wp2_with fail
  refine (c_undo w4).mono ?_
  rintro e w5 ⟨rfl, bk⟩
  have HB5 := hid0 (HB4.out.trans (bk.mono HB4.out.size))
  have HD5 := hid0 (cells_below HD4.out bk)
  clear bk
  go_wp2_with fail
  refine (c_redo n w5).mono ?_
  rintro e w6 ⟨rfl, bk⟩
  have HB6 := hid0 (HB5.out.trans (bk.mono HB5.out.size))
  have HD6 := hid0 (cells_below HD5.out bk)
  clear bk
  have c0 : w6.cell? ⟨g, 0, none⟩ = some (.int .i64 0) := by rw [Lib.cell_of_heap HD6.out]; rfl
  have c1 : w6.cell? ⟨g, 1, none⟩ = some (.slice none 0 0) := by rw [Lib.cell_of_heap HD6.out]; rfl
  go_wp2_with fail
  refine (c_equal w6).mono ?_
  rintro e w7 ⟨rfl, bk⟩
  have HB7 := hid0 (HB6.out.trans (bk.mono HB6.out.size))
  clear bk
  clear c0 c1
  go_wp2_with fail
  refine (c_num w7).mono ?_
  rintro e w8 ⟨rfl, bk⟩
  have HB8 := hid0 (HB7.out.trans (bk.mono HB7.out.size))
  clear bk
  go_wp2_with fail
  refine (c_text w8).mono ?_
  rintro e w9 ⟨rfl, bk⟩
  have HB9 := hid0 (HB8.out.trans (bk.mono HB8.out.size))
  clear bk
  go_wp2_with fail
  refine (c_node w9).mono ?_
  rintro e w10 ⟨rfl, bk⟩
  have HB10 := hid0 (HB9.out.trans (bk.mono HB9.out.size))
  clear bk
  go_wp2_with fail
  refine (c_kids w10).mono ?_
  rintro e w11 ⟨rfl, bk⟩
  have HB11 := hid0 (HB10.out.trans (bk.mono HB10.out.size))
  clear bk
  go_wp2_with fail
  refine (c_len w11).mono ?_
  rintro e w12 ⟨rfl, bk⟩
  have HB12 := hid0 (HB11.out.trans (bk.mono HB11.out.size))
  clear bk
  go_wp2_with fail
  refine (c_live w12).mono ?_
  rintro e w13 ⟨rfl, bk⟩
  have HB13 := hid0 (HB12.out.trans (bk.mono HB12.out.size))
  clear bk
  go_wp2
  go_ret
  exact ⟨rfl, HB13.out⟩
end Go.Proofs.Ytkjnaamlhkldmab
