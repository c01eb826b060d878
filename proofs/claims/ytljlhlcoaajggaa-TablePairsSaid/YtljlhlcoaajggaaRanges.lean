/- The contract of Ranges (package table). -/
import Derived.Test.YtljlhlcoaajggaaDelete
namespace Go.Proofs.Ytljlhlcoaajggaa
open Go.RowKit

/-- The ranges of a list of classes, those of the rest left out. -/
def rgs (r : Nat) (C : List Nat) : List Tr := fil r (rlA 0 [] C)

set_option maxHeartbeats 2000000 in
set_option maxRecDepth 100000 in
theorem ranges_any (B T rest : Nat) (F : List (List Nat)) (w : World) (h : TbAt B T F rest w) (hr : rest < 256) :
    Calls Try.prog 32 #[.pointer (some ⟨T, 0, none⟩)] w fun e w' => ∃ v', e = .returned v' ∧ w'.ownsRow w.heap.size 36 3 v' (rgs rest F.flatten).length (rks (rgs rest F.flatten)) ∧ Below w.heap.size w w' := by
  have hTw : T < w.heap.size := by obtain ⟨g, cap, hT, _⟩ := h; exact lt_of_heap hT
  have hfl : F.flatten.length = 1114112 := by obtain ⟨g, cap, _, _, ho, _, hF⟩ := h; rw [flat_len F ho, hF]
  have HB0 := hid ((Below.refl w.heap.size w).alloc (Nat.le_refl _) (.cells #[.pointer (some ⟨T, 0, none⟩)] 28))
  have HT0 := hid (h.below HB0.out)
  have HW := hid (whole_any B T rest F _ HT0.out)
  have HX := hid (heap_alloc_new w (.cells #[.pointer (some ⟨T, 0, none⟩)] 28))
  have HLL := hid (show (rlA 0 [] F.flatten).length ≤ 100000000 by have := rlA_len F.flatten 0 []; rw [hfl] at this; simp at this; omega)
  clear h hfl
  go_enter Try.func32, Try.ntmps32
  go_wp2_with fail
  refine HW.out.mono ?_
  rintro e w1 ⟨v1, rfl, o1, b1⟩
  have x0 := (b1.block w.heap.size (by simp)).trans HX.out
  have HC := hid (cell_of_row w1 w.heap.size 0 _ 28 (0, 0) x0)
  have HT1 := hid (HT0.out.below b1)
  have hs1 := b1.size
  simp only [World.size_alloc] at o1 b1 hs1
  have HDL := hid (delete_any (w.heap.size + 1) w.heap.size T rest v1 (rlA 0 [] F.flatten) w1 o1 (by omega) HLL.out (by omega) (by omega) HC.out HT1.out.rest_cell hr)
  have HB1 := hid (HB0.out.trans (b1.mono (by omega)))
  clear o1 b1 x0 hs1 HW
  go_wp2_with fail
  refine HDL.out.mono ?_
  rintro e w2 ⟨v2, rfl, o2, b2⟩
  have HO2 := hid (own_mono o2 (show w.heap.size ≤ w.heap.size + 1 by omega))
  have HB2 := hid (HB1.out.trans (b2.mono (by omega)))
  clear o2 b2 HDL
  go_wp2
  go_ret
  exact ⟨v2, rfl, HO2.out, HB2.out⟩
end Go.Proofs.Ytljlhlcoaajggaa
