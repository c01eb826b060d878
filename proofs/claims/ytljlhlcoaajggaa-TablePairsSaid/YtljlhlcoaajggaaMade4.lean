/- Rising ranges and their classes; what made lays first, as the walk spells it. -/
import Derived.Test.YtljlhlcoaajggaaMade3
namespace Go.Proofs.Ytljlhlcoaajggaa
open Go.RowKit Go.Maps Go.WideMaps

def rkT (g : Tr) : Rk := ((g.1 : Int), (g.2.1 : Int), (g.2.2 : Int))
/-- Ranges that rise, from b on. -/
def Ris : Nat → List Tr → Prop
  | _, [] => True
  | b, g :: l => b ≤ g.1 ∧ g.1 ≤ g.2.1 ∧ g.2.1 ≤ 1114111 ∧ g.2.2 < 256 ∧ Ris (g.2.1 + 1) l
/-- The classes from b on, as far as the ranges go. -/
def clq (r : Nat) : Nat → List Tr → List Nat
  | _, [] => []
  | b, g :: l => List.replicate (g.1 - b) r ++ (List.replicate (g.2.1 + 1 - g.1) g.2.2 ++ clq r (g.2.1 + 1) l)
/-- The classes of all numbers. -/
def clA (r : Nat) (l : List Tr) : List Nat := clq r 0 l ++ List.replicate (1114112 - (clq r 0 l).length) r

theorem tb0_eq (r : Nat) : Try.zeroCells79.setIfInBounds 8705 (.int .u8 (r : Int)) = tb0 r := by
  apply Array.toList_inj.1
  rw [Array.toList_setIfInBounds, cells79, tbc_rest _ _ _ _ List.length_replicate]
  rfl
theorem z103_eq : Try.zeroCells103 = z103.toArray := by kernel_rfl
theorem mkc_eq (T K : Nat) : (Try.zeroCells103.toList.set 0 (.pointer (some ⟨T, 0, none⟩))).set 1 (.map (some K)) = mkc T K (List.replicate 128 0) 0 := by kernel_rfl
theorem run_new (r : Nat) (w : World) : (storeCells ⟨w.heap.size + 1 + 1, 0, none⟩ ((Try.zeroCells103.toList.set 0 (.pointer (some ⟨w.heap.size, 0, none⟩))).set 1 (.map (some (w.heap.size + 1))))).run Try.prog
    (((w.alloc (.cells (Try.zeroCells79.setIfInBounds 8705 (.int .u8 (r : Int))) 79)).alloc (.map #[] 0)).alloc (.cells Try.zeroCells103 103)) = .ok () (wMade r w) := by
  rw [mkc_eq, tb0_eq, z103_eq]
  have h := run_storeCells_cells (P := Try.prog) (w.heap.size + 2) 0 (mkc w.heap.size (w.heap.size + 1) (List.replicate 128 0) 0) 0 (wNew r w) (fun j hj => by
    rw [mkc_len] at hj
    rw [show 0 + 0 + j = j by omega, cell_row (wNew r w) _ j z103 103 (z103[j]'(by rw [z103_len]; exact hj)) (wNew_M r w) (List.getElem?_eq_getElem _)]
    rfl) (fun j _ => by rw [show 0 + 0 + j = j by omega]; exact frozen_row (wNew_M r w) j) (mkc_one _ _ _ _)
  exact h

end Go.Proofs.Ytljlhlcoaajggaa
