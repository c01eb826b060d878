/- A new maker; the contract of made (package table). -/
import Derived.Test.YtljlhlcoaajggaaMade1
namespace Go.Proofs.Ytljlhlcoaajggaa
open Go.RowKit Go.Maps Go.WideMaps

theorem run_build103 (w : World) (T K : Nat) : (Instr.build 103 #[(0, .pointer (some ⟨T, 0, none⟩)), (1, .map (some K))]).run Try.prog w = .ok (.agg (mkc T K (List.replicate 128 0) 0).toArray) w := by kernel_rfl
theorem run_alloc103 (w : World) : (Instr.alloc 103 true (.tuple #[])).run Try.prog w = .ok (.pointer (some ⟨w.heap.size, 0, none⟩)) (w.alloc (.cells z103.toArray 103)) := by kernel_rfl
theorem run_box79 (w : World) (r : Nat) : (Instr.box 79 (.agg (tb0 r))).run Try.prog w = .ok (.pointer (some ⟨w.heap.size, 0, none⟩)) (w.alloc (.cells (tb0 r) 79)) := rfl
theorem set_cells (b : Nat) (t : TypeId) : ∀ (cs l : List Value) (o : Nat) (w : World), w.heap[b]? = some (.cells l.toArray t (0, 0)) → o + cs.length ≤ l.length → (w.setCells b o cs).heap[b]? = some (.cells (l.take o ++ cs ++ l.drop (o + cs.length)).toArray t (0, 0))
  | [], l, o, w, h, _ => by
    show w.heap[b]? = _
    rw [h]
    simp
  | v :: cs, l, o, w, h, hl => by
    have hl2 : o + 1 + cs.length ≤ (l.set o v).length := by simp at hl ⊢; omega
    have hol : o < l.length := by simp at hl; omega
    have h2 := set_cells b t cs (l.set o v) (o + 1) _ (set_row w b o l t v h) hl2
    show ((w.setCell ⟨b, o, none⟩ v).setCells b (o + 1) cs).heap[b]? = _
    rw [h2]
    have e1 : (l.set o v).take (o + 1) = l.take o ++ [v] := by
      rw [List.take_succ_eq_append_getElem (by simpa using hol), List.getElem_set_self, List.take_set_of_le (Nat.le_refl _)]
    have e2 : (l.set o v).drop (o + 1 + cs.length) = l.drop (o + (v :: cs).length) := by
      rw [List.drop_set_of_lt (by omega)]
      simp only [List.length_cons]
      rw [show o + 1 + cs.length = o + (cs.length + 1) by omega]
    rw [e1, e2]
    simp
theorem mkc_len (T K : Nat) : (mkc T K (List.replicate 128 0) 0).length = 131 := by kernel_rfl
theorem mkc_one (T K : Nat) (op : List Nat) (n : Nat) : ∀ v ∈ mkc T K op n, v.oneCell' = true := fun v hv => by
  unfold mkc at hv
  rcases List.mem_cons.1 hv with rfl | hv
  · rfl
  rcases List.mem_cons.1 hv with rfl | hv
  · rfl
  rcases List.mem_append.1 hv with hv | hv
  · exact u8n_one op v hv
  · rw [List.mem_singleton.1 hv]; rfl
/-- What made lays first. -/
def wNew (r : Nat) (w : World) : World := ((w.alloc (.cells (tb0 r) 79)).alloc (.map #[] 0)).alloc (.cells z103.toArray 103)
theorem wNew_M (r : Nat) (w : World) : (wNew r w).heap[w.heap.size + 2]? = some (.cells z103.toArray 103 (0, 0)) := by
  show (((w.heap.push _).push _).push _)[w.heap.size + 2]? = _
  rw [Array.getElem?_push, if_pos (by simp)]
theorem wNew_T (r : Nat) (w : World) : (wNew r w).heap[w.heap.size]? = some (.cells (tb0 r) 79 (0, 0)) := by
  show (((w.heap.push _).push _).push _)[w.heap.size]? = _
  rw [Array.getElem?_push, if_neg (by simp; omega), Array.getElem?_push, if_neg (by simp), Array.getElem?_push, if_pos rfl]
theorem z103_len : z103.length = 131 := by kernel_rfl
theorem run_store103 (r : Nat) (w : World) : (Instr.storeAt 103 (.pointer (some ⟨w.heap.size + 2, 0, none⟩)) (.agg (mkc w.heap.size (w.heap.size + 1) (List.replicate 128 0) 0).toArray)).run Try.prog (wNew r w) = .ok () ((wNew r w).setCells (w.heap.size + 2) 0 (mkc w.heap.size (w.heap.size + 1) (List.replicate 128 0) 0)) := by
  have h := run_storeAt_mid (P := Try.prog) (wNew r w) (w.heap.size + 2) 0 103 (mkc w.heap.size (w.heap.size + 1) (List.replicate 128 0) 0).toArray (fun j hj => by
    rw [List.size_toArray, mkc_len] at hj
    rw [Nat.zero_add]
    refine ⟨?_, frozen_row (wNew_M r w) j⟩
    rw [cell_row (wNew r w) _ j z103 103 (z103[j]'(by rw [z103_len]; exact hj)) (wNew_M r w) (List.getElem?_eq_getElem _)]
    rfl) (by rw [List.size_toArray, mkc_len]; kernel_rfl) (all_oneCell_toArray (mkc_one _ _ _ _))
  simpa using h
end Go.Proofs.Ytljlhlcoaajggaa
