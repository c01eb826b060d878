/- A block in a slice of its own. -/
import Derived.Test.YtljlhlcoaajggaaNumber
namespace Go.Proofs.Ytljlhlcoaajggaa
open Go.RowKit

theorem fold_set : ∀ (l : List Value) (k : Nat) (z : Array Value), z.size = k + l.length → (l.zipIdx k).foldl (fun acc (p : Value × Nat) => acc.setIfInBounds (0 + p.2) p.1) z = (z.toList.take k ++ l).toArray
  | [], k, z, h => by
    rw [List.take_of_length_le (by simp at h; simp; omega)]
    simp
  | x :: l, k, z, h => by
    rw [List.zipIdx_cons, List.foldl_cons]
    rw [fold_set l (k + 1) _ (by simp at h ⊢; omega)]
    congr 1
    have hk : k < z.toList.length := by simp at h ⊢; omega
    have e : (z.setIfInBounds (0 + k) x).toList.take (k + 1) = z.toList.take k ++ [x] := by
      rw [Nat.zero_add, Array.toList_setIfInBounds, List.take_succ_eq_append_getElem (by simpa using hk), List.getElem_set_self, List.take_set_of_le (Nat.le_refl _)]
    rw [e]
    simp
theorem fill_one (cs z : Array Value) (h : cs.size = 128) (hz : z.size = 128) : Instr.fill (fun i => some (i * 128, 128)) z [(0, .agg cs)] = some cs := by
  unfold Instr.fill
  simp only [Value.cells, h, hz]
  unfold Instr.fill
  have e := fold_set cs.toList 0 z (by simp [h, hz])
  have e2 : (cs.zipIdx.foldl (fun acc (p : Value × Nat) => acc.setIfInBounds (0 + p.2) p.1) z) = cs := by
    rw [← Array.foldl_toList, Array.toList_zipIdx]
    rw [e]
    simp
  simp only [Nat.zero_mul]
  simpa using e2
theorem zero82 (w : World) : (zeroValue 82).run Try.prog w = .ok (.agg (Array.replicate 128 (.int .u8 0))) w := by kernel_rfl
theorem size82 (w : World) : (sizeOf 82).run Try.prog w = .ok 128 w := by kernel_rfl
theorem run_build82 (w : World) (cs : List Value) (h : cs.length = 128) : (Instr.buildSlice 77 1 #[(0, .agg cs.toArray)]).run Try.prog w = .ok (.slice (some ⟨w.heap.size, 0, none⟩) 1 1) (w.alloc (.cells cs.toArray 82)) := by
  have hf := fun z hz => fill_one cs.toArray z (by simpa using h) hz
  unfold Instr.buildSlice
  rw [Sem.run_bind, run_underlying Try.underlying77 w, Result.andThen_ok]
  simp only []
  rw [Sem.run_bind, size82 w, Result.andThen_ok]
  rw [if_neg (by decide), if_neg (by decide)]
  rw [Sem.run_bind, zero82 w, Result.andThen_ok]
  simp only [pure_bind]
  rw [hf _ (by simp)]
  rfl
end Go.Proofs.Ytljlhlcoaajggaa
