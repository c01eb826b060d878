/- What runner begins with. -/
import Derived.Test.YteacehfihogmpaaDoorRunMem2
import Derived.Laws.MakeOwn
namespace Go.Proofs.YteacehfihogmpaaDoor
open Go.RowKit
def eS (L : List St) : Nat := (L.map fun s => s.1.length).sum
def fS (L : List St) : Nat := (L.map fun s => s.2.length).sum
theorem eS_take (L : List St) (k : Nat) (h : k < L.length) : eS (L.take (k + 1)) = eS (L.take k) + L[k].1.length := by
  unfold eS; rw [List.take_succ_eq_append_getElem h, List.map_append, List.sum_append]; simp
theorem fS_take (L : List St) (k : Nat) (h : k < L.length) : fS (L.take (k + 1)) = fS (L.take k) + L[k].2.length := by
  unfold fS; rw [List.take_succ_eq_append_getElem h, List.map_append, List.sum_append]; simp
theorem eS_le (L : List St) (k : Nat) : eS (L.take k) ≤ eS L := by
  have h : eS L = eS (L.take k) + eS (L.drop k) := by
    unfold eS; rw [← List.sum_append, ← List.map_append, List.take_append_drop]
  omega
theorem fS_le (L : List St) (k : Nat) : fS (L.take k) ≤ fS L := by
  have h : fS L = fS (L.take k) + fS (L.drop k) := by
    unfold fS; rw [← List.sum_append, ← List.map_append, List.take_append_drop]
  omega
theorem Tryd.info133 : (Tryd.prog.info? 133).map (fun i => (i.zero, i.size, i.bytes)) = some (some (.slice none 0 0), 1, 24) := by kernel_rfl
theorem Tryd.info22 : (Tryd.prog.info? 22).map (fun i => (i.zero, i.size, i.bytes)) = some (some (.slice none 0 0), 1, 24) := by kernel_rfl
theorem Tryd.info135 : (Tryd.prog.info? 135).map (fun i => (i.zero, i.size, i.bytes)) = some (some (.agg #[.int .u64 0, .int .i64 0]), 2, 16) := by kernel_rfl
theorem mkS {t e : TypeId} {i : TypeInfo} {z : Value} {by_ : Nat} (ht : Tryd.prog.underlying t = some (.slice e)) (hi : Tryd.prog.info? e = some i) (hz : i.zero = some z) (h1 : i.size = 1) (h2 : i.bytes = by_) (hb : by_ ≤ 24) (n : Nat) (hn : n ≤ 1000000) (W : World) :
    (Instr.makeSlice t (.int .i64 (n : Int)) (.int .i64 (n : Int))).run Tryd.prog W = .ok (.slice (some ⟨W.heap.size, 0, none⟩) n n) (W.alloc (.cells (madeCells z.cells n) e)) := by
  have h := run_make (P := Tryd.prog) W t e i z ht hi hz .i64 .i64 (n : Int) (n : Int) (by omega) (Int.le_refl _) (by rw [h2]; have : (by_ : Int) * (n : Int) ≤ 24 * 1000000 := Int.mul_le_mul (by omega) (by omega) (by omega) (by omega); omega) (by omega)
  rw [h1, Nat.mul_one] at h
  simpa using h
/-- A piece of code that ends as it should, and what it leaves. -/
theorem wp_mid {P : Program} {c : Code} {Q : Exit → Act → World → Prop} {a : Act} {w : World} (R : Act → World → Prop) (h1 : c.wp P (fun e a' w' => e = .normal ∧ R a' w') a w) (h2 : ∀ a' w', R a' w' → Q .normal a' w') : c.wp P Q a w :=
  Code.wp_mono (fun e a' w' h => by obtain ⟨rfl, h⟩ := h; exact h2 a' w' h) h1
theorem al_old (w : World) (o : Obj) {k : Nat} (hk : k < w.heap.size) : (w.alloc o).heap[k]? = w.heap[k]? := (World.grownBy_alloc w o none).block k hk (by simp)
theorem al_new (w : World) (o : Obj) {k : Nat} (hk : k = w.heap.size) : (w.alloc o).heap[k]? = some o := by rw [hk]; exact heap_alloc_new w o
theorem alloc4 (w : World) (o1 o2 o3 o4 : Obj) : ((((w.alloc o1).alloc o2).alloc o3).alloc o4).drew.heap[w.heap.size]? = some o1 ∧ ((((w.alloc o1).alloc o2).alloc o3).alloc o4).drew.heap[w.heap.size + 1]? = some o2 ∧ ((((w.alloc o1).alloc o2).alloc o3).alloc o4).drew.heap[w.heap.size + 1 + 1]? = some o3 ∧ ((((w.alloc o1).alloc o2).alloc o3).alloc o4).drew.heap[w.heap.size + 1 + 1 + 1]? = some o4 ∧ Below w.heap.size w ((((w.alloc o1).alloc o2).alloc o3).alloc o4).drew := by
  refine ⟨?_, ?_, ?_, ?_, ?_⟩
  · show ((((w.alloc o1).alloc o2).alloc o3).alloc o4).heap[w.heap.size]? = _
    rw [al_old _ _ (by simp; omega), al_old _ _ (by simp; omega), al_old _ _ (by simp), al_new _ _ rfl]
  · show ((((w.alloc o1).alloc o2).alloc o3).alloc o4).heap[w.heap.size + 1]? = _
    rw [al_old _ _ (by simp), al_old _ _ (by simp), al_new _ _ (by simp)]
  · show ((((w.alloc o1).alloc o2).alloc o3).alloc o4).heap[w.heap.size + 1 + 1]? = _
    rw [al_old _ _ (by simp), al_new _ _ (by simp)]
  · show ((((w.alloc o1).alloc o2).alloc o3).alloc o4).heap[w.heap.size + 1 + 1 + 1]? = _
    rw [al_new _ _ (by simp)]
  · exact (((((Below.refl _ _).alloc (Nat.le_refl _) _).alloc (by simp) _).alloc (by simp; omega) _).alloc (by simp; omega) _).drew
theorem alloc2 (w : World) (o1 o2 : Obj) : ((w.alloc o1).alloc o2).drew.heap[w.heap.size]? = some o1 ∧ ((w.alloc o1).alloc o2).drew.heap[w.heap.size + 1]? = some o2 ∧ Below w.heap.size w ((w.alloc o1).alloc o2).drew := by
  refine ⟨?_, ?_, ?_⟩
  · show ((w.alloc o1).alloc o2).heap[w.heap.size]? = _
    rw [al_old _ _ (by simp), al_new _ _ rfl]
  · show ((w.alloc o1).alloc o2).heap[w.heap.size + 1]? = _
    rw [al_new _ _ (by simp)]
  · exact (((Below.refl _ _).alloc (Nat.le_refl _) _).alloc (by simp) _).drew
theorem mkZ {t e : TypeId} {i : TypeInfo} {z : Value} {by_ sz : Nat} (ht : Tryd.prog.underlying t = some (.slice e)) (hi : Tryd.prog.info? e = some i) (hz : i.zero = some z) (h1 : i.size = sz) (h2 : i.bytes = by_) (hb : by_ ≤ 24) (n : Nat) (hn : n ≤ 1000000) (W : World) :
    (Instr.makeSlice t (.int .i64 0) (.int .i64 (n : Int))).run Tryd.prog W = .ok (.slice (some ⟨W.heap.size, 0, none⟩) 0 n) (W.alloc (.cells (madeCells z.cells (n * sz)) e)) := by
  have h := run_make (P := Tryd.prog) W t e i z ht hi hz .i64 .i64 0 (n : Int) (by omega) (by omega) (by rw [h2]; have : (by_ : Int) * (n : Int) ≤ 24 * 1000000 := Int.mul_le_mul (by omega) (by omega) (by omega) (by omega); omega) (by omega)
  rw [h1] at h
  simpa using h
theorem zeros (n : Nat) : madeCells (Value.int .i64 0).cells n = (i64s (List.replicate n 0)).toArray := by
  apply Array.ext'
  apply List.ext_getElem?
  intro k
  rw [Array.getElem?_toList, List.toList_toArray, i64s_at, List.getElem?_replicate]
  unfold madeCells
  rw [Array.getElem?_map, Array.getElem?_range]
  split
  · have e : k % (Value.int .i64 0).cells.size = 0 := Nat.mod_one k
    simp only [Option.map_some, e]
    rfl
  · rfl
end Go.Proofs.YteacehfihogmpaaDoor
