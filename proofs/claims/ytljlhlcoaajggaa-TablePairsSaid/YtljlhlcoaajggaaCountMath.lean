/- How many of a class; a block laid in a variable of its own. -/
import Derived.Test.YtljlhlcoaajggaaParts
import Derived.Deep.MidRow
namespace Go.Proofs.Ytljlhlcoaajggaa
open Go.RowKit

/-- How many numbers have a class. -/
def cz (cl : Int) (C : List Nat) : Nat := C.countP fun (c : Nat) => decide ((c : Int) = cl)
theorem cz_flat (cl : Int) : ∀ F : List (List Nat), cz cl F.flatten = (F.map (cz cl)).sum
  | [] => rfl
  | b :: F => by
    have := cz_flat cl F
    unfold cz at this ⊢
    rw [List.flatten_cons, List.countP_append, this]; rfl
theorem cz_fst (cl : Int) (F : List (List Nat)) : ((fst F).map fun k => cz cl ((uq F)[k]?.getD [])).sum = cz cl F.flatten := by
  rw [cz_flat]
  unfold fst
  rw [List.map_map]
  congr 1
  apply List.map_congr_left
  intro b hb
  show cz cl ((uq F)[ix F b]?.getD []) = _
  rw [ix_get hb]; rfl
theorem cz_le (cl : Int) (C : List Nat) : cz cl C ≤ C.length := List.countP_le_length
theorem cz_snoc (cl : Int) (C : List Nat) (c : Nat) : cz cl (C ++ [c]) = cz cl C + if (c : Int) = cl then 1 else 0 := by
  unfold cz
  rw [List.countP_append, List.countP_singleton]
  by_cases h : (c : Int) = cl
  · rw [if_pos h]; simp [h]
  · rw [if_neg h]; simp [h]
theorem below_sets {B b : Nat} (hb : B ≤ b) : ∀ (vs : List Value) (o : Nat) (w : World), Below B w (w.setCells b o vs)
  | [], _, _ => Below.refl _ _
  | v :: r, o, w => ((Below.refl B w).setCell (p := ⟨b, o, none⟩) hb v).trans (below_sets hb r (o + 1) _)
/-- The world with a block in a variable of its own. -/
noncomputable def wCopy (b : List Nat) (w : World) : World := (w.alloc (.cells Try.zeroCells82 82)).setCells w.heap.size 0 (u8n b)
theorem zc82 : Try.zeroCells82.size = 128 := by kernel_rfl
theorem there82 (w : World) : (w.alloc (.cells Try.zeroCells82 82)).there w.heap.size 0 128 := fun j hj => by
  have h := heap_alloc_new w (.cells Try.zeroCells82 82)
  refine ⟨?_, ?_⟩
  · rw [cell_of_row _ w.heap.size _ _ 82 (0, 0) h, Array.getElem?_eq_getElem (by rw [zc82]; omega)]; rfl
  · exact frozen_of_row _ _ _ _ 82 h
theorem wCopy_below (b : List Nat) (w : World) : Below w.heap.size w (wCopy b w) := ((Below.refl _ w).alloc (Nat.le_refl _) _).trans (below_sets (Nat.le_refl _) _ _ _)
theorem wCopy_range (b : List Nat) (w : World) (hb : b.length = 128) : (wCopy b w).rangeAt w.heap.size 0 (u8n b) := World.rangeAt_setCells_same _ _ _ _ (by rw [u8n_len, hb]; exact there82 w)
/-- The cells of a block among the unlike ones. -/
theorem tb_range {B : Nat} {F : List (List Nat)} {w : World} {g cap k : Nat} {b : List Nat} (hr : w.ownsRow B 82 128 (.slice (some ⟨g, 0, none⟩) (uq F).length cap) (uq F).length ((uq F).flatMap u8n)) (ho : ok128 F) (hk : (uq F)[k]? = some b) : w.rangeAt g (k * 128) (u8n b) := fun j v hv => by
  have hkl := (List.getElem?_eq_some_iff.1 hk).1
  have hbm := List.mem_of_getElem? hk
  have hbl := uq_ok ho b hbm
  have hjl := (List.getElem?_eq_some_iff.1 hv).1
  rw [u8n_len, hbl] at hjl
  rw [hr.cellAt (k * 128 + j) (by omega), flat_u8]
  obtain ⟨d, h3, h4⟩ := flat_get (uq F) (k * 128 + j) (uq_ok ho) (by omega)
  rw [show (k * 128 + j) / 128 = k by omega, hk] at h3
  cases h3
  rw [show (k * 128 + j) % 128 = j by omega] at h4
  unfold u8n at hv ⊢
  rw [List.getElem?_map, ← h4, ← List.getElem?_map]
  exact hv
/-- Where a table's blocks are told. -/
theorem tb_first {w : World} {T rest : Nat} {fs : List Nat} {bv : Value} (h : w.heap[T]? = some (.cells (tbc fs bv rest).toArray 79 (0, 0))) : w.rangeAt T 0 (u16n fs) := fun j v hv => by
  rw [Nat.zero_add]
  exact cell_row w T j _ 79 _ h (by
    unfold tbc
    rw [List.getElem?_append_left (List.getElem?_eq_some_iff.1 hv).1]
    exact hv)
theorem size76n : (Try.prog.info? 76).map (·.size) = some 8704 := by kernel_rfl
theorem index76 (cs : Array Value) (i : Nat) (v : Value) (w : World) (hi : i < 8704) (h : cs[i]? = some v) : (Instr.index 76 (.agg cs) (.int .i64 (i : Int))).run Try.prog w = .ok v w := by
  unfold Instr.index
  simp [asIntOf, run_underlying Try.underlying76 w, part, h]
  omega
theorem u16a_get {b : List Nat} {i c : Nat} (h : b[i]? = some c) : (u16n b).toArray[i]? = some (.int .u16 (c : Int)) := by
  rw [List.getElem?_toArray]
  unfold u16n
  rw [List.getElem?_map, h]; rfl
/-- Numbers in a row. -/
def isl (l : List Nat) : List Value := l.map fun (x : Nat) => .int .i64 (x : Int)
theorem isl_set (l : List Nat) (k x : Nat) : (isl l).set k (.int .i64 (x : Int)) = isl (l.set k x) := by
  unfold isl; rw [List.map_set]
theorem isl_len (l : List Nat) : (isl l).length = l.length := by simp [isl]
theorem isl_get {l : List Nat} {k x : Nat} (h : l[k]? = some x) : (isl l)[k]? = some (.int .i64 (x : Int)) := by
  unfold isl; rw [List.getElem?_map, h]; rfl
theorem made_isl (n : Nat) : (madeCells (Value.int .i64 0).cells (n * 1)).toList = isl (List.replicate n 0) := by
  rw [Nat.mul_one]
  show (madeCells #[Value.int .i64 0] n).toList = _
  rw [toList_madeCells_one]
  simp [isl]
theorem Try.info3 : (Try.prog.info? 3).map (fun i => (i.zero, i.size, i.bytes)) = some (some (.int .i64 0), 1, 8) := by kernel_rfl
end Go.Proofs.Ytljlhlcoaajggaa
