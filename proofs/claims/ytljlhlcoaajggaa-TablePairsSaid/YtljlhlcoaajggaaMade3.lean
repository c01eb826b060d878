/- A new maker has given no class yet. -/
import Derived.Test.YtljlhlcoaajggaaMade2
namespace Go.Proofs.Ytljlhlcoaajggaa
open Go.RowKit Go.Maps Go.WideMaps

theorem map_setCells {K b n : Nat} {D : DataW Unit} {R : Value → Option (DataW Unit × List MemPlace)} (hne : K ≠ b) : ∀ (cs : List Value) (o : Nat) (w : World), w.ownsMap Try.prog 82 R K n D → (w.setCells b o cs).ownsMap Try.prog 82 R K n D
  | [], _, _, h => h
  | v :: cs, o, _, h => map_setCells hne cs (o + 1) _ (h.setCell (a := ⟨b, o, none⟩) hne v)
theorem below_setCells {B b : Nat} (hb : B ≤ b) {w0 : World} : ∀ (cs : List Value) (o : Nat) (w : World), Below B w0 w → Below B w0 (w.setCells b o cs)
  | [], _, _, h => h
  | v :: cs, o, _, h => below_setCells hb cs (o + 1) _ (h.setCell (p := ⟨b, o, none⟩) hb v)
theorem heap_setCells {b k : Nat} (hk : k ≠ b) : ∀ (cs : List Value) (o : Nat) (w : World), (w.setCells b o cs).heap[k]? = w.heap[k]?
  | [], _, _ => rfl
  | v :: cs, o, w => (heap_setCells hk cs (o + 1) _).trans (Below.heap_setCell w ⟨b, o, none⟩ v k hk)
/-- The world behind made's first statement. -/
def wMade (r : Nat) (w : World) : World := (wNew r w).setCells (w.heap.size + 2) 0 (mkc w.heap.size (w.heap.size + 1) (List.replicate 128 0) 0)
theorem made_M (r : Nat) (w : World) : (wMade r w).heap[w.heap.size + 2]? = some (.cells (mkc w.heap.size (w.heap.size + 1) (List.replicate 128 0) 0).toArray 103 (0, 0)) := by
  have h := set_cells (w.heap.size + 2) 103 (mkc w.heap.size (w.heap.size + 1) (List.replicate 128 0) 0) z103 0 (wNew r w) (wNew_M r w) (by rw [mkc_len, z103_len]; decide)
  unfold wMade
  rw [h, List.take_zero, List.drop_of_length_le (by rw [mkc_len, z103_len]; decide), List.append_nil, List.nil_append]
theorem made_MkC (r : Nat) (w : World) : MkD w.heap.size (w.heap.size + 2) w.heap.size (w.heap.size + 1) r [] (.slice none 0 0) (wMade r w) := by
  have h0 : ok256 (List.replicate 128 0) := fun c hc => by rw [List.eq_of_mem_replicate hc]; decide
  refine ⟨[], [], List.replicate 128 0, ⟨fun b hb => (by cases hb), fun b hb => (by cases hb), h0, by decide, by decide, rfl, List.length_replicate⟩, rfl, ⟨made_M r w, ?_, ?_, World.ownsRow_nil _ _ _ _, List.length_replicate, ?_, by omega, Nat.le_refl _, by omega⟩⟩
  · exact (heap_setCells (by omega) _ _ _).trans (wNew_T r w)
  · refine map_setCells (by omega) _ _ _ ?_
    have h := (World.ownsMap_made (w.alloc (.cells (tb0 r) 79)) Try.prog 82 (plainElem (H := Unit) Try.prog 75)).alloc (.cells z103.toArray 103)
    rw [World.size_alloc] at h
    exact h
  · show ([] ++ List.replicate 8704 0 : List Nat).length = 8704
    rw [List.nil_append, List.length_replicate]
theorem made_below (r : Nat) (w : World) : Below w.heap.size w (wMade r w) :=
  below_setCells (by omega) _ _ _ ((((Below.refl w.heap.size w).alloc (Nat.le_refl _) _).alloc (by simp) _).alloc (by simp; omega) _)
end Go.Proofs.Ytljlhlcoaajggaa
