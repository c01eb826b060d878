/- The contract of the document's Runs: where the runs of a set in a text begin and end. -/
import Derived.Test.YtfahbdlcokoghabDoorTxtMath
import Derived.Deep.RegionHeld3
import Derived.Deep.AppendLies
namespace Go.Proofs.YtfahbdlcokoghabDoor
open Go.RowKit

theorem Tryd.info3 : (Tryd.prog.info? 3).map (fun i => (i.zero, i.size, i.bytes)) = some (some (.int .i64 0), 1, 8) := by kernel_rfl
def flv (xs : List (Nat × Nat)) : List Value := xs.flatMap fun x => [.int .i64 x.1, .int .i64 x.2]
theorem flv_app (a b : List (Nat × Nat)) : flv (a ++ b) = flv a ++ flv b := by simp [flv]
theorem flv_len (a : List (Nat × Nat)) : (flv a).length = 2 * a.length := by
  induction a with
  | nil => rfl
  | cons x t ih => show ([_, _] ++ flv t).length = _; rw [List.length_append, ih, List.length_cons]; simp; omega
theorem row_setI {w : World} {B g n cap m : Nat} {e : TypeId} {vs : List Value} (h : w.ownsRow B e 1 (.slice (some ⟨g, 0, none⟩) n cap) m vs) (i : Nat) (u : Value) :
    (w.setCell ⟨g, i, none⟩ u).ownsRow B e 1 (.slice (some ⟨g, 0, none⟩) n cap) m (vs.set i u) := by
  rcases h.2 with ⟨h1, _⟩ | ⟨g', cap', cur, h1, h2, h3, h4, h5, h6, h7⟩
  · cases h1
  · cases h1
    have s1 := Lib.heap_setCell_same (i := i) h3 u
    refine ⟨by rw [List.length_set]; exact h.1, Or.inr ⟨g, cap, _, rfl, h2, s1, h4, h5, by simp [h6], ?_⟩⟩
    rw [← h7]
    simp [List.take_set]
theorem row_frozenI {w : World} {B g n cap m : Nat} {e : TypeId} {vs : List Value} (h : w.ownsRow B e 1 (.slice (some ⟨g, 0, none⟩) n cap) m vs) (j : Nat) : w.frozen? ⟨g, j, none⟩ = false := by
  rcases h.2 with ⟨h1, _⟩ | ⟨g', cap', cur, h1, _, h3, _⟩
  · cases h1
  · cases h1
    exact frozen_of_row w g j cur e h3
theorem row_form {w : World} {B m : Nat} {e : TypeId} {v : Value} {vs : List Value} (h : w.ownsRow B e 1 v m vs) : ∃ ao cap, v = .slice ao m cap ∧ (0 < m → ∃ g, ao = some ⟨g, 0, none⟩ ∧ B ≤ g ∧ g < w.heap.size ∧ ∀ j u, vs[j]? = some u → w.cell? ⟨g, j, none⟩ = some u) := by
  rcases h.2 with ⟨h1, h2⟩ | ⟨g, cap, cur, h1, h2, h3, h4, h5, h6, h7⟩
  · exact ⟨none, 0, by rw [h1, h2], fun h => by omega⟩
  · refine ⟨some ⟨g, 0, none⟩, cap, h1, fun _ => ⟨g, rfl, h2, (Array.getElem?_eq_some_iff.1 h3).1, fun j u hj => ?_⟩⟩
    have := h.cells (g := g) (by rw [h1]; rfl) j u hj
    rw [show (⟨g, 0, none⟩ : Addr).add j = ⟨g, j, none⟩ by unfold Addr.add; split <;> simp_all] at this
    exact this
theorem news_2 (w : World) (a b : Value) (T : TypeId) : ∀ (j : Nat) u, [a, b][j]? = some u → (w.alloc (.cells #[a, b] T)).cell? ((⟨w.heap.size, 0, none⟩ : Addr).add j) = some u := fun j u hj => by
  rw [show (⟨w.heap.size, 0, none⟩ : Addr).add j = ⟨w.heap.size, j, none⟩ by unfold Addr.add; split <;> simp_all]
  rw [cell_of_row _ w.heap.size j #[a, b] T (0, 0) (show (w.heap.push _)[w.heap.size]? = _ by simp)]
  rw [← hj]
  simp
theorem txt_prev (l : List UInt8) (xs ys : List (Nat × Int)) (h : plr l 0 = xs ++ ys) (hx : 0 < xs.length) : ∃ (Q : List (Nat × Int)) (z : Nat × Int) (a b : Nat), xs = Q ++ [z] ∧ (txt l)[xs.length - 1]? = some (z.2, a, b) := by
  rcases List.eq_nil_or_concat xs with rfl | ⟨Q, z, rfl⟩
  · simp at hx
  · rw [List.concat_eq_append] at h ⊢
    rw [List.append_assoc, List.singleton_append] at h
    refine ⟨Q, z, z.1, nxt l.length ys, rfl, ?_⟩
    unfold txt
    rw [h, List.length_append, List.length_singleton, Nat.add_sub_cancel]
    exact cls_get l.length Q ys z

end Go.Proofs.YtfahbdlcokoghabDoor

