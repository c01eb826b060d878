/- The contract of the document's put: a range more in a list by rising first numbers. -/
import Derived.Test.YtfahbdlcokoghabGreatDoorIs
import Derived.Deep.AppendLies
import Derived.Lib.MapLaws
import Derived.Lib.BufferMore
namespace Go.Proofs.YtfahbdlcokoghabGreatDoor
open Go.RowKit

theorem Tryz.info33 : (Tryz.prog.info? 33).map (fun i => (i.zero, i.size, i.bytes)) = some (some (.agg #[.int .i32 0, .int .i32 0]), 2, 8) := by kernel_rfl
/-- The cells of a range. -/
def rgc (g : Rg) : List Value := [.int .i32 g.1, .int .i32 g.2]
def rgcs (l : List Rg) : List Value := l.flatMap rgc
theorem rgcs_snoc (l : List Rg) (g : Rg) : rgcs (l ++ [g]) = rgcs l ++ rgc g := by simp [rgcs]
theorem rgcs_len : ∀ l : List Rg, (rgcs l).length = l.length * 2
  | [] => rfl
  | g :: l => by
    show (rgc g ++ rgcs l).length = _
    rw [List.length_append, rgcs_len l, List.length_cons]
    show 2 + _ = _
    omega
theorem rgc_one (g : Rg) : ∀ u ∈ rgc g, u.oneCell' = true := by intro u hu; simp [rgc] at hu; rcases hu with rfl | rfl <;> rfl
theorem rgcs_get : ∀ (l : List Rg) (k : Nat) (g : Rg), l[k]? = some g → (rgcs l)[k * 2]? = some (.int .i32 g.1) ∧ (rgcs l)[k * 2 + 1]? = some (.int .i32 g.2)
  | [], _, _, h => by cases h
  | x :: l, 0, g, h => by cases h; exact ⟨rfl, rfl⟩
  | x :: l, k + 1, g, h => by
    have ih := rgcs_get l k g h
    have e1 : (k + 1) * 2 = k * 2 + 2 := by omega
    show (rgc x ++ rgcs l)[(k + 1) * 2]? = _ ∧ (rgc x ++ rgcs l)[(k + 1) * 2 + 1]? = _
    rw [e1, List.getElem?_append_right (by simp [rgc]), List.getElem?_append_right (by simp [rgc])]
    simpa [rgc] using ih
theorem rgcs_set : ∀ (l : List Rg) (i : Nat) (g : Rg), i < l.length → ((rgcs l).set (i * 2) (.int .i32 g.1)).set (i * 2 + 1) (.int .i32 g.2) = rgcs (l.set i g)
  | [], _, _, h => by simp at h
  | x :: l, 0, g, _ => rfl
  | x :: l, i + 1, g, h => by
    have ih := rgcs_set l i g (by simpa using h)
    have e1 : (i + 1) * 2 = i * 2 + 2 := by omega
    show ((rgc x ++ rgcs l).set ((i + 1) * 2) _).set ((i + 1) * 2 + 1) _ = rgc x ++ rgcs (l.set i g)
    rw [← ih, e1]
    rfl

/-- What a row of the call's own reads. -/
theorem row_reads {w : World} {B : Nat} {v : Value} {l : List Rg} (h : w.ownsRow B 33 2 v l.length (rgcs l)) : ∃ ao cap, v = .slice ao l.length cap ∧ (0 < l.length → ∃ g, ao = some ⟨g, 0, none⟩ ∧ B ≤ g ∧ g < w.heap.size) ∧
    ∀ (k : Nat) (x : Rg), l[k]? = some x → ∃ g, ao = some ⟨g, 0, none⟩ ∧ g < w.heap.size ∧ w.cell? ⟨g, k * 2, none⟩ = some (.int .i32 x.1) ∧ w.cell? ⟨g, k * 2 + 1, none⟩ = some (.int .i32 x.2) := by
  rcases h.2 with ⟨h1, h2⟩ | ⟨g, cap, cur, h1, h2, h3, h4, h5, h6, h7⟩
  · have hl : l = [] := List.length_eq_zero_iff.1 h2
    subst hl
    exact ⟨none, 0, h1, fun h => by simp at h, fun k x hk => by cases hk⟩
  · have hg := (Array.getElem?_eq_some_iff.1 h3).1
    refine ⟨some ⟨g, 0, none⟩, cap, h1, fun _ => ⟨g, rfl, h2, hg⟩, fun k x hk => ⟨g, rfl, hg, ?_⟩⟩
    obtain ⟨e1, e2⟩ := rgcs_get l k x hk
    have hc : ∀ j u, (rgcs l)[j]? = some u → w.cell? ⟨g, j, none⟩ = some u := fun j u hj => by
      have := h.cells (g := g) (by rw [h1]; rfl) j u hj
      rw [show (⟨g, 0, none⟩ : Addr).add j = ⟨g, j, none⟩ by unfold Addr.add; split <;> simp_all] at this
      exact this
    exact ⟨hc _ _ e1, hc _ _ e2⟩
theorem row_frozen {w : World} {B g n cap : Nat} {l : List Rg} (h : w.ownsRow B 33 2 (.slice (some ⟨g, 0, none⟩) n cap) l.length (rgcs l)) (j : Nat) : w.frozen? ⟨g, j, none⟩ = false := by
  rcases h.2 with ⟨h1, _⟩ | ⟨g', cap', cur, h1, _, h3, _⟩
  · cases h1
  · cases h1
    exact frozen_of_row w g j cur 33 h3
/-- One element of a row of the call's own is written. -/
theorem row_set {w : World} {B g n cap : Nat} {l : List Rg} (h : w.ownsRow B 33 2 (.slice (some ⟨g, 0, none⟩) n cap) l.length (rgcs l)) (i : Nat) (x : Rg) (hi : i < l.length) :
    ((w.setCell ⟨g, i * 2, none⟩ (.int .i32 x.1)).setCell ⟨g, i * 2 + 1, none⟩ (.int .i32 x.2)).ownsRow B 33 2 (.slice (some ⟨g, 0, none⟩) n cap) (l.set i x).length (rgcs (l.set i x)) := by
  rcases h.2 with ⟨h1, _⟩ | ⟨g', cap', cur, h1, h2, h3, h4, h5, h6, h7⟩
  · cases h1
  · cases h1
    have s1 := Lib.heap_setCell_same (i := i * 2) h3 (.int .i32 x.1)
    have s2 := Lib.heap_setCell_same (i := i * 2 + 1) s1 (.int .i32 x.2)
    rw [List.length_set]
    refine ⟨?_, Or.inr ⟨g, cap, _, rfl, h2, s2, h4, h5, by simp [h6], ?_⟩⟩
    · rw [rgcs_len, List.length_set]
    · rw [← rgcs_set l i x hi, ← h7]
      simp [List.take_set]
end Go.Proofs.YtfahbdlcokoghabGreatDoor

