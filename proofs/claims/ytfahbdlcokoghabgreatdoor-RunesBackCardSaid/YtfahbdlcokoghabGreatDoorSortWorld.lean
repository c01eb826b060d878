/- The world behind the library's sort: what lies below stays, the row reads as the sorted list. -/
import Derived.Test.YtfahbdlcokoghabGreatDoorSortMath
namespace Go.Proofs.YtfahbdlcokoghabGreatDoor
open Go.RowKit Go.Shelf Go.Lib Go.Sort

theorem sort_below (B : Nat) (w : World) (blk off n : Nat) (d : Array Rg) (os : Array Obj) (h1 : B ≤ blk) (h2 : B ≤ w.heap.size) : RowKit.Below B w (sortWorldK rgc 2 w blk off n d os) := by
  refine ⟨rfl, rfl, rfl, ?_, fun k hk => ?_⟩
  · show w.heap.size ≤ ((w.heap.modify blk (onCells (putCells id off (flatK rgc 2 d)))) ++ os).size
    simp
  · show ((w.heap.modify blk (onCells (putCells id off (flatK rgc 2 d)))) ++ os)[k]? = w.heap[k]?
    rw [Array.getElem?_append_left (by simp; omega), Array.getElem?_modify, if_neg (by omega)]
theorem flat_at (d : Array Rg) (k : Nat) (hk : k < d.size) : (flatK rgc 2 d)[k * 2]! = .int .i32 d[k]!.1 ∧ (flatK rgc 2 d)[k * 2 + 1]! = .int .i32 d[k]!.2 := by
  constructor
  · rw [get_flatK rgc 2 d (k * 2) (by omega), show k * 2 / 2 = k by omega, show k * 2 % 2 = 0 by omega]; rfl
  · rw [get_flatK rgc 2 d (k * 2 + 1) (by omega), show (k * 2 + 1) / 2 = k by omega, show (k * 2 + 1) % 2 = 1 by omega]; rfl
theorem holds_reads {w : World} {blk : Nat} {d : Array Rg} (h : HoldsK rgc 2 w blk 0 d) (hb : blk < w.heap.size) : RdR w (some ⟨blk, 0, none⟩) d.toList := fun k g hk => by
  have hk' : k < d.size := by simpa using (List.getElem?_eq_some_iff.1 hk).1
  have hg : d[k]! = g := by
    have e := (List.getElem?_eq_some_iff.1 hk).2
    simpa [hk'] using e
  obtain ⟨f0, f1⟩ := flat_at d k hk'
  rw [hg] at f0 f1
  have c0 := (h (k * 2) (by rw [size_flatK]; omega)).1
  have c1 := (h (k * 2 + 1) (by rw [size_flatK]; omega)).1
  rw [f0, Nat.zero_add] at c0
  rw [f1, Nat.zero_add] at c1
  have ea : (⟨blk, 0, none⟩ : Addr).add (k * 2) = ⟨blk, k * 2, none⟩ := by unfold Addr.add; split <;> simp_all
  exact ⟨_, rfl, hb, by rw [ea]; exact c0, by rw [ea]; exact c1⟩
theorem row_holds {w : World} {B g n cap : Nat} {l : List Rg} (h : w.ownsRow B 33 2 (.slice (some ⟨g, 0, none⟩) n cap) l.length (rgcs l)) : HoldsK rgc 2 w g 0 l.toArray := fun j hj => by
  rw [size_flatK] at hj
  have hk : j / 2 < l.length := by simp at hj; omega
  have hl : l[j / 2]? = some l[j / 2] := List.getElem?_eq_getElem hk
  obtain ⟨c0, c1⟩ := row_cell h (j / 2) l[j / 2] hl
  obtain ⟨f0, f1⟩ := flat_at l.toArray (j / 2) (by simpa using hk)
  have hd : l.toArray[j / 2]! = l[j / 2] := by simp [hk]
  rw [hd] at f0 f1
  refine ⟨?_, row_frozen h _⟩
  rw [Nat.zero_add]
  show _ = some ((flatK rgc 2 l.toArray)[j]!)
  rcases Nat.mod_two_eq_zero_or_one j with e | e
  · have ej : j = j / 2 * 2 := by omega
    rw [← ej] at c0 f0
    rw [f0]; exact c0
  · have ej : j = j / 2 * 2 + 1 := by omega
    rw [← ej] at c1 f1
    rw [f1]; exact c1
/-- The library's sort at a row of the call's own. -/
theorem sort_row (B g cap : Nat) (l : List Rg) (w : World) (h : w.ownsRow B 33 2 (.slice (some ⟨g, 0, none⟩) l.length cap) l.length (rgcs l)) (hB : B ≤ w.heap.size) (hgB : B ≤ g) (hg : g < w.heap.size) (hl : l.length ≤ 1000000) (hv : ∀ x, x ∈ l → 0 ≤ x.1 ∧ x.1 ≤ x.2 ∧ x.2 ≤ top) :
    Calls Tryz.prog 32 #[.slice (some ⟨g, 0, none⟩) l.length cap, .func (.func 33) #[] #[]] w fun e w' => e = .returned (.tuple #[]) ∧ ∃ s : List Rg, s.length = l.length ∧ srt 0 s ∧ (∀ r, isin r s ↔ isin r l) ∧ RdR w' (some ⟨g, 0, none⟩) s ∧ RowKit.Below B w w' := by
  have hH := row_holds h
  have hs := sort_any g 0 cap l.toArray w hH hg (by simp; omega)
  rw [List.size_toArray] at hs
  refine hs.mono ?_
  rintro e w' ⟨he, d', n, os, hp, hso, rfl⟩
  rw [← List.size_toArray] at hp hso
  obtain ⟨h1, h2, h3⟩ := sorted_list l.toArray d' hp hso (by simpa using hv)
  refine ⟨he, d'.toList, by simpa using h2, h1, by simpa using h3, holds_reads (holdsK_sortWorldK_c rgc 2 w g 0 l.toArray d' n os hH hg (by simpa using h2)) (Nat.lt_of_lt_of_le hg (size_sortWorldK_c rgc 2 w g 0 n d' os)), sort_below B w g 0 n d' os hgB hB⟩
end Go.Proofs.YtfahbdlcokoghabGreatDoor

