/- Automata that know where to go, in memory. -/
import Derived.Test.YtkmcbhdjecpmjaaDoorProg
import Derived.Test.YtkmcbhdjecpmjaaDoorDMath
import Derived.Deep.AppendLies
import Derived.WalkKit
import Derived.WalkSpells
import Derived.WalkLawsBesides
import Derived.Deep.QuietTactic
import Derived.BigQuiet
import Derived.WalkSmall
namespace Go.Proofs.YtkmcbhdjecpmjaaDoor
open Go.RowKit

theorem hid {p : Prop} (h : p) : Hid p := h
theorem add_blk (a : Addr) (k : Nat) : (a.add k).block = a.block := by unfold Addr.add; split <;> rfl
/-- How long a list may be. -/
def most : Nat := 17592186044416
/-- A slice of numbers, nil or not, reads as a list. -/
def RdI (w : World) (ao : Option Addr) (l : List Int) : Prop :=
  ∀ (k : Nat) (z : Int), l[k]? = some z → ∃ a : Addr, ao = some a ∧ a.block < w.heap.size ∧ w.cell? (a.add k) = some (.int .i64 z)
theorem RdI.below {w w' : World} {ao : Option Addr} {l : List Int} (h : RdI w ao l) (hb : Below w.heap.size w w') : RdI w' ao l := fun k z hk => by
  obtain ⟨a, h1, h2, h3⟩ := h k z hk
  exact ⟨a, h1, Nat.lt_of_lt_of_le h2 hb.size, (hb.cell (p := a.add k) (by rw [add_blk]; exact h2)).trans h3⟩
/-- A slice of such slices. -/
def RdR (w : World) (ao : Option Addr) (R : Rw) : Prop :=
  ∀ (k : Nat) (row : List Int), R[k]? = some row → ∃ a : Addr, ao = some a ∧ a.block < w.heap.size ∧ ∃ (co : Option Addr) (cc : Nat), w.cell? (a.add k) = some (.slice co row.length cc) ∧ RdI w co row ∧ row.length ≤ most
theorem RdR.below {w w' : World} {ao : Option Addr} {R : Rw} (h : RdR w ao R) (hb : Below w.heap.size w w') : RdR w' ao R := fun k row hk => by
  obtain ⟨a, h1, h2, co, cc, h3, h4, h5⟩ := h k row hk
  exact ⟨a, h1, Nat.lt_of_lt_of_le h2 hb.size, co, cc, (hb.cell (p := a.add k) (by rw [add_blk]; exact h2)).trans h3, h4.below hb, h5⟩
theorem below_drN {n : Nat} {w w' : World} (h : Below n w w') (k : Nat) : Below n w (w'.drewN k) := h.trans ⟨rfl, rfl, rfl, Nat.le_refl _, fun _ _ => rfl⟩
theorem bool_cases (b : Bool) : b = true ∨ b = false := by cases b <;> simp
theorem below_box {w : World} {o : Obj} : Below w.heap.size w (w.alloc o) := (Below.refl _ _).alloc (Nat.le_refl _) _
theorem box_trans {w W : World} {o : Obj} (h : Below (w.heap.size + 1) (w.alloc o) W) : Below w.heap.size w W := below_box.trans (h.mono (by omega))
theorem box_self {w : World} {o : Obj} : Below (w.heap.size + 1) (w.alloc o) (w.alloc o) := Below.refl _ _
theorem RdI.boxed {w W : World} {o : Obj} {ao : Option Addr} {l : List Int} (h : RdI w ao l) (hb : Below (w.heap.size + 1) (w.alloc o) W) : RdI W ao l := h.below (box_trans hb)
theorem RdR.boxed {w W : World} {o : Obj} {ao : Option Addr} {l : Rw} (h : RdR w ao l) (hb : Below (w.heap.size + 1) (w.alloc o) W) : RdR W ao l := h.below (box_trans hb)
theorem box3 {w W : World} {v0 v1 v2 : Value} {T : TypeId} (h : Below (w.heap.size + 1) (w.alloc (.cells #[v0, v1, v2] T)) W) : W.cell? ⟨w.heap.size, 0, none⟩ = some v0 ∧ W.cell? ⟨w.heap.size, 1, none⟩ = some v1 ∧ W.cell? ⟨w.heap.size, 2, none⟩ = some v2 := by
  refine ⟨?_, ?_, ?_⟩
  · rw [h.cell (p := ⟨w.heap.size, 0, none⟩) (by simp)]; simp [go_sem]
  · rw [h.cell (p := ⟨w.heap.size, 1, none⟩) (by simp)]; simp [go_sem]
  · rw [h.cell (p := ⟨w.heap.size, 2, none⟩) (by simp)]; simp [go_sem]
/-- An automaton in memory: its rows and what it takes. -/
structure DRd (w : World) (no : Option Addr) (n : Nat) (to : Option Addr) (m : Nat) (R : Rw) (T : List Int) : Prop where
  hn : n = R.length
  hm : m = T.length
  rows : RdR w no R
  take : RdI w to T
  nl : n ≤ most
  ml : m ≤ most
theorem DRd.below {w w' : World} {no to : Option Addr} {n m : Nat} {R : Rw} {T : List Int} (h : DRd w no n to m R T) (hb : Below w.heap.size w w') : DRd w' no n to m R T := ⟨h.hn, h.hm, h.rows.below hb, h.take.below hb, h.nl, h.ml⟩
theorem DRd.boxed {w W : World} {o : Obj} {no to : Option Addr} {n m : Nat} {R : Rw} {T : List Int} (h : DRd w no n to m R T) (hb : Below (w.heap.size + 1) (w.alloc o) W) : DRd W no n to m R T := h.below (box_trans hb)
theorem DRd.row {w : World} {no to : Option Addr} {n m k : Nat} {R : Rw} {T : List Int} (h : DRd w no n to m R T) (hk : k < n) : ∃ (row : List Int) (a : Addr) (co : Option Addr) (cc : Nat), R[k]? = some row ∧ no = some a ∧ a.block < w.heap.size ∧ w.cell? (a.add k) = some (.slice co row.length cc) ∧ RdI w co row ∧ row.length ≤ most := by
  have hl : k < R.length := by rw [← h.hn]; exact hk
  obtain ⟨a, h1, h2, co, cc, h3, h4, h5⟩ := h.rows k R[k] (List.getElem?_eq_getElem hl)
  exact ⟨R[k], a, co, cc, List.getElem?_eq_getElem hl, h1, h2, h3, h4, h5⟩
theorem DRd.tk {w : World} {no to : Option Addr} {n m k : Nat} {R : Rw} {T : List Int} (h : DRd w no n to m R T) (hk : k < m) : ∃ (t : Int) (a : Addr), T[k]? = some t ∧ to = some a ∧ a.block < w.heap.size ∧ w.cell? (a.add k) = some (.int .i64 t) := by
  have hl : k < T.length := by rw [← h.hm]; exact hk
  obtain ⟨a, h1, h2, h3⟩ := h.take k T[k] (List.getElem?_eq_getElem hl)
  exact ⟨T[k], a, List.getElem?_eq_getElem hl, h1, h2, h3⟩
theorem RdI.at {w : World} {ao : Option Addr} {l : List Int} {k : Nat} (h : RdI w ao l) (hk : k < l.length) : ∃ (z : Int) (a : Addr), l[k]? = some z ∧ ao = some a ∧ a.block < w.heap.size ∧ w.cell? (a.add k) = some (.int .i64 z) := by
  obtain ⟨a, h1, h2, h3⟩ := h k l[k] (List.getElem?_eq_getElem hk)
  exact ⟨l[k], a, List.getElem?_eq_getElem hk, h1, h2, h3⟩
end Go.Proofs.YtkmcbhdjecpmjaaDoor
