/- Automata in memory. -/
import Derived.Test.YteacehfihogmpaaDoorProg
import Derived.Test.YteacehfihogmpaaDoorAutMath
import Derived.Deep.AppendLies
import Derived.WalkKit
import Derived.WalkSpells
import Derived.WalkLawsBesides
import Derived.Deep.QuietTactic
import Derived.BigQuiet
import Derived.WalkSmall
namespace Go.Proofs.YteacehfihogmpaaDoor
open Go.RowKit

theorem hid {p : Prop} (h : p) : Hid p := h
theorem add_blk (a : Addr) (k : Nat) : (a.add k).block = a.block := by unfold Addr.add; split <;> rfl
/-- How long a list may be. -/
def most : Nat := 17592186044416
/-- A slice of numbers, nil or not, reads as a list. -/
def RdI (w : World) (ao : Option Addr) (l : List Int) : Prop :=
  ∀ (k : Nat) (z : Int), l[k]? = some z → ∃ a : Addr, ao = some a ∧ a.block < w.heap.size ∧ w.cell? (a.add k) = some (.int .i64 z)
theorem RdI.below {w w' : World} {ao : Option Addr} {l : List Int} (h : RdI w ao l) (hb : Below w.heap.size w w') : RdI w' ao l := fun k z hk => by
  obtain ⟨a, h1, h2, h3⟩ := h k z hk
  exact ⟨a, h1, Nat.lt_of_lt_of_le h2 hb.size, (hb.cell (p := a.add k) (by rw [add_blk]; exact h2)).trans h3⟩
/-- A slice of edges. -/
def RdE (w : World) (ao : Option Addr) (E : List Ed) : Prop :=
  ∀ (k : Nat) (g : Ed), E[k]? = some g → ∃ a : Addr, ao = some a ∧ a.block < w.heap.size ∧ ∃ (co : Option Addr) (cc : Nat), w.cell? (a.add (k * 2)) = some (.slice co g.1.length cc) ∧ w.cell? ⟨(a.add (k * 2)).block, (a.add (k * 2)).off + 1, none⟩ = some (.int .i64 g.2) ∧ RdI w co g.1 ∧ g.1.length ≤ most
theorem RdE.below {w w' : World} {ao : Option Addr} {E : List Ed} (h : RdE w ao E) (hb : Below w.heap.size w w') : RdE w' ao E := fun k g hk => by
  obtain ⟨a, h1, h2, co, cc, h3, h4, h5, h6⟩ := h k g hk
  exact ⟨a, h1, Nat.lt_of_lt_of_le h2 hb.size, co, cc, (hb.cell (p := a.add (k * 2)) (by rw [add_blk]; exact h2)).trans h3, (hb.cell (p := ⟨(a.add (k * 2)).block, (a.add (k * 2)).off + 1, none⟩) (show (a.add (k * 2)).block < _ by rw [add_blk]; exact h2)).trans h4, h5.below hb, h6⟩
/-- A slice of states. -/
def RdS (w : World) (ao : Option Addr) (L : List St) : Prop :=
  ∀ (k : Nat) (s : St), L[k]? = some s → ∃ a : Addr, ao = some a ∧ a.block < w.heap.size ∧ ∃ (eo : Option Addr) (ec : Nat) (fo : Option Addr) (fc : Nat), w.cell? (a.add (k * 2)) = some (.slice eo s.1.length ec) ∧ w.cell? ⟨(a.add (k * 2)).block, (a.add (k * 2)).off + 1, none⟩ = some (.slice fo s.2.length fc) ∧ RdE w eo s.1 ∧ RdI w fo s.2 ∧ s.1.length ≤ most ∧ s.2.length ≤ most
theorem RdS.below {w w' : World} {ao : Option Addr} {L : List St} (h : RdS w ao L) (hb : Below w.heap.size w w') : RdS w' ao L := fun k s hk => by
  obtain ⟨a, h1, h2, eo, ec, fo, fc, h3, h4, h5, h6, h7⟩ := h k s hk
  exact ⟨a, h1, Nat.lt_of_lt_of_le h2 hb.size, eo, ec, fo, fc, (hb.cell (p := a.add (k * 2)) (by rw [add_blk]; exact h2)).trans h3, (hb.cell (p := ⟨(a.add (k * 2)).block, (a.add (k * 2)).off + 1, none⟩) (show (a.add (k * 2)).block < _ by rw [add_blk]; exact h2)).trans h4, h5.below hb, h6.below hb, h7⟩
theorem below_drN {n : Nat} {w w' : World} (h : Below n w w') (k : Nat) : Below n w (w'.drewN k) := h.trans ⟨rfl, rfl, rfl, Nat.le_refl _, fun _ _ => rfl⟩
end Go.Proofs.YteacehfihogmpaaDoor
