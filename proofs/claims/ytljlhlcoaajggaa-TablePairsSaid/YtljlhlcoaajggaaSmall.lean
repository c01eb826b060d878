/- Lists of ranges with classes in memory; the contracts of isClass and apart (package table). -/
import Derived.Test.YtljlhlcoaajggaaRows
import Derived.Test.YtljlhlcoaajggaaChkMath
import Derived.ProofKit
import Derived.WalkKit
import Derived.WalkSpells
import Derived.WalkLawsBesides
import Derived.Deep.QuietTactic
import Derived.BigQuiet
import Derived.WalkSmall
namespace Go.Proofs.Ytljlhlcoaajggaa
open Go.RowKit

theorem hid {p : Prop} (h : p) : Hid p := h
theorem add_blk (a : Addr) (k : Nat) : (a.add k).block = a.block := by unfold Addr.add; split <;> rfl
/-- A range and its class. -/
abbrev Rk := Int × Int × Int
/-- A slice of ranges, nil or not, reads as a list. -/
def RdK (w : World) (ao : Option Addr) (l : List Rk) : Prop :=
  ∀ (k : Nat) (g : Rk), l[k]? = some g → ∃ a : Addr, ao = some a ∧ a.block < w.heap.size ∧ w.cell? (a.add (k * 3)) = some (.int .i32 g.1) ∧ w.cell? ⟨(a.add (k * 3)).block, (a.add (k * 3)).off + 1, none⟩ = some (.int .i32 g.2.1) ∧ w.cell? ⟨(a.add (k * 3)).block, (a.add (k * 3)).off + 2, none⟩ = some (.int .i64 g.2.2)
theorem RdK.below {w w' : World} {ao : Option Addr} {l : List Rk} (h : RdK w ao l) (hb : Below w.heap.size w w') : RdK w' ao l := fun k g hk => by
  obtain ⟨a, h1, h2, h3, h4, h5⟩ := h k g hk
  exact ⟨a, h1, Nat.lt_of_lt_of_le h2 hb.size, (hb.cell (p := a.add (k * 3)) (by rw [add_blk]; exact h2)).trans h3, (hb.cell (p := ⟨(a.add (k * 3)).block, (a.add (k * 3)).off + 1, none⟩) (show (a.add (k * 3)).block < _ by rw [add_blk]; exact h2)).trans h4, (hb.cell (p := ⟨(a.add (k * 3)).block, (a.add (k * 3)).off + 2, none⟩) (show (a.add (k * 3)).block < _ by rw [add_blk]; exact h2)).trans h5⟩
def rkc (g : Rk) : List Value := [.int .i32 g.1, .int .i32 g.2.1, .int .i64 g.2.2]
def rkv (g : Rk) : Value := .agg #[.int .i32 g.1, .int .i32 g.2.1, .int .i64 g.2.2]

/-- Whether a number is a class. -/
def icl (n : Int) : Bool := decide (0 ≤ n ∧ n ≤ 255)
theorem isClass_any (n : Int) (w : World) :
    Calls Try.prog 35 #[.int .i64 n] w fun e w' => e = .returned (.bool (icl n)) ∧ w' = w := by
  by_cases h0 : 0 ≤ n
  · by_cases h1 : n ≤ 255
    · have HZ := hid (show icl n = true from decide_eq_true (show 0 ≤ n ∧ n ≤ 255 from ⟨h0, h1⟩))
      go_enter Try.func35, Try.ntmps35
      go_wp2
      go_ret
      exact ⟨by rw [HZ.out]; rfl, rfl⟩
    · have HZ := hid (show icl n = false from decide_eq_false (show ¬ (0 ≤ n ∧ n ≤ 255) from fun h => h1 h.2))
      go_enter Try.func35, Try.ntmps35
      go_wp2
      go_ret
      exact ⟨by rw [HZ.out]; rfl, rfl⟩
  · have HZ := hid (show icl n = false from decide_eq_false (show ¬ (0 ≤ n ∧ n ≤ 255) from fun h => h0 h.1))
    go_enter Try.func35, Try.ntmps35
    go_wp2
    go_ret
    exact ⟨by rw [HZ.out]; rfl, rfl⟩

/-- On which side of b a lies. -/
def apt (a b : Rk) : Int := if a.2.1 < b.1 then -1 else if b.2.1 < a.1 then 1 else 0
theorem apart_any (a b : Rk) (w : World) :
    Calls Try.prog 37 #[rkv a, rkv b] w fun e w' => e = .returned (.int .i64 (apt a b)) ∧ Below w.heap.size w w' := by
  obtain ⟨a0, a1, a2⟩ := a
  obtain ⟨b0, b1, b2⟩ := b
  unfold rkv
  by_cases h1 : a1 < b0
  · have HZ := hid (show apt (a0, a1, a2) (b0, b1, b2) = -1 from if_pos h1)
    go_enter Try.func37, Try.ntmps37
    go_wp2
    go_ret
    exact ⟨by rw [HZ.out]; rfl, ((Below.refl _ _).alloc (Nat.le_refl _) _).alloc (by simp) _⟩
  · by_cases h2 : b1 < a0
    · have HZ := hid (show apt (a0, a1, a2) (b0, b1, b2) = 1 from (if_neg h1).trans (if_pos h2))
      go_enter Try.func37, Try.ntmps37
      go_wp2
      go_ret
      exact ⟨by rw [HZ.out]; rfl, ((Below.refl _ _).alloc (Nat.le_refl _) _).alloc (by simp) _⟩
    · have HZ := hid (show apt (a0, a1, a2) (b0, b1, b2) = 0 from (if_neg h1).trans (if_neg h2))
      go_enter Try.func37, Try.ntmps37
      go_wp2
      go_ret
      exact ⟨by rw [HZ.out]; rfl, ((Below.refl _ _).alloc (Nat.le_refl _) _).alloc (by simp) _⟩
end Go.Proofs.Ytljlhlcoaajggaa
