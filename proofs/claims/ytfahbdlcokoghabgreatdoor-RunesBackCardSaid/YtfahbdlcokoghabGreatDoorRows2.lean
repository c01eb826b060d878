/- Lists of ranges in memory; the contracts of Same (the document's), of Has and of Is (package runes), of Has (the document's). -/
import Derived.Test.YtfahbdlcokoghabGreatDoorRows
import Derived.Test.YtfahbdlcokoghabGreatDoorNfMath
import Derived.WalkKit
import Derived.WalkSpells
import Derived.WalkLawsBesides
import Derived.Deep.QuietTactic
import Derived.BigQuiet
import Derived.WalkSmall
namespace Go.Proofs.YtfahbdlcokoghabGreatDoor
open Go.RowKit

theorem hid {p : Prop} (h : p) : Hid p := h
theorem add_blk (a : Addr) (k : Nat) : (a.add k).block = a.block := by unfold Addr.add; split <;> rfl
/-- A slice of ranges, nil or not, reads as a list. -/
def RdR (w : World) (ao : Option Addr) (l : List Rg) : Prop :=
  ∀ (k : Nat) (g : Rg), l[k]? = some g → ∃ a : Addr, ao = some a ∧ a.block < w.heap.size ∧ w.cell? (a.add (k * 2)) = some (.int .i32 g.1) ∧ w.cell? ⟨(a.add (k * 2)).block, (a.add (k * 2)).off + 1, none⟩ = some (.int .i32 g.2)
theorem RdR.below {w w' : World} {ao : Option Addr} {l : List Rg} (h : RdR w ao l) (hb : Below w.heap.size w w') : RdR w' ao l := fun k g hk => by
  obtain ⟨a, h1, h2, h3, h4⟩ := h k g hk
  exact ⟨a, h1, Nat.lt_of_lt_of_le h2 hb.size, (hb.cell (p := a.add (k * 2)) (by rw [add_blk]; exact h2)).trans h3, (hb.cell (p := ⟨(a.add (k * 2)).block, (a.add (k * 2)).off + 1, none⟩) (show (a.add (k * 2)).block < _ by rw [add_blk]; exact h2)).trans h4⟩

set_option maxHeartbeats 1000000 in
theorem same_any (ao bo : Option Addr) (ac bc : Nat) (l : List Rg) (w : World) (ha : RdR w ao l) (hb : RdR w bo l) (hl : l.length ≤ 1000000000000) :
    Calls Tryz.prog 10 #[.slice ao l.length ac, .slice bo l.length bc] w fun e w' => e = .returned (.bool true) ∧ Below w.heap.size w w' := by
  have HA := hid ha
  have HB := hid hb
  clear ha hb
  go_enter Tryz.func10, Tryz.ntmps10
  go_wp2
  go_loopw [5] (fun i wr => ∃ k : Nat, k ≤ l.length ∧ i = .int .i64 k ∧ Below w.heap.size w wr) (fun i _ => l.length - (intOf i).toNat)
  case atStart => exact ⟨0, by omega, rfl, Below.refl _ _⟩
  case round =>
    obtain ⟨k, hk, rfl, hBr⟩ := hrel
    by_cases hlt : k < l.length
    · obtain ⟨a, rfl, ha, a0, a1⟩ := HA.out.below hBr k l[k] (List.getElem?_eq_getElem hlt)
      obtain ⟨b, rfl, hb, b0, b1⟩ := HB.out.below hBr k l[k] (List.getElem?_eq_getElem hlt)
      generalize l[k].1 = z0 at *
      generalize l[k].2 = z1 at *
      go_wp2_with fail
      go_region
      go_wp2
      go_roundw
      case rel => exact ⟨k + 1, by omega, by go_num, hBr.drew⟩
      case measure => simp [intOf]; omega
    · go_wp2
      go_ret
      exact ⟨rfl, hBr⟩

/-- Whether a number is in one of the ranges. -/
def hasB (r : Int) (l : List Rg) : Bool := l.any fun g => decide (g.1 ≤ r) && decide (r ≤ g.2)
theorem hasB_iff (r : Int) (l : List Rg) : hasB r l = true ↔ isin r l := by
  unfold hasB
  rw [isin_iff, List.any_eq_true]
  simp
def hasR (r : Int) (l : List Rg) : Bool := decide (0 ≤ r) && (decide (r ≤ top) && hasB r l)
theorem hasR_iff (r : Int) (l : List Rg) : hasR r l = true ↔ means r l := by
  unfold hasR means
  rw [Bool.and_eq_true, Bool.and_eq_true, decide_eq_true_iff, decide_eq_true_iff, hasB_iff]
theorem any_take (r : Int) (l : List Rg) (k : Nat) (hk : k < l.length) (h : hasB r (l.take k) = false) : hasB r (l.take (k + 1)) = (decide (l[k].1 ≤ r) && decide (r ≤ l[k].2)) := by
  unfold hasB at *
  rw [List.take_succ_eq_append_getElem hk, List.any_append, h]
  simp
theorem any_yes (r : Int) (l : List Rg) (k : Nat) (hk : k < l.length) (h : (decide (l[k].1 ≤ r) && decide (r ≤ l[k].2)) = true) : hasB r l = true := by
  unfold hasB
  rw [List.any_eq_true]
  exact ⟨l[k], List.getElem_mem hk, h⟩

end Go.Proofs.YtfahbdlcokoghabGreatDoor

