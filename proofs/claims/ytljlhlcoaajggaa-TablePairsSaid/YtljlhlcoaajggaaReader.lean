/- The contract of class (a reader of bytes, package table). -/
import Derived.Test.YtljlhlcoaajggaaNum
namespace Go.Proofs.Ytljlhlcoaajggaa
open Go.RowKit

/-- A slice of bytes, nil or not, reads as a list. -/
def RdU (w : World) (ao : Option Addr) (l : List Nat) : Prop :=
  ∀ (k : Nat) (c : Nat), l[k]? = some c → ∃ a : Addr, ao = some a ∧ a.block < w.heap.size ∧ w.cell? (a.add k) = some (.int .u8 (c : Int))

theorem add_more (a : Addr) (k : Nat) : a.add (k + 1) = (⟨a.block, a.off + 1, none⟩ : Addr).add k := by
  unfold Addr.add
  split <;> split <;> simp_all <;> omega
theorem RdU.tail {w : World} {a : Addr} {c : Nat} {l : List Nat} (h : RdU w (some a) (c :: l)) : RdU w (some ⟨a.block, a.off + 1, none⟩) l := fun k d hk => by
  obtain ⟨b, hb, h1, h2⟩ := h (k + 1) d hk
  cases hb
  exact ⟨_, rfl, h1, by rw [← add_more]; exact h2⟩
theorem add_nil (a : Addr) : a.add 0 = a := by unfold Addr.add; split <;> simp_all
set_option maxRecDepth 100000 in
theorem class_any (X : Nat) (ao : Option Addr) (ac : Nat) (c : Nat) (l : List Nat) (w : World) (h : RdU w ao (c :: l)) (hc : c < 256) (hx : w.cell? ⟨X, 0, none⟩ = some (.slice ao (l.length + 1) ac)) (hf : w.frozen? ⟨X, 0, none⟩ = false) (hac : l.length + 1 ≤ ac) (hl : l.length < 1000000000) :
    Calls Try.prog 56 #[.pointer (some ⟨X, 0, none⟩)] w fun e w' => ∃ ao' ac', e = .returned (.int .i64 (c : Int)) ∧ w' = w.setCell ⟨X, 0, none⟩ (.slice ao' l.length ac') ∧ RdU w ao' l ∧ l.length ≤ ac' := by
  obtain ⟨a, rfl, ha, a0⟩ := h 0 c rfl
  have HT := hid h.tail
  have e1 : IntKind.i64.wrap (c : Int) = (c : Int) := by rw [IntKind.wrap_i64]; omega
  obtain ⟨n, hn⟩ : ∃ n, n = l.length + 1 := ⟨_, rfl⟩
  rw [← hn] at hx hac
  have n0 : ¬ ((n : Int) = 0) := by omega
  have n1 : (0 : Int) < (n : Int) := by omega
  have n2 : (1 : Int) ≤ (n : Int) := by omega
  have n3 : (n : Int) ≤ (ac : Int) := by omega
  have n4 : ((n : Int) == 0) = false := by simp; omega
  have hnl : n - 1 = l.length := by omega
  have HNL := hid hnl
  have HN := hid hn
  clear hn hnl
  rw [add_nil] at a0
  clear h
  go_enter Try.func56, Try.ntmps56
  go_wp2
  · go_ret
    have hl0 : l = [] := List.length_eq_zero_iff.1 (by have h5 := HN.out; omega)
    refine ⟨rfl, some a, 0, by rw [HNL.out], ?_, by rw [hl0]; exact Nat.le_refl _⟩
    rw [hl0]
    exact fun k d hk => by simp at hk
  · go_ret
    exact ⟨rfl, _, ac - 1, by rw [HNL.out], HT.out, by have h5 := HN.out; omega⟩
theorem class_nil (X : Nat) (ao : Option Addr) (ac : Nat) (w : World) (hx : w.cell? ⟨X, 0, none⟩ = some (.slice ao 0 ac)) :
    Calls Try.prog 56 #[.pointer (some ⟨X, 0, none⟩)] w fun e w' => e = .returned (.int .i64 0) ∧ w' = w := by
  go_enter Try.func56, Try.ntmps56
  go_wp2
  go_ret
  exact ⟨rfl, rfl⟩
end Go.Proofs.Ytljlhlcoaajggaa
