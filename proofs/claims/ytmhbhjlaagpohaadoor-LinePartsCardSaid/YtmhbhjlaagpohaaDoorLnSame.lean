/- The contract of chances (package kerflaw14) at two lists that are the same. -/
import Derived.Test.YtmhbhjlaagpohaaDoorLnCh
namespace Go.Proofs.YtmhbhjlaagpohaaDoor
open Go.RowKit

/-- A slice of chances, nil or not, reads as a list. -/
def RdC (w : World) (ao : Option Addr) (l : List (Int × Bool)) : Prop :=
  ∀ (k : Nat) (x : Int × Bool), l[k]? = some x → ∃ a : Addr, ao = some a ∧ a.block < w.heap.size ∧ w.cell? (a.add (k * 2)) = some (.int .i64 x.1) ∧ w.cell? ⟨(a.add (k * 2)).block, (a.add (k * 2)).off + 1, none⟩ = some (.bool x.2)
theorem RdC.below {w w' : World} {ao : Option Addr} {l : List (Int × Bool)} (h : RdC w ao l) (hb : Below w.heap.size w w') : RdC w' ao l := fun k z hk => by
  obtain ⟨a, h1, h2, h3, h4⟩ := h k z hk
  exact ⟨a, h1, Nat.lt_of_lt_of_le h2 hb.size, (hb.cell (p := a.add (k * 2)) (by rw [add_blk]; exact h2)).trans h3, (hb.cell (p := ⟨(a.add (k * 2)).block, (a.add (k * 2)).off + 1, none⟩) (by rw [add_blk]; exact h2)).trans h4⟩
theorem chc_at (xs : List (Int × Bool)) (k : Nat) (x : Int × Bool) (h : xs[k]? = some x) : (chc xs)[k * 2]? = some (.int .i64 x.1) ∧ (chc xs)[k * 2 + 1]? = some (.bool x.2) := by
  induction xs generalizing k with
  | nil => cases h
  | cons y ys ih =>
    have e : chc (y :: ys) = .int .i64 y.1 :: .bool y.2 :: chc ys := by simp [chc]
    cases k with
    | zero => cases h; rw [e]; exact ⟨rfl, rfl⟩
    | succ k =>
      obtain ⟨h1, h2⟩ := ih k (by simpa using h)
      rw [e, show (k + 1) * 2 = k * 2 + 1 + 1 by omega, List.getElem?_cons_succ, List.getElem?_cons_succ, List.getElem?_cons_succ, List.getElem?_cons_succ]
      exact ⟨h1, h2⟩
theorem rdc_own {B n cap : Nat} {ao : Option Addr} {xs : List (Int × Bool)} {w : World} (h : w.ownsRow B 42 2 (.slice ao n cap) n (chc xs)) : RdC w ao xs := by
  intro k x hk
  have hn : xs.length = n := by have := h.1; rw [chc_len] at this; omega
  have hkl := (List.getElem?_eq_some_iff.1 hk).1
  obtain ⟨c1, c2⟩ := chc_at xs k x hk
  rcases h.2 with ⟨h', h0⟩ | ⟨q, cap', cur, h', hb, hg, hnc, hcm, hcs, htk⟩
  · omega
  · simp only [Value.slice.injEq, true_and] at h'
    obtain ⟨rfl, rfl⟩ := h'
    have e1 := h.cellAt (k * 2) (by omega)
    have e2 := h.cellAt (k * 2 + 1) (by omega)
    refine ⟨_, rfl, (h.lt q rfl).2, ?_, ?_⟩
    · rw [Addr.add_lit, Nat.zero_add, e1]; exact c1
    · rw [Addr.add_lit, Nat.zero_add]
      show w.cell? ⟨q, k * 2 + 1, none⟩ = _
      rw [e2]; exact c2
set_option maxHeartbeats 1000000 in
theorem same_any (ao bo : Option Addr) (n ac bc : Nat) (l : List (Int × Bool)) (w : World) (ha : RdC w ao l) (hb : RdC w bo l) (hn : n = l.length) (hl : n ≤ 1000000000000) :
    Calls Tryd.prog 22 #[.slice ao n ac, .slice bo n bc] w fun e w' => e = .returned (.bool true) ∧ Below w.heap.size w w' := by
  have HA := hid ha
  have HB := hid hb
  have HN := hid hn
  clear ha hb hn
  have hne : ((n : Int) != (n : Int)) = false := by simp
  go_enter Tryd.func22, Tryd.ntmps22
  go_wp2
  go_loopw [5] (fun i wr => ∃ k : Nat, k ≤ n ∧ i = .int .i64 k ∧ Below w.heap.size w wr) (fun i _ => n - (intOf i).toNat)
  case atStart => exact ⟨0, by omega, rfl, Below.refl _ _⟩
  case round =>
    obtain ⟨k, hk, rfl, hBr⟩ := hrel
    by_cases hlt : k < n
    · have hltl : k < l.length := by have := HN.out; omega
      obtain ⟨a, rfl, ha, a0, a1⟩ := HA.out.below hBr k l[k] (List.getElem?_eq_getElem hltl)
      obtain ⟨b, rfl, hb, b0, b1⟩ := HB.out.below hBr k l[k] (List.getElem?_eq_getElem hltl)
      obtain ⟨x0, e0⟩ : ∃ x0, x0 = l[k].1 := ⟨_, rfl⟩
      obtain ⟨x1, e1⟩ : ∃ x1, x1 = l[k].2 := ⟨_, rfl⟩
      rw [← e0] at a0 b0
      rw [← e1] at a1 b1
      have HBr := hid hBr
      clear e0 e1 hBr
      go_wp2_with fail
      go_region
      go_wp2
      go_roundw
      case rel => exact ⟨k + 1, by omega, by go_num, HBr.out.drew⟩
      case measure => simp [intOf]; omega
    · go_wp2
      go_ret
      exact ⟨rfl, hBr⟩
end Go.Proofs.YtmhbhjlaagpohaaDoor
