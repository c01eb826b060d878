/- The contract of texts (package kerflaw04) at two lists that are the same. -/
import Derived.Test.YtohhokjlgihbgaaGreatDoorCBare
import Derived.Test.YtohhokjlgihbgaaGreatDoorCRows2
namespace Go.Proofs.YtohhokjlgihbgaaGreatDoor
open Go.RowKit

/-- A list of strings, as a slice that begins at a place. -/
def RdN (w : World) (ao : Option Addr) (U : List (List UInt8)) : Prop := ∀ k b, U[k]? = some b → ∃ a, ao = some a ∧ a.block < w.heap.size ∧ w.cell? (a.add k) = some (.string ⟨b.toArray⟩)
theorem RdN.below {w w' : World} {ao : Option Addr} {U : List (List UInt8)} (h : RdN w ao U) (hb : Below w.heap.size w w') : RdN w' ao U := fun k b hk => by
  obtain ⟨a, h1, h2, h3⟩ := h k b hk
  exact ⟨a, h1, Nat.lt_of_lt_of_le h2 hb.size, (hb.cell (p := a.add k) (by rw [add_blk]; exact h2)).trans h3⟩
theorem rdn_own {B n : Nat} {w : World} {U : List (List UInt8)} {v : Value} (h : w.ownsRow B 9 1 v n (nms U)) (hn : n = U.length) : ∃ ao ac, v = .slice ao n ac ∧ RdN w ao U := by
  by_cases h0 : U.length = 0
  · obtain ⟨ao, ac, rfl⟩ := own_form h
    exact ⟨ao, ac, rfl, fun k b hk => by have h5 := (List.getElem?_eq_some_iff.1 hk).1; omega⟩
  · obtain ⟨q, cap, rfl, _, hq⟩ := h.form (by omega)
    refine ⟨_, _, rfl, fun k b hk => ?_⟩
    have hk' := (List.getElem?_eq_some_iff.1 hk).1
    refine ⟨_, rfl, hq, ?_⟩
    have h5 := h.cellAt k (by omega)
    have e : (⟨q, 0, none⟩ : Addr).add k = ⟨q, k, none⟩ := by simp [Addr.add]; exact fun h => h.symm
    rw [e, h5]
    unfold nms
    rw [List.getElem?_map, hk]
    rfl

set_option maxRecDepth 100000 in
theorem texts_same (ao bo : Option Addr) (ac bc n : Nat) (U : List (List UInt8)) (w : World) (ha : RdN w ao U) (hb : RdN w bo U) (hn : n = U.length) (hl : n ≤ 1000000) :
    Calls Tryz.prog 26 #[.slice ao n ac, .slice bo n bc] w fun e w' => e = .returned (.bool true) ∧ Below w.heap.size w w' := by
  have HA := hid ha
  have HB := hid hb
  have HN := hid hn
  clear ha hb hn
  go_enter Tryz.func26, Tryz.ntmps26
  go_wp2
  go_loopw [5] (fun i wr => ∃ k : Nat, k ≤ n ∧ i = .int .i64 k ∧ Below w.heap.size w wr) (fun i _ => n - (intOf i).toNat)
  case atStart => exact ⟨0, by omega, rfl, Below.refl _ _⟩
  case round =>
    obtain ⟨k, hk, rfl, hBr⟩ := hrel
    by_cases hlt : k < n
    · have hltU : k < U.length := by have := HN.out; omega
      obtain ⟨a, rfl, ha, a0⟩ := HA.out.below hBr k U[k] (List.getElem?_eq_getElem hltU)
      obtain ⟨b, rfl, hb, b0⟩ := HB.out.below hBr k U[k] (List.getElem?_eq_getElem hltU)
      generalize (⟨U[k].toArray⟩ : ByteArray) = s at a0 b0
      clear hltU
      go_wp2_with fail
      go_region
      go_wp2
      go_roundw
      case rel => exact ⟨k + 1, by omega, by go_num, hBr.drew⟩
      case measure => simp [intOf]; omega
    · go_wp2
      go_ret
      exact ⟨rfl, hBr⟩
end Go.Proofs.YtohhokjlgihbgaaGreatDoor
