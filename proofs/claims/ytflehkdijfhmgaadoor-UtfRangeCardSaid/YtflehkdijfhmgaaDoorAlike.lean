/- The contracts of the document's Alike and Places: two lists that are the same are found so. -/
import Derived.Test.YtflehkdijfhmgaaDoorCutMath
import Derived.Test.YtflehkdijfhmgaaDoorEdges
import Derived.Test.YtflehkdijfhmgaaDoorRunes
import Derived.Deep.QuietTactic
import Derived.BigQuiet
import Derived.WalkSmall
namespace Go.Proofs.YtflehkdijfhmgaaDoor
open Go.RowKit

/-- A slice of numbers, as it can be read. -/
def Reads (K : IntKind) (w : World) (v : Value) (E : List Int) : Prop :=
  ∃ ao cap, v = .slice ao E.length cap ∧ ∀ (k : Nat) (z : Int), E[k]? = some z → ∃ g o, ao = some ⟨g, o, none⟩ ∧ g < w.heap.size ∧ w.cell? ⟨g, o + k, none⟩ = some (.int K z)

theorem Reads.below {K : IntKind} {w w' : World} {v : Value} {E : List Int} (h : Reads K w v E) (hb : Below w.heap.size w w') : Reads K w' v E := by
  obtain ⟨ao, cap, hv, hc⟩ := h
  refine ⟨ao, cap, hv, fun k z hk => ?_⟩
  obtain ⟨g, o, hg, hl, hcell⟩ := hc k z hk
  have := hb.size
  exact ⟨g, o, hg, by omega, (hb.cell (p := ⟨g, o + k, none⟩) hl).trans hcell⟩

theorem Reads.of_row {K : IntKind} {w : World} {B e : Nat} {v : Value} {E : List Int} (h : w.ownsRow B e 1 v E.length (E.map (Value.int K))) : Reads K w v E := by
  obtain ⟨ao, cap, rfl, hao⟩ := owns_form h
  refine ⟨ao, cap, rfl, fun k z hk => ?_⟩
  have hkl : k < E.length := (List.getElem?_eq_some_iff.1 hk).1
  obtain ⟨g, hg, _, hlt⟩ := hao (by omega)
  have hc := h.cells (g := g) (by rw [hg]; rfl) k (.int K z) (by rw [List.getElem?_map, hk]; rfl)
  rw [show (⟨g, 0, none⟩ : Addr).add k = ⟨g, k, none⟩ by unfold Addr.add; split <;> simp_all] at hc
  exact ⟨g, 0, hg, hlt, by rw [Nat.zero_add]; exact hc⟩

set_option maxHeartbeats 400000 in
theorem alike_any (a b : Value) (E : List Int) (w : World) (hE : E.length ≤ 1000000000000) (ha : Reads .i32 w a E) (hb : Reads .i32 w b E) :
    Calls Tryd.prog 15 #[a, b] w fun e w' => e = .returned (.bool true) ∧ Below w.heap.size w w' := by
  obtain ⟨ao, ca, rfl, hca⟩ := ha
  obtain ⟨bo, cb, rfl, hcb⟩ := hb
  have HA := hid hca
  have HB := hid hcb
  clear hca hcb
  go_enter Tryd.func15, Tryd.ntmps15
  go_wp2
  go_loopw [5] (fun i wr => ∃ k : Nat, i = .int .i64 k ∧ k ≤ E.length ∧ Below w.heap.size w wr) (fun i _ => E.length - (intOf i).toNat)
  case atStart => exact ⟨0, rfl, by omega, Below.refl _ _⟩
  case round =>
    obtain ⟨k, rfl, hk, hBr⟩ := hrel
    by_cases hlt : k < E.length
    · obtain ⟨g, o, rfl, l1, h1⟩ := HA.out k E[k] (List.getElem?_eq_getElem hlt)
      obtain ⟨g', o', rfl, l2, h2⟩ := HB.out k E[k] (List.getElem?_eq_getElem hlt)
      obtain ⟨z, hz⟩ : ∃ z, z = E[k] := ⟨_, rfl⟩
      rw [← hz] at h1 h2
      have h1' := (hBr.cell (p := ⟨g, o + k, none⟩) l1).trans h1
      have h2' := (hBr.cell (p := ⟨g', o' + k, none⟩) l2).trans h2
      clear hz HA HB h1 h2
      go_wp2
      go_quiet (fail)
      go_wp2
      go_roundw
      case rel => exact ⟨k + 1, by go_num, by omega, below_drewN hBr _⟩
      case measure => simp [intOf]; omega
    · go_wp2
      go_ret
      exact ⟨rfl, hBr⟩

set_option maxHeartbeats 400000 in
theorem places_any (a b : Value) (E : List Int) (w : World) (hE : E.length ≤ 1000000000000) (ha : Reads .i64 w a E) (hb : Reads .i64 w b E) :
    Calls Tryd.prog 22 #[a, b] w fun e w' => e = .returned (.bool true) ∧ Below w.heap.size w w' := by
  obtain ⟨ao, ca, rfl, hca⟩ := ha
  obtain ⟨bo, cb, rfl, hcb⟩ := hb
  have HA := hid hca
  have HB := hid hcb
  clear hca hcb
  go_enter Tryd.func22, Tryd.ntmps22
  go_wp2
  go_loopw [5] (fun i wr => ∃ k : Nat, i = .int .i64 k ∧ k ≤ E.length ∧ Below w.heap.size w wr) (fun i _ => E.length - (intOf i).toNat)
  case atStart => exact ⟨0, rfl, by omega, Below.refl _ _⟩
  case round =>
    obtain ⟨k, rfl, hk, hBr⟩ := hrel
    by_cases hlt : k < E.length
    · obtain ⟨g, o, rfl, l1, h1⟩ := HA.out k E[k] (List.getElem?_eq_getElem hlt)
      obtain ⟨g', o', rfl, l2, h2⟩ := HB.out k E[k] (List.getElem?_eq_getElem hlt)
      obtain ⟨z, hz⟩ : ∃ z, z = E[k] := ⟨_, rfl⟩
      rw [← hz] at h1 h2
      have h1' := (hBr.cell (p := ⟨g, o + k, none⟩) l1).trans h1
      have h2' := (hBr.cell (p := ⟨g', o' + k, none⟩) l2).trans h2
      clear hz HA HB h1 h2
      go_wp2
      go_quiet (fail)
      go_wp2
      go_roundw
      case rel => exact ⟨k + 1, by go_num, by omega, below_drewN hBr _⟩
      case measure => simp [intOf]; omega
    · go_wp2
      go_ret
      exact ⟨rfl, hBr⟩
end Go.Proofs.YtflehkdijfhmgaaDoor
