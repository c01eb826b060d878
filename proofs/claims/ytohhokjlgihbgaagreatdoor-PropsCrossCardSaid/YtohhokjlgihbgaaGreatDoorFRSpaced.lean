/- The contract of the document's spaced. -/
import Derived.Test.YtohhokjlgihbgaaGreatDoorFCode
import Derived.Test.YtohhokjlgihbgaaGreatDoorFReadMath
namespace Go.Proofs.YtohhokjlgihbgaaGreatDoor
open Go.RowKit

/-- The bytes of a text, those ahead of a place spaced. -/
def SpA (l : List UInt8) (B k : Nat) (w : World) : Prop := ∃ (cs : Array Value) (M : Nat), w.heap[B]? = some (.cells cs 5 (M, M + 1)) ∧ l.length ≤ M ∧ ∀ j (hj : j < l.length), cs[j]? = some (.int .u8 ((if j < k then tbl l[j] else l[j]).toNat : Nat))
theorem SpA.cell {l : List UInt8} {B k : Nat} {w : World} (h : SpA l B k w) (j : Nat) (hj : j < l.length) : w.cell? ⟨B, j, none⟩ = some (.int .u8 ((if j < k then tbl l[j] else l[j]).toNat : Nat)) := by
  obtain ⟨cs, M, h1, h2, h3⟩ := h
  rw [cell_of_row w B j cs 5 (M, M + 1) h1]
  exact h3 j hj
theorem SpA.frozen {l : List UInt8} {B k : Nat} {w : World} (h : SpA l B k w) (j : Nat) (hj : j < l.length) : w.frozen? ⟨B, j, none⟩ = false := by
  obtain ⟨cs, M, h1, h2, h3⟩ := h
  unfold World.frozen?
  rw [show (⟨B, j, none⟩ : Addr).block = B from rfl, h1]
  show (decide (M ≤ j) && decide (j < M + 1)) = false
  rw [decide_eq_false (by omega)]
  rfl
theorem SpA.store {l : List UInt8} {B k : Nat} {w : World} (h : SpA l B k w) (hk : k < l.length) (h9 : l[k] = 9) : SpA l B (k + 1) (w.setCell ⟨B, k, none⟩ (.int .u8 32)) := by
  obtain ⟨cs, M, h1, h2, h3⟩ := h
  refine ⟨_, M, Lib.heap_setCell_same (i := k) h1 (.int .u8 32), h2, fun j hj => ?_⟩
  have hkc : k < cs.size := (Array.getElem?_eq_some_iff.1 (h3 k hk)).1
  rw [Array.getElem?_setIfInBounds]
  by_cases hjk : k = j
  · subst hjk
    rw [if_pos rfl, if_pos hkc, if_pos (by omega), h9]
    rfl
  · rw [if_neg hjk, h3 j hj]
    by_cases h5 : j < k
    · rw [if_pos h5, if_pos (by omega)]
    · rw [if_neg h5, if_neg (by omega)]
theorem SpA.keep {l : List UInt8} {B k : Nat} {w : World} (h : SpA l B k w) (hk : k < l.length) (h9 : l[k] ≠ 9) : SpA l B (k + 1) w := by
  obtain ⟨cs, M, h1, h2, h3⟩ := h
  refine ⟨cs, M, h1, h2, fun j hj => ?_⟩
  rw [h3 j hj]
  by_cases hjk : k = j
  · subst hjk
    rw [if_neg (by omega), if_pos (by omega)]
    unfold tbl
    rw [if_neg h9]
  · by_cases h5 : j < k
    · rw [if_pos h5, if_pos (by omega)]
    · rw [if_neg h5, if_neg (by omega)]
set_option maxHeartbeats 1000000 in
set_option maxRecDepth 100000 in
theorem spaced_any (l : List UInt8) (w : World) (hl : l.length ≤ 1000000) :
    Calls Tryz.prog 74 #[.string ⟨l.toArray⟩] w fun e w' => e = .returned (.string ⟨(l.map tbl).toArray⟩) ∧ Below w.heap.size w w' := by
  obtain ⟨t, ht⟩ : ∃ t : ByteArray, t = ⟨l.toArray⟩ := ⟨_, rfl⟩
  have hsz : t.size = l.length := by rw [ht]; show l.toArray.size = _; simp
  have hcv := Lib.run_convert_string_bytes (P := Tryz.prog) w 9 94 5 t (u := .string) Tryz.underlying9 Tryz.underlying94 Tryz.underlying5
  rw [hsz] at hcv
  have HBW := hid (Lib.bytesWorld_below w 5 t)
  have HSA := hid (show SpA l w.heap.size 0 (Lib.bytesWorld w 5 t) by
    refine ⟨_, _, Lib.bytesWorld_at_new w 5 t, ?_, fun j hj => ?_⟩
    · unfold Lib.bytesCells; rw [Array.size_append, Array.size_map]; have h5 : t.data.size = l.length := hsz; omega
    · have h5 := Lib.bytesWorld_cell w 5 t j (by omega)
      rw [cell_of_row _ _ j _ 5 _ (Lib.bytesWorld_at_new w 5 t)] at h5
      rw [h5, ht, if_neg (by omega)]
      simp [List.getD, hj])
  obtain ⟨c, hc⟩ : ∃ c, c = grownCap w l.length 0 5 := ⟨_, rfl⟩
  rw [← hc] at hcv
  obtain ⟨N, hN⟩ : ∃ N, N = w.heap.size := ⟨_, rfl⟩
  rw [← hN] at hcv HSA HBW ⊢
  obtain ⟨W1, hW1⟩ : ∃ W1, W1 = Lib.bytesWorld w 5 t := ⟨_, rfl⟩
  rw [← hW1] at hcv HBW HSA
  rw [← ht]
  clear hW1 ht hc hN hsz
  go_enter Tryz.func74, Tryz.ntmps74
  go_wp2
  clear hcv
  go_loopw [4] (fun x wr => ∃ k : Nat, k ≤ l.length ∧ x = .int .i64 (k : Int) ∧ Hid (SpA l N k wr) ∧ Hid (Below N w wr)) (fun x _ => l.length - (intOf x).toNat)
  case atStart => exact ⟨0, by omega, rfl, HSA, HBW⟩
  case round =>
    obtain ⟨k, hk, rfl, HS, HB⟩ := hrel
    clear HSA HBW
    by_cases hlt : k < l.length
    · have i3 : (k : Int) < (l.length : Int) := by omega
      have i0' : (0 : Int) ≤ (k : Int) := by omega
      have c1 := HS.out.cell k hlt
      have c2 := HS.out.frozen k hlt
      rw [if_neg (by omega)] at c1
      have H9 := hid (fun h => HS.out.store hlt h)
      have HN9 := hid (fun h => HS.out.keep hlt h)
      generalize l[k] = b at *
      by_cases h9 : b = 9
      · have HSS := hid (H9.out h9)
        have HBS := hid (HB.out.setCell (p := ⟨N, k, none⟩) (Nat.le_refl N) (.int .u8 32))
        subst h9
        clear H9 HN9
        go_wp2
        go_roundw
        case rel => exact ⟨k + 1, by omega, by go_num, HSS, HBS⟩
        case measure => simp [intOf]; omega
      · have HSS := hid (HN9.out h9)
        have h9' : ((b.toNat : Int) == 9) = false := beq_eq_false_iff_ne.2 (fun e => h9 (UInt8.toNat_inj.1 (show b.toNat = 9 by omega)))
        clear H9 HN9
        go_wp2
        go_roundw
        case rel => exact ⟨k + 1, by omega, by go_num, HSS, HB⟩
        case measure => simp [intOf]; omega
    · have i3 : ¬ (k : Int) < (l.length : Int) := by omega
      have hlm : (l.map tbl).length = l.length := by simp
      have hcb := run_convert_bytes_back (P := Tryz.prog) wr 94 9 5 ⟨N, 0, none⟩ c (l.map tbl) Tryz.underlying94 Tryz.underlying5 Tryz.underlying9 (fun j hj => by
        have hj' : j < l.length := by omega
        have h5 := HS.out.cell j hj'
        rw [if_pos (by omega)] at h5
        have e : (⟨N, 0, none⟩ : Addr).add j = ⟨N, j, none⟩ := by simp [Addr.add]; exact fun h => h.symm
        rw [e, h5]; simp)
      rw [hlm] at hcb
      go_wp2
      go_ret
      exact ⟨rfl, HB.out⟩
end Go.Proofs.YtohhokjlgihbgaaGreatDoor
