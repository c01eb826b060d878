/- The contract of Is (package runes): whether a list is in normal form. -/
import Derived.Test.YtfahbdlcokoghaaDoorSame2
namespace Go.Proofs.YtfahbdlcokoghaaDoor
open Go.RowKit

/-- In normal form, as a test. -/
def nfB (b : Int) : List Rg → Bool
  | [] => true
  | g :: l => decide (b ≤ g.1) && (decide (g.1 ≤ g.2) && (decide (g.2 ≤ top) && nfB (g.2 + 2) l))
theorem nfB_iff : ∀ (l : List Rg) (b : Int), nfB b l = true ↔ nfF b l
  | [], _ => by simp [nfB, nfF]
  | g :: l, b => by simp [nfB, nfF, nfB_iff l]
theorem drop_nf (l : List Rg) (k : Nat) (b : Int) (hk : k < l.length) : nfB b (l.drop k) = (decide (b ≤ l[k].1) && (decide (l[k].1 ≤ l[k].2) && (decide (l[k].2 ≤ top) && nfB (l[k].2 + 2) (l.drop (k + 1))))) := by
  rw [List.drop_eq_getElem_cons hk]; rfl

set_option maxHeartbeats 1000000 in
theorem is_any (ao : Option Addr) (ac : Nat) (l : List Rg) (w : World) (ha : RdR w ao l) (hl : l.length ≤ 1000000000000) :
    Calls Tryd.prog 14 #[.slice ao l.length ac] w fun e w' => e = .returned (.bool (nfB 0 l)) ∧ Below w.heap.size w w' := by
  have HA := hid ha
  clear ha
  go_enter Tryd.func14, Tryd.ntmps14
  go_wp2
  go_loopw [3, 8] (fun b i wr => ∃ (k : Nat) (q : Int), k ≤ l.length ∧ i = .int .i64 k ∧ b = .int .i32 q ∧ 0 ≤ q ∧ q ≤ 1114113 ∧ Hid (nfB 0 l = nfB q (l.drop k)) ∧ Below w.heap.size w wr) (fun _ i _ => l.length - (intOf i).toNat)
  case atStart => exact ⟨0, 0, by omega, rfl, rfl, by omega, by omega, rfl, Below.refl _ _⟩
  case round =>
    obtain ⟨k, q, hk, rfl, rfl, hq0, hq1, HE, hBr⟩ := hrel
    by_cases hlt : k < l.length
    · obtain ⟨a, rfl, ha, a0, a1⟩ := HA.out.below hBr k l[k] (List.getElem?_eq_getElem hlt)
      have HD := hid (HE.out.trans (drop_nf l k q hlt))
      generalize l[k].1 = z0 at *
      generalize l[k].2 = z1 at *
      by_cases e1 : z0 < q
      · have HZ := hid (show nfB 0 l = false by rw [HD.out]; simp; omega)
        go_wp2
        go_ret
        exact ⟨by rw [HZ.out]; rfl, hBr.alloc hBr.size _⟩
      by_cases e2 : z1 < z0
      · have HZ := hid (show nfB 0 l = false by rw [HD.out]; simp; omega)
        go_wp2
        go_ret
        exact ⟨by rw [HZ.out]; rfl, hBr.alloc hBr.size _⟩
      by_cases e3 : 1114111 < z1
      · have HZ := hid (show nfB 0 l = false by rw [HD.out]; unfold top; simp; omega)
        go_wp2
        go_ret
        exact ⟨by rw [HZ.out]; rfl, hBr.alloc hBr.size _⟩
      · have HZ := hid (show nfB 0 l = nfB (z1 + 2) (l.drop (k + 1)) by
          rw [HD.out]
          unfold top
          rw [decide_eq_true (show q ≤ z0 by omega), decide_eq_true (show z0 ≤ z1 by omega), decide_eq_true (show z1 ≤ 1114111 by omega)]
          rfl)
        clear HD HE
        go_wp2
        go_roundw
        case rel => exact ⟨k + 1, z1 + 2, by omega, by go_num, by go_num, by omega, by omega, HZ, hBr.alloc hBr.size _⟩
        case measure => simp [intOf]; omega
    · have HZ := hid (show nfB 0 l = true by rw [HE.out, List.drop_of_length_le (by omega)]; rfl)
      go_wp2
      go_ret
      exact ⟨by rw [HZ.out]; rfl, hBr⟩
end Go.Proofs.YtfahbdlcokoghaaDoor
