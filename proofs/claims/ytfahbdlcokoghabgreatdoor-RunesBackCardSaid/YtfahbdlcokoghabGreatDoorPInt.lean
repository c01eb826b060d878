/- The contract of strconv.ParseInt at hexadecimal digits, six at most. -/
import Derived.Test.YtfahbdlcokoghabGreatDoorParMath
import Derived.Lib.Strings
import Derived.Lib.Walk
import Derived.Lib.AtoiErrMem
import Derived.Lib.ConvBytes
import Derived.Laws.Strings3
import Derived.Laws.Closers25
import Derived.Laws.Closers25b
import Derived.BigCall
import Derived.BigGuard
namespace Go.Proofs.YtfahbdlcokoghabGreatDoor
open Go.RowKit

theorem lower_any (c : Int) (w : World) : Calls Tryz.prog 106 #[.int .u8 c] w fun e w' => e = .returned (.int .u8 (bits .or .u8 c 32)) ∧ w' = w := by
  go_enter Tryz.func106, Tryz.ntmps106
  go_wp2
  go_ret
  exact ⟨rfl, rfl⟩
theorem lower_AF (c : Nat) (h0 : 65 ≤ c) (h1 : c ≤ 70) : bits .or .u8 (c : Int) 32 = (c : Int) + 32 := by
  obtain rfl | rfl | rfl | rfl | rfl | rfl : c = 65 ∨ c = 66 ∨ c = 67 ∨ c = 68 ∨ c = 69 ∨ c = 70 := by omega
  all_goals decide
theorem lowerAF_any (c : Nat) (h0 : 65 ≤ c) (h1 : c ≤ 70) (w : World) : Calls Tryz.prog 106 #[.int .u8 c] w fun e w' => e = .returned (.int .u8 ((c : Int) + 32)) ∧ w' = w := by
  rw [← lower_AF c h0 h1]; exact lower_any c w

set_option maxHeartbeats 4000000 in
set_option maxRecDepth 100000 in
theorem puint_any (l : List UInt8) (w : World) (hne : l ≠ []) (hl : l.length ≤ 6) (hx : ∀ c, c ∈ l → isHx c = true) :
    Calls Tryz.prog 99 #[.string ⟨l.toArray⟩, .int .i64 16, .int .i64 32] w fun e w' => e = .returned (.tuple #[.int .u64 (hxs 0 l : Nat), .nilIface]) ∧ Below w.heap.size w w' := by
  obtain ⟨t, ht⟩ : ∃ t : ByteArray, t = ⟨l.toArray⟩ := ⟨_, rfl⟩
  have hsz : t.size = l.length := by rw [ht]; show l.toArray.size = _; simp
  have hpos : 0 < l.length := List.length_pos_iff.2 hne
  have hemp : t.toList.isEmpty = false := by
    rw [← decide_eq_emptyBytes]
    exact decide_eq_false (fun h => by rw [h] at hsz; simp at hsz; omega)
  have hcv := Lib.run_convert_string_bytes (P := Tryz.prog) w 9 38 5 t (u := .string) Tryz.underlying9 Tryz.underlying38 Tryz.underlying5
  have HBW := hid (Lib.bytesWorld_below w 5 t)
  have hB : ∀ j, j < t.size → (Lib.bytesWorld w 5 t).cell? ⟨w.heap.size, j, none⟩ = some (.int .u8 (l.getD j 0).toNat) := fun j hj => by
    rw [Lib.bytesWorld_cell w 5 t j hj, ht]
  obtain ⟨W1, hW1⟩ : ∃ W1, W1 = Lib.bytesWorld w 5 t := ⟨_, rfl⟩
  rw [← hW1] at hcv hB HBW
  rw [← ht]
  clear hW1 ht hne
  have HB := hid hB
  have HX := hid hx
  clear hB hx
  have hmv : IntKind.u64.wrap (IntKind.u64.wrap 4294967296 - 1) = 4294967295 := by
    rw [IntKind.wrap_u64, IntKind.wrap_u64]
    decide
  go_enter Tryz.func99, Tryz.ntmps99
  go_wp2
  go_loop [12, 13, 101] (fun vu vn vi => ∃ (k acc : Nat) (a : Int), vu = .bool false ∧ vn = .int .u64 a ∧ vi = .int .i64 k ∧ k ≤ t.size ∧ 0 ≤ a ∧ a ≤ 16777215 ∧ Hid (a = (acc : Int) ∧ hxs 0 l = hxs acc (l.drop k) ∧ acc + 1 ≤ 16 ^ k))
    (fun _ _ vi => t.size - (intOf vi).toNat)
  case atStart => exact ⟨0, 0, 0, rfl, rfl, rfl, by omega, by omega, by omega, rfl, rfl, by decide⟩
  case round =>
    obtain ⟨k, acc, a, rfl, rfl, rfl, hk, a0, a1, hh⟩ := hrel
    by_cases hkn : k < t.size
    · have hkl : k < l.length := by omega
      have hc := HB.out k hkn
      have hget : l.getD k 0 = l[k] := by simp [List.getD, List.getElem?_eq_getElem hkl]
      have hxk := HX.out l[k] (List.getElem_mem hkl)
      have hv := hxV_lt hxk
      have hlt9 : (acc + 1) * 16 ≤ 16777216 := by
        have h1 := hh.out.2.2
        have h2 : 16 ^ k ≤ 16 ^ 5 := Nat.pow_le_pow_right (by omega) (by omega)
        have h3 : (16 : Nat) ^ 5 = 1048576 := by decide
        omega
      have HN := hid (show ∀ a' : Int, a' = a * 16 + (hxV l[k] : Int) → (a' = ((acc * 16 + hxV l[k] : Nat) : Int) ∧ hxs 0 l = hxs (acc * 16 + hxV l[k]) (l.drop (k + 1)) ∧ acc * 16 + hxV l[k] + 1 ≤ 16 ^ (k + 1)) from fun a' ha' => by
        obtain ⟨h1, h2, h3⟩ := hh.out
        refine ⟨by omega, ?_, ?_⟩
        · rw [h2, List.drop_eq_getElem_cons hkl]; rfl
        · rw [Nat.pow_succ]
          omega)
      have ha := hh.out.1
      have ha9 : a * 16 + 15 ≤ 16777215 := by omega
      rw [hget] at hc
      rw [isHx_iff] at hxk
      unfold hxV at HN
      generalize l[k] = c at *
      obtain ⟨m, hm⟩ : ∃ m, m = c.toNat := ⟨_, rfl⟩
      rw [← hm] at hc hxk HN
      clear hm hget hv hlt9 hh ha
      by_cases hd : m ≤ 57
      · have d0 : 48 ≤ m := by omega
        rw [if_pos hd] at HN
        have HN2 := hid (HN.out (a * 16 + ((m : Int) - 48)) (by omega))
        clear HN hxk
        go_wp2
        refine ⟨⟨k + 1, acc * 16 + (m - 48), a * 16 + ((m : Int) - 48), rfl, (by first | rfl | (congr 1; omega)), (by first | rfl | (congr 1; omega)), by omega, by omega, by omega, HN2⟩, by simp [intOf]; omega⟩
      · have d0 : 65 ≤ m := by omega
        have d1 : m ≤ 70 := by omega
        rw [if_neg hd] at HN
        have HN2 := hid (HN.out (a * 16 + ((m : Int) - 55)) (by omega))
        clear HN hxk
        go_wp2_with (go_at_call 106; refine (lowerAF_any m d0 d1 _).mono ?_; rintro e w' ⟨rfl, rfl⟩)
        refine ⟨⟨k + 1, acc * 16 + (m - 55), a * 16 + ((m : Int) - 55), rfl, (by first | rfl | (congr 1; omega)), (by first | rfl | (congr 1; omega)), by omega, by omega, by omega, HN2⟩, by simp [intOf]; omega⟩
    · have HF := hid (show a = ((hxs 0 l : Nat) : Int) by
        obtain ⟨h1, h2, h3⟩ := hh.out
        rw [h2, List.drop_of_length_le (by omega), h1]; rfl)
      clear hh
      go_wp2
      go_ret2
      exact ⟨by rw [HF.out]; rfl, HBW.out⟩
end Go.Proofs.YtfahbdlcokoghabGreatDoor

