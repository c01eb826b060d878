/- The contract of strconv.FormatInt at the base 16. -/
import Derived.WalkSmall
import Derived.Lib.BufferRead
import Derived.Lib.BufferMore
import Derived.Lib.Case
import Derived.Test.YtohhokjlgihbgaaGreatDoorFItem
namespace Go.Proofs.YtohhokjlgihbgaaGreatDoor
open Go.RowKit

/-- A digit in small letters, and so many of a number's lowest. -/
def dgL (d : Nat) : UInt8 := UInt8.ofNat (if d < 10 then 48 + d else 87 + d)
def loL : Nat → Nat → List UInt8
  | 0, _ => []
  | k + 1, n => loL k (n / 16) ++ [dgL (n % 16)]
theorem loL_len : ∀ (k n : Nat), (loL k n).length = k
  | 0, _ => rfl
  | k + 1, n => by rw [loL, List.length_append, loL_len k]; rfl
theorem loL_cons : ∀ (k n : Nat), loL (k + 1) n = dgL (n / 16 ^ k % 16) :: loL k n
  | 0, n => by simp [loL]
  | k + 1, n => by
    rw [loL, loL_cons k (n / 16), loL, Nat.div_div_eq_div_mul, Nat.pow_succ, Nat.mul_comm (16 ^ k) 16]; rfl
theorem dgL_up (d : Nat) (h : d < 16) : Lib.upperB (dgL d) = dgU d ∧ (dgL d).toNat < 128 := by
  have hall : ∀ d, d < 16 → Lib.upperB (dgL d) = dgU d ∧ (dgL d).toNat < 128 := by decide
  exact hall d h
theorem loL_up : ∀ (k n : Nat), Lib.toUpperA (loL k n) = hxL k n
  | 0, _ => rfl
  | k + 1, n => by
    have := loL_up k (n / 16)
    unfold Lib.toUpperA at this ⊢
    rw [loL, List.map_append, this, hxL, List.map_cons, List.map_nil, (dgL_up _ (by omega)).1]
theorem loL_asc : ∀ (k n : Nat), ∀ b ∈ loL k n, b.toNat < 128
  | 0, _, b, h => by cases h
  | k + 1, n, b, h => by
    rw [loL, List.mem_append] at h
    rcases h with h | h
    · exact loL_asc k _ b h
    · simp at h; subst h; exact (dgL_up _ (by omega)).2
def u8v (b : UInt8) : Value := .int .u8 (b.toNat : Int)
/-- The array in which the digits are laid from its end on. -/
def ArrAt (A j n : Nat) (w : World) : Prop := ∃ cur : Array Value, w.heap[A]? = some (.cells cur 215 (0, 0)) ∧ cur.size = 65 ∧ cur.toList.drop (65 - j) = (loL j n).map u8v
theorem arr_cell {A j n : Nat} {w : World} (h : ArrAt A j n w) (i : Nat) (hi : i < 65) : ∃ v, w.cell? ⟨A, i, none⟩ = some v ∧ w.frozen? ⟨A, i, none⟩ = false := by
  obtain ⟨cur, h1, h2, _⟩ := h
  exact ⟨cur[i], by rw [cell_of_row w A i cur 215 (0, 0) h1]; exact Array.getElem?_eq_getElem (by omega), frozen_of_row w A i cur 215 h1⟩
theorem arr_set {A j n i : Nat} {w : World} (h : ArrAt A j n w) (hi : i = 65 - (j + 1)) (hj : j < 65) : ArrAt A (j + 1) n (w.setCell ⟨A, i, none⟩ (u8v (dgL (n / 16 ^ j % 16)))) := by
  obtain ⟨cur, h1, h2, h3⟩ := h
  subst hi
  refine ⟨_, Lib.heap_setCell_same (i := 65 - (j + 1)) h1 _, by simp [h2], ?_⟩
  have hlt : 65 - (j + 1) < cur.toList.length := by simp; omega
  rw [Array.toList_setIfInBounds, List.drop_eq_getElem_cons (by simpa using hlt), List.getElem_set_self, loL_cons, List.map_cons, ← h3]
  rw [List.drop_set_of_lt (by omega)]
  have : 65 - (j + 1) + 1 = 65 - j := by omega
  rw [this]
theorem arr_read {A j n : Nat} {w : World} (h : ArrAt A j n w) (k : Nat) (hk : k < (loL j n).length) : w.cell? ((⟨A, 65 - j, none⟩ : Addr).add k) = some (.int .u8 ((loL j n)[k].toNat : Int)) := by
  obtain ⟨cur, h1, h2, h3⟩ := h
  have e : (⟨A, 65 - j, none⟩ : Addr).add k = ⟨A, 65 - j + k, none⟩ := by unfold Addr.add; split <;> simp_all
  rw [e, cell_of_row w A _ cur 215 (0, 0) h1]
  have h4 : (cur.toList.drop (65 - j))[k]? = ((loL j n).map u8v)[k]? := by rw [h3]
  rw [List.getElem?_drop, List.getElem?_map, List.getElem?_eq_getElem hk] at h4
  rw [← Array.getElem?_toList, h4]
  rfl
theorem digs_at (d : Nat) (h : d < 36) : d < (⟨#[48, 49, 50, 51, 52, 53, 54, 55, 56, 57, 97, 98, 99, 100, 101, 102, 103, 104, 105, 106, 107, 108, 109, 110, 111, 112, 113, 114, 115, 116, 117, 118, 119, 120, 121, 122]⟩ : ByteArray).size := h
theorem digs_get (d : Nat) (h : d < 16) (h2 : d < (⟨#[48, 49, 50, 51, 52, 53, 54, 55, 56, 57, 97, 98, 99, 100, 101, 102, 103, 104, 105, 106, 107, 108, 109, 110, 111, 112, 113, 114, 115, 116, 117, 118, 119, 120, 121, 122]⟩ : ByteArray).size) : (⟨#[48, 49, 50, 51, 52, 53, 54, 55, 56, 57, 97, 98, 99, 100, 101, 102, 103, 104, 105, 106, 107, 108, 109, 110, 111, 112, 113, 114, 115, 116, 117, 118, 119, 120, 121, 122]⟩ : ByteArray)[d]'h2 = dgL d := by
  have hall : ∀ d, (h : d < 16) → (⟨#[48, 49, 50, 51, 52, 53, 54, 55, 56, 57, 97, 98, 99, 100, 101, 102, 103, 104, 105, 106, 107, 108, 109, 110, 111, 112, 113, 114, 115, 116, 117, 118, 119, 120, 121, 122]⟩ : ByteArray)[d]'(Nat.lt_trans h (by decide)) = dgL d := by decide
  exact hall d h

set_option maxHeartbeats 400000 in
theorem trail_any (w : World) (hZ : w.cell? ⟨6, 15, none⟩ = some (.int .u8 4)) :
    Calls Tryz.prog 194 #[.int .u64 16] w fun e w' => e = .returned (.int .i64 4) ∧ w' = w := by
  have e1 : bits .and .u64 16 (IntKind.u64.wrap (-16)) = 16 := by decide
  have e2 : IntKind.u64.wrap (16 * 285870213051353865) / 288230376151711744 = 15 := by decide
  have e3 : IntKind.u64.wrap 4573923408821661840 = 4573923408821661840 := by decide
  go_enter Tryz.func194, Tryz.ntmps194
  go_wp2
  go_ret
  exact ⟨rfl, rfl⟩
theorem slice_arr (A i1 : Nat) (hi : i1 < 65) (W : World) : (Instr.sliceAt 215 (.pointer (some ⟨A, 0, none⟩)) (some (.int .i64 (i1 : Int))) none none).run Tryz.prog W = .ok (.slice (some ⟨A, i1, none⟩) (65 - i1) (65 - i1)) W := by
  have hlen : Tryz.prog.arrayLen 215 = 65 := by kernel_rfl
  have helem : Tryz.prog.elem 215 = 5 := by kernel_rfl
  have h := run_sliceAt_array_l (P := Tryz.prog) W 215 ⟨A, 0, none⟩ (by rw [hlen, helem]; exact Tryz.underlying215) .i64 (i1 : Int) (by omega) (by rw [hlen]; omega)
  rw [h, helem, Tryz.sizeOf5, hlen]
  have e : ¬ 65 = i1 := by omega
  have ea : (⟨A, 0, none⟩ : Addr).add i1 = ⟨A, i1, none⟩ := by unfold Addr.add; split <;> simp_all
  simp [slicedAt, e, ea]
theorem trail2_any (w : World) (hZ : w.cell? ⟨6, 15, none⟩ = some (.int .u8 4)) :
    Calls Tryz.prog 181 #[.int .u64 16] w fun e w' => e = .returned (.int .i64 4) ∧ w' = w := by
  have HZ := hid hZ
  clear hZ
  go_enter Tryz.func181, Tryz.ntmps181
  go_wp2_with (go_at_call 194; refine (trail_any _ HZ.out).mono ?_; rintro e w' ⟨rfl, hw⟩; obtain rfl := hw.symm)
  go_ret
  exact ⟨rfl, rfl⟩
theorem pow_any (w : World) : Calls Tryz.prog 180 #[.int .i64 16] w fun e w' => e = .returned (.bool true) ∧ w' = w := by
  have e1 : bits .and .i64 16 15 = 0 := by decide
  go_enter Tryz.func180, Tryz.ntmps180
  go_wp2
  go_ret
  exact ⟨rfl, rfl⟩

set_option maxHeartbeats 2000000 in
set_option maxRecDepth 100000 in
theorem bits_any (n : Nat) (w : World) (hn : n ≤ 1114111) (hZ : w.cell? ⟨6, 15, none⟩ = some (.int .u8 4)) (h9 : 9 ≤ w.heap.size) :
    Calls Tryz.prog 154 #[.slice none 0 0, .int .u64 (n : Int), .int .i64 16, .bool false, .bool false] w fun e w' => ∃ k, e = .returned (.tuple #[.slice none 0 0, .string ⟨(loL k n).toArray⟩]) ∧ 1 ≤ k ∧ n < 16 ^ k ∧ (k = 1 ∨ 16 ^ (k - 1) ≤ n) ∧ Below w.heap.size w w' := by
  obtain ⟨wa, hwa⟩ : ∃ wa, wa = w.alloc (.cells Tryz.zeroCells215 215) := ⟨_, rfl⟩
  have HBa := hid (show Below w.heap.size w wa by rw [hwa]; exact (Below.refl _ _).alloc (Nat.le_refl _) _)
  have HZ := hid (show wa.cell? ⟨6, 15, none⟩ = some (.int .u8 4) from (HBa.out.cell (p := ⟨6, 15, none⟩) (show 6 < w.heap.size by omega)).trans hZ)
  have HA := hid (show ArrAt w.heap.size 0 n wa by rw [hwa]; exact ⟨_, World.alloc_heap_new w _, by kernel_rfl, by rw [List.drop_of_length_le (by show Tryz.zeroCells215.toList.length ≤ 65; exact Nat.le_of_eq (by kernel_rfl))]; rfl⟩)
  have HWA := hid hwa
  clear hZ hwa
  go_enter Tryz.func154, Tryz.ntmps154
  go_wp2_with (first | (go_at_call 180; rw [← HWA.out]; refine (pow_any _).mono ?_; rintro e w' ⟨rfl, hw⟩; obtain rfl := hw.symm) | (go_at_call 181; refine (trail2_any _ HZ.out).mono ?_; rintro e w' ⟨rfl, hw⟩; obtain rfl := hw.symm))
  obtain ⟨A, hA⟩ : ∃ A, A = w.heap.size := ⟨_, rfl⟩
  have hAw : A ≤ wa.heap.size := by rw [hA]; exact HBa.out.size
  rw [← hA] at HA HBa ⊢
  have HAE := hid hA
  clear HWA HZ hA
  go_loopw [1, 13] (fun u i wr => ∃ j q i0 : Nat, u = .int .u64 (q : Int) ∧ i = .int .i64 (i0 : Int) ∧ i0 + j = 65 ∧ j ≤ 5 ∧ q ≤ 1114111 ∧ Hid (q = n / 16 ^ j) ∧ Hid (j = 0 ∨ 16 ^ j ≤ n) ∧ Hid (ArrAt A j n wr) ∧ Hid (Below A w wr)) (fun _ i _ => (intOf i).toNat)
  case atStart => exact ⟨0, n, 65, rfl, rfl, rfl, by omega, hn, by simp [Hid], .inl rfl, HA, HBa⟩
  case round =>
    obtain ⟨j, q, i0, rfl, rfl, hij, hj, hq, HQ, HG, HR, HB⟩ := hrel
    obtain ⟨i1, rfl⟩ : ∃ i1, i0 = i1 + 1 := ⟨i0 - 1, by omega⟩
    obtain ⟨v0, c0, f0⟩ := arr_cell HR.out i1 (by omega)
    have esub : ((i1 + 1 : Nat) : Int) - 1 = (i1 : Int) := by omega
    have ewr : IntKind.i64.wrap (i1 : Int) = (i1 : Int) := by rw [IntKind.wrap_i64]; omega
    have b0 : (0 : Int) ≤ (i1 : Int) := by omega
    have b1 : (i1 : Int) < 65 := by omega
    by_cases c : 16 ≤ q
    · have hj5 : j < 5 := by
        rcases Nat.lt_or_ge j 5 with h | h
        · exact h
        · have e : j = 5 := by omega
          subst e
          have h1 := HQ.out
          rw [show (16 : Nat) ^ 5 = 1048576 from by decide] at h1
          omega
      obtain ⟨d, hd⟩ : ∃ d, d = q % 16 := ⟨_, rfl⟩
      have hd16 : d < 16 := by omega
      have eAnd : bits .and .u64 (q : Int) 15 = (d : Int) := by
        have h := bits_and_u64_nat q 15 (by omega) (by omega)
        rw [hd, ← Nat.and_two_pow_sub_one_eq_mod q 4]
        exact h
      have hsz := digs_at d (by omega)
      have hbd := digs_get d hd16 hsz
      have HR2 := hid (show ArrAt A (j + 1) n (wr.setCell ⟨A, i1, none⟩ (.int .u8 ((dgL d).toNat : Int))) by rw [hd, HQ.out]; exact arr_set HR.out (by omega) (by omega))
      have HQ2 := hid (show q / 16 = n / 16 ^ (j + 1) by rw [HQ.out, Nat.div_div_eq_div_mul, Nat.pow_succ])
      have HG2 := hid (show j + 1 = 0 ∨ 16 ^ (j + 1) ≤ n from .inr (by
        have h1 := HQ.out
        have h2 : 16 * 16 ^ j ≤ n := (Nat.le_div_iff_mul_le (Nat.pow_pos (by omega))).1 (by rw [← h1]; exact c)
        rw [Nat.pow_succ, Nat.mul_comm]; exact h2))
      have HB2 := hid (HB.out.setCell (p := ⟨A, i1, none⟩) (Nat.le_refl _) (.int .u8 ((dgL d).toNat : Int)))
      have c' : (16 : Int) ≤ (q : Int) := by omega
      obtain ⟨dl, hdl⟩ : ∃ dl, dl = dgL d := ⟨_, rfl⟩
      rw [← hdl] at hbd HR2 HB2
      clear hd hdl HR HQ HG HB
      go_wp2
      exact ⟨⟨j + 1, q / 16, i1, congrArg (Value.int .u64) (by omega), rfl, by omega, by omega, by omega, HQ2, HG2, HR2, HB2⟩, by simp [intOf]⟩
    · have c' : ¬ (16 : Int) ≤ (q : Int) := by omega
      have hsz := digs_at q (by omega)
      have hbd := digs_get q (by omega) hsz
      have HR2 := hid (show ArrAt A (j + 1) n (wr.setCell ⟨A, i1, none⟩ (.int .u8 ((dgL q).toNat : Int))) by have h := arr_set HR.out (i := i1) (by omega) (by omega); rw [← HQ.out, Nat.mod_eq_of_lt (by omega)] at h; exact h)
      have HB2 := hid (HB.out.setCell (p := ⟨A, i1, none⟩) (Nat.le_refl _) (.int .u8 ((dgL q).toNat : Int)))
      have HQ1 := hid (show n < 16 ^ (j + 1) by
        have h1 := HQ.out
        rw [Nat.pow_succ, Nat.mul_comm]
        exact (Nat.div_lt_iff_lt_mul (Nat.pow_pos (by omega))).1 (by rw [← h1]; omega))
      have HG1 := hid (show j + 1 = 1 ∨ 16 ^ (j + 1 - 1) ≤ n from HG.out.imp (fun h => by omega) (fun h => h))
      obtain ⟨W, hW⟩ : ∃ W, W = wr.setCell ⟨A, i1, none⟩ (.int .u8 ((dgL q).toNat : Int)) := ⟨_, rfl⟩
      have hsl := slice_arr A i1 (by omega) W
      have hcv := run_convert_bytes_back (P := Tryz.prog) W 94 9 5 ⟨A, i1, none⟩ (65 - i1) (loL (j + 1) n) Tryz.underlying94 Tryz.underlying5 Tryz.underlying9 (fun k hk => by
        have h := arr_read (w := W) (A := A) (show ArrAt A (j + 1) n W by rw [hW]; exact HR2.out) k hk
        rw [show 65 - (j + 1) = i1 by omega] at h
        exact h)
      rw [loL_len, show j + 1 = 65 - i1 by omega] at hcv
      rw [hW] at hsl hcv
      have HJ := hid (show 65 - i1 = j + 1 by omega)
      obtain ⟨S, hS⟩ : ∃ S, S = loL (65 - i1) n := ⟨_, rfl⟩
      rw [← hS] at hcv
      have HS := hid hS
      obtain ⟨dl, hdl⟩ : ∃ dl, dl = dgL q := ⟨_, rfl⟩
      rw [← hdl] at hbd hsl hcv HB2
      clear hW hS hdl HR2 HR HQ HG HB
      go_wp2
      go_ret2
      exact ⟨j + 1, by rw [HS.out, HJ.out]; rfl, by omega, HQ1.out, HG1.out, by rw [← HAE.out]; exact HB2.out⟩

set_option maxHeartbeats 1000000 in
theorem fmt_any (n : Nat) (w : World) (hn : n ≤ 1114111) (hZ : w.cell? ⟨6, 15, none⟩ = some (.int .u8 4)) (h9 : 9 ≤ w.heap.size) :
    Calls Tryz.prog 130 #[.int .i64 (n : Int), .int .i64 16] w fun e w' => ∃ k, e = .returned (.string ⟨(loL k n).toArray⟩) ∧ 1 ≤ k ∧ n < 16 ^ k ∧ (k = 1 ∨ 16 ^ (k - 1) ≤ n) ∧ Below w.heap.size w w' := by
  have HC := hid (bits_any n w hn hZ h9)
  have t1 : ¬ (n : Int) < 0 := by omega
  clear hZ
  go_enter Tryz.func130, Tryz.ntmps130
  go_wp2_with fail
  refine HC.out.mono ?_
  rintro e w1 ⟨k, rfl, hk⟩
  have HK := hid hk
  clear hk HC
  go_wp2
  go_ret
  exact ⟨k, rfl, HK.out⟩
theorem fmt2_any (n : Nat) (w : World) (hn : n ≤ 1114111) (hZ : w.cell? ⟨6, 15, none⟩ = some (.int .u8 4)) (h9 : 9 ≤ w.heap.size) :
    Calls Tryz.prog 109 #[.int .i64 (n : Int), .int .i64 16] w fun e w' => ∃ k, e = .returned (.string ⟨(loL k n).toArray⟩) ∧ 1 ≤ k ∧ n < 16 ^ k ∧ (k = 1 ∨ 16 ^ (k - 1) ≤ n) ∧ Below w.heap.size w w' := by
  have HC := hid (fmt_any n w hn hZ h9)
  clear hZ
  go_enter Tryz.func109, Tryz.ntmps109
  go_wp2_with fail
  refine HC.out.mono ?_
  rintro e w1 ⟨k, rfl, hk⟩
  have HK := hid hk
  clear hk HC
  go_wp2
  go_ret
  exact ⟨k, rfl, HK.out⟩
end Go.Proofs.YtohhokjlgihbgaaGreatDoor
