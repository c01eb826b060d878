/- The contracts of code (package runes) and of a builder's WriteByte. -/
import Derived.Test.YtfahbdlcokoghabGreatDoorFmt
import Derived.Test.YtfahbdlcokoghabGreatDoorShelfB
import Derived.Test.YtfahbdlcokoghabGreatDoorKeep
namespace Go.Proofs.YtfahbdlcokoghabGreatDoor
open Go.RowKit

theorem rep_eq : ∀ c : Nat, Lib.repeatL [48] c = List.replicate c 48
  | 0 => rfl
  | c + 1 => by rw [Lib.repeatL, rep_eq c, List.replicate_succ]; rfl
theorem pad_eq {n k : Nat} (hn : n ≤ 1114111) (h0 : 1 ≤ k) (h1 : n < 16 ^ k) (h2 : k = 1 ∨ 16 ^ (k - 1) ≤ n) : List.replicate (4 - k) 48 ++ hxL k n = hex n := by
  have hk6 : k ≤ 6 := by
    rcases Nat.lt_or_ge 6 k with h | h
    · exfalso
      have h3 : 16 ^ 6 ≤ 16 ^ (k - 1) := Nat.pow_le_pow_right (by omega) (by omega)
      rw [show (16 : Nat) ^ 6 = 16777216 from by decide] at h3
      omega
    · exact h
  have hw : wdt n = k + (4 - k) := by
    have c : k = 1 ∨ k = 2 ∨ k = 3 ∨ k = 4 ∨ k = 5 ∨ k = 6 := by omega
    unfold wdt
    rcases c with rfl | rfl | rfl | rfl | rfl | rfl
    · have h1' : n < 16 := h1
      rw [if_pos (by omega)]
    · have h1' : n < 256 := h1
      rw [if_pos (by omega)]
    · have h1' : n < 4096 := h1
      rw [if_pos (by omega)]
    · have h1' : n < 65536 := h1
      rw [if_pos (by omega)]
    · have h1' : n < 1048576 := h1
      have h2' : 65536 ≤ n := by rcases h2 with h | h; omega; exact h
      rw [if_neg (by omega), if_pos (by omega)]
    · have h2' : 1048576 ≤ n := by rcases h2 with h | h; omega; exact h
      rw [if_neg (by omega), if_neg (by omega)]
  unfold hex
  rw [hw, hxL_pad _ _ _ h1]
theorem cat_eq (a b : List UInt8) : (⟨a.toArray⟩ : ByteArray) ++ ⟨b.toArray⟩ = ⟨(a ++ b).toArray⟩ := by
  apply ByteArray.ext
  simp

set_option maxHeartbeats 1000000 in
theorem code_any (n : Nat) (w : World) (hn : n ≤ 1114111) (hZ : w.cell? ⟨6, 15, none⟩ = some (.int .u8 4)) (h9 : 9 ≤ w.heap.size) :
    Calls Tryz.prog 18 #[.int .i32 (n : Int)] w fun e w' => e = .returned (.string ⟨(cod n).toArray⟩) ∧ Below w.heap.size w w' := by
  have HF := hid (fmt2_any n w hn hZ h9)
  clear hZ
  go_enter Tryz.func18, Tryz.ntmps18
  go_wp2_with fail
  refine HF.out.mono ?_
  rintro e w1 ⟨k, rfl, k1, k2, k3, hb1⟩
  have HB1 := hid hb1
  have hs1 := hb1.size
  have hk6 : k ≤ 6 := by
    rcases Nat.lt_or_ge 6 k with h | h
    · exfalso
      rcases k3 with h3 | h3
      · omega
      · have h4 : 16 ^ 6 ≤ 16 ^ (k - 1) := Nat.pow_le_pow_right (by omega) (by omega)
        rw [show (16 : Nat) ^ 6 = 16777216 from by decide] at h4
        omega
    · exact h
  have HP := hid (pad_eq hn k1 k2 k3)
  have hll := loL_len k n
  have HU := hid (Tryz.strings_ToUpper_ascii ⟨(loL k n).toArray⟩ w1 (by show (loL k n).toArray.size ≤ _; rw [List.size_toArray]; omega) (fun j b hb => loL_asc k n b (List.mem_of_getElem? hb)))
  have hup : Lib.toUpperA (loL k n).toArray.toList = hxL k n := loL_up k n
  rw [show (⟨(loL k n).toArray⟩ : ByteArray).data.toList = (loL k n).toArray.toList from rfl, hup] at HU
  obtain ⟨X, hX⟩ : ∃ X, X = hxL k n := ⟨_, rfl⟩
  have hxl : X.length = k := by rw [hX]; exact hxL_len k n
  rw [← hX] at HU HP
  clear hb1 HF hup hX k2 k3 hll
  go_wp2_with fail
  refine HU.out.mono ?_
  rintro e w2 ⟨rfl, hb2⟩
  have HB2 := hid (HB1.out.trans (hb2.mono hs1))
  have hs2 := HB2.out.size
  have HRP := hid (Tryz.strings_Repeat ⟨#[48]⟩ (4 - k) w2 (by omega) (by show 1 * (4 - k) ≤ _; omega))
  rw [show (⟨#[48]⟩ : ByteArray).data.toList = [48] from rfl, rep_eq] at HRP
  have HCAT := hid (show ((⟨#[85, 43]⟩ : ByteArray) ++ ⟨(List.replicate (4 - k) (48 : UInt8)).toArray⟩) ++ ⟨X.toArray⟩ = ⟨(cod n).toArray⟩ by
    have e1 : (⟨#[85, 43]⟩ : ByteArray) = ⟨([85, 43] : List UInt8).toArray⟩ := rfl
    rw [e1, cat_eq, cat_eq, List.append_assoc, HP.out]; rfl)
  obtain ⟨R, hR⟩ : ∃ R : List UInt8, R = List.replicate (4 - k) 48 := ⟨_, rfl⟩
  rw [← hR] at HRP HCAT
  have hRl : R.length = 4 - k := by rw [hR, List.length_replicate]
  have hRs : (⟨R.toArray⟩ : ByteArray).size = 4 - k := by show R.toArray.size = _; rw [List.size_toArray]; exact hRl
  have hXs : (⟨X.toArray⟩ : ByteArray).size = k := by show X.toArray.size = _; rw [List.size_toArray]; exact hxl
  have hlX : (X.length : Int) = (k : Int) := by omega
  have em : max (0 : Int) (4 - (X.length : Int)) = ((4 - k : Nat) : Int) := by omega
  have em2 : max (0 : Int) (4 - (k : Int)) = ((4 - k : Nat) : Int) := by omega
  have em3 : IntKind.i64.wrap (4 - (X.length : Int)) = 4 - (X.length : Int) := by rw [IntKind.wrap_i64]; omega
  clear hb2 HU HB1 HP hR
  go_wp2_with fail
  refine HRP.out.mono ?_
  rintro e w3 ⟨rfl, hb3⟩
  have HB3 := hid (HB2.out.trans (hb3.mono hs2))
  clear hb3 HRP HB2
  go_wp2
  go_ret
  exact ⟨by rw [← HCAT.out]; rfl, HB3.out⟩
theorem wbyte_any (B b : Nat) (T : List UInt8) (c : UInt8) (w : World) (h : Lib.IsBuilderF 40 5 B b (Lib.byteCells T) w) (hlen : T.length + 1 ≤ 140737488355328) (hBw : B ≤ w.heap.size) :
    Calls Tryz.prog 16 #[.pointer (some ⟨b, 0, none⟩), .int .u8 (c.toNat : Int)] w fun e w' => (∃ v, e = .returned v) ∧ Lib.IsBuilderF 40 5 B b (Lib.byteCells (T ++ [c])) w' ∧ Below B w w' ∧ Lib.OthersKept 5 (some b) w w' := by
  have hc : Lib.byteCells T ++ [.int .u8 (c.toNat : Int)] = Lib.byteCells (T ++ [c]) := by
    unfold Lib.byteCells
    simp
  refine (Any.Builder_WriteByte_k { Tryz.lays158 with } Tryz.Builder_Extra_158 B b (Lib.byteCells T) (c.toNat : Int) w h (by rw [Lib.byteCells_length]; exact hlen) hBw).mono ?_
  rintro e w' ⟨rfl, h1, h2, h3⟩
  rw [hc] at h1
  exact ⟨⟨_, rfl⟩, .inr h1, h2, h3⟩
end Go.Proofs.YtfahbdlcokoghabGreatDoor
