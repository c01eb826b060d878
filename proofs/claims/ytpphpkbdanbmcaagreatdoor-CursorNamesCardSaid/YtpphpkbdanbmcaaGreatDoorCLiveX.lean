/- LiveX, LiveC: parts of the proof, joined. -/
import Derived.Lib.LaidU8T
import Derived.Test.YtpphpkbdanbmcaaGreatDoorProg
import Derived.Test.YtpphpkbdanbmcaaGreatDoorCEv18
namespace Go.Proofs.YtpphpkbdanbmcaaGreatDoor
open Ev Go.RowKit
def firstL : List Value := (List.range 256).map fun c => .int .u8 (Lib.firstT c : Int)
def acceptL : List Value := (List.range 32).map fun j => .int .u8 (if Nat.beq (j % 2) 0 then (Lib.accLo (j / 2) : Int) else Lib.accHi (j / 2))
def tabs : List Tb := [⟨1, 226, 1, firstL⟩, ⟨2, 229, 2, acceptL⟩]
theorem tabs_ok : tbOK tabs = true := by kernel_rfl
def idxL (c : Nat) : List UInt8 -> Nat -> Option Nat
 | [], _ => none
 | u :: r, i => bif Nat.beq u.toNat c then some i else idxL c r (i + 1)
def idxI : Option Nat -> Int
 | some i => i
 | none => -1
def indexX : List Value -> Option Value
 | [.string s, .int .u8 c] => bif Nat.ble c.toNat 255 then some (.int .i64 (idxI (idxL c.toNat s.data.toList 0))) else none
 | _ => none
theorem idxL_is (c : UInt8) : ∀ (l : List UInt8) (i : Nat), idxI (idxL c.toNat l i) = if Lib.indexByte l c = -1 then -1 else Lib.indexByte l c + i
 | [], i => rfl
 | u :: r, i => by
  have hg := Lib.indexByte_ge r c
  unfold idxL Lib.indexByte
  by_cases h : u = c
  ·subst h
   simp [idxI]
  ·have h1 : Nat.beq u.toNat c.toNat = false := by
    cases hb : Nat.beq u.toNat c.toNat with
    | false => rfl
    | true => exact absurd (UInt8.toNat_inj.1 (Nat.eq_of_beq_eq_true hb)) h
   have h2 : (u == c) = false := beq_eq_false_iff_ne.2 h
   rw [h1, h2, cond_false, idxL_is c r (i + 1)]
   by_cases h3 : Lib.indexByte r c = -1
   ·simp [h3]
   ·simp only [h3, if_false, Bool.false_eq_true, beq_iff_eq]
    rw [if_neg (by omega)]
    omega
def same7 : XT := fun g => bif Nat.beq g 248 then some indexX else none
theorem same7_ok : SameOK Tryz.prog same7 := fun g fnc hg => by
 unfold same7 at hg
 cases hb : Nat.beq g 248 with
 | false =>
  rw [hb, cond_false] at hg
  cases hg
 | true =>
  rw [hb] at hg
  have e := Nat.eq_of_beq_eq_true hb
  subst e
  cases hg
  refine ⟨Tryz.f248, _, Tryz.func248, by kernel_rfl, by kernel_rfl, by kernel_rfl, show _ = some Extern.BytealgIndexByte.indexByte by kernel_rfl, ?_⟩
  intro args v hv μ args' w hl
  unfold indexX at hv
  split at hv
  ·rename_i s c
   cases hc : Nat.ble c.toNat 255 with
   | false => rw [hc] at hv; cases hv
   | true =>
    rw [hc] at hv
    cases hv
    have h3 := flatL_eq (v := [.string s, .int .u8 c]) rfl hl
    have h4 : args' = #[.string s, .int .u8 c] := Array.toList_inj.1 (by rw [h3])
    subst h4; refine ⟨_, Lib.run_indexByteString s c w, ?_⟩
    have h5 : c.toNat = c.toNat.toUInt8.toNat := by
     have := Nat.le_of_ble_eq_true hc
     rw [UInt8.toNat_ofNat']; omega
    have h6 := idxL_is c.toNat.toUInt8 s.data.toList 0
    rw [<- h5] at h6
    rw [h6]; have h7 : (if Lib.indexByte s.data.toList c.toNat.toUInt8 = -1 then -1 else Lib.indexByte s.data.toList c.toNat.toUInt8 + ((0 : Nat) : Int)) = Lib.indexByte s.data.toList c.toNat.toUInt8 := by
     split
     ·omega
     ·simp
    rw [h7]; exact flat_VR rfl
  ·cases hv
theorem mixed : Tryz.prog.follows .mixedOrders = true := by kernel_rfl
end Go.Proofs.YtpphpkbdanbmcaaGreatDoor
namespace Go.Proofs.YtpphpkbdanbmcaaGreatDoor
open Ev Go.RowKit
theorem names_run : runTb Tryz.prog same7 10000000 80 tabs 3 = true := by kernel_rfl
theorem names (w : World) (hw : Tbs tabs w) : Calls Tryz.prog 3 #[] w fun e w' => e = .returned (.bool true) /\ Below w.heap.size w w' := closed_tabs mixed same7_ok tabs_ok names_run w hw
end Go.Proofs.YtpphpkbdanbmcaaGreatDoor
