/- The tables and the function without a body that the evaluator takes. -/
import Derived.Test.YtdcfflnjkjnodaaGreatDoorEvA
import Derived.Test.YtdcfflnjkjnodaaGreatDoorProg
import Derived.Lib.LaidU8T
import Derived.Lib.Bytealg
namespace Go.Proofs.YtdcfflnjkjnodaaGreatDoor
open Ev Go.RowKit
/-- The tables of package unicode/utf8. -/
def firstL : List Value := (List.range 256).map fun c => .int .u8 (Lib.firstT c : Int)
def acceptL : List Value := (List.range 32).map fun j => .int .u8 (if Nat.beq (j % 2) 0 then (Lib.accLo (j / 2) : Int) else Lib.accHi (j / 2))
/-- The table of package strings: which bytes are blanks. -/
def spaceL : List Value := (List.range 256).map fun c => .int .u8 (if (Nat.ble 9 c && Nat.ble c 13) || Nat.beq c 32 then 1 else 0)
def tabs : List Tb := [⟨0, 79, 1, firstL⟩, ⟨1, 82, 2, acceptL⟩, ⟨3, 79, 1, spaceL⟩]
theorem tabs_ok : tbOK tabs = true := by kernel_rfl
def idxL (c : Nat) : List UInt8 → Nat → Option Nat
  | [], _ => none
  | u :: r, i => bif Nat.beq u.toNat c then some i else idxL c r (i + 1)
def idxI : Option Nat → Int
  | some i => i
  | none => -1
def indexX : List Value → Option Value
  | [.string s, .int .u8 c] => bif Nat.ble c.toNat 255 then some (.int .i64 (idxI (idxL c.toNat s.data.toList 0))) else none
  | _ => none
theorem idxL_is (c : UInt8) : ∀ (l : List UInt8) (i : Nat), idxI (idxL c.toNat l i) = if Lib.indexByte l c = -1 then -1 else Lib.indexByte l c + i
  | [], i => rfl
  | u :: r, i => by
    have hg := Lib.indexByte_ge r c
    unfold idxL Lib.indexByte
    by_cases h : u = c
    · subst h
      simp [idxI]
    · have h1 : Nat.beq u.toNat c.toNat = false := by
        cases hb : Nat.beq u.toNat c.toNat with
        | false => rfl
        | true => exact absurd (UInt8.toNat_inj.1 (Nat.eq_of_beq_eq_true hb)) h
      have h2 : (u == c) = false := beq_eq_false_iff_ne.2 h
      rw [h1, h2, cond_false, idxL_is c r (i + 1)]
      by_cases h3 : Lib.indexByte r c = -1
      · simp [h3]
      · simp only [h3, if_false, Bool.false_eq_true, beq_iff_eq]
        rw [if_neg (by omega)]
        omega
def cntL (c : Nat) : List UInt8 → Nat → Nat
  | [], n => n
  | u :: r, n => cntL c r (bif Nat.beq u.toNat c then n + 1 else n)
def countX : List Value → Option Value
  | [.string s, .int .u8 c] => bif Nat.ble c.toNat 255 then some (.int .i64 (cntL c.toNat s.data.toList 0)) else none
  | _ => none
theorem cntL_is (c : UInt8) : ∀ (l : List UInt8) (n : Nat), cntL c.toNat l n = n + Lib.countByte l c
  | [], n => by simp [cntL, Lib.countByte]
  | u :: r, n => by
    have ih := cntL_is c r
    unfold Lib.countByte at *
    unfold cntL
    by_cases h : u = c
    · subst h
      have h1 : Nat.beq u.toNat u.toNat = true := Nat.beq_refl _
      rw [h1, cond_true, ih (n + 1), List.count_cons_self]
      omega
    · have h1 : Nat.beq u.toNat c.toNat = false := by
        cases hb : Nat.beq u.toNat c.toNat with
        | false => rfl
        | true => exact absurd (UInt8.toNat_inj.1 (Nat.eq_of_beq_eq_true hb)) h
      rw [h1, cond_false, ih n, List.count_cons_of_ne h]
def same7 : XT := fun g => bif Nat.beq g 84 then some indexX else bif Nat.beq g 49 then some countX else none
theorem same7_ok : SameOK Tryz.prog same7 := fun g fnc hg => by
  unfold same7 at hg
  cases hb : Nat.beq g 84 with
  | false =>
    rw [hb, cond_false] at hg
    cases hb2 : Nat.beq g 49 with
    | false => rw [hb2] at hg; cases hg
    | true =>
      rw [hb2] at hg
      have e := Nat.eq_of_beq_eq_true hb2
      subst e
      cases hg
      refine ⟨Tryz.f49, _, Tryz.func49, by kernel_rfl, by kernel_rfl, by kernel_rfl, show _ = some Extern.BytealgCount.count by kernel_rfl, ?_⟩
      intro args v hv μ args' w hl
      unfold countX at hv
      split at hv
      · rename_i s c
        cases hc : Nat.ble c.toNat 255 with
        | false => rw [hc] at hv; cases hv
        | true =>
          rw [hc] at hv
          cases hv
          have h3 := flatL_eq (v := [.string s, .int .u8 c]) rfl hl
          have h4 : args' = #[.string s, .int .u8 c] := Array.toList_inj.1 (by rw [h3])
          subst h4
          refine ⟨_, Lib.run_countString s c w, ?_⟩
          have h5 : c.toNat = c.toNat.toUInt8.toNat := by
            have := Nat.le_of_ble_eq_true hc
            rw [UInt8.toNat_ofNat']
            omega
          have h6 := cntL_is c.toNat.toUInt8 s.data.toList 0
          rw [← h5, Nat.zero_add] at h6
          rw [h6]
          exact flat_VR rfl
      · cases hv
  | true =>
    rw [hb] at hg
    have e := Nat.eq_of_beq_eq_true hb
    subst e
    cases hg
    refine ⟨Tryz.f84, _, Tryz.func84, by kernel_rfl, by kernel_rfl, by kernel_rfl, show _ = some Extern.BytealgIndexByte.indexByte by kernel_rfl, ?_⟩
    intro args v hv μ args' w hl
    unfold indexX at hv
    split at hv
    · rename_i s c
      cases hc : Nat.ble c.toNat 255 with
      | false => rw [hc] at hv; cases hv
      | true =>
        rw [hc] at hv
        cases hv
        have h3 := flatL_eq (v := [.string s, .int .u8 c]) rfl hl
        have h4 : args' = #[.string s, .int .u8 c] := Array.toList_inj.1 (by rw [h3])
        subst h4
        refine ⟨_, Lib.run_indexByteString s c w, ?_⟩
        have h5 : c.toNat = c.toNat.toUInt8.toNat := by
          have := Nat.le_of_ble_eq_true hc
          rw [UInt8.toNat_ofNat']
          omega
        have h6 := idxL_is c.toNat.toUInt8 s.data.toList 0
        rw [← h5] at h6
        rw [h6]
        have h7 : (if Lib.indexByte s.data.toList c.toNat.toUInt8 = -1 then -1 else Lib.indexByte s.data.toList c.toNat.toUInt8 + ((0 : Nat) : Int)) = Lib.indexByte s.data.toList c.toNat.toUInt8 := by
          split
          · omega
          · simp
        rw [h7]
        exact flat_VR rfl
    · cases hv
theorem mixed : Tryz.prog.follows .mixedOrders = true := by kernel_rfl
end Go.Proofs.YtdcfflnjkjnodaaGreatDoor
