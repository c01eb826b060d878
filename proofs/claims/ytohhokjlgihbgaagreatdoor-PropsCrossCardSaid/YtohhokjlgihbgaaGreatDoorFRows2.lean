/- Lists of ranges in memory; the contracts of Same (the document's), of Has and of Is (package runes), of Has (the document's). -/
import Derived.WalkKit
import Derived.WalkSpells
import Derived.WalkLawsBesides
import Derived.Deep.QuietTactic
import Derived.BigQuiet
import Derived.WalkSmall
import Derived.Test.YtohhokjlgihbgaaGreatDoorFHide
import Derived.Maps.Views
import Derived.Maps.Own
import Derived.Maps.OwnSet
import Derived.Maps.Keyed
namespace Go.Proofs.YtohhokjlgihbgaaGreatDoor
open Go.RowKit

theorem add_blk (a : Addr) (k : Nat) : (a.add k).block = a.block := by unfold Addr.add; split <;> rfl
/-- A slice of ranges, nil or not, reads as a list. -/
def RdR (w : World) (ao : Option Addr) (l : List Rg) : Prop :=
  ∀ (k : Nat) (g : Rg), l[k]? = some g → ∃ a : Addr, ao = some a ∧ a.block < w.heap.size ∧ w.cell? (a.add (k * 2)) = some (.int .i32 g.1) ∧ w.cell? ⟨(a.add (k * 2)).block, (a.add (k * 2)).off + 1, none⟩ = some (.int .i32 g.2)
theorem RdR.below {w w' : World} {ao : Option Addr} {l : List Rg} (h : RdR w ao l) (hb : Below w.heap.size w w') : RdR w' ao l := fun k g hk => by
  obtain ⟨a, h1, h2, h3, h4⟩ := h k g hk
  exact ⟨a, h1, Nat.lt_of_lt_of_le h2 hb.size, (hb.cell (p := a.add (k * 2)) (by rw [add_blk]; exact h2)).trans h3, (hb.cell (p := ⟨(a.add (k * 2)).block, (a.add (k * 2)).off + 1, none⟩) (show (a.add (k * 2)).block < _ by rw [add_blk]; exact h2)).trans h4⟩

set_option maxHeartbeats 1000000 in
theorem same_any (ao bo : Option Addr) (ac bc : Nat) (l : List Rg) (w : World) (ha : RdR w ao l) (hb : RdR w bo l) (hl : l.length ≤ 1000000000000) :
    Calls Tryz.prog 27 #[.slice ao l.length ac, .slice bo l.length bc] w fun e w' => e = .returned (.bool true) ∧ Below w.heap.size w w' := by
  have HA := hid ha
  have HB := hid hb
  clear ha hb
  go_enter Tryz.func27, Tryz.ntmps27
  go_wp2
  go_loopw [5] (fun i wr => ∃ k : Nat, k ≤ l.length ∧ i = .int .i64 k ∧ Below w.heap.size w wr) (fun i _ => l.length - (intOf i).toNat)
  case atStart => exact ⟨0, by omega, rfl, Below.refl _ _⟩
  case round =>
    obtain ⟨k, hk, rfl, hBr⟩ := hrel
    by_cases hlt : k < l.length
    · obtain ⟨a, rfl, ha, a0, a1⟩ := HA.out.below hBr k l[k] (List.getElem?_eq_getElem hlt)
      obtain ⟨b, rfl, hb, b0, b1⟩ := HB.out.below hBr k l[k] (List.getElem?_eq_getElem hlt)
      generalize l[k].1 = z0 at *
      generalize l[k].2 = z1 at *
      go_wp2_with fail
      go_region
      go_wp2
      go_roundw
      case rel => exact ⟨k + 1, by omega, by go_num, hBr.drew⟩
      case measure => simp [intOf]; omega
    · go_wp2
      go_ret
      exact ⟨rfl, hBr⟩

/-- Whether a number is in one of the ranges. -/
def hasB (r : Int) (l : List Rg) : Bool := l.any fun g => decide (g.1 ≤ r) && decide (r ≤ g.2)
theorem hasB_iff (r : Int) (l : List Rg) : hasB r l = true ↔ isin r l := by
  unfold hasB
  rw [isin_iff, List.any_eq_true]
  simp
def hasR (r : Int) (l : List Rg) : Bool := decide (0 ≤ r) && (decide (r ≤ top) && hasB r l)
theorem hasR_iff (r : Int) (l : List Rg) : hasR r l = true ↔ means r l := by
  unfold hasR means
  rw [Bool.and_eq_true, Bool.and_eq_true, decide_eq_true_iff, decide_eq_true_iff, hasB_iff]
theorem any_take (r : Int) (l : List Rg) (k : Nat) (hk : k < l.length) (h : hasB r (l.take k) = false) : hasB r (l.take (k + 1)) = (decide (l[k].1 ≤ r) && decide (r ≤ l[k].2)) := by
  unfold hasB at *
  rw [List.take_succ_eq_append_getElem hk, List.any_append, h]
  simp
theorem any_yes (r : Int) (l : List Rg) (k : Nat) (hk : k < l.length) (h : (decide (l[k].1 ≤ r) && decide (r ≤ l[k].2)) = true) : hasB r l = true := by
  unfold hasB
  rw [List.any_eq_true]
  exact ⟨l[k], List.getElem_mem hk, h⟩

end Go.Proofs.YtohhokjlgihbgaaGreatDoor
/- Names in memory: a list of texts, and the map of texts to their numbers. -/
namespace Go.Proofs.YtohhokjlgihbgaaGreatDoor
open Go.RowKit Go.Maps Go.WideMaps

theorem law9 : Keyed Tryz.prog 9 := string_keyed Tryz.underlying9
def nky (l : List UInt8) : Lit := .string l
theorem keyOf_nm (l : List UInt8) (h : l.length ≤ 9223372036854775807) : keyOf Tryz.prog 9 (.string ⟨l.toArray⟩) = some (nky l) := by
  have h5 : (⟨l.toArray⟩ : ByteArray).size ≤ maxLen := by
    show l.toArray.size ≤ _
    unfold maxLen
    simpa using h
  rw [keyOf_string_mk Tryz.underlying9 h5]
  rfl
theorem nky_inj {a b : List UInt8} (h : nky a = nky b) : a = b := by unfold nky at h; injection h
theorem nky_key (b : List UInt8) : WideAt.IsKeyLit (nky b) := by unfold nky; trivial
/-- The map of names to their numbers. -/
def ndF {H : Type} : Nat → DataW H → List (List UInt8) → DataW H
  | _, D, [] => D
  | i, D, b :: U => ndF (i + 1) (D.put (nky b) (.lit (.int .i64 (i : Int)))) U
def ndc {H : Type} (U : List (List UInt8)) : DataW H := ndF 0 (.map []) U
theorem ndF_app {H : Type} : ∀ (U V : List (List UInt8)) (i : Nat) (D : DataW H), ndF i D (U ++ V) = ndF (i + U.length) (ndF i D U) V
  | [], V, i, D => rfl
  | b :: U, V, i, D => by
    show ndF (i + 1) _ (U ++ V) = _
    rw [ndF_app U V (i + 1), List.length_cons, show i + 1 + U.length = i + (U.length + 1) by omega]
    rfl
theorem ndc_snoc {H : Type} (U : List (List UInt8)) (b : List UInt8) : (ndc (U ++ [b]) : DataW H) = (ndc U).put (nky b) (.lit (.int .i64 (U.length : Int))) := by
  unfold ndc
  rw [ndF_app, Nat.zero_add]; rfl
theorem isMap_put {H : Type} {D : DataW H} (h : IsMap D) (k : Lit) (d : DataW H) : IsMap (D.put k d) := by
  obtain ⟨es, rfl⟩ := h
  exact ⟨_, rfl⟩
theorem ndc_map {H : Type} : ∀ (n : Nat) (U : List (List UInt8)), U.length = n → IsMap (ndc U : DataW H)
  | 0, U, h => by
    have : U = [] := List.length_eq_zero_iff.1 h
    subst this
    exact ⟨[], rfl⟩
  | n + 1, U, h => by
    rcases List.eq_nil_or_concat U with rfl | ⟨V, b, rfl⟩
    · simp at h
    · rw [List.concat_eq_append, ndc_snoc]
      exact isMap_put (ndc_map n V (by simp at h; exact h)) _ _
theorem ndc_has {H : Type} : ∀ (n : Nat) (U : List (List UInt8)) (b : List UInt8), U.length = n → Maps.has (ndc U : DataW H) (nky b) = decide (b ∈ U)
  | 0, U, b, h => by
    have : U = [] := List.length_eq_zero_iff.1 h
    subst this
    simp [ndc, ndF, Maps.has]
  | n + 1, U, b, h => by
    rcases List.eq_nil_or_concat U with rfl | ⟨V, c, rfl⟩
    · simp at h
    · rw [List.concat_eq_append] at *
      have hV : V.length = n := by simp at h; exact h
      have ih := ndc_has (H := H) n V b hV
      rw [ndc_snoc]
      by_cases e : b = c
      · subst e
        rw [has_put_same (ndc_map n V hV) (nky_key b)]
        simp
      · rw [has_put_other (fun h2 => e (nky_inj h2)), ih]
        simp [e]
theorem ndc_at {H : Type} (z : DataW H) : ∀ (n : Nat) (U : List (List UInt8)) (b : List UInt8), U.length = n → U.Nodup → (ndc U : DataW H).atKey (nky b) z = if b ∈ U then .lit (.int .i64 (U.idxOf b : Int)) else z
  | 0, U, b, h, _ => by
    have : U = [] := List.length_eq_zero_iff.1 h
    subst this
    simp [ndc, ndF, DataW.atKey]
  | n + 1, U, b, h, hnd => by
    rcases List.eq_nil_or_concat U with rfl | ⟨V, c, rfl⟩
    · simp at h
    · rw [List.concat_eq_append] at *
      have hV : V.length = n := by simp at h; exact h
      rw [List.nodup_append] at hnd
      have ih := ndc_at z n V b hV hnd.1
      rw [ndc_snoc]
      by_cases e : b = c
      · subst e
        have hn : b ∉ V := fun hm => hnd.2.2 b hm b (by simp) rfl
        rw [atKey_put_same (ndc_map n V hV) (nky_key b), if_pos (by simp), List.idxOf_append, if_neg hn]
        simp
      · rw [atKey_put_other (fun h2 => e (nky_inj h2)), ih]
        by_cases hm : b ∈ V
        · rw [if_pos hm, if_pos (by simp [hm]), List.idxOf_append, if_pos hm]
        · rw [if_neg hm, if_neg (by simp [hm, e])]
theorem zero3 (w : World) : (zeroValue 3).run Tryz.prog w = .ok (.int .i64 0) w := by kernel_rfl
/-- Texts as cells. -/
def nms (l : List (List UInt8)) : List Value := l.map fun b => .string ⟨b.toArray⟩
theorem nms_len (l : List (List UInt8)) : (nms l).length = l.length := by simp [nms]
theorem nms_snoc (l : List (List UInt8)) (b : List UInt8) : nms (l ++ [b]) = nms l ++ [.string ⟨b.toArray⟩] := by simp [nms]
/-- A name's number, and the list with it. -/
def adn (b : List UInt8) (U : List (List UInt8)) : List (List UInt8) × Nat := if b ∈ U then (U, U.idxOf b) else (U ++ [b], U.length)
theorem adn_nodup (b : List UInt8) (U : List (List UInt8)) (h : U.Nodup) : (adn b U).1.Nodup := by
  unfold adn
  split
  · exact h
  · rename_i hn
    rw [List.nodup_append]
    refine ⟨h, by simp, fun a ha c hc => ?_⟩
    simp at hc
    subst hc
    exact fun e => hn (e ▸ ha)
/-- A database in memory. -/
structure DbAt (B P K : Nat) (U : List (List UInt8)) (nv pv : Value) (w : World) : Prop where
  hP : w.heap[P]? = some (.cells #[nv, .map (some K), pv] 76 (0, 0))
  hK : w.ownsMap (H := Unit) Tryz.prog 9 (plainElem Tryz.prog 3) K U.length (ndc U)
  hR : w.ownsRow B 9 1 nv U.length (nms U)
  bP : B ≤ P
  bK : B ≤ K
end Go.Proofs.YtohhokjlgihbgaaGreatDoor
/- The contracts of the document's Same (at any two lists) and Has. -/
namespace Go.Proofs.YtohhokjlgihbgaaGreatDoor
open Go.RowKit

theorem take_eq_step {l m : List Rg} {k : Nat} (hk : k < l.length) (hm : k < m.length) (h : l.take k = m.take k) (e : l[k] = m[k]) : l.take (k + 1) = m.take (k + 1) := by
  rw [List.take_succ_eq_append_getElem hk, List.take_succ_eq_append_getElem hm, h, e]

set_option maxHeartbeats 1000000 in
theorem same2_any (ao bo : Option Addr) (ac bc : Nat) (l m : List Rg) (w : World) (ha : RdR w ao l) (hb : RdR w bo m) (hl : l.length ≤ 1000000000000) :
    Calls Tryz.prog 27 #[.slice ao l.length ac, .slice bo m.length bc] w fun e w' => e = .returned (.bool (decide (l = m))) ∧ Below w.heap.size w w' := by
  have HA := hid ha
  have HB := hid hb
  clear ha hb
  by_cases hlm : l.length = m.length
  · have hne : ((l.length : Int) != (m.length : Int)) = false := by simp; omega
    go_enter Tryz.func27, Tryz.ntmps27
    have HLM := hid hlm
    clear hlm
    go_wp2
    go_loopw [5] (fun i wr => ∃ k : Nat, k ≤ l.length ∧ i = .int .i64 k ∧ Hid (l.take k = m.take k) ∧ Below w.heap.size w wr) (fun i _ => l.length - (intOf i).toNat)
    case atStart => exact ⟨0, by omega, rfl, rfl, Below.refl _ _⟩
    case round =>
      obtain ⟨k, hk, rfl, HE, hBr⟩ := hrel
      by_cases hlt : k < l.length
      · have hltm : k < m.length := by have := HLM.out; omega
        obtain ⟨a, rfl, ha, a0, a1⟩ := HA.out.below hBr k l[k] (List.getElem?_eq_getElem hlt)
        obtain ⟨b, rfl, hb, b0, b1⟩ := HB.out.below hBr k m[k] (List.getElem?_eq_getElem hltm)
        have HS := hid (fun e => take_eq_step hlt hltm HE.out e)
        have HD := hid (show l[k] ≠ m[k] → decide (l = m) = false from fun hne => decide_eq_false (fun e => hne (by subst e; rfl)))
        have HX := hid (show l[k].1 = m[k].1 → l[k].2 = m[k].2 → l[k] = m[k] from fun h1 h2 => Prod.ext h1 h2)
        have HX1 := hid (fun h : l[k] = m[k] => congrArg Prod.fst h)
        have HX2 := hid (fun h : l[k] = m[k] => congrArg Prod.snd h)
        obtain ⟨x0, e0⟩ : ∃ x0, x0 = l[k].1 := ⟨_, rfl⟩
        obtain ⟨x1, e1⟩ : ∃ x1, x1 = l[k].2 := ⟨_, rfl⟩
        obtain ⟨y0, f0⟩ : ∃ y0, y0 = m[k].1 := ⟨_, rfl⟩
        obtain ⟨y1, f1⟩ : ∃ y1, y1 = m[k].2 := ⟨_, rfl⟩
        rw [← e0] at a0 HX HX1
        rw [← e1] at a1 HX HX2
        rw [← f0] at b0 HX HX1
        rw [← f1] at b1 HX HX2
        clear e0 e1 f0 f1
        by_cases q0 : x0 = y0
        · by_cases q1 : x1 = y1
          · have HZ := hid (HS.out (HX.out q0 q1))
            subst q0 q1
            clear HS HD HX HX1 HX2
            go_wp2_with fail
            go_region
            go_wp2
            go_roundw
            case rel => exact ⟨k + 1, by omega, by go_num, HZ, hBr.drew⟩
            case measure => simp [intOf]; omega
          · have HZ := hid (HD.out (fun h => q1 (HX2.out h)))
            have t1 : (x1 == y1) = false := beq_eq_false_iff_ne.2 q1
            have t2 : (x1 != y1) = true := bne_iff_ne.2 q1
            clear HS HD HX HX1 HX2
            go_wp2_with fail
            go_region
            go_wp2
            go_ret
            exact ⟨by rw [HZ.out]; rfl, hBr.drew⟩
        · have HZ := hid (HD.out (fun h => q0 (HX1.out h)))
          have t1 : (x0 == y0) = false := beq_eq_false_iff_ne.2 q0
          have t2 : (x0 != y0) = true := bne_iff_ne.2 q0
          clear HS HD HX HX1 HX2
          go_wp2_with fail
          go_region
          go_wp2
          go_ret
          exact ⟨by rw [HZ.out]; rfl, hBr.drew⟩
      · have HZ := hid (show decide (l = m) = true from decide_eq_true (by have h := HE.out; rw [List.take_of_length_le (by omega), List.take_of_length_le (by have := HLM.out; omega)] at h; exact h))
        go_wp2
        go_ret
        exact ⟨by rw [HZ.out]; rfl, hBr⟩
  · have hne : ((l.length : Int) != (m.length : Int)) = true := by simp; omega
    have HZ := hid (show decide (l = m) = false from decide_eq_false (fun e => hlm (by rw [e])))
    clear hlm
    go_enter Tryz.func27, Tryz.ntmps27
    go_wp2
    go_ret
    exact ⟨by rw [HZ.out]; rfl, Below.refl _ _⟩

set_option maxHeartbeats 1000000 in
theorem rhas_any (ao : Option Addr) (ac : Nat) (l : List Rg) (r : Int) (w : World) (ha : RdR w ao l) (hl : l.length ≤ 1000000000000) :
    Calls Tryz.prog 23 #[.slice ao l.length ac, .int .i32 r] w fun e w' => e = .returned (.bool (hasR r l)) ∧ w' = w := by
  have HA := hid ha
  clear ha
  go_enter Tryz.func23, Tryz.ntmps23
  go_wp2
  go_loopw [5] (fun i wr => ∃ k : Nat, k ≤ l.length ∧ i = .int .i64 k ∧ Hid (hasR r (l.take k) = false) ∧ wr = w) (fun i _ => l.length - (intOf i).toNat)
  case atStart => exact ⟨0, by omega, rfl, by show hasR r [] = false; simp [hasR, hasB], rfl⟩
  case round =>
    obtain ⟨k, hk, rfl, HN, hwr⟩ := hrel
    obtain rfl := hwr.symm
    clear hwr
    by_cases hlt : k < l.length
    · obtain ⟨a, rfl, ha, a0, a1⟩ := HA.out k l[k] (List.getElem?_eq_getElem hlt)
      have HY := hid (any_yes r l k hlt)
      have HT := hid (any_take r l k hlt)
      generalize l[k].1 = z0 at *
      generalize l[k].2 = z1 at *
      by_cases h0 : 0 ≤ r
      · by_cases h1 : r ≤ 1114111
        · have HN' := hid (show hasB r (l.take k) = false by have h := HN.out; unfold hasR top at h; simpa [h0, h1] using h)
          by_cases e1 : z0 ≤ r
          · by_cases e2 : r ≤ z1
            · have HZ := hid (show hasR r l = true by unfold hasR top; rw [HY.out (by simp [e1, e2])]; simp [h0, h1])
              go_wp2
              go_ret
              exact ⟨by rw [HZ.out]; rfl, rfl⟩
            · have HZ := hid (show hasR r (l.take (k + 1)) = false by unfold hasR; rw [HT.out HN'.out]; simp; omega)
              go_wp2
              go_roundw
              case rel => exact ⟨k + 1, by omega, by go_num, HZ, by first | rfl | trivial⟩
              case measure => simp [intOf]; omega
          · have HZ := hid (show hasR r (l.take (k + 1)) = false by unfold hasR; rw [HT.out HN'.out]; simp; omega)
            go_wp2
            go_roundw
            case rel => exact ⟨k + 1, by omega, by go_num, HZ, by first | rfl | trivial⟩
            case measure => simp [intOf]; omega
        · have HZ := hid (show hasR r (l.take (k + 1)) = false by unfold hasR top; simp [h1])
          go_wp2
          go_roundw
          case rel => exact ⟨k + 1, by omega, by go_num, HZ, by first | rfl | trivial⟩
          case measure => simp [intOf]; omega
      · have HZ := hid (show hasR r (l.take (k + 1)) = false by unfold hasR; simp [h0])
        go_wp2
        go_roundw
        case rel => exact ⟨k + 1, by omega, by go_num, HZ, by first | rfl | trivial⟩
        case measure => simp [intOf]; omega
    · have HZ := hid (show hasR r l = false by have h := HN.out; rw [List.take_of_length_le (by omega)] at h; exact h)
      go_wp2
      go_ret
      exact ⟨by rw [HZ.out]; rfl, rfl⟩
end Go.Proofs.YtohhokjlgihbgaaGreatDoor
/- The contract of Is (package runes): whether a list is in normal form. -/
namespace Go.Proofs.YtohhokjlgihbgaaGreatDoor
open Go.RowKit

/-- In normal form, as a test. -/
def nfB (b : Int) : List Rg → Bool
  | [] => true
  | g :: l => decide (b ≤ g.1) && (decide (g.1 ≤ g.2) && (decide (g.2 ≤ top) && nfB (g.2 + 2) l))
theorem nfB_iff : ∀ (l : List Rg) (b : Int), nfB b l = true ↔ nfF b l
  | [], _ => by simp [nfB, nfF]
  | g :: l, b => by simp [nfB, nfF, nfB_iff l]
theorem drop_nf (l : List Rg) (k : Nat) (b : Int) (hk : k < l.length) : nfB b (l.drop k) = (decide (b ≤ l[k].1) && (decide (l[k].1 ≤ l[k].2) && (decide (l[k].2 ≤ top) && nfB (l[k].2 + 2) (l.drop (k + 1))))) := by
  rw [List.drop_eq_getElem_cons hk]; rfl

end Go.Proofs.YtohhokjlgihbgaaGreatDoor
/- The spelling of a set, the mathematics: digits, and how many of them stand at a place. -/
namespace Go.Proofs.YtohhokjlgihbgaaGreatDoor

def isHx (c : UInt8) : Bool := (decide (48 ≤ c.toNat) && decide (c.toNat ≤ 57)) || (decide (65 ≤ c.toNat) && decide (c.toNat ≤ 70))
theorem isHx_iff (c : UInt8) : isHx c = true ↔ (48 ≤ c.toNat ∧ c.toNat ≤ 57) ∨ (65 ≤ c.toNat ∧ c.toNat ≤ 70) := by
  unfold isHx; simp
def hxV (c : UInt8) : Nat := if c.toNat ≤ 57 then c.toNat - 48 else c.toNat - 55
def hxs : Nat → List UInt8 → Nat
  | a, [] => a
  | a, c :: t => hxs (a * 16 + hxV c) t
theorem hxV_lt {c : UInt8} (h : isHx c = true) : hxV c < 16 := by
  rw [isHx_iff] at h
  unfold hxV
  split <;> omega
theorem hxs_le : ∀ (t : List UInt8) (a : Nat), (∀ c, c ∈ t → isHx c = true) → hxs a t < (a + 1) * 16 ^ t.length
  | [], a, _ => by simp [hxs]
  | c :: t, a, h => by
    have h1 := hxV_lt (h c (by simp))
    have h2 := hxs_le t (a * 16 + hxV c) (fun d hd => h d (by simp [hd]))
    have h3 : (a * 16 + hxV c + 1) * 16 ^ t.length ≤ ((a + 1) * 16) * 16 ^ t.length := Nat.mul_le_mul_right _ (by omega)
    rw [show hxs a (c :: t) = hxs (a * 16 + hxV c) t from rfl, List.length_cons, Nat.pow_succ]
    rw [Nat.mul_comm (16 ^ t.length) 16, ← Nat.mul_assoc]
    omega
theorem hxs_mono : ∀ (t : List UInt8) (a : Nat), a ≤ hxs a t
  | [], a => Nat.le_refl _
  | c :: t, a => by
    have := hxs_mono t (a * 16 + hxV c)
    rw [show hxs a (c :: t) = hxs (a * 16 + hxV c) t from rfl]
    omega

/-- How many digits stand at a place. -/
def hxn (l : List UInt8) (b : Nat) : Nat := ((l.drop b).takeWhile isHx).length
theorem hxn_yes {l : List UInt8} {e : Nat} (he : e < l.length) (h : isHx l[e] = true) : hxn l e = hxn l (e + 1) + 1 := by
  unfold hxn
  rw [List.drop_eq_getElem_cons he, List.takeWhile_cons, if_pos h, List.length_cons]
theorem hxn_no {l : List UInt8} {e : Nat} (he : e < l.length) (h : ¬ isHx l[e] = true) : hxn l e = 0 := by
  unfold hxn
  rw [List.drop_eq_getElem_cons he, List.takeWhile_cons, if_neg h]; rfl
theorem hxn_end {l : List UInt8} {e : Nat} (he : ¬ e < l.length) : hxn l e = 0 := by
  unfold hxn
  rw [List.drop_of_length_le (by omega)]; rfl
theorem hxn_le (l : List UInt8) (b : Nat) : hxn l b ≤ l.length - b := by
  unfold hxn
  have := (List.takeWhile_prefix (l := l.drop b) isHx).length_le
  simpa using this
theorem hxn_take (l : List UInt8) (b : Nat) : (l.drop b).take (hxn l b) = (l.drop b).takeWhile isHx := by
  exact (List.prefix_iff_eq_take.1 (List.takeWhile_prefix (l := l.drop b) isHx)).symm
theorem hxn_all (l : List UInt8) (b : Nat) : ∀ c, c ∈ (l.drop b).take (hxn l b) → isHx c = true := fun c hc => by
  rw [hxn_take] at hc
  exact List.all_eq_true.1 (List.all_takeWhile (p := isHx) (l := l.drop b)) c hc

/-- The number that is spelled at a place by U+ and digits: the rune, the place behind it, no error; or 0, the place and the error. -/
def cdd (l : List UInt8) (at' : Nat) : Int × Nat × Int :=
  if hxn l (at' + 2) < 4 ∨ 6 < hxn l (at' + 2) then (0, at', 21)
  else if 1114111 < hxs 0 ((l.drop (at' + 2)).take (hxn l (at' + 2))) then (0, at', 22)
  else ((hxs 0 ((l.drop (at' + 2)).take (hxn l (at' + 2))) : Nat), at' + 2 + hxn l (at' + 2), 0)
end Go.Proofs.YtohhokjlgihbgaaGreatDoor
/- The contract of the document's meet. -/
namespace Go.Proofs.YtohhokjlgihbgaaGreatDoor
open Go.RowKit

/-- Have two ranges something in common? -/
def ovl (g h : Rg) : Bool := decide (g.1 ≤ h.2) && decide (h.1 ≤ g.2)
def mtR (l m : List Rg) : Bool := l.any fun g => m.any fun h => ovl g h
theorem any_takeP {α : Type} (p : α → Bool) (l : List α) (k : Nat) (hk : k < l.length) : (l.take (k + 1)).any p = ((l.take k).any p || p l[k]) := by
  rw [List.take_succ_eq_append_getElem hk, List.any_append]
  simp
set_option maxHeartbeats 1000000 in
theorem meet_any (ao bo : Option Addr) (ac bc : Nat) (l m : List Rg) (w : World) (ha : RdR w ao l) (hb : RdR w bo m) (hl : l.length ≤ 1000000000000) (hml : m.length ≤ 1000000000000) :
    Calls Tryz.prog 75 #[.slice ao l.length ac, .slice bo m.length bc] w fun e w' => e = .returned (.bool (mtR l m)) ∧ Below w.heap.size w w' := by
  have HA := hid ha
  have HB := hid hb
  clear ha hb
  go_enter Tryz.func75, Tryz.ntmps75
  go_wp2
  go_loopw [5, 6] (fun x _ wr => ∃ i : Nat, i ≤ l.length ∧ x = .int .i64 i ∧ Hid (((l.take i).any fun g => m.any fun h => ovl g h) = false) ∧ Below w.heap.size w wr) (fun x _ _ => l.length - (intOf x).toNat)
  case atStart => exact ⟨0, by omega, rfl, rfl, Below.refl _ _⟩
  case round =>
    obtain ⟨i, hi, rfl, HE, hBr⟩ := hrel
    by_cases hlt : i < l.length
    · have HT1 := hid (any_takeP (fun g => m.any fun h => ovl g h) l i hlt)
      have HM1 := hid (List.getElem_mem hlt)
      have HG := hid (show ∀ W, Below w.heap.size w W → ∃ a, ao = some a ∧ a.block < W.heap.size ∧ W.cell? (a.add (i * 2)) = some (.int .i32 l[i].1) ∧ W.cell? ⟨(a.add (i * 2)).block, (a.add (i * 2)).off + 1, none⟩ = some (.int .i32 l[i].2) from fun W hW => HA.out.below hW i l[i] (List.getElem?_eq_getElem hlt))
      generalize l[i] = g at HT1 HM1 HG
      obtain ⟨g0, g1⟩ := g
      dsimp only at HG
      obtain ⟨wo, hwo⟩ : ∃ wo, wo = wr := ⟨_, rfl⟩
      rw [← hwo] at hBr ⊢
      clear hwo
      have HBo := hid hBr
      clear hBr
      go_wp2
      go_loopw [6] (fun y wr => ∃ k : Nat, k ≤ m.length ∧ y = .int .i64 k ∧ Hid (((m.take k).any fun h => ovl (g0, g1) h) = false) ∧ Below w.heap.size w wr) (fun y _ => m.length - (intOf y).toNat)
      case atStart => exact ⟨0, by omega, rfl, rfl, HBo.out⟩
      case round =>
        obtain ⟨k, hk, rfl, HE2, hBr⟩ := hrel
        by_cases hkt : k < m.length
        · have HT2 := hid (any_takeP (fun h => ovl (g0, g1) h) m k hkt)
          have HM2 := hid (List.getElem_mem hkt)
          obtain ⟨a, rfl, ha, a0, a1⟩ := HG.out wr hBr
          obtain ⟨b, rfl, hb, b0, b1⟩ := HB.out.below hBr k m[k] (List.getElem?_eq_getElem hkt)
          generalize m[k] = h at HT2 HM2 b0 b1
          obtain ⟨h0, h1⟩ := h
          dsimp only at b0 b1 HT2
          by_cases q0 : g0 ≤ h1
          · have d0 : decide (g0 ≤ h1) = true := decide_eq_true q0
            by_cases q1 : h0 ≤ g1
            · have d1 : decide (h0 ≤ g1) = true := decide_eq_true q1
              have HZ := hid (show mtR l m = true by
                unfold mtR
                exact List.any_eq_true.2 ⟨_, HM1.out, List.any_eq_true.2 ⟨_, HM2.out, by unfold ovl; simp [q0, q1]⟩⟩)
              go_wp2_with fail
              go_region
              all_goals
                go_wp2
                go_ret
                exact ⟨by rw [HZ.out]; rfl, hBr.drew⟩
            · have d1 : decide (h0 ≤ g1) = false := decide_eq_false q1
              have q1' : g1 < h0 := by omega
              have HZ := hid (show ((m.take (k + 1)).any fun h => ovl (g0, g1) h) = false by rw [HT2.out, HE2.out]; unfold ovl; simp [q0]; omega)
              go_wp2_with fail
              go_region
              all_goals
                go_wp2
                go_roundw
                case rel => exact ⟨k + 1, by omega, by go_num, HZ, hBr.drew⟩
                case measure => simp [intOf]; omega
          · have d0 : decide (g0 ≤ h1) = false := decide_eq_false q0
            have q0' : h1 < g0 := by omega
            have HZ := hid (show ((m.take (k + 1)).any fun h => ovl (g0, g1) h) = false by rw [HT2.out, HE2.out]; unfold ovl; simp; omega)
            go_wp2_with fail
            go_region
            all_goals
              go_wp2
              go_roundw
              case rel => exact ⟨k + 1, by omega, by go_num, HZ, hBr.drew⟩
              case measure => simp [intOf]; omega
        · have HZ := hid (show ((l.take (i + 1)).any fun g => m.any fun h => ovl g h) = false by
            rw [HT1.out, HE.out]
            have h5 := HE2.out
            rw [List.take_of_length_le (by omega)] at h5
            rw [h5]; rfl)
          go_wp2
          go_roundw
          case rel => exact ⟨i + 1, by omega, by go_num, HZ, hBr⟩
          case measure => simp [intOf]; omega
    · have HZ := hid (show mtR l m = false by
        have h5 := HE.out
        rw [List.take_of_length_le (by omega)] at h5
        exact h5)
      go_wp2
      go_ret
      exact ⟨by rw [HZ.out]; rfl, hBr⟩
end Go.Proofs.YtohhokjlgihbgaaGreatDoor
