/- The contract of strconv.ParseInt at hexadecimal digits, six at most. -/
import Derived.Lib.Strings
import Derived.Lib.Walk
import Derived.Lib.AtoiErrMem
import Derived.Lib.ConvBytes
import Derived.Laws.Strings3
import Derived.Laws.Closers25
import Derived.Laws.Closers25b
import Derived.BigCall
import Derived.BigGuard
import Derived.Test.YtohhokjlgihbgaaGreatDoorFRows2
import Derived.OwnWalk
namespace Go.Proofs.YtohhokjlgihbgaaGreatDoor
open Go.RowKit

theorem lower_any (c : Int) (w : World) : Calls Tryz.prog 202 #[.int .u8 c] w fun e w' => e = .returned (.int .u8 (bits .or .u8 c 32)) ∧ w' = w := by
  go_enter Tryz.func202, Tryz.ntmps202
  go_wp2
  go_ret
  exact ⟨rfl, rfl⟩
theorem lower_AF (c : Nat) (h0 : 65 ≤ c) (h1 : c ≤ 70) : bits .or .u8 (c : Int) 32 = (c : Int) + 32 := by
  obtain rfl | rfl | rfl | rfl | rfl | rfl : c = 65 ∨ c = 66 ∨ c = 67 ∨ c = 68 ∨ c = 69 ∨ c = 70 := by omega
  all_goals decide
theorem lowerAF_any (c : Nat) (h0 : 65 ≤ c) (h1 : c ≤ 70) (w : World) : Calls Tryz.prog 202 #[.int .u8 c] w fun e w' => e = .returned (.int .u8 ((c : Int) + 32)) ∧ w' = w := by
  rw [← lower_AF c h0 h1]; exact lower_any c w

set_option maxHeartbeats 4000000 in
set_option maxRecDepth 100000 in
theorem puint_any (l : List UInt8) (w : World) (hne : l ≠ []) (hl : l.length ≤ 6) (hx : ∀ c, c ∈ l → isHx c = true) :
    Calls Tryz.prog 195 #[.string ⟨l.toArray⟩, .int .i64 16, .int .i64 32] w fun e w' => e = .returned (.tuple #[.int .u64 (hxs 0 l : Nat), .nilIface]) ∧ Below w.heap.size w w' := by
  obtain ⟨t, ht⟩ : ∃ t : ByteArray, t = ⟨l.toArray⟩ := ⟨_, rfl⟩
  have hsz : t.size = l.length := by rw [ht]; show l.toArray.size = _; simp
  have hpos : 0 < l.length := List.length_pos_iff.2 hne
  have hemp : t.toList.isEmpty = false := by
    rw [← decide_eq_emptyBytes]
    exact decide_eq_false (fun h => by rw [h] at hsz; simp at hsz; omega)
  have hcv := Lib.run_convert_string_bytes (P := Tryz.prog) w 9 94 5 t (u := .string) Tryz.underlying9 Tryz.underlying94 Tryz.underlying5
  have HBW := hid (Lib.bytesWorld_below w 5 t)
  have hB : ∀ j, j < t.size → (Lib.bytesWorld w 5 t).cell? ⟨w.heap.size, j, none⟩ = some (.int .u8 (l.getD j 0).toNat) := fun j hj => by
    rw [Lib.bytesWorld_cell w 5 t j hj, ht]
  obtain ⟨W1, hW1⟩ : ∃ W1, W1 = Lib.bytesWorld w 5 t := ⟨_, rfl⟩
  rw [← hW1] at hcv hB HBW
  rw [← ht]
  clear hW1 ht hne
  have HB := hid hB
  have HX := hid hx
  clear hB hx
  have hmv : IntKind.u64.wrap (IntKind.u64.wrap 4294967296 - 1) = 4294967295 := by
    rw [IntKind.wrap_u64, IntKind.wrap_u64]
    decide
  go_enter Tryz.func195, Tryz.ntmps195
  go_wp2
  go_loop [12, 13, 101] (fun vu vn vi => ∃ (k acc : Nat) (a : Int), vu = .bool false ∧ vn = .int .u64 a ∧ vi = .int .i64 k ∧ k ≤ t.size ∧ 0 ≤ a ∧ a ≤ 16777215 ∧ Hid (a = (acc : Int) ∧ hxs 0 l = hxs acc (l.drop k) ∧ acc + 1 ≤ 16 ^ k))
    (fun _ _ vi => t.size - (intOf vi).toNat)
  case atStart => exact ⟨0, 0, 0, rfl, rfl, rfl, by omega, by omega, by omega, rfl, rfl, by decide⟩
  case round =>
    obtain ⟨k, acc, a, rfl, rfl, rfl, hk, a0, a1, hh⟩ := hrel
    by_cases hkn : k < t.size
    · have hkl : k < l.length := by omega
      have hc := HB.out k hkn
      have hget : l.getD k 0 = l[k] := by simp [List.getD, List.getElem?_eq_getElem hkl]
      have hxk := HX.out l[k] (List.getElem_mem hkl)
      have hv := hxV_lt hxk
      have hlt9 : (acc + 1) * 16 ≤ 16777216 := by
        have h1 := hh.out.2.2
        have h2 : 16 ^ k ≤ 16 ^ 5 := Nat.pow_le_pow_right (by omega) (by omega)
        have h3 : (16 : Nat) ^ 5 = 1048576 := by decide
        omega
      have HN := hid (show ∀ a' : Int, a' = a * 16 + (hxV l[k] : Int) → (a' = ((acc * 16 + hxV l[k] : Nat) : Int) ∧ hxs 0 l = hxs (acc * 16 + hxV l[k]) (l.drop (k + 1)) ∧ acc * 16 + hxV l[k] + 1 ≤ 16 ^ (k + 1)) from fun a' ha' => by
        obtain ⟨h1, h2, h3⟩ := hh.out
        refine ⟨by omega, ?_, ?_⟩
        · rw [h2, List.drop_eq_getElem_cons hkl]; rfl
        · rw [Nat.pow_succ]
          omega)
      have ha := hh.out.1
      have ha9 : a * 16 + 15 ≤ 16777215 := by omega
      rw [hget] at hc
      rw [isHx_iff] at hxk
      unfold hxV at HN
      generalize l[k] = c at *
      obtain ⟨m, hm⟩ : ∃ m, m = c.toNat := ⟨_, rfl⟩
      rw [← hm] at hc hxk HN
      clear hm hget hv hlt9 hh ha
      by_cases hd : m ≤ 57
      · have d0 : 48 ≤ m := by omega
        rw [if_pos hd] at HN
        have HN2 := hid (HN.out (a * 16 + ((m : Int) - 48)) (by omega))
        clear HN hxk
        go_wp2
        refine ⟨⟨k + 1, acc * 16 + (m - 48), a * 16 + ((m : Int) - 48), rfl, (by first | rfl | (congr 1; omega)), (by first | rfl | (congr 1; omega)), by omega, by omega, by omega, HN2⟩, by simp [intOf]; omega⟩
      · have d0 : 65 ≤ m := by omega
        have d1 : m ≤ 70 := by omega
        rw [if_neg hd] at HN
        have HN2 := hid (HN.out (a * 16 + ((m : Int) - 55)) (by omega))
        clear HN hxk
        go_wp2_with (go_at_call 202; refine (lowerAF_any m d0 d1 _).mono ?_; rintro e w' ⟨rfl, rfl⟩)
        refine ⟨⟨k + 1, acc * 16 + (m - 55), a * 16 + ((m : Int) - 55), rfl, (by first | rfl | (congr 1; omega)), (by first | rfl | (congr 1; omega)), by omega, by omega, by omega, HN2⟩, by simp [intOf]; omega⟩
    · have HF := hid (show a = ((hxs 0 l : Nat) : Int) by
        obtain ⟨h1, h2, h3⟩ := hh.out
        rw [h2, List.drop_of_length_le (by omega), h1]; rfl)
      clear hh
      go_wp2
      go_ret2
      exact ⟨by rw [HF.out]; rfl, HBW.out⟩
end Go.Proofs.YtohhokjlgihbgaaGreatDoor
/- The contract of strconv.ParseInt at hexadecimal digits, six at most; of strings.HasPrefix. -/
namespace Go.Proofs.YtohhokjlgihbgaaGreatDoor
open Go.RowKit

theorem hxs_six (l : List UInt8) (hl : l.length ≤ 6) (hx : ∀ c, c ∈ l → isHx c = true) : hxs 0 l ≤ 16777215 := by
  have h1 := hxs_le l 0 hx
  have h2 : 16 ^ l.length ≤ 16 ^ 6 := Nat.pow_le_pow_right (by omega) hl
  have h3 : (16 : Nat) ^ 6 = 16777216 := by decide
  omega

set_option maxHeartbeats 1000000 in
set_option maxRecDepth 100000 in
theorem pint_any (l : List UInt8) (w : World) (hne : l ≠ []) (hl : l.length ≤ 6) (hx : ∀ c, c ∈ l → isHx c = true) :
    Calls Tryz.prog 182 #[.string ⟨l.toArray⟩, .int .i64 16, .int .i64 32] w fun e w' => e = .returned (.tuple #[.int .i64 (hxs 0 l : Nat), .nilIface]) ∧ Below w.heap.size w w' := by
  have hpos : 0 < l.length := List.length_pos_iff.2 hne
  have HU := hid (puint_any l w hne hl hx)
  have hv := hxs_six l hl hx
  have hx0 := hx l[0] (List.getElem_mem hpos)
  rw [isHx_iff] at hx0
  have hsz : 0 < (⟨l.toArray⟩ : ByteArray).size := by show 0 < l.toArray.size; simpa using hpos
  obtain ⟨c0, hc0⟩ : ∃ c0, c0 = l[0] := ⟨_, rfl⟩
  rw [← hc0] at hx0
  have hq : (⟨l.toArray⟩ : ByteArray)[0]'hsz = c0 := hc0.symm
  have he : l.isEmpty = false := by simpa using hne
  have m0 : 48 ≤ c0.toNat := by omega
  clear hc0 hx0 hne hx
  obtain ⟨v, hv'⟩ : ∃ v : Int, v = (hxs 0 l : Nat) := ⟨_, rfl⟩
  have v0 : 0 ≤ v := by omega
  have v1 : v ≤ 16777215 := by omega
  rw [← hv'] at HU ⊢
  clear hv' hv
  go_enter Tryz.func182, Tryz.ntmps182
  go_wp2_with fail
  refine HU.out.mono ?_
  rintro e w1 ⟨rfl, hb⟩
  have HB := hid hb
  clear hb HU
  go_wp2
  go_ret2
  exact ⟨rfl, HB.out⟩

set_option maxHeartbeats 1000000 in
theorem parseInt_any (l : List UInt8) (w : World) (hne : l ≠ []) (hl : l.length ≤ 6) (hx : ∀ c, c ∈ l → isHx c = true) :
    Calls Tryz.prog 162 #[.string ⟨l.toArray⟩, .int .i64 16, .int .i64 32] w fun e w' => e = .returned (.tuple #[.int .i64 (hxs 0 l : Nat), .nilIface]) ∧ Below w.heap.size w w' := by
  have HU := hid (pint_any l w hne hl hx)
  clear hne hx
  go_enter Tryz.func162, Tryz.ntmps162
  go_wp2_with fail
  refine HU.out.mono ?_
  rintro e w1 ⟨rfl, hb⟩
  have HB := hid hb
  clear hb HU
  go_wp2
  go_ret2
  exact ⟨rfl, HB.out⟩

/-- Whether a text begins with another one. -/
def pre (l p : List UInt8) : Bool := decide (l.take p.length = p)
set_option maxHeartbeats 1000000 in
theorem has80 (l p : List UInt8) (w : World) :
    Calls Tryz.prog 157 #[.string ⟨l.toArray⟩, .string ⟨p.toArray⟩] w fun e w' => e = .returned (.bool (pre l p)) ∧ w' = w := by
  by_cases h3 : l.length < p.length
  · have e1 : pre l p = false := by
      unfold pre
      rw [decide_eq_false_iff_not]
      intro e
      have := congrArg List.length e
      rw [List.length_take] at this
      omega
    rw [e1]
    go_enter Tryz.func157, Tryz.ntmps157
    go_wp2
    go_ret
    exact ⟨rfl, rfl⟩
  · have HE := hid (show (((⟨l.toArray⟩ : ByteArray).extract 0 p.length).toList == p) = pre l p by
      rw [ByteArray.toList_eq]
      simp only [ByteArray.data_extract, List.extract_toArray, List.extract_eq_take_drop, List.drop_zero, Nat.sub_zero]
      unfold pre
      rw [Bool.beq_eq_decide_eq])
    go_enter Tryz.func157, Tryz.ntmps157
    go_wp2
    go_ret
    exact ⟨by rw [← HE.out]; rfl, rfl⟩
set_option maxHeartbeats 1000000 in
theorem has67 (s : ByteArray) (l p : List UInt8) (b : Bool) (hb : pre l p = b) (w : World) (hs : s = ⟨l.toArray⟩) :
    Calls Tryz.prog 132 #[.string s, .string ⟨p.toArray⟩] w fun e w' => e = .returned (.bool b) ∧ w' = w := by
  subst hs hb
  have H := hid (has80 l p w)
  go_enter Tryz.func132, Tryz.ntmps132
  go_wp2_with fail
  refine H.out.mono ?_
  rintro e w1 ⟨rfl, hw⟩
  obtain rfl := hw.symm
  go_wp2
  go_ret
  exact ⟨rfl, rfl⟩
end Go.Proofs.YtohhokjlgihbgaaGreatDoor
/- The contract of coded (package runes): a rune by its number. -/
namespace Go.Proofs.YtohhokjlgihbgaaGreatDoor
open Go.RowKit

/-- What a reader of a rune's spelling answers. -/
def spt (x : Int × Nat × Int) : Value := .tuple #[.int .i32 x.1, .int .i64 (x.2.1 : Nat), .int .i64 x.2.2]
theorem ext_mid (l : List UInt8) (b k : Nat) : (⟨l.toArray⟩ : ByteArray).extract b (b + k) = ⟨((l.drop b).take k).toArray⟩ := by
  apply ByteArray.ext
  simp [ByteArray.data_extract, List.extract_eq_take_drop]
theorem parseInt_eq (s : ByteArray) (l : List UInt8) (v : Int) (w : World) (hs : s = ⟨l.toArray⟩) (hv : v = (hxs 0 l : Nat)) (hne : l ≠ []) (hl : l.length ≤ 6) (hx : ∀ c, c ∈ l → isHx c = true) :
    Calls Tryz.prog 162 #[.string s, .int .i64 16, .int .i64 32] w fun e w' => e = .returned (.tuple #[.int .i64 v, .nilIface]) ∧ Below w.heap.size w w' := by
  subst hs hv; exact parseInt_any l w hne hl hx

set_option maxHeartbeats 1000000 in
set_option maxRecDepth 100000 in
theorem coded_any (l : List UInt8) (p : Nat) (w : World) (hp : p + 2 ≤ l.length) (hl : l.length ≤ 1000000000000) :
    Calls Tryz.prog 140 #[.string ⟨l.toArray⟩, .int .i64 p] w fun e w' => e = .returned (spt (cdd l p)) ∧ Below w.heap.size w w' := by
  have hsz : (⟨l.toArray⟩ : ByteArray).size = l.length := by show l.toArray.size = _; simp
  have HSZ := hid hsz
  clear hsz
  go_enter Tryz.func140, Tryz.ntmps140
  go_wp2
  go_step3
  go_wp2
  go_step3
  go_wp2
  go_loopw [8] (fun x wr => ∃ k : Nat, x = .int .i64 ((p : Int) + 2 + k) ∧ p + 2 + k ≤ l.length ∧ Hid (hxn l (p + 2) = k + hxn l (p + 2 + k)) ∧ wr = w) (fun x _ => (l.length + 1 - intOf x).toNat)
  case atStart => exact ⟨0, by go_num, by omega, by simp [Hid], rfl⟩
  case round =>
    obtain ⟨k, rfl, hk, HN, hw⟩ := hrel
    obtain rfl := hw.symm
    have e1 : (p : Int) + 2 + k - ((p : Int) + 2) = (k : Int) := by omega
    by_cases hlt : p + 2 + k < l.length
    · have hszk : p + 2 + k < (⟨l.toArray⟩ : ByteArray).size := by rw [HSZ.out]; exact hlt
      have hq : (⟨l.toArray⟩ : ByteArray)[p + 2 + k]'hszk = l[p + 2 + k] := rfl
      by_cases hh : isHx l[p + 2 + k] = true
      · have HN2 := hid (show hxn l (p + 2) = (k + 1) + hxn l (p + 2 + (k + 1)) by rw [HN.out, hxn_yes hlt hh, Nat.add_assoc (p + 2) k 1]; omega)
        rw [isHx_iff] at hh
        generalize l[p + 2 + k] = c at *
        go_wp2
        all_goals go_roundw
        case rel => exact ⟨k + 1, by go_num, by omega, HN2, trivial⟩
        case measure => simp [intOf]; omega
        case rel => exact ⟨k + 1, by go_num, by omega, HN2, trivial⟩
        case measure => simp [intOf]; omega
      · have HZ := hid (show hxn l (p + 2) = k by rw [HN.out, hxn_no hlt hh]; rfl)
        rw [isHx_iff] at hh
        generalize l[p + 2 + k] = c at *
        by_cases c1 : k < 4
        · have HC := hid (show cdd l p = (0, p, 21) by unfold cdd; rw [HZ.out, if_pos (.inl c1)])
          have c1' : (k : Int) < 4 := by omega
          go_wp2
          all_goals (try rw [Exit.noGoto_ret])
          all_goals go_ret3
          all_goals exact ⟨by rw [HC.out]; rfl, Below.refl _ _⟩
        · by_cases c2 : 6 < k
          · have HC := hid (show cdd l p = (0, p, 21) by unfold cdd; rw [HZ.out, if_pos (.inr c2)])
            have c1' : ¬ (k : Int) < 4 := by omega
            have c2' : 6 < (k : Int) := by omega
            go_wp2
            all_goals (try rw [Exit.noGoto_ret])
            all_goals go_ret3
            all_goals exact ⟨by rw [HC.out]; rfl, Below.refl _ _⟩
          · have HC := hid (show cdd l p = if 1114111 < hxs 0 ((l.drop (p + 2)).take k) then ((0 : Int), p, (22 : Int)) else (((hxs 0 ((l.drop (p + 2)).take k) : Nat) : Int), p + 2 + k, (0 : Int)) by unfold cdd; rw [HZ.out, if_neg (by omega)])
            have HA := hid (show ∀ c, c ∈ (l.drop (p + 2)).take k → isHx c = true by have h := hxn_all l (p + 2); rw [HZ.out] at h; exact h)
            have hlk : ((l.drop (p + 2)).take k).length = k := by rw [List.length_take, List.length_drop]; omega
            have HNE := hid (show (l.drop (p + 2)).take k ≠ [] from fun e => by rw [e] at hlk; simp at hlk; omega)
            have hv6 := hxs_six _ (by omega) HA.out
            obtain ⟨v, hv⟩ : ∃ v : Int, v = (hxs 0 ((l.drop (p + 2)).take k) : Nat) := ⟨_, rfl⟩
            have v0 : 0 ≤ v := by omega
            have v1 : v ≤ 16777215 := by omega
            have HP := hid (parseInt_eq ((⟨l.toArray⟩ : ByteArray).extract (p + 2) (p + 2 + k)) _ v w (ext_mid l (p + 2) k) hv HNE.out (by omega) HA.out)
            have HC2 := hid (show (1114111 < v → cdd l p = (0, p, 22)) ∧ (¬ 1114111 < v → cdd l p = (v, p + 2 + k, 0)) from ⟨fun h => by rw [HC.out, if_pos (by omega)], fun h => by rw [HC.out, if_neg (by omega), hv]⟩)
            have c1' : ¬ (k : Int) < 4 := by omega
            have c2' : ¬ 6 < (k : Int) := by omega
            clear HC HA hlk HNE hv6 hv HN HZ
            by_cases hm : 1114111 < v
            · have HC3 := hid (HC2.out.1 hm)
              go_wp2_with fail
              all_goals refine HP.out.mono ?_
              all_goals rintro e w1 ⟨rfl, hb⟩
              all_goals have HB := hid hb
              all_goals clear hb
              all_goals go_wp2
              all_goals (try rw [Exit.noGoto_ret])
              all_goals go_ret3
              all_goals exact ⟨by rw [HC3.out]; rfl, HB.out⟩
            · have HC3 := hid (HC2.out.2 hm)
              have ev : IntKind.i32.wrap v = v := by rw [IntKind.wrap_i32]; omega
              go_wp2_with fail
              all_goals refine HP.out.mono ?_
              all_goals rintro e w1 ⟨rfl, hb⟩
              all_goals have HB := hid hb
              all_goals clear hb
              all_goals go_wp2
              all_goals (try rw [Exit.noGoto_ret])
              all_goals go_ret3
              all_goals exact ⟨by rw [HC3.out]; rfl, HB.out⟩
    · have HZ := hid (show hxn l (p + 2) = k by rw [HN.out, hxn_end hlt]; rfl)
      by_cases c1 : k < 4
      · have HC := hid (show cdd l p = (0, p, 21) by unfold cdd; rw [HZ.out, if_pos (.inl c1)])
        have c1' : (k : Int) < 4 := by omega
        go_wp2
        all_goals (try rw [Exit.noGoto_ret])
        all_goals go_ret3
        all_goals exact ⟨by rw [HC.out]; rfl, Below.refl _ _⟩
      · by_cases c2 : 6 < k
        · have HC := hid (show cdd l p = (0, p, 21) by unfold cdd; rw [HZ.out, if_pos (.inr c2)])
          have c1' : ¬ (k : Int) < 4 := by omega
          have c2' : 6 < (k : Int) := by omega
          go_wp2
          all_goals (try rw [Exit.noGoto_ret])
          all_goals go_ret3
          all_goals exact ⟨by rw [HC.out]; rfl, Below.refl _ _⟩
        · have HC := hid (show cdd l p = if 1114111 < hxs 0 ((l.drop (p + 2)).take k) then ((0 : Int), p, (22 : Int)) else (((hxs 0 ((l.drop (p + 2)).take k) : Nat) : Int), p + 2 + k, (0 : Int)) by unfold cdd; rw [HZ.out, if_neg (by omega)])
          have HA := hid (show ∀ c, c ∈ (l.drop (p + 2)).take k → isHx c = true by have h := hxn_all l (p + 2); rw [HZ.out] at h; exact h)
          have hlk : ((l.drop (p + 2)).take k).length = k := by rw [List.length_take, List.length_drop]; omega
          have HNE := hid (show (l.drop (p + 2)).take k ≠ [] from fun e => by rw [e] at hlk; simp at hlk; omega)
          have hv6 := hxs_six _ (by omega) HA.out
          obtain ⟨v, hv⟩ : ∃ v : Int, v = (hxs 0 ((l.drop (p + 2)).take k) : Nat) := ⟨_, rfl⟩
          have v0 : 0 ≤ v := by omega
          have v1 : v ≤ 16777215 := by omega
          have HP := hid (parseInt_eq ((⟨l.toArray⟩ : ByteArray).extract (p + 2) (p + 2 + k)) _ v w (ext_mid l (p + 2) k) hv HNE.out (by omega) HA.out)
          have HC2 := hid (show (1114111 < v → cdd l p = (0, p, 22)) ∧ (¬ 1114111 < v → cdd l p = (v, p + 2 + k, 0)) from ⟨fun h => by rw [HC.out, if_pos (by omega)], fun h => by rw [HC.out, if_neg (by omega), hv]⟩)
          have c1' : ¬ (k : Int) < 4 := by omega
          have c2' : ¬ 6 < (k : Int) := by omega
          clear HC HA hlk HNE hv6 hv HN HZ
          by_cases hm : 1114111 < v
          · have HC3 := hid (HC2.out.1 hm)
            go_wp2_with fail
            all_goals refine HP.out.mono ?_
            all_goals rintro e w1 ⟨rfl, hb⟩
            all_goals have HB := hid hb
            all_goals clear hb
            all_goals go_wp2
            all_goals (try rw [Exit.noGoto_ret])
            all_goals go_ret3
            all_goals exact ⟨by rw [HC3.out]; rfl, HB.out⟩
          · have HC3 := hid (HC2.out.2 hm)
            have ev : IntKind.i32.wrap v = v := by rw [IntKind.wrap_i32]; omega
            go_wp2_with fail
            all_goals refine HP.out.mono ?_
            all_goals rintro e w1 ⟨rfl, hb⟩
            all_goals have HB := hid hb
            all_goals clear hb
            all_goals go_wp2
            all_goals (try rw [Exit.noGoto_ret])
            all_goals go_ret3
            all_goals exact ⟨by rw [HC3.out]; rfl, HB.out⟩
end Go.Proofs.YtohhokjlgihbgaaGreatDoor
