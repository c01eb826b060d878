/- The contract of coded (package runes): a rune by its number. -/
import Derived.Test.YtfahbdlcokoghabGreatDoorPInt2
import Derived.OwnWalk
namespace Go.Proofs.YtfahbdlcokoghabGreatDoor
open Go.RowKit

/-- What a reader of a rune's spelling answers. -/
def spt (x : Int × Nat × Int) : Value := .tuple #[.int .i32 x.1, .int .i64 (x.2.1 : Nat), .int .i64 x.2.2]
theorem ext_mid (l : List UInt8) (b k : Nat) : (⟨l.toArray⟩ : ByteArray).extract b (b + k) = ⟨((l.drop b).take k).toArray⟩ := by
  apply ByteArray.ext
  simp [ByteArray.data_extract, List.extract_eq_take_drop]
theorem parseInt_eq (s : ByteArray) (l : List UInt8) (v : Int) (w : World) (hs : s = ⟨l.toArray⟩) (hv : v = (hxs 0 l : Nat)) (hne : l ≠ []) (hl : l.length ≤ 6) (hx : ∀ c, c ∈ l → isHx c = true) :
    Calls Tryz.prog 65 #[.string s, .int .i64 16, .int .i64 32] w fun e w' => e = .returned (.tuple #[.int .i64 v, .nilIface]) ∧ Below w.heap.size w w' := by
  subst hs hv; exact parseInt_any l w hne hl hx

set_option maxHeartbeats 1000000 in
set_option maxRecDepth 100000 in
theorem coded_any (l : List UInt8) (p : Nat) (w : World) (hp : p + 2 ≤ l.length) (hl : l.length ≤ 1000000000000) :
    Calls Tryz.prog 45 #[.string ⟨l.toArray⟩, .int .i64 p] w fun e w' => e = .returned (spt (cdd l p)) ∧ Below w.heap.size w w' := by
  have hsz : (⟨l.toArray⟩ : ByteArray).size = l.length := by show l.toArray.size = _; simp
  have HSZ := hid hsz
  clear hsz
  go_enter Tryz.func45, Tryz.ntmps45
  go_wp2
  go_step3
  go_wp2
  go_step3
  go_wp2
  go_loopw [8] (fun x wr => ∃ k : Nat, x = .int .i64 ((p : Int) + 2 + k) ∧ p + 2 + k ≤ l.length ∧ Hid (hxn l (p + 2) = k + hxn l (p + 2 + k)) ∧ wr = w) (fun x _ => (l.length + 1 - intOf x).toNat)
  case atStart => exact ⟨0, by go_num, by omega, by simp [Hid], rfl⟩
  case round =>
    obtain ⟨k, rfl, hk, HN, hw⟩ := hrel
    obtain rfl := hw.symm
    have e1 : (p : Int) + 2 + k - ((p : Int) + 2) = (k : Int) := by omega
    by_cases hlt : p + 2 + k < l.length
    · have hszk : p + 2 + k < (⟨l.toArray⟩ : ByteArray).size := by rw [HSZ.out]; exact hlt
      have hq : (⟨l.toArray⟩ : ByteArray)[p + 2 + k]'hszk = l[p + 2 + k] := rfl
      by_cases hh : isHx l[p + 2 + k] = true
      · have HN2 := hid (show hxn l (p + 2) = (k + 1) + hxn l (p + 2 + (k + 1)) by rw [HN.out, hxn_yes hlt hh, Nat.add_assoc (p + 2) k 1]; omega)
        rw [isHx_iff] at hh
        generalize l[p + 2 + k] = c at *
        go_wp2
        all_goals go_roundw
        case rel => exact ⟨k + 1, by go_num, by omega, HN2, trivial⟩
        case measure => simp [intOf]; omega
        case rel => exact ⟨k + 1, by go_num, by omega, HN2, trivial⟩
        case measure => simp [intOf]; omega
      · have HZ := hid (show hxn l (p + 2) = k by rw [HN.out, hxn_no hlt hh]; rfl)
        rw [isHx_iff] at hh
        generalize l[p + 2 + k] = c at *
        by_cases c1 : k < 4
        · have HC := hid (show cdd l p = (0, p, 21) by unfold cdd; rw [HZ.out, if_pos (.inl c1)])
          have c1' : (k : Int) < 4 := by omega
          go_wp2
          all_goals (try rw [Exit.noGoto_ret])
          all_goals go_ret3
          all_goals exact ⟨by rw [HC.out]; rfl, Below.refl _ _⟩
        · by_cases c2 : 6 < k
          · have HC := hid (show cdd l p = (0, p, 21) by unfold cdd; rw [HZ.out, if_pos (.inr c2)])
            have c1' : ¬ (k : Int) < 4 := by omega
            have c2' : 6 < (k : Int) := by omega
            go_wp2
            all_goals (try rw [Exit.noGoto_ret])
            all_goals go_ret3
            all_goals exact ⟨by rw [HC.out]; rfl, Below.refl _ _⟩
          · have HC := hid (show cdd l p = if 1114111 < hxs 0 ((l.drop (p + 2)).take k) then ((0 : Int), p, (22 : Int)) else (((hxs 0 ((l.drop (p + 2)).take k) : Nat) : Int), p + 2 + k, (0 : Int)) by unfold cdd; rw [HZ.out, if_neg (by omega)])
            have HA := hid (show ∀ c, c ∈ (l.drop (p + 2)).take k → isHx c = true by have h := hxn_all l (p + 2); rw [HZ.out] at h; exact h)
            have hlk : ((l.drop (p + 2)).take k).length = k := by rw [List.length_take, List.length_drop]; omega
            have HNE := hid (show (l.drop (p + 2)).take k ≠ [] from fun e => by rw [e] at hlk; simp at hlk; omega)
            have hv6 := hxs_six _ (by omega) HA.out
            obtain ⟨v, hv⟩ : ∃ v : Int, v = (hxs 0 ((l.drop (p + 2)).take k) : Nat) := ⟨_, rfl⟩
            have v0 : 0 ≤ v := by omega
            have v1 : v ≤ 16777215 := by omega
            have HP := hid (parseInt_eq ((⟨l.toArray⟩ : ByteArray).extract (p + 2) (p + 2 + k)) _ v w (ext_mid l (p + 2) k) hv HNE.out (by omega) HA.out)
            have HC2 := hid (show (1114111 < v → cdd l p = (0, p, 22)) ∧ (¬ 1114111 < v → cdd l p = (v, p + 2 + k, 0)) from ⟨fun h => by rw [HC.out, if_pos (by omega)], fun h => by rw [HC.out, if_neg (by omega), hv]⟩)
            have c1' : ¬ (k : Int) < 4 := by omega
            have c2' : ¬ 6 < (k : Int) := by omega
            clear HC HA hlk HNE hv6 hv HN HZ
            by_cases hm : 1114111 < v
            · have HC3 := hid (HC2.out.1 hm)
              go_wp2_with fail
              all_goals refine HP.out.mono ?_
              all_goals rintro e w1 ⟨rfl, hb⟩
              all_goals have HB := hid hb
              all_goals clear hb
              all_goals go_wp2
              all_goals (try rw [Exit.noGoto_ret])
              all_goals go_ret3
              all_goals exact ⟨by rw [HC3.out]; rfl, HB.out⟩
            · have HC3 := hid (HC2.out.2 hm)
              have ev : IntKind.i32.wrap v = v := by rw [IntKind.wrap_i32]; omega
              go_wp2_with fail
              all_goals refine HP.out.mono ?_
              all_goals rintro e w1 ⟨rfl, hb⟩
              all_goals have HB := hid hb
              all_goals clear hb
              all_goals go_wp2
              all_goals (try rw [Exit.noGoto_ret])
              all_goals go_ret3
              all_goals exact ⟨by rw [HC3.out]; rfl, HB.out⟩
    · have HZ := hid (show hxn l (p + 2) = k by rw [HN.out, hxn_end hlt]; rfl)
      by_cases c1 : k < 4
      · have HC := hid (show cdd l p = (0, p, 21) by unfold cdd; rw [HZ.out, if_pos (.inl c1)])
        have c1' : (k : Int) < 4 := by omega
        go_wp2
        all_goals (try rw [Exit.noGoto_ret])
        all_goals go_ret3
        all_goals exact ⟨by rw [HC.out]; rfl, Below.refl _ _⟩
      · by_cases c2 : 6 < k
        · have HC := hid (show cdd l p = (0, p, 21) by unfold cdd; rw [HZ.out, if_pos (.inr c2)])
          have c1' : ¬ (k : Int) < 4 := by omega
          have c2' : 6 < (k : Int) := by omega
          go_wp2
          all_goals (try rw [Exit.noGoto_ret])
          all_goals go_ret3
          all_goals exact ⟨by rw [HC.out]; rfl, Below.refl _ _⟩
        · have HC := hid (show cdd l p = if 1114111 < hxs 0 ((l.drop (p + 2)).take k) then ((0 : Int), p, (22 : Int)) else (((hxs 0 ((l.drop (p + 2)).take k) : Nat) : Int), p + 2 + k, (0 : Int)) by unfold cdd; rw [HZ.out, if_neg (by omega)])
          have HA := hid (show ∀ c, c ∈ (l.drop (p + 2)).take k → isHx c = true by have h := hxn_all l (p + 2); rw [HZ.out] at h; exact h)
          have hlk : ((l.drop (p + 2)).take k).length = k := by rw [List.length_take, List.length_drop]; omega
          have HNE := hid (show (l.drop (p + 2)).take k ≠ [] from fun e => by rw [e] at hlk; simp at hlk; omega)
          have hv6 := hxs_six _ (by omega) HA.out
          obtain ⟨v, hv⟩ : ∃ v : Int, v = (hxs 0 ((l.drop (p + 2)).take k) : Nat) := ⟨_, rfl⟩
          have v0 : 0 ≤ v := by omega
          have v1 : v ≤ 16777215 := by omega
          have HP := hid (parseInt_eq ((⟨l.toArray⟩ : ByteArray).extract (p + 2) (p + 2 + k)) _ v w (ext_mid l (p + 2) k) hv HNE.out (by omega) HA.out)
          have HC2 := hid (show (1114111 < v → cdd l p = (0, p, 22)) ∧ (¬ 1114111 < v → cdd l p = (v, p + 2 + k, 0)) from ⟨fun h => by rw [HC.out, if_pos (by omega)], fun h => by rw [HC.out, if_neg (by omega), hv]⟩)
          have c1' : ¬ (k : Int) < 4 := by omega
          have c2' : ¬ 6 < (k : Int) := by omega
          clear HC HA hlk HNE hv6 hv HN HZ
          by_cases hm : 1114111 < v
          · have HC3 := hid (HC2.out.1 hm)
            go_wp2_with fail
            all_goals refine HP.out.mono ?_
            all_goals rintro e w1 ⟨rfl, hb⟩
            all_goals have HB := hid hb
            all_goals clear hb
            all_goals go_wp2
            all_goals (try rw [Exit.noGoto_ret])
            all_goals go_ret3
            all_goals exact ⟨by rw [HC3.out]; rfl, HB.out⟩
          · have HC3 := hid (HC2.out.2 hm)
            have ev : IntKind.i32.wrap v = v := by rw [IntKind.wrap_i32]; omega
            go_wp2_with fail
            all_goals refine HP.out.mono ?_
            all_goals rintro e w1 ⟨rfl, hb⟩
            all_goals have HB := hid hb
            all_goals clear hb
            all_goals go_wp2
            all_goals (try rw [Exit.noGoto_ret])
            all_goals go_ret3
            all_goals exact ⟨by rw [HC3.out]; rfl, HB.out⟩
end Go.Proofs.YtfahbdlcokoghabGreatDoor

