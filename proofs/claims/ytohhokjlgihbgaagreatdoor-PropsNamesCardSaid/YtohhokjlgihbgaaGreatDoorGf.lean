/- The contract of coded (package runes): a rune by its number. -/
import Derived.OwnWalk
import Derived.Test.YtohhokjlgihbgaaGreatDoorGe
import Derived.Shelf.Strings.Builder1
import Derived.Shelf.Small.Bits
import Derived.Shelf.Strings.BuilderF
import Derived.Shelf.Strings.BuilderK
import Derived.Shelf.Strconv.Itoa0
import Derived.Shelf.Unicode.DecodeSlow
import Derived.Shelf.Unicode.DecodeAny
import Derived.Test.YtohhokjlgihbgaaGreatDoorProg
import Derived.Shelf.Unicode.ValidAny
namespace Go.Proofs.YtohhokjlgihbgaaGreatDoor
open Go.RowKit

/-- What a reader of a rune's spelling answers. -/
def spt (x : Int × Nat × Int) : Value := .tuple #[.int .i32 x.1, .int .i64 (x.2.1 : Nat), .int .i64 x.2.2]
theorem ext_mid (l : List UInt8) (b k : Nat) : (⟨l.toArray⟩ : ByteArray).extract b (b + k) = ⟨((l.drop b).take k).toArray⟩ := by
  apply ByteArray.ext
  simp [ByteArray.data_extract, List.extract_eq_take_drop]
theorem parseInt_eq (s : ByteArray) (l : List UInt8) (v : Int) (w : World) (hs : s = ⟨l.toArray⟩) (hv : v = (hxs 0 l : Nat)) (hne : l ≠ []) (hl : l.length ≤ 6) (hx : ∀ c, c ∈ l → isHx c = true) :
    Calls Tryz.prog 162 #[.string s, .int .i64 16, .int .i64 32] w fun e w' => e = .returned (.tuple #[.int .i64 v, .nilIface]) ∧ Below w.heap.size w w' := by
  subst hs hv; exact parseInt_any l w hne hl hx

set_option maxHeartbeats 1000000 in
set_option maxRecDepth 100000 in
theorem coded_any (l : List UInt8) (p : Nat) (w : World) (hp : p + 2 ≤ l.length) (hl : l.length ≤ 1000000000000) :
    Calls Tryz.prog 140 #[.string ⟨l.toArray⟩, .int .i64 p] w fun e w' => e = .returned (spt (cdd l p)) ∧ Below w.heap.size w w' := by
  have hsz : (⟨l.toArray⟩ : ByteArray).size = l.length := by show l.toArray.size = _; simp
  have HSZ := hid hsz
  clear hsz
  go_enter Tryz.func140, Tryz.ntmps140
  go_wp2
  go_step3
  go_wp2
  go_step3
  go_wp2
  go_loopw [8] (fun x wr => ∃ k : Nat, x = .int .i64 ((p : Int) + 2 + k) ∧ p + 2 + k ≤ l.length ∧ Hid (hxn l (p + 2) = k + hxn l (p + 2 + k)) ∧ wr = w) (fun x _ => (l.length + 1 - intOf x).toNat)
  case atStart => exact ⟨0, by go_num, by omega, by simp [Hid], rfl⟩
  case round =>
    obtain ⟨k, rfl, hk, HN, hw⟩ := hrel
    obtain rfl := hw.symm
    have e1 : (p : Int) + 2 + k - ((p : Int) + 2) = (k : Int) := by omega
    by_cases hlt : p + 2 + k < l.length
    · have hszk : p + 2 + k < (⟨l.toArray⟩ : ByteArray).size := by rw [HSZ.out]; exact hlt
      have hq : (⟨l.toArray⟩ : ByteArray)[p + 2 + k]'hszk = l[p + 2 + k] := rfl
      by_cases hh : isHx l[p + 2 + k] = true
      · have HN2 := hid (show hxn l (p + 2) = (k + 1) + hxn l (p + 2 + (k + 1)) by rw [HN.out, hxn_yes hlt hh, Nat.add_assoc (p + 2) k 1]; omega)
        rw [isHx_iff] at hh
        generalize l[p + 2 + k] = c at *
        go_wp2
        all_goals go_roundw
        case rel => exact ⟨k + 1, by go_num, by omega, HN2, trivial⟩
        case measure => simp [intOf]; omega
        case rel => exact ⟨k + 1, by go_num, by omega, HN2, trivial⟩
        case measure => simp [intOf]; omega
      · have HZ := hid (show hxn l (p + 2) = k by rw [HN.out, hxn_no hlt hh]; rfl)
        rw [isHx_iff] at hh
        generalize l[p + 2 + k] = c at *
        by_cases c1 : k < 4
        · have HC := hid (show cdd l p = (0, p, 21) by unfold cdd; rw [HZ.out, if_pos (.inl c1)])
          have c1' : (k : Int) < 4 := by omega
          go_wp2
          all_goals (try rw [Exit.noGoto_ret])
          all_goals go_ret3
          all_goals exact ⟨by rw [HC.out]; rfl, Below.refl _ _⟩
        · by_cases c2 : 6 < k
          · have HC := hid (show cdd l p = (0, p, 21) by unfold cdd; rw [HZ.out, if_pos (.inr c2)])
            have c1' : ¬ (k : Int) < 4 := by omega
            have c2' : 6 < (k : Int) := by omega
            go_wp2
            all_goals (try rw [Exit.noGoto_ret])
            all_goals go_ret3
            all_goals exact ⟨by rw [HC.out]; rfl, Below.refl _ _⟩
          · have HC := hid (show cdd l p = if 1114111 < hxs 0 ((l.drop (p + 2)).take k) then ((0 : Int), p, (22 : Int)) else (((hxs 0 ((l.drop (p + 2)).take k) : Nat) : Int), p + 2 + k, (0 : Int)) by unfold cdd; rw [HZ.out, if_neg (by omega)])
            have HA := hid (show ∀ c, c ∈ (l.drop (p + 2)).take k → isHx c = true by have h := hxn_all l (p + 2); rw [HZ.out] at h; exact h)
            have hlk : ((l.drop (p + 2)).take k).length = k := by rw [List.length_take, List.length_drop]; omega
            have HNE := hid (show (l.drop (p + 2)).take k ≠ [] from fun e => by rw [e] at hlk; simp at hlk; omega)
            have hv6 := hxs_six _ (by omega) HA.out
            obtain ⟨v, hv⟩ : ∃ v : Int, v = (hxs 0 ((l.drop (p + 2)).take k) : Nat) := ⟨_, rfl⟩
            have v0 : 0 ≤ v := by omega
            have v1 : v ≤ 16777215 := by omega
            have HP := hid (parseInt_eq ((⟨l.toArray⟩ : ByteArray).extract (p + 2) (p + 2 + k)) _ v w (ext_mid l (p + 2) k) hv HNE.out (by omega) HA.out)
            have HC2 := hid (show (1114111 < v → cdd l p = (0, p, 22)) ∧ (¬ 1114111 < v → cdd l p = (v, p + 2 + k, 0)) from ⟨fun h => by rw [HC.out, if_pos (by omega)], fun h => by rw [HC.out, if_neg (by omega), hv]⟩)
            have c1' : ¬ (k : Int) < 4 := by omega
            have c2' : ¬ 6 < (k : Int) := by omega
            clear HC HA hlk HNE hv6 hv HN HZ
            by_cases hm : 1114111 < v
            · have HC3 := hid (HC2.out.1 hm)
              go_wp2_with fail
              all_goals refine HP.out.mono ?_
              all_goals rintro e w1 ⟨rfl, hb⟩
              all_goals have HB := hid hb
              all_goals clear hb
              all_goals go_wp2
              all_goals (try rw [Exit.noGoto_ret])
              all_goals go_ret3
              all_goals exact ⟨by rw [HC3.out]; rfl, HB.out⟩
            · have HC3 := hid (HC2.out.2 hm)
              have ev : IntKind.i32.wrap v = v := by rw [IntKind.wrap_i32]; omega
              go_wp2_with fail
              all_goals refine HP.out.mono ?_
              all_goals rintro e w1 ⟨rfl, hb⟩
              all_goals have HB := hid hb
              all_goals clear hb
              all_goals go_wp2
              all_goals (try rw [Exit.noGoto_ret])
              all_goals go_ret3
              all_goals exact ⟨by rw [HC3.out]; rfl, HB.out⟩
    · have HZ := hid (show hxn l (p + 2) = k by rw [HN.out, hxn_end hlt]; rfl)
      by_cases c1 : k < 4
      · have HC := hid (show cdd l p = (0, p, 21) by unfold cdd; rw [HZ.out, if_pos (.inl c1)])
        have c1' : (k : Int) < 4 := by omega
        go_wp2
        all_goals (try rw [Exit.noGoto_ret])
        all_goals go_ret3
        all_goals exact ⟨by rw [HC.out]; rfl, Below.refl _ _⟩
      · by_cases c2 : 6 < k
        · have HC := hid (show cdd l p = (0, p, 21) by unfold cdd; rw [HZ.out, if_pos (.inr c2)])
          have c1' : ¬ (k : Int) < 4 := by omega
          have c2' : 6 < (k : Int) := by omega
          go_wp2
          all_goals (try rw [Exit.noGoto_ret])
          all_goals go_ret3
          all_goals exact ⟨by rw [HC.out]; rfl, Below.refl _ _⟩
        · have HC := hid (show cdd l p = if 1114111 < hxs 0 ((l.drop (p + 2)).take k) then ((0 : Int), p, (22 : Int)) else (((hxs 0 ((l.drop (p + 2)).take k) : Nat) : Int), p + 2 + k, (0 : Int)) by unfold cdd; rw [HZ.out, if_neg (by omega)])
          have HA := hid (show ∀ c, c ∈ (l.drop (p + 2)).take k → isHx c = true by have h := hxn_all l (p + 2); rw [HZ.out] at h; exact h)
          have hlk : ((l.drop (p + 2)).take k).length = k := by rw [List.length_take, List.length_drop]; omega
          have HNE := hid (show (l.drop (p + 2)).take k ≠ [] from fun e => by rw [e] at hlk; simp at hlk; omega)
          have hv6 := hxs_six _ (by omega) HA.out
          obtain ⟨v, hv⟩ : ∃ v : Int, v = (hxs 0 ((l.drop (p + 2)).take k) : Nat) := ⟨_, rfl⟩
          have v0 : 0 ≤ v := by omega
          have v1 : v ≤ 16777215 := by omega
          have HP := hid (parseInt_eq ((⟨l.toArray⟩ : ByteArray).extract (p + 2) (p + 2 + k)) _ v w (ext_mid l (p + 2) k) hv HNE.out (by omega) HA.out)
          have HC2 := hid (show (1114111 < v → cdd l p = (0, p, 22)) ∧ (¬ 1114111 < v → cdd l p = (v, p + 2 + k, 0)) from ⟨fun h => by rw [HC.out, if_pos (by omega)], fun h => by rw [HC.out, if_neg (by omega), hv]⟩)
          have c1' : ¬ (k : Int) < 4 := by omega
          have c2' : ¬ 6 < (k : Int) := by omega
          clear HC HA hlk HNE hv6 hv HN HZ
          by_cases hm : 1114111 < v
          · have HC3 := hid (HC2.out.1 hm)
            go_wp2_with fail
            all_goals refine HP.out.mono ?_
            all_goals rintro e w1 ⟨rfl, hb⟩
            all_goals have HB := hid hb
            all_goals clear hb
            all_goals go_wp2
            all_goals (try rw [Exit.noGoto_ret])
            all_goals go_ret3
            all_goals exact ⟨by rw [HC3.out]; rfl, HB.out⟩
          · have HC3 := hid (HC2.out.2 hm)
            have ev : IntKind.i32.wrap v = v := by rw [IntKind.wrap_i32]; omega
            go_wp2_with fail
            all_goals refine HP.out.mono ?_
            all_goals rintro e w1 ⟨rfl, hb⟩
            all_goals have HB := hid hb
            all_goals clear hb
            all_goals go_wp2
            all_goals (try rw [Exit.noGoto_ret])
            all_goals go_ret3
            all_goals exact ⟨by rw [HC3.out]; rfl, HB.out⟩
end Go.Proofs.YtohhokjlgihbgaaGreatDoor
/- Contracts of library functions that the program calls, laid at this program. -/
namespace Go.Proofs
open Go.Shelf
def Tryz.lays169_ren : Go.Shelf.Ren := ⟨fun | 169 => 56 | n => n, fun | 70 => 93 | 9 => 9 | 0 => 0 | 72 => 96 | 37 => 94 | 127 => 131 | 3 => 3 | 5 => 5 | n => n, fun | n => n⟩
theorem Tryz.lays169 : Go.Proofs.Lays.n169 Tryz.prog Tryz.lays169_ren := {
  mixed := by kernel_rfl
  f169 := Tryz.func56.trans (congrArg some (by kernel_rfl))
  t0 := Tryz.underlying0
  a0 := Tryz.isAgg0
  z0 := Tryz.sizeOf0
  v0 := Tryz.zeroValue0
  t3 := Tryz.underlying3
  a3 := Tryz.isAgg3
  z3 := Tryz.sizeOf3
  v3 := Tryz.zeroValue3
  t9 := Tryz.underlying9
  a9 := Tryz.isAgg9
  z9 := Tryz.sizeOf9
  v9 := Tryz.zeroValue9
  t37 := Tryz.underlying94
  a37 := Tryz.isAgg94
  z37 := Tryz.sizeOf94
  v37 := Tryz.zeroValue94
  t70 := Tryz.underlying93
  a70 := Tryz.isAgg93
  z70 := Tryz.sizeOf93
  v70 := Tryz.zeroValue93
  t72 := Tryz.underlying96
  a72 := Tryz.isAgg96
  z72 := Tryz.sizeOf96
  v72 := Tryz.zeroValue96
  t127 := Tryz.underlying131
  a127 := Tryz.isAgg131
  z127 := Tryz.sizeOf131
  v127 := Tryz.zeroValue131 }
theorem Tryz.Builder_Extra_169 : Builder.Extra Tryz.prog Tryz.lays169_ren := {
  sizeBuilder := by kernel_rfl
  liesBuilder := by kernel_rfl
  t5 := Tryz.underlying5
  a5 := Tryz.isAgg5
  z5 := Tryz.sizeOf5
  v5 := Tryz.zeroValue5
  infoByte := by kernel_rfl
  cellsByte := by kernel_rfl
  sizeByte := by kernel_rfl
  neB5 := by decide }
open Go.RowKit in
theorem Tryz.Builder_String (B b : Nat) (l : List UInt8) (w : World) (h : Lib.IsBuilder 96 5 B b (Lib.byteCells l) w) (h0 : l ≠ []) :
    Calls Tryz.prog 56 #[.pointer (some ⟨b, 0, none⟩)] w fun e w' => e = .returned (.string ⟨l.toArray⟩) ∧ Below B w w' := Any.Builder_String Tryz.lays169 Tryz.Builder_Extra_169 B b l w h h0
open Go.RowKit in
theorem Tryz.Builder_String_empty (B b : Nat) (w : World) (h : Lib.IsBuilder 96 5 B b [] w) (hBw : B ≤ w.heap.size) :
    Calls Tryz.prog 56 #[.pointer (some ⟨b, 0, none⟩)] w fun e w' => e = .returned (.string ⟨#[]⟩) ∧ Below B w w' := Any.Builder_String_empty Tryz.lays169 Tryz.Builder_Extra_169 B b w h hBw
open Go.RowKit in
theorem Tryz.Builder_String_any (B b : Nat) (l : List UInt8) (w : World) (h : Lib.IsBuilder 96 5 B b (Lib.byteCells l) w) (hBw : B ≤ w.heap.size) :
    Calls Tryz.prog 56 #[.pointer (some ⟨b, 0, none⟩)] w fun e w' => e = .returned (.string ⟨l.toArray⟩) ∧ Below B w w' := Any.Builder_String_any Tryz.lays169 Tryz.Builder_Extra_169 B b l w h hBw
def Tryz.lays128_ren : Go.Shelf.Ren := ⟨fun | 128 => 174 | n => n, fun | 51 => 191 | 3 => 3 | 4 => 4 | 46 => 128 | 5 => 5 | 9 => 9 | n => n, fun | n => n⟩
theorem Tryz.lays128 : Go.Proofs.Lays.n128 Tryz.prog Tryz.lays128_ren := {
  mixed := by kernel_rfl
  f128 := Tryz.func174.trans (congrArg some (by kernel_rfl))
  t3 := Tryz.underlying3
  a3 := Tryz.isAgg3
  z3 := Tryz.sizeOf3
  v3 := Tryz.zeroValue3
  t4 := Tryz.underlying4
  a4 := Tryz.isAgg4
  z4 := Tryz.sizeOf4
  v4 := Tryz.zeroValue4
  t5 := Tryz.underlying5
  a5 := Tryz.isAgg5
  z5 := Tryz.sizeOf5
  v5 := Tryz.zeroValue5
  t9 := Tryz.underlying9
  a9 := Tryz.isAgg9
  z9 := Tryz.sizeOf9
  v9 := Tryz.zeroValue9
  t46 := Tryz.underlying128
  a46 := Tryz.isAgg128
  z46 := Tryz.sizeOf128
  v46 := Tryz.zeroValue128
  t51 := Tryz.underlying191
  a51 := Tryz.isAgg191
  z51 := Tryz.sizeOf191
  v51 := Tryz.zeroValue191 }
theorem Tryz.bits_Len32 (x : Int) (w : World) (h0 : 0 ≤ x) (h1 : x ≤ 4294967295) :
    Calls Tryz.prog 174 #[.int .u32 x] w fun e w' => e = .returned (.int .i64 (Lib.bitLen x.toNat)) ∧ w' = w := Any.bits_Len32 Tryz.lays128 x w h0 h1
def Tryz.lays125_ren : Go.Shelf.Ren := ⟨fun | 125 => 146 | 128 => 174 | 129 => 175 | n => n, fun | 46 => 128 | 3 => 3 | 51 => 191 | 53 => 186 | 4 => 4 | 5 => 5 | 9 => 9 | n => n, fun | n => n⟩
theorem Tryz.lays125 : Go.Proofs.Lays.n125 Tryz.prog Tryz.lays125_ren := {
  mixed := by kernel_rfl
  f125 := Tryz.func146.trans (congrArg some (by kernel_rfl))
  f128 := Tryz.func174.trans (congrArg some (by kernel_rfl))
  f129 := Tryz.func175.trans (congrArg some (by kernel_rfl))
  t3 := Tryz.underlying3
  a3 := Tryz.isAgg3
  z3 := Tryz.sizeOf3
  v3 := Tryz.zeroValue3
  t4 := Tryz.underlying4
  a4 := Tryz.isAgg4
  z4 := Tryz.sizeOf4
  v4 := Tryz.zeroValue4
  t5 := Tryz.underlying5
  a5 := Tryz.isAgg5
  z5 := Tryz.sizeOf5
  v5 := Tryz.zeroValue5
  t9 := Tryz.underlying9
  a9 := Tryz.isAgg9
  z9 := Tryz.sizeOf9
  v9 := Tryz.zeroValue9
  t46 := Tryz.underlying128
  a46 := Tryz.isAgg128
  z46 := Tryz.sizeOf128
  v46 := Tryz.zeroValue128
  t51 := Tryz.underlying191
  a51 := Tryz.isAgg191
  z51 := Tryz.sizeOf191
  v51 := Tryz.zeroValue191
  t53 := Tryz.underlying186
  a53 := Tryz.isAgg186
  z53 := Tryz.sizeOf186
  v53 := Tryz.zeroValue186 }
theorem Tryz.bits_Len (x : Int) (w : World) (h0 : 0 ≤ x) (h1 : x ≤ 18446744073709551615) :
    Calls Tryz.prog 146 #[.int .u64 x] w fun e w' => e = .returned (.int .i64 (Lib.bitLen x.toNat)) ∧ w' = w := Any.bits_Len Tryz.lays125 x w h0 h1
open Go.RowKit in
theorem Tryz.Builder_String_f (B b : Nat) (l : List UInt8) (w : World) (h : Lib.IsBuilderF 96 5 B b (Lib.byteCells l) w) (h0 : l ≠ []) :
    Calls Tryz.prog 56 #[.pointer (some ⟨b, 0, none⟩)] w fun e w' => e = .returned (.string ⟨l.toArray⟩) ∧ (Lib.IsBuilderF 96 5 B b (Lib.byteCells l) w' ∧ Below B w w') := Any.Builder_String_f Tryz.lays169 Tryz.Builder_Extra_169 B b l w h h0
open Go.RowKit in
theorem Tryz.Builder_String_empty_f (B b : Nat) (w : World) (h : Lib.IsBuilderF 96 5 B b [] w) (hBw : B ≤ w.heap.size) :
    Calls Tryz.prog 56 #[.pointer (some ⟨b, 0, none⟩)] w fun e w' => e = .returned (.string ⟨#[]⟩) ∧ (Lib.IsBuilderF 96 5 B b [] w' ∧ Below B w w') := Any.Builder_String_empty_f Tryz.lays169 Tryz.Builder_Extra_169 B b w h hBw
open Go.RowKit in
theorem Tryz.Builder_String_any_f (B b : Nat) (l : List UInt8) (w : World) (h : Lib.IsBuilderF 96 5 B b (Lib.byteCells l) w) (hBw : B ≤ w.heap.size) :
    Calls Tryz.prog 56 #[.pointer (some ⟨b, 0, none⟩)] w fun e w' => e = .returned (.string ⟨l.toArray⟩) ∧ (Lib.IsBuilderF 96 5 B b (Lib.byteCells l) w' ∧ Below B w w') := Any.Builder_String_any_f Tryz.lays169 Tryz.Builder_Extra_169 B b l w h hBw
open Go.RowKit in
theorem Tryz.Builder_String_k (B b : Nat) (l : List UInt8) (w : World) (h : Lib.IsBuilderF 96 5 B b (Lib.byteCells l) w) (h0 : l ≠ []) :
    Calls Tryz.prog 56 #[.pointer (some ⟨b, 0, none⟩)] w fun e w' => e = .returned (.string ⟨l.toArray⟩) ∧ (Lib.IsBuilderF 96 5 B b (Lib.byteCells l) w' ∧ Below B w w' ∧ Lib.OthersKept 5 (some b) w w') := Any.Builder_String_k Tryz.lays169 Tryz.Builder_Extra_169 B b l w h h0
open Go.RowKit in
theorem Tryz.Builder_String_empty_k (B b : Nat) (w : World) (h : Lib.IsBuilderF 96 5 B b [] w) (hBw : B ≤ w.heap.size) :
    Calls Tryz.prog 56 #[.pointer (some ⟨b, 0, none⟩)] w fun e w' => e = .returned (.string ⟨#[]⟩) ∧ (Lib.IsBuilderF 96 5 B b [] w' ∧ Below B w w' ∧ Lib.OthersKept 5 (some b) w w') := Any.Builder_String_empty_k Tryz.lays169 Tryz.Builder_Extra_169 B b w h hBw
open Go.RowKit in
theorem Tryz.Builder_String_any_k (B b : Nat) (l : List UInt8) (w : World) (h : Lib.IsBuilderF 96 5 B b (Lib.byteCells l) w) (hBw : B ≤ w.heap.size) :
    Calls Tryz.prog 56 #[.pointer (some ⟨b, 0, none⟩)] w fun e w' => e = .returned (.string ⟨l.toArray⟩) ∧ (Lib.IsBuilderF 96 5 B b (Lib.byteCells l) w' ∧ Below B w w' ∧ Lib.OthersKept 5 (some b) w w') := Any.Builder_String_any_k Tryz.lays169 Tryz.Builder_Extra_169 B b l w h hBw
def Tryz.lays129_ren : Go.Shelf.Ren := ⟨fun | 129 => 175 | n => n, fun | 53 => 186 | 3 => 3 | 4 => 4 | 46 => 128 | 5 => 5 | 9 => 9 | n => n, fun | n => n⟩
theorem Tryz.lays129 : Go.Proofs.Lays.n129 Tryz.prog Tryz.lays129_ren := {
  mixed := by kernel_rfl
  f129 := Tryz.func175.trans (congrArg some (by kernel_rfl))
  t3 := Tryz.underlying3
  a3 := Tryz.isAgg3
  z3 := Tryz.sizeOf3
  v3 := Tryz.zeroValue3
  t4 := Tryz.underlying4
  a4 := Tryz.isAgg4
  z4 := Tryz.sizeOf4
  v4 := Tryz.zeroValue4
  t5 := Tryz.underlying5
  a5 := Tryz.isAgg5
  z5 := Tryz.sizeOf5
  v5 := Tryz.zeroValue5
  t9 := Tryz.underlying9
  a9 := Tryz.isAgg9
  z9 := Tryz.sizeOf9
  v9 := Tryz.zeroValue9
  t46 := Tryz.underlying128
  a46 := Tryz.isAgg128
  z46 := Tryz.sizeOf128
  v46 := Tryz.zeroValue128
  t53 := Tryz.underlying186
  a53 := Tryz.isAgg186
  z53 := Tryz.sizeOf186
  v53 := Tryz.zeroValue186 }
theorem Tryz.bits_Len64 (x : Int) (w : World) (h0 : 0 ≤ x) (h1 : x ≤ 18446744073709551615) :
    Calls Tryz.prog 175 #[.int .u64 x] w fun e w' => e = .returned (.int .i64 (Lib.bitLen x.toNat)) ∧ w' = w := Any.bits_Len64 Tryz.lays129 x w h0 h1
def Tryz.lays260_ren : Go.Shelf.Ren := ⟨fun | 260 => 111 | n => n, fun | 9 => 9 | 21 => 21 | 3 => 3 | 4 => 4 | 5 => 5 | 119 => 173 | 0 => 0 | 46 => 128 | 139 => 176 | 138 => 175 | n => n, fun | 3 => 0 | 4 => 1 | n => n⟩
theorem Tryz.lays260 : Go.Proofs.Lays.n260 Tryz.prog Tryz.lays260_ren := {
  mixed := by kernel_rfl
  f260 := Tryz.func111.trans (congrArg some (by kernel_rfl))
  t0 := Tryz.underlying0
  a0 := Tryz.isAgg0
  z0 := Tryz.sizeOf0
  v0 := Tryz.zeroValue0
  t3 := Tryz.underlying3
  a3 := Tryz.isAgg3
  z3 := Tryz.sizeOf3
  v3 := Tryz.zeroValue3
  t4 := Tryz.underlying4
  a4 := Tryz.isAgg4
  z4 := Tryz.sizeOf4
  v4 := Tryz.zeroValue4
  t5 := Tryz.underlying5
  a5 := Tryz.isAgg5
  z5 := Tryz.sizeOf5
  v5 := Tryz.zeroValue5
  t9 := Tryz.underlying9
  a9 := Tryz.isAgg9
  z9 := Tryz.sizeOf9
  v9 := Tryz.zeroValue9
  t21 := Tryz.underlying21
  a21 := Tryz.isAgg21
  z21 := Tryz.sizeOf21
  v21 := Tryz.zeroValue21
  t46 := Tryz.underlying128
  a46 := Tryz.isAgg128
  z46 := Tryz.sizeOf128
  v46 := Tryz.zeroValue128
  t119 := Tryz.underlying173
  a119 := Tryz.isAgg173
  z119 := Tryz.sizeOf173
  t138 := Tryz.underlying175
  a138 := Tryz.isAgg175
  z138 := Tryz.sizeOf175
  v138 := Tryz.zeroValue175
  t139 := Tryz.underlying176
  a139 := Tryz.isAgg176
  z139 := Tryz.sizeOf176
  v139 := Tryz.zeroValue176
  g3 := by kernel_rfl
  g4 := by kernel_rfl }
open Go.RowKit Go.Lib in
theorem Tryz.utf8_decodeRuneInStringSlow (s : ByteArray) (w : World) (hT : Lib.Utf8Tabs 0 1 w) :
    Calls Tryz.prog 111 #[.string s] w fun e w' => e = .returned (.tuple #[.int .i32 (Lib.decodeGo s).1, .int .i64 (Lib.decodeGo s).2]) ∧ Below w.heap.size w w' := Any.utf8_decodeRuneInStringSlow Tryz.lays260 s w hT
def Tryz.lays197_ren : Go.Shelf.Ren := ⟨fun | 197 => 87 | 260 => 111 | n => n, fun | 9 => 9 | 21 => 21 | 3 => 3 | 4 => 4 | 5 => 5 | 105 => 134 | 119 => 173 | 0 => 0 | 46 => 128 | 139 => 176 | 138 => 175 | n => n, fun | 3 => 0 | 4 => 1 | n => n⟩
theorem Tryz.lays197 : Go.Proofs.Lays.n197 Tryz.prog Tryz.lays197_ren := {
  mixed := by kernel_rfl
  f197 := Tryz.func87.trans (congrArg some (by kernel_rfl))
  f260 := Tryz.func111.trans (congrArg some (by kernel_rfl))
  t0 := Tryz.underlying0
  a0 := Tryz.isAgg0
  z0 := Tryz.sizeOf0
  v0 := Tryz.zeroValue0
  t3 := Tryz.underlying3
  a3 := Tryz.isAgg3
  z3 := Tryz.sizeOf3
  v3 := Tryz.zeroValue3
  t4 := Tryz.underlying4
  a4 := Tryz.isAgg4
  z4 := Tryz.sizeOf4
  v4 := Tryz.zeroValue4
  t5 := Tryz.underlying5
  a5 := Tryz.isAgg5
  z5 := Tryz.sizeOf5
  v5 := Tryz.zeroValue5
  t9 := Tryz.underlying9
  a9 := Tryz.isAgg9
  z9 := Tryz.sizeOf9
  v9 := Tryz.zeroValue9
  t21 := Tryz.underlying21
  a21 := Tryz.isAgg21
  z21 := Tryz.sizeOf21
  v21 := Tryz.zeroValue21
  t46 := Tryz.underlying128
  a46 := Tryz.isAgg128
  z46 := Tryz.sizeOf128
  v46 := Tryz.zeroValue128
  t105 := Tryz.underlying134
  a105 := Tryz.isAgg134
  z105 := Tryz.sizeOf134
  v105 := Tryz.zeroValue134
  t119 := Tryz.underlying173
  a119 := Tryz.isAgg173
  z119 := Tryz.sizeOf173
  t138 := Tryz.underlying175
  a138 := Tryz.isAgg175
  z138 := Tryz.sizeOf175
  v138 := Tryz.zeroValue175
  t139 := Tryz.underlying176
  a139 := Tryz.isAgg176
  z139 := Tryz.sizeOf176
  v139 := Tryz.zeroValue176
  g3 := by kernel_rfl
  g4 := by kernel_rfl }
open Go.RowKit Go.Lib in
theorem Tryz.utf8_DecodeRuneInString (s : ByteArray) (w : World) (hT : Lib.Utf8Tabs 0 1 w) :
    Calls Tryz.prog 87 #[.string s] w fun e w' => e = .returned (.tuple #[.int .i32 (Lib.decodeGo s).1, .int .i64 (Lib.decodeGo s).2]) ∧ Below w.heap.size w w' := Any.utf8_DecodeRuneInString Tryz.lays197 s w hT
end Go.Proofs
/- The contracts of utf.Decode and utf.Valid; of quoted (package runes). -/
namespace Go.Proofs.YtohhokjlgihbgaaGreatDoor
open Go.RowKit

def Tryz.lays196_ren : Go.Shelf.Ren := ⟨fun | 196 => 184 | 259 => 200 | n => n, fun | 12 => 12 | 46 => 128 | 53 => 186 | 119 => 173 | 138 => 175 | 139 => 176 | n => n, fun | 3 => 0 | 4 => 1 | n => n⟩
theorem Tryz.lays196 : Go.Proofs.Lays.n196 Tryz.prog Tryz.lays196_ren := {
  mixed := by kernel_rfl
  f196 := Tryz.func184.trans (congrArg some (by kernel_rfl))
  f259 := Tryz.func200.trans (congrArg some (by kernel_rfl))
  t0 := Tryz.underlying0
  a0 := Tryz.isAgg0
  z0 := Tryz.sizeOf0
  v0 := Tryz.zeroValue0
  t3 := Tryz.underlying3
  a3 := Tryz.isAgg3
  z3 := Tryz.sizeOf3
  v3 := Tryz.zeroValue3
  t4 := Tryz.underlying4
  a4 := Tryz.isAgg4
  z4 := Tryz.sizeOf4
  v4 := Tryz.zeroValue4
  t5 := Tryz.underlying5
  a5 := Tryz.isAgg5
  z5 := Tryz.sizeOf5
  v5 := Tryz.zeroValue5
  t9 := Tryz.underlying9
  a9 := Tryz.isAgg9
  z9 := Tryz.sizeOf9
  v9 := Tryz.zeroValue9
  t12 := Tryz.underlying12
  a12 := Tryz.isAgg12
  z12 := Tryz.sizeOf12
  v12 := Tryz.zeroValue12
  t46 := Tryz.underlying128
  a46 := Tryz.isAgg128
  z46 := Tryz.sizeOf128
  v46 := Tryz.zeroValue128
  t53 := Tryz.underlying186
  a53 := Tryz.isAgg186
  z53 := Tryz.sizeOf186
  v53 := Tryz.zeroValue186
  t119 := Tryz.underlying173
  a119 := Tryz.isAgg173
  z119 := Tryz.sizeOf173
  t138 := Tryz.underlying175
  a138 := Tryz.isAgg175
  z138 := Tryz.sizeOf175
  v138 := Tryz.zeroValue175
  t139 := Tryz.underlying176
  a139 := Tryz.isAgg176
  z139 := Tryz.sizeOf176
  v139 := Tryz.zeroValue176
  g3 := by kernel_rfl
  g4 := by kernel_rfl }

theorem Tryz.utf8_ValidString (s : ByteArray) (w : World) (hs : s.size ≤ 9223372036854775807) (hT : Lib.Utf8Tabs 0 1 w) :
    Calls Tryz.prog 184 #[.string s] w fun e w' => e = .returned (.bool (Lib.validD s.data.toList)) ∧ Below w.heap.size w w' := Any.utf8_ValidString Tryz.lays196 s w hs hT

theorem tabs_below {w w' : World} (h : Lib.Utf8Tabs 0 1 w) (hs : 2 ≤ w.heap.size) (hb : Below w.heap.size w w') : Lib.Utf8Tabs 0 1 w' :=
  ⟨fun c hc => (hb.cell (p := ⟨0, c, none⟩) (by show 0 < w.heap.size; omega)).trans (h.1 c hc), fun i hi => ⟨(hb.cell (p := ⟨1, 2 * i, none⟩) (by show 1 < w.heap.size; omega)).trans (h.2 i hi).1, (hb.cell (p := ⟨1, 2 * i + 1, none⟩) (by show 1 < w.heap.size; omega)).trans (h.2 i hi).2⟩⟩

/-- What Decode answers. -/
def dec (l : List UInt8) : Nat × Nat := if l = [] then (0, 0) else Lib.decodeGo ⟨l.toArray⟩
theorem dec_le4 (l : List UInt8) : (dec l).2 ≤ 4 := by
  unfold dec
  split
  · simp
  · unfold Lib.decodeGo
    split
    · simp
    · unfold Utf8.decode
      simp only []
      repeat' split
      all_goals simp

set_option maxHeartbeats 400000 in
theorem decode_any (l : List UInt8) (w : World) (hT : Lib.Utf8Tabs 0 1 w) :
    Calls Tryz.prog 116 #[.string ⟨l.toArray⟩] w fun e w' => e = .returned (.tuple #[.int .i32 (dec l).1, .int .i64 (dec l).2]) ∧ Below w.heap.size w w' := by
  by_cases h : l = []
  · subst h
    go_enter Tryz.func116, Tryz.ntmps116
    go_wp2
    go_ret2
    exact ⟨rfl, Below.refl _ _⟩
  · have hd : dec l = Lib.decodeGo ⟨l.toArray⟩ := if_neg h
    rw [hd]
    have he : l.isEmpty = false := by simpa using h
    clear hd h
    have HT := hid hT
    clear hT
    go_enter Tryz.func116, Tryz.ntmps116
    go_wp2_with (go_at_call 87; refine (Tryz.utf8_DecodeRuneInString _ _ (by exact HT.out)).mono ?_; rintro e w1 ⟨rfl, hb⟩)
    go_ret2
    exact ⟨rfl, hb⟩
set_option maxHeartbeats 400000 in
theorem valid_any (l : List UInt8) (w : World) (hl : l.length ≤ 1000000000000) (hT : Lib.Utf8Tabs 0 1 w) :
    Calls Tryz.prog 163 #[.string ⟨l.toArray⟩] w fun e w' => e = .returned (.bool (Lib.validD l)) ∧ Below w.heap.size w w' := by
  have HT := hid hT
  have HS := hid (show (⟨l.toArray⟩ : ByteArray).size ≤ 9223372036854775807 by show l.toArray.size ≤ _; simp; omega)
  clear hT
  go_enter Tryz.func163, Tryz.ntmps163
  go_wp2_with (go_at_call 184; refine (Tryz.utf8_ValidString ⟨l.toArray⟩ _ HS.out (by exact HT.out)).mono ?_; rintro e w1 ⟨rfl, hb⟩)
  go_ret
  exact ⟨rfl, hb⟩
theorem decode_eq (s : ByteArray) (l : List UInt8) (r : Int) (k : Nat) (w : World) (hs : s = ⟨l.toArray⟩) (hr : r = ((dec l).1 : Int)) (hk : k = (dec l).2) (hT : Lib.Utf8Tabs 0 1 w) :
    Calls Tryz.prog 116 #[.string s] w fun e w' => e = .returned (.tuple #[.int .i32 r, .int .i64 (k : Nat)]) ∧ Below w.heap.size w w' := by
  subst hs hr hk; exact decode_any l w hT
theorem valid_eq (s : ByteArray) (l : List UInt8) (b : Bool) (w : World) (hs : s = ⟨l.toArray⟩) (hb : Lib.validD l = b) (hl : l.length ≤ 1000000000000) (hT : Lib.Utf8Tabs 0 1 w) :
    Calls Tryz.prog 163 #[.string s] w fun e w' => e = .returned (.bool b) ∧ Below w.heap.size w w' := by
  subst hs hb; exact valid_any l w hl hT
theorem ext_drop (l : List UInt8) (t : Nat) : (⟨l.toArray⟩ : ByteArray).extract t l.length = ⟨(l.drop t).toArray⟩ := by
  apply ByteArray.ext
  simp [ByteArray.data_extract, List.take_of_length_le]

/-- The rune that is spelled at a place between two quotes. -/
def qtd (l : List UInt8) (p : Nat) : Int × Nat × Int :=
  if (dec (l.drop (p + 1))).2 = 0 ∨ p + 1 + (dec (l.drop (p + 1))).2 = l.length ∨ l.getD (p + 1 + (dec (l.drop (p + 1))).2) 0 ≠ 39 then (0, p, 21)
  else if Lib.validD ((l.drop (p + 1)).take (dec (l.drop (p + 1))).2) = false then (0, p + 1, 23)
  else (((dec (l.drop (p + 1))).1 : Nat), p + 1 + (dec (l.drop (p + 1))).2 + 1, 0)
theorem dec_eqL (l : List UInt8) (h : l ≠ []) : dec l = Lib.decodeL l := by
  unfold dec
  rw [if_neg h]
  unfold Lib.decodeGo
  have hs : (⟨l.toArray⟩ : ByteArray).size = l.length := by show l.toArray.size = _; simp
  rw [if_neg (by rw [hs]; exact fun e => h (List.length_eq_zero_iff.1 e))]
  rfl
theorem dec_ge (l : List UInt8) (h : l ≠ []) : 1 ≤ (dec l).2 := by rw [dec_eqL l h]; exact Lib.decodeL_width l
theorem dec_le (l : List UInt8) (h : l ≠ []) : (dec l).2 ≤ l.length := by rw [dec_eqL l h]; exact Lib.decodeL_le l h
theorem dec_rune (l : List UInt8) (h : l ≠ []) : (dec l).1 ≤ 1114111 := by rw [dec_eqL l h]; exact Lib.decodeL_rune l
theorem dec_in (l : List UInt8) : (dec l).2 ≤ l.length := by
  by_cases h : l = []
  · subst h; exact Nat.le_refl 0
  · exact dec_le l h

set_option maxHeartbeats 1000000 in
theorem quoted_any (l : List UInt8) (p : Nat) (w : World) (hp : p + 1 ≤ l.length) (hl : l.length ≤ 1000000000000) (hT : Lib.Utf8Tabs 0 1 w) (h2 : 2 ≤ w.heap.size) :
    Calls Tryz.prog 141 #[.string ⟨l.toArray⟩, .int .i64 p] w fun e w' => e = .returned (spt (qtd l p)) ∧ Below w.heap.size w w' := by
  have hsz : (⟨l.toArray⟩ : ByteArray).size = l.length := by show l.toArray.size = _; simp
  have HSZ := hid hsz
  have HT := hid hT
  have hin := dec_in (l.drop (p + 1))
  rw [List.length_drop] at hin
  obtain ⟨n, hn⟩ : ∃ n, n = (dec (l.drop (p + 1))).2 := ⟨_, rfl⟩
  obtain ⟨r, hr⟩ : ∃ r : Int, r = ((dec (l.drop (p + 1))).1 : Int) := ⟨_, rfl⟩
  have HD := hid (decode_eq ((⟨l.toArray⟩ : ByteArray).extract (p + 1) l.length) (l.drop (p + 1)) r n w (ext_drop l (p + 1)) hr hn hT)
  have HQ := hid (show qtd l p = if n = 0 ∨ p + 1 + n = l.length ∨ l.getD (p + 1 + n) 0 ≠ 39 then (0, p, 21) else if Lib.validD ((l.drop (p + 1)).take n) = false then (0, p + 1, 23) else (r, p + 1 + n + 1, 0) by unfold qtd; rw [← hn, ← hr])
  rw [← hn] at hin
  clear hn hr hT hsz
  go_enter Tryz.func141, Tryz.ntmps141
  go_wp2_with fail
  refine HD.out.mono ?_
  rintro e w1 ⟨rfl, hb1⟩
  have HB1 := hid hb1
  clear hb1 HD
  by_cases c1 : n = 0
  · have HC := hid (show qtd l p = (0, p, 21) by rw [HQ.out, if_pos (.inl c1)])
    go_wp2
    go_ret3
    exact ⟨by rw [HC.out]; rfl, HB1.out⟩
  · have c1' : ((n : Int) == 0) = false := beq_eq_false_iff_ne.2 (by omega)
    by_cases c2 : p + 1 + n = l.length
    · have HC := hid (show qtd l p = (0, p, 21) by rw [HQ.out, if_pos (.inr (.inl c2))])
      have c2' : ((p : Int) + 1 + n == (l.length : Int)) = true := beq_iff_eq.2 (by omega)
      go_wp2
      go_ret3
      exact ⟨by rw [HC.out]; rfl, HB1.out⟩
    · have hlt : p + 1 + n < l.length := by omega
      have c2' : ((p : Int) + 1 + n == (l.length : Int)) = false := beq_eq_false_iff_ne.2 (by omega)
      have hszk : p + 1 + n < (⟨l.toArray⟩ : ByteArray).size := by rw [HSZ.out]; exact hlt
      have hq : (⟨l.toArray⟩ : ByteArray)[p + 1 + n]'hszk = l[p + 1 + n] := rfl
      have hgd : l.getD (p + 1 + n) 0 = l[p + 1 + n] := by simp [List.getD, List.getElem?_eq_getElem hlt]
      rw [hgd] at HQ
      generalize l[p + 1 + n] = c at *
      by_cases c3 : c = 39
      · subst c3
        have HV := hid (fun b (hb : Lib.validD ((l.drop (p + 1)).take n) = b) => valid_eq ((⟨l.toArray⟩ : ByteArray).extract (p + 1) (p + 1 + n)) ((l.drop (p + 1)).take n) b w1 (ext_mid l (p + 1) n) hb (by rw [List.length_take]; omega) (tabs_below HT.out h2 HB1.out))
        cases hv : Lib.validD ((l.drop (p + 1)).take n) with
        | true =>
          have HC := hid (show qtd l p = (r, p + 1 + n + 1, 0) by rw [HQ.out, if_neg (by simp [c1, c2]), if_neg (by rw [hv]; decide)])
          have HV2 := hid (HV.out true hv)
          clear HV hv HQ hgd
          go_wp2_with fail
          refine HV2.out.mono ?_
          rintro e w2 ⟨rfl, hb2⟩
          have HB2 := hid (HB1.out.trans (hb2.mono HB1.out.size))
          clear hb2
          go_wp2
          go_ret3
          exact ⟨by rw [HC.out]; unfold spt; go_num, HB2.out⟩
        | false =>
          have HC := hid (show qtd l p = (0, p + 1, 23) by rw [HQ.out, if_neg (by simp [c1, c2]), if_pos hv])
          have HV2 := hid (HV.out false hv)
          clear HV hv HQ hgd
          go_wp2_with fail
          refine HV2.out.mono ?_
          rintro e w2 ⟨rfl, hb2⟩
          have HB2 := hid (HB1.out.trans (hb2.mono HB1.out.size))
          clear hb2
          go_wp2
          go_ret3
          exact ⟨by rw [HC.out]; rfl, HB2.out⟩
      · have HC := hid (show qtd l p = (0, p, 21) by rw [HQ.out, if_pos (.inr (.inr c3))])
        have c3' : ((c.toNat : Int) == 39) = false := beq_eq_false_iff_ne.2 (fun e => c3 (UInt8.toNat_inj.1 (by show c.toNat = 39; omega)))
        clear HQ hgd c3
        go_wp2
        go_ret3
        exact ⟨by rw [HC.out]; rfl, HB1.out⟩
end Go.Proofs.YtohhokjlgihbgaaGreatDoor
