/- The contracts of utf.Decode and utf.Valid; of quoted (package runes). -/
import Derived.Test.YtfahbdlcokoghabGreatDoorCoded
import Derived.Test.YtfahbdlcokoghabGreatDoorShelf
import Derived.Shelf.Unicode.ValidAny
namespace Go.Proofs.YtfahbdlcokoghabGreatDoor
open Go.RowKit

def Tryz.lays196_ren : Go.Shelf.Ren := ⟨fun | 196 => 88 | 259 => 104 | n => n, fun | 12 => 12 | 46 => 72 | 53 => 89 | 119 => 126 | 138 => 128 | 139 => 129 | n => n, fun | 3 => 3 | 4 => 4 | n => n⟩
theorem Tryz.lays196 : Go.Proofs.Lays.n196 Tryz.prog Tryz.lays196_ren := {
  mixed := by kernel_rfl
  f196 := Tryz.func88.trans (congrArg some (by kernel_rfl))
  f259 := Tryz.func104.trans (congrArg some (by kernel_rfl))
  t0 := Tryz.underlying0
  a0 := Tryz.isAgg0
  z0 := Tryz.sizeOf0
  v0 := Tryz.zeroValue0
  t3 := Tryz.underlying3
  a3 := Tryz.isAgg3
  z3 := Tryz.sizeOf3
  v3 := Tryz.zeroValue3
  t4 := Tryz.underlying4
  a4 := Tryz.isAgg4
  z4 := Tryz.sizeOf4
  v4 := Tryz.zeroValue4
  t5 := Tryz.underlying5
  a5 := Tryz.isAgg5
  z5 := Tryz.sizeOf5
  v5 := Tryz.zeroValue5
  t9 := Tryz.underlying9
  a9 := Tryz.isAgg9
  z9 := Tryz.sizeOf9
  v9 := Tryz.zeroValue9
  t12 := Tryz.underlying12
  a12 := Tryz.isAgg12
  z12 := Tryz.sizeOf12
  v12 := Tryz.zeroValue12
  t46 := Tryz.underlying72
  a46 := Tryz.isAgg72
  z46 := Tryz.sizeOf72
  v46 := Tryz.zeroValue72
  t53 := Tryz.underlying89
  a53 := Tryz.isAgg89
  z53 := Tryz.sizeOf89
  v53 := Tryz.zeroValue89
  t119 := Tryz.underlying126
  a119 := Tryz.isAgg126
  z119 := Tryz.sizeOf126
  t138 := Tryz.underlying128
  a138 := Tryz.isAgg128
  z138 := Tryz.sizeOf128
  v138 := Tryz.zeroValue128
  t139 := Tryz.underlying129
  a139 := Tryz.isAgg129
  z139 := Tryz.sizeOf129
  v139 := Tryz.zeroValue129
  g3 := by kernel_rfl
  g4 := by kernel_rfl }

theorem Tryz.utf8_ValidString (s : ByteArray) (w : World) (hs : s.size ≤ 9223372036854775807) (hT : Lib.Utf8Tabs 3 4 w) :
    Calls Tryz.prog 88 #[.string s] w fun e w' => e = .returned (.bool (Lib.validD s.data.toList)) ∧ Below w.heap.size w w' := Any.utf8_ValidString Tryz.lays196 s w hs hT

theorem tabs_below {w w' : World} (h : Lib.Utf8Tabs 3 4 w) (hs : 5 ≤ w.heap.size) (hb : Below w.heap.size w w') : Lib.Utf8Tabs 3 4 w' :=
  ⟨fun c hc => (hb.cell (p := ⟨3, c, none⟩) (by show 3 < w.heap.size; omega)).trans (h.1 c hc), fun i hi => ⟨(hb.cell (p := ⟨4, 2 * i, none⟩) (by show 4 < w.heap.size; omega)).trans (h.2 i hi).1, (hb.cell (p := ⟨4, 2 * i + 1, none⟩) (by show 4 < w.heap.size; omega)).trans (h.2 i hi).2⟩⟩

/-- What Decode answers. -/
def dec (l : List UInt8) : Nat × Nat := if l = [] then (0, 0) else Lib.decodeGo ⟨l.toArray⟩
theorem dec_le4 (l : List UInt8) : (dec l).2 ≤ 4 := by
  unfold dec
  split
  · simp
  · unfold Lib.decodeGo
    split
    · simp
    · unfold Utf8.decode
      simp only []
      repeat' split
      all_goals simp

set_option maxHeartbeats 400000 in
theorem decode_any (l : List UInt8) (w : World) (hT : Lib.Utf8Tabs 3 4 w) :
    Calls Tryz.prog 66 #[.string ⟨l.toArray⟩] w fun e w' => e = .returned (.tuple #[.int .i32 (dec l).1, .int .i64 (dec l).2]) ∧ Below w.heap.size w w' := by
  by_cases h : l = []
  · subst h
    go_enter Tryz.func66, Tryz.ntmps66
    go_wp2
    go_ret2
    exact ⟨rfl, Below.refl _ _⟩
  · have hd : dec l = Lib.decodeGo ⟨l.toArray⟩ := if_neg h
    rw [hd]
    have he : l.isEmpty = false := by simpa using h
    clear hd h
    have HT := hid hT
    clear hT
    go_enter Tryz.func66, Tryz.ntmps66
    go_wp2_with (go_at_call 53; refine (Tryz.utf8_DecodeRuneInString _ _ (by exact HT.out)).mono ?_; rintro e w1 ⟨rfl, hb⟩)
    go_ret2
    exact ⟨rfl, hb⟩
set_option maxHeartbeats 400000 in
theorem valid_any (l : List UInt8) (w : World) (hl : l.length ≤ 1000000000000) (hT : Lib.Utf8Tabs 3 4 w) :
    Calls Tryz.prog 67 #[.string ⟨l.toArray⟩] w fun e w' => e = .returned (.bool (Lib.validD l)) ∧ Below w.heap.size w w' := by
  have HT := hid hT
  have HS := hid (show (⟨l.toArray⟩ : ByteArray).size ≤ 9223372036854775807 by show l.toArray.size ≤ _; simp; omega)
  clear hT
  go_enter Tryz.func67, Tryz.ntmps67
  go_wp2_with (go_at_call 88; refine (Tryz.utf8_ValidString ⟨l.toArray⟩ _ HS.out (by exact HT.out)).mono ?_; rintro e w1 ⟨rfl, hb⟩)
  go_ret
  exact ⟨rfl, hb⟩
theorem decode_eq (s : ByteArray) (l : List UInt8) (r : Int) (k : Nat) (w : World) (hs : s = ⟨l.toArray⟩) (hr : r = ((dec l).1 : Int)) (hk : k = (dec l).2) (hT : Lib.Utf8Tabs 3 4 w) :
    Calls Tryz.prog 66 #[.string s] w fun e w' => e = .returned (.tuple #[.int .i32 r, .int .i64 (k : Nat)]) ∧ Below w.heap.size w w' := by
  subst hs hr hk; exact decode_any l w hT
theorem valid_eq (s : ByteArray) (l : List UInt8) (b : Bool) (w : World) (hs : s = ⟨l.toArray⟩) (hb : Lib.validD l = b) (hl : l.length ≤ 1000000000000) (hT : Lib.Utf8Tabs 3 4 w) :
    Calls Tryz.prog 67 #[.string s] w fun e w' => e = .returned (.bool b) ∧ Below w.heap.size w w' := by
  subst hs hb; exact valid_any l w hl hT
theorem ext_drop (l : List UInt8) (t : Nat) : (⟨l.toArray⟩ : ByteArray).extract t l.length = ⟨(l.drop t).toArray⟩ := by
  apply ByteArray.ext
  simp [ByteArray.data_extract, List.take_of_length_le]

/-- The rune that is spelled at a place between two quotes. -/
def qtd (l : List UInt8) (p : Nat) : Int × Nat × Int :=
  if (dec (l.drop (p + 1))).2 = 0 ∨ p + 1 + (dec (l.drop (p + 1))).2 = l.length ∨ l.getD (p + 1 + (dec (l.drop (p + 1))).2) 0 ≠ 39 then (0, p, 21)
  else if Lib.validD ((l.drop (p + 1)).take (dec (l.drop (p + 1))).2) = false then (0, p + 1, 23)
  else (((dec (l.drop (p + 1))).1 : Nat), p + 1 + (dec (l.drop (p + 1))).2 + 1, 0)
theorem dec_eqL (l : List UInt8) (h : l ≠ []) : dec l = Lib.decodeL l := by
  unfold dec
  rw [if_neg h]
  unfold Lib.decodeGo
  have hs : (⟨l.toArray⟩ : ByteArray).size = l.length := by show l.toArray.size = _; simp
  rw [if_neg (by rw [hs]; exact fun e => h (List.length_eq_zero_iff.1 e))]
  rfl
theorem dec_ge (l : List UInt8) (h : l ≠ []) : 1 ≤ (dec l).2 := by rw [dec_eqL l h]; exact Lib.decodeL_width l
theorem dec_le (l : List UInt8) (h : l ≠ []) : (dec l).2 ≤ l.length := by rw [dec_eqL l h]; exact Lib.decodeL_le l h
theorem dec_rune (l : List UInt8) (h : l ≠ []) : (dec l).1 ≤ 1114111 := by rw [dec_eqL l h]; exact Lib.decodeL_rune l
theorem dec_in (l : List UInt8) : (dec l).2 ≤ l.length := by
  by_cases h : l = []
  · subst h; exact Nat.le_refl 0
  · exact dec_le l h

set_option maxHeartbeats 1000000 in
theorem quoted_any (l : List UInt8) (p : Nat) (w : World) (hp : p + 1 ≤ l.length) (hl : l.length ≤ 1000000000000) (hT : Lib.Utf8Tabs 3 4 w) (h2 : 5 ≤ w.heap.size) :
    Calls Tryz.prog 46 #[.string ⟨l.toArray⟩, .int .i64 p] w fun e w' => e = .returned (spt (qtd l p)) ∧ Below w.heap.size w w' := by
  have hsz : (⟨l.toArray⟩ : ByteArray).size = l.length := by show l.toArray.size = _; simp
  have HSZ := hid hsz
  have HT := hid hT
  have hin := dec_in (l.drop (p + 1))
  rw [List.length_drop] at hin
  obtain ⟨n, hn⟩ : ∃ n, n = (dec (l.drop (p + 1))).2 := ⟨_, rfl⟩
  obtain ⟨r, hr⟩ : ∃ r : Int, r = ((dec (l.drop (p + 1))).1 : Int) := ⟨_, rfl⟩
  have HD := hid (decode_eq ((⟨l.toArray⟩ : ByteArray).extract (p + 1) l.length) (l.drop (p + 1)) r n w (ext_drop l (p + 1)) hr hn hT)
  have HQ := hid (show qtd l p = if n = 0 ∨ p + 1 + n = l.length ∨ l.getD (p + 1 + n) 0 ≠ 39 then (0, p, 21) else if Lib.validD ((l.drop (p + 1)).take n) = false then (0, p + 1, 23) else (r, p + 1 + n + 1, 0) by unfold qtd; rw [← hn, ← hr])
  rw [← hn] at hin
  clear hn hr hT hsz
  go_enter Tryz.func46, Tryz.ntmps46
  go_wp2_with fail
  refine HD.out.mono ?_
  rintro e w1 ⟨rfl, hb1⟩
  have HB1 := hid hb1
  clear hb1 HD
  by_cases c1 : n = 0
  · have HC := hid (show qtd l p = (0, p, 21) by rw [HQ.out, if_pos (.inl c1)])
    go_wp2
    go_ret3
    exact ⟨by rw [HC.out]; rfl, HB1.out⟩
  · have c1' : ((n : Int) == 0) = false := beq_eq_false_iff_ne.2 (by omega)
    by_cases c2 : p + 1 + n = l.length
    · have HC := hid (show qtd l p = (0, p, 21) by rw [HQ.out, if_pos (.inr (.inl c2))])
      have c2' : ((p : Int) + 1 + n == (l.length : Int)) = true := beq_iff_eq.2 (by omega)
      go_wp2
      go_ret3
      exact ⟨by rw [HC.out]; rfl, HB1.out⟩
    · have hlt : p + 1 + n < l.length := by omega
      have c2' : ((p : Int) + 1 + n == (l.length : Int)) = false := beq_eq_false_iff_ne.2 (by omega)
      have hszk : p + 1 + n < (⟨l.toArray⟩ : ByteArray).size := by rw [HSZ.out]; exact hlt
      have hq : (⟨l.toArray⟩ : ByteArray)[p + 1 + n]'hszk = l[p + 1 + n] := rfl
      have hgd : l.getD (p + 1 + n) 0 = l[p + 1 + n] := by simp [List.getD, List.getElem?_eq_getElem hlt]
      rw [hgd] at HQ
      generalize l[p + 1 + n] = c at *
      by_cases c3 : c = 39
      · subst c3
        have HV := hid (fun b (hb : Lib.validD ((l.drop (p + 1)).take n) = b) => valid_eq ((⟨l.toArray⟩ : ByteArray).extract (p + 1) (p + 1 + n)) ((l.drop (p + 1)).take n) b w1 (ext_mid l (p + 1) n) hb (by rw [List.length_take]; omega) (tabs_below HT.out h2 HB1.out))
        cases hv : Lib.validD ((l.drop (p + 1)).take n) with
        | true =>
          have HC := hid (show qtd l p = (r, p + 1 + n + 1, 0) by rw [HQ.out, if_neg (by simp [c1, c2]), if_neg (by rw [hv]; decide)])
          have HV2 := hid (HV.out true hv)
          clear HV hv HQ hgd
          go_wp2_with fail
          refine HV2.out.mono ?_
          rintro e w2 ⟨rfl, hb2⟩
          have HB2 := hid (HB1.out.trans (hb2.mono HB1.out.size))
          clear hb2
          go_wp2
          go_ret3
          exact ⟨by rw [HC.out]; unfold spt; go_num, HB2.out⟩
        | false =>
          have HC := hid (show qtd l p = (0, p + 1, 23) by rw [HQ.out, if_neg (by simp [c1, c2]), if_pos hv])
          have HV2 := hid (HV.out false hv)
          clear HV hv HQ hgd
          go_wp2_with fail
          refine HV2.out.mono ?_
          rintro e w2 ⟨rfl, hb2⟩
          have HB2 := hid (HB1.out.trans (hb2.mono HB1.out.size))
          clear hb2
          go_wp2
          go_ret3
          exact ⟨by rw [HC.out]; rfl, HB2.out⟩
      · have HC := hid (show qtd l p = (0, p, 21) by rw [HQ.out, if_pos (.inr (.inr c3))])
        have c3' : ((c.toNat : Int) == 39) = false := beq_eq_false_iff_ne.2 (fun e => c3 (UInt8.toNat_inj.1 (by show c.toNat = 39; omega)))
        clear HQ hgd c3
        go_wp2
        go_ret3
        exact ⟨by rw [HC.out]; rfl, HB1.out⟩
end Go.Proofs.YtfahbdlcokoghabGreatDoor

