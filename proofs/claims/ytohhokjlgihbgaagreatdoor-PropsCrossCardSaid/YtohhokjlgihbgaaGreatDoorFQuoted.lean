/- The contracts of utf.Decode and utf.Valid; of quoted (package runes). -/
import Derived.Shelf.Unicode.ValidAny
import Derived.Test.YtohhokjlgihbgaaGreatDoorFPInt
import Derived.Test.YtohhokjlgihbgaaGreatDoorFShelf
namespace Go.Proofs.YtohhokjlgihbgaaGreatDoor
open Go.RowKit

def Tryz.lays196_ren : Go.Shelf.Ren := ⟨fun | 196 => 184 | 259 => 200 | n => n, fun | 12 => 12 | 46 => 128 | 53 => 186 | 119 => 173 | 138 => 175 | 139 => 176 | n => n, fun | 3 => 0 | 4 => 1 | n => n⟩
theorem Tryz.lays196 : Go.Proofs.Lays.n196 Tryz.prog Tryz.lays196_ren := {
  mixed := by kernel_rfl
  f196 := Tryz.func184.trans (congrArg some (by kernel_rfl))
  f259 := Tryz.func200.trans (congrArg some (by kernel_rfl))
  t0 := Tryz.underlying0
  a0 := Tryz.isAgg0
  z0 := Tryz.sizeOf0
  v0 := Tryz.zeroValue0
  t3 := Tryz.underlying3
  a3 := Tryz.isAgg3
  z3 := Tryz.sizeOf3
  v3 := Tryz.zeroValue3
  t4 := Tryz.underlying4
  a4 := Tryz.isAgg4
  z4 := Tryz.sizeOf4
  v4 := Tryz.zeroValue4
  t5 := Tryz.underlying5
  a5 := Tryz.isAgg5
  z5 := Tryz.sizeOf5
  v5 := Tryz.zeroValue5
  t9 := Tryz.underlying9
  a9 := Tryz.isAgg9
  z9 := Tryz.sizeOf9
  v9 := Tryz.zeroValue9
  t12 := Tryz.underlying12
  a12 := Tryz.isAgg12
  z12 := Tryz.sizeOf12
  v12 := Tryz.zeroValue12
  t46 := Tryz.underlying128
  a46 := Tryz.isAgg128
  z46 := Tryz.sizeOf128
  v46 := Tryz.zeroValue128
  t53 := Tryz.underlying186
  a53 := Tryz.isAgg186
  z53 := Tryz.sizeOf186
  v53 := Tryz.zeroValue186
  t119 := Tryz.underlying173
  a119 := Tryz.isAgg173
  z119 := Tryz.sizeOf173
  t138 := Tryz.underlying175
  a138 := Tryz.isAgg175
  z138 := Tryz.sizeOf175
  v138 := Tryz.zeroValue175
  t139 := Tryz.underlying176
  a139 := Tryz.isAgg176
  z139 := Tryz.sizeOf176
  v139 := Tryz.zeroValue176
  g3 := by kernel_rfl
  g4 := by kernel_rfl }

theorem Tryz.utf8_ValidString (s : ByteArray) (w : World) (hs : s.size ≤ 9223372036854775807) (hT : Lib.Utf8Tabs 0 1 w) :
    Calls Tryz.prog 184 #[.string s] w fun e w' => e = .returned (.bool (Lib.validD s.data.toList)) ∧ Below w.heap.size w w' := Any.utf8_ValidString Tryz.lays196 s w hs hT

theorem tabs_below {w w' : World} (h : Lib.Utf8Tabs 0 1 w) (hs : 2 ≤ w.heap.size) (hb : Below w.heap.size w w') : Lib.Utf8Tabs 0 1 w' :=
  ⟨fun c hc => (hb.cell (p := ⟨0, c, none⟩) (by show 0 < w.heap.size; omega)).trans (h.1 c hc), fun i hi => ⟨(hb.cell (p := ⟨1, 2 * i, none⟩) (by show 1 < w.heap.size; omega)).trans (h.2 i hi).1, (hb.cell (p := ⟨1, 2 * i + 1, none⟩) (by show 1 < w.heap.size; omega)).trans (h.2 i hi).2⟩⟩

/-- What Decode answers. -/
def dec (l : List UInt8) : Nat × Nat := if l = [] then (0, 0) else Lib.decodeGo ⟨l.toArray⟩
theorem dec_le4 (l : List UInt8) : (dec l).2 ≤ 4 := by
  unfold dec
  split
  · simp
  · unfold Lib.decodeGo
    split
    · simp
    · unfold Utf8.decode
      simp only []
      repeat' split
      all_goals simp

set_option maxHeartbeats 400000 in
theorem decode_any (l : List UInt8) (w : World) (hT : Lib.Utf8Tabs 0 1 w) :
    Calls Tryz.prog 116 #[.string ⟨l.toArray⟩] w fun e w' => e = .returned (.tuple #[.int .i32 (dec l).1, .int .i64 (dec l).2]) ∧ Below w.heap.size w w' := by
  by_cases h : l = []
  · subst h
    go_enter Tryz.func116, Tryz.ntmps116
    go_wp2
    go_ret2
    exact ⟨rfl, Below.refl _ _⟩
  · have hd : dec l = Lib.decodeGo ⟨l.toArray⟩ := if_neg h
    rw [hd]
    have he : l.isEmpty = false := by simpa using h
    clear hd h
    have HT := hid hT
    clear hT
    go_enter Tryz.func116, Tryz.ntmps116
    go_wp2_with (go_at_call 87; refine (Tryz.utf8_DecodeRuneInString _ _ (by exact HT.out)).mono ?_; rintro e w1 ⟨rfl, hb⟩)
    go_ret2
    exact ⟨rfl, hb⟩
set_option maxHeartbeats 400000 in
theorem valid_any (l : List UInt8) (w : World) (hl : l.length ≤ 1000000000000) (hT : Lib.Utf8Tabs 0 1 w) :
    Calls Tryz.prog 163 #[.string ⟨l.toArray⟩] w fun e w' => e = .returned (.bool (Lib.validD l)) ∧ Below w.heap.size w w' := by
  have HT := hid hT
  have HS := hid (show (⟨l.toArray⟩ : ByteArray).size ≤ 9223372036854775807 by show l.toArray.size ≤ _; simp; omega)
  clear hT
  go_enter Tryz.func163, Tryz.ntmps163
  go_wp2_with (go_at_call 184; refine (Tryz.utf8_ValidString ⟨l.toArray⟩ _ HS.out (by exact HT.out)).mono ?_; rintro e w1 ⟨rfl, hb⟩)
  go_ret
  exact ⟨rfl, hb⟩
theorem decode_eq (s : ByteArray) (l : List UInt8) (r : Int) (k : Nat) (w : World) (hs : s = ⟨l.toArray⟩) (hr : r = ((dec l).1 : Int)) (hk : k = (dec l).2) (hT : Lib.Utf8Tabs 0 1 w) :
    Calls Tryz.prog 116 #[.string s] w fun e w' => e = .returned (.tuple #[.int .i32 r, .int .i64 (k : Nat)]) ∧ Below w.heap.size w w' := by
  subst hs hr hk; exact decode_any l w hT
theorem valid_eq (s : ByteArray) (l : List UInt8) (b : Bool) (w : World) (hs : s = ⟨l.toArray⟩) (hb : Lib.validD l = b) (hl : l.length ≤ 1000000000000) (hT : Lib.Utf8Tabs 0 1 w) :
    Calls Tryz.prog 163 #[.string s] w fun e w' => e = .returned (.bool b) ∧ Below w.heap.size w w' := by
  subst hs hb; exact valid_any l w hl hT
theorem ext_drop (l : List UInt8) (t : Nat) : (⟨l.toArray⟩ : ByteArray).extract t l.length = ⟨(l.drop t).toArray⟩ := by
  apply ByteArray.ext
  simp [ByteArray.data_extract, List.take_of_length_le]

/-- The rune that is spelled at a place between two quotes. -/
def qtd (l : List UInt8) (p : Nat) : Int × Nat × Int :=
  if (dec (l.drop (p + 1))).2 = 0 ∨ p + 1 + (dec (l.drop (p + 1))).2 = l.length ∨ l.getD (p + 1 + (dec (l.drop (p + 1))).2) 0 ≠ 39 then (0, p, 21)
  else if Lib.validD ((l.drop (p + 1)).take (dec (l.drop (p + 1))).2) = false then (0, p + 1, 23)
  else (((dec (l.drop (p + 1))).1 : Nat), p + 1 + (dec (l.drop (p + 1))).2 + 1, 0)
theorem dec_eqL (l : List UInt8) (h : l ≠ []) : dec l = Lib.decodeL l := by
  unfold dec
  rw [if_neg h]
  unfold Lib.decodeGo
  have hs : (⟨l.toArray⟩ : ByteArray).size = l.length := by show l.toArray.size = _; simp
  rw [if_neg (by rw [hs]; exact fun e => h (List.length_eq_zero_iff.1 e))]
  rfl
theorem dec_ge (l : List UInt8) (h : l ≠ []) : 1 ≤ (dec l).2 := by rw [dec_eqL l h]; exact Lib.decodeL_width l
theorem dec_le (l : List UInt8) (h : l ≠ []) : (dec l).2 ≤ l.length := by rw [dec_eqL l h]; exact Lib.decodeL_le l h
theorem dec_rune (l : List UInt8) (h : l ≠ []) : (dec l).1 ≤ 1114111 := by rw [dec_eqL l h]; exact Lib.decodeL_rune l
theorem dec_in (l : List UInt8) : (dec l).2 ≤ l.length := by
  by_cases h : l = []
  · subst h; exact Nat.le_refl 0
  · exact dec_le l h

set_option maxHeartbeats 1000000 in
theorem quoted_any (l : List UInt8) (p : Nat) (w : World) (hp : p + 1 ≤ l.length) (hl : l.length ≤ 1000000000000) (hT : Lib.Utf8Tabs 0 1 w) (h2 : 2 ≤ w.heap.size) :
    Calls Tryz.prog 141 #[.string ⟨l.toArray⟩, .int .i64 p] w fun e w' => e = .returned (spt (qtd l p)) ∧ Below w.heap.size w w' := by
  have hsz : (⟨l.toArray⟩ : ByteArray).size = l.length := by show l.toArray.size = _; simp
  have HSZ := hid hsz
  have HT := hid hT
  have hin := dec_in (l.drop (p + 1))
  rw [List.length_drop] at hin
  obtain ⟨n, hn⟩ : ∃ n, n = (dec (l.drop (p + 1))).2 := ⟨_, rfl⟩
  obtain ⟨r, hr⟩ : ∃ r : Int, r = ((dec (l.drop (p + 1))).1 : Int) := ⟨_, rfl⟩
  have HD := hid (decode_eq ((⟨l.toArray⟩ : ByteArray).extract (p + 1) l.length) (l.drop (p + 1)) r n w (ext_drop l (p + 1)) hr hn hT)
  have HQ := hid (show qtd l p = if n = 0 ∨ p + 1 + n = l.length ∨ l.getD (p + 1 + n) 0 ≠ 39 then (0, p, 21) else if Lib.validD ((l.drop (p + 1)).take n) = false then (0, p + 1, 23) else (r, p + 1 + n + 1, 0) by unfold qtd; rw [← hn, ← hr])
  rw [← hn] at hin
  clear hn hr hT hsz
  go_enter Tryz.func141, Tryz.ntmps141
  go_wp2_with fail
  refine HD.out.mono ?_
  rintro e w1 ⟨rfl, hb1⟩
  have HB1 := hid hb1
  clear hb1 HD
  by_cases c1 : n = 0
  · have HC := hid (show qtd l p = (0, p, 21) by rw [HQ.out, if_pos (.inl c1)])
    go_wp2
    go_ret3
    exact ⟨by rw [HC.out]; rfl, HB1.out⟩
  · have c1' : ((n : Int) == 0) = false := beq_eq_false_iff_ne.2 (by omega)
    by_cases c2 : p + 1 + n = l.length
    · have HC := hid (show qtd l p = (0, p, 21) by rw [HQ.out, if_pos (.inr (.inl c2))])
      have c2' : ((p : Int) + 1 + n == (l.length : Int)) = true := beq_iff_eq.2 (by omega)
      go_wp2
      go_ret3
      exact ⟨by rw [HC.out]; rfl, HB1.out⟩
    · have hlt : p + 1 + n < l.length := by omega
      have c2' : ((p : Int) + 1 + n == (l.length : Int)) = false := beq_eq_false_iff_ne.2 (by omega)
      have hszk : p + 1 + n < (⟨l.toArray⟩ : ByteArray).size := by rw [HSZ.out]; exact hlt
      have hq : (⟨l.toArray⟩ : ByteArray)[p + 1 + n]'hszk = l[p + 1 + n] := rfl
      have hgd : l.getD (p + 1 + n) 0 = l[p + 1 + n] := by simp [List.getD, List.getElem?_eq_getElem hlt]
      rw [hgd] at HQ
      generalize l[p + 1 + n] = c at *
      by_cases c3 : c = 39
      · subst c3
        have HV := hid (fun b (hb : Lib.validD ((l.drop (p + 1)).take n) = b) => valid_eq ((⟨l.toArray⟩ : ByteArray).extract (p + 1) (p + 1 + n)) ((l.drop (p + 1)).take n) b w1 (ext_mid l (p + 1) n) hb (by rw [List.length_take]; omega) (tabs_below HT.out h2 HB1.out))
        cases hv : Lib.validD ((l.drop (p + 1)).take n) with
        | true =>
          have HC := hid (show qtd l p = (r, p + 1 + n + 1, 0) by rw [HQ.out, if_neg (by simp [c1, c2]), if_neg (by rw [hv]; decide)])
          have HV2 := hid (HV.out true hv)
          clear HV hv HQ hgd
          go_wp2_with fail
          refine HV2.out.mono ?_
          rintro e w2 ⟨rfl, hb2⟩
          have HB2 := hid (HB1.out.trans (hb2.mono HB1.out.size))
          clear hb2
          go_wp2
          go_ret3
          exact ⟨by rw [HC.out]; unfold spt; go_num, HB2.out⟩
        | false =>
          have HC := hid (show qtd l p = (0, p + 1, 23) by rw [HQ.out, if_neg (by simp [c1, c2]), if_pos hv])
          have HV2 := hid (HV.out false hv)
          clear HV hv HQ hgd
          go_wp2_with fail
          refine HV2.out.mono ?_
          rintro e w2 ⟨rfl, hb2⟩
          have HB2 := hid (HB1.out.trans (hb2.mono HB1.out.size))
          clear hb2
          go_wp2
          go_ret3
          exact ⟨by rw [HC.out]; rfl, HB2.out⟩
      · have HC := hid (show qtd l p = (0, p, 21) by rw [HQ.out, if_pos (.inr (.inr c3))])
        have c3' : ((c.toNat : Int) == 39) = false := beq_eq_false_iff_ne.2 (fun e => c3 (UInt8.toNat_inj.1 (by show c.toNat = 39; omega)))
        clear HQ hgd c3
        go_wp2
        go_ret3
        exact ⟨by rw [HC.out]; rfl, HB1.out⟩
end Go.Proofs.YtohhokjlgihbgaaGreatDoor
/- The contracts of step and find (package props): the first place of a byte that stands in no spelling. -/
namespace Go.Proofs.YtohhokjlgihbgaaGreatDoor
open Go.RowKit

/-- How many bytes at the beginning are one thing. -/
def stp (l : List UInt8) : Nat := if l.getD 0 0 = 39 ∧ 0 < (dec (l.drop 1)).2 ∧ 1 + (dec (l.drop 1)).2 < l.length ∧ l.getD (1 + (dec (l.drop 1)).2) 0 = 39 then (dec (l.drop 1)).2 + 2 else 1
theorem stp_pos (l : List UInt8) : 1 ≤ stp l := by unfold stp; split <;> omega
theorem stp_le (l : List UInt8) (h : l ≠ []) : stp l ≤ l.length := by
  have h1 : 1 ≤ l.length := by cases l with | nil => exact absurd rfl h | cons => simp
  unfold stp
  split
  · rename_i h5; omega
  · exact h1
set_option maxHeartbeats 1000000 in
set_option maxRecDepth 100000 in
theorem step_any (l : List UInt8) (w : World) (hne : l ≠ []) (hl : l.length ≤ 1000000000) (hT : Lib.Utf8Tabs 0 1 w) :
    Calls Tryz.prog 96 #[.string ⟨l.toArray⟩] w fun e w' => e = .returned (.int .i64 (stp l : Nat)) ∧ Below w.heap.size w w' := by
  have hsz : (⟨l.toArray⟩ : ByteArray).size = l.length := by show l.toArray.size = _; simp
  have hlen : 0 < l.length := by cases l with | nil => exact absurd rfl hne | cons => simp
  have HSZ := hid hsz
  have hin := dec_in (l.drop 1)
  rw [List.length_drop] at hin
  obtain ⟨n, hn⟩ : ∃ n, n = (dec (l.drop 1)).2 := ⟨_, rfl⟩
  obtain ⟨r, hr⟩ : ∃ r : Int, r = ((dec (l.drop 1)).1 : Int) := ⟨_, rfl⟩
  have HD := hid (decode_eq ((⟨l.toArray⟩ : ByteArray).extract 1 l.length) (l.drop 1) r n w (ext_drop l 1) hr hn hT)
  have HQ := hid (show stp l = if l.getD 0 0 = 39 ∧ 0 < n ∧ 1 + n < l.length ∧ l.getD (1 + n) 0 = 39 then n + 2 else 1 by unfold stp; rw [← hn])
  rw [← hn] at hin
  have hsz0 : 0 < (⟨l.toArray⟩ : ByteArray).size := by rw [hsz]; exact hlen
  have hq0 : (⟨l.toArray⟩ : ByteArray)[0]'hsz0 = l[0] := rfl
  have hg0 : l.getD 0 0 = l[0] := by simp [List.getD, hlen]
  rw [hg0] at HQ
  have t0 : (0 : Int) < (l.length : Int) := by omega
  have t1 : (1 : Int) ≤ (l.length : Int) := by omega
  generalize l[0] = c at *
  clear hn hr hT hsz hg0
  by_cases c0 : c = 39
  · have c0' : (c.toNat : Int) = 39 := by rw [c0]; rfl
    have c0'' : ((c.toNat : Int) != 39) = false := by rw [c0']; rfl
    subst c0
    go_enter Tryz.func96, Tryz.ntmps96
    go_wp2_with fail
    refine HD.out.mono ?_
    rintro e w1 ⟨rfl, hb1⟩
    have HB1 := hid hb1
    clear hb1 HD
    by_cases c1 : 0 < n
    · have c1' : (0 : Int) < (n : Int) := by omega
      by_cases c2 : 1 + n < l.length
      · have c2' : (1 : Int) + n < (l.length : Int) := by omega
        have hszk : 1 + n < (⟨l.toArray⟩ : ByteArray).size := by rw [HSZ.out]; exact c2
        have hq : (⟨l.toArray⟩ : ByteArray)[1 + n]'hszk = l[1 + n] := rfl
        have hgd : l.getD (1 + n) 0 = l[1 + n] := by simp [List.getD, List.getElem?_eq_getElem c2]
        rw [hgd] at HQ
        generalize l[1 + n] = d at *
        by_cases c3 : d = 39
        · have HC := hid (show stp l = n + 2 by rw [HQ.out, if_pos ⟨by first | rfl | trivial, c1, c2, c3⟩])
          subst c3
          go_wp2
          go_ret
          exact ⟨by rw [HC.out]; go_num, HB1.out⟩
        · have c3' : ((d.toNat : Int) == 39) = false := beq_eq_false_iff_ne.2 (fun e => c3 (by
            have h5 : d.toNat = 39 := by omega
            exact UInt8.toNat_inj.1 h5))
          have HC := hid (show stp l = 1 by rw [HQ.out, if_neg (fun h => c3 h.2.2.2)])
          go_wp2
          go_ret
          exact ⟨by rw [HC.out]; rfl, HB1.out⟩
      · have c2' : ¬ (1 : Int) + n < (l.length : Int) := by omega
        have HC := hid (show stp l = 1 by rw [HQ.out, if_neg (fun h => c2 h.2.2.1)])
        go_wp2
        go_ret
        exact ⟨by rw [HC.out]; rfl, HB1.out⟩
    · have c1' : ¬ (0 : Int) < (n : Int) := by omega
      have HC := hid (show stp l = 1 by rw [HQ.out, if_neg (fun h => c1 h.2.1)])
      go_wp2
      go_ret
      exact ⟨by rw [HC.out]; rfl, HB1.out⟩
  · have c0' : ((c.toNat : Int) != 39) = true := bne_iff_ne.2 (fun e => c0 (by
      have h5 : c.toNat = 39 := by omega
      exact UInt8.toNat_inj.1 h5))
    have HC := hid (show stp l = 1 by rw [HQ.out, if_neg (fun h => c0 h.1)])
    go_enter Tryz.func96, Tryz.ntmps96
    go_wp2
    go_ret
    exact ⟨by rw [HC.out]; rfl, Below.refl _ _⟩
/-- The first place of c that stands in no spelling. -/
def fdF (c : UInt8) (l : List UInt8) : Nat → Nat → Nat
  | 0, t => t
  | f + 1, t => if t < l.length ∧ l.getD t 0 ≠ c then fdF c l f (t + stp (l.drop t)) else t
def fdp (c : UInt8) (l : List UInt8) : Nat := fdF c l (l.length + 1) 0
theorem fdF_more (c : UInt8) (l : List UInt8) : ∀ (f g t : Nat), l.length < f + t → l.length < g + t → fdF c l f t = fdF c l g t
  | 0, 0, _, _, _ => rfl
  | 0, g + 1, t, h, _ => by show t = (if _ then _ else t); rw [if_neg (by omega)]
  | f + 1, 0, t, _, h => by show (if _ then _ else t) = t; rw [if_neg (by omega)]
  | f + 1, g + 1, t, h1, h2 => by
    show (if _ then fdF c l f (t + stp (l.drop t)) else t) = (if _ then fdF c l g (t + stp (l.drop t)) else t)
    have h5 := stp_pos (l.drop t)
    rw [fdF_more c l f g (t + stp (l.drop t)) (by omega) (by omega)]
theorem fdF_le (c : UInt8) (l : List UInt8) : ∀ (f t : Nat), t ≤ l.length → fdF c l f t ≤ l.length
  | 0, _, h => h
  | f + 1, t, h => by
    show (if _ then fdF c l f (t + stp (l.drop t)) else t) ≤ _
    split
    · rename_i h5
      refine fdF_le c l f _ ?_
      have h6 := stp_le (l.drop t) (fun e => by have h7 := congrArg List.length e; simp at h7; omega)
      simp only [List.length_drop] at h6
      omega
    · exact h
theorem fdp_le (c : UInt8) (l : List UInt8) : fdp c l ≤ l.length := fdF_le c l _ 0 (Nat.zero_le _)
theorem step_eq (s : ByteArray) (l : List UInt8) (k : Nat) (w : World) (hs : s = ⟨l.toArray⟩) (hk : k = stp l) (hne : l ≠ []) (hl : l.length ≤ 1000000000) (hT : Lib.Utf8Tabs 0 1 w) :
    Calls Tryz.prog 96 #[.string s] w fun e w' => e = .returned (.int .i64 (k : Nat)) ∧ Below w.heap.size w w' := by
  subst hs hk
  exact step_any l w hne hl hT
set_option maxHeartbeats 1000000 in
set_option maxRecDepth 100000 in
theorem find_any (l : List UInt8) (c : UInt8) (w : World) (hl : l.length ≤ 1000000000) (hT : Lib.Utf8Tabs 0 1 w) (h2 : 2 ≤ w.heap.size) :
    Calls Tryz.prog 66 #[.string ⟨l.toArray⟩, .int .u8 (c.toNat : Int)] w fun e w' => e = .returned (.int .i64 (fdp c l : Nat)) ∧ Below w.heap.size w w' := by
  have HSZ := hid (show (⟨l.toArray⟩ : ByteArray).size = l.length by show l.toArray.size = _; simp)
  have HT := hid (show ∀ W, Below w.heap.size w W → Lib.Utf8Tabs 0 1 W from fun W hW => tabs_below hT h2 hW)
  clear hT
  go_enter Tryz.func66, Tryz.ntmps66
  go_wp2
  go_loopw [5] (fun x wr => ∃ (t f : Nat), x = .int .i64 (t : Int) ∧ t ≤ l.length ∧ Hid (l.length < f + t ∧ fdF c l f t = fdp c l) ∧ Hid (Below w.heap.size w wr)) (fun x _ => l.length - (intOf x).toNat)
  case atStart => exact ⟨0, l.length + 1, rfl, by omega, ⟨by omega, rfl⟩, Below.refl _ _⟩
  case round =>
    obtain ⟨t, f, rfl, ht, HF, HB⟩ := hrel
    by_cases hlt : t < l.length
    · have hszk : t < (⟨l.toArray⟩ : ByteArray).size := by rw [HSZ.out]; exact hlt
      have tl : (t : Int) < (l.length : Int) := by omega
      have tl2 : (t : Int) ≤ (l.length : Int) := by omega
      have t0 : (0 : Int) ≤ (t : Int) := by omega
      have hq : (⟨l.toArray⟩ : ByteArray)[t]'hszk = l[t] := rfl
      have hgd : l.getD t 0 = l[t] := by simp [List.getD, hlt]
      have HE := hid (show fdp c l = if l[t] ≠ c then fdF c l l.length (t + stp (l.drop t)) else t by
        rw [← HF.out.2, fdF_more c l f (l.length + 1) t HF.out.1 (by omega)]
        show (if t < l.length ∧ l.getD t 0 ≠ c then _ else t) = _
        rw [hgd]
        by_cases h5 : l[t] ≠ c
        · rw [if_pos ⟨hlt, h5⟩, if_pos h5]
        · rw [if_neg (fun h => h5 h.2), if_neg h5])
      have hdn : l.drop t ≠ [] := fun e => by have h7 := congrArg List.length e; simp at h7; omega
      have hsp := stp_pos (l.drop t)
      have hsl := stp_le (l.drop t) hdn
      simp only [List.length_drop] at hsl
      obtain ⟨k, hk⟩ : ∃ k, k = stp (l.drop t) := ⟨_, rfl⟩
      have HS := hid (step_eq ((⟨l.toArray⟩ : ByteArray).extract t l.length) (l.drop t) k wr (ext_drop l t) hk hdn (by simp; omega) (HT.out wr HB.out))
      rw [← hk] at hsp hsl HE
      generalize l[t] = d at *
      clear hgd hdn hk
      by_cases c1 : d = c
      · have c1' : ((d.toNat : Int) != (c.toNat : Int)) = false := by rw [c1]; simp
        have HV := hid (show fdp c l = t by rw [HE.out, if_neg (fun h => h c1)])
        go_wp2
        go_ret
        exact ⟨by rw [HV.out]; rfl, HB.out⟩
      · have c1' : ((d.toNat : Int) != (c.toNat : Int)) = true := bne_iff_ne.2 (fun e => c1 (by
          have h5 : d.toNat = c.toNat := by omega
          exact UInt8.toNat_inj.1 h5))
        have HV := hid (show fdF c l l.length (t + k) = fdp c l by rw [HE.out, if_pos c1])
        go_wp2_with fail
        refine HS.out.mono ?_
        rintro e w1 ⟨rfl, b1⟩
        have HB1 := hid (HB.out.trans (b1.mono HB.out.size))
        clear b1 HS
        go_wp2
        go_roundw
        case rel => exact ⟨t + k, l.length, by go_num, by omega, ⟨by omega, HV.out⟩, HB1⟩
        case measure => simp [intOf]; omega
    · have tl : ¬ (t : Int) < (l.length : Int) := by omega
      have HV := hid (show fdp c l = t by
        rw [← HF.out.2, fdF_more c l f (l.length + 1) t HF.out.1 (by omega)]
        show (if t < l.length ∧ l.getD t 0 ≠ c then _ else t) = _
        rw [if_neg (fun h => hlt h.1)])
      go_wp2
      go_ret
      exact ⟨by rw [HV.out]; rfl, HB.out⟩
end Go.Proofs.YtohhokjlgihbgaaGreatDoor
