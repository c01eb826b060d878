/- Whether a text is a name: the contracts of Name (package props, package kerfref04). -/
import Derived.Lib.DecodeN
import Derived.Lib.MapLaws
import Derived.Deep.AppendLies
import Derived.RangeFuncRecord
import Derived.Laws.RangeAny
import Derived.Laws.RangeString
import Derived.Test.YtohhokjlgihbgaaGreatDoorGa
import Derived.Test.YtohhokjlgihbgaaGreatDoorGe
import Derived.Test.YtohhokjlgihbgaaGreatDoorGg
import Derived.Test.YtohhokjlgihbgaaGreatDoorGh
import Derived.Test.YtohhokjlgihbgaaGreatDoorGb
namespace Go.Proofs.YtohhokjlgihbgaaGreatDoor
open Go.RowKit

theorem get_list (l : List UInt8) (k : Nat) : (⟨l.toArray⟩ : ByteArray).get! k = l.getD k 0 := by
  show l.toArray.getD k 0 = _
  simp [List.getD]
theorem dcd_lo (l : List UInt8) (t : Nat) (b : UInt8) (h : l[t]? = some b) (hb : b.toNat < 128) : Utf8.decode ⟨l.toArray⟩ t = (b.toNat, 1) := by
  rw [Lib.decode_at, get_list, show l.getD t 0 = b by simp [List.getD, h]]
  unfold Lib.decodeN
  rw [if_pos hb]
theorem dcd_hi (l : List UInt8) (t : Nat) (b : UInt8) (h : l[t]? = some b) (hb : 128 ≤ b.toNat) : 128 ≤ (Utf8.decode ⟨l.toArray⟩ t).1 := by
  rw [Lib.decode_at, get_list, show l.getD t 0 = b by simp [List.getD, h]]
  unfold Lib.decodeN
  rw [if_neg (by omega)]
  repeat' split
  all_goals (simp only []; omega)
theorem run_next_at {P : Program} (w : World) (it : Nat) (s : ByteArray) (pos : Nat) (ty : TypeId) (hit : w.heap[it]? = some (.stringIter s pos)) (h : pos < s.size) :
    (Instr.next (.pointer (some ⟨it, 0, none⟩)) true ty).run P w = .ok (.tuple #[.bool true, .int .i64 pos, .int .i32 (Utf8.decode s pos).1]) (w.putObj it (.stringIter s (pos + (Utf8.decode s pos).2))) := by
  simp [Instr.next, getObj, setObj, Sem.run_bind, Sem.run, hit, Result.andThen, h, goInt, World.putObj]
theorem run_next_stop {P : Program} (w : World) (it : Nat) (s : ByteArray) (pos : Nat) (ty : TypeId) (hit : w.heap[it]? = some (.stringIter s pos)) (h : ¬ pos < s.size) :
    (Instr.next (.pointer (some ⟨it, 0, none⟩)) true ty).run P w = .ok (.tuple #[.bool false]) w := by
  simp [Instr.next, getObj, Sem.run, hit, h]

/-- A letter; a byte of a name. -/
def ltr (b : Nat) : Bool := decide (65 ≤ b ∧ b ≤ 90) || decide (97 ≤ b ∧ b ≤ 122)
def nmb (b : Nat) : Bool := ltr b || decide (48 ≤ b ∧ b ≤ 57) || decide (b = 95)
/-- May a byte stand at a place of a name? -/
def nat' (i b : Nat) : Bool := ltr b || (decide (0 < i) && (decide (48 ≤ b ∧ b ≤ 57) || decide (b = 95)))
/-- A name. -/
def nam (l : List UInt8) : Bool := decide (1 ≤ l.length) && decide (l.length ≤ 32) && (List.range l.length).all fun i => nat' i (l.getD i 0).toNat
theorem nam_no (l : List UInt8) (i : Nat) (b : UInt8) (h : l[i]? = some b) (hb : nat' i b.toNat = false) : nam l = false := by
  have hi := (List.getElem?_eq_some_iff.1 h).1
  unfold nam
  rw [Bool.and_eq_false_iff]
  right
  rw [List.all_eq_false]
  exact ⟨i, List.mem_range.2 hi, by simp [List.getD, h, hb]⟩
theorem nam_yes (l : List UInt8) (h0 : 1 ≤ l.length) (h1 : l.length ≤ 32) (h : ∀ i b, l[i]? = some b → nat' i b.toNat = true) : nam l = true := by
  unfold nam
  rw [decide_eq_true h0, decide_eq_true h1]
  simp only [Bool.true_and, List.all_eq_true, List.mem_range]
  intro i hi
  exact h i _ (by simp [List.getD, hi])
theorem nam_len (l : List UInt8) (h : l.length = 0 ∨ 32 < l.length) : nam l = false := by
  unfold nam
  rcases h with h | h
  · rw [decide_eq_false (show ¬ 1 ≤ l.length by omega)]; rfl
  · rw [decide_eq_false (show ¬ l.length ≤ 32 by omega)]; simp

theorem below_put {B it : Nat} {w w' : World} (h : Below B w w') (hit : B ≤ it) (o : Obj) : Below B w (w'.putObj it o) := h.trans ⟨rfl, rfl, rfl, by simp [World.putObj], fun i hi => World.putObj_heap_other (by omega)⟩
theorem name_rune (l : List UInt8) (t : Nat) (b : UInt8) (h : l[t]? = some b) : (b.toNat < 128 ∧ Utf8.decode ⟨l.toArray⟩ t = (b.toNat, 1)) ∨ (128 ≤ b.toNat ∧ 128 ≤ (Utf8.decode ⟨l.toArray⟩ t).1) := by
  rcases Nat.lt_or_ge b.toNat 128 with hb | hb
  · exact .inl ⟨hb, dcd_lo l t b h hb⟩
  · exact .inr ⟨hb, dcd_hi l t b h hb⟩
theorem nat_yes (i b : Nat) (h : (65 ≤ b ∧ b ≤ 90) ∨ (97 ≤ b ∧ b ≤ 122) ∨ (0 < i ∧ 48 ≤ b ∧ b ≤ 57) ∨ (0 < i ∧ b = 95)) : nat' i b = true := by
  unfold nat' ltr
  rcases h with h | h | h | h
  · rw [decide_eq_true h]; rfl
  · rw [decide_eq_true h]; simp
  · rw [decide_eq_true h.1, decide_eq_true h.2]; simp
  · rw [decide_eq_true h.1, decide_eq_true h.2]; simp
theorem nat_nope (i b : Nat) (h : ¬ ((65 ≤ b ∧ b ≤ 90) ∨ (97 ≤ b ∧ b ≤ 122) ∨ (0 < i ∧ 48 ≤ b ∧ b ≤ 57) ∨ (0 < i ∧ b = 95))) : nat' i b = false := by
  unfold nat' ltr
  rw [decide_eq_false (show ¬ (65 ≤ b ∧ b ≤ 90) by omega), decide_eq_false (show ¬ (97 ≤ b ∧ b ≤ 122) by omega)]
  by_cases h0 : 0 < i
  · rw [decide_eq_false (show ¬ (48 ≤ b ∧ b ≤ 57) by omega), decide_eq_false (show ¬ b = 95 by omega)]; simp
  · rw [decide_eq_false h0]; rfl
theorem nat_hi (i b : Nat) (h : 122 < b) : nat' i b = false := by
  unfold nat' ltr
  simp; omega

set_option maxHeartbeats 4000000 in
set_option maxRecDepth 100000 in
theorem name_any (l : List UInt8) (w : World) :
    Calls Tryz.prog 30 #[.string ⟨l.toArray⟩] w fun e w' => e = .returned (.bool (nam l)) ∧ Below w.heap.size w w' := by
  have hsz : (⟨l.toArray⟩ : ByteArray).size = l.length := by show l.toArray.size = _; simp
  by_cases h0 : l.length = 0
  · have HV := hid (nam_len l (.inl h0))
    have hl0 : l = [] := List.length_eq_zero_iff.1 h0
    subst hl0
    go_enter Tryz.func30, Tryz.ntmps30
    go_wp2
    go_ret
    exact ⟨by rw [HV.out]; rfl, Below.refl _ _⟩
  by_cases h32 : 32 < l.length
  · have HV := hid (nam_len l (.inr h32))
    have hz : ((l.length : Int) == 0) = false := beq_eq_false_iff_ne.2 (by omega)
    have hz2 : (32 : Int) < (l.length : Int) := by omega
    have hne : ¬ l = [] := fun e => h0 (by rw [e]; rfl)
    go_enter Tryz.func30, Tryz.ntmps30
    go_wp2
    go_ret
    exact ⟨by rw [HV.out]; rfl, Below.refl _ _⟩
  have hz : ((l.length : Int) == 0) = false := beq_eq_false_iff_ne.2 (by omega)
  have hz2 : ¬ (32 : Int) < (l.length : Int) := by omega
  have hz3 : (l.length : Int) ≤ 32 := by omega
  have hne : ¬ l = [] := fun e => h0 (by rw [e]; rfl)
  have HSZ := hid hsz
  have HB0 := hid ((Below.refl w.heap.size w).alloc (Nat.le_refl _) (.stringIter ⟨l.toArray⟩ 0))
  have HI0 := hid (World.iter_heap w ⟨l.toArray⟩ 0)
  obtain ⟨n, hn⟩ : ∃ n, n = l.length := ⟨_, rfl⟩
  have HN := hid hn
  rw [← hn] at h0 h32
  clear hsz hn
  go_enter Tryz.func30, Tryz.ntmps30
  go_wp2
  go_loopw [3] (fun x wr => ∃ (t : Nat) (v : Value), x = v ∧ t ≤ n ∧ Hid (∀ i b, i < t → l[i]? = some b → nat' i b.toNat = true) ∧ Hid (wr.heap[w.heap.size]? = some (.stringIter ⟨l.toArray⟩ t)) ∧ Hid (Below w.heap.size w wr)) (fun _ wr => n - wr.iterPos w.heap.size)
  case atStart => exact ⟨0, _, rfl, by omega, fun i b hi => by omega, HI0, HB0⟩
  case round =>
    obtain ⟨t, v, rfl, ht, HK, HI, HB⟩ := hrel
    have hmes : n - wr.iterPos w.heap.size = n - t := by unfold World.iterPos; rw [HI.out]
    have HM := hid hmes
    clear hmes
    by_cases hlt : t < n
    · have htl : t < l.length := by have h5 := HN.out; omega
      have hnx := run_next_at (P := Tryz.prog) wr w.heap.size ⟨l.toArray⟩ t 0 HI.out (by rw [HSZ.out]; exact htl)
      obtain ⟨b, hb⟩ : ∃ b, l[t]? = some b := ⟨l[t], List.getElem?_eq_getElem htl⟩
      have hr := name_rune l t b hb
      obtain ⟨r, hre⟩ : ∃ r, r = (Utf8.decode ⟨l.toArray⟩ t).1 := ⟨_, rfl⟩
      obtain ⟨m, hme⟩ : ∃ m, m = (Utf8.decode ⟨l.toArray⟩ t).2 := ⟨_, rfl⟩
      rw [← hre, ← hme] at hnx
      have hr2 : (b.toNat = r ∧ m = 1 ∧ r < 128) ∨ (128 ≤ b.toNat ∧ 128 ≤ r) := by
        rcases hr with ⟨h5, h6⟩ | ⟨h5, h6⟩
        · rw [h6] at hre hme
          exact .inl ⟨hre.symm, hme, by rw [hre]; exact h5⟩
        · exact .inr ⟨h5, by rw [hre]; exact h6⟩
      have hin : w.heap.size < wr.heap.size := (Array.getElem?_eq_some_iff.1 HI.out).1
      obtain ⟨w1, hw1⟩ : ∃ w1, w1 = wr.putObj w.heap.size (.stringIter ⟨l.toArray⟩ (t + m)) := ⟨_, rfl⟩
      rw [← hw1] at hnx
      have HI1 := hid (show w1.heap[w.heap.size]? = some (.stringIter ⟨l.toArray⟩ (t + m)) by rw [hw1]; exact World.putObj_heap_same hin)
      have HB1 := hid (show Below w.heap.size w w1 by rw [hw1]; exact below_put HB.out (Nat.le_refl _) _)
      have HBB := hid hb
      have HR2 := hid hr2
      clear hr hre hme hw1 hb htl hr2
      have hcl : (65 ≤ r ∧ r ≤ 90) ∨ (97 ≤ r ∧ r ≤ 122) ∨ (0 < t ∧ 48 ≤ r ∧ r ≤ 57) ∨ (0 < t ∧ r = 95) ∨ (t = 0 ∧ r < 65) ∨ (t = 0 ∧ 90 < r ∧ r < 97) ∨ (t = 0 ∧ 122 < r) ∨ (0 < t ∧ r < 48) ∨ (0 < t ∧ 57 < r ∧ r < 65) ∨ (0 < t ∧ 90 < r ∧ r < 97 ∧ r ≠ 95) ∨ (0 < t ∧ 122 < r) := by omega
      rcases hcl with hc | hc | hc | hc | hc | hc | hc | hc | hc | hc | hc
      · have k65 : (65 : Int) ≤ (r : Int) := by omega
        have n65 : 65 ≤ r := by omega
        have k90 : (r : Int) ≤ 90 := by omega
        have n90 : r ≤ 90 := by omega
        have HE := hid (show b.toNat = r ∧ m = 1 by have h5 := HR2.out; omega)
        have HT := hid (show ∀ i c, i < t + m → l[i]? = some c → nat' i c.toNat = true from fun i c hi hc' => by
          rcases Nat.lt_or_ge i t with h5 | h5
          · exact HK.out i c h5 hc'
          · have h6 : i = t := by have h7 := HE.out.2; omega
            subst h6
            rw [HBB.out] at hc'
            cases hc'
            have h7 := HE.out.1
            exact nat_yes _ _ (by omega))
        have hm1 : t + m ≤ n := by have h5 := HE.out.2; omega
        have HM1 := hid HE.out.2
        clear hc
        go_wp2
        go_roundw
        case rel => exact ⟨t + m, _, rfl, hm1, HT, HI1, HB1⟩
        case measure =>
          rw [HM.out]
          unfold World.iterPos
          rw [HI1.out]
          have h5 := HM1.out
          simp only []
          omega
      · have k65 : (65 : Int) ≤ (r : Int) := by omega
        have n65 : 65 ≤ r := by omega
        have k90 : ¬ (r : Int) ≤ 90 := by omega
        have n90 : ¬ r ≤ 90 := by omega
        have k97 : (97 : Int) ≤ (r : Int) := by omega
        have n97 : 97 ≤ r := by omega
        have k122 : (r : Int) ≤ 122 := by omega
        have n122 : r ≤ 122 := by omega
        have HE := hid (show b.toNat = r ∧ m = 1 by have h5 := HR2.out; omega)
        have HT := hid (show ∀ i c, i < t + m → l[i]? = some c → nat' i c.toNat = true from fun i c hi hc' => by
          rcases Nat.lt_or_ge i t with h5 | h5
          · exact HK.out i c h5 hc'
          · have h6 : i = t := by have h7 := HE.out.2; omega
            subst h6
            rw [HBB.out] at hc'
            cases hc'
            have h7 := HE.out.1
            exact nat_yes _ _ (by omega))
        have hm1 : t + m ≤ n := by have h5 := HE.out.2; omega
        have HM1 := hid HE.out.2
        clear hc
        go_wp2
        go_roundw
        case rel => exact ⟨t + m, _, rfl, hm1, HT, HI1, HB1⟩
        case measure =>
          rw [HM.out]
          unfold World.iterPos
          rw [HI1.out]
          have h5 := HM1.out
          simp only []
          omega
      · have k65 : ¬ (65 : Int) ≤ (r : Int) := by omega
        have n65 : ¬ 65 ≤ r := by omega
        have k97 : ¬ (97 : Int) ≤ (r : Int) := by omega
        have n97 : ¬ 97 ≤ r := by omega
        have kt : (0 : Int) < (t : Int) := by omega
        have nt : 0 < t := by omega
        have k48 : (48 : Int) ≤ (r : Int) := by omega
        have n48 : 48 ≤ r := by omega
        have k57 : (r : Int) ≤ 57 := by omega
        have n57 : r ≤ 57 := by omega
        have HE := hid (show b.toNat = r ∧ m = 1 by have h5 := HR2.out; omega)
        have HT := hid (show ∀ i c, i < t + m → l[i]? = some c → nat' i c.toNat = true from fun i c hi hc' => by
          rcases Nat.lt_or_ge i t with h5 | h5
          · exact HK.out i c h5 hc'
          · have h6 : i = t := by have h7 := HE.out.2; omega
            subst h6
            rw [HBB.out] at hc'
            cases hc'
            have h7 := HE.out.1
            exact nat_yes _ _ (by omega))
        have hm1 : t + m ≤ n := by have h5 := HE.out.2; omega
        have HM1 := hid HE.out.2
        clear hc
        go_wp2
        go_roundw
        case rel => exact ⟨t + m, _, rfl, hm1, HT, HI1, HB1⟩
        case measure =>
          rw [HM.out]
          unfold World.iterPos
          rw [HI1.out]
          have h5 := HM1.out
          simp only []
          omega
      · have k65 : (65 : Int) ≤ (r : Int) := by omega
        have n65 : 65 ≤ r := by omega
        have k90 : ¬ (r : Int) ≤ 90 := by omega
        have n90 : ¬ r ≤ 90 := by omega
        have k97 : ¬ (97 : Int) ≤ (r : Int) := by omega
        have n97 : ¬ 97 ≤ r := by omega
        have kt : (0 : Int) < (t : Int) := by omega
        have nt : 0 < t := by omega
        have k48 : (48 : Int) ≤ (r : Int) := by omega
        have n48 : 48 ≤ r := by omega
        have k57 : ¬ (r : Int) ≤ 57 := by omega
        have n57 : ¬ r ≤ 57 := by omega
        have k95 : ((r : Int) == 95) = true := by simp; omega
        have n95 : r = 95 := by omega
        have HE := hid (show b.toNat = r ∧ m = 1 by have h5 := HR2.out; omega)
        have HT := hid (show ∀ i c, i < t + m → l[i]? = some c → nat' i c.toNat = true from fun i c hi hc' => by
          rcases Nat.lt_or_ge i t with h5 | h5
          · exact HK.out i c h5 hc'
          · have h6 : i = t := by have h7 := HE.out.2; omega
            subst h6
            rw [HBB.out] at hc'
            cases hc'
            have h7 := HE.out.1
            exact nat_yes _ _ (by omega))
        have hm1 : t + m ≤ n := by have h5 := HE.out.2; omega
        have HM1 := hid HE.out.2
        clear hc
        go_wp2
        go_roundw
        case rel => exact ⟨t + m, _, rfl, hm1, HT, HI1, HB1⟩
        case measure =>
          rw [HM.out]
          unfold World.iterPos
          rw [HI1.out]
          have h5 := HM1.out
          simp only []
          omega
      · have k65 : ¬ (65 : Int) ≤ (r : Int) := by omega
        have n65 : ¬ 65 ≤ r := by omega
        have k97 : ¬ (97 : Int) ≤ (r : Int) := by omega
        have n97 : ¬ 97 ≤ r := by omega
        have kt : ¬ (0 : Int) < (t : Int) := by omega
        have ht0 : t = 0 := by omega
        subst ht0
        have HV := hid (show nam l = false from nam_no l _ b HBB.out (by
          rcases HR2.out with ⟨h5, _, _⟩ | ⟨h5, _⟩
          · rw [h5]; exact nat_nope _ _ (by omega)
          · exact nat_hi _ _ (by omega)))
        clear hc
        go_wp2
        go_ret
        exact ⟨by rw [HV.out]; rfl, HB1.out⟩
      · have k65 : (65 : Int) ≤ (r : Int) := by omega
        have n65 : 65 ≤ r := by omega
        have k90 : ¬ (r : Int) ≤ 90 := by omega
        have n90 : ¬ r ≤ 90 := by omega
        have k97 : ¬ (97 : Int) ≤ (r : Int) := by omega
        have n97 : ¬ 97 ≤ r := by omega
        have kt : ¬ (0 : Int) < (t : Int) := by omega
        have ht0 : t = 0 := by omega
        subst ht0
        have HV := hid (show nam l = false from nam_no l _ b HBB.out (by
          rcases HR2.out with ⟨h5, _, _⟩ | ⟨h5, _⟩
          · rw [h5]; exact nat_nope _ _ (by omega)
          · exact nat_hi _ _ (by omega)))
        clear hc
        go_wp2
        go_ret
        exact ⟨by rw [HV.out]; rfl, HB1.out⟩
      · have k65 : (65 : Int) ≤ (r : Int) := by omega
        have n65 : 65 ≤ r := by omega
        have k90 : ¬ (r : Int) ≤ 90 := by omega
        have n90 : ¬ r ≤ 90 := by omega
        have k97 : (97 : Int) ≤ (r : Int) := by omega
        have n97 : 97 ≤ r := by omega
        have k122 : ¬ (r : Int) ≤ 122 := by omega
        have n122 : ¬ r ≤ 122 := by omega
        have kt : ¬ (0 : Int) < (t : Int) := by omega
        have ht0 : t = 0 := by omega
        subst ht0
        have HV := hid (show nam l = false from nam_no l _ b HBB.out (by
          rcases HR2.out with ⟨h5, _, _⟩ | ⟨h5, _⟩
          · rw [h5]; exact nat_nope _ _ (by omega)
          · exact nat_hi _ _ (by omega)))
        clear hc
        go_wp2
        go_ret
        exact ⟨by rw [HV.out]; rfl, HB1.out⟩
      · have k65 : ¬ (65 : Int) ≤ (r : Int) := by omega
        have n65 : ¬ 65 ≤ r := by omega
        have k97 : ¬ (97 : Int) ≤ (r : Int) := by omega
        have n97 : ¬ 97 ≤ r := by omega
        have kt : (0 : Int) < (t : Int) := by omega
        have nt : 0 < t := by omega
        have k48 : ¬ (48 : Int) ≤ (r : Int) := by omega
        have n48 : ¬ 48 ≤ r := by omega
        have k95 : ((r : Int) == 95) = false := beq_eq_false_iff_ne.2 (by omega)
        have n95 : ¬ r = 95 := by omega
        have HV := hid (show nam l = false from nam_no l _ b HBB.out (by
          rcases HR2.out with ⟨h5, _, _⟩ | ⟨h5, _⟩
          · rw [h5]; exact nat_nope _ _ (by omega)
          · exact nat_hi _ _ (by omega)))
        clear hc
        go_wp2
        go_ret
        exact ⟨by rw [HV.out]; rfl, HB1.out⟩
      · have k65 : ¬ (65 : Int) ≤ (r : Int) := by omega
        have n65 : ¬ 65 ≤ r := by omega
        have k97 : ¬ (97 : Int) ≤ (r : Int) := by omega
        have n97 : ¬ 97 ≤ r := by omega
        have kt : (0 : Int) < (t : Int) := by omega
        have nt : 0 < t := by omega
        have k48 : (48 : Int) ≤ (r : Int) := by omega
        have n48 : 48 ≤ r := by omega
        have k57 : ¬ (r : Int) ≤ 57 := by omega
        have n57 : ¬ r ≤ 57 := by omega
        have k95 : ((r : Int) == 95) = false := beq_eq_false_iff_ne.2 (by omega)
        have n95 : ¬ r = 95 := by omega
        have HV := hid (show nam l = false from nam_no l _ b HBB.out (by
          rcases HR2.out with ⟨h5, _, _⟩ | ⟨h5, _⟩
          · rw [h5]; exact nat_nope _ _ (by omega)
          · exact nat_hi _ _ (by omega)))
        clear hc
        go_wp2
        go_ret
        exact ⟨by rw [HV.out]; rfl, HB1.out⟩
      · have k65 : (65 : Int) ≤ (r : Int) := by omega
        have n65 : 65 ≤ r := by omega
        have k90 : ¬ (r : Int) ≤ 90 := by omega
        have n90 : ¬ r ≤ 90 := by omega
        have k97 : ¬ (97 : Int) ≤ (r : Int) := by omega
        have n97 : ¬ 97 ≤ r := by omega
        have kt : (0 : Int) < (t : Int) := by omega
        have nt : 0 < t := by omega
        have k48 : (48 : Int) ≤ (r : Int) := by omega
        have n48 : 48 ≤ r := by omega
        have k57 : ¬ (r : Int) ≤ 57 := by omega
        have n57 : ¬ r ≤ 57 := by omega
        have k95 : ((r : Int) == 95) = false := beq_eq_false_iff_ne.2 (by omega)
        have n95 : ¬ r = 95 := by omega
        have HV := hid (show nam l = false from nam_no l _ b HBB.out (by
          rcases HR2.out with ⟨h5, _, _⟩ | ⟨h5, _⟩
          · rw [h5]; exact nat_nope _ _ (by omega)
          · exact nat_hi _ _ (by omega)))
        clear hc
        go_wp2
        go_ret
        exact ⟨by rw [HV.out]; rfl, HB1.out⟩
      · have k65 : (65 : Int) ≤ (r : Int) := by omega
        have n65 : 65 ≤ r := by omega
        have k90 : ¬ (r : Int) ≤ 90 := by omega
        have n90 : ¬ r ≤ 90 := by omega
        have k97 : (97 : Int) ≤ (r : Int) := by omega
        have n97 : 97 ≤ r := by omega
        have k122 : ¬ (r : Int) ≤ 122 := by omega
        have n122 : ¬ r ≤ 122 := by omega
        have kt : (0 : Int) < (t : Int) := by omega
        have nt : 0 < t := by omega
        have k48 : (48 : Int) ≤ (r : Int) := by omega
        have n48 : 48 ≤ r := by omega
        have k57 : ¬ (r : Int) ≤ 57 := by omega
        have n57 : ¬ r ≤ 57 := by omega
        have k95 : ((r : Int) == 95) = false := beq_eq_false_iff_ne.2 (by omega)
        have n95 : ¬ r = 95 := by omega
        have HV := hid (show nam l = false from nam_no l _ b HBB.out (by
          rcases HR2.out with ⟨h5, _, _⟩ | ⟨h5, _⟩
          · rw [h5]; exact nat_nope _ _ (by omega)
          · exact nat_hi _ _ (by omega)))
        clear hc
        go_wp2
        go_ret
        exact ⟨by rw [HV.out]; rfl, HB1.out⟩
    · have hnx := run_next_stop (P := Tryz.prog) wr w.heap.size ⟨l.toArray⟩ t 0 HI.out (by rw [HSZ.out]; have h5 := HN.out; omega)
      have HV := hid (show nam l = true from nam_yes l (by have h5 := HN.out; omega) (by have h5 := HN.out; omega) (fun i b hb => HK.out i b (by have h5 := (List.getElem?_eq_some_iff.1 hb).1; have h6 := HN.out; omega) hb))
      go_wp2
      go_ret
      exact ⟨by rw [HV.out]; rfl, HB.out⟩
end Go.Proofs.YtohhokjlgihbgaaGreatDoor
/- What read (package props) does to the names and the ranges that were said. -/
namespace Go.Proofs.YtohhokjlgihbgaaGreatDoor

def tls (l : List UInt8) : List UInt8 := Lib.trimS l [32, 9]
/-- A line without its remark, and without blanks at both ends. -/
def rlin (l : List UInt8) : List UInt8 := tls (l.take (fdp 35 l))
/-- What stands behind the first ; of it. -/
def rnm (l : List UInt8) : List UInt8 := tls (l.drop (fdp 59 l + 1))
/-- What stands ahead of it, tabs taken for blanks. -/
def rsp (l : List UInt8) : List UInt8 := (l.take (fdp 59 l)).map tbl
def rgT (c : Nat) (g : Rg) : Tr := (g.1.toNat, g.2.toNat, c)
/-- Ranges said one behind the other. -/
def sayL : List Tr → List Rg → Nat → Option (List Tr)
  | S, [], _ => some S
  | S, g :: G, c => (sayR S (rgT c g)).bind fun S' => sayL S' G c
/-- The error of a line, and the names and ranges behind it. -/
def rdS (U : List (List UInt8)) (S : List Tr) (l : List UInt8) : Int × List (List UInt8) × List Tr :=
  if rlin l = [] then (0, U, S)
  else if fdp 59 (rlin l) = (rlin l).length then (42, U, S)
  else if nam (rnm (rlin l)) = false ∨ rnm (rlin l) = oth then (40, U, S)
  else if (par (rsp (rlin l))).2.1 ≠ 0 then ((par (rsp (rlin l))).2.1, U, S)
  else if (adn (rnm (rlin l)) U).2 = 64 then (6, U, S)
  else match sayL S (par (rsp (rlin l))).1 (adn (rnm (rlin l)) U).2 with
    | none => (41, U, S)
    | some S' => (0, (adn (rnm (rlin l)) U).1, S')

theorem dw_len (p : UInt8 → Bool) : ∀ l : List UInt8, (l.dropWhile p).length ≤ l.length
  | [] => by simp
  | b :: l => by
    have ih := dw_len p l
    rw [List.dropWhile_cons]
    split
    · simp; omega
    · simp
theorem tls_len (l : List UInt8) : (tls l).length ≤ l.length := by
  unfold tls Lib.trimS Lib.trimLeftS Lib.trimRightS
  refine Nat.le_trans (dw_len _ _) ?_
  rw [List.length_reverse]
  refine Nat.le_trans (dw_len _ _) ?_
  simp
theorem rlin_len (l : List UInt8) : (rlin l).length ≤ l.length := Nat.le_trans (tls_len _) (by simp; omega)
theorem rnm_len (l : List UInt8) : (rnm l).length ≤ l.length := Nat.le_trans (tls_len _) (by simp)
theorem rsp_len (l : List UInt8) : (rsp l).length ≤ l.length := by unfold rsp; simp; omega
theorem nfF_len : ∀ (G : List Rg) (b : Int), nfF b G → b ≤ 1114112 → (G.length : Int) + b ≤ 1114112
  | [], b, _, hb => by simpa using hb
  | g :: G, b, h, hb => by
    obtain ⟨h1, h2, h3, h4⟩ := h
    have h3' : g.2 ≤ 1114111 := h3
    by_cases h5 : g.2 + 2 ≤ 1114112
    · have ih := nfF_len G (g.2 + 2) h4 h5
      rw [List.length_cons]; omega
    · cases G with
      | nil => rw [List.length_cons, List.length_nil]; omega
      | cons x G =>
        obtain ⟨k1, k2, k3, _⟩ := h4
        have k3' : x.2 ≤ 1114111 := k3
        omega
theorem parF_nf : ∀ (f : Nat) (l : List UInt8) (p : Nat) (acc : List Rg), nf (parF f l p acc).1
  | 0, l, p, acc => by unfold parF; exact trivial
  | f + 1, l, p, acc => by
    unfold parF
    repeat' split
    all_goals first
      | exact trivial
      | exact nrm_nf _
      | exact parF_nf f l _ _
theorem par_nf (l : List UInt8) : nf (par l).1 := parF_nf _ _ _ _
theorem nf_bounds (G : List Rg) (h : nf G) (g : Rg) (hg : g ∈ G) : 0 ≤ g.1 ∧ g.1 ≤ g.2 ∧ g.2 ≤ 1114111 := by
  obtain ⟨j, hj⟩ := List.getElem?_of_mem hg
  have h5 := nf_at h hj
  exact ⟨h5.1, h5.2.1, h5.2.2⟩
end Go.Proofs.YtohhokjlgihbgaaGreatDoor
/- The lines of a text. -/
namespace Go.Proofs.YtohhokjlgihbgaaGreatDoor

/-- The lines of a text: what stands between the bytes 10. -/
def lns : List UInt8 → List (List UInt8)
  | [] => [[]]
  | b :: r => if b = 10 then [] :: lns r else (b :: (lns r).headD []) :: (lns r).tail
theorem lns_cons (b : UInt8) (r : List UInt8) : lns (b :: r) = if b = 10 then [] :: lns r else (b :: (lns r).headD []) :: (lns r).tail := by rw [lns]
theorem lns_no : ∀ (p : List UInt8), (10 : UInt8) ∉ p → lns p = [p]
  | [], _ => rfl
  | b :: r, h => by
    have h1 : ¬ b = 10 := fun e => h (by simp [e])
    have ih := lns_no r (fun e => h (by simp [e]))
    rw [lns_cons, if_neg h1, ih]
    rfl
theorem lns_at : ∀ (p r : List UInt8), (10 : UInt8) ∉ p → lns (p ++ 10 :: r) = p :: lns r
  | [], r, _ => by
    show lns (10 :: r) = _
    rw [lns_cons, if_pos rfl]
  | b :: p, r, h => by
    have h1 : ¬ b = 10 := fun e => h (by simp [e])
    have ih := lns_at p r (fun e => h (by simp [e]))
    show lns (b :: (p ++ 10 :: r)) = _
    rw [lns_cons, if_neg h1, ih]
    rfl
theorem index_none (c : UInt8) : ∀ (l : List UInt8), c ∉ l → Lib.indexByte l c = -1
  | [], _ => by simp [Lib.indexByte]
  | p :: P, h => by
    have h1 : ¬ p = c := fun e => h (by simp [e])
    have ih := index_none c P (fun hm => h (by simp [hm]))
    unfold Lib.indexByte
    rw [ih]
    simp [h1]
theorem split_at (c : UInt8) : ∀ (l : List UInt8), c ∈ l → ∃ P R, l = P ++ c :: R ∧ c ∉ P
  | [], h => by simp at h
  | b :: l, h => by
    by_cases e : b = c
    · exact ⟨[], l, by rw [e]; rfl, by simp⟩
    · obtain ⟨P, R, h1, h2⟩ := split_at c l (by rcases List.mem_cons.1 h with h | h; exact absurd h.symm e; exact h)
      exact ⟨b :: P, R, by rw [h1]; rfl, fun hm => by rcases List.mem_cons.1 hm with h | h; exact e h.symm; exact h2 h⟩
theorem idx_cases (l : List UInt8) : ((10 : UInt8) ∉ l ∧ Lib.indexByte l 10 = -1) ∨ ∃ P R, l = P ++ 10 :: R ∧ (10 : UInt8) ∉ P ∧ Lib.indexByte l 10 = (P.length : Int) := by
  by_cases h : (10 : UInt8) ∈ l
  · obtain ⟨P, R, h1, h2⟩ := split_at 10 l h
    exact .inr ⟨P, R, h1, h2, by rw [h1]; exact index_at 10 P R h2⟩
  · exact .inl ⟨h, index_none 10 l h⟩
theorem lns_len : ∀ l : List UInt8, (lns l).length ≤ l.length + 1
  | [] => by simp [lns]
  | b :: r => by
    have ih := lns_len r
    rw [lns_cons]
    split
    · simp; omega
    · simp; omega
theorem lns_mem : ∀ (l x : List UInt8), x ∈ lns l → x.length ≤ l.length
  | [], x, h => by simp [lns] at h; simp [h]
  | b :: r, x, h => by
    rw [lns_cons] at h
    split at h
    · rcases List.mem_cons.1 h with h | h
      · simp [h]
      · have := lns_mem r x h
        simp; omega
    · rcases List.mem_cons.1 h with h | h
      · subst h
        have hh : (lns r).headD [] = [] ∨ (lns r).headD [] ∈ lns r := by
          cases hr : lns r with
          | nil => exact .inl rfl
          | cons y ys => exact .inr (by simp)
        rcases hh with hh | hh
        · rw [hh]; simp
        · have h5 := lns_mem r _ hh
          rw [List.length_cons, List.length_cons]; omega
      · have := lns_mem r x (List.mem_of_mem_tail h)
        simp; omega
end Go.Proofs.YtohhokjlgihbgaaGreatDoor
/- What New (package props) makes of a text. -/
namespace Go.Proofs.YtohhokjlgihbgaaGreatDoor

/-- Lines read one behind the other: the error and its line, the names and the ranges. -/
def nwF : Nat → List (List UInt8) → List Tr → List (List UInt8) → (Int × Nat) × List (List UInt8) × List Tr
  | _, U, S, [] => ((0, 0), U, S)
  | i, U, S, l :: L => if (rdS U S l).1 = 0 then nwF (i + 1) (rdS U S l).2.1 (rdS U S l).2.2 L else (((rdS U S l).1, i + 1), U, S)
def nw (t : List UInt8) : (Int × Nat) × List (List UInt8) × List Tr := if 65536 < t.length then ((1, 0), [oth], []) else nwF 0 [oth] [] (lns t)
theorem nwF_at (i : Nat) (U : List (List UInt8)) (S : List Tr) (L : List (List UInt8)) (k : Nat) (x : List UInt8) (hx : L[k]? = some x) :
    nwF i U S (L.drop k) = if (rdS U S x).1 = 0 then nwF (i + 1) (rdS U S x).2.1 (rdS U S x).2.2 (L.drop (k + 1)) else (((rdS U S x).1, i + 1), U, S) := by
  obtain ⟨hk, rfl⟩ := List.getElem?_eq_some_iff.1 hx
  rw [List.drop_eq_getElem_cons hk]
  rfl
end Go.Proofs.YtohhokjlgihbgaaGreatDoor
/- The contracts of Ranged and of Set (package props). -/
namespace Go.Proofs.YtohhokjlgihbgaaGreatDoor
open Go.RowKit

/-- Ranges that have a class above 0. -/
def rgd (A : List Tr) : List Tr := A.filter fun g => decide (0 < g.2.2)
theorem rgd_snoc (A : List Tr) (g : Tr) : rgd (A ++ [g]) = rgd A ++ if 0 < g.2.2 then [g] else [] := by
  unfold rgd
  rw [List.filter_append]
  by_cases h : 0 < g.2.2
  · simp [h]
  · simp [h]
theorem rgd_len (A : List Tr) : (rgd A).length ≤ A.length := List.length_filter_le _ _
set_option maxHeartbeats 2000000 in
set_option maxRecDepth 100000 in
theorem ranged_any (B P K : Nat) (U : List (List UInt8)) (nv : Value) (po : Option Addr) (pc : Nat) (A : List Tr) (w : World) (h : DbAt B P K U nv (.slice po A.length pc) w) (ha : RdK w po (A.map rkT)) (hl : A.length ≤ 10000000) :
    Calls Tryz.prog 33 #[.pointer (some ⟨P, 0, none⟩)] w fun e w' => ∃ v', e = .returned v' ∧ w'.ownsRow w.heap.size 86 3 v' (rgd A).length (rks (rgd A)) ∧ Below w.heap.size w w' := by
  obtain ⟨i0, hi86, hz0, hz1, hz2⟩ := info_parts Tryz.info86
  have c2 := h.c2
  have HA := hid ha
  obtain ⟨n, hn⟩ : ∃ n, n = A.length := ⟨_, rfl⟩
  rw [← hn] at c2 hl
  have HN := hid hn
  obtain ⟨N, hNE⟩ : ∃ N, N = w.heap.size := ⟨_, rfl⟩
  have HNE := hid hNE
  have HAB := hid (show ∀ W, Below N w W → RdK W po (A.map rkT) from fun W hW => ha.below (by rw [← hNE]; exact hW))
  have HB0 := hid (show Below N w w by rw [hNE]; exact Below.refl _ _)
  rw [← hNE]
  clear h ha hn hNE
  go_enter Tryz.func33, Tryz.ntmps33
  go_wp2
  go_loopw [13, 3] (fun x y wr => ∃ (k m : Nat) (vo : Option Addr) (vc : Nat), x = .int .i64 (k : Int) ∧ y = .slice vo m vc ∧ k ≤ n ∧ Hid (m = (rgd (A.take k)).length) ∧ Hid (wr.ownsRow N 86 3 (.slice vo m vc) m (rks (rgd (A.take k)))) ∧ Hid (Below N w wr)) (fun x _ _ => n - (intOf x).toNat)
  case atStart => exact ⟨0, 0, none, 0, rfl, rfl, by omega, rfl, World.ownsRow_nil w N 86 3, HB0⟩
  case round =>
    obtain ⟨k, m, vo, vc, rfl, rfl, hk, HM, HO, HB⟩ := hrel
    have hwN : N ≤ wr.heap.size := by have h5 := HNE.out; have h6 := HB.out.size; omega
    by_cases hlt : k < n
    · have hkA : k < A.length := by have h5 := HN.out; omega
      obtain ⟨a, rfl, ha, a0, a1, a2⟩ := HAB.out wr HB.out k (rkT A[k]) (by rw [List.getElem?_map, List.getElem?_eq_getElem hkA]; rfl)
      have HTK := hid (show rgd (A.take (k + 1)) = rgd (A.take k) ++ if 0 < A[k].2.2 then [A[k]] else [] by rw [List.take_succ_eq_append_getElem hkA, rgd_snoc])
      have hml : m ≤ 10000000 := by have h5 := rgd_len (A.take k); rw [List.length_take] at h5; have h6 := HM.out; omega
      unfold rkT at a0 a1 a2
      obtain ⟨g, hg⟩ : ∃ g, g = A[k] := ⟨_, rfl⟩
      rw [← hg] at a0 a1 a2 HTK
      obtain ⟨lo, hh, cl⟩ := g
      dsimp only at a0 a1 a2 HTK
      have i3 : (k : Int) < (n : Int) := by omega
      have i0' : (0 : Int) ≤ (k : Int) := by omega
      have HBA := hid (HB.out.alloc hwN (.cells #[.int .i32 (lo : Int), .int .i32 (hh : Int), .int .i64 (cl : Int)] 86))
      have HOA := hid (HO.out.alloc (.cells #[.int .i32 (lo : Int), .int .i32 (hh : Int), .int .i64 (cl : Int)] 86))
      clear hg hkA
      by_cases hc : 0 < cl
      · have hc' : (0 : Int) < (cl : Int) := by omega
        rw [if_pos hc] at HTK
        have HNW := hid (show ∀ j u, (rkc ((lo : Int), (hh : Int), (cl : Int)))[j]? = some u → ((wr.alloc (.cells #[.int .i32 (lo : Int), .int .i32 (hh : Int), .int .i64 (cl : Int)] 86)).alloc (.cells #[.int .i32 (lo : Int), .int .i32 (hh : Int), .int .i64 (cl : Int)] 86)).cell? ((⟨wr.heap.size + 1, 0, none⟩ : Addr).add j) = some u by
          have h5 := news_k (wr.alloc (.cells #[.int .i32 (lo : Int), .int .i32 (hh : Int), .int .i64 (cl : Int)] 86)) ((lo : Int), (hh : Int), (cl : Int)) 86
          rw [World.size_alloc] at h5
          exact h5)
        go_wp2_with (at_builtin; refine wpList_append_lies _ rfl _ _ 64 rfl N 86 i0 (.agg #[.int .i32 0, .int .i32 0, .int .i64 0]) 3 16 Tryz.underlying64 hi86 hz0 hz1 hz2 rfl (by decide) _ m (rks (rgd (A.take k))) rfl (HOA.out.alloc _) ⟨wr.heap.size + 1, 0, none⟩ 1 1 (rkc ((lo : Int), (hh : Int), (cl : Int))) rfl rfl HNW.out (rkc_one _) (by decide) (by unfold maxLen; omega) (by omega) (by simp; omega) (wr.heap.size + 1 + 1) (by simp) ?_; intro q2 c2' w2 o2 gr2 hl2 hlt2)
        have HB2 := hid ((HBA.out.alloc (by simp; omega) (.cells #[.int .i32 (lo : Int), .int .i32 (hh : Int), .int .i64 (cl : Int)] 86)).grown gr2 (by simp; omega) (fun k hk => (HO.out.lt k hk).1))
        have HO2 := hid (show w2.ownsRow N 86 3 (.slice (some ⟨q2, 0, none⟩) (m + 1) c2') (m + 1) (rks (rgd (A.take (k + 1)))) by rw [HTK.out, rks_snoc]; exact o2)
        have HM2 := hid (show m + 1 = (rgd (A.take (k + 1))).length by rw [HTK.out, List.length_append, ← HM.out]; rfl)
        clear o2 gr2 hl2 hlt2
        go_roundw
        case rel => exact ⟨k + 1, m + 1, some ⟨q2, 0, none⟩, c2', by go_num, rfl, by omega, HM2, HO2, HB2⟩
        case measure => simp [intOf]; omega
      · have hc' : ¬ (0 : Int) < (cl : Int) := by omega
        rw [if_neg hc, List.append_nil] at HTK
        rw [← HTK.out] at HM HOA
        go_wp2
        go_roundw
        case rel => exact ⟨k + 1, m, vo, vc, by go_num, rfl, by omega, HM, HOA, HBA⟩
        case measure => simp [intOf]; omega
    · have i3 : ¬ (k : Int) < (n : Int) := by omega
      have hkn : A.take k = A := List.take_of_length_le (by have h5 := HN.out; omega)
      rw [hkn] at HM HO
      go_wp2
      go_ret
      exact ⟨_, rfl, by rw [← HM.out]; exact HO.out, HB.out⟩
/-- The ranges of one class. -/
def stc (c : Int) (A : List Tr) : List Rg := (A.filter fun g => decide ((g.2.2 : Int) = c)).map fun g => ((g.1 : Int), (g.2.1 : Int))
theorem stc_snoc (c : Int) (A : List Tr) (g : Tr) : stc c (A ++ [g]) = stc c A ++ if (g.2.2 : Int) = c then [((g.1 : Int), (g.2.1 : Int))] else [] := by
  unfold stc
  rw [List.filter_append, List.map_append]
  by_cases h : (g.2.2 : Int) = c
  · simp [h]
  · simp [h]
theorem stc_len (c : Int) (A : List Tr) : (stc c A).length ≤ A.length := by
  unfold stc
  rw [List.length_map]
  exact List.length_filter_le _ _
set_option maxHeartbeats 2000000 in
set_option maxRecDepth 100000 in
theorem set_any (B P K : Nat) (U : List (List UInt8)) (nv : Value) (po : Option Addr) (pc : Nat) (A : List Tr) (c : Int) (w : World) (h : DbAt B P K U nv (.slice po A.length pc) w) (ha : RdK w po (A.map rkT)) (hl : A.length ≤ 10000000) :
    Calls Tryz.prog 20 #[.pointer (some ⟨P, 0, none⟩), .int .i64 c] w fun e w' => ∃ v', e = .returned v' ∧ w'.ownsRow w.heap.size 84 2 v' (stc c A).length (rgcs (stc c A)) ∧ Below w.heap.size w w' := by
  obtain ⟨i0, hi84, hz0, hz1, hz2⟩ := info_parts Tryz.info84
  have c2 := h.c2
  have HA := hid ha
  obtain ⟨n, hn⟩ : ∃ n, n = A.length := ⟨_, rfl⟩
  rw [← hn] at c2 hl
  have HN := hid hn
  obtain ⟨N, hNE⟩ : ∃ N, N = w.heap.size := ⟨_, rfl⟩
  have HNE := hid hNE
  have HAB := hid (show ∀ W, Below N w W → RdK W po (A.map rkT) from fun W hW => ha.below (by rw [← hNE]; exact hW))
  have HB0 := hid (show Below N w w by rw [hNE]; exact Below.refl _ _)
  rw [← hNE]
  clear h ha hn hNE
  go_enter Tryz.func20, Tryz.ntmps20
  go_wp2
  go_loopw [15, 5] (fun x y wr => ∃ (k m : Nat) (vo : Option Addr) (vc : Nat), x = .int .i64 (k : Int) ∧ y = .slice vo m vc ∧ k ≤ n ∧ Hid (m = (stc c (A.take k)).length) ∧ Hid (wr.ownsRow N 84 2 (.slice vo m vc) m (rgcs (stc c (A.take k)))) ∧ Hid (Below N w wr)) (fun x _ _ => n - (intOf x).toNat)
  case atStart => exact ⟨0, 0, none, 0, rfl, rfl, by omega, rfl, World.ownsRow_nil w N 84 2, HB0⟩
  case round =>
    obtain ⟨k, m, vo, vc, rfl, rfl, hk, HM, HO, HB⟩ := hrel
    have hwN : N ≤ wr.heap.size := by have h5 := HNE.out; have h6 := HB.out.size; omega
    by_cases hlt : k < n
    · have hkA : k < A.length := by have h5 := HN.out; omega
      obtain ⟨a, rfl, ha, a0, a1, a2⟩ := HAB.out wr HB.out k (rkT A[k]) (by rw [List.getElem?_map, List.getElem?_eq_getElem hkA]; rfl)
      have HTK := hid (show stc c (A.take (k + 1)) = stc c (A.take k) ++ if (A[k].2.2 : Int) = c then [((A[k].1 : Int), (A[k].2.1 : Int))] else [] by rw [List.take_succ_eq_append_getElem hkA, stc_snoc])
      have hml : m ≤ 10000000 := by have h5 := stc_len c (A.take k); rw [List.length_take] at h5; have h6 := HM.out; omega
      unfold rkT at a0 a1 a2
      obtain ⟨g, hg⟩ : ∃ g, g = A[k] := ⟨_, rfl⟩
      rw [← hg] at a0 a1 a2 HTK
      obtain ⟨lo, hh, cl⟩ := g
      dsimp only at a0 a1 a2 HTK
      have i3 : (k : Int) < (n : Int) := by omega
      have i0' : (0 : Int) ≤ (k : Int) := by omega
      have HBA := hid (HB.out.alloc hwN (.cells #[.int .i32 (lo : Int), .int .i32 (hh : Int), .int .i64 (cl : Int)] 86))
      have HOA := hid (HO.out.alloc (.cells #[.int .i32 (lo : Int), .int .i32 (hh : Int), .int .i64 (cl : Int)] 86))
      clear hg hkA
      by_cases hc : (cl : Int) = c
      · have hc' : ((cl : Int) == c) = true := beq_iff_eq.2 hc
        rw [if_pos hc] at HTK
        clear hc
        have HNW := hid (show ∀ j u, (rgc ((lo : Int), (hh : Int)))[j]? = some u → ((wr.alloc (.cells #[.int .i32 (lo : Int), .int .i32 (hh : Int), .int .i64 (cl : Int)] 86)).alloc (.cells #[.int .i32 (lo : Int), .int .i32 (hh : Int)] 84)).cell? ((⟨wr.heap.size + 1, 0, none⟩ : Addr).add j) = some u by
          have h5 := news_r (wr.alloc (.cells #[.int .i32 (lo : Int), .int .i32 (hh : Int), .int .i64 (cl : Int)] 86)) ((lo : Int), (hh : Int)) 84
          rw [World.size_alloc] at h5
          exact h5)
        go_wp2_with (at_builtin; refine wpList_append_lies _ rfl _ _ 47 rfl N 84 i0 (.agg #[.int .i32 0, .int .i32 0]) 2 8 Tryz.underlying47 hi84 hz0 hz1 hz2 rfl (by decide) _ m (rgcs (stc c (A.take k))) rfl (HOA.out.alloc _) ⟨wr.heap.size + 1, 0, none⟩ 1 1 (rgc ((lo : Int), (hh : Int))) rfl rfl HNW.out (rgc_one _) (by decide) (by unfold maxLen; omega) (by omega) (by simp; omega) (wr.heap.size + 1 + 1) (by simp) ?_; intro q2 c2' w2 o2 gr2 hl2 hlt2)
        have HB2 := hid ((HBA.out.alloc (by simp; omega) (.cells #[.int .i32 (lo : Int), .int .i32 (hh : Int)] 84)).grown gr2 (by simp; omega) (fun k hk => (HO.out.lt k hk).1))
        have HO2 := hid (show w2.ownsRow N 84 2 (.slice (some ⟨q2, 0, none⟩) (m + 1) c2') (m + 1) (rgcs (stc c (A.take (k + 1)))) by rw [HTK.out, rgcs_snoc]; exact o2)
        have HM2 := hid (show m + 1 = (stc c (A.take (k + 1))).length by rw [HTK.out, List.length_append, ← HM.out]; rfl)
        clear o2 gr2 hl2 hlt2
        go_roundw
        case rel => exact ⟨k + 1, m + 1, some ⟨q2, 0, none⟩, c2', by go_num, rfl, by omega, HM2, HO2, HB2⟩
        case measure => simp [intOf]; omega
      · have hc' : ((cl : Int) == c) = false := beq_eq_false_iff_ne.2 hc
        rw [if_neg hc, List.append_nil] at HTK
        rw [← HTK.out] at HM HOA
        go_wp2
        go_roundw
        case rel => exact ⟨k + 1, m, vo, vc, by go_num, rfl, by omega, HM, HOA, HBA⟩
        case measure => simp [intOf]; omega
    · have i3 : ¬ (k : Int) < (n : Int) := by omega
      have hkn : A.take k = A := List.take_of_length_le (by have h5 := HN.out; omega)
      rw [hkn] at HM HO
      go_wp2
      go_ret
      exact ⟨_, rfl, by rw [← HM.out]; exact HO.out, HB.out⟩
end Go.Proofs.YtohhokjlgihbgaaGreatDoor
