/- Whether a text is a name: the contracts of Name (package props, package kerfref04). -/
import Derived.Lib.DecodeN
import Derived.Lib.MapLaws
import Derived.Deep.AppendLies
import Derived.RangeFuncRecord
import Derived.Laws.RangeAny
import Derived.Laws.RangeString
import Derived.Test.YtohhokjlgihbgaaGreatDoorFRows2
namespace Go.Proofs.YtohhokjlgihbgaaGreatDoor
open Go.RowKit

theorem get_list (l : List UInt8) (k : Nat) : (⟨l.toArray⟩ : ByteArray).get! k = l.getD k 0 := by
  show l.toArray.getD k 0 = _
  simp [List.getD]
theorem dcd_lo (l : List UInt8) (t : Nat) (b : UInt8) (h : l[t]? = some b) (hb : b.toNat < 128) : Utf8.decode ⟨l.toArray⟩ t = (b.toNat, 1) := by
  rw [Lib.decode_at, get_list, show l.getD t 0 = b by simp [List.getD, h]]
  unfold Lib.decodeN
  rw [if_pos hb]
theorem dcd_hi (l : List UInt8) (t : Nat) (b : UInt8) (h : l[t]? = some b) (hb : 128 ≤ b.toNat) : 128 ≤ (Utf8.decode ⟨l.toArray⟩ t).1 := by
  rw [Lib.decode_at, get_list, show l.getD t 0 = b by simp [List.getD, h]]
  unfold Lib.decodeN
  rw [if_neg (by omega)]
  repeat' split
  all_goals (simp only []; omega)
theorem run_next_at {P : Program} (w : World) (it : Nat) (s : ByteArray) (pos : Nat) (ty : TypeId) (hit : w.heap[it]? = some (.stringIter s pos)) (h : pos < s.size) :
    (Instr.next (.pointer (some ⟨it, 0, none⟩)) true ty).run P w = .ok (.tuple #[.bool true, .int .i64 pos, .int .i32 (Utf8.decode s pos).1]) (w.putObj it (.stringIter s (pos + (Utf8.decode s pos).2))) := by
  simp [Instr.next, getObj, setObj, Sem.run_bind, Sem.run, hit, Result.andThen, h, goInt, World.putObj]
theorem run_next_stop {P : Program} (w : World) (it : Nat) (s : ByteArray) (pos : Nat) (ty : TypeId) (hit : w.heap[it]? = some (.stringIter s pos)) (h : ¬ pos < s.size) :
    (Instr.next (.pointer (some ⟨it, 0, none⟩)) true ty).run P w = .ok (.tuple #[.bool false]) w := by
  simp [Instr.next, getObj, Sem.run, hit, h]

/-- A letter; a byte of a name. -/
def ltr (b : Nat) : Bool := decide (65 ≤ b ∧ b ≤ 90) || decide (97 ≤ b ∧ b ≤ 122)
def nmb (b : Nat) : Bool := ltr b || decide (48 ≤ b ∧ b ≤ 57) || decide (b = 95)
/-- May a byte stand at a place of a name? -/
def nat' (i b : Nat) : Bool := ltr b || (decide (0 < i) && (decide (48 ≤ b ∧ b ≤ 57) || decide (b = 95)))
/-- A name. -/
def nam (l : List UInt8) : Bool := decide (1 ≤ l.length) && decide (l.length ≤ 32) && (List.range l.length).all fun i => nat' i (l.getD i 0).toNat
theorem nam_no (l : List UInt8) (i : Nat) (b : UInt8) (h : l[i]? = some b) (hb : nat' i b.toNat = false) : nam l = false := by
  have hi := (List.getElem?_eq_some_iff.1 h).1
  unfold nam
  rw [Bool.and_eq_false_iff]
  right
  rw [List.all_eq_false]
  exact ⟨i, List.mem_range.2 hi, by simp [List.getD, h, hb]⟩
theorem nam_yes (l : List UInt8) (h0 : 1 ≤ l.length) (h1 : l.length ≤ 32) (h : ∀ i b, l[i]? = some b → nat' i b.toNat = true) : nam l = true := by
  unfold nam
  rw [decide_eq_true h0, decide_eq_true h1]
  simp only [Bool.true_and, List.all_eq_true, List.mem_range]
  intro i hi
  exact h i _ (by simp [List.getD, hi])
theorem nam_len (l : List UInt8) (h : l.length = 0 ∨ 32 < l.length) : nam l = false := by
  unfold nam
  rcases h with h | h
  · rw [decide_eq_false (show ¬ 1 ≤ l.length by omega)]; rfl
  · rw [decide_eq_false (show ¬ l.length ≤ 32 by omega)]; simp

theorem below_put {B it : Nat} {w w' : World} (h : Below B w w') (hit : B ≤ it) (o : Obj) : Below B w (w'.putObj it o) := h.trans ⟨rfl, rfl, rfl, by simp [World.putObj], fun i hi => World.putObj_heap_other (by omega)⟩
theorem name_rune (l : List UInt8) (t : Nat) (b : UInt8) (h : l[t]? = some b) : (b.toNat < 128 ∧ Utf8.decode ⟨l.toArray⟩ t = (b.toNat, 1)) ∨ (128 ≤ b.toNat ∧ 128 ≤ (Utf8.decode ⟨l.toArray⟩ t).1) := by
  rcases Nat.lt_or_ge b.toNat 128 with hb | hb
  · exact .inl ⟨hb, dcd_lo l t b h hb⟩
  · exact .inr ⟨hb, dcd_hi l t b h hb⟩
theorem nat_yes (i b : Nat) (h : (65 ≤ b ∧ b ≤ 90) ∨ (97 ≤ b ∧ b ≤ 122) ∨ (0 < i ∧ 48 ≤ b ∧ b ≤ 57) ∨ (0 < i ∧ b = 95)) : nat' i b = true := by
  unfold nat' ltr
  rcases h with h | h | h | h
  · rw [decide_eq_true h]; rfl
  · rw [decide_eq_true h]; simp
  · rw [decide_eq_true h.1, decide_eq_true h.2]; simp
  · rw [decide_eq_true h.1, decide_eq_true h.2]; simp
theorem nat_nope (i b : Nat) (h : ¬ ((65 ≤ b ∧ b ≤ 90) ∨ (97 ≤ b ∧ b ≤ 122) ∨ (0 < i ∧ 48 ≤ b ∧ b ≤ 57) ∨ (0 < i ∧ b = 95))) : nat' i b = false := by
  unfold nat' ltr
  rw [decide_eq_false (show ¬ (65 ≤ b ∧ b ≤ 90) by omega), decide_eq_false (show ¬ (97 ≤ b ∧ b ≤ 122) by omega)]
  by_cases h0 : 0 < i
  · rw [decide_eq_false (show ¬ (48 ≤ b ∧ b ≤ 57) by omega), decide_eq_false (show ¬ b = 95 by omega)]; simp
  · rw [decide_eq_false h0]; rfl
theorem nat_hi (i b : Nat) (h : 122 < b) : nat' i b = false := by
  unfold nat' ltr
  simp; omega

set_option maxHeartbeats 4000000 in
set_option maxRecDepth 100000 in
theorem name_any (l : List UInt8) (w : World) :
    Calls Tryz.prog 30 #[.string ⟨l.toArray⟩] w fun e w' => e = .returned (.bool (nam l)) ∧ Below w.heap.size w w' := by
  have hsz : (⟨l.toArray⟩ : ByteArray).size = l.length := by show l.toArray.size = _; simp
  by_cases h0 : l.length = 0
  · have HV := hid (nam_len l (.inl h0))
    have hl0 : l = [] := List.length_eq_zero_iff.1 h0
    subst hl0
    go_enter Tryz.func30, Tryz.ntmps30
    go_wp2
    go_ret
    exact ⟨by rw [HV.out]; rfl, Below.refl _ _⟩
  by_cases h32 : 32 < l.length
  · have HV := hid (nam_len l (.inr h32))
    have hz : ((l.length : Int) == 0) = false := beq_eq_false_iff_ne.2 (by omega)
    have hz2 : (32 : Int) < (l.length : Int) := by omega
    have hne : ¬ l = [] := fun e => h0 (by rw [e]; rfl)
    go_enter Tryz.func30, Tryz.ntmps30
    go_wp2
    go_ret
    exact ⟨by rw [HV.out]; rfl, Below.refl _ _⟩
  have hz : ((l.length : Int) == 0) = false := beq_eq_false_iff_ne.2 (by omega)
  have hz2 : ¬ (32 : Int) < (l.length : Int) := by omega
  have hz3 : (l.length : Int) ≤ 32 := by omega
  have hne : ¬ l = [] := fun e => h0 (by rw [e]; rfl)
  have HSZ := hid hsz
  have HB0 := hid ((Below.refl w.heap.size w).alloc (Nat.le_refl _) (.stringIter ⟨l.toArray⟩ 0))
  have HI0 := hid (World.iter_heap w ⟨l.toArray⟩ 0)
  obtain ⟨n, hn⟩ : ∃ n, n = l.length := ⟨_, rfl⟩
  have HN := hid hn
  rw [← hn] at h0 h32
  clear hsz hn
  go_enter Tryz.func30, Tryz.ntmps30
  go_wp2
  go_loopw [3] (fun x wr => ∃ (t : Nat) (v : Value), x = v ∧ t ≤ n ∧ Hid (∀ i b, i < t → l[i]? = some b → nat' i b.toNat = true) ∧ Hid (wr.heap[w.heap.size]? = some (.stringIter ⟨l.toArray⟩ t)) ∧ Hid (Below w.heap.size w wr)) (fun _ wr => n - wr.iterPos w.heap.size)
  case atStart => exact ⟨0, _, rfl, by omega, fun i b hi => by omega, HI0, HB0⟩
  case round =>
    obtain ⟨t, v, rfl, ht, HK, HI, HB⟩ := hrel
    have hmes : n - wr.iterPos w.heap.size = n - t := by unfold World.iterPos; rw [HI.out]
    have HM := hid hmes
    clear hmes
    by_cases hlt : t < n
    · have htl : t < l.length := by have h5 := HN.out; omega
      have hnx := run_next_at (P := Tryz.prog) wr w.heap.size ⟨l.toArray⟩ t 0 HI.out (by rw [HSZ.out]; exact htl)
      obtain ⟨b, hb⟩ : ∃ b, l[t]? = some b := ⟨l[t], List.getElem?_eq_getElem htl⟩
      have hr := name_rune l t b hb
      obtain ⟨r, hre⟩ : ∃ r, r = (Utf8.decode ⟨l.toArray⟩ t).1 := ⟨_, rfl⟩
      obtain ⟨m, hme⟩ : ∃ m, m = (Utf8.decode ⟨l.toArray⟩ t).2 := ⟨_, rfl⟩
      rw [← hre, ← hme] at hnx
      have hr2 : (b.toNat = r ∧ m = 1 ∧ r < 128) ∨ (128 ≤ b.toNat ∧ 128 ≤ r) := by
        rcases hr with ⟨h5, h6⟩ | ⟨h5, h6⟩
        · rw [h6] at hre hme
          exact .inl ⟨hre.symm, hme, by rw [hre]; exact h5⟩
        · exact .inr ⟨h5, by rw [hre]; exact h6⟩
      have hin : w.heap.size < wr.heap.size := (Array.getElem?_eq_some_iff.1 HI.out).1
      obtain ⟨w1, hw1⟩ : ∃ w1, w1 = wr.putObj w.heap.size (.stringIter ⟨l.toArray⟩ (t + m)) := ⟨_, rfl⟩
      rw [← hw1] at hnx
      have HI1 := hid (show w1.heap[w.heap.size]? = some (.stringIter ⟨l.toArray⟩ (t + m)) by rw [hw1]; exact World.putObj_heap_same hin)
      have HB1 := hid (show Below w.heap.size w w1 by rw [hw1]; exact below_put HB.out (Nat.le_refl _) _)
      have HBB := hid hb
      have HR2 := hid hr2
      clear hr hre hme hw1 hb htl hr2
      have hcl : (65 ≤ r ∧ r ≤ 90) ∨ (97 ≤ r ∧ r ≤ 122) ∨ (0 < t ∧ 48 ≤ r ∧ r ≤ 57) ∨ (0 < t ∧ r = 95) ∨ (t = 0 ∧ r < 65) ∨ (t = 0 ∧ 90 < r ∧ r < 97) ∨ (t = 0 ∧ 122 < r) ∨ (0 < t ∧ r < 48) ∨ (0 < t ∧ 57 < r ∧ r < 65) ∨ (0 < t ∧ 90 < r ∧ r < 97 ∧ r ≠ 95) ∨ (0 < t ∧ 122 < r) := by omega
      rcases hcl with hc | hc | hc | hc | hc | hc | hc | hc | hc | hc | hc
      · have k65 : (65 : Int) ≤ (r : Int) := by omega
        have n65 : 65 ≤ r := by omega
        have k90 : (r : Int) ≤ 90 := by omega
        have n90 : r ≤ 90 := by omega
        have HE := hid (show b.toNat = r ∧ m = 1 by have h5 := HR2.out; omega)
        have HT := hid (show ∀ i c, i < t + m → l[i]? = some c → nat' i c.toNat = true from fun i c hi hc' => by
          rcases Nat.lt_or_ge i t with h5 | h5
          · exact HK.out i c h5 hc'
          · have h6 : i = t := by have h7 := HE.out.2; omega
            subst h6
            rw [HBB.out] at hc'
            cases hc'
            have h7 := HE.out.1
            exact nat_yes _ _ (by omega))
        have hm1 : t + m ≤ n := by have h5 := HE.out.2; omega
        have HM1 := hid HE.out.2
        clear hc
        go_wp2
        go_roundw
        case rel => exact ⟨t + m, _, rfl, hm1, HT, HI1, HB1⟩
        case measure =>
          rw [HM.out]
          unfold World.iterPos
          rw [HI1.out]
          have h5 := HM1.out
          simp only []
          omega
      · have k65 : (65 : Int) ≤ (r : Int) := by omega
        have n65 : 65 ≤ r := by omega
        have k90 : ¬ (r : Int) ≤ 90 := by omega
        have n90 : ¬ r ≤ 90 := by omega
        have k97 : (97 : Int) ≤ (r : Int) := by omega
        have n97 : 97 ≤ r := by omega
        have k122 : (r : Int) ≤ 122 := by omega
        have n122 : r ≤ 122 := by omega
        have HE := hid (show b.toNat = r ∧ m = 1 by have h5 := HR2.out; omega)
        have HT := hid (show ∀ i c, i < t + m → l[i]? = some c → nat' i c.toNat = true from fun i c hi hc' => by
          rcases Nat.lt_or_ge i t with h5 | h5
          · exact HK.out i c h5 hc'
          · have h6 : i = t := by have h7 := HE.out.2; omega
            subst h6
            rw [HBB.out] at hc'
            cases hc'
            have h7 := HE.out.1
            exact nat_yes _ _ (by omega))
        have hm1 : t + m ≤ n := by have h5 := HE.out.2; omega
        have HM1 := hid HE.out.2
        clear hc
        go_wp2
        go_roundw
        case rel => exact ⟨t + m, _, rfl, hm1, HT, HI1, HB1⟩
        case measure =>
          rw [HM.out]
          unfold World.iterPos
          rw [HI1.out]
          have h5 := HM1.out
          simp only []
          omega
      · have k65 : ¬ (65 : Int) ≤ (r : Int) := by omega
        have n65 : ¬ 65 ≤ r := by omega
        have k97 : ¬ (97 : Int) ≤ (r : Int) := by omega
        have n97 : ¬ 97 ≤ r := by omega
        have kt : (0 : Int) < (t : Int) := by omega
        have nt : 0 < t := by omega
        have k48 : (48 : Int) ≤ (r : Int) := by omega
        have n48 : 48 ≤ r := by omega
        have k57 : (r : Int) ≤ 57 := by omega
        have n57 : r ≤ 57 := by omega
        have HE := hid (show b.toNat = r ∧ m = 1 by have h5 := HR2.out; omega)
        have HT := hid (show ∀ i c, i < t + m → l[i]? = some c → nat' i c.toNat = true from fun i c hi hc' => by
          rcases Nat.lt_or_ge i t with h5 | h5
          · exact HK.out i c h5 hc'
          · have h6 : i = t := by have h7 := HE.out.2; omega
            subst h6
            rw [HBB.out] at hc'
            cases hc'
            have h7 := HE.out.1
            exact nat_yes _ _ (by omega))
        have hm1 : t + m ≤ n := by have h5 := HE.out.2; omega
        have HM1 := hid HE.out.2
        clear hc
        go_wp2
        go_roundw
        case rel => exact ⟨t + m, _, rfl, hm1, HT, HI1, HB1⟩
        case measure =>
          rw [HM.out]
          unfold World.iterPos
          rw [HI1.out]
          have h5 := HM1.out
          simp only []
          omega
      · have k65 : (65 : Int) ≤ (r : Int) := by omega
        have n65 : 65 ≤ r := by omega
        have k90 : ¬ (r : Int) ≤ 90 := by omega
        have n90 : ¬ r ≤ 90 := by omega
        have k97 : ¬ (97 : Int) ≤ (r : Int) := by omega
        have n97 : ¬ 97 ≤ r := by omega
        have kt : (0 : Int) < (t : Int) := by omega
        have nt : 0 < t := by omega
        have k48 : (48 : Int) ≤ (r : Int) := by omega
        have n48 : 48 ≤ r := by omega
        have k57 : ¬ (r : Int) ≤ 57 := by omega
        have n57 : ¬ r ≤ 57 := by omega
        have k95 : ((r : Int) == 95) = true := by simp; omega
        have n95 : r = 95 := by omega
        have HE := hid (show b.toNat = r ∧ m = 1 by have h5 := HR2.out; omega)
        have HT := hid (show ∀ i c, i < t + m → l[i]? = some c → nat' i c.toNat = true from fun i c hi hc' => by
          rcases Nat.lt_or_ge i t with h5 | h5
          · exact HK.out i c h5 hc'
          · have h6 : i = t := by have h7 := HE.out.2; omega
            subst h6
            rw [HBB.out] at hc'
            cases hc'
            have h7 := HE.out.1
            exact nat_yes _ _ (by omega))
        have hm1 : t + m ≤ n := by have h5 := HE.out.2; omega
        have HM1 := hid HE.out.2
        clear hc
        go_wp2
        go_roundw
        case rel => exact ⟨t + m, _, rfl, hm1, HT, HI1, HB1⟩
        case measure =>
          rw [HM.out]
          unfold World.iterPos
          rw [HI1.out]
          have h5 := HM1.out
          simp only []
          omega
      · have k65 : ¬ (65 : Int) ≤ (r : Int) := by omega
        have n65 : ¬ 65 ≤ r := by omega
        have k97 : ¬ (97 : Int) ≤ (r : Int) := by omega
        have n97 : ¬ 97 ≤ r := by omega
        have kt : ¬ (0 : Int) < (t : Int) := by omega
        have ht0 : t = 0 := by omega
        subst ht0
        have HV := hid (show nam l = false from nam_no l _ b HBB.out (by
          rcases HR2.out with ⟨h5, _, _⟩ | ⟨h5, _⟩
          · rw [h5]; exact nat_nope _ _ (by omega)
          · exact nat_hi _ _ (by omega)))
        clear hc
        go_wp2
        go_ret
        exact ⟨by rw [HV.out]; rfl, HB1.out⟩
      · have k65 : (65 : Int) ≤ (r : Int) := by omega
        have n65 : 65 ≤ r := by omega
        have k90 : ¬ (r : Int) ≤ 90 := by omega
        have n90 : ¬ r ≤ 90 := by omega
        have k97 : ¬ (97 : Int) ≤ (r : Int) := by omega
        have n97 : ¬ 97 ≤ r := by omega
        have kt : ¬ (0 : Int) < (t : Int) := by omega
        have ht0 : t = 0 := by omega
        subst ht0
        have HV := hid (show nam l = false from nam_no l _ b HBB.out (by
          rcases HR2.out with ⟨h5, _, _⟩ | ⟨h5, _⟩
          · rw [h5]; exact nat_nope _ _ (by omega)
          · exact nat_hi _ _ (by omega)))
        clear hc
        go_wp2
        go_ret
        exact ⟨by rw [HV.out]; rfl, HB1.out⟩
      · have k65 : (65 : Int) ≤ (r : Int) := by omega
        have n65 : 65 ≤ r := by omega
        have k90 : ¬ (r : Int) ≤ 90 := by omega
        have n90 : ¬ r ≤ 90 := by omega
        have k97 : (97 : Int) ≤ (r : Int) := by omega
        have n97 : 97 ≤ r := by omega
        have k122 : ¬ (r : Int) ≤ 122 := by omega
        have n122 : ¬ r ≤ 122 := by omega
        have kt : ¬ (0 : Int) < (t : Int) := by omega
        have ht0 : t = 0 := by omega
        subst ht0
        have HV := hid (show nam l = false from nam_no l _ b HBB.out (by
          rcases HR2.out with ⟨h5, _, _⟩ | ⟨h5, _⟩
          · rw [h5]; exact nat_nope _ _ (by omega)
          · exact nat_hi _ _ (by omega)))
        clear hc
        go_wp2
        go_ret
        exact ⟨by rw [HV.out]; rfl, HB1.out⟩
      · have k65 : ¬ (65 : Int) ≤ (r : Int) := by omega
        have n65 : ¬ 65 ≤ r := by omega
        have k97 : ¬ (97 : Int) ≤ (r : Int) := by omega
        have n97 : ¬ 97 ≤ r := by omega
        have kt : (0 : Int) < (t : Int) := by omega
        have nt : 0 < t := by omega
        have k48 : ¬ (48 : Int) ≤ (r : Int) := by omega
        have n48 : ¬ 48 ≤ r := by omega
        have k95 : ((r : Int) == 95) = false := beq_eq_false_iff_ne.2 (by omega)
        have n95 : ¬ r = 95 := by omega
        have HV := hid (show nam l = false from nam_no l _ b HBB.out (by
          rcases HR2.out with ⟨h5, _, _⟩ | ⟨h5, _⟩
          · rw [h5]; exact nat_nope _ _ (by omega)
          · exact nat_hi _ _ (by omega)))
        clear hc
        go_wp2
        go_ret
        exact ⟨by rw [HV.out]; rfl, HB1.out⟩
      · have k65 : ¬ (65 : Int) ≤ (r : Int) := by omega
        have n65 : ¬ 65 ≤ r := by omega
        have k97 : ¬ (97 : Int) ≤ (r : Int) := by omega
        have n97 : ¬ 97 ≤ r := by omega
        have kt : (0 : Int) < (t : Int) := by omega
        have nt : 0 < t := by omega
        have k48 : (48 : Int) ≤ (r : Int) := by omega
        have n48 : 48 ≤ r := by omega
        have k57 : ¬ (r : Int) ≤ 57 := by omega
        have n57 : ¬ r ≤ 57 := by omega
        have k95 : ((r : Int) == 95) = false := beq_eq_false_iff_ne.2 (by omega)
        have n95 : ¬ r = 95 := by omega
        have HV := hid (show nam l = false from nam_no l _ b HBB.out (by
          rcases HR2.out with ⟨h5, _, _⟩ | ⟨h5, _⟩
          · rw [h5]; exact nat_nope _ _ (by omega)
          · exact nat_hi _ _ (by omega)))
        clear hc
        go_wp2
        go_ret
        exact ⟨by rw [HV.out]; rfl, HB1.out⟩
      · have k65 : (65 : Int) ≤ (r : Int) := by omega
        have n65 : 65 ≤ r := by omega
        have k90 : ¬ (r : Int) ≤ 90 := by omega
        have n90 : ¬ r ≤ 90 := by omega
        have k97 : ¬ (97 : Int) ≤ (r : Int) := by omega
        have n97 : ¬ 97 ≤ r := by omega
        have kt : (0 : Int) < (t : Int) := by omega
        have nt : 0 < t := by omega
        have k48 : (48 : Int) ≤ (r : Int) := by omega
        have n48 : 48 ≤ r := by omega
        have k57 : ¬ (r : Int) ≤ 57 := by omega
        have n57 : ¬ r ≤ 57 := by omega
        have k95 : ((r : Int) == 95) = false := beq_eq_false_iff_ne.2 (by omega)
        have n95 : ¬ r = 95 := by omega
        have HV := hid (show nam l = false from nam_no l _ b HBB.out (by
          rcases HR2.out with ⟨h5, _, _⟩ | ⟨h5, _⟩
          · rw [h5]; exact nat_nope _ _ (by omega)
          · exact nat_hi _ _ (by omega)))
        clear hc
        go_wp2
        go_ret
        exact ⟨by rw [HV.out]; rfl, HB1.out⟩
      · have k65 : (65 : Int) ≤ (r : Int) := by omega
        have n65 : 65 ≤ r := by omega
        have k90 : ¬ (r : Int) ≤ 90 := by omega
        have n90 : ¬ r ≤ 90 := by omega
        have k97 : (97 : Int) ≤ (r : Int) := by omega
        have n97 : 97 ≤ r := by omega
        have k122 : ¬ (r : Int) ≤ 122 := by omega
        have n122 : ¬ r ≤ 122 := by omega
        have kt : (0 : Int) < (t : Int) := by omega
        have nt : 0 < t := by omega
        have k48 : (48 : Int) ≤ (r : Int) := by omega
        have n48 : 48 ≤ r := by omega
        have k57 : ¬ (r : Int) ≤ 57 := by omega
        have n57 : ¬ r ≤ 57 := by omega
        have k95 : ((r : Int) == 95) = false := beq_eq_false_iff_ne.2 (by omega)
        have n95 : ¬ r = 95 := by omega
        have HV := hid (show nam l = false from nam_no l _ b HBB.out (by
          rcases HR2.out with ⟨h5, _, _⟩ | ⟨h5, _⟩
          · rw [h5]; exact nat_nope _ _ (by omega)
          · exact nat_hi _ _ (by omega)))
        clear hc
        go_wp2
        go_ret
        exact ⟨by rw [HV.out]; rfl, HB1.out⟩
    · have hnx := run_next_stop (P := Tryz.prog) wr w.heap.size ⟨l.toArray⟩ t 0 HI.out (by rw [HSZ.out]; have h5 := HN.out; omega)
      have HV := hid (show nam l = true from nam_yes l (by have h5 := HN.out; omega) (by have h5 := HN.out; omega) (fun i b hb => HK.out i b (by have h5 := (List.getElem?_eq_some_iff.1 hb).1; have h6 := HN.out; omega) hb))
      go_wp2
      go_ret
      exact ⟨by rw [HV.out]; rfl, HB.out⟩
end Go.Proofs.YtohhokjlgihbgaaGreatDoor
/- The contract of Name (package kerfref04). -/
namespace Go.Proofs.YtohhokjlgihbgaaGreatDoor
open Go.RowKit

set_option maxHeartbeats 4000000 in
set_option maxRecDepth 100000 in
theorem rname_any (l : List UInt8) (w : World) (hl0 : l.length ≤ 9223372036854775807) :
    Calls Tryz.prog 31 #[.string ⟨l.toArray⟩] w fun e w' => e = .returned (.bool (nam l)) ∧ w' = w := by
  have HSZ := hid (show (⟨l.toArray⟩ : ByteArray).size = l.length by show l.toArray.size = _; simp)
  go_enter Tryz.func31, Tryz.ntmps31
  go_wp2
  go_loopw [3] (fun x wr => ∃ (t : Nat), x = .int .i64 (t : Int) ∧ t ≤ l.length ∧ Hid (∀ i b, i < t → l[i]? = some b → nat' i b.toNat = true) ∧ Hid (wr = w)) (fun x _ => l.length - (intOf x).toNat)
  case atStart => exact ⟨0, rfl, by omega, fun i b hi => by omega, rfl⟩
  case round =>
    obtain ⟨t, rfl, ht, HK, HW⟩ := hrel
    obtain rfl := HW.out.symm
    by_cases hlt : t < l.length
    · have hszk : t < (⟨l.toArray⟩ : ByteArray).size := by rw [HSZ.out]; exact hlt
      have tl : (t : Int) < (l.length : Int) := by omega
      have HBB := hid (List.getElem?_eq_getElem hlt)
      have hq : (⟨l.toArray⟩ : ByteArray)[t]'hszk = l[t] := rfl
      generalize l[t] = b at *
      obtain ⟨r, hr⟩ : ∃ r, r = b.toNat := ⟨_, rfl⟩
      have hrb : r < 256 := by rw [hr]; exact b.toNat_lt
      have hq2 : ((⟨l.toArray⟩ : ByteArray)[t]'hszk).toNat = r := by rw [hq, hr]
      have HR := hid hr
      clear hr hq
      have hcl : (65 ≤ r ∧ r ≤ 90) ∨ (97 ≤ r ∧ r ≤ 122) ∨ (0 < t ∧ 48 ≤ r ∧ r ≤ 57) ∨ (0 < t ∧ r = 95) ∨ (t = 0 ∧ r < 65) ∨ (t = 0 ∧ 90 < r ∧ r < 97) ∨ (t = 0 ∧ 122 < r) ∨ (0 < t ∧ r < 48) ∨ (0 < t ∧ 57 < r ∧ r < 65) ∨ (0 < t ∧ 90 < r ∧ r < 97 ∧ r ≠ 95) ∨ (0 < t ∧ 122 < r) := by omega
      rcases hcl with hc | hc | hc | hc | hc | hc | hc | hc | hc | hc | hc
      · have k65 : (65 : Int) ≤ (r : Int) := by omega
        have n65 : 65 ≤ r := by omega
        have k90 : (r : Int) ≤ 90 := by omega
        have n90 : r ≤ 90 := by omega
        have HT := hid (show ∀ i c, i < t + 1 → l[i]? = some c → nat' i c.toNat = true from fun i c hi hc' => by
          rcases Nat.lt_or_ge i t with h5 | h5
          · exact HK.out i c h5 hc'
          · have h6 : i = t := by omega
            subst h6
            rw [HBB.out] at hc'
            cases hc'
            rw [← HR.out]
            exact nat_yes _ _ (by omega))
        clear hc
        go_wp2
        go_roundw
        case rel => exact ⟨t + 1, by go_num, by omega, HT, by first | exact (trivial : True) | rfl⟩
        case measure => simp [intOf]; omega
      · have k65 : (65 : Int) ≤ (r : Int) := by omega
        have n65 : 65 ≤ r := by omega
        have k90 : ¬ (r : Int) ≤ 90 := by omega
        have n90 : ¬ r ≤ 90 := by omega
        have k97 : (97 : Int) ≤ (r : Int) := by omega
        have n97 : 97 ≤ r := by omega
        have k122 : (r : Int) ≤ 122 := by omega
        have n122 : r ≤ 122 := by omega
        have HT := hid (show ∀ i c, i < t + 1 → l[i]? = some c → nat' i c.toNat = true from fun i c hi hc' => by
          rcases Nat.lt_or_ge i t with h5 | h5
          · exact HK.out i c h5 hc'
          · have h6 : i = t := by omega
            subst h6
            rw [HBB.out] at hc'
            cases hc'
            rw [← HR.out]
            exact nat_yes _ _ (by omega))
        clear hc
        go_wp2
        go_roundw
        case rel => exact ⟨t + 1, by go_num, by omega, HT, by first | exact (trivial : True) | rfl⟩
        case measure => simp [intOf]; omega
      · have k65 : ¬ (65 : Int) ≤ (r : Int) := by omega
        have n65 : ¬ 65 ≤ r := by omega
        have k97 : ¬ (97 : Int) ≤ (r : Int) := by omega
        have n97 : ¬ 97 ≤ r := by omega
        have kt : ((t : Int) == 0) = false := beq_eq_false_iff_ne.2 (by omega)
        have nt : ¬ t = 0 := by omega
        have k95 : ((r : Int) != 95) = true := bne_iff_ne.2 (by omega)
        have n95 : ¬ r = 95 := by omega
        have k48 : ¬ (r : Int) < 48 := by omega
        have n48 : ¬ r < 48 := by omega
        have k57 : ¬ (57 : Int) < (r : Int) := by omega
        have n57 : ¬ 57 < r := by omega
        have HT := hid (show ∀ i c, i < t + 1 → l[i]? = some c → nat' i c.toNat = true from fun i c hi hc' => by
          rcases Nat.lt_or_ge i t with h5 | h5
          · exact HK.out i c h5 hc'
          · have h6 : i = t := by omega
            subst h6
            rw [HBB.out] at hc'
            cases hc'
            rw [← HR.out]
            exact nat_yes _ _ (by omega))
        clear hc
        go_wp2
        go_roundw
        case rel => exact ⟨t + 1, by go_num, by omega, HT, by first | exact (trivial : True) | rfl⟩
        case measure => simp [intOf]; omega
      · have k65 : (65 : Int) ≤ (r : Int) := by omega
        have n65 : 65 ≤ r := by omega
        have k90 : ¬ (r : Int) ≤ 90 := by omega
        have n90 : ¬ r ≤ 90 := by omega
        have k97 : ¬ (97 : Int) ≤ (r : Int) := by omega
        have n97 : ¬ 97 ≤ r := by omega
        have kt : ((t : Int) == 0) = false := beq_eq_false_iff_ne.2 (by omega)
        have nt : ¬ t = 0 := by omega
        have k95 : ((r : Int) != 95) = false := by simp; omega
        have n95 : r = 95 := by omega
        have HT := hid (show ∀ i c, i < t + 1 → l[i]? = some c → nat' i c.toNat = true from fun i c hi hc' => by
          rcases Nat.lt_or_ge i t with h5 | h5
          · exact HK.out i c h5 hc'
          · have h6 : i = t := by omega
            subst h6
            rw [HBB.out] at hc'
            cases hc'
            rw [← HR.out]
            exact nat_yes _ _ (by omega))
        clear hc
        go_wp2
        go_roundw
        case rel => exact ⟨t + 1, by go_num, by omega, HT, by first | exact (trivial : True) | rfl⟩
        case measure => simp [intOf]; omega
      · have k65 : ¬ (65 : Int) ≤ (r : Int) := by omega
        have n65 : ¬ 65 ≤ r := by omega
        have k97 : ¬ (97 : Int) ≤ (r : Int) := by omega
        have n97 : ¬ 97 ≤ r := by omega
        have ht0 : t = 0 := by omega
        subst ht0
        have HV := hid (show nam l = false from nam_no l _ b HBB.out (by rw [← HR.out]; exact nat_nope _ _ (by omega)))
        clear hc
        go_wp2
        go_ret
        exact ⟨by rw [HV.out]; rfl, rfl⟩
      · have k65 : (65 : Int) ≤ (r : Int) := by omega
        have n65 : 65 ≤ r := by omega
        have k90 : ¬ (r : Int) ≤ 90 := by omega
        have n90 : ¬ r ≤ 90 := by omega
        have k97 : ¬ (97 : Int) ≤ (r : Int) := by omega
        have n97 : ¬ 97 ≤ r := by omega
        have ht0 : t = 0 := by omega
        subst ht0
        have HV := hid (show nam l = false from nam_no l _ b HBB.out (by rw [← HR.out]; exact nat_nope _ _ (by omega)))
        clear hc
        go_wp2
        go_ret
        exact ⟨by rw [HV.out]; rfl, rfl⟩
      · have k65 : (65 : Int) ≤ (r : Int) := by omega
        have n65 : 65 ≤ r := by omega
        have k90 : ¬ (r : Int) ≤ 90 := by omega
        have n90 : ¬ r ≤ 90 := by omega
        have k97 : (97 : Int) ≤ (r : Int) := by omega
        have n97 : 97 ≤ r := by omega
        have k122 : ¬ (r : Int) ≤ 122 := by omega
        have n122 : ¬ r ≤ 122 := by omega
        have ht0 : t = 0 := by omega
        subst ht0
        have HV := hid (show nam l = false from nam_no l _ b HBB.out (by rw [← HR.out]; exact nat_nope _ _ (by omega)))
        clear hc
        go_wp2
        go_ret
        exact ⟨by rw [HV.out]; rfl, rfl⟩
      · have k65 : ¬ (65 : Int) ≤ (r : Int) := by omega
        have n65 : ¬ 65 ≤ r := by omega
        have k97 : ¬ (97 : Int) ≤ (r : Int) := by omega
        have n97 : ¬ 97 ≤ r := by omega
        have kt : ((t : Int) == 0) = false := beq_eq_false_iff_ne.2 (by omega)
        have nt : ¬ t = 0 := by omega
        have k95 : ((r : Int) != 95) = true := bne_iff_ne.2 (by omega)
        have n95 : ¬ r = 95 := by omega
        have k48 : (r : Int) < 48 := by omega
        have n48 : r < 48 := by omega
        have HV := hid (show nam l = false from nam_no l _ b HBB.out (by rw [← HR.out]; exact nat_nope _ _ (by omega)))
        clear hc
        go_wp2
        go_ret
        exact ⟨by rw [HV.out]; rfl, rfl⟩
      · have k65 : ¬ (65 : Int) ≤ (r : Int) := by omega
        have n65 : ¬ 65 ≤ r := by omega
        have k97 : ¬ (97 : Int) ≤ (r : Int) := by omega
        have n97 : ¬ 97 ≤ r := by omega
        have kt : ((t : Int) == 0) = false := beq_eq_false_iff_ne.2 (by omega)
        have nt : ¬ t = 0 := by omega
        have k95 : ((r : Int) != 95) = true := bne_iff_ne.2 (by omega)
        have n95 : ¬ r = 95 := by omega
        have k48 : ¬ (r : Int) < 48 := by omega
        have n48 : ¬ r < 48 := by omega
        have k57 : (57 : Int) < (r : Int) := by omega
        have n57 : 57 < r := by omega
        have HV := hid (show nam l = false from nam_no l _ b HBB.out (by rw [← HR.out]; exact nat_nope _ _ (by omega)))
        clear hc
        go_wp2
        go_ret
        exact ⟨by rw [HV.out]; rfl, rfl⟩
      · have k65 : (65 : Int) ≤ (r : Int) := by omega
        have n65 : 65 ≤ r := by omega
        have k90 : ¬ (r : Int) ≤ 90 := by omega
        have n90 : ¬ r ≤ 90 := by omega
        have k97 : ¬ (97 : Int) ≤ (r : Int) := by omega
        have n97 : ¬ 97 ≤ r := by omega
        have kt : ((t : Int) == 0) = false := beq_eq_false_iff_ne.2 (by omega)
        have nt : ¬ t = 0 := by omega
        have k95 : ((r : Int) != 95) = true := bne_iff_ne.2 (by omega)
        have n95 : ¬ r = 95 := by omega
        have k48 : ¬ (r : Int) < 48 := by omega
        have n48 : ¬ r < 48 := by omega
        have k57 : (57 : Int) < (r : Int) := by omega
        have n57 : 57 < r := by omega
        have HV := hid (show nam l = false from nam_no l _ b HBB.out (by rw [← HR.out]; exact nat_nope _ _ (by omega)))
        clear hc
        go_wp2
        go_ret
        exact ⟨by rw [HV.out]; rfl, rfl⟩
      · have k65 : (65 : Int) ≤ (r : Int) := by omega
        have n65 : 65 ≤ r := by omega
        have k90 : ¬ (r : Int) ≤ 90 := by omega
        have n90 : ¬ r ≤ 90 := by omega
        have k97 : (97 : Int) ≤ (r : Int) := by omega
        have n97 : 97 ≤ r := by omega
        have k122 : ¬ (r : Int) ≤ 122 := by omega
        have n122 : ¬ r ≤ 122 := by omega
        have kt : ((t : Int) == 0) = false := beq_eq_false_iff_ne.2 (by omega)
        have nt : ¬ t = 0 := by omega
        have k95 : ((r : Int) != 95) = true := bne_iff_ne.2 (by omega)
        have n95 : ¬ r = 95 := by omega
        have k48 : ¬ (r : Int) < 48 := by omega
        have n48 : ¬ r < 48 := by omega
        have k57 : (57 : Int) < (r : Int) := by omega
        have n57 : 57 < r := by omega
        have HV := hid (show nam l = false from nam_no l _ b HBB.out (by rw [← HR.out]; exact nat_nope _ _ (by omega)))
        clear hc
        go_wp2
        go_ret
        exact ⟨by rw [HV.out]; rfl, rfl⟩
    · have tl : ¬ (t : Int) < (l.length : Int) := by omega
      have HA := hid (show ∀ i b, l[i]? = some b → nat' i b.toNat = true from fun i b hb => HK.out i b (by have h5 := (List.getElem?_eq_some_iff.1 hb).1; omega) hb)
      have e : t = l.length := by omega
      subst e
      by_cases h0 : l.length = 0
      · have HV := hid (nam_len l (.inl h0))
        have hl1 : l = [] := List.length_eq_zero_iff.1 h0
        subst hl1
        go_wp2
        go_ret
        exact ⟨by rw [HV.out]; rfl, rfl⟩
      · have k1 : (1 : Int) ≤ (l.length : Int) := by omega
        have n1 : 1 ≤ l.length := by omega
        have hne : ¬ l = [] := fun e => h0 (by rw [e]; rfl)
        by_cases h32 : l.length ≤ 32
        · have k32 : (l.length : Int) ≤ 32 := by omega
          have HV := hid (nam_yes l n1 h32 HA.out)
          go_wp2
          go_ret
          exact ⟨by rw [HV.out]; rfl, rfl⟩
        · have k32 : ¬ (l.length : Int) ≤ 32 := by omega
          have HV := hid (nam_len l (.inr (by omega)))
          go_wp2
          go_ret
          exact ⟨by rw [HV.out]; rfl, rfl⟩
end Go.Proofs.YtohhokjlgihbgaaGreatDoor
