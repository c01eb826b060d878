/- The contracts of has, first, last, without, cased and mark (package sentence). -/
import Derived.Test.YtckifhlhechdlaaDoorSnTxt
import Derived.Laws.RangeAny
import Derived.RangeFuncNested
namespace Go.Proofs.YtckifhlhechdlaaDoor
open Go.RowKit

def InB (z : Int) : Prop := 0 ≤ z ∧ z ≤ 13
theorem ib_ite {p : Prop} [Decidable p] {a b : Int} (ha : InB a) (hb : InB b) : InB (if p then a else b) := by
  by_cases h : p
  · rw [if_pos h]; exact ha
  · rw [if_neg h]; exact hb
theorem ib_ascii (r : Int) : InB (snascii r) := by
  unfold snascii
  repeat refine ib_ite ⟨by decide, by decide⟩ ?_
  exact ⟨by decide, by decide⟩
theorem ib_latin (r : Int) : InB (snlatin r) := by
  unfold snlatin
  repeat refine ib_ite ⟨by decide, by decide⟩ ?_
  exact ⟨by decide, by decide⟩
theorem ib_european (r : Int) : InB (sneuropean r) := by
  unfold sneuropean
  repeat refine ib_ite ⟨by decide, by decide⟩ ?_
  exact ⟨by decide, by decide⟩
theorem ib_semitic (r : Int) : InB (snsemitic r) := by
  unfold snsemitic
  repeat refine ib_ite ⟨by decide, by decide⟩ ?_
  exact ⟨by decide, by decide⟩
theorem ib_indic (r : Int) : InB (snindic r) := by
  unfold snindic
  repeat refine ib_ite ⟨by decide, by decide⟩ ?_
  exact ⟨by decide, by decide⟩
theorem ib_punct (r : Int) : InB (snpunct r) := by
  unfold snpunct
  repeat refine ib_ite ⟨by decide, by decide⟩ ?_
  exact ⟨by decide, by decide⟩
theorem ib_kana (r : Int) : InB (snkana r) := by
  unfold snkana
  repeat refine ib_ite ⟨by decide, by decide⟩ ?_
  exact ⟨by decide, by decide⟩
theorem ib_high (r : Int) : InB (snhigh r) := by
  unfold snhigh
  repeat refine ib_ite ⟨by decide, by decide⟩ ?_
  exact ⟨by decide, by decide⟩
theorem sn_bd (r : Int) : 0 ≤ sncls r ∧ sncls r ≤ 13 := by
  show InB (sncls r)
  unfold sncls
  exact ib_ite (ib_ascii r) (ib_ite (ib_latin r) (ib_ite (ib_european r) (ib_ite (ib_semitic r) (ib_ite (ib_indic r) (ib_ite (ib_punct r) (ib_ite (ib_kana r) (ib_high r)))))))
theorem shas_any (x : Nat) (z c : Int) (w : World) (hz : z = x) (h0 : 0 ≤ c) (hc : c ≤ 13) :
    Calls Tryd.prog 36 #[.int .u32 z, .int .i64 c] w fun e w' => e = .returned (.bool (shas x c)) ∧ w' = w := by
  subst hz
  obtain ⟨n, rfl⟩ : ∃ n : Nat, c = n := ⟨c.toNat, by omega⟩
  have hn : n ≤ 13 := by omega
  clear h0 hc
  go_enter Tryd.func36, Tryd.ntmps36
  go_wp2
  go_ret
  exact ⟨rfl, rfl⟩
example : shas 14 1 = true := by decide
example : shas 13854 12 = true := by decide
example : shas 14609 5 = false := by decide
/-- The tables of package unicode/utf8. -/
structure TbW (w : World) : Prop where
  tabs : Lib.Utf8Tabs 0 1 w
  two : 2 ≤ w.heap.size
theorem TbW.below {w w' : World} (h : TbW w) (hb : Below w.heap.size w w') : TbW w' := ⟨tabs_below h.tabs h.two hb, Nat.le_trans h.two hb.size⟩
theorem wtake (l : List UInt8) (t : Nat) : (⟨l.toArray⟩ : ByteArray).extract 0 t = ⟨(l.take t).toArray⟩ := by
  apply ByteArray.ext
  simp [ByteArray.data_extract]
def wstrLen : Value → Nat
  | .string s => s.size
  | _ => 0
theorem wnext_at {P : Program} (w : World) (it : Nat) (s : ByteArray) (pos : Nat) (ty : TypeId) (hit : w.heap[it]? = some (.stringIter s pos)) (h : pos < s.size) :
    (Instr.next (.pointer (some ⟨it, 0, none⟩)) true ty).run P w = .ok (.tuple #[.bool true, .int .i64 pos, .int .i32 (Utf8.decode s pos).1]) (w.putObj it (.stringIter s (pos + (Utf8.decode s pos).2))) := by
  simp [Instr.next, getObj, setObj, Sem.run_bind, Sem.run, hit, Result.andThen, h, goInt, World.putObj]
theorem wnext_stop {P : Program} (w : World) (it : Nat) (s : ByteArray) (pos : Nat) (ty : TypeId) (hit : w.heap[it]? = some (.stringIter s pos)) (h : ¬ pos < s.size) :
    (Instr.next (.pointer (some ⟨it, 0, none⟩)) true ty).run P w = .ok (.tuple #[.bool false]) w := by
  simp [Instr.next, getObj, Sem.run, hit, h]
theorem sfirst_any (l : List UInt8) (w : World) (ht : TbW w) :
    Calls Tryd.prog 40 #[.string ⟨l.toArray⟩] w fun e w' => e = .returned (.int .i64 (sfirst l)) ∧ Below w.heap.size w w' := by
  have HT := hid ht
  clear ht
  go_enter Tryd.func40, Tryd.ntmps40
  go_wp2_with fail
  refine (decode_any l w HT.out.tabs).mono ?_
  rintro e w1 ⟨rfl, be⟩
  have HB := hid be
  clear be
  obtain ⟨r, hr⟩ : ∃ r : Int, r = ((dec l).1 : Int) := ⟨_, rfl⟩
  obtain ⟨n, hn⟩ : ∃ n : Nat, n = (dec l).2 := ⟨_, rfl⟩
  have HV := hid (show sfirst l = sncls r by rw [hr]; rfl)
  rw [← hr, ← hn]
  clear hr hn
  go_wp2_with fail
  refine (sncls_any r w1).mono ?_
  rintro e w2 ⟨rfl, hw2⟩
  obtain rfl := hw2.symm
  clear hw2
  go_wp2
  go_ret
  exact ⟨by rw [HV.out]; rfl, HB.out⟩
theorem slast_any (l : List UInt8) (w : World) (ht : TbW w) (hl : l.length ≤ 1000000000) :
    Calls Tryd.prog 34 #[.string ⟨l.toArray⟩] w fun e w' => e = .returned (.tuple #[.int .i64 (slast l), .int .i64 (decLast l).2]) ∧ Below w.heap.size w w' := by
  have HT := hid ht
  clear ht
  go_enter Tryd.func34, Tryd.ntmps34
  go_wp2_with fail
  refine (last_any l w (by omega) HT.out.tabs).mono ?_
  rintro e w1 ⟨rfl, be⟩
  have HB := hid be
  clear be
  obtain ⟨r, hr⟩ : ∃ r : Int, r = ((decLast l).1 : Int) := ⟨_, rfl⟩
  obtain ⟨n, hn⟩ : ∃ n : Nat, n = (decLast l).2 := ⟨_, rfl⟩
  have HN := hid hn
  have HV := hid (show slast l = sncls r by rw [hr]; rfl)
  rw [← hr, ← hn]
  clear hr hn
  go_wp2_with fail
  refine (sncls_any r w1).mono ?_
  rintro e w2 ⟨rfl, hw2⟩
  obtain rfl := hw2.symm
  clear hw2
  go_wp2
  go_ret2
  exact ⟨by rw [HV.out, ← HN.out]; rfl, HB.out⟩
set_option maxHeartbeats 2000000 in
theorem swth_any (x : Nat) (l : List UInt8) (w : World) (ht : TbW w) (hl : l.length ≤ 1000000000) :
    Calls Tryd.prog 35 #[.string ⟨l.toArray⟩, .int .u32 x] w fun e w' => e = .returned (.string ⟨(swth x l).toArray⟩) ∧ Below w.heap.size w w' := by
  have HT := hid ht
  clear ht
  go_enter Tryd.func35, Tryd.ntmps35
  go_wp2
  go_loopw [0] (fun fr wr => ∃ l' : List UInt8, fr = .string ⟨l'.toArray⟩ ∧ l'.length ≤ 1000000000 ∧ Hid (swth x l = swth x l') ∧ Below w.heap.size w wr) (fun fr _ => wstrLen fr)
  case atStart => exact ⟨l, rfl, hl, rfl, Below.refl _ _⟩
  case round =>
    obtain ⟨l', rfl, hl', HW, hB⟩ := hrel
    have HB := hid hB
    clear hB
    by_cases he : l' = []
    · subst he
      have HE := hid (show swth x l = [] by rw [HW.out]; rfl)
      go_wp2
      go_ret
      exact ⟨by rw [HE.out]; rfl, HB.out⟩
    · have he' : l'.isEmpty = false := by simpa using he
      obtain ⟨hb1, hb2⟩ := slast_bd l' he
      have HNE := hid he
      clear he
      go_wp2_with fail
      refine (slast_any l' wr (HT.out.below HB.out) hl').mono ?_
      rintro e w1 ⟨rfl, be1⟩
      have HB1 := hid (HB.out.trans (be1.mono HB.out.size))
      obtain ⟨c0, c1⟩ : 0 ≤ slast l' ∧ slast l' ≤ 13 := sn_bd _
      obtain ⟨c, hc⟩ : ∃ c : Int, c = slast l' := ⟨_, rfl⟩
      obtain ⟨m, hm⟩ : ∃ m : Nat, m = (decLast l').2 := ⟨_, rfl⟩
      have HC := hid hc
      have HM := hid hm
      rw [← hm] at hb1 hb2
      rw [← hc] at c0 c1
      rw [← hc, ← hm]
      clear hc hm be1 HB
      have HLE := hid (show ltl l' = l'.take (l'.length - m) by unfold ltl; rw [HM.out])
      have HLT := hid (sltl_lt l' HNE.out)
      go_wp2_with fail
      refine (shas_any x _ c w1 rfl c0 c1).mono ?_
      rintro e w2 ⟨rfl, hw2⟩
      obtain rfl := hw2.symm
      clear hw2
      obtain ⟨b, hb⟩ : ∃ b, b = shas x c := ⟨_, rfl⟩
      have HBB := hid hb
      rw [← hb]
      clear hb
      cases b with
      | true =>
        have HW2 := hid (HW.out.trans (swth_yes x l' HNE.out (by rw [← HC.out]; exact HBB.out.symm)))
        go_wp2
        rw [wtake, ← HLE.out]
        go_roundw
        case rel => exact ⟨ltl l', rfl, by have := HLT.out; omega, HW2, HB1.out⟩
        case measure =>
          show (⟨(ltl l').toArray⟩ : ByteArray).size < (⟨l'.toArray⟩ : ByteArray).size
          exact HLT.out
      | false =>
        have HE := hid (HW.out.trans (swth_no x l' HNE.out (by rw [← HC.out]; exact HBB.out.symm)))
        go_wp2
        go_ret
        exact ⟨by rw [HE.out]; rfl, HB1.out⟩
end Go.Proofs.YtckifhlhechdlaaDoor
