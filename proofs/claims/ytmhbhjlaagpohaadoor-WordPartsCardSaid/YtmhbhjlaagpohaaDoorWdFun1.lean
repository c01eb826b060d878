/- The contracts of first, last, base, onward and odd (package word). -/
import Derived.Test.YtmhbhjlaagpohaaDoorWdTxt
import Derived.Test.YtmhbhjlaagpohaaDoorWdBool
import Derived.Laws.RangeAny
import Derived.RangeFuncNested
namespace Go.Proofs.YtmhbhjlaagpohaaDoor
open Go.RowKit

/-- The tables of package unicode/utf8. -/
structure TbW (w : World) : Prop where
  tabs : Lib.Utf8Tabs 0 1 w
  two : 2 ≤ w.heap.size
theorem TbW.below {w w' : World} (h : TbW w) (hb : Below w.heap.size w w') : TbW w' := ⟨tabs_below h.tabs h.two hb, Nat.le_trans h.two hb.size⟩
theorem wtake (l : List UInt8) (t : Nat) : (⟨l.toArray⟩ : ByteArray).extract 0 t = ⟨(l.take t).toArray⟩ := by
  apply ByteArray.ext
  simp [ByteArray.data_extract]
def wstrLen : Value → Nat
  | .string s => s.size
  | _ => 0
theorem wnext_at {P : Program} (w : World) (it : Nat) (s : ByteArray) (pos : Nat) (ty : TypeId) (hit : w.heap[it]? = some (.stringIter s pos)) (h : pos < s.size) :
    (Instr.next (.pointer (some ⟨it, 0, none⟩)) true ty).run P w = .ok (.tuple #[.bool true, .int .i64 pos, .int .i32 (Utf8.decode s pos).1]) (w.putObj it (.stringIter s (pos + (Utf8.decode s pos).2))) := by
  simp [Instr.next, getObj, setObj, Sem.run_bind, Sem.run, hit, Result.andThen, h, goInt, World.putObj]
theorem wnext_stop {P : Program} (w : World) (it : Nat) (s : ByteArray) (pos : Nat) (ty : TypeId) (hit : w.heap[it]? = some (.stringIter s pos)) (h : ¬ pos < s.size) :
    (Instr.next (.pointer (some ⟨it, 0, none⟩)) true ty).run P w = .ok (.tuple #[.bool false]) w := by
  simp [Instr.next, getObj, Sem.run, hit, h]
theorem wfirst_any (l : List UInt8) (w : World) (ht : TbW w) :
    Calls Tryd.prog 98 #[.string ⟨l.toArray⟩] w fun e w' => e = .returned (.tuple #[.int .i64 (wfirst l), .int .i64 (dec l).2]) ∧ Below w.heap.size w w' := by
  have HT := hid ht
  clear ht
  go_enter Tryd.func98, Tryd.ntmps98
  go_wp2_with fail
  refine (decode_any l w HT.out.tabs).mono ?_
  rintro e w1 ⟨rfl, be⟩
  have HB := hid be
  clear be
  obtain ⟨r, hr⟩ : ∃ r : Int, r = ((dec l).1 : Int) := ⟨_, rfl⟩
  obtain ⟨n, hn⟩ : ∃ n : Nat, n = (dec l).2 := ⟨_, rfl⟩
  have HN := hid hn
  have HV := hid (show wfirst l = wdcls r by rw [hr]; rfl)
  rw [← hr, ← hn]
  clear hr hn
  go_wp2_with fail
  refine (wdcls_any r w1).mono ?_
  rintro e w2 ⟨rfl, hw2⟩
  obtain rfl := hw2.symm
  clear hw2
  go_wp2
  go_ret2
  exact ⟨by rw [HV.out, ← HN.out]; rfl, HB.out⟩
theorem wlast_any (l : List UInt8) (w : World) (ht : TbW w) (hl : l.length ≤ 1000000000) :
    Calls Tryd.prog 97 #[.string ⟨l.toArray⟩] w fun e w' => e = .returned (.tuple #[.int .i64 (wlast l), .int .i64 (decLast l).2]) ∧ Below w.heap.size w w' := by
  have HT := hid ht
  clear ht
  go_enter Tryd.func97, Tryd.ntmps97
  go_wp2_with fail
  refine (last_any l w (by omega) HT.out.tabs).mono ?_
  rintro e w1 ⟨rfl, be⟩
  have HB := hid be
  clear be
  obtain ⟨r, hr⟩ : ∃ r : Int, r = ((decLast l).1 : Int) := ⟨_, rfl⟩
  obtain ⟨n, hn⟩ : ∃ n : Nat, n = (decLast l).2 := ⟨_, rfl⟩
  have HN := hid hn
  have HV := hid (show wlast l = wdcls r by rw [hr]; rfl)
  rw [← hr, ← hn]
  clear hr hn
  go_wp2_with fail
  refine (wdcls_any r w1).mono ?_
  rintro e w2 ⟨rfl, hw2⟩
  obtain rfl := hw2.symm
  clear hw2
  go_wp2
  go_ret2
  exact ⟨by rw [HV.out, ← HN.out]; rfl, HB.out⟩
set_option maxHeartbeats 2000000 in
theorem wbase_any (l : List UInt8) (w : World) (ht : TbW w) (hl : l.length ≤ 1000000000) :
    Calls Tryd.prog 112 #[.string ⟨l.toArray⟩] w fun e w' => e = .returned (.tuple #[.int .i64 (wbs l).1, .int .i64 (wbs l).2]) ∧ Below w.heap.size w w' := by
  have HT := hid ht
  clear ht
  go_enter Tryd.func112, Tryd.ntmps112
  go_wp2
  go_loopw [0] (fun fr wr => ∃ l' : List UInt8, fr = .string ⟨l'.toArray⟩ ∧ l'.length ≤ 1000000000 ∧ Hid (wbs l = wbs l') ∧ Below w.heap.size w wr) (fun fr _ => wstrLen fr)
  case atStart => exact ⟨l, rfl, hl, rfl, Below.refl _ _⟩
  case round =>
    obtain ⟨l', rfl, hl', HW, hB⟩ := hrel
    have HB := hid hB
    clear hB
    by_cases he : l' = []
    · subst he
      have HE := hid (show wbs l = (0, 0) by rw [HW.out]; rfl)
      go_wp2
      go_ret2
      exact ⟨by rw [HE.out]; rfl, HB.out⟩
    · have he' : l'.isEmpty = false := by simpa using he
      obtain ⟨hb1, hb2⟩ := wlast_bd l' he
      have HNE := hid he
      clear he
      go_wp2_with fail
      refine (wlast_any l' wr (HT.out.below HB.out) hl').mono ?_
      rintro e w1 ⟨rfl, be1⟩
      have HB1 := hid (HB.out.trans (be1.mono HB.out.size))
      obtain ⟨c, hc⟩ : ∃ c : Int, c = wlast l' := ⟨_, rfl⟩
      obtain ⟨m, hm⟩ : ∃ m : Nat, m = (decLast l').2 := ⟨_, rfl⟩
      have HC := hid hc
      have HM := hid hm
      rw [← hm] at hb1 hb2
      rw [← hc, ← hm]
      clear hc hm be1 HB
      have HLE := hid (show ltl l' = l'.take (l'.length - m) by unfold ltl; rw [HM.out])
      have HLT := hid (wltl_lt l' HNE.out)
      go_wp2_with fail
      rw [wtake, ← HLE.out]
      refine (wclings_any c w1).mono ?_
      rintro e w2 ⟨rfl, hw2⟩
      obtain rfl := hw2.symm
      clear hw2
      obtain ⟨b, hb⟩ : ∃ b, b = wclings c := ⟨_, rfl⟩
      have HBB := hid hb
      rw [← hb]
      clear hb
      cases b with
      | true =>
        have HY := hid (show wbs l = wbs (ltl l') from HW.out.trans (wbs_yes l' HNE.out (by rw [← HC.out, ← HBB.out])))
        go_wp2
        exact ⟨⟨ltl l', rfl, by have := HLT.out; omega, HY.out, HB1.out⟩, by have := HLT.out; show (ltl l').toArray.size < l'.toArray.size; simpa using this⟩
      | false =>
        have HY := hid (show wbs l = (c, (ltl l').length) by rw [HW.out, wbs_no l' HNE.out (by rw [← HC.out, ← HBB.out]), ← HC.out])
        go_wp2
        go_ret2
        exact ⟨by rw [HY.out]; rfl, HB1.out⟩
set_option maxHeartbeats 2000000 in
theorem wodd_any (l : List UInt8) (w : World) (ht : TbW w) (hl : l.length ≤ 1000000000) :
    Calls Tryd.prog 114 #[.string ⟨l.toArray⟩] w fun e w' => e = .returned (.bool (wod l false)) ∧ Below w.heap.size w w' := by
  have HT := hid ht
  clear ht
  go_enter Tryd.func114, Tryd.ntmps114
  go_wp2
  go_loopw [0, 3] (fun fs fo wr => ∃ (l' : List UInt8) (o : Bool), fs = .string ⟨l'.toArray⟩ ∧ fo = .bool o ∧ l'.length ≤ 1000000000 ∧ Hid (wod l false = wod l' o) ∧ Below w.heap.size w wr) (fun fs _ _ => wstrLen fs)
  case atStart => exact ⟨l, false, rfl, rfl, hl, rfl, Below.refl _ _⟩
  case round =>
    obtain ⟨l', o, rfl, rfl, hl', HW, hB⟩ := hrel
    have HB := hid hB
    clear hB
    by_cases he : l' = []
    · subst he
      have HE := hid (show wod l false = o by rw [HW.out]; rfl)
      go_wp2
      go_ret
      exact ⟨by rw [HE.out]; rfl, HB.out⟩
    · have he' : l'.isEmpty = false := by simpa using he
      obtain ⟨hb1, hb2⟩ := wlast_bd l' he
      have HST := hid (HW.out.trans (wod_step l' o he))
      have HLT := hid (wltl_lt l' he)
      clear he HW
      go_wp2_with fail
      refine (wlast_any l' wr (HT.out.below HB.out) hl').mono ?_
      rintro e w1 ⟨rfl, be1⟩
      have HB1 := hid (HB.out.trans (be1.mono HB.out.size))
      obtain ⟨c, hc⟩ : ∃ c : Int, c = wlast l' := ⟨_, rfl⟩
      obtain ⟨m, hm⟩ : ∃ m : Nat, m = (decLast l').2 := ⟨_, rfl⟩
      have HLE := hid (show ltl l' = l'.take (l'.length - m) by unfold ltl; rw [hm])
      rw [← hm] at hb1 hb2
      rw [← hc] at HST
      rw [← hc, ← hm]
      clear hc hm be1 HB
      by_cases h7 : c = 7
      · subst h7
        have HY := hid (show wod l false = wod (ltl l') (!o) from HST.out)
        go_wp2
        rw [wtake, ← HLE.out]
        exact ⟨⟨ltl l', !o, rfl, rfl, by have := HLT.out; omega, HY.out, HB1.out⟩, by have := HLT.out; show (ltl l').toArray.size < l'.toArray.size; simpa using this⟩
      · have b7 : (c == 7) = false := beq_eq_false_iff_ne.2 h7
        have HY := hid (show wod l false = if wclings c then wod (ltl l') o else o by rw [HST.out, b7]; rfl)
        clear h7 HST
        go_wp2_with fail
        refine (wclings_any c w1).mono ?_
        rintro e w2 ⟨rfl, hw2⟩
        obtain rfl := hw2.symm
        clear hw2
        obtain ⟨b, hb⟩ : ∃ b, b = wclings c := ⟨_, rfl⟩
        rw [← hb] at HY
        rw [← hb]
        clear hb
        cases b with
        | true =>
          go_wp2
          rw [wtake, ← HLE.out]
          exact ⟨⟨ltl l', o, rfl, rfl, by have := HLT.out; omega, HY.out, HB1.out⟩, by have := HLT.out; show (ltl l').toArray.size < l'.toArray.size; simpa using this⟩
        | false =>
          go_wp2
          go_ret
          exact ⟨by rw [HY.out]; rfl, HB1.out⟩
set_option maxHeartbeats 2000000 in
theorem wonward_any (l : List UInt8) (w : World) :
    Calls Tryd.prog 117 #[.string ⟨l.toArray⟩] w fun e w' => e = .returned (.int .i64 (won l)) ∧ Below w.heap.size w w' := by
  have HSZ := hid (show (⟨l.toArray⟩ : ByteArray).size = l.length by show l.toArray.size = _; simp)
  have HB0 := hid ((Below.refl w.heap.size w).alloc (Nat.le_refl _) (.stringIter ⟨l.toArray⟩ 0))
  have HIT0 := hid (World.iter_heap w ⟨l.toArray⟩ 0)
  go_enter Tryd.func117, Tryd.ntmps117
  go_wp2
  go_loopw [4, 5] (fun _ _ wr => ∃ t : Nat, Hid (won l = won (l.drop t)) ∧ Hid (wr.heap[w.heap.size]? = some (.stringIter ⟨l.toArray⟩ t)) ∧ Hid (Below w.heap.size w wr)) (fun _ _ wr => l.length - wr.iterPos w.heap.size)
  case atStart => exact ⟨0, rfl, HIT0, HB0⟩
  case round =>
    obtain ⟨t, HP, HI, HB⟩ := hrel
    have hin : w.heap.size < wr.heap.size := (Array.getElem?_eq_some_iff.1 HI.out).1
    by_cases hlt : t < l.length
    · have hnx := wnext_at (P := Tryd.prog) wr w.heap.size ⟨l.toArray⟩ t 0 HI.out (by rw [HSZ.out]; exact hlt)
      rw [decode_place l t hlt] at hnx
      have hne := drop_ne l t hlt
      have d1 := dec_ge _ hne
      have HYES := hid (won_yes (l.drop t) hne)
      have HNO := hid (won_no (l.drop t) hne)
      rw [List.drop_drop] at HYES
      have HWF := hid (show wfirst (l.drop t) = wdcls ((dec (l.drop t)).1 : Int) from rfl)
      obtain ⟨nn, hnn⟩ : ∃ nn, nn = (dec (l.drop t)).2 := ⟨_, rfl⟩
      obtain ⟨rr, hrr⟩ : ∃ rr : Int, rr = ((dec (l.drop t)).1 : Int) := ⟨_, rfl⟩
      rw [← hnn] at hnx d1 HYES
      rw [← hrr] at hnx HWF
      rw [HWF.out] at HYES HNO
      obtain ⟨w1, hw1⟩ : ∃ w1, w1 = wr.putObj w.heap.size (.stringIter ⟨l.toArray⟩ (t + nn)) := ⟨_, rfl⟩
      rw [← hw1] at hnx
      have HI1 := hid (show w1.heap[w.heap.size]? = some (.stringIter ⟨l.toArray⟩ (t + nn)) by rw [hw1]; exact World.putObj_heap_same hin)
      have HB1 := hid (show Below w.heap.size w w1 by rw [hw1]; exact HB.out.trans ⟨rfl, rfl, rfl, by simp [World.putObj], fun j hj => World.putObj_heap_other (by omega)⟩)
      have HM := hid (show l.length - wr.iterPos w.heap.size = l.length - t by unfold World.iterPos; rw [HI.out])
      clear hnn hrr hw1 HI HB hne HWF
      go_wp2_with fail
      refine (wdcls_any rr w1).mono ?_
      rintro e w2 ⟨rfl, hw2⟩
      obtain rfl := hw2.symm
      clear hw2
      obtain ⟨c, hc⟩ : ∃ c, c = wdcls rr := ⟨_, rfl⟩
      rw [← hc] at HYES HNO
      rw [← hc]
      clear hc hnx
      go_wp2_with fail
      refine (wclings_any c w1).mono ?_
      rintro e w2 ⟨rfl, hw2⟩
      obtain rfl := hw2.symm
      clear hw2
      obtain ⟨b, hb⟩ : ∃ b, b = wclings c := ⟨_, rfl⟩
      rw [← hb] at HYES HNO
      rw [← hb]
      clear hb
      cases b with
      | true =>
        have HE := hid (HP.out.trans (HYES.out rfl))
        go_wp2
        go_roundw
        case rel => exact ⟨t + nn, HE, HI1, HB1⟩
        case measure =>
          rw [HM.out]
          unfold World.iterPos
          rw [HI1.out]
          simp only []
          omega
      | false =>
        have HE := hid (HP.out.trans (HNO.out rfl))
        go_wp2
        go_ret
        exact ⟨by rw [HE.out]; rfl, HB1.out⟩
    · have hnx := wnext_stop (P := Tryd.prog) wr w.heap.size ⟨l.toArray⟩ t 0 HI.out (by rw [HSZ.out]; exact hlt)
      have HE := hid (show won l = 0 by rw [HP.out, List.drop_of_length_le (by omega)]; rfl)
      go_wp2
      go_ret
      exact ⟨by rw [HE.out]; rfl, HB.out⟩
end Go.Proofs.YtmhbhjlaagpohaaDoor
