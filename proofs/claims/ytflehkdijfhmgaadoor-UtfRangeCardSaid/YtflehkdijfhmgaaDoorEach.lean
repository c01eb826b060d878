/- The contract of the iterator of Each (package utf): it hands on the runes of a text with their places, in order. -/
import Derived.Test.YtflehkdijfhmgaaDoorMarks
import Derived.RangeFuncNested
import Derived.RangeFuncBound
import Derived.RangeFuncCalls
import Derived.RangeFuncLeaves
import Derived.Shelf.Abstract
import Derived.Shelf.RegionOpen
import Derived.OwnWalkIn
import Derived.TacticsInMore
import Derived.LoopNIn
import Derived.LoopIn
import Derived.Maps.AppendAt
import Derived.Laws.RangeAny
namespace Go.Proofs.YtflehkdijfhmgaaDoor
open Go.RowKit Go.Shelf
attribute [local go_sem] Oper.semAt_some

theorem get_drop (l : List UInt8) (t j : Nat) : (l.drop t).getD j 0 = l.getD (t + j) 0 := by simp [List.getD]
/-- What range finds at a place of a text is what Decode finds of the rest. -/
theorem decode_place (l : List UInt8) (t : Nat) (h : t < l.length) : Utf8.decode ⟨l.toArray⟩ t = dec (l.drop t) := by
  have hne : l.drop t ≠ [] := fun e => by have := congrArg List.length e; simp at this; omega
  have hs : (⟨l.toArray⟩ : ByteArray).size = l.length := by show l.toArray.size = _; simp
  rw [dec_numbers _ hne, Lib.decode_at, hs]
  simp only [get_list, get_drop, List.length_drop, Nat.add_zero]

theorem run_next_at {P : Program} (w : World) (it : Nat) (s : ByteArray) (pos : Nat) (ty : TypeId) (hit : w.heap[it]? = some (.stringIter s pos)) (h : pos < s.size) :
    (Instr.next (.pointer (some ⟨it, 0, none⟩)) true ty).run P w = .ok (.tuple #[.bool true, .int .i64 pos, .int .i32 (Utf8.decode s pos).1]) (w.putObj it (.stringIter s (pos + (Utf8.decode s pos).2))) := by
  simp [Instr.next, getObj, setObj, Sem.run_bind, Sem.run, hit, Result.andThen, h, goInt, World.putObj]
theorem run_next_stop {P : Program} (w : World) (it : Nat) (s : ByteArray) (pos : Nat) (ty : TypeId) (hit : w.heap[it]? = some (.stringIter s pos)) (h : ¬ pos < s.size) :
    (Instr.next (.pointer (some ⟨it, 0, none⟩)) true ty).run P w = .ok (.tuple #[.bool false]) w := by
  simp [Instr.next, getObj, Sem.run, hit, h]

/-- What the iterator hands on. -/
def encs2 (x : Int × Int) : Array Value := #[.int .i64 x.1, .int .i32 x.2]
def prs (l : List UInt8) : List (Int × Int) := (mks 0 l).map fun m => (m.pl, m.ru)
def prF (l : List UInt8) (t : Nat) : List (Int × Int) := (mks t (l.drop t)).map fun m => (m.pl, m.ru)
theorem prF_step (l : List UInt8) (t : Nat) (h : t < l.length) : prF l t = ((t : Int), ((dec (l.drop t)).1 : Int)) :: prF l (t + (dec (l.drop t)).2) := by
  have hne : l.drop t ≠ [] := fun e => by have := congrArg List.length e; simp at this; omega
  unfold prF
  rw [mks_cons t (l.drop t) hne, List.drop_drop]; rfl
theorem prF_end (l : List UInt8) (t : Nat) (h : ¬ t < l.length) : prF l t = [] := by
  unfold prF
  rw [List.drop_of_length_le (by omega), mks_nil]; rfl

set_option maxHeartbeats 1000000 in
theorem each_stops (F : Fence) (n : Nat) (h33 : F.fn 53) (hro : F.round = none) (hn : 1 ≤ n) (Bs : Nat) (l : List UInt8) (w : World) (hBs : Bs < w.heap.size) (hc : w.cell? ⟨Bs, 0, none⟩ = some (.string ⟨l.toArray⟩)) :
    SeqStopsA F n Tryd.prog 53 #[.pointer (some ⟨Bs, 0, none⟩)] encs2 (fun xs => xs = prs l) (fun pre => pre <+: prs l) (prs l).length w := fun lp J Jx W hbW hJ hJx hY h0 => by
  have hcW : W.cell? ⟨Bs, 0, none⟩ = some (.string ⟨l.toArray⟩) := (hbW.cell (p := ⟨Bs, 0, none⟩) hBs).trans hc
  refine callsIn_of_wp Tryd.func53 rfl h33 ?_ hro
  simp only [Tryd.ntmps53, List.size_toArray, List.length_cons, List.length_nil, Nat.reduceAdd, Nat.reduceSub, Array.replicate_succ, Array.replicate_zero, List.push_toArray, List.append_toArray, List.nil_append, List.cons_append]
  have hsz : (⟨l.toArray⟩ : ByteArray).size = l.length := by show l.toArray.size = _; simp
  have HSZ := hid hsz
  clear hsz
  gi_wp2
  have hJ0 : J [] (W.iter ⟨l.toArray⟩ 0) := hJ [] W _ none h0 (World.grownBy_alloc W _ none) (fun r e => by cases e)
  have hit0 : (W.iter ⟨l.toArray⟩ 0).heap[W.heap.size]? = some (.stringIter ⟨l.toArray⟩ 0) := World.iter_heap W _ 0
  gi_loopw [3] (fun _ wr => ∃ (t : Nat) (pre : List (Int × Int)), t ≤ l.length ∧ Hid (prs l = pre ++ prF l t) ∧ Hid (wr.heap[W.heap.size]? = some (.stringIter ⟨l.toArray⟩ t)) ∧ Hid (J pre wr)) (fun _ wr => l.length - wr.iterPos W.heap.size)
  case atStart => exact ⟨0, [], by omega, by show prs l = [] ++ prF l 0; simp [prs, prF], hit0, hJ0⟩
  case round =>
    obtain ⟨t, pre, htl, HP, HI, HJ⟩ := hrel
    clear hJ0 hit0
    by_cases hlt : t < l.length
    · have hnx := run_next_at (P := Tryd.prog) wr W.heap.size ⟨l.toArray⟩ t 0 HI.out (by rw [HSZ.out]; exact hlt)
      rw [decode_place l t hlt] at hnx
      have hP2 := HP.out
      rw [prF_step l t hlt] at hP2
      have hne : l.drop t ≠ [] := fun e => by have := congrArg List.length e; simp at this; omega
      have d1 := dec_ge _ hne
      have d2 := dec_le _ hne
      simp only [List.length_drop] at d2
      obtain ⟨nn, hnn⟩ : ∃ nn, nn = (dec (l.drop t)).2 := ⟨_, rfl⟩
      obtain ⟨rr, hrr⟩ : ∃ rr, rr = (dec (l.drop t)).1 := ⟨_, rfl⟩
      rw [← hnn] at hnx hP2 d1 d2
      rw [← hrr] at hnx hP2
      obtain ⟨w1, hw1⟩ : ∃ w1, w1 = wr.putObj W.heap.size (.stringIter ⟨l.toArray⟩ (t + nn)) := ⟨_, rfl⟩
      rw [← hw1] at hnx
      have hin : W.heap.size < wr.heap.size := (Array.getElem?_eq_some_iff.1 HI.out).1
      have hJ1 : J pre w1 := by
        rw [hw1]
        exact hJ pre wr _ (some W.heap.size) HJ.out (grownBy_putObj' wr _ _) (fun r e => by cases e; exact ⟨Nat.le_refl _, _, HI.out, rfl⟩)
      have hI1 : w1.heap[W.heap.size]? = some (.stringIter ⟨l.toArray⟩ (t + nn)) := by rw [hw1]; exact World.putObj_heap_same hin
      have hmes : l.length - wr.iterPos W.heap.size = l.length - t := by unfold World.iterPos; rw [HI.out]
      obtain ⟨fn, tmps, assign, body, hy, hR⟩ := hY pre ((t : Int), (rr : Int)) w1 hJ1 (by rw [hP2]; simp)
      dsimp only [encs2] at hy
      have HP2 := hid hP2
      have HI1 := hid hI1
      have HM := hid hmes
      clear hP2 hne hnn hrr hw1 hJ1 hI1 hmes
      gi_wp2
      refine hR.mono ?_
      rintro e W3 (⟨rfl, hJ3, hk3⟩ | ⟨rfl, hJx3⟩)
      · have hI3 := hk3.same _ _ HI1.out rfl
        have HI3 := hid hI3
        have HJ3 := hid hJ3
        clear hI3 hJ3 hk3
        gi_wp2
        go_roundw
        case rel => exact ⟨t + nn, pre ++ [((t : Int), (rr : Int))], by omega, by show prs l = _; rw [HP2.out]; simp, HI3, HJ3⟩
        case measure =>
          rw [HM.out]
          unfold World.iterPos
          rw [HI3.out]
          simp only []
          omega
      · have HJX := hid hJx3
        clear hJx3
        gi_wp2
        refine bodyPost_ret (results_none rfl _ _ _) rfl ?_
        exact ⟨⟨_, rfl⟩, .inr ⟨pre ++ [((t : Int), (rr : Int))], ⟨prF l (t + nn), by rw [HP2.out]; simp⟩, HJX.out⟩⟩
    · have hnx := run_next_stop (P := Tryd.prog) wr W.heap.size ⟨l.toArray⟩ t 0 HI.out (by rw [HSZ.out]; exact hlt)
      have HF := hid (show prs l = pre by have h := HP.out; rw [prF_end l t hlt] at h; simpa using h)
      gi_wp2
      go_end0
      exact ⟨⟨_, rfl⟩, .inl ⟨pre, HF.out.symm, HJ.out⟩⟩
end Go.Proofs.YtflehkdijfhmgaaDoor
