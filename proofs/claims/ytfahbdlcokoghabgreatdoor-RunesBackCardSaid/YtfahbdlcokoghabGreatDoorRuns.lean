/- The contract of the iterator of Runs (package runes): it hands on the runs of a set in a text, in order. -/
import Derived.Test.YtfahbdlcokoghabGreatDoorRunMath
import Derived.RangeFuncNested
import Derived.RangeFuncBound
import Derived.RangeFuncCalls
import Derived.RangeFuncLeaves
import Derived.Shelf.Abstract
import Derived.Shelf.RegionOpen
import Derived.OwnWalkIn
import Derived.TacticsInMore
import Derived.LoopNIn
import Derived.LoopIn
import Derived.Maps.AppendAt
import Derived.Laws.RangeAny
namespace Go.Proofs.YtfahbdlcokoghabGreatDoor
open Go.RowKit Go.Shelf
attribute [local go_sem] Oper.semAt_some

theorem run_next_at {P : Program} (w : World) (it : Nat) (s : ByteArray) (pos : Nat) (ty : TypeId) (hit : w.heap[it]? = some (.stringIter s pos)) (h : pos < s.size) :
    (Instr.next (.pointer (some ⟨it, 0, none⟩)) true ty).run P w = .ok (.tuple #[.bool true, .int .i64 pos, .int .i32 (Utf8.decode s pos).1]) (w.putObj it (.stringIter s (pos + (Utf8.decode s pos).2))) := by
  simp [Instr.next, getObj, setObj, Sem.run_bind, Sem.run, hit, Result.andThen, h, goInt, World.putObj]
theorem run_next_stop {P : Program} (w : World) (it : Nat) (s : ByteArray) (pos : Nat) (ty : TypeId) (hit : w.heap[it]? = some (.stringIter s pos)) (h : ¬ pos < s.size) :
    (Instr.next (.pointer (some ⟨it, 0, none⟩)) true ty).run P w = .ok (.tuple #[.bool false]) w := by
  simp [Instr.next, getObj, Sem.run, hit, h]

/-- What a body must leave as it was: the walks, and some blocks. -/
def Kr (K : Nat → Prop) (W W' : World) : Prop := KeepsWalks W W' ∧ ∀ k, K k → W'.heap[k]? = W.heap[k]?
theorem Kr_t {K : Nat → Prop} {A B C : World} (h : Kr K A B) (k : Kr K B C) : Kr K A C := ⟨h.1.trans k.1, fun i h1 => (k.2 i h1).trans (h.2 i h1)⟩
theorem Kr_b {K : Nat → Prop} {w : World} (hw : ∀ k, K k → k < w.heap.size) (W : World) (l : Nat) (o o' : Obj) (hl : w.heap.size ≤ l) (h : W.heap[l]? = some o) (_ : o.isCells = false) (hk : o.isWalk = false) : Kr K W (W.putObj l o') :=
  ⟨KeepsWalks.putObj _ h hk, fun k h2 => World.putObj_heap_other (by have := hw k h2; omega)⟩

/-- The blocks that the iterator of Runs reads. -/
def KR (Bs Bl : Nat) (so : Option Addr) (k : Nat) : Prop := k = Bs ∨ k = Bl ∨ ∃ a : Addr, so = some a ∧ a.block = k
/-- What the iterator of Runs has caught: the text and a normal form. -/
structure RunsAt (Bs Bl : Nat) (l : List UInt8) (so : Option Addr) (sc : Nat) (s : List Rg) (w : World) : Prop where
  bs : Boxed w Bs 9 (.string ⟨l.toArray⟩)
  bl : Boxed w Bl 22 (.slice so s.length sc)
  row : ∀ a : Addr, so = some a → ∃ c fz, w.heap[a.block]? = some (.cells c 33 fz)
  rd : RdR w so s
theorem RunsAt.lt {Bs Bl : Nat} {l : List UInt8} {so : Option Addr} {sc : Nat} {s : List Rg} {w : World} (h : RunsAt Bs Bl l so sc s w) : ∀ k, KR Bs Bl so k → k < w.heap.size := fun k hk => by
  rcases hk with rfl | rfl | ⟨a, h1, rfl⟩
  · exact h.bs.lt
  · exact h.bl.lt
  · obtain ⟨c, fz, hc⟩ := h.row a h1
    exact (Array.getElem?_eq_some_iff.1 hc).1
theorem RunsAt.keeps {Bs Bl : Nat} {l : List UInt8} {so : Option Addr} {sc : Nat} {s : List Rg} {w w' : World} (h : RunsAt Bs Bl l so sc s w) (hs : w.heap.size ≤ w'.heap.size) (hk : ∀ k, KR Bs Bl so k → w'.heap[k]? = w.heap[k]?) : RunsAt Bs Bl l so sc s w' where
  bs := (hk Bs (.inl rfl)).trans h.bs
  bl := (hk Bl (.inr (.inl rfl))).trans h.bl
  row := fun a ha => by
    obtain ⟨c, fz, hc⟩ := h.row a ha
    exact ⟨c, fz, (hk a.block (.inr (.inr ⟨a, ha, rfl⟩))).trans hc⟩
  rd := fun k g hg => by
    obtain ⟨a, h1, h2, h3, h4⟩ := h.rd k g hg
    have hb := hk a.block (.inr (.inr ⟨a, h1, rfl⟩))
    exact ⟨a, h1, Nat.lt_of_lt_of_le h2 hs, (World.cell?_of_block (w := w) (a := a.add (k * 2)) (by rw [add_blk]; exact hb)).trans h3, (World.cell?_of_block (w := w) (a := ⟨(a.add (k * 2)).block, (a.add (k * 2)).off + 1, none⟩) (by show _[(a.add (k * 2)).block]? = _[(a.add (k * 2)).block]?; rw [add_blk]; exact hb)).trans h4⟩
theorem RunsAt.below {Bs Bl B : Nat} {l : List UInt8} {so : Option Addr} {sc : Nat} {s : List Rg} {w w' : World} (h : RunsAt Bs Bl l so sc s w) (hb : Below B w w') (hB : w.heap.size ≤ B) : RunsAt Bs Bl l so sc s w' :=
  h.keeps hb.size (fun k h2 => hb.block k (Nat.lt_of_lt_of_le (h.lt k h2) hB))
theorem grown_below {w w' : World} (h : Below w.heap.size w w') : w.grownBy w' none := ⟨h.os, h.tape, h.output, h.size, fun k hk _ => h.block k hk⟩

def encR (l : List UInt8) (x : Tw l) : Array Value := #[.int .i64 (x.val.1 : Int), .int .i64 (x.val.2 : Int)]

set_option maxHeartbeats 1000000 in
theorem runs_stops (n : Nat) (hn : 1 ≤ n) (Bs Bl : Nat) (l : List UInt8) (so : Option Addr) (sc : Nat) (s : List Rg) (w : World) (hR : RunsAt Bs Bl l so sc s w) (hnf : nf s) (hs : s.length ≤ 100000) :
    SeqStopsK Fence.wide n Tryz.prog 35 #[.pointer (some ⟨Bs, 0, none⟩), .pointer (some ⟨Bl, 0, none⟩)] (encR l) (Kr (KR Bs Bl so)) (fun xs => xs = rst (fun r => hasB r s) l none 0) (fun pre => pre <+: rst (fun r => hasB r s) l none 0) (rst (fun r => hasB r s) l none 0).length w := fun lp J Jx W hbW hJ hJx hY h0 => by
  have hRW := hR.below hbW (Nat.le_refl _)
  have hcW := hRW.bs.cell
  have HRW := hid hRW
  have HNF := hid hnf
  have hsz : (⟨l.toArray⟩ : ByteArray).size = l.length := by show l.toArray.size = _; simp
  have HSZ := hid hsz
  clear hsz hRW hR hnf hbW
  refine callsIn_of_wp Tryz.func35 rfl trivial ?_ rfl
  simp only [Tryz.ntmps35, List.size_toArray, List.length_cons, List.length_nil, Nat.reduceAdd, Nat.reduceSub, Array.replicate_succ, Array.replicate_zero, List.push_toArray, List.append_toArray, List.nil_append, List.cons_append]
  gi_wp2
  have hJ0 : J [] (W.iter ⟨l.toArray⟩ 0) := hJ [] W _ none h0 (World.grownBy_alloc W _ none) (fun r e => by cases e)
  have hit0 : (W.iter ⟨l.toArray⟩ 0).heap[W.heap.size]? = some (.stringIter ⟨l.toArray⟩ 0) := World.iter_heap W _ 0
  have HRI := hid (HRW.out.below (B := W.heap.size) ((Below.refl _ W).alloc (Nat.le_refl _) (.stringIter ⟨l.toArray⟩ 0)) (Nat.le_refl _))
  gi_loopw [4] (fun v wr => ∃ (t : Nat) (f : Option Nat) (pre : List (Tw l)), v = .int .i64 (frI f) ∧ (∀ f', f = some f' → f' ≤ t ∧ f' ≤ l.length) ∧ Hid (rst (fun r => hasB r s) l none 0 = pre ++ rst (fun r => hasB r s) l f t) ∧ Hid (wr.heap[W.heap.size]? = some (.stringIter ⟨l.toArray⟩ t)) ∧ Hid (J pre wr) ∧ Hid (RunsAt Bs Bl l so sc s wr)) (fun _ wr => l.length - wr.iterPos W.heap.size)
  case atStart => exact ⟨0, none, [], rfl, fun _ e => (by cases e), by simp [Hid], hit0, hJ0, HRI⟩
  case round =>
    obtain ⟨t, f, pre, rfl, hf, HP, HI, HJ, HRr⟩ := hrel
    clear hJ0 hit0 HRI
    by_cases hlt : t < l.length
    · have hnx := run_next_at (P := Tryz.prog) wr W.heap.size ⟨l.toArray⟩ t 0 HI.out (by rw [HSZ.out]; exact hlt)
      have d1 := Lib.width_pos ⟨l.toArray⟩ t
      have HI0 := hid (rst_in0 (fun r => hasB r s) l t hlt)
      have HI1 := hid (fun f => rst_in1 (fun r => hasB r s) l f t hlt)
      have HO0 := hid (rst_out0 (fun r => hasB r s) l t hlt)
      have HO1 := hid (fun f => rst_out1 (fun r => hasB r s) l f t hlt)
      obtain ⟨nn, hnn⟩ : ∃ nn, nn = (Utf8.decode ⟨l.toArray⟩ t).2 := ⟨_, rfl⟩
      obtain ⟨rr, hrr⟩ : ∃ rr : Int, rr = ((Utf8.decode ⟨l.toArray⟩ t).1 : Int) := ⟨_, rfl⟩
      rw [← hnn] at hnx d1 HI0 HI1 HO0 HO1
      rw [← hrr] at hnx HI0 HI1 HO0 HO1
      obtain ⟨w1, hw1⟩ : ∃ w1, w1 = wr.putObj W.heap.size (.stringIter ⟨l.toArray⟩ (t + nn)) := ⟨_, rfl⟩
      rw [← hw1] at hnx
      have hin : W.heap.size < wr.heap.size := (Array.getElem?_eq_some_iff.1 HI.out).1
      have hJ1 : J pre w1 := by
        rw [hw1]
        exact hJ pre wr _ (some W.heap.size) HJ.out (grownBy_putObj' wr _ _) (fun r e => by cases e; exact ⟨Nat.le_refl _, _, HI.out, rfl⟩)
      have hIt1 : w1.heap[W.heap.size]? = some (.stringIter ⟨l.toArray⟩ (t + nn)) := by rw [hw1]; exact World.putObj_heap_same hin
      have hR1 : RunsAt Bs Bl l so sc s w1 := by
        rw [hw1]
        exact HRr.out.keeps (grownBy_putObj' wr _ _).size (fun k h2 => World.putObj_heap_other (by have := HRW.out.lt k h2; omega))
      have hmes : l.length - wr.iterPos W.heap.size = l.length - t := by unfold World.iterPos; rw [HI.out]
      have HM := hid hmes
      have HFI := hid (find_any so sc s rr w1 hR1.rd hs HNF.out)
      have hcl := hR1.bl.cell
      clear hmes hnn hrr hw1
      have HR1 := hid hR1
      have HJ1 := hid hJ1
      have HIt1 := hid hIt1
      clear hR1 hJ1 hIt1
      gi_wp2_with fail
      refine ⟨trivial, (callsIn_wide.2 HFI.out).mono ?_⟩
      rintro e w2 ⟨kk, rfl, _, hb2⟩
      have HJ2 := hid (hJ pre w1 w2 none HJ1.out (grown_below hb2) (fun r e => by cases e))
      have HR2 := hid (HR1.out.below hb2 (Nat.le_refl _))
      have HIt2 := hid ((hb2.block W.heap.size (Array.getElem?_eq_some_iff.1 HIt1.out).1).trans HIt1.out)
      have hcs2 := HR2.out.bs.cell
      clear hb2 HFI HJ1 HR1 HIt1 hcl
      cases hb : hasB rr s with
      | true =>
        cases f with
        | none =>
          have HP2 := hid (show rst (fun r => hasB r s) l none 0 = pre ++ rst (fun r => hasB r s) l (some t) (t + nn) by rw [HP.out, HI0.out hb])
          clear HI0 HI1 HO0 HO1 hb HP hY
          dsimp only [frI]
          gi_wp2
          go_roundw
          case rel => exact ⟨t + nn, some t, pre, rfl, fun f' e => (by cases e; omega), HP2, HIt2, HJ2, HR2⟩
          case measure =>
            rw [HM.out]
            unfold World.iterPos
            rw [HIt2.out]
            simp only []
            omega
        | some f =>
          have HP2 := hid (show rst (fun r => hasB r s) l none 0 = pre ++ rst (fun r => hasB r s) l (some f) (t + nn) by rw [HP.out, HI1.out f hb])
          obtain ⟨f1, f2⟩ := hf f rfl
          clear HI0 HI1 HO0 HO1 hb HP hY hf
          dsimp only [frI]
          gi_wp2
          go_roundw
          case rel => exact ⟨t + nn, some f, pre, rfl, fun f' e => (by cases e; omega), HP2, HIt2, HJ2, HR2⟩
          case measure =>
            rw [HM.out]
            unfold World.iterPos
            rw [HIt2.out]
            simp only []
            omega
      | false =>
        cases f with
        | none =>
          have HP2 := hid (show rst (fun r => hasB r s) l none 0 = pre ++ rst (fun r => hasB r s) l none (t + nn) by rw [HP.out, HO0.out hb])
          clear HI0 HI1 HO0 HO1 hb HP hY
          dsimp only [frI]
          gi_wp2
          go_roundw
          case rel => exact ⟨t + nn, none, pre, rfl, fun f' e => (by cases e), HP2, HIt2, HJ2, HR2⟩
          case measure =>
            rw [HM.out]
            unfold World.iterPos
            rw [HIt2.out]
            simp only []
            omega
        | some f =>
          obtain ⟨f1, f2⟩ := hf f rfl
          have hP2 := HP.out
          rw [HO1.out f f1 hb] at hP2
          obtain ⟨fn, tmps, assign, body, hy, hR⟩ := hY pre ⟨(f, t), f1, by show t ≤ l.length; omega⟩ w2 HJ2.out (by rw [hP2]; simp)
          dsimp only [encR] at hy
          have HP2 := hid hP2
          clear HI0 HI1 HO0 HO1 hb HP hY hf hP2
          dsimp only [frI]
          gi_wp2
          refine hR.mono ?_
          rintro e W3 (⟨rfl, hJ3, hk3⟩ | ⟨rfl, hJx3⟩)
          · have HI3 := hid (hk3.1.same _ _ HIt2.out rfl)
            have HJ3 := hid hJ3
            have HR3 := hid (HR2.out.keeps hk3.1.size hk3.2)
            clear hJ3 hk3
            gi_wp2
            go_roundw
            case rel => exact ⟨t + nn, none, pre ++ [⟨(f, t), f1, by show t ≤ l.length; omega⟩], rfl, fun f' e => (by cases e), by show rst (fun r => hasB r s) l none 0 = _; rw [HP2.out]; simp, HI3, HJ3, HR3⟩
            case measure =>
              rw [HM.out]
              unfold World.iterPos
              rw [HI3.out]
              simp only []
              omega
          · have HJX := hid hJx3
            clear hJx3
            gi_wp2
            refine bodyPost_ret (results_none rfl _ _ _) rfl ?_
            exact ⟨⟨_, rfl⟩, .inr ⟨pre ++ [⟨(f, t), f1, by show t ≤ l.length; omega⟩], ⟨rst (fun r => hasB r s) l none (t + nn), by rw [HP2.out]; simp⟩, HJX.out⟩⟩
    · have hnx := run_next_stop (P := Tryz.prog) wr W.heap.size ⟨l.toArray⟩ t 0 HI.out (by rw [HSZ.out]; exact hlt)
      have hcs := HRr.out.bs.cell
      cases f with
      | none =>
        have HF := hid (show rst (fun r => hasB r s) l none 0 = pre by have h := HP.out; rw [rst_end0 _ l t hlt] at h; simpa using h)
        clear hY
        dsimp only [frI]
        gi_wp2
        go_end0
        exact ⟨⟨_, rfl⟩, .inl ⟨pre, HF.out.symm, HJ.out⟩⟩
      | some f =>
        obtain ⟨f1, f2⟩ := hf f rfl
        have hP2 := HP.out
        rw [rst_end1 _ l f t hlt f2] at hP2
        obtain ⟨fn, tmps, assign, body, hy, hR⟩ := hY pre ⟨(f, l.length), f2, Nat.le_refl _⟩ wr HJ.out (by rw [hP2]; simp)
        dsimp only [encR] at hy
        have HP2 := hid hP2
        clear HP hY hf hP2
        dsimp only [frI]
        gi_wp2
        refine hR.mono ?_
        rintro e W3 (⟨rfl, hJ3, hk3⟩ | ⟨rfl, hJx3⟩)
        · have HJ3 := hid hJ3
          clear hJ3 hk3
          gi_wp2
          go_end0
          exact ⟨⟨_, rfl⟩, .inl ⟨pre ++ [⟨(f, l.length), f2, Nat.le_refl _⟩], HP2.out.symm, HJ3.out⟩⟩
        · have HJX := hid hJx3
          clear hJx3
          gi_wp2
          go_end0
          exact ⟨⟨_, rfl⟩, .inr ⟨pre ++ [⟨(f, l.length), f2, Nat.le_refl _⟩], ⟨[], by rw [HP2.out]; simp⟩, HJX.out⟩⟩
end Go.Proofs.YtfahbdlcokoghabGreatDoor

