/- The contract of the iterator of Each (package utf): it hands on the runes of a text with their places, in order. -/
import Derived.RangeFuncNested
import Derived.RangeFuncBound
import Derived.RangeFuncCalls
import Derived.RangeFuncLeaves
import Derived.Shelf.Abstract
import Derived.Shelf.RegionOpen
import Derived.OwnWalkIn
import Derived.TacticsInMore
import Derived.LoopNIn
import Derived.LoopIn
import Derived.Maps.AppendAt
import Derived.Laws.RangeAny
import Derived.Test.YtlfegdpclappiaaDoorBase
import Derived.Test.YtlfegdpclappiaaDoorRMath
import Derived.Test.YtlfegdpclappiaaDoorWtFitJoint
import Derived.Test.YtlfegdpclappiaaDoorGrPlcJoint
import Derived.Test.YtlfegdpclappiaaDoorLiveRun
import Derived.Test.YtlfegdpclappiaaDoorGrBackJoint
import Derived.Test.YtlfegdpclappiaaDoorGrTurnJoint
import Derived.Test.YtlfegdpclappiaaDoorEvA
namespace Go.Proofs.YtlfegdpclappiaaDoor
open Go.RowKit Go.Shelf
attribute [local go_sem] Oper.semAt_some

theorem run_next_at {P : Program} (w : World) (it : Nat) (s : ByteArray) (pos : Nat) (ty : TypeId) (hit : w.heap[it]? = some (.stringIter s pos)) (h : pos < s.size) :
    (Instr.next (.pointer (some ⟨it, 0, none⟩)) true ty).run P w = .ok (.tuple #[.bool true, .int .i64 pos, .int .i32 (Utf8.decode s pos).1]) (w.putObj it (.stringIter s (pos + (Utf8.decode s pos).2))) := by
  simp [Instr.next, getObj, setObj, Sem.run_bind, Sem.run, hit, Result.andThen, h, goInt, World.putObj]
theorem run_next_stop {P : Program} (w : World) (it : Nat) (s : ByteArray) (pos : Nat) (ty : TypeId) (hit : w.heap[it]? = some (.stringIter s pos)) (h : ¬ pos < s.size) :
    (Instr.next (.pointer (some ⟨it, 0, none⟩)) true ty).run P w = .ok (.tuple #[.bool false]) w := by
  simp [Instr.next, getObj, Sem.run, hit, h]

/-- What the iterator hands on. -/
def encs2 (x : Int × Int) : Array Value := #[.int .i64 x.1, .int .i32 x.2]
set_option maxHeartbeats 1000000 in
theorem each_stops (F : Fence) (n : Nat) (h33 : F.fn 54) (hro : F.round = none) (hn : 1 ≤ n) (Bs : Nat) (l : List UInt8) (w : World) (hBs : Bs < w.heap.size) (hc : w.cell? ⟨Bs, 0, none⟩ = some (.string ⟨l.toArray⟩)) :
    SeqStopsA F n Tryd.prog 54 #[.pointer (some ⟨Bs, 0, none⟩)] encs2 (fun xs => xs = prs l) (fun pre => pre <+: prs l) (prs l).length w := fun lp J Jx W hbW hJ hJx hY h0 => by
  have hcW : W.cell? ⟨Bs, 0, none⟩ = some (.string ⟨l.toArray⟩) := (hbW.cell (p := ⟨Bs, 0, none⟩) hBs).trans hc
  refine callsIn_of_wp Tryd.func54 rfl h33 ?_ hro
  simp only [Tryd.ntmps54, List.size_toArray, List.length_cons, List.length_nil, Nat.reduceAdd, Nat.reduceSub, Array.replicate_succ, Array.replicate_zero, List.push_toArray, List.append_toArray, List.nil_append, List.cons_append]
  have hsz : (⟨l.toArray⟩ : ByteArray).size = l.length := by show l.toArray.size = _; simp
  have HSZ := hid hsz
  clear hsz
  gi_wp2
  have hJ0 : J [] (W.iter ⟨l.toArray⟩ 0) := hJ [] W _ none h0 (World.grownBy_alloc W _ none) (fun r e => by cases e)
  have hit0 : (W.iter ⟨l.toArray⟩ 0).heap[W.heap.size]? = some (.stringIter ⟨l.toArray⟩ 0) := World.iter_heap W _ 0
  gi_loopw [3] (fun _ wr => ∃ (t : Nat) (pre : List (Int × Int)), t ≤ l.length ∧ Hid (prs l = pre ++ prF l t) ∧ Hid (wr.heap[W.heap.size]? = some (.stringIter ⟨l.toArray⟩ t)) ∧ Hid (J pre wr)) (fun _ wr => l.length - wr.iterPos W.heap.size)
  case atStart => exact ⟨0, [], by omega, by show prs l = [] ++ prF l 0; simp [prs, prF], hit0, hJ0⟩
  case round =>
    obtain ⟨t, pre, htl, HP, HI, HJ⟩ := hrel
    clear hJ0 hit0
    by_cases hlt : t < l.length
    · have hnx := run_next_at (P := Tryd.prog) wr W.heap.size ⟨l.toArray⟩ t 0 HI.out (by rw [HSZ.out]; exact hlt)
      rw [decode_place l t hlt] at hnx
      have hP2 := HP.out
      rw [prF_step l t hlt] at hP2
      have hne : l.drop t ≠ [] := fun e => by have := congrArg List.length e; simp at this; omega
      have d1 := dec_ge _ hne
      have d2 := dec_le _ hne
      simp only [List.length_drop] at d2
      obtain ⟨nn, hnn⟩ : ∃ nn, nn = (dec (l.drop t)).2 := ⟨_, rfl⟩
      obtain ⟨rr, hrr⟩ : ∃ rr, rr = (dec (l.drop t)).1 := ⟨_, rfl⟩
      rw [← hnn] at hnx hP2 d1 d2
      rw [← hrr] at hnx hP2
      obtain ⟨w1, hw1⟩ : ∃ w1, w1 = wr.putObj W.heap.size (.stringIter ⟨l.toArray⟩ (t + nn)) := ⟨_, rfl⟩
      rw [← hw1] at hnx
      have hin : W.heap.size < wr.heap.size := (Array.getElem?_eq_some_iff.1 HI.out).1
      have hJ1 : J pre w1 := by
        rw [hw1]
        exact hJ pre wr _ (some W.heap.size) HJ.out (grownBy_putObj' wr _ _) (fun r e => by cases e; exact ⟨Nat.le_refl _, _, HI.out, rfl⟩)
      have hI1 : w1.heap[W.heap.size]? = some (.stringIter ⟨l.toArray⟩ (t + nn)) := by rw [hw1]; exact World.putObj_heap_same hin
      have hmes : l.length - wr.iterPos W.heap.size = l.length - t := by unfold World.iterPos; rw [HI.out]
      obtain ⟨fn, tmps, assign, body, hy, hR⟩ := hY pre ((t : Int), (rr : Int)) w1 hJ1 (by rw [hP2]; simp)
      dsimp only [encs2] at hy
      have HP2 := hid hP2
      have HI1 := hid hI1
      have HM := hid hmes
      clear hP2 hne hnn hrr hw1 hJ1 hI1 hmes
      gi_wp2
      refine hR.mono ?_
      rintro e W3 (⟨rfl, hJ3, hk3⟩ | ⟨rfl, hJx3⟩)
      · have hI3 := hk3.same _ _ HI1.out rfl
        have HI3 := hid hI3
        have HJ3 := hid hJ3
        clear hI3 hJ3 hk3
        gi_wp2
        go_roundw
        case rel => exact ⟨t + nn, pre ++ [((t : Int), (rr : Int))], by omega, by show prs l = _; rw [HP2.out]; simp, HI3, HJ3⟩
        case measure =>
          rw [HM.out]
          unfold World.iterPos
          rw [HI3.out]
          simp only []
          omega
      · have HJX := hid hJx3
        clear hJx3
        gi_wp2
        refine bodyPost_ret (results_none rfl _ _ _) rfl ?_
        exact ⟨⟨_, rfl⟩, .inr ⟨pre ++ [((t : Int), (rr : Int))], ⟨prF l (t + nn), by rw [HP2.out]; simp⟩, HJX.out⟩⟩
    · have hnx := run_next_stop (P := Tryd.prog) wr W.heap.size ⟨l.toArray⟩ t 0 HI.out (by rw [HSZ.out]; exact hlt)
      have HF := hid (show prs l = pre by have h := HP.out; rw [prF_end l t hlt] at h; simpa using h)
      gi_wp2
      go_end0
      exact ⟨⟨_, rfl⟩, .inl ⟨pre, HF.out.symm, HJ.out⟩⟩

theorem Tryd.info21 : (Tryd.prog.info? 21).map (fun i => (i.zero, i.size, i.bytes)) = some (some (.int .i32 0), 1, 4) := by kernel_rfl

set_option maxHeartbeats 400000 in
theorem each_any (l : List UInt8) (w : World) :
    Calls Tryd.prog 28 #[.string ⟨l.toArray⟩] w fun e w' => e = .returned (.func (.func 54) #[] #[.pointer (some ⟨w.heap.size, 0, none⟩)]) ∧ w' = w.alloc (.cells #[.string ⟨l.toArray⟩] 9) := by
  go_enter Tryd.func28, Tryd.ntmps28
  go_wp2
  go_ret
  exact ⟨rfl, rfl⟩

theorem mksLen (l : List UInt8) : ∀ (n t : Nat), l.length - t ≤ n → (mks t (l.drop t)).length ≤ l.length - t
  | 0, t, h => by rw [mks_end l t (by omega)]; simp
  | n + 1, t, h => by
    by_cases ht : t < l.length
    · rw [mks_at l t ht]
      have hw := wid_ge l t ht
      have hw2 := wid_le l t ht
      have := mksLen l n (t + wid l t) (by omega)
      simp; omega
    · rw [mks_end l t ht]; simp
theorem prs_len (l : List UInt8) : (prs l).length ≤ l.length := by
  have := mksLen l l.length 0 (by omega)
  unfold prs
  simpa using this

/-- The runes that have come, as values. -/
def r32 (xs : List (Int × Int)) : List Value := xs.map fun x => Value.int .i32 x.2
theorem r32_snoc (xs : List (Int × Int)) (x : Int × Int) : r32 (xs ++ [x]) = r32 xs ++ [.int .i32 x.2] := by simp [r32]

set_option maxHeartbeats 1000000 in
theorem runes_in (l : List UInt8) (w : World) (hl : l.length ≤ 1000000000000) :
    CallsIn Fence.wide 3 Tryd.prog 9 #[.string ⟨l.toArray⟩] w fun e W' => ∃ v, e = .returned v ∧ W'.ownsRow w.heap.size 21 1 v (prs l).length (r32 (prs l)) ∧ Below w.heap.size w W' := by
  obtain ⟨i0, hi, hz0, hz1, hz2⟩ := info_parts Tryd.info21
  have hcnt : Lib.runeCount ⟨l.toArray⟩ ≤ l.length := by
    have h := Lib.runeCount_le ⟨l.toArray⟩
    have hs : (⟨l.toArray⟩ : ByteArray).size = l.length := by show l.toArray.size = _; simp
    rw [hs] at h; exact h
  refine callsIn_of_wp_marks Tryd.func9 rfl trivial ?_ rfl
  simp only [Tryd.ntmps9, List.size_toArray, List.length_cons, List.length_nil, Nat.reduceAdd, Nat.reduceSub, Array.replicate_succ, Array.replicate_zero, List.push_toArray, List.append_toArray, List.nil_append, List.cons_append]
  gi_wp2_with (first | (refine ⟨trivial, ?_⟩; gi_at_call 27; refine (callsIn_wide.2 (count_any l _ (by omega))).mono ?_; rintro e w1 ⟨rfl, hb1⟩) | (gi_at_make; refine wpListIn_make_own _ rfl _ _ 24 rfl w.heap.size 21 i0 (.int .i32 0) 1 Tryd.underlying24 hi hz0 hz1 .i64 .i64 _ (Lib.runeCount ⟨l.toArray⟩) rfl rfl rfl (by rw [hz2]; omega) (by unfold maxLen; omega) hb1.size ?_; intro w2 hown2 hgrow2) | (refine ⟨trivial, ?_⟩; gi_at_call 28; refine (callsIn_wide.2 (each_any l _)).mono ?_; rintro e w' ⟨rfl, rfl⟩))
  have hB2 : Below w.heap.size w w2 := hb1.grown hgrow2 hb1.size (fun k e => by cases e)
  have bL := Boxed.new w2 24 (.slice (some ⟨w1.heap.size, 0, none⟩) 0 (Lib.runeCount ⟨l.toArray⟩))
  have bS := Boxed.new (w2.alloc (.cells #[.slice (some ⟨w1.heap.size, 0, none⟩) 0 (Lib.runeCount ⟨l.toArray⟩)] 24)) 9 (.string ⟨l.toArray⟩)
  rw [World.size_alloc] at bS
  have hs2 := hB2.size
  have hB0 : Below w.heap.size w ((w2.alloc (.cells #[.slice (some ⟨w1.heap.size, 0, none⟩) 0 (Lib.runeCount ⟨l.toArray⟩)] 24)).alloc (.cells #[.string ⟨l.toArray⟩] 9)) := (hB2.alloc hs2 _).alloc (by simp; omega) _
  have hpl := prs_len l
  refine wpIn_rangeFunc_ownG rfl (by omega) (gf := 54) (lb := #[.pointer (some ⟨w2.heap.size + 1, 0, none⟩)]) rfl trivial (enters_of Tryd.func54 (by kernel_rfl) rfl)
    (seqStopsA_iff.1 (each_stops Fence.wide (3 - 1) trivial rfl (by omega) (w2.heap.size + 1) l _ (by simp) bS.cell)) walksK_t walksK_b (Below.refl _ _) (fun _ => rfl)
    (fun pre W => (∃ v, Boxed W w2.heap.size 24 v ∧ W.ownsRow w.heap.size 21 1 v pre.length (r32 pre) ∧ True) ∧ Below w.heap.size w W)
    (fun _ _ _ => False)
    (OwnFrom.and (Own.from (holdsRow_own w.heap.size w2.heap.size 24 21 1 (fun pre => pre.length) (fun pre => r32 pre) (fun _ _ => True)) _) (ownFrom_below (Nat.le_refl _) (by simp; omega)))
    (fun _ _ _ _ _ hs _ _ => hs)
    ⟨⟨_, bL.alloc _, (hown2.alloc _).alloc _, trivial⟩, hB0⟩
    (fun x => { tmps := #[.string ⟨l.toArray⟩, undef, .slice none 0 0, .pointer (some ⟨w2.heap.size, 0, none⟩), undef, .int .i32 x.2, .string ⟨l.toArray⟩, .int .i64 (Lib.runeCount ⟨l.toArray⟩), .slice (some ⟨w1.heap.size, 0, none⟩) 0 (Lib.runeCount ⟨l.toArray⟩), .string ⟨l.toArray⟩, .func (.func 54) #[] #[.pointer (some ⟨w2.heap.size + 1, 0, none⟩)], .int .i64 x.1, .int .i32 x.2, undef, undef, undef, undef, undef], defers := [] }) ?assign ?body ?done ?stop
  case assign =>
    intro lp x W K hK
    dsimp only [encs2]
    gi_wp2
    exact hK
  case body =>
    rintro lp pre x W ⟨⟨v, hv, hrow, _⟩, hB⟩ hlt
    have hc := hv.cell
    gi_wp2_with (gi_at_builtin; refine wpListIn_append_own _ rfl _ _ 24 rfl w.heap.size 21 i0 (.int .i32 0) 1 4 Tryd.underlying24 hi hz0 hz1 hz2 rfl (by decide) _ _ _ rfl (hrow.alloc _) ⟨W.heap.size, 0, none⟩ 1 1 [.int .i32 x.2] rfl rfl (cell_one_new _ _ _) (by simp [Value.oneCell']) (by unfold maxLen; omega) (by omega) (by have := hB.size; simp; omega) ?_; intro v' w3 hown' hgrow _; obtain ⟨g', cap', rfl⟩ := ownsRow_succ hown'; obtain ⟨hv1, hv2, hr2, hk2, hb2⟩ := hv.appended (by decide) hrow hB.size (by omega) hown' hgrow; have hc1 := hv1.cell; have hf1 := hv1.frozen)
    exact ⟨hk2.from _, ⟨hk2.size, fun k o h hw => hk2.same k o h (Obj.not_cells_of_walk hw)⟩, ⟨_, hv2, by rw [r32_snoc, List.length_append]; exact hr2, trivial⟩, hB.trans hb2⟩
  case done =>
    rintro D ys W hD rfl ⟨⟨v, hv, hrow, _⟩, hB⟩ hK
    have hc := hv.cell
    gi_wp2
    refine ⟨by simp, .inl ⟨_, _, rfl, run_takeDeferred hK, ?_⟩⟩
    exact ⟨_, results_tmp rfl _ _ _, v, rfl, ownsRow_putObj hrow _ hK rfl, hB.trans (belowK_b (w := w) (Nat.le_refl _) W D _ _ (by simp at hD; omega) hK rfl rfl)⟩
  case stop =>
    rintro D c pre W _ _ h _
    exact h.elim

theorem runes_any (l : List UInt8) (w : World) (hl : l.length ≤ 1000000000000) :
    Calls Tryd.prog 9 #[.string ⟨l.toArray⟩] w fun e W' => ∃ v, e = .returned v ∧ W'.ownsRow w.heap.size 21 1 v (prs l).length (r32 (prs l)) ∧ Below w.heap.size w W' :=
  callsIn_wide.1 (runes_in l w hl)
end Go.Proofs.YtlfegdpclappiaaDoor
/- A row of runes that reads as a text's runes. -/
namespace Go.Proofs.YtlfegdpclappiaaDoor
open Go.RowKit Go.Shelf

theorem mks_ru : ∀ (n p : Nat) (l : List UInt8), l.length ≤ n → (mks p l).map (·.ru) = (rl l).map fun x => (x.1 : Int)
  | n, p, l, hn => by
    by_cases h : l = []
    · subst h; rfl
    · have h1 := dec_ge l h
      have hp : 0 < l.length := List.length_pos_iff.2 h
      cases n with
      | zero => omega
      | succ n =>
        rw [mks_cons p l h, rl_cons l h, List.map_cons, List.map_cons, mks_ru n _ _ (by rw [List.length_drop]; omega)]
        rfl
theorem prs_rl (l : List UInt8) : r32 (prs l) = (rl l).map fun x => Value.int .i32 x.1 := by
  have h := mks_ru _ 0 l (Nat.le_refl _)
  unfold r32 prs
  rw [List.map_map]
  have e : (mks 0 l).map ((fun x : Int × Int => Value.int .i32 x.2) ∘ fun m : Mk => (m.pl, m.ru)) = ((mks 0 l).map (·.ru)).map (fun z => Value.int .i32 z) := by rw [List.map_map]; rfl
  rw [e, h, List.map_map]; rfl
theorem prs_len2 (l : List UInt8) : (prs l).length = (rl l).length := by
  have h := congrArg List.length (prs_rl l)
  simpa [r32] using h
/-- A slice of runes reads as a text's runes. -/
def RdQ (w : World) (ao : Option Addr) (K : List (Nat × Nat)) : Prop :=
  ∀ (k : Nat) (x : Nat × Nat), K[k]? = some x → ∃ a : Addr, ao = some a ∧ a.block < w.heap.size ∧ w.cell? (a.add k) = some (.int .i32 x.1)
theorem RdQ.below {w w' : World} {ao : Option Addr} {K : List (Nat × Nat)} (h : RdQ w ao K) (hb : Below w.heap.size w w') : RdQ w' ao K := fun k z hk => by
  obtain ⟨a, h1, h2, h3⟩ := h k z hk
  exact ⟨a, h1, Nat.lt_of_lt_of_le h2 hb.size, (hb.cell (p := a.add k) (by rw [add_blk]; exact h2)).trans h3⟩
theorem rdq_own {B n cap : Nat} {ao : Option Addr} {l : List UInt8} {w : World} (h : w.ownsRow B 21 1 (.slice ao n cap) n (r32 (prs l))) (hn : n = (rl l).length) : RdQ w ao (rl l) := by
  intro k x hk
  have hkl := (List.getElem?_eq_some_iff.1 hk).1
  rcases h.2 with ⟨h', h0⟩ | ⟨q, cap', cur, h', hb, hg, hnc, hcm, hcs, htk⟩
  · omega
  · simp only [Value.slice.injEq, true_and] at h'
    obtain ⟨rfl, rfl⟩ := h'
    refine ⟨_, rfl, (h.lt q rfl).2, ?_⟩
    rw [Addr.add_lit, Nat.zero_add, h.cellAt k (by omega), prs_rl, List.getElem?_map, hk]; rfl
theorem wown_slice {w : World} {B e sz m : Nat} {v : Value} {xs : List Value} (h : w.ownsRow B e sz v m xs) : ∃ vo vc, v = .slice vo m vc := by
  rcases h.2 with ⟨rfl, h0⟩ | ⟨q, qc, _, rfl, _⟩
  · exact ⟨none, 0, by rw [h0]⟩
  · exact ⟨_, qc, rfl⟩
end Go.Proofs.YtlfegdpclappiaaDoor
/- What the walk of WidthFits shares: a struct of three numbers in memory, the tables, a number as a number. -/
namespace Go.Proofs.YtlfegdpclappiaaDoor
open Go.RowKit

theorem tbs_below {w w' : World} (h : Ev.Tbs tabs w) (hb : Below w.heap.size w w') : Ev.Tbs tabs w' := fun x hx => by
  obtain ⟨c, h1, h2⟩ := h x hx
  exact ⟨c, (hb.block _ (Array.getElem?_eq_some_iff.1 h1).1).trans h1, h2⟩
theorem wnum_any (z : Int) (w : World) : Calls Tryd.prog 17 #[.int .i64 z] w fun e w' => e = .returned (.int .i64 z) ∧ w' = w := by
  go_enter Tryd.func17, Tryd.ntmps17
  go_wp2
  go_ret
  exact ⟨rfl, rfl⟩
/-- A struct of three numbers in memory. -/
def Cel (w : World) (B : Nat) (a t s : Int) : Prop := w.cell? ⟨B, 0, none⟩ = some (.int .i64 a) ∧ w.cell? ⟨B, 1, none⟩ = some (.int .i64 t) ∧ w.cell? ⟨B, 2, none⟩ = some (.int .i64 s)
theorem cel_cells {w : World} {B : Nat} {a t s : Int} (h : w.heap[B]? = some (.cells #[.int .i64 a, .int .i64 t, .int .i64 s] 36 (0, 0))) : Cel w B a t s :=
  ⟨by simp [World.cell?, h], by simp [World.cell?, h], by simp [World.cell?, h]⟩
theorem Cel.kept {w w' : World} {B : Nat} {a t s : Int} (h : Cel w B a t s) (hb : Below w.heap.size w w') (hB : B < w.heap.size) : Cel w' B a t s :=
  ⟨(hb.cell (p := ⟨B, 0, none⟩) hB).trans h.1, (hb.cell (p := ⟨B, 1, none⟩) hB).trans h.2.1, (hb.cell (p := ⟨B, 2, none⟩) hB).trans h.2.2⟩
end Go.Proofs.YtlfegdpclappiaaDoor
/- The contract of Places (the document's), and of the closing look of chapter 11. -/
namespace Go.Proofs.YtlfegdpclappiaaDoor
open Go.RowKit Go.Shelf

/-- A row of numbers that is read. -/
def RdI (w : World) (ao : Option Addr) (l : List Int) : Prop :=
  ∀ (k : Nat) (z : Int), l[k]? = some z → ∃ a : Addr, ao = some a ∧ a.block < w.heap.size ∧ w.cell? (a.add k) = some (.int .i64 z)
theorem RdI.below {w w' : World} {ao : Option Addr} {l : List Int} (h : RdI w ao l) (hb : Below w.heap.size w w') : RdI w' ao l := fun k z hk => by
  obtain ⟨a, ha, hlt, hc⟩ := h k z hk
  exact ⟨a, ha, Nat.lt_of_lt_of_le hlt hb.size, (hb.cell (p := a.add k) (by rw [add_blk]; exact hlt)).trans hc⟩
set_option maxHeartbeats 1000000 in
set_option maxRecDepth 100000 in
/-- Two lists that are the same. -/
theorem places_any (ao bo : Option Addr) (n ac bc : Nat) (l : List Int) (w : World) (ha : RdI w ao l) (hb : RdI w bo l) (hn : n = l.length) (hl : n ≤ 100000) :
    Calls Tryd.prog 24 #[.slice ao n ac, .slice bo n bc] w fun e w' => e = .returned (.bool true) ∧ Below w.heap.size w w' := by
  have HA := hid ha
  have HB := hid hb
  have HN := hid hn
  clear ha hb hn
  go_enter Tryd.func24, Tryd.ntmps24
  go_wp2
  go_loopw [5] (fun i wr => ∃ k : Nat, k ≤ n ∧ i = .int .i64 k ∧ Hid (Below w.heap.size w wr)) (fun i _ => n - (intOf i).toNat)
  case atStart => exact ⟨0, by omega, rfl, Below.refl _ _⟩
  case round =>
    obtain ⟨k, hk, rfl, HBr⟩ := hrel
    by_cases hlt : k < n
    · have hkl : k < l.length := by have := HN.out; omega
      obtain ⟨a, rfl, _, a0⟩ := HA.out.below HBr.out k l[k] (List.getElem?_eq_getElem hkl)
      obtain ⟨b, rfl, _, b0⟩ := HB.out.below HBr.out k l[k] (List.getElem?_eq_getElem hkl)
      obtain ⟨x, hx⟩ : ∃ x, l[k] = x := ⟨_, rfl⟩
      rw [hx] at a0 b0
      have i3 : (k : Int) < (n : Int) := by omega
      have i0 : (0 : Int) ≤ (k : Int) := by omega
      have xx : (x != x) = false := bne_eq_false_iff_eq.2 rfl
      clear hx hkl
      go_wp2_with fail
      go_quiet (fail)
      go_wp2
      go_roundw
      case rel => exact ⟨k + 1, by omega, by go_num, below_drN HBr.out _⟩
      case measure => simp [intOf]; omega
    · have i3 : ¬ (k : Int) < (n : Int) := by omega
      go_wp2
      go_ret
      exact ⟨rfl, HBr.out⟩
def lvA : List UInt8 := [101, 204, 129, 120, 13, 10]
def lvB : List UInt8 := [240, 159, 135, 166, 240, 159, 135, 167, 240, 159, 135, 168]
def lvC : List UInt8 := [101, 204, 129, 120]
theorem lvA_gp : gpF lvA 0 = [(0, 3), (3, 4), (4, 6)] := by decide +kernel
theorem lvB_cnt : gcnt lvB = 2 := by decide +kernel
theorem lvC_trn : trn lvC = [120, 101, 204, 129] := by decide +kernel
namespace Ev
theorem next_run : runA Tryd.prog none7 1000000 60 tabs 26 [.string ⟨#[101, 204, 129, 120]⟩, .int .i64 0] (.int .i64 3) = true := by kernel_rfl
theorem next_lv (w : World) (hw : Tbs tabs w) : Calls Tryd.prog 26 ⟨[.string ⟨#[101, 204, 129, 120]⟩, .int .i64 0]⟩ w fun e w' => e = .returned (.int .i64 3) ∧ Below w.heap.size w w' := closed_args mixed none7_ok tabs_ok (by kernel_rfl) next_run w hw
end Ev
theorem rdi_own {B n cap : Nat} {ao : Option Addr} {xs : List Int} {w : World} (h : w.ownsRow B 3 1 (.slice ao n cap) n (i64s xs)) (hn : n = xs.length) : RdI w ao xs := by
  intro k x hk
  have hkl := (List.getElem?_eq_some_iff.1 hk).1
  rcases h.2 with ⟨h', h0⟩ | ⟨q, cap', cur, h', hb, hg, hnc, hcm, hcs, htk⟩
  · omega
  · simp only [Value.slice.injEq, true_and] at h'
    obtain ⟨rfl, rfl⟩ := h'
    refine ⟨_, rfl, (h.lt q rfl).2, ?_⟩
    rw [Addr.add_lit, Nat.zero_add, h.cellAt k (by omega)]
    unfold i64s
    rw [List.getElem?_map, hk]; rfl
set_option maxHeartbeats 2000000 in
set_option maxRecDepth 100000 in
/-- The closing look of chapter 11. -/
theorem lives11 (w : World) (ht : TbW w) (hw : Ev.Tbs tabs w) : Calls Tryd.prog 7 #[] w fun e w' => e = .returned (.bool true) ∧ Below w.heap.size w w' := by
  obtain ⟨L, hL, _⟩ := gp_all lvA _ 0 (Nat.le_refl _)
  have hG : gtos L = [0, 3, 4, 6] := by
    have h1 := hL.trans lvA_gp
    have h2 : L.map (fun x => (x.v.2 : Int)) = (L.map Pl.v).map (fun y => (y.2 : Int)) := by rw [List.map_map]; rfl
    unfold gtos
    rw [h2, h1]; rfl
  have HT := hid ht
  have HW := hid hw
  have HG := hid hG
  have HL := hid hL
  clear ht hw hG hL
  go_enter Tryd.func7, Tryd.ntmps7
  go_wp2_with fail
  refine (gbounds_any lvA L HL.out w HT.out (by decide) (by decide)).mono ?_
  rintro e w1 ⟨v, rfl, hown, be1⟩
  rw [HG.out] at hown
  obtain ⟨vo, vc, rfl⟩ := wown_slice hown
  have HR := hid (rdi_own hown rfl)
  have HE1 := hid be1
  clear hown be1
  have hbA : Below w1.heap.size w1 (w1.alloc (.cells #[.int .i64 0, .int .i64 3, .int .i64 4, .int .i64 6] 3)) := (Below.refl _ _).alloc (Nat.le_refl _) _
  have HR1 := hid (HR.out.below hbA)
  have hrB : RdI (w1.alloc (.cells #[.int .i64 0, .int .i64 3, .int .i64 4, .int .i64 6] 3)) (some ⟨w1.heap.size, 0, none⟩) [0, 3, 4, 6] := by
    have hr0 : (w1.alloc (.cells #[.int .i64 0, .int .i64 3, .int .i64 4, .int .i64 6] 3)).ownsRow w1.heap.size 3 1 (.slice (some ⟨w1.heap.size, 0, none⟩) 4 4) 4 (i64s [0, 3, 4, 6]) := World.ownsRow_lit w1 #[.int .i64 0, .int .i64 3, .int .i64 4, .int .i64 6] 4 (Nat.le_refl _) (by decide) rfl
    exact rdi_own hr0 rfl
  have HRB := hid hrB
  have HE2 := hid (HE1.out.trans (hbA.mono HE1.out.size))
  clear hrB hbA HR HE1
  go_wp2_with fail
  obtain ⟨w2, hw2⟩ : ∃ w2, w2 = w1.alloc (.cells #[.int .i64 0, .int .i64 3, .int .i64 4, .int .i64 6] 3) := ⟨_, rfl⟩
  rw [← hw2] at HR1 HRB HE2 ⊢
  clear hw2
  refine (places_any vo _ 4 vc 4 [0, 3, 4, 6] w2 HR1.out HRB.out rfl (by decide)).mono ?_
  rintro e w3 ⟨rfl, be3⟩
  have HE3 := hid (HE2.out.trans (be3.mono HE2.out.size))
  clear be3 HE2 HR1 HRB
  go_wp2_with fail
  refine (gcount_any lvB w3 (HT.out.below HE3.out) (by decide)).mono ?_
  rintro e w4 ⟨rfl, be4⟩
  rw [lvB_cnt]
  have HE4 := hid (HE3.out.trans (be4.mono HE3.out.size))
  clear be4 HE3
  go_wp2_with fail
  refine (gturn_any lvC w4 (HT.out.below HE4.out) (by decide)).mono ?_
  rintro e w5 ⟨rfl, be5⟩
  rw [lvC_trn]
  have HE5 := hid (HE4.out.trans (be5.mono HE4.out.size))
  clear be5 HE4
  have heq : ((⟨[120, 101, 204, 129].toArray⟩ : ByteArray) == ⟨#[120, 101, 204, 129]⟩) = true := by decide +kernel
  go_wp2_with fail
  refine (Ev.next_lv w5 (tbs_below HW.out HE5.out)).mono ?_
  rintro e w6 ⟨rfl, be6⟩
  have HE6 := hid (HE5.out.trans (be6.mono HE5.out.size))
  clear be6 HE5
  go_wp2
  go_ret
  exact ⟨by simp, HE6.out⟩
end Go.Proofs.YtlfegdpclappiaaDoor
