/- The contract of onward (package line). -/
import Derived.Laws.RangeAny
import Derived.RangeFuncNested
import Derived.Test.YtkophiklkgefnaaDoorLnFun5Joint
import Derived.RangeFuncBound
import Derived.RangeFuncCalls
import Derived.RangeFuncLeaves
import Derived.Shelf.Abstract
import Derived.Shelf.RegionOpen
import Derived.OwnWalkIn
import Derived.TacticsInMore
import Derived.LoopNIn
import Derived.LoopIn
import Derived.Maps.AppendAt
namespace Go.Proofs.YtkophiklkgefnaaDoor.Ln
open Go.RowKit

theorem run_next_at {P : Program} (w : World) (it : Nat) (s : ByteArray) (pos : Nat) (ty : TypeId) (hit : w.heap[it]? = some (.stringIter s pos)) (h : pos < s.size) :
    (Instr.next (.pointer (some ⟨it, 0, none⟩)) true ty).run P w = .ok (.tuple #[.bool true, .int .i64 pos, .int .i32 (Utf8.decode s pos).1]) (w.putObj it (.stringIter s (pos + (Utf8.decode s pos).2))) := by
  simp [Instr.next, getObj, setObj, Sem.run_bind, Sem.run, hit, Result.andThen, h, goInt, World.putObj]
theorem run_next_stop {P : Program} (w : World) (it : Nat) (s : ByteArray) (pos : Nat) (ty : TypeId) (hit : w.heap[it]? = some (.stringIter s pos)) (h : ¬ pos < s.size) :
    (Instr.next (.pointer (some ⟨it, 0, none⟩)) true ty).run P w = .ok (.tuple #[.bool false]) w := by
  simp [Instr.next, getObj, Sem.run, hit, h]
/-- The first chance behind a place, looked for from an offset on. -/
def onwF (s : List UInt8) (fr p : Nat) : Nat → Nat → Nat
  | 0, _ => s.length
  | f + 1, t => if t < (s.drop p).length then (if 0 < t ∧ lncut s fr (p + t) = true then p + t else onwF s fr p f (t + (dec ((s.drop p).drop t)).2)) else s.length
theorem onwF_any (s : List UInt8) (fr p : Nat) : ∀ (f g t : Nat), (s.drop p).length - t ≤ f → (s.drop p).length - t ≤ g → onwF s fr p f t = onwF s fr p g t
  | 0, 0, t, _, _ => rfl
  | 0, g + 1, t, hf, hg => by
    unfold onwF
    rw [if_neg (by omega)]
  | f + 1, 0, t, hf, hg => by
    unfold onwF
    rw [if_neg (by omega)]
  | f + 1, g + 1, t, hf, hg => by
    unfold onwF
    by_cases h : t < (s.drop p).length
    · have h1 := dec_ge ((s.drop p).drop t) (drop_ne _ t h)
      rw [if_pos h, if_pos h, onwF_any s fr p f g (t + (dec ((s.drop p).drop t)).2) (by omega) (by omega)]
    · rw [if_neg h, if_neg h]
def onwT (s : List UInt8) (fr p t : Nat) : Nat := onwF s fr p ((s.drop p).length - t) t
theorem onwT_end (s : List UInt8) (fr p t : Nat) (h : ¬ t < (s.drop p).length) : onwT s fr p t = s.length := by
  unfold onwT
  rw [show (s.drop p).length - t = 0 by omega]; rfl
theorem onwT_here (s : List UInt8) (fr p t : Nat) (h : t < (s.drop p).length) (h0 : 0 < t) (hc : lncut s fr (p + t) = true) : onwT s fr p t = p + t := by
  unfold onwT
  rw [onwF_any s fr p _ ((s.drop p).length - t - 1 + 1) t (by omega) (by omega)]
  unfold onwF
  rw [if_pos h, if_pos ⟨h0, hc⟩]
theorem onwT_next (s : List UInt8) (fr p t : Nat) (h : t < (s.drop p).length) (hc : ¬ (0 < t ∧ lncut s fr (p + t) = true)) : onwT s fr p t = onwT s fr p (t + (dec ((s.drop p).drop t)).2) := by
  have h1 := dec_ge ((s.drop p).drop t) (drop_ne _ t h)
  unfold onwT
  rw [onwF_any s fr p _ ((s.drop p).length - t - 1 + 1) t (by omega) (by omega)]
  conv => lhs; unfold onwF
  rw [if_pos h, if_neg hc]
  exact onwF_any s fr p _ _ _ (by omega) (by omega)
/-- What onward answers. -/
def onw (s : List UInt8) (fr p : Nat) : Nat := onwT s fr p 0
set_option maxHeartbeats 2000000 in
theorem onward_any (s : List UInt8) (fr p : Nat) (w : World) (ht : Tb w) (hl : s.length ≤ 1000000000) (hp : p ≤ s.length) (hf : fr ≤ p) :
    Calls Tryd.prog 77 #[.string ⟨s.toArray⟩, .int .i64 fr, .int .i64 p] w fun e w' => e = .returned (.int .i64 (onw s fr p)) ∧ Below w.heap.size w w' := by
  have HT := hid ht
  obtain ⟨l, hll⟩ : ∃ l, l = s.drop p := ⟨_, rfl⟩
  have hdl : l.length = s.length - p := by rw [hll]; exact List.length_drop
  have HLL := hid hll
  have HSZ := hid (show (⟨l.toArray⟩ : ByteArray).size = l.length by show l.toArray.size = _; simp)
  have HB0 := hid ((Below.refl w.heap.size w).alloc (Nat.le_refl _) (.stringIter ⟨l.toArray⟩ 0))
  have HIT0 := hid (World.iter_heap w ⟨l.toArray⟩ 0)
  clear ht hll
  go_enter Tryd.func77, Tryd.ntmps77
  go_wp2
  rw [ext_drop, ← HLL.out]
  go_loopw [7] (fun _ wr => ∃ t : Nat, Hid (onw s fr p = onwT s fr p t) ∧ Hid (wr.heap[w.heap.size]? = some (.stringIter ⟨l.toArray⟩ t)) ∧ Hid (Below w.heap.size w wr)) (fun _ wr => l.length - wr.iterPos w.heap.size)
  case atStart => exact ⟨0, rfl, HIT0, HB0⟩
  case round =>
    obtain ⟨t, HP, HI, HB⟩ := hrel
    have hin : w.heap.size < wr.heap.size := (Array.getElem?_eq_some_iff.1 HI.out).1
    by_cases hlt : t < l.length
    · have hnx := run_next_at (P := Tryd.prog) wr w.heap.size ⟨l.toArray⟩ t 0 HI.out (by rw [HSZ.out]; exact hlt)
      rw [decode_place l t hlt] at hnx
      have d1 := dec_ge _ (drop_ne l t hlt)
      obtain ⟨nn, hnn⟩ : ∃ nn, nn = (dec (l.drop t)).2 := ⟨_, rfl⟩
      obtain ⟨rr, hrr⟩ : ∃ rr, rr = (dec (l.drop t)).1 := ⟨_, rfl⟩
      rw [← hnn] at hnx d1
      rw [← hrr] at hnx
      have HNN := hid hnn
      obtain ⟨w1, hw1⟩ : ∃ w1, w1 = wr.putObj w.heap.size (.stringIter ⟨l.toArray⟩ (t + nn)) := ⟨_, rfl⟩
      rw [← hw1] at hnx
      have HI1 := hid (show w1.heap[w.heap.size]? = some (.stringIter ⟨l.toArray⟩ (t + nn)) by rw [hw1]; exact World.putObj_heap_same hin)
      have HB1 := hid (show Below w.heap.size w w1 by rw [hw1]; exact HB.out.trans ⟨rfl, rfl, rfl, by simp [World.putObj], fun j hj => World.putObj_heap_other (by omega)⟩)
      have HM := hid (show l.length - wr.iterPos w.heap.size = l.length - t by unfold World.iterPos; rw [HI.out])
      have hin1 : w.heap.size < w1.heap.size := (Array.getElem?_eq_some_iff.1 HI1.out).1
      have hlt' : t < (s.drop p).length := by rw [← HLL.out]; exact hlt
      have HLT := hid hlt'
      clear hnn hrr hw1 HI HB hlt'
      by_cases h0 : 0 < t
      · have h0i : (0 : Int) < (t : Int) := by omega
        have hpt : p + t ≤ s.length := by omega
        go_wp2_with fail
        refine (cut_any s fr (p + t) w1 (HT.out.below HB1.out) hl hpt (by omega)).mono ?_
        rintro e w2 ⟨rfl, be⟩
        have HB2 := hid (HB1.out.trans (be.mono HB1.out.size))
        have HI2 := hid (show w2.heap[w.heap.size]? = some (.stringIter ⟨l.toArray⟩ (t + nn)) from (be.block _ hin1).trans HI1.out)
        obtain ⟨v, hv⟩ : ∃ v, v = lncut s fr (p + t) := ⟨_, rfl⟩
        have HV := hid hv
        rw [← hv]
        clear be hv HB1 HI1 hnx
        cases v with
        | true =>
          have HE := hid (HP.out.trans (onwT_here s fr p t HLT.out h0 HV.out.symm))
          go_wp2
          go_ret
          exact ⟨by rw [HE.out]; simp, HB2.out⟩
        | false =>
          have HE := hid (HP.out.trans (onwT_next s fr p t HLT.out (fun h => by rw [← HV.out] at h; cases h.2)))
          go_wp2
          go_roundw
          case rel => exact ⟨t + nn, (by show _ = _; rw [HE.out, HNN.out, HLL.out]), HI2, HB2⟩
          case measure =>
            rw [HM.out]
            unfold World.iterPos
            rw [HI2.out]
            simp only []
            omega
      · have h00 : t = 0 := by omega
        have HE := hid (HP.out.trans (onwT_next s fr p t HLT.out (fun h => h0 h.1)))
        have HT0 := hid h00
        have h0i : ¬ (0 : Int) < (t : Int) := by omega
        clear h00
        go_wp2
        go_roundw
        case rel => exact ⟨t + nn, (by show _ = _; rw [HE.out, HNN.out, HLL.out]), HI1, HB1⟩
        case measure =>
          rw [HM.out]
          unfold World.iterPos
          rw [HI1.out]
          simp only []
          omega
    · have hnx := run_next_stop (P := Tryd.prog) wr w.heap.size ⟨l.toArray⟩ t 0 HI.out (by rw [HSZ.out]; exact hlt)
      have HE := hid (HP.out.trans (onwT_end s fr p t (by rw [← HLL.out]; exact hlt)))
      go_wp2
      go_ret
      exact ⟨by rw [HE.out]; rfl, HB.out⟩
end Go.Proofs.YtkophiklkgefnaaDoor.Ln
/- The contract of the iterator of Each (package line): it hands on the chances of a text, in order; and of Each. -/
namespace Go.Proofs.YtkophiklkgefnaaDoor.Ln
open Go.RowKit Go.Shelf
attribute [local go_sem] Oper.semAt_some

theorem onwT_bd (s : List UInt8) (fr p : Nat) (hp : p ≤ s.length) : ∀ (n t : Nat), (s.drop p).length - t ≤ n → t ≤ (s.drop p).length → p + t ≤ onwT s fr p t ∧ onwT s fr p t ≤ s.length
  | 0, t, hn, ht => by
    have h := List.length_drop (i := p) (l := s)
    rw [onwT_end s fr p t (by omega)]
    omega
  | n + 1, t, hn, ht => by
    have h := List.length_drop (i := p) (l := s)
    by_cases hlt : t < (s.drop p).length
    · by_cases hc : 0 < t ∧ lncut s fr (p + t) = true
      · rw [onwT_here s fr p t hlt hc.1 hc.2]
        omega
      · have h1 := dec_ge ((s.drop p).drop t) (drop_ne _ t hlt)
        have h2 := dec_le' ((s.drop p).drop t)
        rw [List.length_drop] at h2
        have := onwT_bd s fr p hp n (t + (dec ((s.drop p).drop t)).2) (by omega) (by omega)
        rw [onwT_next s fr p t hlt hc]
        omega
    · rw [onwT_end s fr p t hlt]
      omega
theorem onw_bd (s : List UInt8) (p : Nat) (hp : p < s.length) : p < onw s p p ∧ onw s p p ≤ s.length := by
  have h := List.length_drop (i := p) (l := s)
  have h0 : 0 < (s.drop p).length := by omega
  have h1 := dec_ge ((s.drop p).drop 0) (drop_ne _ 0 h0)
  have h2 := dec_le' ((s.drop p).drop 0)
  rw [List.length_drop] at h2
  unfold onw
  rw [onwT_next s p p 0 h0 (fun h => absurd h.1 (Nat.lt_irrefl 0))]
  have := onwT_bd s p p (by omega) _ (0 + (dec ((s.drop p).drop 0)).2) (Nat.le_refl _) (by omega)
  omega
/-- The chances of a text from a place on. -/
def chF (s : List UInt8) : Nat → Nat → List (Int × Bool)
  | 0, _ => []
  | f + 1, p => if p < s.length then ((onw s p p : Int), lnmust s (onw s p p)) :: chF s f (onw s p p) else []
theorem chF_any (s : List UInt8) : ∀ (f g p : Nat), s.length - p ≤ f → s.length - p ≤ g → chF s f p = chF s g p
  | 0, 0, _, _, _ => rfl
  | 0, g + 1, p, hf, hg => by unfold chF; rw [if_neg (by omega)]
  | f + 1, 0, p, hf, hg => by unfold chF; rw [if_neg (by omega)]
  | f + 1, g + 1, p, hf, hg => by
    unfold chF
    by_cases h : p < s.length
    · have := onw_bd s p h
      rw [if_pos h, if_pos h, chF_any s f g (onw s p p) (by omega) (by omega)]
    · rw [if_neg h, if_neg h]
def chs (s : List UInt8) (p : Nat) : List (Int × Bool) := chF s (s.length - p) p
theorem chs_step (s : List UInt8) (p : Nat) (h : p < s.length) : chs s p = ((onw s p p : Int), lnmust s (onw s p p)) :: chs s (onw s p p) := by
  have := onw_bd s p h
  unfold chs
  rw [chF_any s _ (s.length - p - 1 + 1) p (by omega) (by omega)]
  conv => lhs; unfold chF
  rw [if_pos h, chF_any s _ (s.length - onw s p p) _ (by omega) (by omega)]
theorem chs_end (s : List UInt8) (p : Nat) (h : ¬ p < s.length) : chs s p = [] := by
  unfold chs
  rw [show s.length - p = 0 by omega]; rfl
theorem chs_len (s : List UInt8) : ∀ (n p : Nat), s.length - p ≤ n → (chs s p).length ≤ s.length - p
  | 0, p, h => by rw [chs_end s p (by omega)]; simp
  | n + 1, p, h => by
    by_cases hp : p < s.length
    · have h1 := onw_bd s p hp
      have h2 := chs_len s n (onw s p p) (by omega)
      rw [chs_step s p hp, List.length_cons]
      omega
    · rw [chs_end s p hp]; simp
/-- What a body must leave as it was: the walks, and some blocks. -/
def Kr (K : Nat → Prop) (W W' : World) : Prop := KeepsWalks W W' ∧ ∀ k, K k → W'.heap[k]? = W.heap[k]?
theorem Kr_t {K : Nat → Prop} {A B C : World} (h : Kr K A B) (k : Kr K B C) : Kr K A C := ⟨h.1.trans k.1, fun i h1 => (k.2 i h1).trans (h.2 i h1)⟩
theorem Kr_b {K : Nat → Prop} {w : World} (hw : ∀ k, K k → k < w.heap.size) (W : World) (l : Nat) (o o' : Obj) (hl : w.heap.size ≤ l) (h : W.heap[l]? = some o) (_ : o.isCells = false) (hk : o.isWalk = false) : Kr K W (W.putObj l o') :=
  ⟨KeepsWalks.putObj _ h hk, fun k h2 => World.putObj_heap_other (by have := hw k h2; omega)⟩
theorem grown_below {w w' : World} (h : Below w.heap.size w w') : w.grownBy w' none := ⟨h.os, h.tape, h.output, h.size, fun k hk _ => h.block k hk⟩
/-- The blocks that the iterator of Each reads. -/
def KE (Bs k : Nat) : Prop := k = Bs ∨ k < 2
/-- What the iterator has caught: the text; and the tables. -/
structure EaAt (Bs : Nat) (l : List UInt8) (w : World) : Prop where
  bs : Boxed w Bs 9 (.string ⟨l.toArray⟩)
  tb : Tb w
theorem EaAt.lt {Bs : Nat} {l : List UInt8} {w : World} (h : EaAt Bs l w) : ∀ k, KE Bs k → k < w.heap.size := fun k hk => by
  rcases hk with rfl | hk
  · exact h.bs.lt
  · exact Nat.lt_of_lt_of_le hk h.tb.two
theorem EaAt.keeps {Bs : Nat} {l : List UInt8} {w w' : World} (h : EaAt Bs l w) (hs : w.heap.size ≤ w'.heap.size) (hk : ∀ k, KE Bs k → w'.heap[k]? = w.heap[k]?) : EaAt Bs l w' where
  bs := (hk Bs (.inl rfl)).trans h.bs
  tb := ⟨⟨fun c hc => (World.cell?_of_block (w := w) (a := ⟨0, c, none⟩) (hk 0 (.inr (by decide)))).trans (h.tb.tabs.1 c hc), fun i hi => ⟨(World.cell?_of_block (w := w) (a := ⟨1, 2 * i, none⟩) (hk 1 (.inr (by decide)))).trans (h.tb.tabs.2 i hi).1, (World.cell?_of_block (w := w) (a := ⟨1, 2 * i + 1, none⟩) (hk 1 (.inr (by decide)))).trans (h.tb.tabs.2 i hi).2⟩⟩, Nat.le_trans h.tb.two hs⟩
theorem EaAt.below {Bs : Nat} {l : List UInt8} {w w' : World} (h : EaAt Bs l w) (hb : Below w.heap.size w w') : EaAt Bs l w' :=
  h.keeps hb.size (fun k h2 => hb.block k (h.lt k h2))
def encC (x : Int × Bool) : Array Value := #[.int .i64 x.1, .bool x.2]
set_option maxHeartbeats 2000000 in
theorem leach_stops (n : Nat) (hn : 1 ≤ n) (Bs : Nat) (l : List UInt8) (w : World) (hR : EaAt Bs l w) (hl : l.length ≤ 1000000000) :
    SeqStopsK Fence.wide n Tryd.prog 76 #[.pointer (some ⟨Bs, 0, none⟩)] encC (Kr (KE Bs)) (fun xs => xs = chs l 0) (fun pre => pre <+: chs l 0) (chs l 0).length w := fun lp J Jx W hbW hJ hJx hY h0 => by
  have HRW := hid (hR.below hbW)
  have hcW := HRW.out.bs.cell
  clear hR hbW
  refine callsIn_of_wp Tryd.func76 rfl trivial ?_ rfl
  simp only [Tryd.ntmps76, List.size_toArray, List.length_cons, List.length_nil, Nat.reduceAdd, Nat.reduceSub, Array.replicate_succ, Array.replicate_zero, List.push_toArray, List.append_toArray, List.nil_append, List.cons_append]
  gi_wp2
  gi_loopw [3] (fun v wr => ∃ (p : Nat) (pre : List (Int × Bool)), v = .int .i64 p ∧ p ≤ l.length ∧ Hid (chs l 0 = pre ++ chs l p) ∧ Hid (J pre wr) ∧ Hid (EaAt Bs l wr)) (fun v _ => l.length - (intOf v).toNat)
  case atStart => exact ⟨0, [], rfl, Nat.zero_le _, by simp [Hid], h0, HRW⟩
  case round =>
    obtain ⟨p, pre, rfl, hp, HP, HJ, HR⟩ := hrel
    clear hcW
    have hc := HR.out.bs.cell
    by_cases hlt : p < l.length
    · have hlti : (p : Int) < (l.length : Int) := by omega
      obtain ⟨hb1, hb2⟩ := onw_bd l p hlt
      have HST := hid (chs_step l p hlt)
      gi_wp2_with fail
      refine ⟨trivial, (callsIn_wide.2 (onward_any l p p wr HR.out.tb hl hp (Nat.le_refl _))).mono ?_⟩
      rintro e w1 ⟨rfl, be1⟩
      have HJ1 := hid (hJ pre wr w1 none HJ.out (grown_below be1) (fun r e => by cases e))
      have HR1 := hid (HR.out.below be1)
      obtain ⟨q, hq⟩ : ∃ q, q = onw l p p := ⟨_, rfl⟩
      rw [← hq] at hb1 hb2 HST
      rw [← hq]
      clear be1 hq HJ HR hc
      have hc1 := HR1.out.bs.cell
      gi_wp2_with fail
      refine ⟨trivial, (callsIn_wide.2 (isMust_any l q w1 HR1.out.tb hl hb2)).mono ?_⟩
      rintro e w2 ⟨rfl, be2⟩
      have HJ2 := hid (hJ pre w1 w2 none HJ1.out (grown_below be2) (fun r e => by cases e))
      have HR2 := hid (HR1.out.below be2)
      obtain ⟨m, hm⟩ : ∃ m, m = lnmust l q := ⟨_, rfl⟩
      rw [← hm] at HST
      rw [← hm]
      clear be2 hm HJ1 HR1 hc1
      have HP2 := hid (show chs l 0 = (pre ++ [((q : Int), m)]) ++ chs l q by rw [HP.out, HST.out, List.append_assoc]; rfl)
      obtain ⟨fn, tmps, assign, body, hy, hRR⟩ := hY pre ((q : Int), m) w2 HJ2.out (by rw [HP2.out]; simp)
      dsimp only [encC] at hy
      clear HST hY
      gi_wp2
      refine hRR.mono ?_
      rintro e W3 (⟨rfl, hJ3, hk3⟩ | ⟨rfl, hJx3⟩)
      · have HJ3 := hid hJ3
        have HR3 := hid (HR2.out.keeps hk3.1.size hk3.2)
        clear hJ3 hk3
        gi_wp2
        go_roundw
        case rel => exact ⟨q, pre ++ [((q : Int), m)], rfl, hb2, HP2, HJ3, HR3⟩
        case measure => simp [intOf]; omega
      · have HJX := hid hJx3
        clear hJx3
        gi_wp2
        refine bodyPost_ret (results_none rfl _ _ _) rfl ?_
        exact ⟨⟨_, rfl⟩, .inr ⟨pre ++ [((q : Int), m)], ⟨chs l q, by rw [HP2.out]⟩, HJX.out⟩⟩
    · have hlti : ¬ (p : Int) < (l.length : Int) := by omega
      have HE := hid (show chs l 0 = pre by rw [HP.out, chs_end l p hlt, List.append_nil])
      gi_wp2
      go_end0
      exact ⟨⟨_, rfl⟩, .inl (by rw [HE.out]; exact HJ.out)⟩
theorem leach_any (l : List UInt8) (w : World) :
    Calls Tryd.prog 51 #[.string ⟨l.toArray⟩] w fun e w' => e = .returned (.func (.func 76) #[] #[.pointer (some ⟨w.heap.size, 0, none⟩)]) ∧ w' = w.alloc (.cells #[.string ⟨l.toArray⟩] 9) := by
  go_enter Tryd.func51, Tryd.ntmps51
  go_wp2
  go_ret
  exact ⟨rfl, rfl⟩
end Go.Proofs.YtkophiklkgefnaaDoor.Ln
