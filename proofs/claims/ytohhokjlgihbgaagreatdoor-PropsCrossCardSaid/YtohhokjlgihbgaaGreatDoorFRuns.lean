/- The contract of the iterator of Runs (package runes): it hands on the runs of a set in a text, in order. -/
import Derived.RangeFuncNested
import Derived.RangeFuncBound
import Derived.RangeFuncCalls
import Derived.RangeFuncLeaves
import Derived.Shelf.Abstract
import Derived.Shelf.RegionOpen
import Derived.OwnWalkIn
import Derived.TacticsInMore
import Derived.LoopNIn
import Derived.LoopIn
import Derived.Maps.AppendAt
import Derived.Laws.RangeAny
import Derived.Test.YtohhokjlgihbgaaGreatDoorFNot
namespace Go.Proofs.YtohhokjlgihbgaaGreatDoor
open Go.RowKit Go.Shelf
attribute [local go_sem] Oper.semAt_some

theorem run_next_at {P : Program} (w : World) (it : Nat) (s : ByteArray) (pos : Nat) (ty : TypeId) (hit : w.heap[it]? = some (.stringIter s pos)) (h : pos < s.size) :
    (Instr.next (.pointer (some ⟨it, 0, none⟩)) true ty).run P w = .ok (.tuple #[.bool true, .int .i64 pos, .int .i32 (Utf8.decode s pos).1]) (w.putObj it (.stringIter s (pos + (Utf8.decode s pos).2))) := by
  simp [Instr.next, getObj, setObj, Sem.run_bind, Sem.run, hit, Result.andThen, h, goInt, World.putObj]
theorem run_next_stop {P : Program} (w : World) (it : Nat) (s : ByteArray) (pos : Nat) (ty : TypeId) (hit : w.heap[it]? = some (.stringIter s pos)) (h : ¬ pos < s.size) :
    (Instr.next (.pointer (some ⟨it, 0, none⟩)) true ty).run P w = .ok (.tuple #[.bool false]) w := by
  simp [Instr.next, getObj, Sem.run, hit, h]

/-- What a body must leave as it was: the walks, and some blocks. -/
def Kr (K : Nat → Prop) (W W' : World) : Prop := KeepsWalks W W' ∧ ∀ k, K k → W'.heap[k]? = W.heap[k]?
theorem Kr_t {K : Nat → Prop} {A B C : World} (h : Kr K A B) (k : Kr K B C) : Kr K A C := ⟨h.1.trans k.1, fun i h1 => (k.2 i h1).trans (h.2 i h1)⟩
theorem Kr_b {K : Nat → Prop} {w : World} (hw : ∀ k, K k → k < w.heap.size) (W : World) (l : Nat) (o o' : Obj) (hl : w.heap.size ≤ l) (h : W.heap[l]? = some o) (_ : o.isCells = false) (hk : o.isWalk = false) : Kr K W (W.putObj l o') :=
  ⟨KeepsWalks.putObj _ h hk, fun k h2 => World.putObj_heap_other (by have := hw k h2; omega)⟩

/-- The blocks that the iterator of Runs reads. -/
def KR (Bs Bl : Nat) (so : Option Addr) (k : Nat) : Prop := k = Bs ∨ k = Bl ∨ ∃ a : Addr, so = some a ∧ a.block = k
/-- What the iterator of Runs has caught: the text and a normal form. -/
structure RunsAt (Bs Bl : Nat) (l : List UInt8) (so : Option Addr) (sc : Nat) (s : List Rg) (w : World) : Prop where
  bs : Boxed w Bs 9 (.string ⟨l.toArray⟩)
  bl : Boxed w Bl 47 (.slice so s.length sc)
  row : ∀ a : Addr, so = some a → ∃ c fz, w.heap[a.block]? = some (.cells c 84 fz)
  rd : RdR w so s
theorem RunsAt.lt {Bs Bl : Nat} {l : List UInt8} {so : Option Addr} {sc : Nat} {s : List Rg} {w : World} (h : RunsAt Bs Bl l so sc s w) : ∀ k, KR Bs Bl so k → k < w.heap.size := fun k hk => by
  rcases hk with rfl | rfl | ⟨a, h1, rfl⟩
  · exact h.bs.lt
  · exact h.bl.lt
  · obtain ⟨c, fz, hc⟩ := h.row a h1
    exact (Array.getElem?_eq_some_iff.1 hc).1
theorem RunsAt.keeps {Bs Bl : Nat} {l : List UInt8} {so : Option Addr} {sc : Nat} {s : List Rg} {w w' : World} (h : RunsAt Bs Bl l so sc s w) (hs : w.heap.size ≤ w'.heap.size) (hk : ∀ k, KR Bs Bl so k → w'.heap[k]? = w.heap[k]?) : RunsAt Bs Bl l so sc s w' where
  bs := (hk Bs (.inl rfl)).trans h.bs
  bl := (hk Bl (.inr (.inl rfl))).trans h.bl
  row := fun a ha => by
    obtain ⟨c, fz, hc⟩ := h.row a ha
    exact ⟨c, fz, (hk a.block (.inr (.inr ⟨a, ha, rfl⟩))).trans hc⟩
  rd := fun k g hg => by
    obtain ⟨a, h1, h2, h3, h4⟩ := h.rd k g hg
    have hb := hk a.block (.inr (.inr ⟨a, h1, rfl⟩))
    exact ⟨a, h1, Nat.lt_of_lt_of_le h2 hs, (World.cell?_of_block (w := w) (a := a.add (k * 2)) (by rw [add_blk]; exact hb)).trans h3, (World.cell?_of_block (w := w) (a := ⟨(a.add (k * 2)).block, (a.add (k * 2)).off + 1, none⟩) (by show _[(a.add (k * 2)).block]? = _[(a.add (k * 2)).block]?; rw [add_blk]; exact hb)).trans h4⟩
theorem RunsAt.below {Bs Bl B : Nat} {l : List UInt8} {so : Option Addr} {sc : Nat} {s : List Rg} {w w' : World} (h : RunsAt Bs Bl l so sc s w) (hb : Below B w w') (hB : w.heap.size ≤ B) : RunsAt Bs Bl l so sc s w' :=
  h.keeps hb.size (fun k h2 => hb.block k (Nat.lt_of_lt_of_le (h.lt k h2) hB))
theorem grown_below {w w' : World} (h : Below w.heap.size w w') : w.grownBy w' none := ⟨h.os, h.tape, h.output, h.size, fun k hk _ => h.block k hk⟩

def encR (l : List UInt8) (x : Tw l) : Array Value := #[.int .i64 (x.val.1 : Int), .int .i64 (x.val.2 : Int)]

end Go.Proofs.YtohhokjlgihbgaaGreatDoor
/- The contract of Runs (package runes). -/
namespace Go.Proofs.YtohhokjlgihbgaaGreatDoor
open Go.RowKit

end Go.Proofs.YtohhokjlgihbgaaGreatDoor
/- The contract of the document's Runes: the runes of a text, each with its place and the place behind it. -/
namespace Go.Proofs.YtohhokjlgihbgaaGreatDoor
open Go.RowKit

/-- A rune, its place, the place behind it. -/
abbrev Trp := Int × Nat × Nat
def nxt (e : Nat) : List (Nat × Int) → Nat
  | [] => e
  | y :: _ => y.1
def cls (e : Nat) : List (Nat × Int) → List Trp
  | [] => []
  | x :: t => (x.2, x.1, nxt e t) :: cls e t
theorem cls_len (e : Nat) : ∀ xs, (cls e xs).length = xs.length
  | [] => rfl
  | x :: t => by rw [cls, List.length_cons, List.length_cons, cls_len e t]
theorem cls_snoc (e : Nat) (y : Nat × Int) : ∀ xs, cls e (xs ++ [y]) = cls y.1 xs ++ [(y.2, y.1, e)]
  | [] => rfl
  | [x] => rfl
  | x :: z :: t => by
    have ih := cls_snoc e y (z :: t)
    rw [List.cons_append, cls, ih]
    rfl
def txt (l : List UInt8) : List Trp := cls l.length (plr l 0)

/-- The cells of one. -/
def tpc (x : Trp) : List Value := [.int .i32 x.1, .int .i64 x.2.1, .int .i64 x.2.2]
def tpcs (l : List Trp) : List Value := l.flatMap tpc
theorem tpcs_snoc (l : List Trp) (g : Trp) : tpcs (l ++ [g]) = tpcs l ++ tpc g := by simp [tpcs]
theorem tpcs_len : ∀ l : List Trp, (tpcs l).length = l.length * 3
  | [] => rfl
  | g :: l => by
    show (tpc g ++ tpcs l).length = _
    rw [List.length_append, tpcs_len l, List.length_cons]
    show 3 + _ = _
    omega
theorem tpc_one (g : Trp) : ∀ u ∈ tpc g, u.oneCell' = true := by intro u hu; simp [tpc] at hu; rcases hu with rfl | rfl | rfl <;> rfl
theorem tpcs_get : ∀ (l : List Trp) (k : Nat) (g : Trp), l[k]? = some g → (tpcs l)[k * 3]? = some (.int .i32 g.1) ∧ (tpcs l)[k * 3 + 1]? = some (.int .i64 g.2.1) ∧ (tpcs l)[k * 3 + 2]? = some (.int .i64 g.2.2)
  | [], _, _, h => by cases h
  | x :: l, 0, g, h => by cases h; exact ⟨rfl, rfl, rfl⟩
  | x :: l, k + 1, g, h => by
    have ih := tpcs_get l k g h
    have e1 : (k + 1) * 3 = k * 3 + 3 := by omega
    show (tpc x ++ tpcs l)[(k + 1) * 3]? = _ ∧ (tpc x ++ tpcs l)[(k + 1) * 3 + 1]? = _ ∧ (tpc x ++ tpcs l)[(k + 1) * 3 + 2]? = _
    rw [e1, List.getElem?_append_right (by simp [tpc]), List.getElem?_append_right (by simp [tpc]), List.getElem?_append_right (by simp [tpc])]
    simpa [tpc] using ih
theorem tpcs_set : ∀ (l : List Trp) (i : Nat) (a : Int) (b c d : Nat), l[i]? = some (a, b, d) → (tpcs l).set (i * 3 + 2) (.int .i64 c) = tpcs (l.set i (a, b, c))
  | [], _, _, _, _, _, h => by cases h
  | x :: l, 0, a, b, c, d, h => by cases h; rfl
  | x :: l, i + 1, a, b, c, d, h => by
    have ih := tpcs_set l i a b c d h
    have e1 : (i + 1) * 3 = i * 3 + 3 := by omega
    show (tpc x ++ tpcs l).set ((i + 1) * 3 + 2) _ = tpc x ++ tpcs (l.set i (a, b, c))
    rw [← ih, e1]
    rfl
/-- A slice of them reads as a list. -/
def RdT (w : World) (ao : Option Addr) (l : List Trp) : Prop :=
  ∀ (k : Nat) (x : Trp), l[k]? = some x → ∃ g, ao = some ⟨g, 0, none⟩ ∧ g < w.heap.size ∧ w.cell? ⟨g, k * 3, none⟩ = some (.int .i32 x.1) ∧ w.cell? ⟨g, k * 3 + 1, none⟩ = some (.int .i64 x.2.1) ∧ w.cell? ⟨g, k * 3 + 2, none⟩ = some (.int .i64 x.2.2)
theorem RdT.below {w w' : World} {ao : Option Addr} {l : List Trp} (h : RdT w ao l) (hb : Below w.heap.size w w') : RdT w' ao l := fun k x hk => by
  obtain ⟨g, h1, h2, h3, h4, h5⟩ := h k x hk
  exact ⟨g, h1, Nat.lt_of_lt_of_le h2 hb.size, (hb.cell (p := ⟨g, k * 3, none⟩) h2).trans h3, (hb.cell (p := ⟨g, k * 3 + 1, none⟩) h2).trans h4, (hb.cell (p := ⟨g, k * 3 + 2, none⟩) h2).trans h5⟩
theorem row_readsT {w : World} {B : Nat} {v : Value} {l : List Trp} (h : w.ownsRow B 43 3 v l.length (tpcs l)) : ∃ ao cap, v = .slice ao l.length cap ∧ (0 < l.length → ∃ g, ao = some ⟨g, 0, none⟩ ∧ B ≤ g ∧ g < w.heap.size) ∧ RdT w ao l := by
  rcases h.2 with ⟨h1, h2⟩ | ⟨g, cap, cur, h1, h2, h3, h4, h5, h6, h7⟩
  · have hl : l = [] := List.length_eq_zero_iff.1 h2
    subst hl
    exact ⟨none, 0, h1, fun h => by simp at h, fun k x hk => by cases hk⟩
  · have hg := (Array.getElem?_eq_some_iff.1 h3).1
    refine ⟨some ⟨g, 0, none⟩, cap, h1, fun _ => ⟨g, rfl, h2, hg⟩, fun k x hk => ⟨g, rfl, hg, ?_⟩⟩
    obtain ⟨e1, e2, e3⟩ := tpcs_get l k x hk
    have hc : ∀ j u, (tpcs l)[j]? = some u → w.cell? ⟨g, j, none⟩ = some u := fun j u hj => by
      have := h.cells (g := g) (by rw [h1]; rfl) j u hj
      rw [show (⟨g, 0, none⟩ : Addr).add j = ⟨g, j, none⟩ by unfold Addr.add; split <;> simp_all] at this
      exact this
    exact ⟨hc _ _ e1, hc _ _ e2, hc _ _ e3⟩
theorem row_frozenT {w : World} {B g n cap : Nat} {l : List Trp} (h : w.ownsRow B 43 3 (.slice (some ⟨g, 0, none⟩) n cap) l.length (tpcs l)) (j : Nat) : w.frozen? ⟨g, j, none⟩ = false := by
  rcases h.2 with ⟨h1, _⟩ | ⟨g', cap', cur, h1, _, h3, _⟩
  · cases h1
  · cases h1
    exact frozen_of_row w g j cur 43 h3
theorem row_setT {w : World} {B g n cap : Nat} {l : List Trp} (h : w.ownsRow B 43 3 (.slice (some ⟨g, 0, none⟩) n cap) l.length (tpcs l)) (i : Nat) (a : Int) (b c d : Nat) (hi : l[i]? = some (a, b, d)) :
    (w.setCell ⟨g, i * 3 + 2, none⟩ (.int .i64 c)).ownsRow B 43 3 (.slice (some ⟨g, 0, none⟩) n cap) (l.set i (a, b, c)).length (tpcs (l.set i (a, b, c))) := by
  rcases h.2 with ⟨h1, _⟩ | ⟨g', cap', cur, h1, h2, h3, h4, h5, h6, h7⟩
  · cases h1
  · cases h1
    have s1 := Lib.heap_setCell_same (i := i * 3 + 2) h3 (.int .i64 c)
    rw [List.length_set]
    refine ⟨?_, Or.inr ⟨g, cap, _, rfl, h2, s1, h4, h5, by simp [h6], ?_⟩⟩
    · rw [tpcs_len, List.length_set]
    · rw [← tpcs_set l i a b c d hi, ← h7]
      simp [List.take_set]
theorem set_lastT (P : List Trp) (x y : Trp) : (P ++ [x]).set P.length y = P ++ [y] := by
  rw [List.set_append_right _ _ (Nat.le_refl _), Nat.sub_self]; rfl
theorem row_grown {w w' : World} {B : Nat} {e : TypeId} {size : Nat} {v : Value} {n : Nat} {xs : List Value} {k : Nat} (h : w.ownsRow B e size v n xs) (hg : w.grownBy w' (some k)) (hk : ∀ j, v.ownBlock = some j → j ≠ k) : w'.ownsRow B e size v n xs := by
  refine ⟨h.1, ?_⟩
  rcases h.2 with h0 | ⟨g, cap, cur, hv, hb, hgg, hr⟩
  · exact Or.inl h0
  · exact Or.inr ⟨g, cap, cur, hv, hb, (hg.block g (Array.getElem?_eq_some_iff.1 hgg).1 (fun e => by injection e with e; exact hk g (by rw [hv]; rfl) e)).trans hgg, hr⟩
theorem news_t (w : World) (g : Trp) (T : TypeId) : ∀ j u, (tpc g)[j]? = some u → (w.alloc (.cells #[.int .i32 g.1, .int .i64 g.2.1, .int .i64 g.2.2] T)).cell? ((⟨w.heap.size, 0, none⟩ : Addr).add j) = some u := fun j u hj => by
  rw [show (⟨w.heap.size, 0, none⟩ : Addr).add j = ⟨w.heap.size, j, none⟩ by unfold Addr.add; split <;> simp_all]
  rw [cell_of_row _ w.heap.size j #[.int .i32 g.1, .int .i64 g.2.1, .int .i64 g.2.2] T (0, 0) (show (w.heap.push _)[w.heap.size]? = _ by simp)]
  rw [← hj]
  simp [tpc]
theorem Tryz.info43 : (Tryz.prog.info? 43).map (fun i => (i.zero, i.size, i.bytes)) = some (some (.agg #[.int .i32 0, .int .i64 0, .int .i64 0]), 3, 24) := by kernel_rfl

set_option maxRecDepth 100000 in
set_option maxHeartbeats 2000000 in
theorem rrunes_any (l : List UInt8) (w : World) (hl : l.length ≤ 1000000) :
    Calls Tryz.prog 18 #[.string ⟨l.toArray⟩] w fun e w' => ∃ v, e = .returned v ∧ w'.ownsRow w.heap.size 43 3 v (txt l).length (tpcs (txt l)) ∧ Below w.heap.size w w' := by
  obtain ⟨i0, hi, hz0, hz1, hz2⟩ := info_parts Tryz.info43
  have HSZ := hid (show (⟨l.toArray⟩ : ByteArray).size = l.length by show l.toArray.size = _; simp)
  have hit0 := World.iter_heap w ⟨l.toArray⟩ 0
  have HB0 := hid ((Below.refl w.heap.size w).alloc (Nat.le_refl _) (.stringIter ⟨l.toArray⟩ 0))
  have HIT0 := hid hit0
  clear hit0
  go_enter Tryz.func18, Tryz.ntmps18
  go_wp2
  go_loopw [3] (fun v wr => ∃ (t : Nat) (xs : List (Nat × Int)), Hid (plr l 0 = xs ++ plr l t) ∧ Hid (wr.heap[w.heap.size]? = some (.stringIter ⟨l.toArray⟩ t)) ∧ Hid (wr.ownsRow (w.heap.size + 1) 43 3 v (cls l.length xs).length (tpcs (cls l.length xs))) ∧ Hid (Below w.heap.size w wr)) (fun _ wr => l.length - wr.iterPos w.heap.size)
  case atStart => exact ⟨0, [], by simp [Hid], HIT0, World.ownsRow_nil _ _ _ _, HB0⟩
  case round =>
    obtain ⟨t, xs, HP, HI, HO, HB⟩ := hrel
    have hbs := HB.out.size
    have hin : w.heap.size < wr.heap.size := (Array.getElem?_eq_some_iff.1 HI.out).1
    by_cases hlt : t < l.length
    · have hnx := run_next_at (P := Tryz.prog) wr w.heap.size ⟨l.toArray⟩ t 0 HI.out (by rw [HSZ.out]; exact hlt)
      have d1 := Lib.width_pos ⟨l.toArray⟩ t
      have hst := plr_step l t hlt
      obtain ⟨nn, hnn⟩ : ∃ nn, nn = (Utf8.decode ⟨l.toArray⟩ t).2 := ⟨_, rfl⟩
      obtain ⟨rr, hrr⟩ : ∃ rr : Int, rr = ((Utf8.decode ⟨l.toArray⟩ t).1 : Int) := ⟨_, rfl⟩
      rw [← hnn] at hnx hst d1
      rw [← hrr] at hnx hst
      have HP2 := hid (show plr l 0 = (xs ++ [(t, rr)]) ++ plr l (t + nn) by rw [HP.out, hst, List.append_assoc]; rfl)
      obtain ⟨w1, hw1⟩ : ∃ w1, w1 = wr.putObj w.heap.size (.stringIter ⟨l.toArray⟩ (t + nn)) := ⟨_, rfl⟩
      rw [← hw1] at hnx
      have HI1 := hid (show w1.heap[w.heap.size]? = some (.stringIter ⟨l.toArray⟩ (t + nn)) by rw [hw1]; exact World.putObj_heap_same hin)
      have HB1 := hid (show Below w.heap.size w w1 by rw [hw1]; exact HB.out.trans ⟨rfl, rfl, rfl, by simp [World.putObj], fun j hj => World.putObj_heap_other (by omega)⟩)
      have HO1 := hid (show w1.ownsRow (w.heap.size + 1) 43 3 u3 (cls l.length xs).length (tpcs (cls l.length xs)) by rw [hw1]; exact row_grown HO.out (grownBy_putObj' wr _ _) (fun j hj => by have := (HO.out.lt j hj).1; omega))
      have hw1s : wr.heap.size ≤ w1.heap.size := by rw [hw1]; simp [World.putObj]
      have hmes : l.length - wr.iterPos w.heap.size = l.length - t := by unfold World.iterPos; rw [HI.out]
      have HM := hid hmes
      have hcl := cls_len l.length xs
      have hxl : xs.length < l.length := by have h := plr_len l l.length 0 (by omega); rw [HP2.out] at h; simp at h; omega
      clear hmes hnn hrr hst hw1 HP HI HB HO
      rcases List.eq_nil_or_concat xs with rfl | ⟨Q, z, rfl⟩
      · obtain ⟨oo, oc, hu6, _, _⟩ := row_readsT HO1.out
        subst hu6
        have HOD := hid (show w1.ownsRow (w.heap.size + 1) 43 3 (.slice oo 0 oc) 0 [] from HO1.out)
        clear HO1
        go_wp2_with (at_builtin; refine wpList_append_own _ rfl _ _ 40 rfl (w.heap.size + 1) 43 i0 (.agg #[.int .i32 0, .int .i64 0, .int .i64 0]) 3 24 Tryz.underlying40 hi hz0 hz1 hz2 rfl (by decide) (.slice oo 0 oc) 0 [] rfl (HOD.out.alloc _) ⟨w1.heap.size, 0, none⟩ 1 1 (tpc (rr, t, l.length)) rfl rfl ?c1 ?c2 ?c3 ?c4 ?c5 ?_)
        case c1 => exact news_t w1 (rr, t, l.length) 43
        case c2 => exact tpc_one _
        case c3 => unfold maxLen; omega
        case c4 => omega
        case c5 => simp; omega
        intro v2 w2 o2 gr2 _
        have HO2 := hid (show w2.ownsRow (w.heap.size + 1) 43 3 v2 (cls l.length ([] ++ [(t, rr)])).length (tpcs (cls l.length ([] ++ [(t, rr)]))) from o2)
        have HB2 := hid ((HB1.out.alloc HB1.out.size (.cells #[.int .i32 rr, .int .i64 t, .int .i64 l.length] 43)).grown gr2 (by simp; omega) (fun j hj => Nat.le_of_succ_le (HOD.out.lt j hj).1))
        have HI2 := hid (show w2.heap[w.heap.size]? = some (.stringIter ⟨l.toArray⟩ (t + nn)) from (gr2.block w.heap.size (by simp; omega) (fun e => by have := (HOD.out.lt _ e.symm).1; omega)).trans ((Below.heap_alloc w1 _ _ (by omega)).trans HI1.out))
        clear o2 gr2
        go_wp2
        go_roundw
        case rel => exact ⟨t + nn, [] ++ [(t, rr)], HP2, HI2, HO2, HB2⟩
        case measure =>
          rw [HM.out]
          unfold World.iterPos
          rw [HI2.out]
          simp only []
          omega
      · obtain ⟨oo, oc, hu6, hog, hrt⟩ := row_readsT HO1.out
        obtain ⟨g, rfl, hgB, hgl⟩ := hog (by rw [cls_len]; simp)
        subst hu6
        rw [List.concat_eq_append] at *
        obtain ⟨_, hg', _, _, _, c2⟩ := hrt Q.length (z.2, z.1, l.length) (by rw [cls_snoc, List.getElem?_append_right (by rw [cls_len]; exact Nat.le_refl _), cls_len, Nat.sub_self]; rfl)
        injection hg' with hg'
        injection hg' with hg' _ _
        subst hg'
        have f2 := row_frozenT HO1.out (Q.length * 3 + 2)
        have HST := hid (show (w1.setCell ⟨g, Q.length * 3 + 2, none⟩ (.int .i64 t)).ownsRow (w.heap.size + 1) 43 3 (.slice (some ⟨g, 0, none⟩) (cls l.length (Q ++ [z])).length oc) (cls t (Q ++ [z])).length (tpcs (cls t (Q ++ [z]))) by
          have h := row_setT HO1.out Q.length z.2 z.1 t l.length (by rw [cls_snoc, List.getElem?_append_right (by rw [cls_len]; exact Nat.le_refl _), cls_len, Nat.sub_self]; rfl)
          have e : (cls l.length (Q ++ [z])).set Q.length (z.2, z.1, t) = cls t (Q ++ [z]) := by
            rw [cls_snoc, cls_snoc]
            have := set_lastT (cls z.1 Q) (z.2, z.1, l.length) (z.2, z.1, t)
            rw [cls_len] at this
            exact this
          rw [e] at h
          exact h)
        obtain ⟨n, hn⟩ : ∃ n, n = Q.length := ⟨_, rfl⟩
        have hcl2 : (cls l.length (Q ++ [z])).length = n + 1 := by rw [cls_len, hn]; simp
        have hcl3 : (cls t (Q ++ [z])).length = n + 1 := by rw [cls_len, hn]; simp
        rw [hcl2, hcl3, ← hn] at HST
        rw [← hn] at c2 f2
        dsimp only at c2
        have hn9 : n < l.length := by rw [hn]; simp at hxl; omega
        rw [hcl2]
        have HI2 := hid (show (w1.setCell ⟨g, n * 3 + 2, none⟩ (.int .i64 t)).heap[w.heap.size]? = some (.stringIter ⟨l.toArray⟩ (t + nn)) from (Below.heap_setCell _ _ _ _ (show w.heap.size ≠ g by omega)).trans HI1.out)
        have HB2 := hid (show Below w.heap.size w (w1.setCell ⟨g, n * 3 + 2, none⟩ (.int .i64 t)) from HB1.out.setCell (p := ⟨g, n * 3 + 2, none⟩) (show w.heap.size ≤ g by omega) _)
        have HW2 := hid (show (w1.setCell ⟨g, n * 3 + 2, none⟩ (.int .i64 t)).heap.size = w1.heap.size by simp)
        have t0 : decide ((0 : Int) < (n : Int) + 1) = true := decide_eq_true (by omega)
        have esub : ((n : Int) + 1) - 1 = (n : Int) := by omega
        have ewr : IntKind.i64.wrap (n : Int) = (n : Int) := by rw [IntKind.wrap_i64]; omega
        have i1 : (0 : Int) ≤ (n : Int) := by omega
        have i2 : (n : Int) < (n : Int) + 1 := by omega
        have HCL := hid (show cls l.length (Q ++ [z] ++ [(t, rr)]) = cls t (Q ++ [z]) ++ [(rr, t, l.length)] from cls_snoc _ _ _)
        have HC3 := hid hcl3
        clear hrt hog hcl hcl2 HO1 HB1 HI1 hn hxl hcl3
        go_wp2_with (at_builtin; refine wpList_append_own _ rfl _ _ 40 rfl (w.heap.size + 1) 43 i0 (.agg #[.int .i32 0, .int .i64 0, .int .i64 0]) 3 24 Tryz.underlying40 hi hz0 hz1 hz2 rfl (by decide) (.slice (some ⟨g, 0, none⟩) (n + 1) oc) (n + 1) (tpcs (cls t (Q ++ [z]))) rfl (HST.out.alloc _) ⟨w1.heap.size, 0, none⟩ 1 1 (tpc (rr, t, l.length)) rfl rfl ?c1 ?c2 ?c3 ?c4 ?c5 ?_)
        case c1 => exact fun _ _ h => h
        case c2 => exact tpc_one _
        case c3 => unfold maxLen; omega
        case c4 => omega
        case c5 => omega
        intro v2 w2 o2 gr2 _
        have HO2 := hid (show w2.ownsRow (w.heap.size + 1) 43 3 v2 (cls l.length (Q ++ [z] ++ [(t, rr)])).length (tpcs (cls l.length (Q ++ [z] ++ [(t, rr)]))) by rw [HCL.out, tpcs_snoc, List.length_append, HC3.out]; exact o2)
        have HB3 := hid ((HB2.out.alloc (by rw [HW2.out]; omega) (.cells #[.int .i32 rr, .int .i64 t, .int .i64 l.length] 43)).grown gr2 (by simp; omega) (fun j hj => Nat.le_of_succ_le (HST.out.lt j hj).1))
        have HI3 := hid (show w2.heap[w.heap.size]? = some (.stringIter ⟨l.toArray⟩ (t + nn)) from (gr2.block w.heap.size (by simp; omega) (fun e => by have := (HST.out.lt _ e.symm).1; omega)).trans ((Below.heap_alloc _ _ _ (by rw [HW2.out]; omega)).trans HI2.out))
        clear o2 gr2
        go_wp2
        go_roundw
        case rel => exact ⟨t + nn, Q ++ [z] ++ [(t, rr)], HP2, HI3, HO2, HB3⟩
        case measure =>
          rw [HM.out]
          unfold World.iterPos
          rw [HI3.out]
          simp only []
          omega
    · have hnx := run_next_stop (P := Tryz.prog) wr w.heap.size ⟨l.toArray⟩ t 0 HI.out (by rw [HSZ.out]; exact hlt)
      have HE := hid (show plr l 0 = xs by rw [HP.out, plr_end l t hlt, List.append_nil])
      go_wp2
      go_ret
      exact ⟨_, rfl, by unfold txt; rw [HE.out]; exact ownsRow_base2 HO.out (by omega), HB.out⟩
/-- The same, as it reads. -/
theorem rrunes_rd (l : List UInt8) (w : World) (hl : l.length ≤ 1000000) :
    Calls Tryz.prog 18 #[.string ⟨l.toArray⟩] w fun e w' => ∃ xo xc, e = .returned (.slice xo (txt l).length xc) ∧ RdT w' xo (txt l) ∧ Below w.heap.size w w' :=
  (rrunes_any l w hl).mono fun _ _ ⟨_, h1, h2, h3⟩ => by
    obtain ⟨xo, xc, e, _, hr⟩ := row_readsT h2
    subst e
    exact ⟨xo, xc, h1, hr, h3⟩
theorem txt_len (l : List UInt8) : (txt l).length ≤ l.length := by
  unfold txt; rw [cls_len]; exact plr_len l l.length 0 (by omega)
end Go.Proofs.YtohhokjlgihbgaaGreatDoor
