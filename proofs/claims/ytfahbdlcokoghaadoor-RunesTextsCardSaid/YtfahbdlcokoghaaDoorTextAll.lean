/- The texts of RunesTexts in one: RRunes, TxtMath, RRuns, RTrim, ROf, Of, TwNest, Trim, RKeep, TextMath, TextWalk. -/
import Derived.Test.YtfahbdlcokoghaaDoorRuns2
import Derived.Test.YtfahbdlcokoghaaDoorKeep
import Derived.Test.YtfahbdlcokoghaaDoorNormWalk
import Derived.Test.YtfahbdlcokoghaaDoorOrs
import Derived.Test.YtfahbdlcokoghaaDoorEachNest
import Derived.Test.YtfahbdlcokoghaaDoorEachWalk
import Derived.Deep.RegionHeld3
import Derived.Deep.AppendLies
import Derived.Maps.Own
import Derived.Maps.OwnSet
import Derived.Maps.RangeWalk
import Derived.RegionIn
import Derived.Lib.AppendStr
import Derived.Lib.BufferRead
/- The contract of the document's Runes: the runes of a text, each with its place and the place behind it. -/
namespace Go.Proofs.YtfahbdlcokoghaaDoor
open Go.RowKit

/-- A rune, its place, the place behind it. -/
abbrev Trp := Int × Nat × Nat
def nxt (e : Nat) : List (Nat × Int) → Nat
  | [] => e
  | y :: _ => y.1
def cls (e : Nat) : List (Nat × Int) → List Trp
  | [] => []
  | x :: t => (x.2, x.1, nxt e t) :: cls e t
theorem cls_len (e : Nat) : ∀ xs, (cls e xs).length = xs.length
  | [] => rfl
  | x :: t => by rw [cls, List.length_cons, List.length_cons, cls_len e t]
theorem cls_snoc (e : Nat) (y : Nat × Int) : ∀ xs, cls e (xs ++ [y]) = cls y.1 xs ++ [(y.2, y.1, e)]
  | [] => rfl
  | [x] => rfl
  | x :: z :: t => by
    have ih := cls_snoc e y (z :: t)
    rw [List.cons_append, cls, ih]
    rfl
def txt (l : List UInt8) : List Trp := cls l.length (plr l 0)

/-- The cells of one. -/
def tpc (x : Trp) : List Value := [.int .i32 x.1, .int .i64 x.2.1, .int .i64 x.2.2]
def tpcs (l : List Trp) : List Value := l.flatMap tpc
theorem tpcs_snoc (l : List Trp) (g : Trp) : tpcs (l ++ [g]) = tpcs l ++ tpc g := by simp [tpcs]
theorem tpcs_len : ∀ l : List Trp, (tpcs l).length = l.length * 3
  | [] => rfl
  | g :: l => by
    show (tpc g ++ tpcs l).length = _
    rw [List.length_append, tpcs_len l, List.length_cons]
    show 3 + _ = _
    omega
theorem tpc_one (g : Trp) : ∀ u ∈ tpc g, u.oneCell' = true := by intro u hu; simp [tpc] at hu; rcases hu with rfl | rfl | rfl <;> rfl
theorem tpcs_get : ∀ (l : List Trp) (k : Nat) (g : Trp), l[k]? = some g → (tpcs l)[k * 3]? = some (.int .i32 g.1) ∧ (tpcs l)[k * 3 + 1]? = some (.int .i64 g.2.1) ∧ (tpcs l)[k * 3 + 2]? = some (.int .i64 g.2.2)
  | [], _, _, h => by cases h
  | x :: l, 0, g, h => by cases h; exact ⟨rfl, rfl, rfl⟩
  | x :: l, k + 1, g, h => by
    have ih := tpcs_get l k g h
    have e1 : (k + 1) * 3 = k * 3 + 3 := by omega
    show (tpc x ++ tpcs l)[(k + 1) * 3]? = _ ∧ (tpc x ++ tpcs l)[(k + 1) * 3 + 1]? = _ ∧ (tpc x ++ tpcs l)[(k + 1) * 3 + 2]? = _
    rw [e1, List.getElem?_append_right (by simp [tpc]), List.getElem?_append_right (by simp [tpc]), List.getElem?_append_right (by simp [tpc])]
    simpa [tpc] using ih
theorem tpcs_set : ∀ (l : List Trp) (i : Nat) (a : Int) (b c d : Nat), l[i]? = some (a, b, d) → (tpcs l).set (i * 3 + 2) (.int .i64 c) = tpcs (l.set i (a, b, c))
  | [], _, _, _, _, _, h => by cases h
  | x :: l, 0, a, b, c, d, h => by cases h; rfl
  | x :: l, i + 1, a, b, c, d, h => by
    have ih := tpcs_set l i a b c d h
    have e1 : (i + 1) * 3 = i * 3 + 3 := by omega
    show (tpc x ++ tpcs l).set ((i + 1) * 3 + 2) _ = tpc x ++ tpcs (l.set i (a, b, c))
    rw [← ih, e1]
    rfl
/-- A slice of them reads as a list. -/
def RdT (w : World) (ao : Option Addr) (l : List Trp) : Prop :=
  ∀ (k : Nat) (x : Trp), l[k]? = some x → ∃ g, ao = some ⟨g, 0, none⟩ ∧ g < w.heap.size ∧ w.cell? ⟨g, k * 3, none⟩ = some (.int .i32 x.1) ∧ w.cell? ⟨g, k * 3 + 1, none⟩ = some (.int .i64 x.2.1) ∧ w.cell? ⟨g, k * 3 + 2, none⟩ = some (.int .i64 x.2.2)
theorem RdT.below {w w' : World} {ao : Option Addr} {l : List Trp} (h : RdT w ao l) (hb : Below w.heap.size w w') : RdT w' ao l := fun k x hk => by
  obtain ⟨g, h1, h2, h3, h4, h5⟩ := h k x hk
  exact ⟨g, h1, Nat.lt_of_lt_of_le h2 hb.size, (hb.cell (p := ⟨g, k * 3, none⟩) h2).trans h3, (hb.cell (p := ⟨g, k * 3 + 1, none⟩) h2).trans h4, (hb.cell (p := ⟨g, k * 3 + 2, none⟩) h2).trans h5⟩
theorem row_readsT {w : World} {B : Nat} {v : Value} {l : List Trp} (h : w.ownsRow B 65 3 v l.length (tpcs l)) : ∃ ao cap, v = .slice ao l.length cap ∧ (0 < l.length → ∃ g, ao = some ⟨g, 0, none⟩ ∧ B ≤ g ∧ g < w.heap.size) ∧ RdT w ao l := by
  rcases h.2 with ⟨h1, h2⟩ | ⟨g, cap, cur, h1, h2, h3, h4, h5, h6, h7⟩
  · have hl : l = [] := List.length_eq_zero_iff.1 h2
    subst hl
    exact ⟨none, 0, h1, fun h => by simp at h, fun k x hk => by cases hk⟩
  · have hg := (Array.getElem?_eq_some_iff.1 h3).1
    refine ⟨some ⟨g, 0, none⟩, cap, h1, fun _ => ⟨g, rfl, h2, hg⟩, fun k x hk => ⟨g, rfl, hg, ?_⟩⟩
    obtain ⟨e1, e2, e3⟩ := tpcs_get l k x hk
    have hc : ∀ j u, (tpcs l)[j]? = some u → w.cell? ⟨g, j, none⟩ = some u := fun j u hj => by
      have := h.cells (g := g) (by rw [h1]; rfl) j u hj
      rw [show (⟨g, 0, none⟩ : Addr).add j = ⟨g, j, none⟩ by unfold Addr.add; split <;> simp_all] at this
      exact this
    exact ⟨hc _ _ e1, hc _ _ e2, hc _ _ e3⟩
theorem row_frozenT {w : World} {B g n cap : Nat} {l : List Trp} (h : w.ownsRow B 65 3 (.slice (some ⟨g, 0, none⟩) n cap) l.length (tpcs l)) (j : Nat) : w.frozen? ⟨g, j, none⟩ = false := by
  rcases h.2 with ⟨h1, _⟩ | ⟨g', cap', cur, h1, _, h3, _⟩
  · cases h1
  · cases h1
    exact frozen_of_row w g j cur 65 h3
theorem row_setT {w : World} {B g n cap : Nat} {l : List Trp} (h : w.ownsRow B 65 3 (.slice (some ⟨g, 0, none⟩) n cap) l.length (tpcs l)) (i : Nat) (a : Int) (b c d : Nat) (hi : l[i]? = some (a, b, d)) :
    (w.setCell ⟨g, i * 3 + 2, none⟩ (.int .i64 c)).ownsRow B 65 3 (.slice (some ⟨g, 0, none⟩) n cap) (l.set i (a, b, c)).length (tpcs (l.set i (a, b, c))) := by
  rcases h.2 with ⟨h1, _⟩ | ⟨g', cap', cur, h1, h2, h3, h4, h5, h6, h7⟩
  · cases h1
  · cases h1
    have s1 := Lib.heap_setCell_same (i := i * 3 + 2) h3 (.int .i64 c)
    rw [List.length_set]
    refine ⟨?_, Or.inr ⟨g, cap, _, rfl, h2, s1, h4, h5, by simp [h6], ?_⟩⟩
    · rw [tpcs_len, List.length_set]
    · rw [← tpcs_set l i a b c d hi, ← h7]
      simp [List.take_set]
theorem set_lastT (P : List Trp) (x y : Trp) : (P ++ [x]).set P.length y = P ++ [y] := by
  rw [List.set_append_right _ _ (Nat.le_refl _), Nat.sub_self]; rfl
theorem row_grown {w w' : World} {B : Nat} {e : TypeId} {size : Nat} {v : Value} {n : Nat} {xs : List Value} {k : Nat} (h : w.ownsRow B e size v n xs) (hg : w.grownBy w' (some k)) (hk : ∀ j, v.ownBlock = some j → j ≠ k) : w'.ownsRow B e size v n xs := by
  refine ⟨h.1, ?_⟩
  rcases h.2 with h0 | ⟨g, cap, cur, hv, hb, hgg, hr⟩
  · exact Or.inl h0
  · exact Or.inr ⟨g, cap, cur, hv, hb, (hg.block g (Array.getElem?_eq_some_iff.1 hgg).1 (fun e => by injection e with e; exact hk g (by rw [hv]; rfl) e)).trans hgg, hr⟩
theorem news_t (w : World) (g : Trp) (T : TypeId) : ∀ j u, (tpc g)[j]? = some u → (w.alloc (.cells #[.int .i32 g.1, .int .i64 g.2.1, .int .i64 g.2.2] T)).cell? ((⟨w.heap.size, 0, none⟩ : Addr).add j) = some u := fun j u hj => by
  rw [show (⟨w.heap.size, 0, none⟩ : Addr).add j = ⟨w.heap.size, j, none⟩ by unfold Addr.add; split <;> simp_all]
  rw [cell_of_row _ w.heap.size j #[.int .i32 g.1, .int .i64 g.2.1, .int .i64 g.2.2] T (0, 0) (show (w.heap.push _)[w.heap.size]? = _ by simp)]
  rw [← hj]
  simp [tpc]
theorem Tryd.info65 : (Tryd.prog.info? 65).map (fun i => (i.zero, i.size, i.bytes)) = some (some (.agg #[.int .i32 0, .int .i64 0, .int .i64 0]), 3, 24) := by kernel_rfl

set_option maxRecDepth 100000 in
set_option maxHeartbeats 2000000 in
theorem rrunes_any (l : List UInt8) (w : World) (hl : l.length ≤ 1000000) :
    Calls Tryd.prog 50 #[.string ⟨l.toArray⟩] w fun e w' => ∃ v, e = .returned v ∧ w'.ownsRow w.heap.size 65 3 v (txt l).length (tpcs (txt l)) ∧ Below w.heap.size w w' := by
  obtain ⟨i0, hi, hz0, hz1, hz2⟩ := info_parts Tryd.info65
  have HSZ := hid (show (⟨l.toArray⟩ : ByteArray).size = l.length by show l.toArray.size = _; simp)
  have hit0 := World.iter_heap w ⟨l.toArray⟩ 0
  have HB0 := hid ((Below.refl w.heap.size w).alloc (Nat.le_refl _) (.stringIter ⟨l.toArray⟩ 0))
  have HIT0 := hid hit0
  clear hit0
  go_enter Tryd.func50, Tryd.ntmps50
  go_wp2
  go_loopw [3] (fun v wr => ∃ (t : Nat) (xs : List (Nat × Int)), Hid (plr l 0 = xs ++ plr l t) ∧ Hid (wr.heap[w.heap.size]? = some (.stringIter ⟨l.toArray⟩ t)) ∧ Hid (wr.ownsRow (w.heap.size + 1) 65 3 v (cls l.length xs).length (tpcs (cls l.length xs))) ∧ Hid (Below w.heap.size w wr)) (fun _ wr => l.length - wr.iterPos w.heap.size)
  case atStart => exact ⟨0, [], by simp [Hid], HIT0, World.ownsRow_nil _ _ _ _, HB0⟩
  case round =>
    obtain ⟨t, xs, HP, HI, HO, HB⟩ := hrel
    have hbs := HB.out.size
    have hin : w.heap.size < wr.heap.size := (Array.getElem?_eq_some_iff.1 HI.out).1
    by_cases hlt : t < l.length
    · have hnx := run_next_at (P := Tryd.prog) wr w.heap.size ⟨l.toArray⟩ t 0 HI.out (by rw [HSZ.out]; exact hlt)
      have d1 := Lib.width_pos ⟨l.toArray⟩ t
      have hst := plr_step l t hlt
      obtain ⟨nn, hnn⟩ : ∃ nn, nn = (Utf8.decode ⟨l.toArray⟩ t).2 := ⟨_, rfl⟩
      obtain ⟨rr, hrr⟩ : ∃ rr : Int, rr = ((Utf8.decode ⟨l.toArray⟩ t).1 : Int) := ⟨_, rfl⟩
      rw [← hnn] at hnx hst d1
      rw [← hrr] at hnx hst
      have HP2 := hid (show plr l 0 = (xs ++ [(t, rr)]) ++ plr l (t + nn) by rw [HP.out, hst, List.append_assoc]; rfl)
      obtain ⟨w1, hw1⟩ : ∃ w1, w1 = wr.putObj w.heap.size (.stringIter ⟨l.toArray⟩ (t + nn)) := ⟨_, rfl⟩
      rw [← hw1] at hnx
      have HI1 := hid (show w1.heap[w.heap.size]? = some (.stringIter ⟨l.toArray⟩ (t + nn)) by rw [hw1]; exact World.putObj_heap_same hin)
      have HB1 := hid (show Below w.heap.size w w1 by rw [hw1]; exact HB.out.trans ⟨rfl, rfl, rfl, by simp [World.putObj], fun j hj => World.putObj_heap_other (by omega)⟩)
      have HO1 := hid (show w1.ownsRow (w.heap.size + 1) 65 3 u3 (cls l.length xs).length (tpcs (cls l.length xs)) by rw [hw1]; exact row_grown HO.out (grownBy_putObj' wr _ _) (fun j hj => by have := (HO.out.lt j hj).1; omega))
      have hw1s : wr.heap.size ≤ w1.heap.size := by rw [hw1]; simp [World.putObj]
      have hmes : l.length - wr.iterPos w.heap.size = l.length - t := by unfold World.iterPos; rw [HI.out]
      have HM := hid hmes
      have hcl := cls_len l.length xs
      have hxl : xs.length < l.length := by have h := plr_len l l.length 0 (by omega); rw [HP2.out] at h; simp at h; omega
      clear hmes hnn hrr hst hw1 HP HI HB HO
      rcases List.eq_nil_or_concat xs with rfl | ⟨Q, z, rfl⟩
      · obtain ⟨oo, oc, hu6, _, _⟩ := row_readsT HO1.out
        subst hu6
        have HOD := hid (show w1.ownsRow (w.heap.size + 1) 65 3 (.slice oo 0 oc) 0 [] from HO1.out)
        clear HO1
        go_wp2_with (at_builtin; refine wpList_append_own _ rfl _ _ 62 rfl (w.heap.size + 1) 65 i0 (.agg #[.int .i32 0, .int .i64 0, .int .i64 0]) 3 24 Tryd.underlying62 hi hz0 hz1 hz2 rfl (by decide) (.slice oo 0 oc) 0 [] rfl (HOD.out.alloc _) ⟨w1.heap.size, 0, none⟩ 1 1 (tpc (rr, t, l.length)) rfl rfl ?c1 ?c2 ?c3 ?c4 ?c5 ?_)
        case c1 => exact news_t w1 (rr, t, l.length) 65
        case c2 => exact tpc_one _
        case c3 => unfold maxLen; omega
        case c4 => omega
        case c5 => simp; omega
        intro v2 w2 o2 gr2 _
        have HO2 := hid (show w2.ownsRow (w.heap.size + 1) 65 3 v2 (cls l.length ([] ++ [(t, rr)])).length (tpcs (cls l.length ([] ++ [(t, rr)]))) from o2)
        have HB2 := hid ((HB1.out.alloc HB1.out.size (.cells #[.int .i32 rr, .int .i64 t, .int .i64 l.length] 65)).grown gr2 (by simp; omega) (fun j hj => Nat.le_of_succ_le (HOD.out.lt j hj).1))
        have HI2 := hid (show w2.heap[w.heap.size]? = some (.stringIter ⟨l.toArray⟩ (t + nn)) from (gr2.block w.heap.size (by simp; omega) (fun e => by have := (HOD.out.lt _ e.symm).1; omega)).trans ((Below.heap_alloc w1 _ _ (by omega)).trans HI1.out))
        clear o2 gr2
        go_wp2
        go_roundw
        case rel => exact ⟨t + nn, [] ++ [(t, rr)], HP2, HI2, HO2, HB2⟩
        case measure =>
          rw [HM.out]
          unfold World.iterPos
          rw [HI2.out]
          simp only []
          omega
      · obtain ⟨oo, oc, hu6, hog, hrt⟩ := row_readsT HO1.out
        obtain ⟨g, rfl, hgB, hgl⟩ := hog (by rw [cls_len]; simp)
        subst hu6
        rw [List.concat_eq_append] at *
        obtain ⟨_, hg', _, _, _, c2⟩ := hrt Q.length (z.2, z.1, l.length) (by rw [cls_snoc, List.getElem?_append_right (by rw [cls_len]; exact Nat.le_refl _), cls_len, Nat.sub_self]; rfl)
        injection hg' with hg'
        injection hg' with hg' _ _
        subst hg'
        have f2 := row_frozenT HO1.out (Q.length * 3 + 2)
        have HST := hid (show (w1.setCell ⟨g, Q.length * 3 + 2, none⟩ (.int .i64 t)).ownsRow (w.heap.size + 1) 65 3 (.slice (some ⟨g, 0, none⟩) (cls l.length (Q ++ [z])).length oc) (cls t (Q ++ [z])).length (tpcs (cls t (Q ++ [z]))) by
          have h := row_setT HO1.out Q.length z.2 z.1 t l.length (by rw [cls_snoc, List.getElem?_append_right (by rw [cls_len]; exact Nat.le_refl _), cls_len, Nat.sub_self]; rfl)
          have e : (cls l.length (Q ++ [z])).set Q.length (z.2, z.1, t) = cls t (Q ++ [z]) := by
            rw [cls_snoc, cls_snoc]
            have := set_lastT (cls z.1 Q) (z.2, z.1, l.length) (z.2, z.1, t)
            rw [cls_len] at this
            exact this
          rw [e] at h
          exact h)
        obtain ⟨n, hn⟩ : ∃ n, n = Q.length := ⟨_, rfl⟩
        have hcl2 : (cls l.length (Q ++ [z])).length = n + 1 := by rw [cls_len, hn]; simp
        have hcl3 : (cls t (Q ++ [z])).length = n + 1 := by rw [cls_len, hn]; simp
        rw [hcl2, hcl3, ← hn] at HST
        rw [← hn] at c2 f2
        dsimp only at c2
        have hn9 : n < l.length := by rw [hn]; simp at hxl; omega
        rw [hcl2]
        have HI2 := hid (show (w1.setCell ⟨g, n * 3 + 2, none⟩ (.int .i64 t)).heap[w.heap.size]? = some (.stringIter ⟨l.toArray⟩ (t + nn)) from (Below.heap_setCell _ _ _ _ (show w.heap.size ≠ g by omega)).trans HI1.out)
        have HB2 := hid (show Below w.heap.size w (w1.setCell ⟨g, n * 3 + 2, none⟩ (.int .i64 t)) from HB1.out.setCell (p := ⟨g, n * 3 + 2, none⟩) (show w.heap.size ≤ g by omega) _)
        have HW2 := hid (show (w1.setCell ⟨g, n * 3 + 2, none⟩ (.int .i64 t)).heap.size = w1.heap.size by simp)
        have t0 : decide ((0 : Int) < (n : Int) + 1) = true := decide_eq_true (by omega)
        have esub : ((n : Int) + 1) - 1 = (n : Int) := by omega
        have ewr : IntKind.i64.wrap (n : Int) = (n : Int) := by rw [IntKind.wrap_i64]; omega
        have i1 : (0 : Int) ≤ (n : Int) := by omega
        have i2 : (n : Int) < (n : Int) + 1 := by omega
        have HCL := hid (show cls l.length (Q ++ [z] ++ [(t, rr)]) = cls t (Q ++ [z]) ++ [(rr, t, l.length)] from cls_snoc _ _ _)
        have HC3 := hid hcl3
        clear hrt hog hcl hcl2 HO1 HB1 HI1 hn hxl hcl3
        go_wp2_with (at_builtin; refine wpList_append_own _ rfl _ _ 62 rfl (w.heap.size + 1) 65 i0 (.agg #[.int .i32 0, .int .i64 0, .int .i64 0]) 3 24 Tryd.underlying62 hi hz0 hz1 hz2 rfl (by decide) (.slice (some ⟨g, 0, none⟩) (n + 1) oc) (n + 1) (tpcs (cls t (Q ++ [z]))) rfl (HST.out.alloc _) ⟨w1.heap.size, 0, none⟩ 1 1 (tpc (rr, t, l.length)) rfl rfl ?c1 ?c2 ?c3 ?c4 ?c5 ?_)
        case c1 => exact fun _ _ h => h
        case c2 => exact tpc_one _
        case c3 => unfold maxLen; omega
        case c4 => omega
        case c5 => omega
        intro v2 w2 o2 gr2 _
        have HO2 := hid (show w2.ownsRow (w.heap.size + 1) 65 3 v2 (cls l.length (Q ++ [z] ++ [(t, rr)])).length (tpcs (cls l.length (Q ++ [z] ++ [(t, rr)]))) by rw [HCL.out, tpcs_snoc, List.length_append, HC3.out]; exact o2)
        have HB3 := hid ((HB2.out.alloc (by rw [HW2.out]; omega) (.cells #[.int .i32 rr, .int .i64 t, .int .i64 l.length] 65)).grown gr2 (by simp; omega) (fun j hj => Nat.le_of_succ_le (HST.out.lt j hj).1))
        have HI3 := hid (show w2.heap[w.heap.size]? = some (.stringIter ⟨l.toArray⟩ (t + nn)) from (gr2.block w.heap.size (by simp; omega) (fun e => by have := (HST.out.lt _ e.symm).1; omega)).trans ((Below.heap_alloc _ _ _ (by rw [HW2.out]; omega)).trans HI2.out))
        clear o2 gr2
        go_wp2
        go_roundw
        case rel => exact ⟨t + nn, Q ++ [z] ++ [(t, rr)], HP2, HI3, HO2, HB3⟩
        case measure =>
          rw [HM.out]
          unfold World.iterPos
          rw [HI3.out]
          simp only []
          omega
    · have hnx := run_next_stop (P := Tryd.prog) wr w.heap.size ⟨l.toArray⟩ t 0 HI.out (by rw [HSZ.out]; exact hlt)
      have HE := hid (show plr l 0 = xs by rw [HP.out, plr_end l t hlt, List.append_nil])
      go_wp2
      go_ret
      exact ⟨_, rfl, by unfold txt; rw [HE.out]; exact ownsRow_base2 HO.out (by omega), HB.out⟩
/-- The same, as it reads. -/
theorem rrunes_rd (l : List UInt8) (w : World) (hl : l.length ≤ 1000000) :
    Calls Tryd.prog 50 #[.string ⟨l.toArray⟩] w fun e w' => ∃ xo xc, e = .returned (.slice xo (txt l).length xc) ∧ RdT w' xo (txt l) ∧ Below w.heap.size w w' :=
  (rrunes_any l w hl).mono fun _ _ ⟨_, h1, h2, h3⟩ => by
    obtain ⟨xo, xc, e, _, hr⟩ := row_readsT h2
    subst e
    exact ⟨xo, xc, h1, hr, h3⟩
theorem txt_len (l : List UInt8) : (txt l).length ≤ l.length := by
  unfold txt; rw [cls_len]; exact plr_len l l.length 0 (by omega)
end Go.Proofs.YtfahbdlcokoghaaDoor
/- The runs of a set in a text, rune by rune: the mathematics. -/
namespace Go.Proofs.YtfahbdlcokoghaaDoor
open Go.RowKit

/-- Where the run that is open at the end began. -/
def endO (p : Int → Bool) : Option Nat → List (Nat × Int) → Option Nat
  | f, [] => f
  | none, x :: t => if p x.2 then endO p (some x.1) t else endO p none t
  | some f, x :: t => if p x.2 then endO p (some f) t else endO p none t
/-- The runs that are shut. -/
def clo (p : Int → Bool) : Option Nat → List (Nat × Int) → List (Nat × Nat)
  | _, [] => []
  | none, x :: t => if p x.2 then clo p (some x.1) t else clo p none t
  | some f, x :: t => if p x.2 then clo p (some f) t else (f, x.1) :: clo p none t
def tlo (e : Nat) : Option Nat → List (Nat × Nat)
  | none => []
  | some f => [(f, e)]
theorem rnF_split (p : Int → Bool) (N : Nat) : ∀ (xs : List (Nat × Int)) (f : Option Nat), rnF p N f xs = clo p f xs ++ tlo N (endO p f xs)
  | [], none => rfl
  | [], some f => rfl
  | x :: t, none => by
    unfold rnF clo endO
    split
    · exact rnF_split p N t (some x.1)
    · exact rnF_split p N t none
  | x :: t, some f => by
    unfold rnF clo endO
    split
    · exact rnF_split p N t (some f)
    · rw [rnF_split p N t none]; rfl
theorem endO_snoc (p : Int → Bool) (x : Nat × Int) : ∀ (xs : List (Nat × Int)) (f : Option Nat), endO p f (xs ++ [x]) = if p x.2 then some ((endO p f xs).getD x.1) else none
  | [], none => by
    show (if p x.2 then endO p (some x.1) [] else endO p none []) = _
    rfl
  | [], some f => by
    show (if p x.2 then endO p (some f) [] else endO p none []) = _
    rfl
  | y :: t, none => by
    rw [List.cons_append]
    unfold endO
    split
    · exact endO_snoc p x t (some y.1)
    · exact endO_snoc p x t none
  | y :: t, some f => by
    rw [List.cons_append]
    unfold endO
    split
    · exact endO_snoc p x t (some f)
    · exact endO_snoc p x t none
theorem clo_snoc (p : Int → Bool) (x : Nat × Int) : ∀ (xs : List (Nat × Int)) (f : Option Nat), clo p f (xs ++ [x]) = if p x.2 then clo p f xs else clo p f xs ++ tlo x.1 (endO p f xs)
  | [], none => by
    show (if p x.2 then clo p (some x.1) [] else clo p none []) = _
    unfold endO clo tlo
    split <;> rfl
  | [], some f => by
    show (if p x.2 then clo p (some f) [] else (f, x.1) :: clo p none []) = _
    unfold endO clo tlo
    split <;> rfl
  | y :: t, none => by
    rw [List.cons_append]
    unfold clo endO
    split
    · exact clo_snoc p x t (some y.1)
    · exact clo_snoc p x t none
  | y :: t, some f => by
    rw [List.cons_append]
    unfold clo endO
    split
    · exact clo_snoc p x t (some f)
    · rw [clo_snoc p x t none]
      split
      · rfl
      · rfl
/-- The runs of a beginning of a text that ends at a place. -/
def rnE (p : Int → Bool) (e : Nat) (xs : List (Nat × Int)) : List (Nat × Nat) := clo p none xs ++ tlo e (endO p none xs)
theorem rnE_all (p : Int → Bool) (l : List UInt8) : rnl p l = rnE p l.length (plr l 0) := rnF_split p l.length (plr l 0) none
theorem rnE_no (p : Int → Bool) (e : Nat) (xs : List (Nat × Int)) (x : Nat × Int) (h : p x.2 = false) : rnE p e (xs ++ [x]) = rnE p x.1 xs := by
  unfold rnE
  rw [clo_snoc, endO_snoc, h]
  simp [tlo]
theorem rnE_new (p : Int → Bool) (e : Nat) (xs : List (Nat × Int)) (x : Nat × Int) (h : p x.2 = true) (ho : endO p none xs = none) : rnE p e (xs ++ [x]) = rnE p x.1 xs ++ [(x.1, e)] := by
  unfold rnE
  rw [clo_snoc, endO_snoc, h, ho]
  simp [tlo]
theorem rnE_more (p : Int → Bool) (e : Nat) (xs : List (Nat × Int)) (x : Nat × Int) (f : Nat) (h : p x.2 = true) (ho : endO p none xs = some f) : rnE p e (xs ++ [x]) = clo p none xs ++ [(f, e)] ∧ rnE p x.1 xs = clo p none xs ++ [(f, x.1)] := by
  unfold rnE
  rw [clo_snoc, endO_snoc, h, ho]
  simp [tlo]
theorem endO_last (p : Int → Bool) (xs : List (Nat × Int)) (z : Nat × Int) : (endO p none (xs ++ [z])).isSome = p z.2 := by
  rw [endO_snoc]
  cases p z.2 <;> rfl

/-- The places of a text rise. -/
def upF : Nat → Nat → List (Nat × Int) → Prop
  | _, _, [] => True
  | b, N, x :: t => b ≤ x.1 ∧ x.1 < N ∧ upF (x.1 + 1) N t
theorem upF_mono : ∀ {xs : List (Nat × Int)} {b c N : Nat}, upF b N xs → c ≤ b → upF c N xs
  | [], _, _, _, _, _ => trivial
  | x :: t, b, c, N, h, hc => ⟨by have := h.1; omega, h.2⟩
theorem plr_up (l : List UInt8) : ∀ (n t : Nat), l.length - t ≤ n → upF t l.length (plr l t)
  | 0, t, h => by rw [plr_end l t (by omega)]; trivial
  | n + 1, t, h => by
    by_cases ht : t < l.length
    · have hw := Lib.width_pos ⟨l.toArray⟩ t
      have ih := plr_up l n (t + (Utf8.decode ⟨l.toArray⟩ t).2) (by omega)
      rw [plr_step l t ht]
      exact ⟨Nat.le_refl _, ht, upF_mono ih (by show t + 1 ≤ _; omega)⟩
    · rw [plr_end l t ht]; trivial
theorem upF_app : ∀ {xs : List (Nat × Int)} {b N : Nat} {x : Nat × Int} {ys : List (Nat × Int)}, upF b N (xs ++ x :: ys) → upF b x.1 xs ∧ b ≤ x.1 ∧ x.1 < N ∧ upF (x.1 + 1) N ys
  | [], b, N, x, ys, h => ⟨trivial, h.1, h.2.1, h.2.2⟩
  | y :: t, b, N, x, ys, h => by
    have ih := upF_app h.2.2
    have := h.1
    have h2 := ih.2.1
    exact ⟨⟨h.1, by omega, ih.1⟩, by omega, ih.2.2⟩
theorem nxt_bd {b N : Nat} : ∀ {ys : List (Nat × Int)}, upF b N ys → b ≤ N → b ≤ nxt N ys ∧ nxt N ys ≤ N
  | [], _, h => ⟨h, Nat.le_refl _⟩
  | _ :: _, h, _ => ⟨h.1, Nat.le_of_lt h.2.1⟩
theorem endO_bd (p : Int → Bool) : ∀ {xs : List (Nat × Int)} {f : Option Nat} {b N s : Nat}, upF b N xs → b ≤ N → (∀ g, f = some g → g ≤ b) → endO p f xs = some s → s ≤ N
  | [], f, b, N, s, _, hb, hf, h => by have := hf s h; omega
  | x :: t, none, b, N, s, hu, hb, hf, h => by
    unfold endO at h
    have h1 := hu.2.1
    split at h
    · exact endO_bd p hu.2.2 h1 (fun g e => by cases e; omega) h
    · exact endO_bd p hu.2.2 h1 (fun g e => by cases e) h
  | x :: t, some f, b, N, s, hu, hb, hf, h => by
    unfold endO at h
    have h1 := hu.2.1
    have h0 := hu.1
    have h2 := hf f rfl
    split at h
    · exact endO_bd p hu.2.2 h1 (fun g e => by cases e; omega) h
    · exact endO_bd p hu.2.2 h1 (fun g e => by cases e) h
theorem cls_get (e : Nat) : ∀ (xs ys : List (Nat × Int)) (x : Nat × Int), (cls e (xs ++ x :: ys))[xs.length]? = some (x.2, x.1, nxt e ys)
  | [], ys, x => rfl
  | z :: xs, ys, x => by
    rw [List.cons_append, cls, List.length_cons, List.getElem?_cons_succ]
    exact cls_get e xs ys x
/-- A rune of a text, with what is ahead and behind. -/
theorem txt_at (l : List UInt8) (k : Nat) (hk : k < (txt l).length) : ∃ (xs ys : List (Nat × Int)) (x : Nat × Int), plr l 0 = xs ++ x :: ys ∧ xs.length = k ∧ (txt l)[k]? = some (x.2, x.1, nxt l.length ys) ∧ upF 0 x.1 xs ∧ x.1 < nxt l.length ys ∧ nxt l.length ys ≤ l.length := by
  unfold txt at hk ⊢
  rw [cls_len] at hk
  have e : plr l 0 = (plr l 0).take k ++ (plr l 0)[k] :: (plr l 0).drop (k + 1) := by
    rw [← List.drop_eq_getElem_cons hk, List.take_append_drop]
  have hl : ((plr l 0).take k).length = k := by rw [List.length_take]; omega
  have hu := plr_up l l.length 0 (by omega)
  rw [e] at hu
  obtain ⟨u1, _, u3, u4⟩ := upF_app hu
  have hn := nxt_bd u4 (by omega)
  refine ⟨_, _, _, e, hl, ?_, u1, by omega, hn.2⟩
  have h := cls_get l.length ((plr l 0).take k) ((plr l 0).drop (k + 1)) (plr l 0)[k]
  rw [← e, hl] at h
  exact h
/-- The place where the rest begins. -/
theorem pre_end (l : List UInt8) (k : Nat) (hk : ¬ k < (txt l).length) (xs ys : List (Nat × Int)) (h : plr l 0 = xs ++ ys) (hx : xs.length = k) : ys = [] ∧ xs = plr l 0 := by
  unfold txt at hk
  rw [cls_len, h, List.length_append] at hk
  have : ys = [] := List.length_eq_zero_iff.1 (by omega)
  subst this
  exact ⟨rfl, by rw [h, List.append_nil]⟩
theorem pre_next {l : List UInt8} {xs ys xs' ys' : List (Nat × Int)} {x : Nat × Int} (h : plr l 0 = xs ++ ys) (h' : plr l 0 = xs' ++ x :: ys') (hl : xs'.length = xs.length) : xs' = xs ∧ ys = x :: ys' := by
  rw [h] at h'
  obtain ⟨h1, h2⟩ := List.append_inj h' hl.symm
  exact ⟨h1.symm, h2⟩
theorem hasR_nrmB (r : Int) (g : List Rg) : hasR r g = hasB r (nrm g) := by
  refine Bool.eq_iff_iff.2 ?_
  rw [hasR_iff, hasB_iff, nrm_in]
end Go.Proofs.YtfahbdlcokoghaaDoor
/- The contract of the document's Runs: where the runs of a set in a text begin and end. -/
namespace Go.Proofs.YtfahbdlcokoghaaDoor
open Go.RowKit

theorem Tryd.info3 : (Tryd.prog.info? 3).map (fun i => (i.zero, i.size, i.bytes)) = some (some (.int .i64 0), 1, 8) := by kernel_rfl
def flv (xs : List (Nat × Nat)) : List Value := xs.flatMap fun x => [.int .i64 x.1, .int .i64 x.2]
theorem flv_app (a b : List (Nat × Nat)) : flv (a ++ b) = flv a ++ flv b := by simp [flv]
theorem flv_len (a : List (Nat × Nat)) : (flv a).length = 2 * a.length := by
  induction a with
  | nil => rfl
  | cons x t ih => show ([_, _] ++ flv t).length = _; rw [List.length_append, ih, List.length_cons]; simp; omega
theorem row_setI {w : World} {B g n cap m : Nat} {e : TypeId} {vs : List Value} (h : w.ownsRow B e 1 (.slice (some ⟨g, 0, none⟩) n cap) m vs) (i : Nat) (u : Value) :
    (w.setCell ⟨g, i, none⟩ u).ownsRow B e 1 (.slice (some ⟨g, 0, none⟩) n cap) m (vs.set i u) := by
  rcases h.2 with ⟨h1, _⟩ | ⟨g', cap', cur, h1, h2, h3, h4, h5, h6, h7⟩
  · cases h1
  · cases h1
    have s1 := Lib.heap_setCell_same (i := i) h3 u
    refine ⟨by rw [List.length_set]; exact h.1, Or.inr ⟨g, cap, _, rfl, h2, s1, h4, h5, by simp [h6], ?_⟩⟩
    rw [← h7]
    simp [List.take_set]
theorem row_frozenI {w : World} {B g n cap m : Nat} {e : TypeId} {vs : List Value} (h : w.ownsRow B e 1 (.slice (some ⟨g, 0, none⟩) n cap) m vs) (j : Nat) : w.frozen? ⟨g, j, none⟩ = false := by
  rcases h.2 with ⟨h1, _⟩ | ⟨g', cap', cur, h1, _, h3, _⟩
  · cases h1
  · cases h1
    exact frozen_of_row w g j cur e h3
theorem row_form {w : World} {B m : Nat} {e : TypeId} {v : Value} {vs : List Value} (h : w.ownsRow B e 1 v m vs) : ∃ ao cap, v = .slice ao m cap ∧ (0 < m → ∃ g, ao = some ⟨g, 0, none⟩ ∧ B ≤ g ∧ g < w.heap.size ∧ ∀ j u, vs[j]? = some u → w.cell? ⟨g, j, none⟩ = some u) := by
  rcases h.2 with ⟨h1, h2⟩ | ⟨g, cap, cur, h1, h2, h3, h4, h5, h6, h7⟩
  · exact ⟨none, 0, by rw [h1, h2], fun h => by omega⟩
  · refine ⟨some ⟨g, 0, none⟩, cap, h1, fun _ => ⟨g, rfl, h2, (Array.getElem?_eq_some_iff.1 h3).1, fun j u hj => ?_⟩⟩
    have := h.cells (g := g) (by rw [h1]; rfl) j u hj
    rw [show (⟨g, 0, none⟩ : Addr).add j = ⟨g, j, none⟩ by unfold Addr.add; split <;> simp_all] at this
    exact this
theorem news_2 (w : World) (a b : Value) (T : TypeId) : ∀ (j : Nat) u, [a, b][j]? = some u → (w.alloc (.cells #[a, b] T)).cell? ((⟨w.heap.size, 0, none⟩ : Addr).add j) = some u := fun j u hj => by
  rw [show (⟨w.heap.size, 0, none⟩ : Addr).add j = ⟨w.heap.size, j, none⟩ by unfold Addr.add; split <;> simp_all]
  rw [cell_of_row _ w.heap.size j #[a, b] T (0, 0) (show (w.heap.push _)[w.heap.size]? = _ by simp)]
  rw [← hj]
  simp
theorem txt_prev (l : List UInt8) (xs ys : List (Nat × Int)) (h : plr l 0 = xs ++ ys) (hx : 0 < xs.length) : ∃ (Q : List (Nat × Int)) (z : Nat × Int) (a b : Nat), xs = Q ++ [z] ∧ (txt l)[xs.length - 1]? = some (z.2, a, b) := by
  rcases List.eq_nil_or_concat xs with rfl | ⟨Q, z, rfl⟩
  · simp at hx
  · rw [List.concat_eq_append] at h ⊢
    rw [List.append_assoc, List.singleton_append] at h
    refine ⟨Q, z, z.1, nxt l.length ys, rfl, ?_⟩
    unfold txt
    rw [h, List.length_append, List.length_singleton, Nat.add_sub_cancel]
    exact cls_get l.length Q ys z

set_option maxRecDepth 100000 in
set_option maxHeartbeats 1000000 in
theorem rruns_any (l : List UInt8) (ao : Option Addr) (ac : Nat) (g : List Rg) (w : World) (ha : RdR w ao g) (hg : g.length ≤ 100000) (hl : l.length ≤ 100000) :
    Calls Tryd.prog 41 #[.string ⟨l.toArray⟩, .slice ao g.length ac] w fun e w' => ∃ v, e = .returned v ∧ w'.ownsRow w.heap.size 3 1 v (2 * (rnl (fun r => hasB r (nrm g)) l).length) (flv (rnl (fun r => hasB r (nrm g)) l)) ∧ Below w.heap.size w w' := by
  obtain ⟨i0, hi, hz0, hz1, hz2⟩ := info_parts Tryd.info3
  have HA := hid ha
  clear ha
  have HRU := hid (rrunes_rd l w (by omega))
  have htl := txt_len l
  obtain ⟨p, hp⟩ : ∃ p : Int → Bool, p = fun r => hasB r (nrm g) := ⟨_, rfl⟩
  have HPP := hid (show ∀ r, hasR r g = p r by intro r; rw [hp]; exact hasR_nrmB r g)
  rw [← hp]
  clear hp
  go_enter Tryd.func41, Tryd.ntmps41
  go_wp2_with fail
  refine HRU.out.mono ?_
  rintro e w1 ⟨xo, xc, rfl, hrd, hb1⟩
  have HRD := hid hrd
  have HA1 := hid (HA.out.below hb1)
  have HB1 := hid hb1
  have hs1 := hb1.size
  clear hrd hb1 HRU HA
  go_wp2
  go_loopw [5, 7] (fun v i wr => ∃ (k : Nat) (xs ys : List (Nat × Int)), i = .int .i64 k ∧ k ≤ (txt l).length ∧ Hid (plr l 0 = xs ++ ys) ∧ Hid (xs.length = k) ∧ Hid (wr.ownsRow w1.heap.size 3 1 v (2 * (rnE p (nxt l.length ys) xs).length) (flv (rnE p (nxt l.length ys) xs))) ∧ Hid (Below w1.heap.size w1 wr)) (fun _ i _ => (txt l).length - (intOf i).toNat)
  case atStart => exact ⟨0, [], plr l 0, rfl, by omega, rfl, rfl, World.ownsRow_nil _ _ _ _, Below.refl _ _⟩
  case round =>
    obtain ⟨k, xs, ys, rfl, hk, HP, HX, HO, HB⟩ := hrel
    have hbs := HB.out.size
    have HAr := hid (HA1.out.below HB.out)
    by_cases hlt : k < (txt l).length
    · obtain ⟨xs', ys', x, q1, q2, q3, q4, q5, q6⟩ := txt_at l k hlt
      obtain ⟨rfl, rfl⟩ := pre_next HP.out q1 (by rw [q2]; exact HX.out.symm)
      obtain ⟨gx, rfl, hgx, a0, a1, a2⟩ := HRD.out k _ q3
      dsimp only at a0 a1 a2
      replace a0 := (HB.out.cell (p := ⟨gx, k * 3, none⟩) hgx).trans a0
      replace a1 := (HB.out.cell (p := ⟨gx, k * 3 + 1, none⟩) hgx).trans a1
      replace a2 := (HB.out.cell (p := ⟨gx, k * 3 + 2, none⟩) hgx).trans a2
      obtain ⟨xr, hxr⟩ : ∃ xr, xr = x.2 := ⟨_, rfl⟩
      obtain ⟨xf, hxf⟩ : ∃ xf, xf = x.1 := ⟨_, rfl⟩
      obtain ⟨xt, hxt⟩ : ∃ xt, xt = nxt l.length ys' := ⟨_, rfl⟩
      have HPX := hid (show plr l 0 = (xs' ++ [x]) ++ ys' by rw [List.append_assoc]; exact q1)
      have HXL := hid (show (xs' ++ [x]).length = k + 1 by rw [List.length_append, q2]; rfl)
      have hrl : (rnE p x.1 xs').length ≤ k + 1 := by
        have := rnF_len p x.1 xs' none
        rw [rnF_split] at this
        unfold rnE
        omega
      have HO2 := hid (show wr.ownsRow w1.heap.size 3 1 u5 (2 * (rnE p x.1 xs').length) (flv (rnE p x.1 xs')) from HO.out)
      have HNO := hid (fun h => rnE_no p xt xs' x h)
      have HNW := hid (fun h ho => rnE_new p xt xs' x h ho)
      have HMO := hid (fun f h ho => rnE_more p xt xs' x f h ho)
      rw [← hxt] at a2
      rw [← hxr] at a0 HNO HNW HMO
      rw [← hxf] at a1 HO2 hrl HNO HNW HMO
      have HGO := hid (show ∀ (v : Value) (W : World), W.ownsRow w1.heap.size 3 1 v (2 * (rnE p xt (xs' ++ [x])).length) (flv (rnE p xt (xs' ++ [x]))) → W.ownsRow w1.heap.size 3 1 v (2 * (rnE p (nxt l.length ys') (xs' ++ [x])).length) (flv (rnE p (nxt l.length ys') (xs' ++ [x]))) by rw [hxt]; exact fun _ _ h => h)
      have HPV := hid (fun h => txt_prev l xs' (x :: ys') HP.out h)
      rw [q2] at HPV
      have HX0 := hid (show k = 0 → endO p none xs' = none from fun h => by rw [h] at q2; rw [List.length_eq_zero_iff.1 q2]; rfl)
      clear HO HP HX q1 q3 q4 hxr hxf hxt q2
      obtain ⟨b, hb⟩ : ∃ b, p xr = b := ⟨_, rfl⟩
      have HHV := hid (fun z => rhas_eq ao ac g z (p z) (HPP.out z) wr HAr.out (by omega))
      cases b with
      | false =>
        have HE := hid (HNO.out hb)
        clear HNO HNW HMO
        go_wp2_with (go_at_call 18; refine (HHV.out _).mono ?_; rintro e y ⟨rfl, hw⟩; obtain rfl := hw.symm; clear hw; rw [hb])
        go_roundw
        case rel => exact ⟨k + 1, xs' ++ [x], ys', by go_num, by omega, HPX, HXL, HGO.out _ _ (by rw [HE.out]; exact HO2.out), HB⟩
        case measure => simp [intOf]; omega
      | true =>
        by_cases h0 : k = 0
        · subst h0
          simp only [Nat.zero_mul, Nat.zero_add] at a0 a1 a2
          have HQ := hid (HNW.out hb (HX0.out rfl))
          obtain ⟨oo, oc, rfl, hog⟩ := row_form HO2.out
          obtain ⟨m, hm⟩ : ∃ m, m = 2 * (rnE p xf xs').length := ⟨_, rfl⟩
          obtain ⟨vs, hvs⟩ : ∃ vs, vs = flv (rnE p xf xs') := ⟨_, rfl⟩
          have HE := hid (show flv (rnE p xt (xs' ++ [x])) = vs ++ [.int .i64 xf, .int .i64 xt] ∧ 2 * (rnE p xt (xs' ++ [x])).length = m + 2 by rw [HQ.out, flv_app, hvs, hm]; refine ⟨rfl, ?_⟩; simp; omega)
          rw [← hm, ← hvs] at HO2
          rw [← hm]
          have hm9 : m ≤ 200004 := by omega
          clear hm hvs hog HNO HNW HMO HQ
          go_wp2_with (go_at_call 18; refine (HHV.out _).mono ?_; rintro e y ⟨rfl, hw⟩; obtain rfl := hw.symm; clear hw; rw [hb])
          have hne : (Value.slice oo m oc).ownBlock ≠ some gx := fun e => by have := (HO2.out.lt gx e).1; omega
          have HCF := hid (fun (o : Obj) (W' : World) (gr : ((wr.alloc o).drew).grownBy W' (Value.slice oo m oc).ownBlock) => show W'.cell? ⟨gx, 1, none⟩ = some (.int .i64 xf) ∧ W'.cell? ⟨gx, 2, none⟩ = some (.int .i64 xt) from
            ⟨(gr.cell_far ⟨gx, 1, none⟩ (by simp; omega) (Ne.symm hne)).trans ((((Below.refl wr.heap.size wr).alloc (Nat.le_refl _) o).cell (p := ⟨gx, 1, none⟩) (show gx < wr.heap.size by omega)).trans a1), (gr.cell_far ⟨gx, 2, none⟩ (by simp; omega) (Ne.symm hne)).trans ((((Below.refl wr.heap.size wr).alloc (Nat.le_refl _) o).cell (p := ⟨gx, 2, none⟩) (show gx < wr.heap.size by omega)).trans a2)⟩)
          go_region_held3 (fun W => W.cell? ⟨gx, 1, none⟩ = some (.int .i64 xf) ∧ W.cell? ⟨gx, 2, none⟩ = some (.int .i64 xt))
            (first | go_keep | (exact HCF.out _ _ gr2))
            ((refine step_append_lies _ (by rfl) _ _ _ (by rfl) w1.heap.size 3 i0 _ 1 8 Tryd.underlying51 hi hz0 hz1 hz2 rfl (by omega) (.slice oo m oc) m vs (by rfl) ((HO2.out.alloc _).drew) ⟨wr.heap.size, 0, none⟩ 2 2 [.int .i64 xf, .int .i64 xt] (by rfl) (by rfl) (World.news_of_block (cs := #[.int .i64 xf, .int .i64 xt]) (t := 3) (fr := (0, 0)) (heap_alloc_new wr _)) (by simp [Value.oneCell']) (by omega) (by unfold maxLen; omega) (by omega) (by simp; omega) (wr.heap.size + 1) (by simp) ?_; intro gg cc w2 o2 gr2 hat hlt2))
          have HO3 := hid (HGO.out _ w2 (by rw [HE.out.1, HE.out.2]; exact o2))
          have HB3 := hid ((HB.out.alloc hbs (.cells #[.int .i64 xf, .int .i64 xt] 3)).drew.grown gr2 (by simp; omega) (fun j hj => (HO2.out.lt j hj).1))
          clear o2 gr2
          go_wp2
          go_roundw
          case rel => exact ⟨0 + 1, xs' ++ [x], ys', by go_num, by omega, HPX, HXL, HO3, HB3⟩
          case measure => simp [intOf]; omega
        · obtain ⟨j, rfl⟩ : ∃ j, k = j + 1 := ⟨k - 1, by omega⟩
          obtain ⟨Q, z, za, zb, hQ, hz⟩ := HPV.out (by omega)
          rw [Nat.add_sub_cancel] at hz
          obtain ⟨_, hgz, _, b0, _, _⟩ := (HRD.out.below HB.out) j _ hz
          injection hgz with hgz
          injection hgz with hgz _ _
          subst hgz
          dsimp only at b0
          have hel := endO_last p Q z
          rw [← hQ] at hel
          obtain ⟨zr, hzr⟩ : ∃ zr, zr = z.2 := ⟨_, rfl⟩
          rw [← hzr] at b0 hel
          obtain ⟨c, hc⟩ : ∃ c, p zr = c := ⟨_, rfl⟩
          have hel0 := hel
          rw [hc] at hel
          clear hel0
          have t0 : decide ((0 : Int) < (j : Int) + 1) = true := decide_eq_true (by omega)
          have esub : ((j : Int) + 1) - 1 = (j : Int) := by omega
          have ewr : IntKind.i64.wrap (j : Int) = (j : Int) := by rw [IntKind.wrap_i64]; omega
          have i1 : (0 : Int) ≤ (j : Int) := by omega
          have i2 : (j : Int) < ((txt l).length : Int) := by omega
          have i5 : (0 : Int) ≤ (j : Int) + 1 := by omega
          have i6 : (j : Int) + 1 < ((txt l).length : Int) := by omega
          clear hz hQ hzr HPV HX0
          cases c with
          | false =>
            have HQ := hid (HNW.out hb (by cases he : endO p none xs' with | none => rfl | some f => rw [he] at hel; cases hel))
            clear hel
            obtain ⟨oo, oc, rfl, hog⟩ := row_form HO2.out
            obtain ⟨m, hm⟩ : ∃ m, m = 2 * (rnE p xf xs').length := ⟨_, rfl⟩
            obtain ⟨vs, hvs⟩ : ∃ vs, vs = flv (rnE p xf xs') := ⟨_, rfl⟩
            have HE := hid (show flv (rnE p xt (xs' ++ [x])) = vs ++ [.int .i64 xf, .int .i64 xt] ∧ 2 * (rnE p xt (xs' ++ [x])).length = m + 2 by rw [HQ.out, flv_app, hvs, hm]; refine ⟨rfl, ?_⟩; simp; omega)
            rw [← hm, ← hvs] at HO2
            rw [← hm]
            have hm9 : m ≤ 200004 := by omega
            clear hm hvs hog HNO HNW HMO HQ
            go_wp2_with (go_at_call 18; refine (HHV.out _).mono ?_; rintro e y ⟨rfl, hw⟩; obtain rfl := hw.symm; clear hw; try rw [hb]; try rw [hc])
            have hne : (Value.slice oo m oc).ownBlock ≠ some gx := fun e => by have := (HO2.out.lt gx e).1; omega
            have HCF := hid (fun (o : Obj) (W' : World) (gr : ((wr.alloc o).drew).grownBy W' (Value.slice oo m oc).ownBlock) => show W'.cell? ⟨gx, (j + 1) * 3 + 1, none⟩ = some (.int .i64 xf) ∧ W'.cell? ⟨gx, (j + 1) * 3 + 2, none⟩ = some (.int .i64 xt) from
              ⟨(gr.cell_far ⟨gx, (j + 1) * 3 + 1, none⟩ (by simp; omega) (Ne.symm hne)).trans ((((Below.refl wr.heap.size wr).alloc (Nat.le_refl _) o).cell (p := ⟨gx, (j + 1) * 3 + 1, none⟩) (show gx < wr.heap.size by omega)).trans a1), (gr.cell_far ⟨gx, (j + 1) * 3 + 2, none⟩ (by simp; omega) (Ne.symm hne)).trans ((((Below.refl wr.heap.size wr).alloc (Nat.le_refl _) o).cell (p := ⟨gx, (j + 1) * 3 + 2, none⟩) (show gx < wr.heap.size by omega)).trans a2)⟩)
            go_region_held3 (fun W => W.cell? ⟨gx, (j + 1) * 3 + 1, none⟩ = some (.int .i64 xf) ∧ W.cell? ⟨gx, (j + 1) * 3 + 2, none⟩ = some (.int .i64 xt))
              (first | go_keep | (exact HCF.out _ _ gr2))
              ((refine step_append_lies _ (by rfl) _ _ _ (by rfl) w1.heap.size 3 i0 _ 1 8 Tryd.underlying51 hi hz0 hz1 hz2 rfl (by omega) (.slice oo m oc) m vs (by rfl) ((HO2.out.alloc _).drew) ⟨wr.heap.size, 0, none⟩ 2 2 [.int .i64 xf, .int .i64 xt] (by rfl) (by rfl) (World.news_of_block (cs := #[.int .i64 xf, .int .i64 xt]) (t := 3) (fr := (0, 0)) (heap_alloc_new wr _)) (by simp [Value.oneCell']) (by omega) (by unfold maxLen; omega) (by omega) (by simp; omega) (wr.heap.size + 1) (by simp) ?_; intro gg cc w2 o2 gr2 hat hlt2))
            have HO3 := hid (HGO.out _ w2 (by rw [HE.out.1, HE.out.2]; exact o2))
            have HB3 := hid ((HB.out.alloc hbs (.cells #[.int .i64 xf, .int .i64 xt] 3)).drew.grown gr2 (by simp; omega) (fun j hj => (HO2.out.lt j hj).1))
            clear o2 gr2
            go_wp2
            go_roundw
            case rel => exact ⟨j + 1 + 1, xs' ++ [x], ys', by go_num, by omega, HPX, HXL, HO3, HB3⟩
            case measure => simp [intOf]; omega
          | true =>
            obtain ⟨f, hf⟩ : ∃ f, endO p none xs' = some f := by cases he : endO p none xs' with | none => rw [he] at hel; cases hel | some f => exact ⟨f, rfl⟩
            obtain ⟨m1, m2⟩ := HMO.out f hb hf
            rw [m2] at HO2 hrl
            obtain ⟨C, hC⟩ : ∃ C, C = clo p none xs' := ⟨_, rfl⟩
            rw [← hC] at m1 HO2 hrl
            obtain ⟨oo, oc, hu, hog⟩ := row_form HO2.out
            obtain ⟨gg, rfl, hgB, hgl, hgc⟩ := hog (by simp)
            subst hu
            have hev : flv (C ++ [(f, xf)]) = flv C ++ [.int .i64 f, .int .i64 xf] := by rw [flv_app]; rfl
            have hcl : (flv C).length = 2 * C.length := flv_len C
            obtain ⟨n, hn⟩ : ∃ n, n = 2 * C.length + 1 := ⟨_, rfl⟩
            have hml : 2 * (C ++ [(f, xf)]).length = n + 1 := by simp; omega
            have hn9 : n ≤ 200004 := by simp at hrl; omega
            have cN := hgc n (.int .i64 xf) (by rw [hev, List.getElem?_append_right (by omega), hcl, hn, Nat.add_sub_cancel_left]; rfl)
            have fN := row_frozenI HO2.out n
            have HO4 := hid (row_setI HO2.out n (.int .i64 xt))
            have hset : (flv (C ++ [(f, xf)])).set n (.int .i64 xt) = flv (C ++ [(f, xt)]) := by
              rw [hev, List.set_append_right _ _ (by omega), hcl, hn, Nat.add_sub_cancel_left, flv_app]; rfl
            rw [hset, hml] at HO4
            have HE := hid (show 2 * (rnE p xt (xs' ++ [x])).length = n + 1 by rw [m1, ← hml]; simp)
            have HE1 := hid m1
            have t1 : decide ((0 : Int) < (n : Int) + 1) = true := decide_eq_true (by omega)
            have esub2 : ((n : Int) + 1) - 1 = (n : Int) := by omega
            have ewr2 : IntKind.i64.wrap (n : Int) = (n : Int) := by rw [IntKind.wrap_i64]; omega
            have i3 : (0 : Int) ≤ (n : Int) := by omega
            have i4 : (n : Int) < (n : Int) + 1 := by omega
            rw [hml]
            have HO5 := hid (HGO.out _ _ (by rw [HE.out, HE1.out]; exact HO4.out))
            have HB5 := hid (HB.out.setCell (p := ⟨gg, n, none⟩) hgB (.int .i64 xt))
            clear hel hf m1 m2 hC hog hgc hev hcl hml hn hset HNO HNW HMO HO2 hrl HO4 HE HE1
            go_wp2_with (first | (go_at_call 18; refine (HHV.out _).mono ?_; rintro e y ⟨rfl, hw⟩; obtain rfl := hw.symm; clear hw; try rw [hb]; try rw [hc]))
            go_roundw
            case rel => exact ⟨j + 1 + 1, xs' ++ [x], ys', by go_num, by omega, HPX, HXL, HO5, HB5⟩
            case measure => simp [intOf]; omega
    · have HF := hid (pre_end l k hlt xs ys HP.out HX.out)
      go_wp2
      go_ret
      refine ⟨_, rfl, ?_, HB1.out.trans (HB.out.mono hs1)⟩
      rw [rnE_all]
      have h := HO.out
      rw [HF.out.1, HF.out.2] at h
      exact ownsRow_base2 h hs1
end Go.Proofs.YtfahbdlcokoghaaDoor
/- The contract of the document's Trim. -/
namespace Go.Proofs.YtfahbdlcokoghaaDoor
open Go.RowKit

/-- What the walk from behind holds: the places of the first and behind the last that are not in the set, of what lies at or behind a place. -/
def trm (p : Int → Bool) (N : Nat) : List Trp → Nat × Nat
  | [] => (N, N)
  | x :: t => if p x.1 then trm p N t else (x.2.1, if (trm p N t).1 = N then x.2.2 else (trm p N t).2)

set_option maxRecDepth 100000 in
set_option maxHeartbeats 1000000 in
theorem rtrim_any (l : List UInt8) (ao : Option Addr) (ac : Nat) (g : List Rg) (w : World) (ha : RdR w ao g) (hg : g.length ≤ 100000) (hl : l.length ≤ 100000) :
    Calls Tryd.prog 35 #[.string ⟨l.toArray⟩, .slice ao g.length ac] w fun e w' => e = .returned (.tuple #[.int .i64 (trm (fun r => hasB r (nrm g)) l.length (txt l)).1, .int .i64 (trm (fun r => hasB r (nrm g)) l.length (txt l)).2]) ∧ Below w.heap.size w w' := by
  have HA := hid ha
  clear ha
  have HRU := hid (rrunes_rd l w (by omega))
  have htl := txt_len l
  obtain ⟨p, hp⟩ : ∃ p : Int → Bool, p = fun r => hasB r (nrm g) := ⟨_, rfl⟩
  have HPP := hid (show ∀ r, hasR r g = p r by intro r; rw [hp]; exact hasR_nrmB r g)
  rw [← hp]
  clear hp
  go_enter Tryd.func35, Tryd.ntmps35
  go_wp2_with fail
  refine HRU.out.mono ?_
  rintro e w1 ⟨xo, xc, rfl, hrd, hb1⟩
  have HRD := hid hrd
  have HA1 := hid (HA.out.below hb1)
  have HB1 := hid hb1
  have hs1 := hb1.size
  clear hrd hb1 HRU HA
  have HHV := hid (fun z => rhas_eq ao ac g z (p z) (HPP.out z) w1 HA1.out (by omega))
  have ew0 : IntKind.i64.wrap (((txt l).length : Int) - 1) = ((txt l).length : Int) - 1 := by rw [IntKind.wrap_i64]; omega
  go_wp2
  go_loopw [7, 8, 9] (fun a b i wr => ∃ (n : Nat) (q : Nat × Nat), a = .int .i64 q.1 ∧ b = .int .i64 q.2 ∧ i = .int .i64 ((n : Int) - 1) ∧ n ≤ (txt l).length ∧ Hid (q = trm p l.length ((txt l).drop n)) ∧ wr = w1) (fun _ _ i _ => (intOf i + 1).toNat)
  case atStart => exact ⟨(txt l).length, (l.length, l.length), rfl, rfl, rfl, by omega, by show _ = _; rw [List.drop_length]; rfl, rfl⟩
  case round =>
    obtain ⟨n, q, rfl, rfl, rfl, hn, HQ, rfl⟩ := hrel
    by_cases h0 : n = 0
    · subst h0
      rw [show ((0 : Nat) : Int) - 1 = -1 by omega]
      have HQ2 := hid (show q = trm p l.length (txt l) from HQ.out)
      go_wp2
      refine bodyPost_ret (v := .tuple #[.int .i64 q.1, .int .i64 q.2]) (by simp [results, Tryd.results35, go_sem]) rfl ?_
      exact ⟨by rw [HQ2.out], HB1.out⟩
    · obtain ⟨m, rfl⟩ : ∃ m, n = m + 1 := ⟨n - 1, by omega⟩
      have hm : m < (txt l).length := by omega
      obtain ⟨x, hx⟩ : ∃ x, (txt l)[m]? = some x := ⟨_, List.getElem?_eq_getElem hm⟩
      have hdr : (txt l).drop m = x :: (txt l).drop (m + 1) := by
        rw [List.drop_eq_getElem_cons hm]
        rw [List.getElem?_eq_getElem hm] at hx
        cases hx; rfl
      obtain ⟨gx, rfl, hgx, a0, a1, a2⟩ := HRD.out m x hx
      have HT := hid (show trm p l.length ((txt l).drop m) = if p x.1 then q else (x.2.1, if q.1 = l.length then x.2.2 else q.2) by rw [hdr, trm, ← HQ.out])
      rw [show (((m + 1 : Nat) : Int)) - 1 = (m : Int) by omega]
      have i1 : (0 : Int) ≤ (m : Int) := by omega
      have i2 : (m : Int) < ((txt l).length : Int) := by omega
      have ew : IntKind.i64.wrap ((m : Int) - 1) = (m : Int) - 1 := by rw [IntKind.wrap_i64]; omega
      obtain ⟨xr, hxr⟩ : ∃ xr, xr = x.1 := ⟨_, rfl⟩
      obtain ⟨xf, hxf⟩ : ∃ xf, xf = x.2.1 := ⟨_, rfl⟩
      obtain ⟨xt, hxt⟩ : ∃ xt, xt = x.2.2 := ⟨_, rfl⟩
      rw [← hxr] at a0 HT
      rw [← hxf] at a1 HT
      rw [← hxt] at a2 HT
      obtain ⟨b, hb⟩ : ∃ b, p xr = b := ⟨_, rfl⟩
      rw [hb] at HT
      obtain ⟨q1, q2⟩ := q
      clear hx hdr hxr hxf hxt HQ h0
      dsimp only at HT ⊢
      cases b with
      | true =>
        have HT2 := hid (show (q1, q2) = trm p l.length ((txt l).drop m) by rw [HT.out]; rfl)
        clear HT
        go_wp2_with (go_at_call 18; refine (HHV.out _).mono ?_; rintro e y ⟨rfl, hw⟩; obtain rfl := hw.symm; clear hw; rw [hb])
        go_roundw
        case rel => exact ⟨m, (q1, q2), rfl, rfl, by go_num, by omega, HT2, trivial⟩
        case measure => simp [intOf]
      | false =>
        by_cases hq : q1 = l.length
        · have HT2 := hid (show (xf, xt) = trm p l.length ((txt l).drop m) by rw [HT.out, if_neg (by decide), if_pos hq])
          have tq : ((q1 : Int) == (l.length : Int)) = true := beq_iff_eq.2 (by omega)
          clear HT hq
          go_wp2_with (go_at_call 18; refine (HHV.out _).mono ?_; rintro e y ⟨rfl, hw⟩; obtain rfl := hw.symm; clear hw; rw [hb])
          go_roundw
          case rel => exact ⟨m, (xf, xt), rfl, rfl, by go_num, by omega, HT2, trivial⟩
          case measure => simp [intOf]
        · have HT2 := hid (show (xf, q2) = trm p l.length ((txt l).drop m) by rw [HT.out, if_neg (by decide), if_neg hq])
          have tq : ((q1 : Int) == (l.length : Int)) = false := beq_eq_false_iff_ne.2 (by omega)
          clear HT hq
          go_wp2_with (go_at_call 18; refine (HHV.out _).mono ?_; rintro e y ⟨rfl, hw⟩; obtain rfl := hw.symm; clear hw; rw [hb])
          go_roundw
          case rel => exact ⟨m, (xf, q2), rfl, rfl, by go_num, by omega, HT2, trivial⟩
          case measure => simp [intOf]
end Go.Proofs.YtfahbdlcokoghaaDoor
/- The contract of the document's Of: the set of a text's runes. -/
namespace Go.Proofs.YtfahbdlcokoghaaDoor
open Go.RowKit

/-- Each rune a range. -/
def sgl (xs : List (Nat × Int)) : List Rg := xs.map fun x => (x.2, x.2)
theorem sgl_snoc (xs : List (Nat × Int)) (x : Nat × Int) : sgl (xs ++ [x]) = sgl xs ++ [(x.2, x.2)] := by simp [sgl]

set_option maxRecDepth 100000 in
set_option maxHeartbeats 1000000 in
theorem rof_any (l : List UInt8) (w : World) (hl : l.length ≤ 90000) :
    Calls Tryd.prog 37 #[.string ⟨l.toArray⟩] w fun e w' => ∃ v, e = .returned v ∧ w'.ownsRow w.heap.size 30 2 v (nrm (sgl (plr l 0))).length (rgcs (nrm (sgl (plr l 0)))) ∧ Below w.heap.size w w' := by
  obtain ⟨i0, hi, hz0, hz1, hz2⟩ := info_parts Tryd.info30
  have HSZ := hid (show (⟨l.toArray⟩ : ByteArray).size = l.length by show l.toArray.size = _; simp)
  have HB0 := hid ((Below.refl w.heap.size w).alloc (Nat.le_refl _) (.stringIter ⟨l.toArray⟩ 0))
  have HIT0 := hid (World.iter_heap w ⟨l.toArray⟩ 0)
  have hpl := plr_len l l.length 0 (by omega)
  go_enter Tryd.func37, Tryd.ntmps37
  go_wp2
  go_loopw [3] (fun v wr => ∃ (t : Nat) (xs : List (Nat × Int)) (O : List Rg), Hid (plr l 0 = xs ++ plr l t) ∧ Hid (wr.heap[w.heap.size]? = some (.stringIter ⟨l.toArray⟩ t)) ∧ Hid (wr.ownsRow (w.heap.size + 1) 30 2 v O.length (rgcs O)) ∧ O.length ≤ xs.length ∧ Hid (∀ r, isin r O ↔ isin r (sgl xs)) ∧ Hid (Below w.heap.size w wr)) (fun _ wr => l.length - wr.iterPos w.heap.size)
  case atStart => exact ⟨0, [], [], by simp [Hid], HIT0, World.ownsRow_nil _ _ _ _, by simp, fun r => Iff.rfl, HB0⟩
  case round =>
    obtain ⟨t, xs, O, HP, HI, HO, hox, HM, HB⟩ := hrel
    have hbs := HB.out.size
    have hin : w.heap.size < wr.heap.size := (Array.getElem?_eq_some_iff.1 HI.out).1
    by_cases hlt : t < l.length
    · have hnx := run_next_at (P := Tryd.prog) wr w.heap.size ⟨l.toArray⟩ t 0 HI.out (by rw [HSZ.out]; exact hlt)
      have d1 := Lib.width_pos ⟨l.toArray⟩ t
      have hst := plr_step l t hlt
      obtain ⟨nn, hnn⟩ : ∃ nn, nn = (Utf8.decode ⟨l.toArray⟩ t).2 := ⟨_, rfl⟩
      obtain ⟨rr, hrr⟩ : ∃ rr : Int, rr = ((Utf8.decode ⟨l.toArray⟩ t).1 : Int) := ⟨_, rfl⟩
      rw [← hnn] at hnx hst d1
      rw [← hrr] at hnx hst
      have HP2 := hid (show plr l 0 = (xs ++ [(t, rr)]) ++ plr l (t + nn) by rw [HP.out, hst, List.append_assoc]; rfl)
      have hxl : xs.length < l.length := by rw [HP2.out] at hpl; simp at hpl; omega
      obtain ⟨w1, hw1⟩ : ∃ w1, w1 = wr.putObj w.heap.size (.stringIter ⟨l.toArray⟩ (t + nn)) := ⟨_, rfl⟩
      rw [← hw1] at hnx
      have HI1 := hid (show w1.heap[w.heap.size]? = some (.stringIter ⟨l.toArray⟩ (t + nn)) by rw [hw1]; exact World.putObj_heap_same hin)
      have HB1 := hid (show Below w.heap.size w w1 by rw [hw1]; exact HB.out.trans ⟨rfl, rfl, rfl, by simp [World.putObj], fun j hj => World.putObj_heap_other (by omega)⟩)
      have HO1 := hid (show w1.ownsRow (w.heap.size + 1) 30 2 u3 O.length (rgcs O) by rw [hw1]; exact row_grown HO.out (grownBy_putObj' wr _ _) (fun j hj => by have := (HO.out.lt j hj).1; omega))
      have hw1s : wr.heap.size ≤ w1.heap.size := by rw [hw1]; simp [World.putObj]
      have hmes : l.length - wr.iterPos w.heap.size = l.length - t := by unfold World.iterPos; rw [HI.out]
      have HM2 := hid hmes
      obtain ⟨oo, oc, hu, hro⟩ := rdr_row HO1.out
      subst hu
      obtain ⟨b, hb⟩ : ∃ b, hasR rr O = b := ⟨_, rfl⟩
      have HHA := hid (rhas_eq oo oc O rr b hb w1 hro (by omega))
      have HYES := hid (show b = true → ∀ r, isin r O ↔ isin r (sgl (xs ++ [(t, rr)])) from fun e r => by
        subst e
        rw [sgl_snoc, isin_app, ← HM.out r]
        refine ⟨.inl, fun h => h.elim id (fun h => ?_)⟩
        have h1 := ((hasR_iff _ _).1 hb).2.2
        have h2 : r = rr := by
          rcases h with ⟨a, b⟩ | h
          · dsimp only at a b; omega
          · exact h.elim
        rw [h2]; exact h1)
      have HNOT := hid (show ∀ r, isin r (O ++ [(rr, rr)]) ↔ isin r (sgl (xs ++ [(t, rr)])) from fun r => by rw [sgl_snoc, isin_app, isin_app, HM.out r])
      clear hmes hnn hrr hst hw1 HP HI HB HO hro hb
      cases b with
      | true =>
        have HY := hid (HYES.out rfl)
        clear HYES HNOT
        go_wp2_with (go_at_call 18; refine HHA.out.mono ?_; rintro e y ⟨rfl, hw⟩; obtain rfl := hw.symm; clear hw)
        go_roundw
        case rel => exact ⟨t + nn, xs ++ [(t, rr)], O, HP2, HI1, HO1, by simp; omega, HY, HB1⟩
        case measure =>
          rw [HM2.out]
          unfold World.iterPos
          rw [HI1.out]
          simp only []
          omega
      | false =>
        clear HYES
        go_wp2_with (first | (at_builtin; refine wpList_append_own _ rfl _ _ 22 rfl (w.heap.size + 1) 30 i0 (.agg #[.int .i32 0, .int .i32 0]) 2 8 Tryd.underlying22 hi hz0 hz1 hz2 rfl (by decide) (.slice oo O.length oc) O.length (rgcs O) rfl (HO1.out.alloc _) ⟨w1.heap.size, 0, none⟩ 1 1 (rgc (rr, rr)) rfl rfl ?c1 ?c2 ?c3 ?c4 ?c5 ?_) | (go_at_call 18; refine HHA.out.mono ?_; rintro e y ⟨rfl, hw⟩; obtain rfl := hw.symm; clear hw))
        case c1 => exact news_r w1 (rr, rr) 30
        case c2 => exact rgc_one _
        case c3 => unfold maxLen; omega
        case c4 => omega
        case c5 => simp; omega
        intro v2 w2 o2 gr2 _
        have HO2 := hid (show w2.ownsRow (w.heap.size + 1) 30 2 v2 (O ++ [(rr, rr)]).length (rgcs (O ++ [(rr, rr)])) by rw [rgcs_snoc, len_snoc]; exact o2)
        have HB2 := hid ((HB1.out.alloc HB1.out.size (.cells #[.int .i32 rr, .int .i32 rr] 30)).grown gr2 (by simp; omega) (fun j hj => Nat.le_of_succ_le (HO1.out.lt j hj).1))
        have HI2 := hid (show w2.heap[w.heap.size]? = some (.stringIter ⟨l.toArray⟩ (t + nn)) from (gr2.block w.heap.size (by simp; omega) (fun e => by have := (HO1.out.lt _ e.symm).1; omega)).trans ((Below.heap_alloc w1 _ _ (by omega)).trans HI1.out))
        clear o2 gr2
        go_wp2
        go_roundw
        case rel => exact ⟨t + nn, xs ++ [(t, rr)], O ++ [(rr, rr)], HP2, HI2, HO2, by simp; omega, HNOT, HB2⟩
        case measure =>
          rw [HM2.out]
          unfold World.iterPos
          rw [HI2.out]
          simp only []
          omega
    · have hnx := run_next_stop (P := Tryd.prog) wr w.heap.size ⟨l.toArray⟩ t 0 HI.out (by rw [HSZ.out]; exact hlt)
      have HE := hid (show plr l 0 = xs by rw [HP.out, plr_end l t hlt, List.append_nil])
      have hxl : xs.length ≤ l.length := by rw [HE.out] at hpl; omega
      obtain ⟨oo, oc, hu, hro⟩ := rdr_row HO.out
      subst hu
      have HNM := hid (show nrm O = nrm (sgl xs) from nf_one (nrm_nf O) (nrm_nf (sgl xs)) (fun r => by rw [nrm_in, nrm_in]; unfold means; rw [HM.out r]))
      have HRN := hid (rnorm_any oo oc O wr hro (by omega))
      clear hro
      go_wp2_with fail
      refine HRN.out.mono ?_
      rintro e w2 ⟨v, rfl, o1, hb⟩
      rw [HNM.out] at o1
      have HO2 := hid (ownsRow_base2 o1 hbs)
      have HB2 := hid (HB.out.trans (hb.mono hbs))
      clear o1 hb
      go_wp2
      go_ret
      exact ⟨_, rfl, by rw [HE.out]; exact HO2.out, HB2.out⟩
end Go.Proofs.YtfahbdlcokoghaaDoor
/- The contract of Of (package runes): the set of a text's runes, by way of a map. -/
namespace Go.Proofs.YtfahbdlcokoghaaDoor
open Go.RowKit Go.Maps

theorem law21 : Keyed Tryd.prog 21 := int_keyed Tryd.underlying21
/-- The runes as keys. -/
def ksO (xs : List (Nat × Int)) : List Lit := xs.map fun x => .int .i32 x.2
theorem ksO_snoc (xs : List (Nat × Int)) (x : Nat × Int) : ksO (xs ++ [x]) = ksO xs ++ [.int .i32 x.2] := by simp [ksO]
theorem same_int (a b : Int) : (Lit.int .i32 a).sameKey (Lit.int .i32 b) = (a == b) := by
  have h : (Lit.int .i32 a).sameKey (Lit.int .i32 b) = decide (a = b) := by simp [Lit.sameKey]
  rw [h]
  exact Bool.eq_iff_iff.2 (by simp)
theorem isin_sgl (r : Int) (xs : List (Nat × Int)) : isin r (sgl xs) ↔ ∃ x ∈ xs, x.2 = r := by
  rw [isin_iff]
  unfold sgl
  constructor
  · rintro ⟨g, hg, h1, h2⟩
    obtain ⟨x, hx, rfl⟩ := List.mem_map.1 hg
    exact ⟨x, hx, by dsimp only at h1 h2; omega⟩
  · rintro ⟨x, hx, rfl⟩
    exact ⟨(x.2, x.2), List.mem_map.2 ⟨x, hx, rfl⟩, Int.le_refl _, Int.le_refl _⟩
theorem has_ks (r : Int) (xs : List (Nat × Int)) : Maps.has (setOf (H := Unit) (.agg []) (ksO xs)) (.int .i32 r) = true ↔ isin r (sgl xs) := by
  rw [has_setOf _ _ _ (fun x hx => by obtain ⟨y, _, rfl⟩ := List.mem_map.1 hx; trivial), List.any_eq_true, isin_sgl]
  constructor
  · rintro ⟨k, hk, h⟩
    obtain ⟨x, hx, rfl⟩ := List.mem_map.1 hk
    exact ⟨x, hx, by rw [same_int] at h; exact beq_iff_eq.1 h⟩
  · rintro ⟨x, hx, rfl⟩
    exact ⟨.int .i32 x.2, List.mem_map.2 ⟨x, hx, rfl⟩, by rw [same_int]; exact beq_self_eq_true _⟩
theorem wf_dec (l : List UInt8) (t : Nat) : (Lit.int .i32 ((Utf8.decode ⟨l.toArray⟩ t).1 : Int)).wf = true := by
  have h := Lib.rune_le ⟨l.toArray⟩ t
  have h2 : IntKind.i32.min = -2147483648 := by decide
  have h3 : IntKind.i32.max = 2147483647 := by decide
  simp [Lit.wf]
  omega

theorem row_none {w w' : World} {B : Nat} {e : TypeId} {size : Nat} {v : Value} {n : Nat} {xs : List Value} (h : w.ownsRow B e size v n xs) (hg : w.grownBy w' none) : w'.ownsRow B e size v n xs := by
  refine ⟨h.1, ?_⟩
  rcases h.2 with h0 | ⟨g, cap, cur, hv, hb, hgg, hr⟩
  · exact Or.inl h0
  · exact Or.inr ⟨g, cap, cur, hv, hb, (hg.block g (Array.getElem?_eq_some_iff.1 hgg).1 (by simp)).trans hgg, hr⟩

set_option maxRecDepth 100000 in
set_option maxHeartbeats 1000000 in
theorem of_any (l : List UInt8) (w : World) (hl : l.length ≤ 90000) :
    Calls Tryd.prog 36 #[.string ⟨l.toArray⟩] w fun e w' => ∃ v, e = .returned v ∧ w'.ownsRow w.heap.size 30 2 v (nrm (sgl (plr l 0))).length (rgcs (nrm (sgl (plr l 0)))) ∧ Below w.heap.size w w' := by
  obtain ⟨i0, hi, hz0, hz1, hz2⟩ := info_parts Tryd.info30
  have HSZ := hid (show (⟨l.toArray⟩ : ByteArray).size = l.length by show l.toArray.size = _; simp)
  have hpl := plr_len l l.length 0 (by omega)
  have hmm := @run_makeMap Tryd.prog
  have HB0 := hid (((Below.refl w.heap.size w).alloc (Nat.le_refl _) (.map #[] 0)).alloc (by simp) (.stringIter ⟨l.toArray⟩ 0))
  have hit0 := World.iter_heap (w.alloc (.map #[] 0)) ⟨l.toArray⟩ 0
  rw [World.size_alloc] at hit0
  have HIT0 := hid hit0
  have HOM := hid ((World.ownsMap_made w Tryd.prog 21 (unitElem (H := Unit))).alloc (.stringIter ⟨l.toArray⟩ 0))
  clear hit0
  go_enter Tryd.func36, Tryd.ntmps36
  go_wp2
  go_loopw [5] (fun _ wr => ∃ (t : Nat) (xs : List (Nat × Int)), Hid (plr l 0 = xs ++ plr l t) ∧ Hid (wr.heap[w.heap.size + 1]? = some (.stringIter ⟨l.toArray⟩ t)) ∧ Hid (wr.ownsMap Tryd.prog 21 (unitElem (H := Unit)) w.heap.size xs.length (setOf (.agg []) (ksO xs))) ∧ Hid (Below w.heap.size w wr)) (fun _ wr => l.length - wr.iterPos (w.heap.size + 1))
  case atStart => exact ⟨0, [], by simp [Hid], HIT0, HOM, HB0⟩
  case round =>
    obtain ⟨t, xs, HP, HI, HO, HB⟩ := hrel
    have hbs := HB.out.size
    have hin : w.heap.size + 1 < wr.heap.size := (Array.getElem?_eq_some_iff.1 HI.out).1
    by_cases hlt : t < l.length
    · have hnx := run_next_at (P := Tryd.prog) wr (w.heap.size + 1) ⟨l.toArray⟩ t 0 HI.out (by rw [HSZ.out]; exact hlt)
      have d1 := Lib.width_pos ⟨l.toArray⟩ t
      have hst := plr_step l t hlt
      have hwf := wf_dec l t
      obtain ⟨nn, hnn⟩ : ∃ nn, nn = (Utf8.decode ⟨l.toArray⟩ t).2 := ⟨_, rfl⟩
      obtain ⟨rr, hrr⟩ : ∃ rr : Int, rr = ((Utf8.decode ⟨l.toArray⟩ t).1 : Int) := ⟨_, rfl⟩
      rw [← hnn] at hnx hst d1
      rw [← hrr] at hnx hst hwf
      have HP2 := hid (show plr l 0 = (xs ++ [(t, rr)]) ++ plr l (t + nn) by rw [HP.out, hst, List.append_assoc]; rfl)
      have hxl : xs.length < l.length := by rw [HP2.out] at hpl; simp at hpl; omega
      obtain ⟨w1, hw1⟩ : ∃ w1, w1 = wr.putObj (w.heap.size + 1) (.stringIter ⟨l.toArray⟩ (t + nn)) := ⟨_, rfl⟩
      rw [← hw1] at hnx
      have HI1 := hid (show w1.heap[w.heap.size + 1]? = some (.stringIter ⟨l.toArray⟩ (t + nn)) by rw [hw1]; exact World.putObj_heap_same hin)
      have HB1 := hid (show Below w.heap.size w w1 by rw [hw1]; exact HB.out.trans ⟨rfl, rfl, rfl, by simp [World.putObj], fun j hj => World.putObj_heap_other (by omega)⟩)
      have HO1 := hid (show w1.ownsMap Tryd.prog 21 (unitElem (H := Unit)) w.heap.size xs.length (setOf (.agg []) (ksO xs)) by rw [hw1]; exact HO.out.kept (grownBy_putObj' wr _ _) (by simp))
      have hmes : l.length - wr.iterPos (w.heap.size + 1) = l.length - t := by unfold World.iterPos; rw [HI.out]
      have HM2 := hid hmes
      have HKY := hid (keyOf_int_mk Tryd.underlying21 hwf)
      clear hmes hnn hrr hst hw1 HP HI HB HO
      go_wp2_with (first | (at_mapUpdate; refine wpList_mapUpdate_own _ rfl _ _ _ 66 rfl 21 67 law21 Tryd.underlying66 _ w.heap.size xs.length _ rfl HO1.out (by unfold maxLen; omega) _ _ _ rfl rfl HKY.out _ [] (unitElem_mk (H := Unit)) ?_; intro w2 ho2 hg2; go_frame) | go_in)
      have HO2 := hid (show w2.ownsMap Tryd.prog 21 (unitElem (H := Unit)) w.heap.size (xs ++ [(t, rr)]).length (setOf (.agg []) (ksO (xs ++ [(t, rr)]))) by rw [ksO_snoc, setOf_snoc, List.length_append]; exact ho2)
      have HI2 := hid ((hg2.block (w.heap.size + 1) (Array.getElem?_eq_some_iff.1 HI1.out).1 (by simp)).trans HI1.out)
      have HB2 := hid (HB1.out.grown hg2 HB1.out.size (fun j hj => by cases hj; exact Nat.le_refl _))
      clear ho2 hg2
      go_roundw
      case rel => exact ⟨t + nn, xs ++ [(t, rr)], HP2, HI2, HO2, HB2⟩
      case measure =>
        rw [HM2.out]
        unfold World.iterPos
        rw [HI2.out]
        simp only []
        omega
    · have hnx := run_next_stop (P := Tryd.prog) wr (w.heap.size + 1) ⟨l.toArray⟩ t 0 HI.out (by rw [HSZ.out]; exact hlt)
      have HE := hid (show plr l 0 = xs by rw [HP.out, plr_end l t hlt, List.append_nil])
      have hxl : xs.length ≤ l.length := by rw [HE.out] at hpl; omega
      have hsz := HO.out.size_le
      obtain ⟨D, hD⟩ : ∃ D, D = setOf (H := Unit) (.agg []) (ksO xs) := ⟨_, rfl⟩
      have HHS := hid (show ∀ r : Int, Maps.has D (.int .i32 r) = true ↔ isin r (sgl xs) by rw [hD]; exact fun r => has_ks r xs)
      rw [← hD] at HO hsz
      clear hD HP HI
      obtain ⟨Wr, hWr⟩ : ∃ Wr, Wr = wr := ⟨_, rfl⟩
      rw [← hWr] at HO HB hbs hin hnx ⊢
      clear hWr
      have hib : i0.bytes * Maps.size D ≤ 281474976710656 := by rw [hz2]; omega
      go_wp2_with (first
        | (at_len; refine wpList_len_own _ rfl _ 66 rfl 21 67 Tryd.underlying66 _ w.heap.size xs.length _ rfl HO.out ?_)
        | (at_make; refine wpList_make_own _ rfl _ _ 22 rfl Wr.heap.size 30 i0 _ 2 Tryd.underlying22 hi hz0 hz1 .i64 .i64 _ (Maps.size D) rfl rfl rfl hib (by unfold maxLen; omega) (Nat.le_refl _) ?_; intro w2 o2 gr2)
        | (at_range; refine wpList_range_own _ rfl _ 66 rfl 21 67 law21 Tryd.underlying66 _ w.heap.size xs.length _ rfl (HO.out.kept gr2 (by simp)) ?_; intro w3 hrg3 hg3 hs3)
        | go_in)
      go_frame
      have hr2 : Wr.heap.size < w2.heap.size := (o2.lt Wr.heap.size rfl).2
      obtain ⟨R, hR⟩ : ∃ R, R = w2.heap.size := ⟨_, rfl⟩
      rw [← hR] at hrg3 hs3 hr2 ⊢
      have HR3 := hid hrg3
      have HO3 := hid (show w3.ownsRow Wr.heap.size 30 2 (.slice (some ⟨Wr.heap.size, 0, none⟩) 0 (Maps.size D)) ([] : List Rg).length (rgcs []) from row_none o2 hg3)
      have HB3 := hid ((HB.out.grown gr2 HB.out.size (fun j hj => by cases hj)).grown hg3 (by have := gr2.size; omega) (fun j hj => by cases hj))
      have hw3 : w.heap.size + 1 < Wr.heap.size := hin
      clear hrg3 o2 gr2 hg3 hR HO HB hnx
      go_loopw [6, 7] (fun v _ wr => ∃ (left : Lit → Bool) (cnt : Nat) (O : List Rg), Hid (wr.ranges Tryd.prog 21 (unitElem (H := Unit)) w.heap.size R xs.length D left cnt) ∧ cnt + O.length ≤ Maps.size D ∧ R < wr.heap.size ∧ Hid (wr.ownsRow Wr.heap.size 30 2 v O.length (rgcs O)) ∧ Hid (∀ j, v.ownBlock = some j → j ≠ R) ∧ Hid (∀ r : Int, left (.int .i32 r) = true → isin r (sgl xs)) ∧ Hid (∀ r : Int, isin r O ↔ isin r (sgl xs) ∧ left (.int .i32 r) = false) ∧ Hid (Below w.heap.size w wr)) (fun _ _ wr => wr.rangeLeft w.heap.size R)
      case atStart =>
        refine ⟨_, _, [], HR3, by simp, by omega, HO3, fun j hj => ?_, fun r h => (HHS.out r).1 h, fun r => ⟨fun h => h.elim, fun ⟨h1, h2⟩ => ?_⟩, HB3⟩
        · simp [Value.ownBlock] at hj; omega
        · rw [(HHS.out r).2 h1] at h2; cases h2
      case round =>
        obtain ⟨left, cnt, O, HRG, hcn, hRs, HOr, HNE, HLI, HIS, HBr⟩ := hrel
        have hbr := HBr.out.size
        obtain ⟨oo, oc, hu, hro⟩ := rdr_row HOr.out
        subst hu
        have HRO := hid hro
        clear hro
        go_wp2_with (first
          | (at_next; refine wpList_next_ranges _ rfl _ rfl 21 law21 (unitElem (H := Unit)) (Value.int .i32) (fun (_ : Unit) => Value.agg #[]) (fun key kl hkey => by obtain ⟨x, rfl, _⟩ := Maps.keyOf_int_inv Tryd.underlying21 hkey; exact ⟨x, rfl⟩) (fun v y hv => ⟨(), (unitElem_inv hv).1⟩) w.heap.size R xs.length _ _ _ rfl HRG.out ?_ ?_)
          | go_in)
        · intro _ hl0
          have HNM := hid (show nrm O = nrm (sgl xs) from nf_one (nrm_nf O) (nrm_nf (sgl xs)) (fun r => by rw [nrm_in, nrm_in]; unfold means; rw [HIS.out r, hl0]; simp))
          have HN := hid (norm_any oo oc O wr HRO.out (by omega))
          clear hl0
          go_wp2_with fail
          refine HN.out.mono ?_
          rintro e w4 ⟨v, rfl, o4, hb4⟩
          rw [HNM.out] at o4
          have HO4 := hid (ownsRow_base2 o4 hbr)
          have HB4 := hid (HBr.out.trans (hb4.mono hbr))
          clear o4 hb4
          go_wp2
          go_ret
          exact ⟨_, rfl, by rw [HE.out]; exact HO4.out, HB4.out⟩
        · intro x c kl y w4 cnt4 hkey hlk hv hat hrg4 hlt4 hg4 hs4 hen
          obtain ⟨x', ex, rfl, hwx⟩ := Maps.keyOf_int_inv Tryd.underlying21 hkey
          cases ex
          have HO4 := hid (row_grown HOr.out hg4 (fun j hj => HNE.out j hj))
          have HR4 := hid hrg4
          have HB4 := hid (HBr.out.grown hg4 hbr (fun j hj => by cases hj; omega))
          have HIN := hid (HLI.out x hlk)
          have hw4R : R < w4.heap.size := by omega
          have hw4W : Wr.heap.size ≤ w4.heap.size := by omega
          have hw4b : w.heap.size ≤ w4.heap.size := by omega
          clear hrg4 hv hat hkey hlk hg4 hs4
          have hol : O.length ≤ 90000 := by omega
          go_wp2_with (at_builtin; (refine wpList_append_lies _ rfl _ _ _ rfl Wr.heap.size 30 i0 (.agg #[.int .i32 0, .int .i32 0]) 2 8 Tryd.underlying22 hi hz0 hz1 hz2 rfl (by omega) (.slice oo O.length oc) O.length (rgcs O) rfl (HO4.out.alloc _) ⟨w4.heap.size, 0, none⟩ 1 1 (rgc (x, x)) rfl rfl (news_r w4 (x, x) 30) (rgc_one _) (by omega) (by unfold maxLen; omega) (by omega) (by simp; omega) (w4.heap.size + 1) (by simp) ?_; intro gg cc w5 o5 gr5 hat5 hlt5))
          have HO5 := hid (show w5.ownsRow Wr.heap.size 30 2 (.slice (some ⟨gg, 0, none⟩) (O.length + 1) cc) (O ++ [(x, x)]).length (rgcs (O ++ [(x, x)])) by rw [rgcs_snoc, len_snoc]; exact o5)
          have HR5 := hid ((HR4.out.alloc (.cells #[.int .i32 x, .int .i32 x] 30)).kept gr5 (fun e => by have := (HO4.out.lt w.heap.size e.symm).1; omega) (fun e => HNE.out R e.symm rfl))
          have HB5 := hid ((HB4.out.alloc (by omega) (.cells #[.int .i32 x, .int .i32 x] 30)).grown gr5 (by simp; omega) (fun j hj => by have := (HO4.out.lt j hj).1; omega))
          have HN5 := hid (show ∀ j, (Value.slice (some ⟨gg, 0, none⟩) (O.length + 1) cc).ownBlock = some j → j ≠ R from fun j hj => by
            have e : gg = j := by simpa [Value.ownBlock] using hj
            subst e
            rcases hat5 with h | h
            · exact HNE.out gg h
            · omega)
          have HL5 := hid (show ∀ r : Int, (left (.int .i32 r) && !(Lit.int .i32 r).sameKey (.int .i32 x)) = true → isin r (sgl xs) from fun r h => HLI.out r (by rw [Bool.and_eq_true] at h; exact h.1))
          have HI5 := hid (show ∀ r : Int, isin r (O ++ [(x, x)]) ↔ isin r (sgl xs) ∧ (left (.int .i32 r) && !(Lit.int .i32 r).sameKey (.int .i32 x)) = false from fun r => by
            rw [isin_app, HIS.out r, same_int]
            constructor
            · rintro (⟨h1, h2⟩ | h)
              · exact ⟨h1, by rw [h2]; rfl⟩
              · have e : r = x := by
                  rcases h with ⟨a, b⟩ | h
                  · dsimp only at a b; omega
                  · exact h.elim
                subst e
                exact ⟨HIN.out, by simp⟩
            · rintro ⟨h1, h2⟩
              by_cases e : r = x
              · subst e
                exact .inr (.inl ⟨Int.le_refl _, Int.le_refl _⟩)
              · refine .inl ⟨h1, ?_⟩
                rw [show (r == x) = false from beq_eq_false_iff_ne.2 e] at h2
                simpa using h2)
          have hsz5 : R < w5.heap.size := by have := gr5.size; simp at this; omega
          clear o5 gr5 hat5 hen
          go_wp2
          go_roundw
          case rel => exact ⟨_, cnt4, O ++ [(x, x)], HR5, by simp; omega, hsz5, HO5, HN5, HL5, HI5, HB5⟩
          case measure => rw [HR5.out.left_eq, HRG.out.left_eq]; exact hlt4
end Go.Proofs.YtfahbdlcokoghaaDoor
/- Two laws for a range over the iterator of Runs (package runes): one at a function's own level, one within a round. -/
namespace Go.Proofs.YtfahbdlcokoghaaDoor
open Go.RowKit Go.Shelf

def ixT {l : List UInt8} (L : List (Tw l)) (id : Nat) (E : List (Tw l) → World → Prop) (c : Code) (pre : List (Tw l)) (W : World) : Prop := (c = .ret ∧ ¬ pre <+: L) ∨ (c = .exit id ∧ E pre W)
theorem ixT_own {l : List UInt8} {L : List (Tw l)} {id B : Nat} {E : List (Tw l) → World → Prop} (h : OwnFrom B E) (c : Code) : OwnFrom B (ixT L id E c) := fun s W W' row hs hg hr =>
  hs.elim .inl (fun ⟨e, x⟩ => .inr ⟨e, h s W W' row x hg hr⟩)
def frT {l : List UInt8} (a : Act) (ps : Array Tmp) (d1 d2 : Nat) (x : Tw l) : Act :=
  { tmps := (((ps.zip (encR l x)).foldl (fun t (p, v) => t.setIfInBounds p v) a.tmps).setIfInBounds d1 (.int .i64 (x.val.1 : Int))).setIfInBounds d2 (.int .i64 (x.val.2 : Int)), defers := [] }

theorem rfT_H {l : List UInt8} {F : Fence} {n : Nat} {P : Program} {g : Operand} {ps : Array Tmp} {assign body : Code} {Q : Exit → Act → World → Prop} {a : Act} {w : World}
    (hro : F.round = none) (h1 : 1 ≤ n) {gf : Nat} {lb : Array Value} (hg : a.eval g = .func (.func gf) #[] lb) (hFg : F.fn gf) (eg : ∀ args w, (callFunc gf args).run P w = .ok (.enter gf args) w)
    {K : Nat → Prop} {L : List (Tw l)} {w0 : World} (hseq : SeqStopsK F (n - 1) P gf lb (encR l) (Kr K) (fun xs => xs = L) (fun pre => pre <+: L) L.length w0) (hK : ∀ k, K k → k < w.heap.size) (hb0 : Below w0.heap.size w0 w) (hps : 2 = ps.size)
    (id d1 d2 : Nat) (I E : List (Tw l) → World → Prop) (hI : OwnFrom w.heap.size I) (hE : OwnFrom w.heap.size E) (h0 : I [] w)
    (hassign : ∀ (lp : Nat) (x : Tw l) (W : World) (K : Act → World → Prop), K (frT a ps d1 d2 x) W → assign.wpIn (F.inRound lp) (n - 1 - 1) P (Exit.then K (fun _ _ _ => False)) { tmps := (ps.zip (encR l x)).foldl (fun t (p, v) => t.setIfInBounds p v) a.tmps, defers := [] } W)
    (hbody : ∀ (lp : Nat) (pre : List (Tw l)) (x : Tw l) (W : World), w.heap.size ≤ lp → (∃ r, W.heap[lp]? = some (.loop r)) → I pre W → pre.length < L.length → body.wpIn (F.inRound lp) (n - 1 - 1) P (ownPostG w.heap.size (Kr K) I (ixT L id E) (pre ++ [x]) W) (frT a ps d1 d2 x) W)
    (Fin : World → Prop) (hd : ∀ W, I L W → Fin W) (he : ∀ pre W, pre <+: L → E pre W → Fin W) (hexit : ∀ a W, Q .normal a W → Q (.exit id) a W)
    (hfin : ∀ D W, w.heap.size ≤ D → Fin W → W.heap[D]? = some (.deferred (some [])) → Q .normal { a with defers := { target := .collected D, args := #[] } :: a.defers } W) :
    (Code.rangeFunc g ps assign body).wpIn F n P Q a w :=
  wpIn_rangeFunc_ownH hro h1 hg hFg eg hseq Kr_t (fun W lp o o' hl h hc hk => Kr_b hK W lp o o' hl h hc hk) hb0 (fun _ => hps) I (ixT L id E) hI (ixT_own hE) h0 (fun x a' _ => a' = frT a ps d1 d2 x) (fun _ _ _ _ _ _ hs _ _ => hs)
    (fun lp _ x W K' hi hK' => hassign lp x W K' (hK' _ _ (KeepsFrom.refl _ _) ⟨KeepsWalks.refl W, fun _ _ => rfl⟩ hi rfl))
    (fun lp pre x a' W hl hr hi e hlt => by subst e; exact hbody lp pre x W hl hr hi hlt)
    (fun D xs W hD hS hi hK' => hfin D W hD (hd W (by have e : xs = L := hS; subst e; exact hi)) hK')
    (fun D c pre W hD hSp hx hK' => by
      rcases hx with ⟨_, hn⟩ | ⟨rfl, hx⟩
      · exact absurd hSp hn
      · exact wpIn_exit (hexit _ _ (hfin D W hD (he pre W hSp hx) hK')))

theorem rfT_N {l : List UInt8} {F : Fence} {n : Nat} {P : Program} {g : Operand} {ps : Array Tmp} {assign body : Code} {Q : Exit → Act → World → Prop} {a : Act} {w : World}
    {l₀ : Nat} {r₀ : Loop} (hro : F.round = some l₀) (hl₀ : w.heap[l₀]? = some (.loop r₀)) (h1 : 1 ≤ n) {gf : Nat} {lb : Array Value} (hg : a.eval g = .func (.func gf) #[] lb) (hFg : F.fn gf) (eg : ∀ args w, (callFunc gf args).run P w = .ok (.enter gf args) w)
    {K : Nat → Prop} {L : List (Tw l)} {w0 : World} (hseq : SeqStopsK F (n - 1) P gf lb (encR l) (Kr K) (fun xs => xs = L) (fun pre => pre <+: L) L.length w0) (hK : ∀ k, K k → k < w.heap.size) (hb0 : Below w0.heap.size w0 w) (hps : 2 = ps.size)
    (id d1 d2 : Nat) (I E : List (Tw l) → World → Prop) (hI : OwnFrom w.heap.size I) (hE : OwnFrom w.heap.size E) (h0 : I [] w)
    (hassign : ∀ (lp : Nat) (x : Tw l) (W : World) (K : Act → World → Prop), K (frT a ps d1 d2 x) W → assign.wpIn (F.inRound lp) (n - 1 - 1) P (Exit.then K (fun _ _ _ => False)) { tmps := (ps.zip (encR l x)).foldl (fun t (p, v) => t.setIfInBounds p v) a.tmps, defers := [] } W)
    (hbody : ∀ (lp : Nat) (pre : List (Tw l)) (x : Tw l) (W : World), w.heap.size ≤ lp → (∃ r, W.heap[lp]? = some (.loop r)) → I pre W → pre.length < L.length → body.wpIn (F.inRound lp) (n - 1 - 1) P (ownPostG w.heap.size (Kr K) I (ixT L id E) (pre ++ [x]) W) (frT a ps d1 d2 x) W)
    (Fin : World → Prop) (hd : ∀ W, I L W → Fin W) (he : ∀ pre W, pre <+: L → E pre W → Fin W) (hexit : ∀ a W, Q .normal a W → Q (.exit id) a W)
    (hfin : ∀ W, Fin W → Q .normal a W) :
    (Code.rangeFunc g ps assign body).wpIn F n P Q a w :=
  wpIn_rangeFunc_ownN hro hl₀ h1 hg hFg eg hseq Kr_t (fun W lp o o' hl h hc hk => Kr_b hK W lp o o' hl h hc hk) hb0 (fun _ => hps) I (ixT L id E) hI (ixT_own hE) h0 (fun x a' _ => a' = frT a ps d1 d2 x) (fun _ _ _ _ _ _ hs _ _ => hs)
    (fun lp _ x W K' hi hK' => hassign lp x W K' (hK' _ _ (KeepsFrom.refl _ _) ⟨KeepsWalks.refl W, fun _ _ => rfl⟩ hi rfl))
    (fun lp pre x a' W hl hr hi e hlt => by subst e; exact hbody lp pre x W hl hr hi hlt)
    (fun xs W hS hi => hfin W (hd W (by have e : xs = L := hS; subst e; exact hi)))
    (fun c pre W hSp hx => by
      rcases hx with ⟨_, hn⟩ | ⟨rfl, hx⟩
      · exact absurd hSp hn
      · exact wpIn_exit (hexit _ _ (hfin W (he pre W hSp hx))))
end Go.Proofs.YtfahbdlcokoghaaDoor
/- The contract of Trim (package runes). -/
namespace Go.Proofs.YtfahbdlcokoghaaDoor
open Go.RowKit Go.Shelf
attribute [local go_sem] Oper.semAt_some

def tbg {l : List UInt8} (xs : List (Tw l)) : Nat := xs.foldl (fun b x => min b x.val.1) l.length
def ten {l : List UInt8} (xs : List (Tw l)) : Nat := xs.foldl (fun _ x => x.val.2) l.length
theorem tbg_snoc {l : List UInt8} (xs : List (Tw l)) (x : Tw l) : tbg (xs ++ [x]) = min (tbg xs) x.val.1 := by simp [tbg]
theorem ten_snoc {l : List UInt8} (xs : List (Tw l)) (x : Tw l) : ten (xs ++ [x]) = x.val.2 := by simp [ten]
/-- The runs of what is not in the set. -/
def ntr (g : List Rg) (l : List UInt8) : List (Tw l) := rst (fun r => hasB r (nrm (nt g))) l none 0

theorem kr_box {Bs Bl B : Nat} {l : List UInt8} {so : Option Addr} {sc : Nat} {s : List Rg} {v : Value} {W : World} (h : RunsAt Bs Bl l so sc s W) (hb : Boxed W B 3 v) : ∀ k, KR Bs Bl so k → k ≠ B := fun k hk e => by
  subst e
  rcases hk with rfl | rfl | ⟨a, h1, rfl⟩
  · have := h.bs; unfold Boxed at this hb; rw [hb] at this; cases this
  · have := h.bl; unfold Boxed at this hb; rw [hb] at this; cases this
  · obtain ⟨c, fz, hc⟩ := h.row a h1
    unfold Boxed at hb; rw [hb] at hc; cases hc
theorem boxed_bl {n B : Nat} {t : TypeId} {v : Value} {W W' : World} (h : Boxed W B t v) (hB : Below n W W') (hlt : B < n) : Boxed W' B t v := (hB.block B hlt).trans h

set_option maxRecDepth 100000 in
set_option maxHeartbeats 1000000 in
theorem trim_in (l : List UInt8) (ao : Option Addr) (ac : Nat) (g : List Rg) (w : World) (ha : RdR w ao g) (hg : g.length ≤ 90000) :
    CallsIn Fence.wide 9 Tryd.prog 34 #[.string ⟨l.toArray⟩, .slice ao g.length ac] w fun e w' => e = .returned (.tuple #[.int .i64 (tbg (ntr g l)), .int .i64 (ten (ntr g l))]) ∧ Below w.heap.size w w' := by
  have HA := hid ha
  clear ha
  have hnl := nt_len g
  obtain ⟨U, hU⟩ : ∃ U, U = (w.alloc (.cells #[.int .i64 l.length] 3)).alloc (.cells #[.int .i64 l.length] 3) := ⟨_, rfl⟩
  have hUs : U.heap.size = w.heap.size + 2 := by rw [hU]; simp
  have HBU := hid (show Below w.heap.size w U by rw [hU]; exact ((Below.refl _ w).alloc (Nat.le_refl _) _).alloc (by simp) _)
  have HU0 := hid (show Boxed U w.heap.size 3 (.int .i64 l.length) by rw [hU]; exact (Boxed.new w 3 (.int .i64 l.length)).alloc _)
  have HU1 := hid (show Boxed U (w.heap.size + 1) 3 (.int .i64 l.length) by rw [hU]; have h := Boxed.new (w.alloc (.cells #[.int .i64 l.length] 3)) 3 (.int .i64 l.length); simp only [World.size_alloc] at h; exact h)
  have HNO := hid (not_any ao ac g U (HA.out.below HBU.out) (by omega))
  have HU := hid hU
  clear hU
  refine callsIn_of_wp_marks Tryd.func34 rfl trivial ?_ rfl
  simp only [Tryd.ntmps34, List.size_toArray, List.length_cons, List.length_nil, Nat.reduceAdd, Nat.reduceSub, Array.replicate_succ, Array.replicate_zero, List.push_toArray, List.append_toArray, List.nil_append, List.cons_append]
  gi_wp2_with (refine ⟨trivial, ?_⟩; gi_at_call 25; rw [← HU.out]; refine (callsIn_wide.2 HNO.out).mono ?_; rintro e w1 ⟨v1, rfl, o1, hb1⟩; obtain ⟨no, nc, rfl, hr1⟩ := rdr_row o1; have HR1 := hid hr1; have HB1 := hid hb1; clear o1 hr1 hb1)
  have hs1 := HB1.out.size
  have HRS := hid (runs_any l no nc (nt g) w1 HR1.out (by omega))
  gi_wp2_with (refine ⟨trivial, ?_⟩; gi_at_call 40; refine (callsIn_wide.2 HRS.out).mono ?_; rintro e w2 ⟨Bs, Bl, so, sc, rfl, hR, hB2⟩; have HRA := hid hR; have HB2 := hid hB2; clear hR hB2)
  have hs2 := HB2.out.size
  obtain ⟨B, hB⟩ : ∃ B, B = w.heap.size := ⟨_, rfl⟩
  have HV0 := hid (show Boxed w2 B 3 (.int .i64 l.length) by rw [hB]; exact boxed_bl (boxed_bl HU0.out HB1.out HU0.out.lt) HB2.out (by omega))
  have HV1 := hid (show Boxed w2 (B + 1) 3 (.int .i64 l.length) by rw [hB]; exact boxed_bl (boxed_bl HU1.out HB1.out HU1.out.lt) HB2.out (by omega))
  have HBW := hid (show Below B w w2 by rw [hB]; exact HBU.out.trans ((HB1.out.mono (by omega)).trans (HB2.out.mono (by omega))))
  have hB2s : B + 2 ≤ w2.heap.size := by omega
  have HBd := hid hB
  rw [← hB]
  clear HU0 HU1 HB1 HB2 HRS HNO HU hB
  refine rfT_H (L := ntr g l) rfl (by omega) (gf := 53) (lb := #[.pointer (some ⟨Bs, 0, none⟩), .pointer (some ⟨Bl, 0, none⟩)]) rfl trivial (enters_of Tryd.func53 (by kernel_rfl) rfl)
    (runs_stops _ (by omega) Bs Bl l so sc (nrm (nt g)) w2 HRA.out (nrm_nf _) (by have := nrm_len (nt g); omega)) HRA.out.lt (Below.refl _ _) rfl 0 8 9
    (fun pre W => (Boxed W B 3 (.int .i64 (tbg pre)) ∧ Boxed W (B + 1) 3 (.int .i64 (ten pre))) ∧ (Below B w W ∧ RunsAt Bs Bl l so sc (nrm (nt g)) W))
    (fun _ _ => False)
    (OwnFrom.and (OwnFrom.and (Own.from (boxed_own _ _ (fun pre : List (Tw l) => Value.int .i64 (tbg pre))) _) (Own.from (boxed_own _ _ (fun pre : List (Tw l) => Value.int .i64 (ten pre))) _)) (OwnFrom.and (ownFrom_below (by rw [HBd.out]; omega) (by omega)) (Own.from (runsAt_own Bs Bl l so sc _) _)))
    (fun _ _ _ _ h _ _ => h)
    ⟨⟨HV0.out, HV1.out⟩, HBW.out, HRA.out⟩ ?assign ?body
    (fun W => (Boxed W B 3 (.int .i64 (tbg (ntr g l))) ∧ Boxed W (B + 1) 3 (.int .i64 (ten (ntr g l)))) ∧ (Below B w W ∧ RunsAt Bs Bl l so sc (nrm (nt g)) W)) (fun _ h => h) (fun _ _ _ h => h.elim) (fun _ _ h => h) ?fin
  case assign =>
    intro lp x W K hK
    dsimp only [encR]
    gi_wp2
    simpa [frT, encR] using hK
  case body =>
    rintro lp pre x W hlp _ ⟨⟨b0, b1⟩, hBW, hRW⟩ hlt
    have HTB := hid (tbg_snoc pre x)
    have HTE := hid (ten_snoc pre x)
    have HB0 := hid b0
    have HB1 := hid b1
    have HBW' := hid hBW
    have HRW := hid hRW
    have hx2 := x.property.2
    dsimp only [frT, encR]
    obtain ⟨x1, hxa⟩ : ∃ x1, x.val.1 = x1 := ⟨_, rfl⟩
    obtain ⟨x2, hxb⟩ : ∃ x2, x.val.2 = x2 := ⟨_, rfl⟩
    obtain ⟨tb, htb⟩ : ∃ tb, tbg pre = tb := ⟨_, rfl⟩
    rw [hxa] at HTB
    rw [hxb] at HTE
    rw [htb] at HTB b0 HB0
    rw [hxa, hxb]
    have c0 := b0.cell
    have f0 := b0.frozen
    have b1' := b1.other (B' := B) (by omega) (.int .i64 (min (tb : Int) (x1 : Int)))
    have c1 := b1'.cell
    have f1 := b1'.frozen
    clear hxa hxb htb b0 b1 b1' hBW hRW hx2
    gi_wp2
    have e0 : (min (tb : Int) (x1 : Int)) = ((min tb x1 : Nat) : Int) := by omega
    have hk : ∀ k, KR Bs Bl so k → ((W.setCell ⟨B, 0, none⟩ (.int .i64 (min (tb : Int) (x1 : Int)))).setCell ⟨B + 1, 0, none⟩ (.int .i64 x2)).heap[k]? = W.heap[k]? := fun k hk =>
      (Below.heap_setCell _ ⟨B + 1, 0, none⟩ _ k (kr_box HRW.out HB1.out k hk)).trans (Below.heap_setCell _ ⟨B, 0, none⟩ _ k (kr_box HRW.out HB0.out k hk))
    have hko : KeepsOthers W ((W.setCell ⟨B, 0, none⟩ (.int .i64 (min (tb : Int) (x1 : Int)))).setCell ⟨B + 1, 0, none⟩ (.int .i64 x2)) := (KeepsOthers.setCell _ _ _).trans (KeepsOthers.setCell _ _ _)
    refine ⟨hko.from _, ⟨⟨hko.size, fun k o h hw => hko.same k o h (Obj.not_cells_of_walk hw)⟩, hk⟩, ⟨?_, ?_⟩, ?_, HRW.out.keeps hko.size hk⟩
    · rw [HTB.out, ← e0]; exact (HB0.out.set _).other (by omega) _
    · rw [HTE.out]; exact (HB1.out.other (by omega) _).set _
    · exact (HBW'.out.setCell (p := ⟨B, 0, none⟩) (Nat.le_refl _) _).setCell (p := ⟨B + 1, 0, none⟩) (by simp) _
  case fin =>
    rintro D W hD ⟨⟨b0, b1⟩, hBW, _⟩ hDK
    have c0 := b0.cell
    have c1 := b1.cell
    have HBW' := hid hBW
    have HDK := hid hDK
    obtain ⟨q1, hq1⟩ : ∃ q1, q1 = tbg (ntr g l) := ⟨_, rfl⟩
    obtain ⟨q2, hq2⟩ : ∃ q2, q2 = ten (ntr g l) := ⟨_, rfl⟩
    have HQ1 := hid hq1
    have HQ2 := hid hq2
    rw [← hq1] at c0
    rw [← hq2] at c1
    clear b0 b1 hBW hDK hq1 hq2
    gi_wp2
    gi_region
    gi_wp2
    have hq : W.drew.heap[D]? = some (.deferred (some [])) := HDK.out
    refine ⟨by simp, .inl ⟨_, _, rfl, run_takeDeferred hq, ?_⟩⟩
    refine ⟨.tuple #[.int .i64 q1, .int .i64 q2], by simp [results, Tryd.results34, go_sem], by rw [HQ1.out, HQ2.out], ?_⟩
    rw [← HBd.out]
    exact HBW'.out.drew.trans (belowK_b (w := w2) (by omega) _ D _ _ hD hq rfl rfl)
theorem trim_any (l : List UInt8) (ao : Option Addr) (ac : Nat) (g : List Rg) (w : World) (ha : RdR w ao g) (hg : g.length ≤ 90000) :
    Calls Tryd.prog 34 #[.string ⟨l.toArray⟩, .slice ao g.length ac] w fun e w' => e = .returned (.tuple #[.int .i64 (tbg (ntr g l)), .int .i64 (ten (ntr g l))]) ∧ Below w.heap.size w w' :=
  callsIn_wide.1 (trim_in l ao ac g w ha hg)
end Go.Proofs.YtfahbdlcokoghaaDoor
/- The contract of the document's Keep. -/
namespace Go.Proofs.YtfahbdlcokoghaaDoor
open Go.RowKit

def u8s (l : List UInt8) : List Value := l.map fun b => Value.int .u8 (b.toNat : Int)
theorem u8s_app (a b : List UInt8) : u8s (a ++ b) = u8s a ++ u8s b := by simp [u8s]
theorem u8s_len (a : List UInt8) : (u8s a).length = a.length := by simp [u8s]
theorem strCells_list (l : List UInt8) : Lib.strCells ⟨l.toArray⟩ = u8s l := by simp [Lib.strCells, u8s]
theorem Tryd.info5 : (Tryd.prog.info? 5).map (fun i => (i.zero, i.size, i.bytes)) = some (some (.int .u8 0), 1, 1) := by kernel_rfl

/-- The bytes of the runes that are in the set. -/
def rkp (p : Int → Bool) (l : List UInt8) (xs : List Trp) : List UInt8 := xs.flatMap fun x => if p x.1 then (l.drop x.2.1).take (x.2.2 - x.2.1) else []
theorem rkp_snoc (p : Int → Bool) (l : List UInt8) (xs : List Trp) (x : Trp) : rkp p l (xs ++ [x]) = rkp p l xs ++ if p x.1 then (l.drop x.2.1).take (x.2.2 - x.2.1) else [] := by simp [rkp]

theorem conv_row (w : World) (B : Nat) (v : Value) (l : List UInt8) (h : w.ownsRow B 5 1 v l.length (u8s l)) :
    (convert 69 9 v).run Tryd.prog w = .ok (.string ⟨l.toArray⟩) w := by
  rcases h.2 with ⟨rfl, h0⟩ | ⟨g, cap, cur, rfl, _⟩
  · have : l = [] := List.eq_nil_of_length_eq_zero h0
    subst this
    exact Lib.run_convert_nil_bytes w 69 9 5 0 Tryd.underlying69 Tryd.underlying5 Tryd.underlying9
  · exact run_convert_bytes_back w 69 9 5 ⟨g, 0, none⟩ cap l Tryd.underlying69 Tryd.underlying5 Tryd.underlying9 (fun j hj => h.cells (g := g) rfl j _ (by simp [u8s, hj]))
theorem step_append_str {P : Program} {w : World} {ops : Array Oper} {o : Oper} {a : Act} {K : Act → World → Prop} {Q : Exit → Act → World → Prop} {E : Prop} (hgd : o.guard = none) (sl x : Operand) (t u : TypeId)
    (ho : o.op = .call { callee := .builtin .append, args := #[sl, x], argTypes := #[t, u] })
    (base : Nat) (e : TypeId) (i : TypeInfo) (ht : P.underlying t = some (.slice e)) (hu : P.underlying u = some .string) (hi : P.info? e = some i) (hz : i.zero = some (.int .u8 0))
    (hsize : i.size = 1) (hby : i.bytes = 1)
    (v : Value) (n : Nat) (xs : List Value) (hs : a.eval sl = v) (hown : w.ownsRow base e 1 v n xs) (s : ByteArray) (hx : a.eval x = .string s)
    (h63 : n + s.size ≤ maxLen) (hbytes : n + s.size ≤ 140737488355328) (hbase : base ≤ w.heap.size)
    (h : ∀ v' w', w'.ownsRow base e 1 v' (n + s.size) (xs ++ Lib.strCells s) → w.grownBy w' v.ownBlock → K (a.put o.dst v') w') :
    if Region.wanted o (yielded ops a.tmps) = true then Oper.wp P o a w K Q else E := by
  have hw : Region.wanted o (yielded ops a.tmps) = true := by simp [Region.wanted, hgd]
  rw [if_pos hw]
  obtain ⟨v', w', hr, h2, h3, _⟩ := Lib.run_append_own_string (P := P) w base t u o.type e i ht hu hi hz hsize hby v n xs hown s h63 hbytes hbase
  unfold Oper.wp execOp
  simp only [ho, resolve, invoke, builtin, Sem.run_bind, Sem.run_pure, Result.andThen_ok, List.map_toArray, List.map_cons, List.map_nil, hs, hx, hr]
  exact h v' w' h2 h3

set_option maxRecDepth 100000 in
set_option maxHeartbeats 1000000 in
theorem rkeep_any (l : List UInt8) (ao : Option Addr) (ac : Nat) (g : List Rg) (w : World) (ha : RdR w ao g) (hg : g.length ≤ 100000) (hl : l.length ≤ 100000) :
    Calls Tryd.prog 39 #[.string ⟨l.toArray⟩, .slice ao g.length ac] w fun e w' => e = .returned (.string ⟨(rkp (fun r => hasB r (nrm g)) l (txt l)).toArray⟩) ∧ Below w.heap.size w w' := by
  obtain ⟨i0, hi, hz0, hz1, hz2⟩ := info_parts Tryd.info5
  have HA := hid ha
  clear ha
  have HRU := hid (rrunes_rd l w (by omega))
  have htl := txt_len l
  obtain ⟨p, hp⟩ : ∃ p : Int → Bool, p = fun r => hasB r (nrm g) := ⟨_, rfl⟩
  have HPP := hid (show ∀ r, hasR r g = p r by intro r; rw [hp]; exact hasR_nrmB r g)
  rw [← hp]
  clear hp
  go_enter Tryd.func39, Tryd.ntmps39
  go_wp2_with fail
  refine HRU.out.mono ?_
  rintro e w1 ⟨xo, xc, rfl, hrd, hb1⟩
  have HRD := hid hrd
  have HA1 := hid (HA.out.below hb1)
  have HB1 := hid hb1
  have hs1 := hb1.size
  clear hrd hb1 HRU HA
  go_wp2
  go_loopw [5, 7] (fun v i wr => ∃ (k : Nat) (T : List UInt8), i = .int .i64 k ∧ k ≤ (txt l).length ∧ Hid (T = rkp p l ((txt l).take k)) ∧ T.length ≤ k * 100000 ∧ Hid (wr.ownsRow w1.heap.size 5 1 v T.length (u8s T)) ∧ Hid (Below w1.heap.size w1 wr)) (fun _ i _ => (txt l).length - (intOf i).toNat)
  case atStart => exact ⟨0, [], rfl, by omega, rfl, by simp, World.ownsRow_nil _ _ _ _, Below.refl _ _⟩
  case round =>
    obtain ⟨k, T, rfl, hk, HT, hTl, HO, HB⟩ := hrel
    have hbs := HB.out.size
    have HAr := hid (HA1.out.below HB.out)
    by_cases hlt : k < (txt l).length
    · obtain ⟨xs', ys', x, q1, q2, q3, q4, q5, q6⟩ := txt_at l k hlt
      obtain ⟨gx, rfl, hgx, a0, a1, a2⟩ := HRD.out k _ q3
      dsimp only at a0 a1 a2
      replace a0 := (HB.out.cell (p := ⟨gx, k * 3, none⟩) hgx).trans a0
      replace a1 := (HB.out.cell (p := ⟨gx, k * 3 + 1, none⟩) hgx).trans a1
      replace a2 := (HB.out.cell (p := ⟨gx, k * 3 + 2, none⟩) hgx).trans a2
      obtain ⟨xr, hxr⟩ : ∃ xr, xr = x.2 := ⟨_, rfl⟩
      obtain ⟨xf, hxf⟩ : ∃ xf, xf = x.1 := ⟨_, rfl⟩
      obtain ⟨xt, hxt⟩ : ∃ xt, xt = nxt l.length ys' := ⟨_, rfl⟩
      rw [← hxr, ← hxf, ← hxt] at q3
      rw [← hxt] at a2 q5 q6
      rw [← hxr] at a0
      rw [← hxf] at a1 q5
      have HT2 := hid (show rkp p l ((txt l).take (k + 1)) = T ++ if p xr then (l.drop xf).take (xt - xf) else [] by
        rw [List.take_succ_eq_append_getElem hlt, rkp_snoc, ← HT.out]
        have e : (txt l)[k] = (xr, xf, xt) := by rw [List.getElem?_eq_getElem hlt] at q3; exact Option.some.inj q3
        rw [e])
      have HHV := hid (fun z => rhas_eq ao ac g z (p z) (HPP.out z) wr HAr.out (by omega))
      obtain ⟨b, hb⟩ : ∃ b, p xr = b := ⟨_, rfl⟩
      rw [hb] at HT2
      have i1 : (0 : Int) ≤ (k : Int) := by omega
      have i2 : (k : Int) < ((txt l).length : Int) := by omega
      clear q1 q2 q3 q4 hxr hxf hxt HT
      cases b with
      | false =>
        have HT3 := hid (show T = rkp p l ((txt l).take (k + 1)) by rw [HT2.out]; simp)
        have HT5 := hid (show T.length ≤ (k + 1) * 100000 from Nat.le_trans hTl (Nat.mul_le_mul_right _ (Nat.le_succ _)))
        clear HT2
        go_wp2_with (go_at_call 18; refine (HHV.out _).mono ?_; rintro e y ⟨rfl, hw⟩; obtain rfl := hw.symm; clear hw; rw [hb])
        go_roundw
        case rel => exact ⟨k + 1, T, by go_num, by omega, HT3, HT5.out, HO, HB⟩
        case measure => simp [intOf]; omega
      | true =>
        obtain ⟨S, hS⟩ : ∃ S, S = (l.drop xf).take (xt - xf) := ⟨_, rfl⟩
        have hSl : S.length = xt - xf := by rw [hS, List.length_take, List.length_drop]; omega
        have HEX := hid (show (⟨l.toArray⟩ : ByteArray).extract xf xt = ⟨S.toArray⟩ by rw [hS]; have h := ext_mid l xf (xt - xf); rw [show xf + (xt - xf) = xt by omega] at h; exact h)
        have HT3 := hid (show T ++ S = rkp p l ((txt l).take (k + 1)) by rw [HT2.out, hS]; simp)
        have HSS := hid (show (⟨S.toArray⟩ : ByteArray).size = S.length by show S.toArray.size = _; simp)
        obtain ⟨oo, oc, hu, _⟩ := row_form HO.out
        subst hu
        have hne : (Value.slice oo T.length oc).ownBlock ≠ some gx := fun e => by have := (HO.out.lt gx e).1; omega
        have HCF := hid (fun (W' : World) (gr : (wr.drew).grownBy W' (Value.slice oo T.length oc).ownBlock) => show W'.cell? ⟨gx, k * 3 + 1, none⟩ = some (.int .i64 xf) ∧ W'.cell? ⟨gx, k * 3 + 2, none⟩ = some (.int .i64 xt) from
          ⟨(gr.cell_far ⟨gx, k * 3 + 1, none⟩ (show gx < wr.heap.size by omega) (Ne.symm hne)).trans a1, (gr.cell_far ⟨gx, k * 3 + 2, none⟩ (show gx < wr.heap.size by omega) (Ne.symm hne)).trans a2⟩)
        have j1 : (0 : Int) ≤ (xf : Int) := by omega
        have j2 : (xf : Int) ≤ (xt : Int) := by omega
        have j3 : (xt : Int) ≤ (l.length : Int) := by omega
        have j4 : (0 : Int) ≤ (xt : Int) := by omega
        have hSb : T.length + S.length ≤ 100000000000 := by omega
        clear hS HT2
        go_wp2_with (go_at_call 18; refine (HHV.out _).mono ?_; rintro e y ⟨rfl, hw⟩; obtain rfl := hw.symm; clear hw; rw [hb])
        go_region_held3 (fun W => W.cell? ⟨gx, k * 3 + 1, none⟩ = some (.int .i64 xf) ∧ W.cell? ⟨gx, k * 3 + 2, none⟩ = some (.int .i64 xt))
          (first | go_keep | (exact HCF.out _ gr2))
          ((refine step_append_str (by rfl) _ _ _ _ (by rfl) w1.heap.size 5 i0 Tryd.underlying69 Tryd.underlying9 hi hz0 hz1 hz2 (.slice oo T.length oc) T.length (u8s T) (by rfl) (HO.out.drew) ⟨S.toArray⟩ (by first | rfl | (rw [← HEX.out]; rfl)) (by rw [HSS.out]; unfold maxLen; omega) (by rw [HSS.out]; omega) (by simp; omega) ?_; intro v2 w2 o2 gr2))
        have HO2 := hid (show w2.ownsRow w1.heap.size 5 1 v2 (T ++ S).length (u8s (T ++ S)) by rw [u8s_app, List.length_append, ← strCells_list S, ← HSS.out]; exact o2)
        have HB2 := hid (HB.out.drew.grown gr2 (by simp; omega) (fun j hj => (HO.out.lt j hj).1))
        clear o2 gr2
        go_wp2
        go_roundw
        case rel => exact ⟨k + 1, T ++ S, by go_num, by omega, HT3, by simp; omega, HO2, HB2⟩
        case measure => simp [intOf]; omega
    · have HTE := hid (show T = rkp p l (txt l) by rw [HT.out, List.take_of_length_le (by omega)])
      have hcv := conv_row wr _ _ T HO.out
      clear hTl
      go_wp2
      go_ret
      exact ⟨by rw [← HTE.out]; rfl, HB1.out.trans (HB.out.mono hs1)⟩
end Go.Proofs.YtfahbdlcokoghaaDoor
/- What is kept and what is trimmed, by runs and rune by rune: the mathematics. -/
namespace Go.Proofs.YtfahbdlcokoghaaDoor
open Go.RowKit

/-- Runs that lie in a text up to a place. -/
def okR (e : Nat) (ys : List (Nat × Nat)) : Prop := ∀ x ∈ ys, x.1 ≤ x.2 ∧ x.2 ≤ e
theorem pre_bd {l : List UInt8} {xs ys : List (Nat × Int)} {x : Nat × Int} (h : plr l 0 = xs ++ x :: ys) : x.1 < nxt l.length ys ∧ nxt l.length ys ≤ l.length ∧ x.1 < l.length := by
  have hu := plr_up l l.length 0 (by omega)
  rw [h] at hu
  obtain ⟨_, _, u3, u4⟩ := upF_app hu
  have hn := nxt_bd u4 (by omega)
  exact ⟨by omega, hn.2, u3⟩
theorem rnE_ok (p : Int → Bool) (l : List UInt8) : ∀ (n : Nat) (xs ys : List (Nat × Int)), xs.length = n → plr l 0 = xs ++ ys → okR (nxt l.length ys) (rnE p (nxt l.length ys) xs)
  | 0, xs, ys, hn, _ => by
    have : xs = [] := List.length_eq_zero_iff.1 hn
    subst this
    intro x hx
    simp [rnE, clo, endO, tlo] at hx
  | n + 1, xs, ys, hn, h => by
    rcases List.eq_nil_or_concat xs with rfl | ⟨Q, z, rfl⟩
    · simp at hn
    · rw [List.concat_eq_append] at *
      have h' : plr l 0 = Q ++ z :: ys := by rw [h, List.append_assoc]; rfl
      have ih := rnE_ok p l n Q (z :: ys) (by simp at hn; exact hn) h'
      obtain ⟨b1, b2, b3⟩ := pre_bd h'
      have ih' : okR z.1 (rnE p z.1 Q) := ih
      by_cases hp : p z.2 = true
      · cases ho : endO p none Q with
        | none =>
          rw [rnE_new p _ Q z hp ho]
          intro x hx
          rcases List.mem_append.1 hx with hx | hx
          · have := ih' x hx; omega
          · simp at hx; subst hx; exact ⟨by dsimp only; omega, Nat.le_refl _⟩
        | some f =>
          obtain ⟨m1, m2⟩ := rnE_more p (nxt l.length ys) Q z f hp ho
          rw [m1]
          rw [m2] at ih'
          have hf := ih' (f, z.1) (by simp)
          dsimp only at hf
          intro x hx
          rcases List.mem_append.1 hx with hx | hx
          · have := ih' x (List.mem_append.2 (.inl hx)); omega
          · simp at hx; subst hx; exact ⟨by dsimp only; omega, Nat.le_refl _⟩
      · rw [rnE_no p _ Q z (by simpa using hp)]
        intro x hx
        have := ih' x hx
        omega

def kpN (l : List UInt8) (ys : List (Nat × Nat)) : List UInt8 := ys.flatMap fun x => (l.drop x.1).take (x.2 - x.1)
theorem kpN_app (l : List UInt8) (a b : List (Nat × Nat)) : kpN l (a ++ b) = kpN l a ++ kpN l b := by simp [kpN]
theorem take_two (l : List UInt8) (a b c : Nat) (h1 : a ≤ b) (h2 : b ≤ c) : (l.drop a).take (c - a) = (l.drop a).take (b - a) ++ (l.drop b).take (c - b) := by
  have e : c - a = (b - a) + (c - b) := by omega
  rw [e, List.take_add, List.drop_drop, show a + (b - a) = b by omega]
theorem kpN_rkp (p : Int → Bool) (l : List UInt8) : ∀ (n : Nat) (xs ys : List (Nat × Int)), xs.length = n → plr l 0 = xs ++ ys → kpN l (rnE p (nxt l.length ys) xs) = rkp p l (cls (nxt l.length ys) xs)
  | 0, xs, ys, hn, _ => by
    have : xs = [] := List.length_eq_zero_iff.1 hn
    subst this
    rfl
  | n + 1, xs, ys, hn, h => by
    rcases List.eq_nil_or_concat xs with rfl | ⟨Q, z, rfl⟩
    · simp at hn
    · rw [List.concat_eq_append] at *
      have h' : plr l 0 = Q ++ z :: ys := by rw [h, List.append_assoc]; rfl
      have ih : kpN l (rnE p z.1 Q) = rkp p l (cls z.1 Q) := kpN_rkp p l n Q (z :: ys) (by simp at hn; exact hn) h'
      have ok : okR z.1 (rnE p z.1 Q) := rnE_ok p l n Q (z :: ys) (by simp at hn; exact hn) h'
      obtain ⟨b1, b2, b3⟩ := pre_bd h'
      rw [cls_snoc, rkp_snoc, ← ih]
      by_cases hp : p z.2 = true
      · rw [if_pos hp]
        cases ho : endO p none Q with
        | none =>
          rw [rnE_new p _ Q z hp ho, kpN_app]
          simp [kpN]
        | some f =>
          obtain ⟨m1, m2⟩ := rnE_more p (nxt l.length ys) Q z f hp ho
          rw [m1, m2, kpN_app, kpN_app]
          rw [m2] at ok
          have hf := ok (f, z.1) (by simp)
          dsimp only at hf
          have e := take_two l f z.1 (nxt l.length ys) hf.1 (by omega)
          simp only [kpN, List.flatMap_cons, List.flatMap_nil, List.append_nil, List.append_assoc]
          rw [e]
      · rw [if_neg hp, List.append_nil, rnE_no p _ Q z (by simpa using hp)]
theorem kps_tws (l : List UInt8) : ∀ (ys : List (Nat × Nat)), okR l.length ys → kps l (tws l ys) = kpN l ys
  | [], _ => rfl
  | y :: t, h => by
    have h1 := h y (by simp)
    have ih := kps_tws l t (fun x hx => h x (by simp [hx]))
    rw [tws_cons l y t h1]
    show (l.drop y.1).take (y.2 - y.1) ++ kps l (tws l t) = _
    rw [ih]
    rfl
theorem rnl_ok (p : Int → Bool) (l : List UInt8) : okR l.length (rnl p l) := by
  rw [rnE_all]
  exact rnE_ok p l _ (plr l 0) [] rfl (by rw [List.append_nil])
/-- What is kept, by runs and rune by rune. -/
theorem keep_same (p : Int → Bool) (l : List UInt8) : kps l (rst p l none 0) = rkp p l (txt l) := by
  show kps l (tws l (rnl p l)) = _
  rw [kps_tws l _ (rnl_ok p l), rnE_all]
  exact kpN_rkp p l _ (plr l 0) [] rfl (by rw [List.append_nil])

/-- The places of the triples lie in the text. -/
theorem trm_snoc (p : Int → Bool) (N : Nat) (x : Trp) (hx : x.2.1 < N) : ∀ (T : List Trp), (∀ y ∈ T, y.2.1 < N) → trm p N (T ++ [x]) = if p x.1 then trm p N T else (if (trm p N T).1 = N then x.2.1 else (trm p N T).1, x.2.2)
  | [], _ => by
    show (if p x.1 then trm p N [] else (x.2.1, if (trm p N []).1 = N then x.2.2 else (trm p N []).2)) = _
    split
    · rfl
    · simp [trm]
  | y :: T, h => by
    have ih := trm_snoc p N x hx T (fun z hz => h z (by simp [hz]))
    have hy := h y (by simp)
    rw [List.cons_append, trm, ih, trm]
    by_cases hp : p y.1 = true
    · rw [if_pos hp, if_pos hp]
    · rw [if_neg hp, if_neg hp]
      by_cases hpx : p x.1 = true
      · rw [if_pos hpx, if_pos hpx]
      · rw [if_neg hpx, if_neg hpx]
        dsimp only
        rw [if_neg (show ¬ y.2.1 = N by omega)]
        congr 1
        rw [if_neg]
        split
        · omega
        · assumption
def tbN (N : Nat) (ys : List (Nat × Nat)) : Nat := ys.foldl (fun b x => min b x.1) N
def teN (N : Nat) (ys : List (Nat × Nat)) : Nat := ys.foldl (fun _ x => x.2) N
theorem tbN_snoc (N : Nat) (ys : List (Nat × Nat)) (x : Nat × Nat) : tbN N (ys ++ [x]) = min (tbN N ys) x.1 := by simp [tbN]
theorem teN_snoc (N : Nat) (ys : List (Nat × Nat)) (x : Nat × Nat) : teN N (ys ++ [x]) = x.2 := by simp [teN]
theorem tbN_le (N e : Nat) (ys : List (Nat × Nat)) (h : okR e ys) : tbN N ys = N ∨ tbN N ys ≤ e := by
  rcases List.eq_nil_or_concat ys with rfl | ⟨Q, z, rfl⟩
  · exact .inl rfl
  · rw [List.concat_eq_append] at *
    have := h z (by simp)
    rw [tbN_snoc]
    right
    omega
theorem cls_in {l : List UInt8} : ∀ (xs ys : List (Nat × Int)) (e : Nat), plr l 0 = xs ++ ys → ∀ y ∈ cls e xs, y.2.1 < l.length := by
  intro xs ys e h y hy
  have hu := plr_up l l.length 0 (by omega)
  rw [h] at hu
  have gen : ∀ (xs : List (Nat × Int)) (b : Nat), upF b l.length (xs ++ ys) → ∀ y ∈ cls e xs, y.2.1 < l.length := by
    intro xs
    induction xs with
    | nil => intro b _ y hy; simp [cls] at hy
    | cons x t ih =>
      intro b hb y hy
      rw [cls] at hy
      rcases List.mem_cons.1 hy with rfl | hy
      · exact hb.2.1
      · exact ih _ hb.2.2 y hy
  exact gen xs 0 hu y hy
theorem trim_pre (p q : Int → Bool) (l : List UInt8) (hq : ∀ x ∈ plr l 0, q x.2 = !p x.2) : ∀ (n : Nat) (xs ys : List (Nat × Int)), xs.length = n → plr l 0 = xs ++ ys →
    trm p l.length (cls (nxt l.length ys) xs) = (tbN l.length (rnE q (nxt l.length ys) xs), teN l.length (rnE q (nxt l.length ys) xs))
  | 0, xs, ys, hn, _ => by
    have : xs = [] := List.length_eq_zero_iff.1 hn
    subst this
    rfl
  | n + 1, xs, ys, hn, h => by
    rcases List.eq_nil_or_concat xs with rfl | ⟨Q, z, rfl⟩
    · simp at hn
    · rw [List.concat_eq_append] at *
      have h' : plr l 0 = Q ++ z :: ys := by rw [h, List.append_assoc]; rfl
      have ih : trm p l.length (cls z.1 Q) = (tbN l.length (rnE q z.1 Q), teN l.length (rnE q z.1 Q)) := trim_pre p q l hq n Q (z :: ys) (by simp at hn; exact hn) h'
      have ok : okR z.1 (rnE q z.1 Q) := rnE_ok q l n Q (z :: ys) (by simp at hn; exact hn) h'
      obtain ⟨b1, b2, b3⟩ := pre_bd h'
      have hz : q z.2 = !p z.2 := hq z (by rw [h']; simp)
      rw [cls_snoc, trm_snoc p l.length (z.2, z.1, nxt l.length ys) b3 _ (cls_in Q (z :: ys) z.1 h'), ih]
      dsimp only
      by_cases hp : p z.2 = true
      · rw [if_pos hp, rnE_no q _ Q z (by rw [hz, hp]; rfl)]
      · have hqz : q z.2 = true := by rw [hz]; simpa using hp
        rw [if_neg hp]
        cases ho : endO q none Q with
        | none =>
          rw [rnE_new q _ Q z hqz ho, tbN_snoc, teN_snoc]
          congr 1
          rcases tbN_le l.length z.1 _ ok with hh | hh
          · rw [if_pos hh, hh]; dsimp only; omega
          · rw [if_neg (by omega)]; dsimp only; omega
        | some f =>
          obtain ⟨m1, m2⟩ := rnE_more q (nxt l.length ys) Q z f hqz ho
          rw [m2] at ok
          have hf := ok (f, z.1) (by simp)
          dsimp only at hf
          have e1 : tbN l.length (rnE q z.1 Q) = min (tbN l.length (clo q none Q)) f := by rw [m2, tbN_snoc]
          have e2 : tbN l.length (rnE q (nxt l.length ys) (Q ++ [z])) = min (tbN l.length (clo q none Q)) f := by rw [m1, tbN_snoc]
          have e3 : teN l.length (rnE q (nxt l.length ys) (Q ++ [z])) = nxt l.length ys := by rw [m1, teN_snoc]
          rw [e1, e2, e3, if_neg (by omega)]
theorem tb_tws (l : List UInt8) (ys : List (Nat × Nat)) (h : okR l.length ys) : tbg (tws l ys) = tbN l.length ys ∧ ten (tws l ys) = teN l.length ys := by
  have gen : ∀ (ys : List (Nat × Nat)) (a b : Nat), okR l.length ys → (tws l ys).foldl (fun b x => min b x.val.1) a = ys.foldl (fun b x => min b x.1) a ∧ (tws l ys).foldl (fun _ x => x.val.2) b = ys.foldl (fun _ x => x.2) b := by
    intro ys
    induction ys with
    | nil => intro a b _; exact ⟨rfl, rfl⟩
    | cons y t ih =>
      intro a b h
      rw [tws_cons l y t (h y (by simp))]
      exact ih _ _ (fun x hx => h x (by simp [hx]))
  exact gen ys _ _ h
theorem plr_in (l : List UInt8) : ∀ (n t : Nat), l.length - t ≤ n → ∀ x ∈ plr l t, 0 ≤ x.2 ∧ x.2 ≤ top
  | 0, t, h, x, hx => by rw [plr_end l t (by omega)] at hx; cases hx
  | n + 1, t, h, x, hx => by
    by_cases ht : t < l.length
    · have hw := Lib.width_pos ⟨l.toArray⟩ t
      have hr := Lib.rune_le ⟨l.toArray⟩ t
      rw [plr_step l t ht] at hx
      rcases List.mem_cons.1 hx with rfl | hx
      · unfold top; dsimp only; omega
      · exact plr_in l n _ (by omega) x hx
    · rw [plr_end l t ht] at hx; cases hx
/-- What is trimmed, by runs and from behind. -/
theorem trim_same (g : List Rg) (l : List UInt8) : trm (fun r => hasB r (nrm g)) l.length (txt l) = (tbg (ntr g l), ten (ntr g l)) := by
  have hq : ∀ x ∈ plr l 0, hasB x.2 (nrm (nt g)) = !hasB x.2 (nrm g) := by
    intro x hx
    have hb : 0 ≤ x.2 ∧ x.2 ≤ top := plr_in l l.length 0 (by omega) x hx
    rw [← hasR_nrmB, ← hasR_nrmB]
    refine Bool.eq_iff_iff.2 ?_
    rw [hasR_iff]
    unfold means
    rw [nt_in]
    have := hasR_iff x.2 g
    cases hh : hasR x.2 g with
    | true => rw [hh] at this; simp [this.1 rfl]
    | false => rw [hh] at this; simp; exact ⟨hb.1, hb.2, hb.1, hb.2, fun c => by have := this.2 c; cases this⟩
  have h := trim_pre (fun r => hasB r (nrm g)) (fun r => hasB r (nrm (nt g))) l hq _ (plr l 0) [] rfl (by rw [List.append_nil])
  obtain ⟨t1, t2⟩ := tb_tws l (rnl (fun r => hasB r (nrm (nt g))) l) (rnl_ok _ l)
  have t1' : tbg (ntr g l) = _ := t1
  have t2' : ten (ntr g l) = _ := t2
  rw [t1', t2', rnE_all]
  exact h
end Go.Proofs.YtfahbdlcokoghaaDoor
/- The walk of RunesTexts. -/
namespace Go.Proofs.YtfahbdlcokoghaaDoor
open Go.RowKit Go.Shelf
attribute [local go_sem] Oper.semAt_some

theorem eq_nilfT (lb : Array Value) (w : World) : (binOp .eql 49 (.func (.func 53) #[] lb) .nilFunc).run Tryd.prog w = .ok (.bool false) w := by kernel_rfl
attribute [local go_sem] eq_nilfT

/-- Runs as the iterator hands them on, and as they lie in a row of numbers. -/
theorem flv_get : ∀ (ys : List (Nat × Nat)) (k : Nat) (y : Nat × Nat), ys[k]? = some y → (flv ys)[2 * k]? = some (.int .i64 y.1) ∧ (flv ys)[2 * k + 1]? = some (.int .i64 y.2)
  | [], _, _, h => by cases h
  | x :: t, 0, y, h => by cases h; exact ⟨rfl, rfl⟩
  | x :: t, k + 1, y, h => by
    have ih := flv_get t k y h
    have e : flv (x :: t) = .int .i64 x.1 :: .int .i64 x.2 :: flv t := rfl
    rw [e, show 2 * (k + 1) = 2 * k + 1 + 1 by omega]
    exact ih
theorem tws_val (l : List UInt8) : ∀ (ys : List (Nat × Nat)), okR l.length ys → (tws l ys).map Subtype.val = ys
  | [], _ => rfl
  | y :: t, h => by
    rw [tws_cons l y t (h y (by simp)), List.map_cons, tws_val l t (fun x hx => h x (by simp [hx]))]
theorem tws_all (p : Int → Bool) (l : List UInt8) : (rst p l none 0).length = (rnl p l).length ∧ ∀ (k : Nat) (y : Tw l), (rst p l none 0)[k]? = some y → (flv (rnl p l))[2 * k]? = some (.int .i64 y.val.1) ∧ (flv (rnl p l))[2 * k + 1]? = some (.int .i64 y.val.2) := by
  have hv : (rst p l none 0).map Subtype.val = rnl p l := tws_val l (rnl p l) (rnl_ok p l)
  refine ⟨by rw [← hv, List.length_map], fun k y hk => flv_get _ k y.val (by rw [← hv, List.getElem?_map, hk]; rfl)⟩

theorem bad_nextT {l : List UInt8} {L pre : List (Tw l)} {n : Nat} {x y : Tw l} (hn : n = pre.length) (h : L[n]? = some y) (hne : ¬ y = x) : ¬ pre ++ [x] <+: L := by
  rintro ⟨r, rfl⟩
  subst hn
  simp at h
  exact hne h.symm
theorem tailT {Bs Bl Bn A n : Nat} {so : Option Addr} {l : List UInt8} {Wk W Z : World} {L pre : List (Tw l)} {x : Tw l} {E : List (Tw l) → World → Prop} {a : Act} (hA : KpA Bn W Z) (hb : Boxed Z Bn 3 (.int .i64 n)) (hB : Below Bn Wk Z) (hn : n = 2 * pre.length) (hk : ∀ k, KR Bs Bl so k → k < Bn) (hs : Bn < W.heap.size) :
    ownPostG A (Kr (KR Bs Bl so)) (fun pre W' => Boxed W' Bn 3 (.int .i64 (2 * (pre.length : Int))) ∧ Below Bn Wk W') (ixT L 0 E) (pre ++ [x]) W .normal a (Z.setCell ⟨Bn, 0, none⟩ (.int .i64 ((n : Int) + 2))) := by
  have h2 := hA.trans (KpA.set hb (.int .i64 ((n : Int) + 2)))
  refine ⟨h2.from _, ⟨⟨h2.size, fun k o hk' hw => (h2.from 0).same k o (Nat.zero_le _) hk' (Obj.not_cells_of_walk hw)⟩, fun k hkr => h2.same k (by have := hk k hkr; omega) (by have := hk k hkr; omega)⟩, ?_, hB.setCell (p := ⟨Bn, 0, none⟩) (Nat.le_refl _) _⟩
  have e : 2 * (((pre ++ [x]).length : Nat) : Int) = (n : Int) + 2 := by rw [List.length_append, hn]; simp; omega
  rw [e]
  exact hb.set _
/-- What lies below when the loop begins. -/
structure KitT (B Bs Bl Bq Bw : Nat) (t : List UInt8) (L : List (Tw t)) (m : Nat) (stop : Int) (vo : Option Addr) (vc : Nat) (so : Option Addr) (sc : Nat) (s : List Rg) (W : World) : Prop where
  stop : Boxed W B 3 (.int .i64 stop)
  res : Boxed W (B + 1) 4 (.bool false)
  fn : Boxed W Bq 49 (.func (.func 53) #[] #[.pointer (some ⟨Bs, 0, none⟩), .pointer (some ⟨Bl, 0, none⟩)])
  want : Boxed W Bw 51 (.slice vo m vc)
  runs : RunsAt Bs Bl t so sc s W
  cells : ∀ (k : Nat) (y : Tw t), L[k]? = some y → ∃ gw, vo = some ⟨gw, 0, none⟩ ∧ gw < W.heap.size ∧ W.cell? ⟨gw, 2 * k, none⟩ = some (.int .i64 y.val.1) ∧ W.cell? ⟨gw, 2 * k + 1, none⟩ = some (.int .i64 y.val.2)
theorem KitT.below {B Bs Bl Bq Bw : Nat} {t : List UInt8} {L : List (Tw t)} {m : Nat} {stop : Int} {vo : Option Addr} {vc : Nat} {so : Option Addr} {sc : Nat} {s : List Rg} {W W' : World} (h : KitT B Bs Bl Bq Bw t L m stop vo vc so sc s W) (hB : Below W.heap.size W W') : KitT B Bs Bl Bq Bw t L m stop vo vc so sc s W' :=
  ⟨boxed_belowE h.stop hB h.stop.lt, boxed_belowE h.res hB h.res.lt, boxed_belowE h.fn hB h.fn.lt, boxed_belowE h.want hB h.want.lt, h.runs.below hB (Nat.le_refl _), fun k y hk => by
    obtain ⟨gw, h1, h2, h3, h4⟩ := h.cells k y hk
    exact ⟨gw, h1, Nat.lt_of_lt_of_le h2 hB.size, (hB.cell (p := ⟨gw, 2 * k, none⟩) h2).trans h3, (hB.cell (p := ⟨gw, 2 * k + 1, none⟩) h2).trans h4⟩⟩

set_option maxHeartbeats 2000000 in
set_option maxRecDepth 100000 in
theorem text_long (t : List UInt8) (lo : Option Addr) (lc : Nat) (l : List Rg) (stop : Int) (w : World) (hT : Lib.Utf8Tabs 0 1 w) (h2 : 2 ≤ w.heap.size) (hlen : (20000 : Int) < t.length ∨ (60 : Int) < l.length) :
    CallsIn Fence.wide 9 Tryd.prog 8 #[.string ⟨t.toArray⟩, .slice lo l.length lc, .int .i64 stop] w fun e w' => e = .returned (.bool true) ∧ Below w.heap.size w w' := by
  have HT := hid hT
  clear hT
  obtain ⟨U, hU⟩ : ∃ U, U = (w.alloc (.cells #[.int .i64 stop] 3)).alloc (.cells #[.bool false] 4) := ⟨_, rfl⟩
  have HBU := hid (show Below w.heap.size w U by rw [hU]; exact ((Below.refl _ w).alloc (Nat.le_refl _) _).alloc (by simp) _)
  have HBR := hid (show Boxed U (w.heap.size + 1) 4 (.bool false) by rw [hU]; have h := Boxed.new (w.alloc (.cells #[.int .i64 stop] 3)) 4 (.bool false); simp only [World.size_alloc] at h; exact h)
  have HTU := hid (tabs_below HT.out h2 HBU.out)
  have hUs : 2 ≤ U.heap.size := by have := HBU.out.size; omega
  have HU := hid hU
  clear hU
  refine callsIn_of_wp_marks Tryd.func8 rfl trivial ?_ rfl
  simp only [Tryd.ntmps8, List.size_toArray, List.length_cons, List.length_nil, Nat.reduceAdd, Nat.reduceSub, Array.replicate_succ, Array.replicate_zero, List.push_toArray, List.append_toArray, List.nil_append, List.cons_append]
  by_cases h1 : (20000 : Int) < t.length
  · gi_wp2_with (refine ⟨trivial, ?_⟩; gi_at_call 9; rw [← HU.out]; refine (callsIn_wide.2 (live_any U (by exact HTU.out) (by exact hUs))).mono ?_; rintro e w9 ⟨rfl, hb9⟩; have hB9 := boxed_belowE HBR.out hb9 HBR.out.lt; have cR := hB9.cell; have fR := hB9.frozen; have HB9 := hid hb9; have HR9 := hid hB9; clear hb9 hB9)
    have hbf : Below w.heap.size w (w9.setCell ⟨w.heap.size + 1, 0, none⟩ (.bool true)) := (HBU.out.trans (HB9.out.mono HBU.out.size)).setCell (p := ⟨w.heap.size + 1, 0, none⟩) (by simp) _
    have hc5 := (HR9.out.set (.bool true)).cell
    refine ⟨.bool true, ?_, rfl, hbf⟩
    simp [results, Tryd.f8, go_sem, hc5]
  · have h3 : (60 : Int) < l.length := by omega
    gi_wp2_with (refine ⟨trivial, ?_⟩; gi_at_call 9; rw [← HU.out]; refine (callsIn_wide.2 (live_any U (by exact HTU.out) (by exact hUs))).mono ?_; rintro e w9 ⟨rfl, hb9⟩; have hB9 := boxed_belowE HBR.out hb9 HBR.out.lt; have cR := hB9.cell; have fR := hB9.frozen; have HB9 := hid hb9; have HR9 := hid hB9; clear hb9 hB9)
    have hbf : Below w.heap.size w (w9.setCell ⟨w.heap.size + 1, 0, none⟩ (.bool true)) := (HBU.out.trans (HB9.out.mono HBU.out.size)).setCell (p := ⟨w.heap.size + 1, 0, none⟩) (by simp) _
    have hc5 := (HR9.out.set (.bool true)).cell
    refine ⟨.bool true, ?_, rfl, hbf⟩
    simp [results, Tryd.f8, go_sem, hc5]

set_option maxHeartbeats 2000000 in
set_option maxRecDepth 100000 in
theorem text_in (t : List UInt8) (lo : Option Addr) (lc : Nat) (l : List Rg) (stop : Int) (w : World) (hT : Lib.Utf8Tabs 0 1 w) (h2 : 2 ≤ w.heap.size) (hlc : lo = none → lc = 0) (hl : RdR w lo l) (h1 : ¬ (20000 : Int) < t.length) (h3 : ¬ (60 : Int) < l.length) :
    CallsIn Fence.wide 9 Tryd.prog 8 #[.string ⟨t.toArray⟩, .slice lo l.length lc, .int .i64 stop] w fun e w' => e = .returned (.bool true) ∧ Below w.heap.size w w' := by
  have HT := hid hT
  obtain ⟨U, hU⟩ : ∃ U, U = (w.alloc (.cells #[.int .i64 stop] 3)).alloc (.cells #[.bool false] 4) := ⟨_, rfl⟩
  have hUs : U.heap.size = w.heap.size + 2 := by rw [hU]; simp
  have HBU := hid (show Below w.heap.size w U by rw [hU]; exact ((Below.refl _ w).alloc (Nat.le_refl _) _).alloc (by simp) _)
  have HU1 := hid (show Boxed U w.heap.size 3 (.int .i64 stop) by rw [hU]; exact (Boxed.new w 3 (.int .i64 stop)).alloc _)
  have HU2 := hid (show Boxed U (w.heap.size + 1) 4 (.bool false) by rw [hU]; have h := Boxed.new (w.alloc (.cells #[.int .i64 stop] 3)) 4 (.bool false); simp only [World.size_alloc] at h; exact h)
  have HRU := hid (hl.below HBU.out)
  have HOW := hid (own_any lo lc l U HRU.out hlc (by omega))
  have HU := hid hU
  clear hU hT hlc hl
  refine callsIn_of_wp_marks Tryd.func8 rfl trivial ?_ rfl
  simp only [Tryd.ntmps8, List.size_toArray, List.length_cons, List.length_nil, Nat.reduceAdd, Nat.reduceSub, Array.replicate_succ, Array.replicate_zero, List.push_toArray, List.append_toArray, List.nil_append, List.cons_append]
  gi_wp2_with (refine ⟨trivial, ?_⟩; gi_at_call 10; rw [← HU.out]; refine (callsIn_wide.2 HOW.out).mono ?_; rintro e w1 ⟨g, cap, rfl, ho1, hwg, hb1⟩; have HO1 := hid ho1; have HB1 := hid hb1; clear ho1 hb1)
  have hs1 := HB1.out.size
  have HL1 := hid (HRU.out.below HB1.out)
  have HX1 := hid HO1.out.reads.left
  obtain ⟨q1, hq1⟩ : ∃ q1, q1 = tbg (ntr l t) := ⟨_, rfl⟩
  obtain ⟨q2, hq2⟩ : ∃ q2, q2 = ten (ntr l t) := ⟨_, rfl⟩
  have HC := hid (fun W hW => show Calls Tryd.prog 34 #[.string ⟨t.toArray⟩, .slice (some ⟨g, 0, none⟩) l.length cap] W (fun e w' => e = .returned (.tuple #[.int .i64 q1, .int .i64 q2]) ∧ Below W.heap.size W w') by rw [hq1, hq2]; exact trim_any t _ cap l W (HX1.out.below hW) (by omega))
  have HC2 := hid (fun W hW => show Calls Tryd.prog 35 #[.string ⟨t.toArray⟩, .slice lo l.length lc] W (fun e w' => e = .returned (.tuple #[.int .i64 q1, .int .i64 q2]) ∧ Below W.heap.size W w') by have h := rtrim_any t lo lc l W (HL1.out.below hW) (by omega) (by omega); rw [trim_same, ← hq1, ← hq2] at h; exact h)
  clear hq1 hq2 HOW HU
  gi_wp2_with fail
  refine ⟨trivial, (callsIn_wide.2 (HC.out _ (Below.refl _ _))).mono ?_⟩
  rintro e w2 ⟨rfl, hb2⟩
  have HB2 := hid hb2
  have hs2 := hb2.size
  clear hb2
  gi_wp2_with fail
  refine ⟨trivial, (callsIn_wide.2 (HC2.out _ HB2.out)).mono ?_⟩
  rintro e w3 ⟨rfl, hb3⟩
  have HB3 := hid (HB2.out.trans (hb3.mono hs2))
  have hs3 := HB3.out.size
  clear hb3 HB2 HC HC2
  have HOF := hid (of_any t w3 (by omega))
  gi_wp2_with fail
  refine ⟨trivial, (callsIn_wide.2 HOF.out).mono ?_⟩
  rintro e w4 ⟨v4, rfl, o4, hb4⟩
  obtain ⟨no, nc, rfl, hr4⟩ := rdr_row o4
  have HB4 := hid (HB3.out.trans (hb4.mono hs3))
  have hs4 := HB4.out.size
  have HR4 := hid hr4
  have HROF := hid (rof_any t w4 (by omega))
  clear o4 hb4 hr4 HOF HB3
  gi_wp2_with fail
  refine ⟨trivial, (callsIn_wide.2 HROF.out).mono ?_⟩
  rintro e w5 ⟨v5, rfl, o5, hb5⟩
  obtain ⟨mo, mc, rfl, hr5⟩ := rdr_row o5
  have HB5 := hid (HB4.out.trans (hb5.mono hs4))
  have hs5 := HB5.out.size
  have hnn := nrm_len (sgl (plr t 0))
  have hpl := plr_len t t.length 0 (by omega)
  have hsg : (sgl (plr t 0)).length = (plr t 0).length := by simp [sgl]
  have HSA := hid (same_eq no mo nc mc _ _ true (decide_eq_true rfl) w5 (HR4.out.below hb5) hr5 (by omega))
  clear o5 hb5 hr5 HROF HB4 HR4
  gi_wp2_with fail
  refine ⟨trivial, (callsIn_wide.2 HSA.out).mono ?_⟩
  rintro e w6 ⟨rfl, hb6⟩
  have HB6 := hid (HB5.out.trans (hb6.mono hs5))
  have hs6 := HB6.out.size
  obtain ⟨KS, hKS⟩ : ∃ KS, KS = rkp (fun r => hasB r (nrm l)) t (txt t) := ⟨_, rfl⟩
  have HKE := hid (show Calls Tryd.prog 38 #[.string ⟨t.toArray⟩, .slice (some ⟨g, 0, none⟩) l.length cap] w6 (fun e w' => e = .returned (.string ⟨KS.toArray⟩) ∧ Below w6.heap.size w6 w') by have h := keep_any t (some ⟨g, 0, none⟩) cap l w6 (HX1.out.below HB6.out) (by omega) (by omega); rw [keep_same, ← hKS] at h; exact h)
  have HRK := hid (fun W hW => show Calls Tryd.prog 39 #[.string ⟨t.toArray⟩, .slice lo l.length lc] W (fun e w' => e = .returned (.string ⟨KS.toArray⟩) ∧ Below W.heap.size W w') by have h := rkeep_any t lo lc l W (HL1.out.below hW) (by omega) (by omega); rw [← hKS] at h; exact h)
  clear hb6 hKS HSA HB5 hnn hpl hsg
  gi_wp2_with fail
  refine ⟨trivial, (callsIn_wide.2 HKE.out).mono ?_⟩
  rintro e w7 ⟨rfl, hb7⟩
  have HB7 := hid (HB6.out.trans (hb7.mono hs6))
  have hs7 := HB7.out.size
  clear hb7 HKE HB6
  gi_wp2_with fail
  refine ⟨trivial, (callsIn_wide.2 (HRK.out _ HB7.out)).mono ?_⟩
  rintro e w8 ⟨rfl, hb8⟩
  have HB8 := hid (HB7.out.trans (hb8.mono hs7))
  have hs8 := HB8.out.size
  clear hb8 HRK HB7
  have HRS := hid (runs_any t (some ⟨g, 0, none⟩) cap l w8 (HX1.out.below HB8.out) (by omega))
  gi_wp2_with fail
  refine ⟨trivial, (callsIn_wide.2 HRS.out).mono ?_⟩
  rintro e w9 ⟨Bs, Bl, so, sc, rfl, hR, hb9⟩
  have HB9 := hid (HB8.out.trans (hb9.mono hs8))
  have hs9 := HB9.out.size
  have HRA := hid hR
  clear hR hb9 HRS HB8
  have HS0 := hid (Boxed.new w9 49 (.func (.func 53) #[] #[.pointer (some ⟨Bs, 0, none⟩), .pointer (some ⟨Bl, 0, none⟩)]))
  have HBa := hid ((Below.refl w9.heap.size w9).alloc (Nat.le_refl _) (.cells #[.func (.func 53) #[] #[.pointer (some ⟨Bs, 0, none⟩), .pointer (some ⟨Bl, 0, none⟩)]] 49))
  have HRR := hid (rruns_any t lo lc l _ (HL1.out.below (HB9.out.trans (HBa.out.mono hs9))) (by omega) (by omega))
  gi_wp2_with fail
  refine ⟨trivial, (callsIn_wide.2 HRR.out).mono ?_⟩
  rintro e wa ⟨v10, rfl, o10, hb10⟩
  have hsa := hb10.size
  have hsa9 : w9.heap.size + 1 ≤ wa.heap.size := by simpa using hsa
  have HO10 := hid o10
  obtain ⟨L, hL⟩ : ∃ L, L = rst (fun r => hasB r (nrm l)) t none 0 := ⟨_, rfl⟩
  obtain ⟨m, hm⟩ : ∃ m, m = 2 * (rnl (fun r => hasB r (nrm l)) t).length := ⟨_, rfl⟩
  have hLm := tws_all (fun r => hasB r (nrm l)) t
  have hmL : m = 2 * L.length := by rw [hm, hL, hLm.1]
  have hml : L.length ≤ t.length + 1 := by rw [hL]; exact rnl_len _ t
  rw [← hm] at o10
  obtain ⟨vo, vc, rfl, hvr⟩ := row_form o10
  have HW1 := hid (show ∀ (k : Nat) (y : Tw t), L[k]? = some y → ∃ gw, vo = some ⟨gw, 0, none⟩ ∧ gw < wa.heap.size ∧ wa.cell? ⟨gw, 2 * k, none⟩ = some (.int .i64 y.val.1) ∧ wa.cell? ⟨gw, 2 * k + 1, none⟩ = some (.int .i64 y.val.2) from fun k y hk => by
    rw [hL] at hk
    obtain ⟨h1, h2⟩ := hLm.2 k y hk
    have hlt : k < L.length := by rw [hL]; exact (List.getElem?_eq_some_iff.1 hk).1
    obtain ⟨gw, e, _, h4, h5⟩ := hvr (by omega)
    exact ⟨gw, e, h4, h5 _ _ h1, h5 _ _ h2⟩)
  have HSa := hid (show Boxed wa w9.heap.size 49 (.func (.func 53) #[] #[.pointer (some ⟨Bs, 0, none⟩), .pointer (some ⟨Bl, 0, none⟩)]) from (hb10.block w9.heap.size (by simp)).trans HS0.out)
  have HBb := hid (show Below w9.heap.size w9 wa from HBa.out.trans (hb10.mono (by simp)))
  have HLE := hid hL
  clear hb10 HRR HBa HS0 hsa hm hL hvr o10 HO10 hLm
  have HKIT := hid (show KitT w.heap.size Bs Bl w9.heap.size wa.heap.size t L m stop vo vc so sc (nrm l) (wa.alloc (.cells #[.slice vo m vc] 51)) from by
    have ha := (Below.refl wa.heap.size wa).alloc (Nat.le_refl _) (.cells #[.slice vo m vc] 51)
    have hUa : Below U.heap.size U wa := HB1.out.trans ((HB9.out.mono hs1).trans (HBb.out.mono (by omega)))
    exact
    { stop := (boxed_belowE HU1.out hUa HU1.out.lt).alloc _
      res := (boxed_belowE HU2.out hUa HU2.out.lt).alloc _
      fn := HSa.out.alloc _
      want := Boxed.new _ _ _
      runs := (HRA.out.below HBb.out (Nat.le_refl _)).below ha (Nat.le_refl _)
      cells := fun k y hk => by
        obtain ⟨gw, h1, h2, h3, h4⟩ := HW1.out k y hk
        exact ⟨gw, h1, by simp; omega, (ha.cell (p := ⟨gw, 2 * k, none⟩) h2).trans h3, (ha.cell (p := ⟨gw, 2 * k + 1, none⟩) h2).trans h4⟩ })
  have HBk := hid (show Below w1.heap.size w1 (wa.alloc (.cells #[.slice vo m vc] 51)) from (HB9.out.trans (HBb.out.mono hs9)).alloc (by omega) _)
  clear HW1 HSa HBb HB9 HRA
  have HmL := hid hmL
  clear hmL
  have HX00 := hid ((Below.refl (wa.alloc (.cells #[.slice vo m vc] 51)).heap.size (wa.alloc (.cells #[.slice vo m vc] 51))).alloc (Nat.le_refl _) (.cells #[.int .i64 0] 3))
  have cE := (HKIT.out.below HX00.out).fn.cell
  have HNn0 := hid (Boxed.new (wa.alloc (.cells #[.slice vo m vc] 51)) 3 (.int .i64 0))
  gi_wp2_with fail
  clear cE
  obtain ⟨Bq, hBq⟩ : ∃ Bq, Bq = w9.heap.size := ⟨_, rfl⟩
  obtain ⟨Wk, hWk⟩ : ∃ Wk, Wk = wa.alloc (.cells #[.slice vo m vc] 51) := ⟨_, rfl⟩
  have hWks : Wk.heap.size = wa.heap.size + 1 := by rw [hWk]; simp
  obtain ⟨X0, hX0⟩ : ∃ X0, X0 = Wk.alloc (.cells #[.int .i64 0] 3) := ⟨_, rfl⟩
  rw [← hWk] at HKIT HBk HX00 HNn0
  rw [← hX0] at HX00 HNn0
  rw [← hWk, ← hX0, ← hBq]
  rw [← hBq] at HKIT
  obtain ⟨Bw, hBw⟩ : ∃ Bw, Bw = wa.heap.size := ⟨_, rfl⟩
  obtain ⟨Bn, hBn⟩ : ∃ Bn, Bn = wa.heap.size + 1 := ⟨_, rfl⟩
  rw [← hBn, ← hBw]
  rw [← hBw] at HKIT
  rw [hWks, ← hBn] at HX00 HNn0
  have hXs : Bn < X0.heap.size := HNn0.out.lt
  have HKX := hid (HKIT.out.below (by rw [hWks, ← hBn]; exact HX00.out))
  have HWS := hid (show Bn = Wk.heap.size by omega)
  have HBws := hid (show Bw + 1 = Bn by omega)
  have hltB : w.heap.size + 1 < Bn := by have := HKIT.out.res.lt; omega
  have hKRn : ∀ k, KR Bs Bl so k → k < Bn := fun k hk => by have := HKIT.out.runs.lt k hk; rw [HWS.out]; exact this
  have HKRN := hid hKRn
  have hw1n : w1.heap.size ≤ Bn := by have := HBk.out.size; omega
  clear hBq hWk hX0 hBw hBn hWks hKRn hs2 hs3 hs4 hs5 hs6 hs7 hs8 hs9 hsa9
  have HHK := hid (fun (W : World) (hW : Below Bn Wk W) => HKIT.out.below (show Below Wk.heap.size Wk W by rw [← HWS.out]; exact hW))
  refine rfT_H (K := KR Bs Bl so) (L := L) rfl (by omega) (gf := 53) (lb := #[.pointer (some ⟨Bs, 0, none⟩), .pointer (some ⟨Bl, 0, none⟩)]) rfl trivial (enters_of Tryd.func53 (by kernel_rfl) rfl)
    (by rw [HLE.out]; exact runs_stops _ (by omega) Bs Bl t so sc (nrm l) X0 HKX.out.runs (nrm_nf _) (by have := nrm_len l; omega)) HKX.out.runs.lt (Below.refl _ _) rfl 0 15 16
    (fun pre W => Boxed W Bn 3 (.int .i64 (2 * (pre.length : Int))) ∧ Below Bn Wk W)
    (fun _ _ => False)
    (OwnFrom.and (Own.from (boxed_own _ _ (fun pre : List (Tw t) => Value.int .i64 (2 * (pre.length : Int)))) _) (ownFrom_below (by rw [HWS.out]; omega) (by omega)))
    (fun _ _ _ _ h _ _ => h)
    ⟨HNn0.out, HX00.out⟩ ?assign0 ?body0
    (fun W => Boxed W Bn 3 (.int .i64 (2 * (L.length : Int))) ∧ Below Bn Wk W) (fun _ h => h) (fun _ _ _ h => h.elim) (fun _ _ h => h) ?fin0
  case assign0 =>
    intro lp x W K hK
    dsimp only [encR]
    gi_wp2
    simpa [frT, encR] using hK
  case body0 =>
    rintro lp pre x W hlp ⟨r, hr⟩ ⟨bN, hB⟩ hlt
    have hKw := HHK.out W hB
    obtain ⟨y, hy⟩ : ∃ y, L[pre.length]? = some y := ⟨_, List.getElem?_eq_getElem hlt⟩
    obtain ⟨gw, rfl, hgw, y1, y2⟩ := hKw.cells pre.length y hy
    obtain ⟨n, hn⟩ : ∃ n, n = 2 * pre.length := ⟨_, rfl⟩
    replace bN : Boxed W Bn 3 (.int .i64 n) := by rw [hn]; simpa using bN
    rw [← hn] at y1 y2
    have HN1 := hid hn
    have HY := hid hy
    have hn1 : n + 1 < m := by have := HmL.out; omega
    have cN := bN.cell
    have fN := bN.frozen
    have cW := hKw.want.cell
    have cS := hKw.stop.cell
    have cR := hKw.res.cell
    have fR := hKw.res.frozen
    have HBN := hid bN
    have HB1' := hid hB
    have HKW := hid hKw
    have HR := hid hr
    have hWs : Bn < W.heap.size := bN.lt
    have HXV := hid (show x.val.1 = y.val.1 → x.val.2 = y.val.2 → y = x from fun a b => Subtype.ext (Prod.ext a.symm b.symm))
    have HBAD := hid (show ¬ y = x → ¬ pre ++ [x] <+: L from fun h => bad_nextT rfl hy h)
    obtain ⟨x1, hx1⟩ : ∃ x1, x.val.1 = x1 := ⟨_, rfl⟩
    obtain ⟨x2, hx2⟩ : ∃ x2, x.val.2 = x2 := ⟨_, rfl⟩
    obtain ⟨z1, hz1⟩ : ∃ z1, y.val.1 = z1 := ⟨_, rfl⟩
    obtain ⟨z2, hz2⟩ : ∃ z2, y.val.2 = z2 := ⟨_, rfl⟩
    rw [hx1, hx2, hz1, hz2] at HXV
    rw [hz1] at y1
    rw [hz2] at y2
    have HX1' := hid hx1
    have HX2' := hid hx2
    have HZ1' := hid hz1
    have HZ2' := hid hz2
    dsimp only [frT, encR]
    rw [hx1, hx2]
    have i1 : (0 : Int) ≤ (n : Int) := by omega
    have i2 : (n : Int) < (m : Int) := by omega
    have i3 : (0 : Int) ≤ (n : Int) + 1 := by omega
    have i4 : (n : Int) + 1 < (m : Int) := by omega
    have ew : IntKind.i64.wrap ((n : Int) + 1) = (n : Int) + 1 := by rw [IntKind.wrap_i64]; omega
    have t0 : decide ((m : Int) ≤ (n : Int) + 1) = false := decide_eq_false (by omega)
    have k1 : (0 : Int) < (m : Int) := by omega
    have k2 : (1 : Int) < (m : Int) := by omega
    clear hn hy bN hB hKw hr hx1 hx2 hz1 hz2
    by_cases e1 : x1 = z1
    · by_cases e2 : x2 = z2
      · subst e1 e2
        have t1 : ((x1 : Int) != (x1 : Int)) = false := by simp
        have t2 : ((x2 : Int) != (x2 : Int)) = false := by simp
        have cE := HKW.out.fn.cell
        have hn9 : n ≤ 50000 := by have := HmL.out; omega
        have ew2 : wrap64 ((n : Int) + 2) = (n : Int) + 2 := by unfold wrap64; omega
        clear hn9
        clear HXV HBAD HX1' HX2' HZ1' HZ2'
        by_cases hst : (n : Int) = wrap64 (2 * stop)
        · have ts : ((n : Int) == wrap64 (2 * stop)) = true := beq_iff_eq.2 hst
          clear hst
          gi_wp2_with fail
          clear cN fN cW cS cR fR cE y1 y2 t1 t2 ts
          refine rfT_N (K := KR Bs Bl so) (L := L) (l₀ := lp) (r₀ := r) rfl HR.out (by omega) (gf := 53) (lb := #[.pointer (some ⟨Bs, 0, none⟩), .pointer (some ⟨Bl, 0, none⟩)]) rfl trivial (enters_of Tryd.func53 (by kernel_rfl) rfl)
            (SeqStopsK.inRound lp (by rw [HLE.out]; exact runs_stops _ (by omega) Bs Bl t so sc (nrm l) W HKW.out.runs (nrm_nf _) (by have := nrm_len l; omega))) HKW.out.runs.lt (Below.refl _ _) rfl 2 17 18
            (fun pre' W' => pre' = [] ∧ Below W.heap.size W W')
            (fun _ W' => Below W.heap.size W W')
            (OwnFrom.and (ownFrom_pure _ _) (ownFrom_below (Nat.le_refl _) (Nat.le_refl _)))
            (ownFrom_below (Nat.le_refl _) (Nat.le_refl _))
            ⟨rfl, Below.refl _ _⟩ ?assign2 ?body2
            (fun W' => Below W.heap.size W W') (fun _ h => h.2) (fun _ _ _ h => h) (fun _ _ h => h) ?fin2
          case assign2 =>
            intro lp2 x W' K hK
            dsimp only [encR]
            gi_wp2
            refine Eq.mp (congrArg (fun a => K a W') ?_) hK
            simp [frT, encR]
          case body2 =>
            rintro lp2 pre2 xx W' hlp2 _ ⟨rfl, hB2⟩ hlt2
            have hK2 := HKW.out.below hB2
            obtain ⟨yy, hyy⟩ : ∃ y, L[0]? = some y := ⟨_, List.getElem?_eq_getElem hlt2⟩
            obtain ⟨gw2, hg2, _, u1, u2⟩ := hK2.cells 0 yy hyy
            injection hg2 with hg2
            injection hg2 with hg2 _ _
            subst hg2
            rw [Nat.mul_zero] at u1 u2
            rw [Nat.zero_add] at u2
            have HBAD := hid (show ¬ yy = xx → ¬ [] ++ [xx] <+: L from fun h => bad_nextT (pre := []) rfl hyy h)
            obtain ⟨x1', hx1⟩ : ∃ x1, xx.val.1 = x1 := ⟨_, rfl⟩
            obtain ⟨x2', hx2⟩ : ∃ x2, xx.val.2 = x2 := ⟨_, rfl⟩
            obtain ⟨z1', hz1⟩ : ∃ z1, yy.val.1 = z1 := ⟨_, rfl⟩
            obtain ⟨z2', hz2⟩ : ∃ z2, yy.val.2 = z2 := ⟨_, rfl⟩
            rw [hz1] at u1
            rw [hz2] at u2
            have HX1' := hid hx1
            have HX2' := hid hx2
            have HZ1' := hid hz1
            have HZ2' := hid hz2
            dsimp only [frT, encR]
            rw [hx1, hx2]
            have cW := hK2.want.cell
            have cR := hK2.res.cell
            have fR := hK2.res.frozen
            have HB2 := hid hB2
            clear hx1 hx2 hz1 hz2 hyy hK2 hB2
            by_cases e1 : x1' = z1'
            · by_cases e2 : x2' = z2'
              · subst e1 e2
                have t1 : ((x1' : Int) != (x1' : Int)) = false := by simp
                have t2 : ((x2' : Int) != (x2' : Int)) = false := by simp
                gi_wp2_with fail
                exact ⟨KeepsFrom.refl _ _, .inr ⟨rfl, HB2.out⟩⟩
              · have t1 : ((x2' : Int) != (z2' : Int)) = true := bne_iff_ne.2 (fun h => e2 (Int.ofNat.inj h))
                subst e1
                gi_wp2_with fail
                exact ⟨(KeepsOthers.setCell _ _ _).from _, .inl ⟨rfl, HBAD.out (fun e => e2 (by rw [← HX2'.out, ← HZ2'.out, e]))⟩⟩
            · have t1 : ((x1' : Int) != (z1' : Int)) = true := bne_iff_ne.2 (fun h => e1 (Int.ofNat.inj h))
              gi_wp2_with fail
              exact ⟨(KeepsOthers.setCell _ _ _).from _, .inl ⟨rfl, HBAD.out (fun e => e1 (by rw [← HX1'.out, ← HZ1'.out, e]))⟩⟩
          case fin2 =>
            intro W' hB2
            have bN2 : Boxed W' Bn 3 (.int .i64 n) := boxed_belowE HBN.out hB2 hWs
            have cN2 := bN2.cell
            have fN2 := bN2.frozen
            have HBN2 := hid bN2
            have HB2 := hid hB2
            clear bN2 hB2
            gi_wp2_with fail
            exact tailT (KpA.below HB2.out) HBN2.out (HB1'.out.trans (HB2.out.mono (by omega))) HN1.out HKRN.out hWs
        · have ts : ((n : Int) == wrap64 (2 * stop)) = false := beq_eq_false_iff_ne.2 hst
          clear hst
          gi_wp2_with fail
          exact tailT (KpA.refl _ _) HBN.out HB1'.out HN1.out HKRN.out hWs
      · have t1 : ((x2 : Int) != (z2 : Int)) = true := bne_iff_ne.2 (by omega)
        subst e1
        gi_wp2_with fail
        exact ⟨(KeepsOthers.setCell _ _ _).from _, .inl ⟨rfl, HBAD.out (fun e => e2 (by rw [← HX2'.out, ← HZ2'.out, e]))⟩⟩
    · have t1 : ((x1 : Int) != (z1 : Int)) = true := bne_iff_ne.2 (by omega)
      gi_wp2_with fail
      exact ⟨(KeepsOthers.setCell _ _ _).from _, .inl ⟨rfl, HBAD.out (fun e => e1 (by rw [← HX1'.out, ← HZ1'.out, e]))⟩⟩
  case fin0 =>
    rintro D W hD ⟨bN, hB⟩ hDK
    have hKz := HHK.out W hB
    have cN := bN.cell
    have cW := hKz.want.cell
    have HBW1 := hid (show Below w1.heap.size w1 W from HBk.out.trans (hB.mono hw1n))
    have HBW := hid (show Below w.heap.size w W from HBU.out.trans ((HB1.out.trans (HBW1.out.mono hs1)).mono (by omega)))
    have HKE := hid (kept_any _ g cap lo lc l W (HO1.out.below HBW1.out) (HL1.out.below HBW1.out) (by omega))
    have HDK := hid hDK
    have HKZ := hid hKz
    have hDs : D < W.heap.size := (Array.getElem?_eq_some_iff.1 hDK).1
    have hWs2 : 2 ≤ W.heap.size := by have := HBW.out.size; omega
    have HTW := hid (tabs_below HT.out h2 HBW.out)
    have t1 : (2 * (L.length : Int)) = (m : Int) := by have := HmL.out; omega
    clear hDK hKz bN hB
    gi_wp2_with fail
    refine ⟨trivial, (callsIn_wide.2 HKE.out).mono ?_⟩
    rintro e wb ⟨rfl, hbb⟩
    have HBb := hid hbb
    have hsb := hbb.size
    have HLV := hid (live_any wb (tabs_below HTW.out hWs2 hbb) (by omega))
    clear hbb HKE
    gi_wp2_with fail
    refine ⟨trivial, (callsIn_wide.2 HLV.out).mono ?_⟩
    rintro e wc ⟨rfl, hbc⟩
    have HBc := hid (HBb.out.trans (hbc.mono hsb))
    have cR := (HKZ.out.below HBc.out).res.cell
    have fR := (HKZ.out.below HBc.out).res.frozen
    clear hbc HLV HBb
    gi_wp2_with fail
    have hq0 : (wc.setCell ⟨w.heap.size + 1, 0, none⟩ (.bool true)).heap[D]? = some (.deferred (some [])) := (Below.heap_setCell _ _ _ _ (show D ≠ w.heap.size + 1 by omega)).trans ((HBc.out.block D hDs).trans HDK.out)
    have hc5 := (((HKZ.out.below HBc.out).res.set (.bool true)).kept (grownBy_putObj' _ D (.deferred none)) (fun e => by cases e; omega)).cell
    have hbf : Below w.heap.size w ((wc.setCell ⟨w.heap.size + 1, 0, none⟩ (.bool true)).putObj D (.deferred none)) :=
      (((HBW.out.trans (HBc.out.mono (by have := HBW.out.size; omega))).setCell (p := ⟨w.heap.size + 1, 0, none⟩) (by simp) _).trans (belowK_b (w := w) (Nat.le_refl _) _ D _ _ (by omega) hq0 rfl rfl))
    refine ⟨by simp, .inl ⟨_, _, rfl, run_takeDeferred hq0, ?_⟩⟩
    refine ⟨.bool true, ?_, rfl, hbf⟩
    simp [results, Tryd.f8, go_sem, hc5]

theorem text_walk (t : List UInt8) (lo : Option Addr) (lc : Nat) (l : List Rg) (stop : Int) (w : World) (hT : Lib.Utf8Tabs 0 1 w) (h2 : 2 ≤ w.heap.size) (hlc : lo = none → lc = 0) (hl : RdR w lo l) :
    Calls Tryd.prog 8 #[.string ⟨t.toArray⟩, .slice lo l.length lc, .int .i64 stop] w fun e w' => e = .returned (.bool true) ∧ Below w.heap.size w w' := by
  by_cases h1 : (20000 : Int) < t.length
  · exact callsIn_wide.1 (text_long t lo lc l stop w hT h2 (.inl h1))
  · by_cases h3 : (60 : Int) < l.length
    · exact callsIn_wide.1 (text_long t lo lc l stop w hT h2 (.inr h3))
    · exact callsIn_wide.1 (text_in t lo lc l stop w hT h2 hlc hl h1 h3)
end Go.Proofs.YtfahbdlcokoghaaDoor
