/- What lies in memory while runner works: its turns. -/
import Derived.Test.YteacehfihogmpaaDoorRunMem
import Derived.OwnWalk
namespace Go.Proofs.YteacehfihogmpaaDoor
open Go.RowKit

section
variable {w W W' : World} {N0 P wt ft ib pl n wy fy wcap fcap : Nat} {X : List (Nat × Array Value × TypeId)} {ws fs : Nat → Option Addr × Nat} {WL : List (List Wy)} {FL : List (List Int)} {sets : Int} {I PL : List Int} {wv : Value} {Wl : List Wy} {wf : Nat} {fv : Value} {Fl : List Int} {ff : Nat}
theorem own_cells {B e size m g cap : Nat} {xs : List Value} (h : W.ownsRow B e size (.slice (some ⟨g, 0, none⟩) m cap) m xs) : B ≤ g ∧ m ≤ cap ∧ ∃ c : Array Value, W.heap[g]? = some (.cells c e) ∧ c.size = cap * size ∧ ∀ o, o < m * size → c[o]? = xs[o]? := by
  rcases h.2 with ⟨hv, _⟩ | ⟨q, cap', cur, hv, hB, hg, hm, hcm, hcs, htk⟩
  · cases hv
  · simp only [Value.slice.injEq, Option.some.injEq, Addr.mk.injEq, and_true, true_and] at hv
    obtain ⟨rfl, rfl⟩ := hv
    refine ⟨hB, hm, cur, hg, hcs, fun o ho => ?_⟩
    rw [← htk, List.getElem?_take, if_pos ho, Array.getElem?_toList]
theorem below_grown {row g : Nat} (h : W.grownBy W' (some row)) (hg : g ≤ row) (hw : g ≤ W.heap.size) : Below g W W' := (Below.refl _ _).grown h hw (fun k e => by cases e; exact hg)
/-- One way more. -/
theorem RI.appW (h : RI w W N0 P wt ft ib pl n X ws fs WL FL sets I PL (.slice (some ⟨wy, 0, none⟩) Wl.length wcap) Wl wf fv Fl ff) (x : Wy) (gr : W.grownBy W' (some wy)) (o' : W'.ownsRow (N0 + 1) 135 2 (.slice (some ⟨wy, 0, none⟩) (Wl.length + 1) wcap) (Wl.length + 1) (wcs Wl ++ wyc x)) :
    RI w W' N0 P wt ft ib pl n X ws fs WL FL sets I PL (.slice (some ⟨wy, 0, none⟩) (Wl ++ [x]).length wcap) (Wl ++ [x]) wf fv Fl ff := by
  have hw := h.lw
  obtain ⟨hB, _, c0, g0, _, f0⟩ := own_cells h.oW
  have o'' : W'.ownsRow (N0 + 1) 135 2 (.slice (some ⟨wy, 0, none⟩) (Wl ++ [x]).length wcap) (Wl ++ [x]).length (wcs (Wl ++ [x])) := by
    rw [wcs_app, List.length_append]; exact o'
  obtain ⟨_, _, c1, g1, _, f1⟩ := own_cells o'
  refine h.ways (below_grown gr (by omega) (by have := h.N0le; omega)) (fun k hk hne => gr.block k hk hne) o'' (by rw [List.length_append]; omega) (.inl rfl) (fun k c hk hc => ?_)
  have e : wy = k := Option.some.inj hk
  subst e
  rw [g0] at hc
  injection hc with hc
  injection hc with hc
  subst hc
  refine ⟨c1, g1, fun o v ho hv => ?_⟩
  rw [f0 o (by omega)] at hv
  rw [f1 o (by omega), List.getElem?_append_left (by rw [wcs_len]; omega)]
  exact hv
theorem wcs_set {l : List Wy} {p m m' : Nat} {t : Int} (h : l[p]? = some (m, t)) : (wcs l).set (p * 2) (.int .u64 (m' : Int)) = wcs (l.set p (m', t)) := by
  induction l generalizing p with
  | nil => simp at h
  | cons y l ih =>
    cases p with
    | zero => simp at h; subst h; rfl
    | succ p =>
      have h' : l[p]? = some (m, t) := by simpa using h
      show (wyc y ++ wcs l).set ((p + 1) * 2) _ = wyc y ++ wcs (l.set p (m', t))
      rw [List.set_append_right _ _ (by show 2 ≤ _; omega), show (p + 1) * 2 - (wyc y).length = p * 2 by show (p + 1) * 2 - 2 = _; omega, ih h']
/-- Classes are added to a way. -/
theorem RI.orW (h : RI w W N0 P wt ft ib pl n X ws fs WL FL sets I PL (.slice (some ⟨wy, 0, none⟩) Wl.length wcap) Wl wf fv Fl ff) {p m : Nat} (m' : Nat) {t : Int} (hp : Wl[p]? = some (m, t)) (hf : wf ≤ p) :
    RI w (W.setCell ⟨wy, p * 2, none⟩ (.int .u64 (m' : Int))) N0 P wt ft ib pl n X ws fs WL FL sets I PL (.slice (some ⟨wy, 0, none⟩) (Wl.set p (m', t)).length wcap) (Wl.set p (m', t)) wf fv Fl ff := by
  have hw := h.lw
  have hpl := (List.getElem?_eq_some_iff.1 hp).1
  obtain ⟨hB, hmc, c0, g0, s0, f0⟩ := own_cells h.oW
  have hc1 := heap_setCell_same W wy (p * 2) c0 135 (.int .u64 (m' : Int)) g0
  refine h.ways (below_set (by show N0 < wy; omega)) (fun k hk hne => heap_setCell_other W _ k _ (fun e => hne (by rw [e]; rfl))) ?_ (by rw [List.length_set]; exact hw) (.inl rfl) (fun k c hk hc => ?_)
  · refine ⟨wcs_len _, .inr ⟨wy, wcap, _, rfl, hB, hc1, by rw [List.length_set]; exact hmc, ?_, ?_, ?_⟩⟩
    · rcases h.oW.2 with ⟨hv, _⟩ | ⟨q, cap', cur, hv, _, _, _, hcm, _⟩
      · cases hv
      · simp only [Value.slice.injEq, Option.some.injEq, Addr.mk.injEq, and_true, true_and] at hv
        rw [hv.2]; exact hcm
    · rw [Array.size_setIfInBounds]; exact s0
    · rw [← wcs_set hp, List.length_set, Array.toList_setIfInBounds, List.take_set]
      congr 1
      apply List.ext_getElem?
      intro o
      rw [List.getElem?_take]
      split
      · rename_i ho
        rw [Array.getElem?_toList]; exact f0 o ho
      · rename_i ho
        rw [List.getElem?_eq_none (by rw [wcs_len]; omega)]
  · have e : wy = k := Option.some.inj hk
    subst e
    rw [g0] at hc
    injection hc with hc
    injection hc with hc
    subst hc
    refine ⟨_, hc1, fun o v ho hv => ?_⟩
    rw [Array.getElem?_setIfInBounds, if_neg (by omega)]
    exact hv
/-- One free more. -/
theorem RI.appF (h : RI w W N0 P wt ft ib pl n X ws fs WL FL sets I PL wv Wl wf (.slice (some ⟨fy, 0, none⟩) Fl.length fcap) Fl ff) (x : Int) (gr : W.grownBy W' (some fy)) (o' : W'.ownsRow (N0 + 1) 3 1 (.slice (some ⟨fy, 0, none⟩) (Fl.length + 1) fcap) (Fl.length + 1) (i64s Fl ++ [.int .i64 x])) :
    RI w W' N0 P wt ft ib pl n X ws fs WL FL sets I PL wv Wl wf (.slice (some ⟨fy, 0, none⟩) (Fl ++ [x]).length fcap) (Fl ++ [x]) ff := by
  have hw := h.lf
  obtain ⟨hB, _, c0, g0, _, f0⟩ := own_cells h.oF
  have o'' : W'.ownsRow (N0 + 1) 3 1 (.slice (some ⟨fy, 0, none⟩) (Fl ++ [x]).length fcap) (Fl ++ [x]).length (i64s (Fl ++ [x])) := by
    rw [i64s_snoc, List.length_append]; exact o'
  obtain ⟨_, _, c1, g1, _, f1⟩ := own_cells o'
  refine h.frees (below_grown gr (by omega) (by have := h.N0le; omega)) (fun k hk hne => gr.block k hk hne) o'' (by rw [List.length_append]; omega) (.inl rfl) (fun k c hk hc => ?_)
  have e : fy = k := Option.some.inj hk
  subst e
  rw [g0] at hc
  injection hc with hc
  injection hc with hc
  subst hc
  refine ⟨c1, g1, fun o v ho hv => ?_⟩
  rw [f0 o (by omega)] at hv
  rw [f1 o (by omega), List.getElem?_append_left (by rw [i64s_len]; omega)]
  exact hv
def up (f : Nat → Option Addr × Nat) (k : Nat) (x : Option Addr × Nat) : Nat → Option Addr × Nat := fun j => if j = k then x else f j
theorem up_self (f : Nat → Option Addr × Nat) (k : Nat) (x : Option Addr × Nat) : up f k x k = x := by simp [up]
theorem up_other {f : Nat → Option Addr × Nat} {k j : Nat} {x : Option Addr × Nat} (h : j ≠ k) : up f k x j = f j := by simp [up, h]
theorem snoc_cases {α : Type} {l : List α} {x y : α} {k : Nat} (h : (l ++ [x])[k]? = some y) : (k < l.length ∧ l[k]? = some y) ∨ (k = l.length ∧ y = x) := by
  by_cases hk : k < l.length
  · rw [List.getElem?_append_left hk] at h; exact .inl ⟨hk, h⟩
  · right
    rw [List.getElem?_append_right (by omega)] at h
    have := (List.getElem?_eq_some_iff.1 h).1
    have hk' : k = l.length := by simp at this; omega
    subst hk'
    simp at h
    exact ⟨rfl, h.symm⟩
/-- The ways of a state are told. -/
theorem RI.setT (h : RI w W N0 P wt ft ib pl n X ws fs WL FL sets I PL (.slice (some ⟨wy, 0, none⟩) Wl.length wcap) Wl wf fv Fl ff) (ao : Option Addr) (cap m : Nat) (hm : m = Wl.length - wf) (ha : 0 < m → ao = some ⟨wy, wf * 2, none⟩) (hn : WL.length < n) (hmo : Wl.length ≤ most) :
    RI w (W.setCell ⟨wt, WL.length, none⟩ (.slice ao m cap)) N0 P wt ft ib pl n X (up ws WL.length (ao, cap)) fs (WL ++ [Wl.drop wf]) FL sets I PL (.slice (some ⟨wy, 0, none⟩) Wl.length wcap) Wl Wl.length fv Fl ff := by
  obtain ⟨c, t1, t2, t3⟩ := h.hT
  obtain ⟨d, u1, u2⟩ := h.hU
  obtain ⟨hB, hmc, c0, g0, s0, f0⟩ := own_cells h.oW
  have hgl : (Wl.drop wf).length = m := by rw [List.length_drop]; exact hm.symm
  have ho : ∀ k, k ≠ wt → (W.setCell ⟨wt, WL.length, none⟩ (.slice ao m cap)).heap[k]? = W.heap[k]? := fun k hk => heap_setCell_other W _ k _ hk
  refine ⟨h.low.trans (below_set h.gW), by simpa using h.ge, fun b c T hm => ⟨(ho _ (ne_type (h.ex b c T hm).1 t1 (h.ex b c T hm).2.2.2.2.1)).trans (h.ex b c T hm).1, (h.ex b c T hm).2⟩, (ho _ (ne_type h.hP t1 (by decide))).trans h.hP, (ho _ (ne_type h.hI t1 (by decide))).trans h.hI, (ho _ (ne_type h.hL t1 (by decide))).trans h.hL, h.lI, h.lP, ?_, ⟨d, (ho _ (ne_type u1 t1 (by decide))).trans u1, u2⟩, own_same h.oW fun k hk _ => ?_, own_same h.oF fun k hk _ => ?_, fun k g hg => ?_, fun k g hg => ⟨(h.pF k g hg).1, fun j x hx => ?_⟩, h.fi, h.fp, h.ip, h.gP, h.gW, h.gF, h.gI, h.gL, Nat.le_refl _, h.lf⟩
  · refine ⟨_, heap_setCell_same W wt WL.length c 133 _ t1, by rw [Array.size_setIfInBounds]; exact t2, fun k g hg => ?_⟩
    rcases snoc_cases hg with ⟨hk, hg'⟩ | ⟨rfl, rfl⟩
    · rw [Array.getElem?_setIfInBounds, if_neg (by omega), up_other (by omega)]
      exact t3 k g hg'
    · rw [Array.getElem?_setIfInBounds, if_pos rfl, if_pos (by omega), up_self, hgl]
  · obtain ⟨e, h1⟩ := own_type h.oW hk
    exact ho k (ne_type h1 t1 (by decide))
  · obtain ⟨e, h1⟩ := own_type h.oF hk
    exact ho k (ne_type h1 t1 (by decide))
  · rcases snoc_cases hg with ⟨hk, hg'⟩ | ⟨rfl, rfl⟩
    · refine ⟨(h.pW k g hg').1, fun j x hx => ?_⟩
      rw [up_other (by omega)]
      obtain ⟨b, o, c, h1, h2, h3, h4, h5, h6⟩ := (h.pW k g hg').2 j x hx
      exact ⟨b, o, c, h1, (ho _ (ne_type h2 t1 (by decide))).trans h2, h3, h4, h5, fun e => by have := h6 e; have := h.lw; omega⟩
    · refine ⟨by omega, fun j x hx => ?_⟩
      have hj := (List.getElem?_eq_some_iff.1 hx).1
      rw [List.getElem?_drop] at hx
      have hw := wcs_at hx
      have hjl := (List.getElem?_eq_some_iff.1 hx).1
      rw [up_self]
      refine ⟨wy, wf * 2, c0, ha (by omega), (ho _ (ne_type g0 t1 (by decide))).trans g0, by omega, ?_, ?_, fun _ => by omega⟩
      · rw [f0 _ (by omega), show wf * 2 + j * 2 = (wf + j) * 2 by omega]; exact hw.1
      · rw [f0 _ (by omega), show wf * 2 + j * 2 + 1 = (wf + j) * 2 + 1 by omega]; exact hw.2
  · obtain ⟨b, o, c, h1, h2, h3⟩ := (h.pF k g hg).2 j x hx
    exact ⟨b, o, c, h1, (ho _ (ne_type h2 t1 (by decide))).trans h2, h3⟩
/-- The frees of a state are told. -/
theorem RI.setU (h : RI w W N0 P wt ft ib pl n X ws fs WL FL sets I PL wv Wl wf (.slice (some ⟨fy, 0, none⟩) Fl.length fcap) Fl ff) (ao : Option Addr) (cap m : Nat) (hm : m = Fl.length - ff) (ha : 0 < m → ao = some ⟨fy, ff, none⟩) (hn : FL.length < n) (hmo : Fl.length ≤ most) :
    RI w (W.setCell ⟨ft, FL.length, none⟩ (.slice ao m cap)) N0 P wt ft ib pl n X ws (up fs FL.length (ao, cap)) WL (FL ++ [Fl.drop ff]) sets I PL wv Wl wf (.slice (some ⟨fy, 0, none⟩) Fl.length fcap) Fl Fl.length := by
  obtain ⟨d, u1, u2⟩ := h.hT
  obtain ⟨c, t1, t2, t3⟩ := h.hU
  obtain ⟨hB, hmc, c0, g0, s0, f0⟩ := own_cells h.oF
  have hgl : (Fl.drop ff).length = m := by rw [List.length_drop]; exact hm.symm
  have ho : ∀ k, k ≠ ft → (W.setCell ⟨ft, FL.length, none⟩ (.slice ao m cap)).heap[k]? = W.heap[k]? := fun k hk => heap_setCell_other W _ k _ hk
  refine ⟨h.low.trans (below_set h.gF), by simpa using h.ge, fun b c T hm => ⟨(ho _ (ne_type (h.ex b c T hm).1 t1 (h.ex b c T hm).2.2.2.2.2.1)).trans (h.ex b c T hm).1, (h.ex b c T hm).2⟩, (ho _ (ne_type h.hP t1 (by decide))).trans h.hP, (ho _ (ne_type h.hI t1 (by decide))).trans h.hI, (ho _ (ne_type h.hL t1 (by decide))).trans h.hL, h.lI, h.lP, ⟨d, (ho _ (ne_type u1 t1 (by decide))).trans u1, u2⟩, ?_, own_same h.oW fun k hk _ => ?_, own_same h.oF fun k hk _ => ?_, fun k g hg => ⟨(h.pW k g hg).1, fun j x hx => ?_⟩, fun k g hg => ?_, h.fi, h.fp, h.ip, h.gP, h.gW, h.gF, h.gI, h.gL, h.lw, Nat.le_refl _⟩
  · refine ⟨_, heap_setCell_same W ft FL.length c 22 _ t1, by rw [Array.size_setIfInBounds]; exact t2, fun k g hg => ?_⟩
    rcases snoc_cases hg with ⟨hk, hg'⟩ | ⟨rfl, rfl⟩
    · rw [Array.getElem?_setIfInBounds, if_neg (by omega), up_other (by omega)]
      exact t3 k g hg'
    · rw [Array.getElem?_setIfInBounds, if_pos rfl, if_pos (by omega), up_self, hgl]
  · obtain ⟨e, h1⟩ := own_type h.oW hk
    exact ho k (ne_type h1 t1 (by decide))
  · obtain ⟨e, h1⟩ := own_type h.oF hk
    exact ho k (ne_type h1 t1 (by decide))
  · obtain ⟨b, o, c, h1, h2, h3⟩ := (h.pW k g hg).2 j x hx
    exact ⟨b, o, c, h1, (ho _ (ne_type h2 t1 (by decide))).trans h2, h3⟩
  · rcases snoc_cases hg with ⟨hk, hg'⟩ | ⟨rfl, rfl⟩
    · refine ⟨(h.pF k g hg').1, fun j x hx => ?_⟩
      rw [up_other (by omega)]
      obtain ⟨b, o, c, h1, h2, h3, h4, h5, h6, h7⟩ := (h.pF k g hg').2 j x hx
      exact ⟨b, o, c, h1, (ho _ (ne_type h2 t1 (by decide))).trans h2, h3, h4, h5, h6, fun e => by have := h7 e; have := h.lf; omega⟩
    · refine ⟨by omega, fun j x hx => ?_⟩
      have hj := (List.getElem?_eq_some_iff.1 hx).1
      rw [List.getElem?_drop] at hx
      have hjl := (List.getElem?_eq_some_iff.1 hx).1
      rw [up_self]
      refine ⟨fy, ff, c0, ha (by omega), (ho _ (ne_type g0 t1 (by decide))).trans g0, by omega, fun e => h.fi (by rw [e]; rfl), fun e => h.fp (by rw [e]; rfl), ?_, fun _ => by omega⟩
      rw [f0 _ (by omega), i64s_at, hx]; rfl
theorem RI.c0 (h : RI w W N0 P wt ft ib pl n X ws fs WL FL sets I PL wv Wl wf fv Fl ff) : W.cell? ⟨P, 0, none⟩ = some (.slice (some ⟨wt, 0, none⟩) n n) := by rw [cell_of_row W P 0 _ 132 (0, 0) h.hP]; rfl
theorem RI.c1 (h : RI w W N0 P wt ft ib pl n X ws fs WL FL sets I PL wv Wl wf fv Fl ff) : W.cell? ⟨P, 1, none⟩ = some (.slice (some ⟨ft, 0, none⟩) n n) := by rw [cell_of_row W P 1 _ 132 (0, 0) h.hP]; rfl
theorem RI.c2 (h : RI w W N0 P wt ft ib pl n X ws fs WL FL sets I PL wv Wl wf fv Fl ff) : W.cell? ⟨P, 2, none⟩ = some (.slice (some ⟨ib, 0, none⟩) n n) := by rw [cell_of_row W P 2 _ 132 (0, 0) h.hP]; rfl
theorem RI.c3 (h : RI w W N0 P wt ft ib pl n X ws fs WL FL sets I PL wv Wl wf fv Fl ff) : W.cell? ⟨P, 3, none⟩ = some (.int .i64 sets) := by rw [cell_of_row W P 3 _ 132 (0, 0) h.hP]; rfl
theorem RI.fP (h : RI w W N0 P wt ft ib pl n X ws fs WL FL sets I PL wv Wl wf fv Fl ff) (k : Nat) : W.frozen? ⟨P, k, none⟩ = false := frozen_of_row W P k _ 132 h.hP
theorem RI.fI (h : RI w W N0 P wt ft ib pl n X ws fs WL FL sets I PL wv Wl wf fv Fl ff) (k : Nat) : W.frozen? ⟨ib, k, none⟩ = false := frozen_of_row W ib k _ 3 h.hI
theorem RI.fL (h : RI w W N0 P wt ft ib pl n X ws fs WL FL sets I PL wv Wl wf fv Fl ff) (k : Nat) : W.frozen? ⟨pl, k, none⟩ = false := frozen_of_row W pl k _ 3 h.hL
theorem RI.fT (h : RI w W N0 P wt ft ib pl n X ws fs WL FL sets I PL wv Wl wf fv Fl ff) (k : Nat) : W.frozen? ⟨wt, k, none⟩ = false := by
  obtain ⟨c, h1, _⟩ := h.hT
  exact frozen_of_row W wt k _ 133 h1
theorem RI.fU (h : RI w W N0 P wt ft ib pl n X ws fs WL FL sets I PL wv Wl wf fv Fl ff) (k : Nat) : W.frozen? ⟨ft, k, none⟩ = false := by
  obtain ⟨c, h1, _⟩ := h.hU
  exact frozen_of_row W ft k _ 22 h1
theorem RI.fW (h : RI w W N0 P wt ft ib pl n X ws fs WL FL sets I PL (.slice (some ⟨wy, 0, none⟩) Wl.length wcap) Wl wf fv Fl ff) (k : Nat) : W.frozen? ⟨wy, k, none⟩ = false := by
  obtain ⟨_, _, c, h1, _⟩ := own_cells h.oW
  exact frozen_of_row W wy k _ 135 h1
theorem RI.ci (h : RI w W N0 P wt ft ib pl n X ws fs WL FL sets I PL wv Wl wf fv Fl ff) {t : Nat} {z : Int} (ht : I[t]? = some z) : W.cell? ⟨ib, t, none⟩ = some (.int .i64 z) := by
  rw [cell_of_row W ib t _ 3 (0, 0) h.hI, List.getElem?_toArray, i64s_at, ht]; rfl
theorem RI.cl (h : RI w W N0 P wt ft ib pl n X ws fs WL FL sets I PL wv Wl wf fv Fl ff) {t : Nat} {z : Int} (ht : PL[t]? = some z) : W.cell? ⟨pl, t, none⟩ = some (.int .i64 z) := by
  rw [cell_of_row W pl t _ 3 (0, 0) h.hL, List.getElem?_toArray, i64s_at, ht]; rfl
theorem RI.cw (h : RI w W N0 P wt ft ib pl n X ws fs WL FL sets I PL (.slice (some ⟨wy, 0, none⟩) Wl.length wcap) Wl wf fv Fl ff) {p : Nat} {x : Wy} (hp : Wl[p]? = some x) : W.cell? ⟨wy, p * 2, none⟩ = some (.int .u64 x.1) := by
  obtain ⟨_, _, c, h1, _, h2⟩ := own_cells h.oW
  have hl := (List.getElem?_eq_some_iff.1 hp).1
  rw [cell_of_row W wy (p * 2) _ 135 (0, 0) h1, h2 _ (by omega)]
  exact (wcs_at hp).1
/-- What the cells behind the walk's turns say: any slot of wt and ft is there to be written. -/
theorem RI.ct (h : RI w W N0 P wt ft ib pl n X ws fs WL FL sets I PL wv Wl wf fv Fl ff) {k : Nat} (hk : k < n) : ∃ v, W.cell? ⟨wt, k, none⟩ = some v := by
  obtain ⟨c, h1, h2, _⟩ := h.hT
  exact ⟨c[k], by rw [cell_of_row W wt k _ 133 (0, 0) h1, Array.getElem?_eq_getElem (by omega)]⟩
theorem RI.cu (h : RI w W N0 P wt ft ib pl n X ws fs WL FL sets I PL wv Wl wf fv Fl ff) {k : Nat} (hk : k < n) : ∃ v, W.cell? ⟨ft, k, none⟩ = some v := by
  obtain ⟨c, h1, h2, _⟩ := h.hU
  exact ⟨c[k], by rw [cell_of_row W ft k _ 22 (0, 0) h1, Array.getElem?_eq_getElem (by omega)]⟩
/-- The machine that is left. -/
theorem RI.done (h : RI w W N0 P wt ft ib pl n X ws fs WL FL sets I PL wv Wl wf fv Fl ff) (hw : WL.length = n) (hf : FL.length = n) : MAt W.heap.size W P wt ft ib n ws fs WL FL I sets := by
  obtain ⟨c, t1, t2, t3⟩ := h.hT
  obtain ⟨d, u1, u2, u3⟩ := h.hU
  refine ⟨Nat.le_refl _, lt_of h.hP, lt_of h.hI, lt_of t1, lt_of u1, ne_type h.hP h.hI (by decide), ne_type t1 h.hP (by decide), ne_type t1 h.hI (by decide), ne_type u1 h.hP (by decide), ne_type u1 h.hI (by decide), h.hP, h.hI, h.lI, hw, hf, fun k g hg => ⟨?_, (h.pW k g hg).1, fun j x hx => ?_⟩, fun k g hg => ⟨?_, (h.pF k g hg).1, fun j x hx => ?_⟩⟩
  · rw [cell_of_row W wt k _ 133 (0, 0) t1]; exact t3 k g hg
  · obtain ⟨b, o, c, h1, h2, h3, h4, h5, _⟩ := (h.pW k g hg).2 j x hx
    refine ⟨_, h1, ne_type h2 h.hP (by decide), ne_type h2 h.hI (by decide), lt_of h2, ?_, ?_⟩
    · rw [Addr.add_lit, cell_of_row W b _ _ 135 (0, 0) h2]; exact h4
    · rw [Addr.add_lit]
      show W.cell? ⟨b, o + j * 2 + 1, none⟩ = _
      rw [cell_of_row W b _ _ 135 (0, 0) h2]; exact h5
  · rw [cell_of_row W ft k _ 22 (0, 0) u1]; exact u3 k g hg
  · obtain ⟨b, o, c, h1, h2, h3, h4, h5, h6, _⟩ := (h.pF k g hg).2 j x hx
    refine ⟨_, h1, ne_type h2 h.hP (by decide), h4, lt_of h2, ?_⟩
    rw [Addr.add_lit, cell_of_row W b _ _ 3 (0, 0) h2]; exact h6
end
end Go.Proofs.YteacehfihogmpaaDoor
