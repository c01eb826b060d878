/- What lies in memory while runner (package nfa) works. -/
import Derived.Test.YteacehfihogmpaaDoorStep
import Derived.Test.YteacehfihogmpaaDoorRunMath
namespace Go.Proofs.YteacehfihogmpaaDoor
open Go.RowKit

def wyc (x : Wy) : List Value := [.int .u64 x.1, .int .i64 x.2]
def wcs (l : List Wy) : List Value := l.flatMap wyc
theorem wcs_len (l : List Wy) : (wcs l).length = l.length * 2 := by
  induction l with
  | nil => rfl
  | cons x l ih => show (wyc x ++ wcs l).length = _; rw [List.length_append, ih]; simp [wyc]; omega
theorem wcs_app (a b : List Wy) : wcs (a ++ b) = wcs a ++ wcs b := by simp [wcs]
theorem wcs_at {l : List Wy} {k : Nat} {x : Wy} (h : l[k]? = some x) : (wcs l)[k * 2]? = some (.int .u64 x.1) ∧ (wcs l)[k * 2 + 1]? = some (.int .i64 x.2) := by
  induction l generalizing k with
  | nil => simp at h
  | cons y l ih =>
    cases k with
    | zero => simp at h; subst h; exact ⟨rfl, rfl⟩
    | succ k =>
      have h' : l[k]? = some x := by simpa using h
      have := ih h'
      show ((wyc y ++ wcs l)[(k + 1) * 2]? = _) ∧ ((wyc y ++ wcs l)[(k + 1) * 2 + 1]? = _)
      have hl : (wyc y).length = 2 := rfl
      rw [List.getElem?_append_right (by omega), List.getElem?_append_right (by omega), hl, show (k + 1) * 2 - 2 = k * 2 by omega, show (k + 1) * 2 + 1 - 2 = k * 2 + 1 by omega]
      exact this
theorem ne_type {W : World} {a b : Nat} {c c' : Array Value} {T T' : TypeId} {f f' : Nat × Nat} (ha : W.heap[a]? = some (.cells c T f)) (hb : W.heap[b]? = some (.cells c' T' f')) (h : T ≠ T') : a ≠ b := by
  intro e
  subst e
  rw [ha] at hb
  injection hb with h1
  injection h1 with _ h2
  exact h h2
/-- What lies there: what is boxed, the machine at P with its rows, the places, all ways and frees so far; parts of them are those of states that are done. -/
structure RI (w W : World) (N0 P wt ft ib pl n : Nat) (X : List (Nat × Array Value × TypeId)) (ws fs : Nat → Option Addr × Nat) (WL : List (List Wy)) (FL : List (List Int)) (sets : Int) (I PL : List Int) (wv : Value) (Wl : List Wy) (wf : Nat) (fv : Value) (Fl : List Int) (ff : Nat) : Prop where
  low : Below N0 w W
  ge : N0 < W.heap.size
  ex : ∀ (b : Nat) (c : Array Value) (T : TypeId), (b, c, T) ∈ X → W.heap[b]? = some (.cells c T) ∧ N0 ≤ b ∧ T ≠ 132 ∧ T ≠ 3 ∧ T ≠ 133 ∧ T ≠ 22 ∧ T ≠ 135
  hP : W.heap[P]? = some (.cells #[.slice (some ⟨wt, 0, none⟩) n n, .slice (some ⟨ft, 0, none⟩) n n, .slice (some ⟨ib, 0, none⟩) n n, .int .i64 sets] 132)
  hI : W.heap[ib]? = some (.cells (i64s I).toArray 3)
  hL : W.heap[pl]? = some (.cells (i64s PL).toArray 3)
  lI : I.length = n
  lP : PL.length = n
  hT : ∃ c : Array Value, W.heap[wt]? = some (.cells c 133) ∧ c.size = n ∧ ∀ (k : Nat) (g : List Wy), WL[k]? = some g → c[k]? = some (.slice (ws k).1 g.length (ws k).2)
  hU : ∃ c : Array Value, W.heap[ft]? = some (.cells c 22) ∧ c.size = n ∧ ∀ (k : Nat) (g : List Int), FL[k]? = some g → c[k]? = some (.slice (fs k).1 g.length (fs k).2)
  oW : W.ownsRow (N0 + 1) 135 2 wv Wl.length (wcs Wl)
  oF : W.ownsRow (N0 + 1) 3 1 fv Fl.length (i64s Fl)
  pW : ∀ (k : Nat) (g : List Wy), WL[k]? = some g → g.length ≤ most ∧ ∀ (j : Nat) (x : Wy), g[j]? = some x → ∃ (b o : Nat) (c : Array Value), (ws k).1 = some ⟨b, o, none⟩ ∧ W.heap[b]? = some (.cells c 135) ∧ N0 < b ∧ c[o + j * 2]? = some (.int .u64 x.1) ∧ c[o + j * 2 + 1]? = some (.int .i64 x.2) ∧ (wv.ownBlock = some b → o + j * 2 + 2 ≤ wf * 2)
  pF : ∀ (k : Nat) (g : List Int), FL[k]? = some g → g.length ≤ most ∧ ∀ (j : Nat) (x : Int), g[j]? = some x → ∃ (b o : Nat) (c : Array Value), (fs k).1 = some ⟨b, o, none⟩ ∧ W.heap[b]? = some (.cells c 3) ∧ N0 < b ∧ b ≠ ib ∧ b ≠ pl ∧ c[o + j]? = some (.int .i64 x) ∧ (fv.ownBlock = some b → o + j + 1 ≤ ff)
  fi : fv.ownBlock ≠ some ib
  fp : fv.ownBlock ≠ some pl
  ip : ib ≠ pl
  gP : N0 < P
  gW : N0 < wt
  gF : N0 < ft
  gI : N0 < ib
  gL : N0 < pl
  lw : wf ≤ Wl.length
  lf : ff ≤ Fl.length
section
variable {w W W' : World} {N0 P wt ft ib pl n : Nat} {X : List (Nat × Array Value × TypeId)} {ws fs : Nat → Option Addr × Nat} {WL : List (List Wy)} {FL : List (List Int)} {sets : Int} {I PL : List Int} {wv : Value} {Wl : List Wy} {wf : Nat} {fv : Value} {Fl : List Int} {ff : Nat}
theorem lt_of {W : World} {k : Nat} {o : Obj} (h : W.heap[k]? = some o) : k < W.heap.size := (Array.getElem?_eq_some_iff.1 h).1
theorem own_same {W W' : World} {B e size m : Nat} {v : Value} {xs : List Value} (h : W.ownsRow B e size v m xs) (hh : ∀ k, v.ownBlock = some k → k < W.heap.size → W'.heap[k]? = W.heap[k]?) : W'.ownsRow B e size v m xs := by
  refine ⟨h.1, ?_⟩
  rcases h.2 with h' | ⟨q, cap, cur, hv, hB, hg, rest⟩
  · exact .inl h'
  · exact .inr ⟨q, cap, cur, hv, hB, (hh q (by rw [hv]; rfl) (lt_of hg)).trans hg, rest⟩
theorem own_type {W : World} {B e size m : Nat} {v : Value} {xs : List Value} (h : W.ownsRow B e size v m xs) {k : Nat} (hk : v.ownBlock = some k) : ∃ c, W.heap[k]? = some (.cells c e) := by
  rcases h.2 with ⟨rfl, _⟩ | ⟨q, cap, cur, rfl, hB, hg, _⟩
  · cases hk
  · cases hk; exact ⟨cur, hg⟩
/-- All old blocks are the same. -/
theorem RI.keep (h : RI w W N0 P wt ft ib pl n X ws fs WL FL sets I PL wv Wl wf fv Fl ff) (hb : Below N0 W W') (hh : ∀ k, k < W.heap.size → W'.heap[k]? = W.heap[k]?) : RI w W' N0 P wt ft ib pl n X ws fs WL FL sets I PL wv Wl wf fv Fl ff := by
  refine ⟨h.low.trans hb, Nat.lt_of_lt_of_le h.ge hb.size, fun b c T hm => ⟨(hh _ (lt_of (h.ex b c T hm).1)).trans (h.ex b c T hm).1, (h.ex b c T hm).2⟩, (hh _ (lt_of h.hP)).trans h.hP, (hh _ (lt_of h.hI)).trans h.hI, (hh _ (lt_of h.hL)).trans h.hL, h.lI, h.lP, ?_, ?_, own_same h.oW fun k _ hk => hh k hk, own_same h.oF fun k _ hk => hh k hk, fun k g hg => ⟨(h.pW k g hg).1, fun j x hx => ?_⟩, fun k g hg => ⟨(h.pF k g hg).1, fun j x hx => ?_⟩, h.fi, h.fp, h.ip, h.gP, h.gW, h.gF, h.gI, h.gL, h.lw, h.lf⟩
  · obtain ⟨c, h1, h2⟩ := h.hT
    exact ⟨c, (hh _ (lt_of h1)).trans h1, h2⟩
  · obtain ⟨c, h1, h2⟩ := h.hU
    exact ⟨c, (hh _ (lt_of h1)).trans h1, h2⟩
  · obtain ⟨b, o, c, h1, h2, h3⟩ := (h.pW k g hg).2 j x hx
    exact ⟨b, o, c, h1, (hh _ (lt_of h2)).trans h2, h3⟩
  · obtain ⟨b, o, c, h1, h2, h3⟩ := (h.pF k g hg).2 j x hx
    exact ⟨b, o, c, h1, (hh _ (lt_of h2)).trans h2, h3⟩
theorem RI.N0le (h : RI w W N0 P wt ft ib pl n X ws fs WL FL sets I PL wv Wl wf fv Fl ff) : N0 + 1 ≤ W.heap.size := h.ge
theorem RI.alloc (h : RI w W N0 P wt ft ib pl n X ws fs WL FL sets I PL wv Wl wf fv Fl ff) (o : Obj) : RI w (W.alloc o) N0 P wt ft ib pl n X ws fs WL FL sets I PL wv Wl wf fv Fl ff :=
  h.keep ((Below.refl _ _).alloc (by have := h.N0le; omega) _) fun k hk => (World.grownBy_alloc W o none).block k hk (by simp)
theorem RI.add (h : RI w W N0 P wt ft ib pl n X ws fs WL FL sets I PL wv Wl wf fv Fl ff) (c : Array Value) (T : TypeId) (hT : T ≠ 132 ∧ T ≠ 3 ∧ T ≠ 133 ∧ T ≠ 22 ∧ T ≠ 135) : RI w (W.alloc (.cells c T)) N0 P wt ft ib pl n ((W.heap.size, c, T) :: X) ws fs WL FL sets I PL wv Wl wf fv Fl ff := by
  have hx : ∀ (b : Nat) (c' : Array Value) (T' : TypeId), (b, c', T') ∈ (W.heap.size, c, T) :: X → (W.alloc (.cells c T)).heap[b]? = some (.cells c' T') ∧ N0 ≤ b ∧ T' ≠ 132 ∧ T' ≠ 3 ∧ T' ≠ 133 ∧ T' ≠ 22 ∧ T' ≠ 135 := fun b c' T' hm => by
    rcases List.mem_cons.1 hm with e | hm
    · injection e with e1 e2
      injection e2 with e2 e3
      subst e1 e2 e3
      exact ⟨heap_alloc_new W _, by have := h.ge; omega, hT⟩
    · exact (h.alloc (.cells c T)).ex b c' T' hm
  exact { h.alloc (.cells c T) with ex := hx }
theorem RI.sub {Y : List (Nat × Array Value × TypeId)} (h : RI w W N0 P wt ft ib pl n X ws fs WL FL sets I PL wv Wl wf fv Fl ff) (hY : ∀ x ∈ Y, x ∈ X) : RI w W N0 P wt ft ib pl n Y ws fs WL FL sets I PL wv Wl wf fv Fl ff :=
  { h with ex := fun b c T hm => h.ex b c T (hY _ hm) }
theorem RI.cx (h : RI w W N0 P wt ft ib pl n X ws fs WL FL sets I PL wv Wl wf fv Fl ff) {b : Nat} {c : Array Value} {T : TypeId} (hm : (b, c, T) ∈ X) (k : Nat) {v : Value} (hv : c[k]? = some v) : W.cell? ⟨b, k, none⟩ = some v := by
  rw [cell_of_row W b k c T (0, 0) (h.ex b c T hm).1]; exact hv
theorem RI.drew (h : RI w W N0 P wt ft ib pl n X ws fs WL FL sets I PL wv Wl wf fv Fl ff) (k : Nat) : RI w (W.drewN k) N0 P wt ft ib pl n X ws fs WL FL sets I PL wv Wl wf fv Fl ff :=
  h.keep (below_drN (Below.refl _ _) k) fun _ _ => rfl
theorem RI.drew1 (h : RI w W N0 P wt ft ib pl n X ws fs WL FL sets I PL wv Wl wf fv Fl ff) : RI w W.drew N0 P wt ft ib pl n X ws fs WL FL sets I PL wv Wl wf fv Fl ff :=
  h.keep (show Below N0 W W.drew from (Below.refl _ _).drew) fun _ _ => rfl
theorem below_set {W : World} {a : Addr} {v : Value} (h : N0 < a.block) : Below N0 W (W.setCell a v) := (Below.refl _ _).setCell (by omega) v
/-- The number of the last set. -/
theorem RI.setS (h : RI w W N0 P wt ft ib pl n X ws fs WL FL sets I PL wv Wl wf fv Fl ff) (z : Int) : RI w (W.setCell ⟨P, 3, none⟩ (.int .i64 z)) N0 P wt ft ib pl n X ws fs WL FL z I PL wv Wl wf fv Fl ff := by
  have ho : ∀ k, k ≠ P → (W.setCell ⟨P, 3, none⟩ (.int .i64 z)).heap[k]? = W.heap[k]? := fun k hk => heap_setCell_other W _ k _ hk
  obtain ⟨c, t1, t2⟩ := h.hT
  obtain ⟨d, u1, u2⟩ := h.hU
  refine ⟨h.low.trans (below_set h.gP), by simpa using h.ge, fun b c T hm => ⟨(ho _ (ne_type (h.ex b c T hm).1 h.hP (h.ex b c T hm).2.2.1)).trans (h.ex b c T hm).1, (h.ex b c T hm).2⟩, ?_, (ho _ (ne_type h.hI h.hP (by decide))).trans h.hI, (ho _ (ne_type h.hL h.hP (by decide))).trans h.hL, h.lI, h.lP, ⟨c, (ho _ (ne_type t1 h.hP (by decide))).trans t1, t2⟩, ⟨d, (ho _ (ne_type u1 h.hP (by decide))).trans u1, u2⟩, own_same h.oW fun k hk _ => ?_, own_same h.oF fun k hk _ => ?_, fun k g hg => ⟨(h.pW k g hg).1, fun j x hx => ?_⟩, fun k g hg => ⟨(h.pF k g hg).1, fun j x hx => ?_⟩, h.fi, h.fp, h.ip, h.gP, h.gW, h.gF, h.gI, h.gL, h.lw, h.lf⟩
  · rw [heap_setCell_same W P 3 _ 132 _ h.hP]; rfl
  · obtain ⟨e, h1⟩ := own_type h.oW hk
    exact ho k (ne_type h1 h.hP (by decide))
  · obtain ⟨e, h1⟩ := own_type h.oF hk
    exact ho k (ne_type h1 h.hP (by decide))
  · obtain ⟨b, o, c, h1, h2, h3⟩ := (h.pW k g hg).2 j x hx
    exact ⟨b, o, c, h1, (ho _ (ne_type h2 h.hP (by decide))).trans h2, h3⟩
  · obtain ⟨b, o, c, h1, h2, h3⟩ := (h.pF k g hg).2 j x hx
    exact ⟨b, o, c, h1, (ho _ (ne_type h2 h.hP (by decide))).trans h2, h3⟩
/-- A mark. -/
theorem RI.setI (h : RI w W N0 P wt ft ib pl n X ws fs WL FL sets I PL wv Wl wf fv Fl ff) (t : Nat) (z : Int) : RI w (W.setCell ⟨ib, t, none⟩ (.int .i64 z)) N0 P wt ft ib pl n X ws fs WL FL sets (I.set t z) PL wv Wl wf fv Fl ff := by
  have ho : ∀ k, k ≠ ib → (W.setCell ⟨ib, t, none⟩ (.int .i64 z)).heap[k]? = W.heap[k]? := fun k hk => heap_setCell_other W _ k _ hk
  obtain ⟨c, t1, t2⟩ := h.hT
  obtain ⟨d, u1, u2⟩ := h.hU
  refine ⟨h.low.trans (below_set h.gI), by simpa using h.ge, fun b c T hm => ⟨(ho _ (ne_type (h.ex b c T hm).1 h.hI (h.ex b c T hm).2.2.2.1)).trans (h.ex b c T hm).1, (h.ex b c T hm).2⟩, (ho _ (ne_type h.hP h.hI (by decide))).trans h.hP, ?_, (ho _ (Ne.symm h.ip)).trans h.hL, by rw [List.length_set]; exact h.lI, h.lP, ⟨c, (ho _ (ne_type t1 h.hI (by decide))).trans t1, t2⟩, ⟨d, (ho _ (ne_type u1 h.hI (by decide))).trans u1, u2⟩, own_same h.oW fun k hk _ => ?_, own_same h.oF fun k hk _ => ho k (fun e => h.fi (by rw [hk, e])), fun k g hg => ⟨(h.pW k g hg).1, fun j x hx => ?_⟩, fun k g hg => ⟨(h.pF k g hg).1, fun j x hx => ?_⟩, h.fi, h.fp, h.ip, h.gP, h.gW, h.gF, h.gI, h.gL, h.lw, h.lf⟩
  · rw [heap_setCell_same W ib t _ 3 _ h.hI, i64s_set]
  · obtain ⟨e, h1⟩ := own_type h.oW hk
    exact ho k (ne_type h1 h.hI (by decide))
  · obtain ⟨b, o, c, h1, h2, h3⟩ := (h.pW k g hg).2 j x hx
    exact ⟨b, o, c, h1, (ho _ (ne_type h2 h.hI (by decide))).trans h2, h3⟩
  · obtain ⟨b, o, c, h1, h2, h3, h4, h5⟩ := (h.pF k g hg).2 j x hx
    exact ⟨b, o, c, h1, (ho _ h4).trans h2, h3, h4, h5⟩
/-- A place. -/
theorem RI.setL (h : RI w W N0 P wt ft ib pl n X ws fs WL FL sets I PL wv Wl wf fv Fl ff) (t : Nat) (z : Int) : RI w (W.setCell ⟨pl, t, none⟩ (.int .i64 z)) N0 P wt ft ib pl n X ws fs WL FL sets I (PL.set t z) wv Wl wf fv Fl ff := by
  have ho : ∀ k, k ≠ pl → (W.setCell ⟨pl, t, none⟩ (.int .i64 z)).heap[k]? = W.heap[k]? := fun k hk => heap_setCell_other W _ k _ hk
  obtain ⟨c, t1, t2⟩ := h.hT
  obtain ⟨d, u1, u2⟩ := h.hU
  refine ⟨h.low.trans (below_set h.gL), by simpa using h.ge, fun b c T hm => ⟨(ho _ (ne_type (h.ex b c T hm).1 h.hL (h.ex b c T hm).2.2.2.1)).trans (h.ex b c T hm).1, (h.ex b c T hm).2⟩, (ho _ (ne_type h.hP h.hL (by decide))).trans h.hP, (ho _ h.ip).trans h.hI, ?_, h.lI, by rw [List.length_set]; exact h.lP, ⟨c, (ho _ (ne_type t1 h.hL (by decide))).trans t1, t2⟩, ⟨d, (ho _ (ne_type u1 h.hL (by decide))).trans u1, u2⟩, own_same h.oW fun k hk _ => ?_, own_same h.oF fun k hk _ => ho k (fun e => h.fp (by rw [hk, e])), fun k g hg => ⟨(h.pW k g hg).1, fun j x hx => ?_⟩, fun k g hg => ⟨(h.pF k g hg).1, fun j x hx => ?_⟩, h.fi, h.fp, h.ip, h.gP, h.gW, h.gF, h.gI, h.gL, h.lw, h.lf⟩
  · rw [heap_setCell_same W pl t _ 3 _ h.hL, i64s_set]
  · obtain ⟨e, h1⟩ := own_type h.oW hk
    exact ho k (ne_type h1 h.hL (by decide))
  · obtain ⟨b, o, c, h1, h2, h3⟩ := (h.pW k g hg).2 j x hx
    exact ⟨b, o, c, h1, (ho _ (ne_type h2 h.hL (by decide))).trans h2, h3⟩
  · obtain ⟨b, o, c, h1, h2, h3, h4, h5, h6⟩ := (h.pF k g hg).2 j x hx
    exact ⟨b, o, c, h1, (ho _ h5).trans h2, h3, h4, h5, h6⟩
/-- The ways change: all blocks but theirs stay, the parts that are done stay. -/
theorem RI.ways {wv' : Value} {Wl' : List Wy} (h : RI w W N0 P wt ft ib pl n X ws fs WL FL sets I PL wv Wl wf fv Fl ff) (hb : Below N0 W W') (hh : ∀ k, k < W.heap.size → some k ≠ wv.ownBlock → W'.heap[k]? = W.heap[k]?) (o' : W'.ownsRow (N0 + 1) 135 2 wv' Wl'.length (wcs Wl'))
    (hl : wf ≤ Wl'.length) (hfr : wv'.ownBlock = wv.ownBlock ∨ ∀ k, wv'.ownBlock = some k → W.heap.size ≤ k)
    (hc : ∀ (k : Nat) (c : Array Value), wv.ownBlock = some k → W.heap[k]? = some (.cells c 135) → ∃ c', W'.heap[k]? = some (.cells c' 135) ∧ ∀ (o : Nat) (v : Value), o < wf * 2 → c[o]? = some v → c'[o]? = some v) :
    RI w W' N0 P wt ft ib pl n X ws fs WL FL sets I PL wv' Wl' wf fv Fl ff := by
  have hne : ∀ (k : Nat) (c : Array Value) (T : TypeId), W.heap[k]? = some (.cells c T) → T ≠ 135 → some k ≠ wv.ownBlock := fun k c T hk hT e => by
    obtain ⟨d, h1⟩ := own_type h.oW e.symm
    exact ne_type hk h1 hT rfl
  have ho : ∀ (k : Nat) (c : Array Value) (T : TypeId), W.heap[k]? = some (.cells c T) → T ≠ 135 → W'.heap[k]? = some (.cells c T) := fun k c T hk hT => (hh k (lt_of hk) (hne k c T hk hT)).trans hk
  obtain ⟨c, t1, t2⟩ := h.hT
  obtain ⟨d, u1, u2⟩ := h.hU
  refine ⟨h.low.trans hb, Nat.lt_of_lt_of_le h.ge hb.size, fun b c T hm => ⟨ho b c T (h.ex b c T hm).1 (h.ex b c T hm).2.2.2.2.2.2, (h.ex b c T hm).2⟩, ho _ _ _ h.hP (by decide), ho _ _ _ h.hI (by decide), ho _ _ _ h.hL (by decide), h.lI, h.lP, ⟨c, ho _ _ _ t1 (by decide), t2⟩, ⟨d, ho _ _ _ u1 (by decide), u2⟩, o', own_same h.oF fun k hk _ => ?_, fun k g hg => ⟨(h.pW k g hg).1, fun j x hx => ?_⟩, fun k g hg => ⟨(h.pF k g hg).1, fun j x hx => ?_⟩, h.fi, h.fp, h.ip, h.gP, h.gW, h.gF, h.gI, h.gL, hl, h.lf⟩
  · obtain ⟨e, h1⟩ := own_type h.oF hk
    rw [ho k e 3 h1 (by decide), h1]
  · obtain ⟨b, o, c, h1, h2, h3, h4, h5, h6⟩ := (h.pW k g hg).2 j x hx
    by_cases e : wv.ownBlock = some b
    · obtain ⟨c', g1, g2⟩ := hc b c e h2
      have h7 := h6 e
      exact ⟨b, o, c', h1, g1, h3, g2 _ _ (by omega) h4, g2 _ _ (by omega) h5, fun _ => h7⟩
    · refine ⟨b, o, c, h1, (hh b (lt_of h2) (fun e' => e e'.symm)).trans h2, h3, h4, h5, fun e' => ?_⟩
      rcases hfr with h7 | h7
      · rw [h7] at e'; exact absurd e' e
      · have := h7 b e'; have := lt_of h2; omega
  · obtain ⟨b, o, c, h1, h2, h3⟩ := (h.pF k g hg).2 j x hx
    exact ⟨b, o, c, h1, ho _ _ _ h2 (by decide), h3⟩
/-- The frees change. -/
theorem RI.frees {fv' : Value} {Fl' : List Int} (h : RI w W N0 P wt ft ib pl n X ws fs WL FL sets I PL wv Wl wf fv Fl ff) (hb : Below N0 W W') (hh : ∀ k, k < W.heap.size → some k ≠ fv.ownBlock → W'.heap[k]? = W.heap[k]?) (o' : W'.ownsRow (N0 + 1) 3 1 fv' Fl'.length (i64s Fl'))
    (hl : ff ≤ Fl'.length) (hfr : fv'.ownBlock = fv.ownBlock ∨ ∀ k, fv'.ownBlock = some k → W.heap.size ≤ k)
    (hc : ∀ (k : Nat) (c : Array Value), fv.ownBlock = some k → W.heap[k]? = some (.cells c 3) → ∃ c', W'.heap[k]? = some (.cells c' 3) ∧ ∀ (o : Nat) (v : Value), o < ff → c[o]? = some v → c'[o]? = some v) :
    RI w W' N0 P wt ft ib pl n X ws fs WL FL sets I PL wv Wl wf fv' Fl' ff := by
  have hne : ∀ (k : Nat) (c : Array Value) (T : TypeId), W.heap[k]? = some (.cells c T) → T ≠ 3 → some k ≠ fv.ownBlock := fun k c T hk hT e => by
    obtain ⟨d, h1⟩ := own_type h.oF e.symm
    exact ne_type hk h1 hT rfl
  have ho : ∀ (k : Nat) (c : Array Value) (T : TypeId), W.heap[k]? = some (.cells c T) → T ≠ 3 → W'.heap[k]? = some (.cells c T) := fun k c T hk hT => (hh k (lt_of hk) (hne k c T hk hT)).trans hk
  obtain ⟨c, t1, t2⟩ := h.hT
  obtain ⟨d, u1, u2⟩ := h.hU
  refine ⟨h.low.trans hb, Nat.lt_of_lt_of_le h.ge hb.size, fun b c T hm => ⟨ho b c T (h.ex b c T hm).1 (h.ex b c T hm).2.2.2.1, (h.ex b c T hm).2⟩, ho _ _ _ h.hP (by decide), (hh _ (lt_of h.hI) (fun e => h.fi e.symm)).trans h.hI, (hh _ (lt_of h.hL) (fun e => h.fp e.symm)).trans h.hL, h.lI, h.lP, ⟨c, ho _ _ _ t1 (by decide), t2⟩, ⟨d, ho _ _ _ u1 (by decide), u2⟩, own_same h.oW fun k hk _ => ?_, o', fun k g hg => ⟨(h.pW k g hg).1, fun j x hx => ?_⟩, fun k g hg => ⟨(h.pF k g hg).1, fun j x hx => ?_⟩, ?_, ?_, h.ip, h.gP, h.gW, h.gF, h.gI, h.gL, h.lw, hl⟩
  · obtain ⟨e, h1⟩ := own_type h.oW hk
    rw [ho k e 135 h1 (by decide), h1]
  · obtain ⟨b, o, c, h1, h2, h3⟩ := (h.pW k g hg).2 j x hx
    exact ⟨b, o, c, h1, ho _ _ _ h2 (by decide), h3⟩
  · obtain ⟨b, o, c, h1, h2, h3, h4, h5, h6, h7⟩ := (h.pF k g hg).2 j x hx
    by_cases e : fv.ownBlock = some b
    · obtain ⟨c', g1, g2⟩ := hc b c e h2
      have h8 := h7 e
      exact ⟨b, o, c', h1, g1, h3, h4, h5, g2 _ _ (by omega) h6, fun _ => h8⟩
    · refine ⟨b, o, c, h1, (hh b (lt_of h2) (fun e' => e e'.symm)).trans h2, h3, h4, h5, h6, fun e' => ?_⟩
      rcases hfr with h8 | h8
      · rw [h8] at e'; exact absurd e' e
      · have := h8 b e'; have := lt_of h2; omega
  · rcases hfr with h8 | h8
    · rw [h8]; exact h.fi
    · intro e; have := h8 ib e; have := lt_of h.hI; omega
  · rcases hfr with h8 | h8
    · rw [h8]; exact h.fp
    · intro e; have := h8 pl e; have := lt_of h.hL; omega
end
end Go.Proofs.YteacehfihogmpaaDoor
