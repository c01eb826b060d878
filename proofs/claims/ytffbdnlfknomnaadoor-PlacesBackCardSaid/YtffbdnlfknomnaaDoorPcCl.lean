/- Blocks of cells; the counts; the first place that is kept. -/
import Derived.Test.YtffbdnlfknomnaaDoorPcIt1
import Derived.Test.YtffbdnlfknomnaaDoorPcIt2
import Derived.Test.YtffbdnlfknomnaaDoorPcIt3
namespace Go.Proofs.YtffbdnlfknomnaaDoor.Wt
open Go.RowKit Go.Shelf

/-- A block of cells. -/
def Cb (W : World) (B : Nat) (c : Array Value) (t : Nat) : Prop := W.heap[B]? = some (.cells c t (0, 0))
theorem Cb.lt {W : World} {B : Nat} {c : Array Value} {t : Nat} (h : Cb W B c t) : B < W.heap.size := (Array.getElem?_eq_some_iff.1 h).1
theorem Cb.cell {W : World} {B : Nat} {c : Array Value} {t : Nat} (h : Cb W B c t) (i : Nat) : W.cell? ⟨B, i, none⟩ = c[i]? := by
  unfold Cb at h
  simp [World.cell?, h]
theorem Cb.frozen {W : World} {B : Nat} {c : Array Value} {t : Nat} (h : Cb W B c t) (i : Nat) : W.frozen? ⟨B, i, none⟩ = false := by
  unfold Cb at h
  simp [World.frozen?, h]
theorem Cb.new (w : World) (c : Array Value) (t : Nat) : Cb (w.alloc (.cells c t)) w.heap.size c t := World.alloc_heap_new w _
theorem Cb.below {W W' : World} {B : Nat} {c : Array Value} {t : Nat} (h : Cb W B c t) (hb : Below W.heap.size W W') : Cb W' B c t := (hb.block _ h.lt).trans h
theorem Cb.alloc {W : World} {B : Nat} {c : Array Value} {t : Nat} (h : Cb W B c t) (o : Obj) : Cb (W.alloc o) B c t := h.below ((Below.refl _ _).alloc (Nat.le_refl _) _)
theorem Cb.set {W : World} {B : Nat} {c : Array Value} {t : Nat} (h : Cb W B c t) (i : Nat) (v : Value) : Cb (W.setCell ⟨B, i, none⟩ v) B (c.setIfInBounds i v) t := by
  obtain ⟨hlt, hk⟩ := Array.getElem?_eq_some_iff.1 h
  show (W.heap.modify B _)[B]? = _
  rw [Array.getElem?_eq_getElem (by rw [Array.size_modify]; exact hlt), Array.getElem_modify_self, hk]
  rfl
theorem Cb.other {W : World} {B B' : Nat} {c : Array Value} {t : Nat} (h : Cb W B c t) (hne : B ≠ B') (i : Nat) (v : Value) : Cb (W.setCell ⟨B', i, none⟩ v) B c t := (Below.heap_setCell _ _ _ B hne).trans h
theorem Cb.kept {W W' : World} {row : Option Nat} {B : Nat} {c : Array Value} {t : Nat} (h : Cb W B c t) (hg : W.grownBy W' row) (hne : some B ≠ row) : Cb W' B c t := (hg.block B h.lt hne).trans h
theorem cb_own {β : Type} (B : Nat) (t : Nat) (f : β → Array Value) : Own (fun s W => Cb W B (f s) t) := fun s X Y row hs hg hrow =>
  hs.kept hg (fun e' => by obtain ⟨o, ho, hc⟩ := hrow B e'.symm; rw [show X.heap[B]? = _ from hs] at ho; cases ho; cases hc)
theorem Cb.kt {X Y : World} {B : Nat} {c : Array Value} {t : Nat} (h : Cb X B c t) (k : Kt X Y) (ht : kt t = true) : Cb Y B c t := k.cells _ _ _ _ h ht
theorem cb_keep {A C : World} {B : Nat} {t : Nat} {c : Array Value} {row : Option Nat} {n : Nat} (h : Cb A B c t) (hg : A.grownBy C row) (hr : ∀ r, row = some r → n ≤ r ∧ ∃ o, A.heap[r]? = some o ∧ o.isCells = false) : Cb C B c t :=
  cb_own B t (fun (_ : Unit) => c) () A C row h hg (fun r e => (hr r e).2)
/-- A store into a cell that a body may write. -/
theorem Kt.set {W : World} {B : Nat} {c : Array Value} {t : Nat} (h : Cb W B c t) (ht : kt t = false) (h2 : 2 ≤ B) (i : Nat) (v : Value) : Kt W (W.setCell ⟨B, i, none⟩ v) :=
  ⟨(KeepsWalks.setCell W _ v).size, fun k hk => Below.heap_setCell _ _ _ k (by show k ≠ B; omega), fun k c' t' fz h1 h3 => by
    refine (Below.heap_setCell _ _ _ k (fun e => ?_)).trans h1
    have e' : k = B := e
    subst e'
    unfold Cb at h
    rw [h] at h1
    cases h1
    rw [ht] at h3
    cases h3⟩
/-- A count: the function that makes its iterator, the iterator, the places. -/
structure Cnt (m g : Nat) (E : List UInt8 → List Nat) : Prop where
  scl : Scl E
  made : PlMk m g
  seq : PlSeq g E
  em : ∀ args w, (callFunc m args).run Tryd.prog w = .ok (.enter m args) w
  eg : ∀ args w, (callFunc g args).run Tryd.prog w = .ok (.enter g args) w
theorem units_cnt : Cnt 34 58 unitsL := ⟨units_scl, units_mk, units_o, enters_of Tryd.func34 (by kernel_rfl) rfl, enters_of Tryd.func58 (by kernel_rfl) rfl⟩
theorem runes_cnt : Cnt 35 59 runesL := ⟨runes_scl, runes_mk, runes_o, enters_of Tryd.func35 (by kernel_rfl) rfl, enters_of Tryd.func59 (by kernel_rfl) rfl⟩
theorem letters_cnt : Cnt 36 60 lettersL := ⟨letters_scl, letters_mk, letters_o, enters_of Tryd.func36 (by kernel_rfl) rfl, enters_of Tryd.func60 (by kernel_rfl) rfl⟩
theorem ends_cnt : Cnt 37 62 endsL := ⟨ends_scl, ends_mk, ends_o, enters_of Tryd.func37 (by kernel_rfl) rfl, enters_of Tryd.func62 (by kernel_rfl) rfl⟩
/-- The first place that is kept: its number and itself. -/
def kpt (l : List UInt8) : Nat → List Nat → Option (Nat × Nat)
  | _, [] => none
  | i, p :: t => if isE l p = true then some (i, p) else kpt l (i + 1) t
theorem kpt_snoc (l : List UInt8) : ∀ (A : List Nat) (i x : Nat), kpt l i (A ++ [x]) = match kpt l i A with
    | some y => some y
    | none => if isE l x = true then some (i + A.length, x) else none
  | [], i, x => by
    show kpt l i [x] = _
    unfold kpt kpt
    rfl
  | p :: A, i, x => by
    rw [List.cons_append]
    unfold kpt
    by_cases h : isE l p = true
    · rw [if_pos h, if_pos h]
    · rw [if_neg h, if_neg h, kpt_snoc l A (i + 1) x, List.length_cons, show i + 1 + A.length = i + (A.length + 1) by omega]
theorem kpt_lt (l : List UInt8) : ∀ (A : List Nat) (i : Nat) (y : Nat × Nat), (∀ p ∈ A, p < l.length) → kpt l i A = some y → y.2 < l.length
  | [], _, _, _, h => by cases h
  | p :: A, i, y, hA, h => by
    unfold kpt at h
    split at h
    · cases h; exact hA p (List.mem_cons_self ..)
    · exact kpt_lt l A _ y (fun q hq => hA q (List.mem_cons_of_mem _ hq)) h
theorem kpt_all {E : List UInt8 → List Nat} (h : Scl E) (l : List UInt8) (p : Nat) (t : List Nat) (he : E l = p :: t) : kpt l 0 (E l) = some (0, p) := by
  rw [he]
  unfold kpt
  rw [if_pos (h.edge l p t he)]
/-- What a scale keeps: a slice of spots, none or one. -/
def Kpd (W : World) (lo : Nat) (kv : Value) (o : Option (Nat × Nat)) : Prop := match o with
  | none => kv = .slice none 0 0
  | some y => ∃ (g c : Nat), kv = .slice (some ⟨g, 0, none⟩) 1 c ∧ lo ≤ g ∧ g < W.heap.size ∧ W.cell? ⟨g, 0, none⟩ = some (.int .i64 y.1) ∧ W.cell? ⟨g, 1, none⟩ = some (.int .i64 y.2)
theorem Kpd.keep {W W' : World} {lo : Nat} {kv : Value} {o : Option (Nat × Nat)} (h : Kpd W lo kv o) (hs : W.heap.size ≤ W'.heap.size) (hk : ∀ k, lo ≤ k → k < W.heap.size → ∀ i v, W.cell? ⟨k, i, none⟩ = some v → W'.cell? ⟨k, i, none⟩ = some v) : Kpd W' lo kv o := by
  cases o with
  | none => exact h
  | some y =>
    obtain ⟨g, c, h1, h2, h3, h4, h5⟩ := h
    exact ⟨g, c, h1, h2, Nat.lt_of_lt_of_le h3 hs, hk g h2 h3 0 _ h4, hk g h2 h3 1 _ h5⟩
theorem Kpd.below {W W' : World} {lo : Nat} {kv : Value} {o : Option (Nat × Nat)} (h : Kpd W lo kv o) (hb : Below W.heap.size W W') : Kpd W' lo kv o :=
  h.keep hb.size fun k _ hk i _ hv => (hb.cell (p := ⟨k, i, none⟩) hk).trans hv
theorem Kpd.other {W : World} {lo B : Nat} {kv : Value} {o : Option (Nat × Nat)} (h : Kpd W lo kv o) (hB : B < lo) (i : Nat) (u : Value) : Kpd (W.setCell ⟨B, i, none⟩ u) lo kv o :=
  h.keep (KeepsWalks.setCell W _ u).size fun k hk _ j v hv => (World.cell?_of_block (w := W) (a := ⟨k, j, none⟩) (Below.heap_setCell _ _ _ k (by show k ≠ B; omega))).trans hv
theorem Kpd.low {W : World} {lo lo' : Nat} {kv : Value} {o : Option (Nat × Nat)} (h : Kpd W lo kv o) (hl : lo' ≤ lo) : Kpd W lo' kv o := by
  cases o with
  | none => exact h
  | some y =>
    obtain ⟨g, c, h1, h2, h3⟩ := h
    exact ⟨g, c, h1, Nat.le_trans hl h2, h3⟩
theorem kpd_keep {A C : World} {lo : Nat} {kv : Value} {o : Option (Nat × Nat)} {row : Option Nat} {n : Nat} (h : Kpd A lo kv o) (hg : A.grownBy C row) (hr : ∀ r, row = some r → n ≤ r ∧ ∃ o, A.heap[r]? = some o ∧ o.isCells = false) : Kpd C lo kv o :=
  h.keep hg.size fun _ _ _ _ _ hv => cell_kept hv hg (fun r e => (hr r e).2)
/-- What a body does: cells of some types from N on alone. -/
structure Bd (N : Nat) (X Y : World) : Prop where
  others : KeepsOthers X Y
  kt : Kt X Y
  low : Below N X Y
theorem Bd.refl (N : Nat) (X : World) : Bd N X X := ⟨KeepsOthers.refl X, Kt.refl X, Below.refl N X⟩
theorem Bd.trans {N : Nat} {X Y Z : World} (h : Bd N X Y) (k : Bd N Y Z) : Bd N X Z := ⟨h.others.trans k.others, Kt_t h.kt k.kt, h.low.trans k.low⟩
theorem Bd.below {N : Nat} {X Y : World} (h : Below X.heap.size X Y) (h2 : 2 ≤ X.heap.size) (hN : N ≤ X.heap.size) : Bd N X Y :=
  ⟨⟨h.size, fun k _ hk _ => (h.block k (Array.getElem?_eq_some_iff.1 hk).1).trans hk⟩, Kt.below h h2, h.mono hN⟩
theorem Bd.set {N : Nat} {W : World} {B : Nat} {c : Array Value} {t : Nat} (h : Cb W B c t) (ht : Wt.kt t = false) (h2 : 2 ≤ N) (hN : N ≤ B) (i : Nat) (v : Value) : Bd N W (W.setCell ⟨B, i, none⟩ v) :=
  ⟨KeepsOthers.setCell W _ v, Kt.set h ht (by omega) i v, (Below.refl N W).setCell (p := ⟨B, i, none⟩) hN v⟩
end Go.Proofs.YtffbdnlfknomnaaDoor.Wt
