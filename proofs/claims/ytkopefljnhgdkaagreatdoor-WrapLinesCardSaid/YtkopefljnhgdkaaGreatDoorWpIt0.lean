/- The lines that fit from a box on, one behind the other: the mathematics; and what the iterator's walk shares. -/
import Derived.Test.YtkopefljnhgdkaaGreatDoorWpChk
import Derived.Laws.RangeAny
import Derived.RangeFuncNested
import Derived.RangeFuncBound
import Derived.RangeFuncCalls
import Derived.RangeFuncLeaves
import Derived.Shelf.Abstract
import Derived.Shelf.RegionOpen
import Derived.OwnWalkIn
import Derived.TacticsInMore
import Derived.LoopNIn
import Derived.LoopIn
import Derived.Maps.AppendAt
namespace Go.Proofs.YtkopefljnhgdkaaGreatDoor
open Go.RowKit Go.Shelf

def ffr (W : Wr) (L : List Bx) (i : Nat) : Nat → Nat → List Nat
  | 0, _ => []
  | f + 1, j => if j < L.length then (if i < j ∧ rm W L i < sm L i (j - i) + (bx L j).w then [] else (if sz L i j ≤ rm W L i ∨ j = i then [j] else []) ++ (if en L j = true then [] else ffr W L i f (j + 1))) else []
/-- The last boxes of the lines that begin with i and fit, from j on. -/
def ff (W : Wr) (L : List Bx) (i j : Nat) : List Nat := ffr W L i (L.length - j) j
theorem ff_end (W : Wr) (L : List Bx) (i j : Nat) (h : ¬ j < L.length) : ff W L i j = [] := by
  unfold ff
  rw [show L.length - j = 0 by omega]
  rfl
theorem ff_step (W : Wr) (L : List Bx) (i j : Nat) (h : j < L.length) :
    ff W L i j = (if i < j ∧ rm W L i < sm L i (j - i) + (bx L j).w then [] else (if sz L i j ≤ rm W L i ∨ j = i then [j] else []) ++ (if en L j = true then [] else ff W L i (j + 1))) := by
  unfold ff
  rw [show L.length - j = (L.length - (j + 1)) + 1 by omega, ffr, if_pos h]
variable {W : Wr} {L : List Bx}
/-- No paragraph ends within i and j. -/
def Run (L : List Bx) (i j : Nat) : Prop := i ≤ j ∧ ∀ k, i ≤ k → k < j → en L k = false
theorem Run.par {i j : Nat} (h : Run L i j) (hj : j < L.length) : Par L i j := ⟨h.1, hj, h.2⟩
theorem Run.next {i j : Nat} (h : Run L i j) (he : en L j = false) : Run L i (j + 1) := ⟨by have := h.1; omega, fun k h1 h2 => by
  rcases Nat.eq_or_lt_of_le (Nat.le_of_lt_succ h2) with e | e
  · rw [e]; exact he
  · exact h.2 k h1 e⟩
theorem Okb.sum_le (o : Okb W L) (i : Nat) : ∀ d k, sm L i k ≤ sm L i (k + d)
  | 0, k => Int.le_refl _
  | d + 1, k => by
    have h1 := o.sum_le i d k
    have h2 : sm L i (k + (d + 1)) = sm L i (k + d) + (bx L (i + (k + d))).w + (bx L (i + (k + d))).b := rfl
    have := o.w (i + (k + d)); have := o.b (i + (k + d))
    omega
theorem sm_at (L : List Bx) {i j : Nat} (h : i ≤ j) : sm L i (j + 1 - i) = sm L i (j - i) + (bx L j).w + (bx L j).b := by
  have e : j + 1 - i = (j - i) + 1 := by omega
  have e2 : i + (j - i) = j := by omega
  rw [e, sm, e2]
theorem ff_mem (o : Okb W L) {i : Nat} : ∀ (n j : Nat), L.length - j ≤ n → Run L i j → ∀ x, x ∈ ff W L i j ↔ (j ≤ x ∧ Lin W L i x)
  | n, j, hn, hr, x => by
    by_cases hj : j < L.length
    · cases n with
      | zero => omega
      | succ n =>
        rw [ff_step W L i j hj]
        by_cases hs : i < j ∧ rm W L i < sm L i (j - i) + (bx L j).w
        · rw [if_pos hs]
          constructor
          · intro h; cases h
          · rintro ⟨h1, h2⟩
            exfalso
            rcases h2.2 with e | e
            · omega
            · have h3 := o.hyp x
              have h4 := o.w x
              unfold sz at e
              rcases Nat.eq_or_lt_of_le h1 with e1 | e1
              · subst e1; omega
              · have h5 := o.sum_le i (x - (j + 1)) (j + 1 - i)
                have e2 : j + 1 - i + (x - (j + 1)) = x - i := by have := hr.1; omega
                rw [e2, sm_at L hr.1] at h5
                have := o.b j
                omega
        · rw [if_neg hs, List.mem_append]
          have hA : x ∈ (if sz L i j ≤ rm W L i ∨ j = i then [j] else []) ↔ (x = j ∧ Lin W L i j) := by
            by_cases hf : sz L i j ≤ rm W L i ∨ j = i
            · rw [if_pos hf]
              simp only [List.mem_singleton]
              exact ⟨fun h => ⟨h, hr.par hj, hf.elim .inr (fun e => .inl e.symm)⟩, fun h => h.1⟩
            · rw [if_neg hf]
              constructor
              · intro h; cases h
              · rintro ⟨_, h⟩
                exact absurd (h.2.elim (fun e => .inr e.symm) .inl) hf
          rw [hA]
          cases he : en L j with
          | true =>
            simp only [if_true, List.not_mem_nil, or_false]
            constructor
            · rintro ⟨rfl, h⟩; exact ⟨Nat.le_refl _, h⟩
            · rintro ⟨h1, h2⟩
              rcases Nat.eq_or_lt_of_le h1 with e | e
              · subst e; exact ⟨rfl, h2⟩
              · have := h2.1.2.2 j hr.1 e; rw [he] at this; cases this
          | false =>
            simp only [Bool.false_eq_true, if_false]
            rw [ff_mem o n (j + 1) (by omega) (hr.next he) x]
            constructor
            · rintro (⟨rfl, h⟩ | ⟨h1, h2⟩)
              · exact ⟨Nat.le_refl _, h⟩
              · exact ⟨by omega, h2⟩
            · rintro ⟨h1, h2⟩
              rcases Nat.eq_or_lt_of_le h1 with e | e
              · subst e; exact .inl ⟨rfl, h2⟩
              · exact .inr ⟨e, h2⟩
    · rw [ff_end W L i j hj]
      constructor
      · intro h; cases h
      · rintro ⟨h1, h2⟩
        have := h2.1.2.1
        omega
theorem ff_rise (o : Okb W L) {i : Nat} : ∀ (n j : Nat), L.length - j ≤ n → Run L i j → (ff W L i j).Pairwise (· < ·)
  | n, j, hn, hr => by
    by_cases hj : j < L.length
    · cases n with
      | zero => omega
      | succ n =>
        rw [ff_step W L i j hj]
        split
        · exact .nil
        · rw [List.pairwise_append]
          refine ⟨?_, ?_, ?_⟩
          · split
            · exact List.pairwise_singleton _ _
            · exact .nil
          · split
            · exact .nil
            · rename_i he
              exact ff_rise o n (j + 1) (by omega) (hr.next (by simpa using he))
          · intro a ha b hb
            split at ha
            · split at hb
              · cases hb
              · rename_i he
                have h1 := ((ff_mem o _ (j + 1) (Nat.le_refl _) (hr.next (by simpa using he)) b).1 hb).1
                have : a = j := by simpa using ha
                omega
            · cases ha
    · rw [ff_end W L i j hj]
      exact .nil
/-- A line that begins with i and fits. -/
structure Fe (W : Wr) (L : List Bx) (i : Nat) where
  j : Nat
  lin : Lin W L i j
def encF {W : Wr} {L : List Bx} {i : Nat} (x : Fe W L i) : Array Value := #[.int .i64 (x.j : Nat), .int .i64 (sz L i x.j)]
theorem Run.self (L : List Bx) (i : Nat) : Run L i i := ⟨Nat.le_refl _, fun k h1 h2 => by omega⟩
theorem ff_list (o : Okb W L) (i : Nat) : ∃ F : List (Fe W L i), F.map Fe.j = ff W L i i := by
  have h : ∀ l : List Nat, (∀ x ∈ l, Lin W L i x) → ∃ F : List (Fe W L i), F.map Fe.j = l := by
    intro l
    induction l with
    | nil => exact fun _ => ⟨[], rfl⟩
    | cons a l ih =>
      intro hl
      obtain ⟨F, hF⟩ := ih (fun x hx => hl x (.tail _ hx))
      exact ⟨⟨a, hl a (.head _)⟩ :: F, by rw [List.map_cons, hF]⟩
  exact h _ fun x hx => ((ff_mem o _ i (Nat.le_refl _) (Run.self L i) x).1 hx).2
/-- What the lines from i on tell: all of them, rising. -/
structure FL (W : Wr) (L : List Bx) (i : Nat) (F : List (Fe W L i)) : Prop where
  is : F.map Fe.j = ff W L i i
  all : ∀ j, Lin W L i j → ∃ x ∈ F, x.j = j
  rise : (F.map Fe.j).Pairwise (· < ·)
theorem ff_all (o : Okb W L) (i : Nat) : ∃ F : List (Fe W L i), FL W L i F := by
  obtain ⟨F, hF⟩ := ff_list o i
  refine ⟨F, hF, fun j hj => ?_, by rw [hF]; exact ff_rise o _ i (Nat.le_refl _) (Run.self L i)⟩
  have := (ff_mem o _ i (Nat.le_refl _) (Run.self L i) j).2 ⟨hj.1.1, hj⟩
  rw [← hF] at this
  obtain ⟨x, h1, h2⟩ := List.mem_map.1 this
  exact ⟨x, h1, h2⟩
/-- What a body must leave as it was: the walks, some blocks, and all boxes of the type of an api.Box. -/
structure KrF (K : Nat → Prop) (X Y : World) : Prop where
  walks : KeepsWalks X Y
  size : X.heap.size ≤ Y.heap.size
  block : ∀ k, K k → Y.heap[k]? = X.heap[k]?
  box : ∀ (k : Nat) (c : Array Value) (fz : Nat × Nat), X.heap[k]? = some (Obj.cells c 53 fz) → Y.heap[k]? = some (Obj.cells c 53 fz)
theorem KrF_t {K : Nat → Prop} {A B C : World} (h : KrF K A B) (k : KrF K B C) : KrF K A C :=
  ⟨h.walks.trans k.walks, Nat.le_trans h.size k.size, fun i h1 => (k.block i h1).trans (h.block i h1), fun i c fz h1 => k.box i c fz (h.box i c fz h1)⟩
theorem KrF_b {K : Nat → Prop} {w : World} (hw : ∀ k, K k → k < w.heap.size) (W : World) (l : Nat) (o o' : Obj) (hl : w.heap.size ≤ l) (h : W.heap[l]? = some o) (hc : o.isCells = false) (hk : o.isWalk = false) : KrF K W (W.putObj l o') :=
  ⟨KeepsWalks.putObj _ h hk, by simp, fun k h2 => World.putObj_heap_other (by have := hw k h2; omega), fun k c fz h2 => by
    have : k ≠ l := fun e => by subst e; rw [h] at h2; cases h2; cases hc
    rw [World.putObj_heap_other this]; exact h2⟩
theorem wgrown {w w' : World} (h : Below w.heap.size w w') : w.grownBy w' none := ⟨h.os, h.tape, h.output, h.size, fun k hk _ => h.block k hk⟩
/-- The blocks that the iterator reads. -/
def KF (Bs Bf : Nat) (lo : Option Addr) (L : List Bx) (k : Nat) : Prop := k = Bs ∨ k = Bf ∨ ∃ a, lo = some a ∧ k = a.block ∧ k < Bs ∧ 0 < L.length
/-- What the iterator has caught: the sheet and the first box's number; and the boxes. -/
structure WfAt (Bs Bf : Nat) (lo : Option Addr) (n c : Nat) (V : Wr) (L : List Bx) (i : Nat) (w : World) : Prop where
  sh : Sht w Bs lo n c V.wd V.fi V.re V.ho
  bf : Boxed w Bf 3 (.int .i64 i)
  rd : RdB w lo L
  low : ∀ a, lo = some a → 0 < L.length → a.block < Bs
theorem WfAt.lt {Bs Bf : Nat} {lo : Option Addr} {n c : Nat} {V : Wr} {L : List Bx} {i : Nat} {w : World} (h : WfAt Bs Bf lo n c V L i w) : ∀ k, KF Bs Bf lo L k → k < w.heap.size := fun k hk => by
  rcases hk with rfl | rfl | ⟨a, _, _, h1, _⟩
  · exact h.sh.lt
  · exact h.bf.lt
  · have := h.sh.lt; omega
theorem RdB.keeps {w w' : World} {lo : Option Addr} {L : List Bx} (h : RdB w lo L) (hs : w.heap.size ≤ w'.heap.size) (hk : ∀ a, lo = some a → 0 < L.length → w'.heap[a.block]? = w.heap[a.block]?) : RdB w' lo L := fun k x hx => by
  obtain ⟨a, h1, h2, h3, h4, h5, h6⟩ := h k x hx
  have hl : 0 < L.length := by have := (List.getElem?_eq_some_iff.1 hx).1; omega
  have e := hk a h1 hl
  have e2 : w'.heap[(a.add (k * 4)).block]? = w.heap[(a.add (k * 4)).block]? := by rw [add_blk]; exact e
  exact ⟨a, h1, Nat.lt_of_lt_of_le h2 hs, (World.cell?_of_block (w := w) (a := a.add (k * 4)) e2).trans h3, (World.cell?_of_block (w := w) (a := ⟨(a.add (k * 4)).block, (a.add (k * 4)).off + 1, none⟩) e2).trans h4,
    (World.cell?_of_block (w := w) (a := ⟨(a.add (k * 4)).block, (a.add (k * 4)).off + 2, none⟩) e2).trans h5, (World.cell?_of_block (w := w) (a := ⟨(a.add (k * 4)).block, (a.add (k * 4)).off + 3, none⟩) e2).trans h6⟩
theorem WfAt.keeps {Bs Bf : Nat} {lo : Option Addr} {n c : Nat} {V : Wr} {L : List Bx} {i : Nat} {w w' : World} (h : WfAt Bs Bf lo n c V L i w) (hs : w.heap.size ≤ w'.heap.size) (hk : ∀ k, KF Bs Bf lo L k → w'.heap[k]? = w.heap[k]?) : WfAt Bs Bf lo n c V L i w' where
  sh := (hk Bs (.inl rfl)).trans h.sh
  bf := (hk Bf (.inr (.inl rfl))).trans h.bf
  rd := h.rd.keeps hs fun a ha hl => hk _ (.inr (.inr ⟨a, ha, rfl, h.low a ha hl, hl⟩))
  low := h.low
theorem WfAt.below {Bs Bf : Nat} {lo : Option Addr} {n c : Nat} {V : Wr} {L : List Bx} {i : Nat} {w w' : World} (h : WfAt Bs Bf lo n c V L i w) (hb : Below w.heap.size w w') : WfAt Bs Bf lo n c V L i w' :=
  h.keeps hb.size (fun k h2 => hb.block k (h.lt k h2))
/-- A box that was copied. -/
def Bxs (W : World) (B : Nat) (x : Bx) : Prop := W.heap[B]? = some (.cells #[.int .i64 x.w, .int .i64 x.b, .int .i64 x.h, .bool x.m] 53 (0, 0))
theorem Bxs.cell {W : World} {B : Nat} {x : Bx} (h : Bxs W B x) : W.cell? ⟨B, 0, none⟩ = some (.int .i64 x.w) ∧ W.cell? ⟨B, 1, none⟩ = some (.int .i64 x.b) ∧ W.cell? ⟨B, 2, none⟩ = some (.int .i64 x.h) ∧ W.cell? ⟨B, 3, none⟩ = some (.bool x.m) := by
  unfold Bxs at h
  refine ⟨?_, ?_, ?_, ?_⟩ <;> simp [World.cell?, h]
theorem Bxs.new (w : World) (x : Bx) : Bxs (w.alloc (.cells #[.int .i64 x.w, .int .i64 x.b, .int .i64 x.h, .bool x.m] 53)) w.heap.size x := World.alloc_heap_new w _
theorem Bxs.kept {W W' : World} {B : Nat} {x : Bx} (h : Bxs W B x) (hb : Below W.heap.size W W') : Bxs W' B x := (hb.block _ (Array.getElem?_eq_some_iff.1 h).1).trans h
end Go.Proofs.YtkopefljnhgdkaaGreatDoor
