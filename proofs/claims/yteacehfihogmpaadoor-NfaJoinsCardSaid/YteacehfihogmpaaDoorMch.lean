/- The machine (package nfa) in memory; what its calls leave alone. -/
import Derived.Test.YteacehfihogmpaaDoorCheck
import Derived.Test.YteacehfihogmpaaDoorMchMath
namespace Go.Proofs.YteacehfihogmpaaDoor
open Go.RowKit

def i64s (l : List Int) : List Value := l.map fun z => .int .i64 z
theorem i64s_len (l : List Int) : (i64s l).length = l.length := by simp [i64s]
theorem i64s_snoc (l : List Int) (z : Int) : i64s (l ++ [z]) = i64s l ++ [.int .i64 z] := by simp [i64s]
theorem i64s_at (l : List Int) (k : Nat) : (i64s l)[k]? = (l[k]?).map fun z => .int .i64 z := by simp [i64s]
/-- All blocks but P, ib and that of a row stay. -/
structure Ch (P ib : Nat) (row : Option Nat) (w w' : World) : Prop where
  os : w'.os = w.os
  tape : w'.tape = w.tape
  output : w'.output = w.output
  size : w.heap.size ≤ w'.heap.size
  block : ∀ k, k < w.heap.size → k ≠ P → k ≠ ib → some k ≠ row → w'.heap[k]? = w.heap[k]?
theorem Ch.refl (P ib : Nat) (row : Option Nat) (w : World) : Ch P ib row w w := ⟨rfl, rfl, rfl, Nat.le_refl _, fun _ _ _ _ _ => rfl⟩
/-- A row is the older one, or it is new. -/
def Fr (w : World) (row row' : Option Nat) : Prop := row' = none ∨ row' = row ∨ ∃ k, row' = some k ∧ w.heap.size ≤ k
theorem Fr.self (w : World) (row : Option Nat) : Fr w row row := .inr (.inl rfl)
theorem Fr.none (w : World) (row : Option Nat) : Fr w row none := .inl rfl
theorem Ch.trans {P ib : Nat} {r r' : Option Nat} {w w' w'' : World} (h : Ch P ib r w w') (hf : Fr w r r') (h' : Ch P ib r' w' w'') : Ch P ib r w w'' :=
  ⟨h'.os.trans h.os, h'.tape.trans h.tape, h'.output.trans h.output, Nat.le_trans h.size h'.size, fun k hk h1 h2 h3 => (h'.block k (Nat.lt_of_lt_of_le hk h.size) h1 h2 (by
    rcases hf with e | e | ⟨q, e, hq⟩
    · rw [e]; simp
    · rw [e]; exact h3
    · rw [e]; intro e'; cases e'; omega)).trans (h.block k hk h1 h2 h3)⟩
theorem Ch.grown {P ib : Nat} {row : Option Nat} {w w' : World} (h : w.grownBy w' row) : Ch P ib row w w' := ⟨h.os, h.tape, h.output, h.size, fun k hk _ _ h3 => h.block k hk h3⟩
theorem Ch.alloc (P ib : Nat) (row : Option Nat) (w : World) (o : Obj) : Ch P ib row w (w.alloc o) := .grown (World.grownBy_alloc w o row)
theorem Ch.drew (P ib : Nat) (row : Option Nat) (w : World) (k : Nat) : Ch P ib row w (w.drewN k) := ⟨rfl, rfl, rfl, Nat.le_refl _, fun _ _ _ _ _ => rfl⟩
theorem Ch.weak {P ib : Nat} {row : Option Nat} {w w' : World} (h : Ch P ib none w w') : Ch P ib row w w' := ⟨h.os, h.tape, h.output, h.size, fun k hk h1 h2 _ => h.block k hk h1 h2 (by simp)⟩
theorem Ch.setCell (P ib : Nat) (row : Option Nat) (w : World) (a : Addr) (v : Value) (h : a.block = P ∨ a.block = ib) : Ch P ib row w (w.setCell a v) :=
  ⟨rfl, rfl, rfl, by simp, fun k _ h1 h2 _ => heap_setCell_other w a k v (by rcases h with h | h <;> rw [h] <;> assumption)⟩
/-- The machine that runner makes. -/
structure MAt (B : Nat) (w : World) (P wt ft ib n : Nat) (ws fs : Nat → Option Addr × Nat) (WL : List (List Wy)) (FL : List (List Int)) (I : List Int) (sets : Int) : Prop where
  hB : B ≤ w.heap.size
  hPB : P < B
  hIB : ib < B
  hWB : wt < B
  hFB : ft < B
  ne : P ≠ ib
  wP : wt ≠ P
  wI : wt ≠ ib
  fP : ft ≠ P
  fI : ft ≠ ib
  hP : w.heap[P]? = some (.cells #[.slice (some ⟨wt, 0, none⟩) n n, .slice (some ⟨ft, 0, none⟩) n n, .slice (some ⟨ib, 0, none⟩) n n, .int .i64 sets] 132)
  hI : w.heap[ib]? = some (.cells (i64s I).toArray 3)
  len : I.length = n
  wl : WL.length = n
  fl : FL.length = n
  hW : ∀ (k : Nat) (g : List Wy), WL[k]? = some g → w.cell? ⟨wt, k, none⟩ = some (.slice (ws k).1 g.length (ws k).2) ∧ g.length ≤ most ∧ ∀ (j : Nat) (x : Wy), g[j]? = some x → ∃ a : Addr, (ws k).1 = some a ∧ a.block ≠ P ∧ a.block ≠ ib ∧ a.block < B ∧ w.cell? (a.add (j * 2)) = some (.int .u64 x.1) ∧ w.cell? ⟨(a.add (j * 2)).block, (a.add (j * 2)).off + 1, none⟩ = some (.int .i64 x.2)
  hF : ∀ (k : Nat) (g : List Int), FL[k]? = some g → w.cell? ⟨ft, k, none⟩ = some (.slice (fs k).1 g.length (fs k).2) ∧ g.length ≤ most ∧ ∀ (j : Nat) (x : Int), g[j]? = some x → ∃ a : Addr, (fs k).1 = some a ∧ a.block ≠ P ∧ a.block ≠ ib ∧ a.block < B ∧ w.cell? (a.add j) = some (.int .i64 x)
section
variable {B : Nat} {w w' : World} {P wt ft ib n : Nat} {ws fs : Nat → Option Addr × Nat} {WL : List (List Wy)} {FL : List (List Int)} {I : List Int} {sets : Int} {row : Option Nat}
theorem MAt.turn {I' : List Int} {sets' : Int} (h : MAt B w P wt ft ib n ws fs WL FL I sets) (hc : Ch P ib row w w') (hr : ∀ k, row = some k → B ≤ k)
    (hP : w'.heap[P]? = some (.cells #[.slice (some ⟨wt, 0, none⟩) n n, .slice (some ⟨ft, 0, none⟩) n n, .slice (some ⟨ib, 0, none⟩) n n, .int .i64 sets'] 132)) (hI : w'.heap[ib]? = some (.cells (i64s I').toArray 3)) (hl : I'.length = n) : MAt B w' P wt ft ib n ws fs WL FL I' sets' := by
  have hk : ∀ p : Addr, p.block < B → p.block ≠ P → p.block ≠ ib → w'.cell? p = w.cell? p := fun p h1 h2 h3 =>
    World.cell?_of_block (hc.block p.block (Nat.lt_of_lt_of_le h1 h.hB) h2 h3 (fun e => by have := hr _ e.symm; omega))
  refine ⟨Nat.le_trans h.hB hc.size, h.hPB, h.hIB, h.hWB, h.hFB, h.ne, h.wP, h.wI, h.fP, h.fI, hP, hI, hl, h.wl, h.fl, fun k g hg => ?_, fun k g hg => ?_⟩
  · obtain ⟨h1, h2, h3⟩ := h.hW k g hg
    refine ⟨(hk ⟨wt, k, none⟩ h.hWB h.wP h.wI).trans h1, h2, fun j x hx => ?_⟩
    obtain ⟨a, e, h4, h5, h6, h7, h8⟩ := h3 j x hx
    exact ⟨a, e, h4, h5, h6, (hk (a.add (j * 2)) (by rw [add_blk]; exact h6) (by rw [add_blk]; exact h4) (by rw [add_blk]; exact h5)).trans h7, (hk ⟨(a.add (j * 2)).block, (a.add (j * 2)).off + 1, none⟩ (show (a.add (j * 2)).block < B by rw [add_blk]; exact h6) (show (a.add (j * 2)).block ≠ P by rw [add_blk]; exact h4) (show (a.add (j * 2)).block ≠ ib by rw [add_blk]; exact h5)).trans h8⟩
  · obtain ⟨h1, h2, h3⟩ := h.hF k g hg
    refine ⟨(hk ⟨ft, k, none⟩ h.hFB h.fP h.fI).trans h1, h2, fun j x hx => ?_⟩
    obtain ⟨a, e, h4, h5, h6, h7⟩ := h3 j x hx
    exact ⟨a, e, h4, h5, h6, (hk (a.add j) (by rw [add_blk]; exact h6) (by rw [add_blk]; exact h4) (by rw [add_blk]; exact h5)).trans h7⟩
theorem MAt.grown (h : MAt B w P wt ft ib n ws fs WL FL I sets) (hg : w.grownBy w' row) (hr : ∀ k, row = some k → B ≤ k) : MAt B w' P wt ft ib n ws fs WL FL I sets :=
  h.turn (.grown hg) hr ((hg.block P (Nat.lt_of_lt_of_le h.hPB h.hB) (fun e => by have := hr _ e.symm; have := h.hPB; omega)).trans h.hP) ((hg.block ib (Nat.lt_of_lt_of_le h.hIB h.hB) (fun e => by have := hr _ e.symm; have := h.hIB; omega)).trans h.hI) h.len
theorem MAt.alloc (h : MAt B w P wt ft ib n ws fs WL FL I sets) (o : Obj) : MAt B (w.alloc o) P wt ft ib n ws fs WL FL I sets := h.grown (World.grownBy_alloc w o none) (fun _ e => by cases e)
theorem MAt.drew (h : MAt B w P wt ft ib n ws fs WL FL I sets) (k : Nat) : MAt B (w.drewN k) P wt ft ib n ws fs WL FL I sets := h.turn (Ch.drew P ib none w k) (fun _ e => by cases e) h.hP h.hI h.len
theorem MAt.c0 (h : MAt B w P wt ft ib n ws fs WL FL I sets) : w.cell? ⟨P, 0, none⟩ = some (.slice (some ⟨wt, 0, none⟩) n n) := by rw [cell_of_row w P 0 _ 132 (0, 0) h.hP]; rfl
theorem MAt.c1 (h : MAt B w P wt ft ib n ws fs WL FL I sets) : w.cell? ⟨P, 1, none⟩ = some (.slice (some ⟨ft, 0, none⟩) n n) := by rw [cell_of_row w P 1 _ 132 (0, 0) h.hP]; rfl
theorem MAt.c2 (h : MAt B w P wt ft ib n ws fs WL FL I sets) : w.cell? ⟨P, 2, none⟩ = some (.slice (some ⟨ib, 0, none⟩) n n) := by rw [cell_of_row w P 2 _ 132 (0, 0) h.hP]; rfl
theorem MAt.c3 (h : MAt B w P wt ft ib n ws fs WL FL I sets) : w.cell? ⟨P, 3, none⟩ = some (.int .i64 sets) := by rw [cell_of_row w P 3 _ 132 (0, 0) h.hP]; rfl
theorem MAt.ci (h : MAt B w P wt ft ib n ws fs WL FL I sets) {t : Nat} {z : Int} (ht : I[t]? = some z) : w.cell? ⟨ib, t, none⟩ = some (.int .i64 z) := by
  rw [cell_of_row w ib t _ 3 (0, 0) h.hI, List.getElem?_toArray, i64s_at, ht]; rfl
theorem MAt.fzI (h : MAt B w P wt ft ib n ws fs WL FL I sets) (t : Nat) : w.frozen? ⟨ib, t, none⟩ = false := frozen_of_row w ib t _ 3 h.hI
theorem MAt.fzP (h : MAt B w P wt ft ib n ws fs WL FL I sets) (t : Nat) : w.frozen? ⟨P, t, none⟩ = false := frozen_of_row w P t _ 132 h.hP
theorem i64s_set (I : List Int) (t : Nat) (z : Int) : (i64s I).toArray.setIfInBounds t (.int .i64 z) = (i64s (I.set t z)).toArray := by
  rw [List.setIfInBounds_toArray]; unfold i64s; rw [List.map_set]
theorem MAt.setI (h : MAt B w P wt ft ib n ws fs WL FL I sets) (t : Nat) (z : Int) : MAt B (w.setCell ⟨ib, t, none⟩ (.int .i64 z)) P wt ft ib n ws fs WL FL (I.set t z) sets :=
  h.turn (Ch.setCell P ib none w _ _ (.inr rfl)) (fun _ e => by cases e) ((heap_setCell_other w _ P _ h.ne).trans h.hP) (by rw [heap_setCell_same w ib t _ 3 _ h.hI, i64s_set]) (by rw [List.length_set]; exact h.len)
theorem MAt.setS (h : MAt B w P wt ft ib n ws fs WL FL I sets) (z : Int) : MAt B (w.setCell ⟨P, 3, none⟩ (.int .i64 z)) P wt ft ib n ws fs WL FL I z :=
  h.turn (Ch.setCell P ib none w _ _ (.inl rfl)) (fun _ e => by cases e) (by rw [heap_setCell_same w P 3 _ 132 _ h.hP]; rfl) ((heap_setCell_other w _ ib _ (Ne.symm h.ne)).trans h.hI) h.len
end
end Go.Proofs.YteacehfihogmpaaDoor
