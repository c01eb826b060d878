/- The contract of the iterator of Runs (package runes): it hands on the runs of a set in a text, in order. -/
import Derived.RangeFuncNested
import Derived.RangeFuncBound
import Derived.RangeFuncCalls
import Derived.RangeFuncLeaves
import Derived.Shelf.Abstract
import Derived.Shelf.RegionOpen
import Derived.OwnWalkIn
import Derived.TacticsInMore
import Derived.LoopNIn
import Derived.LoopIn
import Derived.Maps.AppendAt
import Derived.Laws.RangeAny
import Derived.Test.YtohhokjlgihbgaaGreatDoorCNot
namespace Go.Proofs.YtohhokjlgihbgaaGreatDoor
open Go.RowKit Go.Shelf
attribute [local go_sem] Oper.semAt_some

theorem run_next_at {P : Program} (w : World) (it : Nat) (s : ByteArray) (pos : Nat) (ty : TypeId) (hit : w.heap[it]? = some (.stringIter s pos)) (h : pos < s.size) :
    (Instr.next (.pointer (some ⟨it, 0, none⟩)) true ty).run P w = .ok (.tuple #[.bool true, .int .i64 pos, .int .i32 (Utf8.decode s pos).1]) (w.putObj it (.stringIter s (pos + (Utf8.decode s pos).2))) := by
  simp [Instr.next, getObj, setObj, Sem.run_bind, Sem.run, hit, Result.andThen, h, goInt, World.putObj]
theorem run_next_stop {P : Program} (w : World) (it : Nat) (s : ByteArray) (pos : Nat) (ty : TypeId) (hit : w.heap[it]? = some (.stringIter s pos)) (h : ¬ pos < s.size) :
    (Instr.next (.pointer (some ⟨it, 0, none⟩)) true ty).run P w = .ok (.tuple #[.bool false]) w := by
  simp [Instr.next, getObj, Sem.run, hit, h]

/-- What a body must leave as it was: the walks, and some blocks. -/
def Kr (K : Nat → Prop) (W W' : World) : Prop := KeepsWalks W W' ∧ ∀ k, K k → W'.heap[k]? = W.heap[k]?
theorem Kr_t {K : Nat → Prop} {A B C : World} (h : Kr K A B) (k : Kr K B C) : Kr K A C := ⟨h.1.trans k.1, fun i h1 => (k.2 i h1).trans (h.2 i h1)⟩
theorem Kr_b {K : Nat → Prop} {w : World} (hw : ∀ k, K k → k < w.heap.size) (W : World) (l : Nat) (o o' : Obj) (hl : w.heap.size ≤ l) (h : W.heap[l]? = some o) (_ : o.isCells = false) (hk : o.isWalk = false) : Kr K W (W.putObj l o') :=
  ⟨KeepsWalks.putObj _ h hk, fun k h2 => World.putObj_heap_other (by have := hw k h2; omega)⟩

/-- The blocks that the iterator of Runs reads. -/
def KR (Bs Bl : Nat) (so : Option Addr) (k : Nat) : Prop := k = Bs ∨ k = Bl ∨ ∃ a : Addr, so = some a ∧ a.block = k
/-- What the iterator of Runs has caught: the text and a normal form. -/
structure RunsAt (Bs Bl : Nat) (l : List UInt8) (so : Option Addr) (sc : Nat) (s : List Rg) (w : World) : Prop where
  bs : Boxed w Bs 9 (.string ⟨l.toArray⟩)
  bl : Boxed w Bl 47 (.slice so s.length sc)
  row : ∀ a : Addr, so = some a → ∃ c fz, w.heap[a.block]? = some (.cells c 84 fz)
  rd : RdR w so s
theorem RunsAt.lt {Bs Bl : Nat} {l : List UInt8} {so : Option Addr} {sc : Nat} {s : List Rg} {w : World} (h : RunsAt Bs Bl l so sc s w) : ∀ k, KR Bs Bl so k → k < w.heap.size := fun k hk => by
  rcases hk with rfl | rfl | ⟨a, h1, rfl⟩
  · exact h.bs.lt
  · exact h.bl.lt
  · obtain ⟨c, fz, hc⟩ := h.row a h1
    exact (Array.getElem?_eq_some_iff.1 hc).1
theorem RunsAt.keeps {Bs Bl : Nat} {l : List UInt8} {so : Option Addr} {sc : Nat} {s : List Rg} {w w' : World} (h : RunsAt Bs Bl l so sc s w) (hs : w.heap.size ≤ w'.heap.size) (hk : ∀ k, KR Bs Bl so k → w'.heap[k]? = w.heap[k]?) : RunsAt Bs Bl l so sc s w' where
  bs := (hk Bs (.inl rfl)).trans h.bs
  bl := (hk Bl (.inr (.inl rfl))).trans h.bl
  row := fun a ha => by
    obtain ⟨c, fz, hc⟩ := h.row a ha
    exact ⟨c, fz, (hk a.block (.inr (.inr ⟨a, ha, rfl⟩))).trans hc⟩
  rd := fun k g hg => by
    obtain ⟨a, h1, h2, h3, h4⟩ := h.rd k g hg
    have hb := hk a.block (.inr (.inr ⟨a, h1, rfl⟩))
    exact ⟨a, h1, Nat.lt_of_lt_of_le h2 hs, (World.cell?_of_block (w := w) (a := a.add (k * 2)) (by rw [add_blk]; exact hb)).trans h3, (World.cell?_of_block (w := w) (a := ⟨(a.add (k * 2)).block, (a.add (k * 2)).off + 1, none⟩) (by show _[(a.add (k * 2)).block]? = _[(a.add (k * 2)).block]?; rw [add_blk]; exact hb)).trans h4⟩
theorem RunsAt.below {Bs Bl B : Nat} {l : List UInt8} {so : Option Addr} {sc : Nat} {s : List Rg} {w w' : World} (h : RunsAt Bs Bl l so sc s w) (hb : Below B w w') (hB : w.heap.size ≤ B) : RunsAt Bs Bl l so sc s w' :=
  h.keeps hb.size (fun k h2 => hb.block k (Nat.lt_of_lt_of_le (h.lt k h2) hB))
theorem grown_below {w w' : World} (h : Below w.heap.size w w') : w.grownBy w' none := ⟨h.os, h.tape, h.output, h.size, fun k hk _ => h.block k hk⟩

def encR (l : List UInt8) (x : Tw l) : Array Value := #[.int .i64 (x.val.1 : Int), .int .i64 (x.val.2 : Int)]

end Go.Proofs.YtohhokjlgihbgaaGreatDoor
/- The contract of Runs (package runes). -/
namespace Go.Proofs.YtohhokjlgihbgaaGreatDoor
open Go.RowKit

end Go.Proofs.YtohhokjlgihbgaaGreatDoor
