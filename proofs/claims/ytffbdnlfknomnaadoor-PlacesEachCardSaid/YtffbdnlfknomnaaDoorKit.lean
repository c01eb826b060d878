/- What the walks over texts share: the tables of package unicode/utf8, a text that an iterator has caught, what a loop's body leaves as it was. -/
import Derived.Test.YtffbdnlfknomnaaDoorBase
import Derived.Test.YtffbdnlfknomnaaDoorREdge
import Derived.Laws.RangeAny
import Derived.RangeFuncNested
import Derived.RangeFuncBound
import Derived.RangeFuncCalls
import Derived.RangeFuncLeaves
import Derived.Shelf.Abstract
import Derived.Shelf.RegionOpen
import Derived.OwnWalkIn
import Derived.TacticsInMore
import Derived.LoopNIn
import Derived.LoopIn
import Derived.Maps.AppendAt
namespace Go.Proofs.YtffbdnlfknomnaaDoor.Wt
open Go.RowKit Go.Shelf
/-- The tables of package unicode/utf8. -/
structure TbW (w : World) : Prop where
  tabs : Lib.Utf8Tabs 0 1 w
  two : 2 ≤ w.heap.size
theorem TbW.below {w w' : World} (h : TbW w) (hb : Below w.heap.size w w') : TbW w' := ⟨tabs_below h.tabs h.two hb, Nat.le_trans h.two hb.size⟩
theorem wtake (l : List UInt8) (t : Nat) : (⟨l.toArray⟩ : ByteArray).extract 0 t = ⟨(l.take t).toArray⟩ := by
  apply ByteArray.ext
  simp [ByteArray.data_extract]
def wstrLen : Value → Nat
  | .string s => s.size
  | _ => 0
theorem wnext_at {P : Program} (w : World) (it : Nat) (s : ByteArray) (pos : Nat) (ty : TypeId) (hit : w.heap[it]? = some (.stringIter s pos)) (h : pos < s.size) :
    (Instr.next (.pointer (some ⟨it, 0, none⟩)) true ty).run P w = .ok (.tuple #[.bool true, .int .i64 pos, .int .i32 (Utf8.decode s pos).1]) (w.putObj it (.stringIter s (pos + (Utf8.decode s pos).2))) := by
  simp [Instr.next, getObj, setObj, Sem.run_bind, Sem.run, hit, Result.andThen, h, goInt, World.putObj]
theorem wnext_stop {P : Program} (w : World) (it : Nat) (s : ByteArray) (pos : Nat) (ty : TypeId) (hit : w.heap[it]? = some (.stringIter s pos)) (h : ¬ pos < s.size) :
    (Instr.next (.pointer (some ⟨it, 0, none⟩)) true ty).run P w = .ok (.tuple #[.bool false]) w := by
  simp [Instr.next, getObj, Sem.run, hit, h]
/-- What a body must leave as it was: the walks, and some blocks. -/
def KrW (K : Nat → Prop) (W W' : World) : Prop := KeepsWalks W W' ∧ ∀ k, K k → W'.heap[k]? = W.heap[k]?
theorem KrW_t {K : Nat → Prop} {A B C : World} (h : KrW K A B) (k : KrW K B C) : KrW K A C := ⟨h.1.trans k.1, fun i h1 => (k.2 i h1).trans (h.2 i h1)⟩
theorem KrW_b {K : Nat → Prop} {w : World} (hw : ∀ k, K k → k < w.heap.size) (W : World) (l : Nat) (o o' : Obj) (hl : w.heap.size ≤ l) (h : W.heap[l]? = some o) (_ : o.isCells = false) (hk : o.isWalk = false) : KrW K W (W.putObj l o') :=
  ⟨KeepsWalks.putObj _ h hk, fun k h2 => World.putObj_heap_other (by have := hw k h2; omega)⟩
theorem wgrown {w w' : World} (h : Below w.heap.size w w') : w.grownBy w' none := ⟨h.os, h.tape, h.output, h.size, fun k hk _ => h.block k hk⟩
/-- The blocks that the iterator of Each reads. -/
def KW (Bs k : Nat) : Prop := k = Bs ∨ k < 2
/-- What the iterator has caught: the text; and the tables. -/
structure WaAt (Bs : Nat) (l : List UInt8) (w : World) : Prop where
  bs : Boxed w Bs 9 (.string ⟨l.toArray⟩)
  tb : TbW w
theorem WaAt.lt {Bs : Nat} {l : List UInt8} {w : World} (h : WaAt Bs l w) : ∀ k, KW Bs k → k < w.heap.size := fun k hk => by
  rcases hk with rfl | hk
  · exact h.bs.lt
  · exact Nat.lt_of_lt_of_le hk h.tb.two
theorem WaAt.keeps {Bs : Nat} {l : List UInt8} {w w' : World} (h : WaAt Bs l w) (hs : w.heap.size ≤ w'.heap.size) (hk : ∀ k, KW Bs k → w'.heap[k]? = w.heap[k]?) : WaAt Bs l w' where
  bs := (hk Bs (.inl rfl)).trans h.bs
  tb := ⟨⟨fun c hc => (World.cell?_of_block (w := w) (a := ⟨0, c, none⟩) (hk 0 (.inr (by decide)))).trans (h.tb.tabs.1 c hc), fun i hi => ⟨(World.cell?_of_block (w := w) (a := ⟨1, 2 * i, none⟩) (hk 1 (.inr (by decide)))).trans (h.tb.tabs.2 i hi).1, (World.cell?_of_block (w := w) (a := ⟨1, 2 * i + 1, none⟩) (hk 1 (.inr (by decide)))).trans (h.tb.tabs.2 i hi).2⟩⟩, Nat.le_trans h.tb.two hs⟩
theorem WaAt.below {Bs : Nat} {l : List UInt8} {w w' : World} (h : WaAt Bs l w) (hb : Below w.heap.size w w') : WaAt Bs l w' :=
  h.keeps hb.size (fun k h2 => hb.block k (h.lt k h2))
theorem Tryd.info3 : (Tryd.prog.info? 3).map (fun i => (i.zero, i.size, i.bytes)) = some (some (.int .i64 0), 1, 8) := by kernel_rfl
def i64s (l : List Int) : List Value := l.map fun z => .int .i64 z
theorem i64s_snoc (l : List Int) (z : Int) : i64s (l ++ [z]) = i64s l ++ [.int .i64 z] := by simp [i64s]
theorem waAt_from {β : Type} (B Bs : Nat) (l : List UInt8) (hB : 2 ≤ B) : OwnFrom B (fun (_ : β) W => WaAt Bs l W) := fun _ A C row h hg hr => by
  refine h.keeps hg.size fun k hk => hg.block k (h.lt k hk) fun e => ?_
  obtain ⟨hle, o, ho, hc⟩ := hr k e.symm
  rcases hk with rfl | hk
  · have := h.bs; unfold Boxed at this; rw [this] at ho; cases ho; cases hc
  · omega
end Go.Proofs.YtffbdnlfknomnaaDoor.Wt
