/- What a loop keeps: all but the cells of one block. -/
import Derived.RangeFuncNested
import Derived.Test.YtfahbdlcokoghabDoorRuns2
namespace Go.Proofs.YtfahbdlcokoghabDoor
open Go.RowKit Go.Shelf

/-- What a body did: whatever lay keeps, but the cells of one block. -/
structure KpA (b : Nat) (W W' : World) : Prop where
  size : W.heap.size ≤ W'.heap.size
  same : ∀ j : Nat, j < W.heap.size → j ≠ b → W'.heap[j]? = W.heap[j]?
  others : ∀ (o : Obj), W.heap[b]? = some o → o.isCells = false → W'.heap[b]? = some o
theorem KpA.refl (b : Nat) (W : World) : KpA b W W := ⟨Nat.le_refl _, fun _ _ _ => rfl, fun _ h _ => h⟩
theorem KpA.trans {b : Nat} {X Y Z : World} (h : KpA b X Y) (k : KpA b Y Z) : KpA b X Z := ⟨Nat.le_trans h.size k.size, fun j hj hb => (k.same j (Nat.lt_of_lt_of_le hj h.size) hb).trans (h.same j hj hb), fun o ho hc => k.others o (h.others o ho hc) hc⟩
theorem KpA.from {b : Nat} {X Y : World} (h : KpA b X Y) (B : Nat) : KeepsFrom B X Y := ⟨h.size, fun k o _ hk ho => by
  by_cases e : k = b
  · subst e; exact h.others o hk ho
  · exact (h.same k (Array.getElem?_eq_some_iff.1 hk).1 e).trans hk⟩
theorem KpA.below {b : Nat} {X Y : World} (h : Below X.heap.size X Y) : KpA b X Y := ⟨h.size, fun j hj _ => h.block j hj, fun _ ho _ => (h.block b (Array.getElem?_eq_some_iff.1 ho).1).trans ho⟩
theorem KpA.set {b : Nat} {X : World} {t : TypeId} {v : Value} (hb : Boxed X b t v) (u : Value) : KpA b X (X.setCell ⟨b, 0, none⟩ u) := ⟨by simp, fun j _ hj => Below.heap_setCell X ⟨b, 0, none⟩ u j hj, fun o ho hc => by
  have e : X.heap[b]? = _ := hb
  rw [e] at ho; cases ho; cases hc⟩
theorem ownFrom_kpA {β : Type} {b B : Nat} {w₀ : World} (hB : w₀.heap.size ≤ B) : OwnFrom B (fun (_ : β) W => KpA b w₀ W) :=
  fun _ X Y row hs hg hr => ⟨Nat.le_trans hs.size hg.size, fun j hj hb => by
    have h1 := hs.same j hj hb
    have h2 : j < X.heap.size := Nat.lt_of_lt_of_le hj hs.size
    exact (hg.block j h2 (fun e => by have := (hr j e.symm).1; omega)).trans h1, fun o ho hc => by
    have h1 := hs.others o ho hc
    refine (hg.block b (Array.getElem?_eq_some_iff.1 h1).1 (fun e => ?_)).trans h1
    have h2 := (hr b e.symm).1
    have h3 := (Array.getElem?_eq_some_iff.1 ho).1
    omega⟩

end Go.Proofs.YtfahbdlcokoghabDoor
