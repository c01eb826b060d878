/- GrLaw2, Bld2: parts of the proof, joined. -/
import Derived.Test.YtdpohgoikbeplaaGreatDoorPGrFst
import Derived.Test.YtdpohgoikbeplaaGreatDoorPBld
namespace Go.Proofs.YtdpohgoikbeplaaGreatDoor.Wt
open Go.RowKit Go.Shelf
structure BSu (B : Nat) (S : Nat -> Prop) (W W' : World) : Prop where
 low : Below B W W'
 block : ∀ k o, W.heap[k]? = some o -> ¬ S k -> (∀ c fz, o ≠ .cells c 5 fz) -> W'.heap[k]? = some o
 others : KeepsOthers W W'
theorem BSu.refl (B : Nat) (S : Nat -> Prop) (W : World) : BSu B S W W := ⟨Below.refl _ _, fun _ _ h _ _ => h, KeepsOthers.refl W⟩
theorem BSu.trans {B : Nat} {S : Nat -> Prop} {X Y Z : World} (h : BSu B S X Y) (k : BSu B S Y Z) : BSu B S X Z :=
 ⟨h.low.trans k.low, fun i o hi hs ho => k.block i o (h.block i o hi hs ho) hs ho, ⟨Nat.le_trans h.others.size k.others.size, fun i o hi ho => k.others.same i o (h.others.same i o hi ho) ho⟩⟩
theorem BSu.write {B b : Nat} {S : Nat -> Prop} {W W' : World} (h : Below B W W') (ho : Lib.OthersKept 5 (some b) W W') (hS : S b) (hb : ∃ c t, W.heap[b]? = some (.cells c t (0, 0))) : BSu B S W W' :=
 ⟨h, fun k o hk hs h5 => ho k o hk (fun e => hs (by cases e; exact hS)) h5, ⟨h.size, fun k o hk hc => ho k o hk (fun e => by
  cases e
  obtain ⟨c, t, h1⟩ := hb
  rw [h1] at hk
  cases hk
  cases hc) (fun c fz e => by subst e; cases hc)⟩⟩
theorem bsu_from {β : Type} (B : Nat) (S : Nat -> Prop) (w : World) (hB : B <= w.heap.size) : OwnFrom w.heap.size (fun (_ : β) W => BSu B S w W) := fun _ A C row h hg hr => by
 have hb : ∀ k, k < w.heap.size -> C.heap[k]? = A.heap[k]? := fun k hk => hg.block k (Nat.lt_of_lt_of_le hk h.low.size) (fun e => by
  obtain ⟨hle, _⟩ := hr k e.symm
  omega)
 exact ⟨⟨hg.os.trans h.low.os, hg.tape.trans h.low.tape, hg.output.trans h.low.output, Nat.le_trans h.low.size hg.size, fun k hk => (hb k (by omega)).trans (h.low.block k hk)⟩,
  fun k o hk hs ho => (hb k (Array.getElem?_eq_some_iff.1 hk).1).trans (h.block k o hk hs ho),
  ⟨Nat.le_trans h.low.size hg.size, fun k o hk ho => (hb k (Array.getElem?_eq_some_iff.1 hk).1).trans (h.others.same k o hk ho)⟩⟩
theorem BSu.boxed {B : Nat} {S : Nat -> Prop} {W W' : World} {k : Nat} {t : TypeId} {v : Value} (h : BSu B S W W') (hb : Boxed W k t v) (hk : ¬ S k) (ht : t ≠ 5) : Boxed W' k t v := h.block k _ hb hk (fun c fz e => ht (by cases e; rfl))
theorem BSu.cells {B : Nat} {S : Nat -> Prop} {W W' : World} {k : Nat} {t : TypeId} {v : Array Value} {z : Nat × Nat} (h : BSu B S W W') (hb : W.heap[k]? = some (.cells v t z)) (hk : ¬ S k) (ht : t ≠ 5) : W'.heap[k]? = some (.cells v t z) := h.block k _ hb hk (fun c fz e => ht (by cases e; rfl))
theorem BSu.keeps {B : Nat} {S : Nat -> Prop} {Bs : Nat} {l : List UInt8} {W W' : World} (h : BSu B S W W') (h2 : 3 <= B) (hS : ¬ S Bs) (hE : WaAt Bs l W) : ∀ k, KW Bs k -> W'.heap[k]? = W.heap[k]? := by
 rintro k (rfl | hk)
 ·exact (h.boxed hE.bs hS (by decide)).trans hE.bs.symm
 ·exact h.low.block k (by omega)
end Go.Proofs.YtdpohgoikbeplaaGreatDoor.Wt
namespace Go.Proofs.YtdpohgoikbeplaaGreatDoor.Wt
open Go.RowKit Go.Shelf
theorem write_any (B b : Nat) (T u : List UInt8) (s : ByteArray) (w : World) (h : Lib.IsBuilderF 72 5 B b (Lib.byteCells T) w) (hs : s = ⟨u.toArray⟩) (hlen : T.length + u.length <= 140737488355328) (hBw : B <= w.heap.size) :
  Calls Tryz.prog 71 #[.pointer (some ⟨b, 0, none⟩), .string s] w fun e w' => (∃ v, e = .returned v) /\ Lib.IsBuilderF 72 5 B b (Lib.byteCells (T ++ u)) w' /\ Below B w w' /\ Lib.OthersKept 5 (some b) w w' := by
 subst hs
 have hc : Lib.byteCells T ++ Lib.strCells ⟨u.toArray⟩ = Lib.byteCells (T ++ u) := by
  unfold Lib.byteCells Lib.strCells
  simp
 refine (Any.Builder_WriteString_k Tryz.lays166 Tryz.Builder_Extra_166 B b (Lib.byteCells T) ⟨u.toArray⟩ w h ?_ hBw).mono ?_
 ·rw [Lib.byteCells_length]
  show _ + u.toArray.size <= _
  simpa using hlen
 ·rintro e w' ⟨rfl, h1, h2, h3⟩
  rw [hc] at h1
  exact ⟨⟨_, rfl⟩, .inr h1, h2, h3⟩
theorem string_any (B b : Nat) (T : List UInt8) (w : World) (h : Lib.IsBuilderF 72 5 B b (Lib.byteCells T) w) (hBw : B <= w.heap.size) :
  Calls Tryz.prog 72 #[.pointer (some ⟨b, 0, none⟩)] w fun e w' => e = .returned (.string ⟨T.toArray⟩) /\ Below B w w' /\ Lib.OthersKept 5 (some b) w w' :=
 (Any.Builder_String_any_k Tryz.lays169 Tryz.Builder_Extra_169 B b T w h hBw).mono fun _ _ h => ⟨h.1, h.2.2.1, h.2.2.2⟩
theorem builderF_own {β : Type} (B b : Nat) (f : β -> List Value) : Own (fun s W => Lib.IsBuilderF 72 5 B b (f s) W) := by
 have one : ∀ (p : Value) (s : β) (X Y : World) (row : Option Nat), Lib.BuilderAtF 72 5 B b p (f s) X -> X.grownBy Y row -> (∀ r, row = some r -> ∃ o : Obj, X.heap[r]? = some o /\ o.isCells = false) -> Lib.BuilderAtF 72 5 B b p (f s) Y := by
  rintro p s X Y row ⟨h1, v, hv, hr, hne⟩ hg hrow
  have kept : ∀ (k : Nat) c t fz, X.heap[k]? = some (Obj.cells c t fz) -> Y.heap[k]? = some (Obj.cells c t fz) := fun k c t fz hk =>
   (hg.block k (Array.getElem?_eq_some_iff.1 hk).1 (fun e => by
    obtain ⟨o, ho, hc⟩ := hrow k e.symm
    rw [hk] at ho; cases ho; cases hc)).trans hk
  refine ⟨h1, v, kept _ _ _ _ hv, ⟨hr.1, ?_⟩, hne⟩
  rcases hr.2 with h0 | ⟨g, cap, cur, fz, hv', hbg, hgg, hrr⟩
  ·exact .inl h0
  ·exact .inr ⟨g, cap, cur, fz, hv', hbg, kept _ _ _ _ hgg, hrr⟩
 rintro s X Y row h hg hrow
 exact h.imp (fun x => one _ s X Y row x hg hrow) (fun x => one _ s X Y row x hg hrow)
theorem bf_below {B b : Nat} {bs : List Value} {W W' : World} (h : Lib.IsBuilderF 72 5 B b bs W) (hb : Below W.heap.size W W') : Lib.IsBuilderF 72 5 B b bs W' :=
 builderF_own B b (fun (_ : Unit) => bs) () W W' none h (wgrown hb) (fun _ e => by cases e)
theorem bf_block {B b : Nat} {bs : List Value} {W : World} (h : Lib.IsBuilderF 72 5 B b bs W) : ∃ c t, W.heap[b]? = some (.cells c t (0, 0)) := by
 rcases h with ⟨_, v, h, _⟩ | ⟨_, v, h, _⟩
 ·exact ⟨_, _, h⟩
 ·exact ⟨_, _, h⟩
end Go.Proofs.YtdpohgoikbeplaaGreatDoor.Wt
