/- A law for a range over the iterator of Each (package grapheme) whose body keeps a relation; bodies that write a Builder. -/
import Derived.Test.YtlfegdpclappiaaDoorGrLaw
import Derived.Test.YtlfegdpclappiaaDoorBld
namespace Go.Proofs.YtlfegdpclappiaaDoor
open Go.RowKit Go.Shelf

theorem rfR {l : List UInt8} {n : Nat} {g : Operand} {ps : Array Tmp} {assign body : Code} {Q : Exit → Act → World → Prop} {a : Act} {w : World}
    (Bs : Nat) (R : World → World → Prop) (L : List (Pl l)) (h1 : 2 ≤ n) (hg : a.eval g = .func (.func 51) #[] #[.pointer (some ⟨Bs, 0, none⟩)])
    (hL : L.map Pl.v = gpF l 0) (hE : WaAt Bs l w) (hl : l.length ≤ 1000000000) (hps : 2 = ps.size) (hR0 : ∀ W, R W W) (hRt : ∀ {A B C : World}, R A B → R B C → R A C) (hRo : ∀ {A B : World}, R A B → KeepsOthers A B) (hRk : ∀ {A B : World}, R A B → WaAt Bs l A → ∀ k, KW Bs k → B.heap[k]? = A.heap[k]?) (hRf : OwnFrom w.heap.size (fun (_ : List (Pl l)) W => R w W))
    (I : List (Pl l) → World → Prop) (Ix : Code → List (Pl l) → World → Prop) (hI : OwnFrom w.heap.size I) (hIx : ∀ c, OwnFrom w.heap.size (Ix c)) (h0 : I [] w) (a₁ : Pl l → Act)
    (hassign : ∀ (lp : Nat) (x : Pl l) (W : World) (K : Act → World → Prop), K (a₁ x) W →
      assign.wpIn (Fence.wide.inRound lp) (n - 1 - 1) Tryd.prog (Exit.then K (fun _ _ _ => False)) { tmps := (ps.zip (encP x)).foldl (fun t (p, v) => t.setIfInBounds p v) a.tmps, defers := [] } W)
    (hbody : ∀ (lp : Nat) (pre : List (Pl l)) (x : Pl l) (W : World), I pre W → R w W → WaAt Bs l W → pre.length < L.length → body.wpIn (Fence.wide.inRound lp) (n - 1 - 1) Tryd.prog (fun e _ W' => R W W' ∧ bdQ I Ix (pre ++ [x]) e W') (a₁ x) W)
    (hdone : ∀ (D : Nat) (W : World), w.heap.size ≤ D → I L W → R w W → W.heap[D]? = some (.deferred (some [])) → Q .normal { a with defers := { target := .collected D, args := #[] } :: a.defers } W)
    (hstop : ∀ (D : Nat) (c : Code) (pre : List (Pl l)) (W : World), w.heap.size ≤ D → pre <+: L → Ix c pre W → R w W → W.heap[D]? = some (.deferred (some [])) → c.wpIn Fence.wide n Tryd.prog Q { a with defers := { target := .collected D, args := #[] } :: a.defers } W) :
    (Code.rangeFunc g ps assign body).wpIn Fence.wide n Tryd.prog Q a w := by
  have h2 := hE.tb.two
  refine wpIn_rangeFunc_ownG (F := Fence.wide) rfl (by omega) hg trivial (enters_of Tryd.func51 (by kernel_rfl) rfl) (geach_stops (n - 1) (by omega) Bs l L hL w hE hl) KrW_t (KrW_b hE.lt) (Below.refl _ _) (fun _ => hps)
    (fun pre W => (I pre W ∧ R w W) ∧ WaAt Bs l W) (fun c pre W => Ix c pre W ∧ R w W)
    (OwnFrom.and (OwnFrom.and hI hRf) (waAt_from _ _ l h2)) (fun c => OwnFrom.and (hIx c) hRf) ⟨⟨h0, hR0 w⟩, hE⟩ a₁ hassign ?_ ?_ ?_
  · rintro lp pre x W ⟨⟨hi, hb⟩, he⟩ hlt
    refine wpIn_mono (hbody lp pre x W hi hb he hlt) ?_
    rintro e _ W' ⟨hB, hq⟩
    have hO := hRo hB
    have hK : KrW (KW Bs) W W' := ⟨⟨hO.size, fun k o hk hw => hO.same k o hk (Obj.not_cells_of_walk hw)⟩, hRk hB he⟩
    cases e with
    | normal => exact ⟨hO.from _, hK, ⟨hq, hRt hb hB⟩, he.keeps hO.size hK.2⟩
    | ret => exact ⟨hO.from _, hq, hRt hb hB⟩
    | exit i => exact ⟨hO.from _, hq, hRt hb hB⟩
    | goto t => exact (hq : False).elim
    | panic c => exact (hq : False).elim
    | outgrown => exact (hq : False).elim
  · rintro D xs W hD rfl ⟨⟨hi, hb⟩, _⟩ hK
    exact hdone D W hD hi hb hK
  · rintro D c pre W hD hp ⟨hx, hb⟩ hK
    exact hstop D c pre W hD hp hx hb hK
theorem rfRF {l : List UInt8} {n : Nat} {g : Operand} {ps : Array Tmp} {assign body : Code} {Q : Exit → Act → World → Prop} {a : Act} {w : World}
    (Bs : Nat) (R : World → World → Prop) (L : List (Pl l)) (h1 : 2 ≤ n) (hg : a.eval g = .func (.func 51) #[] #[.pointer (some ⟨Bs, 0, none⟩)])
    (hL : L.map Pl.v = gpF l 0) (hE : WaAt Bs l w) (hl : l.length ≤ 1000000000) (hps : 2 = ps.size) (hR0 : ∀ W, R W W) (hRt : ∀ {A B C : World}, R A B → R B C → R A C) (hRo : ∀ {A B : World}, R A B → KeepsOthers A B) (hRk : ∀ {A B : World}, R A B → WaAt Bs l A → ∀ k, KW Bs k → B.heap[k]? = A.heap[k]?) (hRf : OwnFrom w.heap.size (fun (_ : List (Pl l)) W => R w W))
    (I : List (Pl l) → World → Prop) (Ix : Code → List (Pl l) → World → Prop) (hI : OwnFrom w.heap.size I) (hIx : ∀ c, OwnFrom w.heap.size (Ix c)) (h0 : I [] w) (d1 d2 : Nat)
    (hassign : ∀ (lp : Nat) (x : Pl l) (W : World) (K : Act → World → Prop), K (fr a ps d1 d2 x) W →
      assign.wpIn (Fence.wide.inRound lp) (n - 1 - 1) Tryd.prog (Exit.then K (fun _ _ _ => False)) { tmps := (ps.zip (encP x)).foldl (fun t (p, v) => t.setIfInBounds p v) a.tmps, defers := [] } W)
    (hbody : ∀ (lp : Nat) (pre : List (Pl l)) (x : Pl l) (W : World), I pre W → R w W → WaAt Bs l W → pre.length < L.length → body.wpIn (Fence.wide.inRound lp) (n - 1 - 1) Tryd.prog (fun e _ W' => R W W' ∧ bdQ I Ix (pre ++ [x]) e W') (fr a ps d1 d2 x) W)
    (hdone : ∀ (D : Nat) (W : World), w.heap.size ≤ D → I L W → R w W → W.heap[D]? = some (.deferred (some [])) → Q .normal { a with defers := { target := .collected D, args := #[] } :: a.defers } W)
    (hstop : ∀ (D : Nat) (c : Code) (pre : List (Pl l)) (W : World), w.heap.size ≤ D → pre <+: L → Ix c pre W → R w W → W.heap[D]? = some (.deferred (some [])) → c.wpIn Fence.wide n Tryd.prog Q { a with defers := { target := .collected D, args := #[] } :: a.defers } W) :
    (Code.rangeFunc g ps assign body).wpIn Fence.wide n Tryd.prog Q a w :=
  rfR Bs R L h1 hg hL hE hl hps hR0 (fun h k => hRt h k) hRo hRk hRf I Ix hI hIx h0 (fr a ps d1 d2) hassign hbody hdone hstop
/-- What a body does that writes a Builder at b: rows of bytes from B on, and blocks of S, may be others. -/
structure BSu (B : Nat) (S : Nat → Prop) (W W' : World) : Prop where
  low : Below B W W'
  block : ∀ k o, W.heap[k]? = some o → ¬ S k → (∀ c fz, o ≠ .cells c 5 fz) → W'.heap[k]? = some o
  others : KeepsOthers W W'
theorem BSu.refl (B : Nat) (S : Nat → Prop) (W : World) : BSu B S W W := ⟨Below.refl _ _, fun _ _ h _ _ => h, KeepsOthers.refl W⟩
theorem BSu.trans {B : Nat} {S : Nat → Prop} {X Y Z : World} (h : BSu B S X Y) (k : BSu B S Y Z) : BSu B S X Z :=
  ⟨h.low.trans k.low, fun i o hi hs ho => k.block i o (h.block i o hi hs ho) hs ho, ⟨Nat.le_trans h.others.size k.others.size, fun i o hi ho => k.others.same i o (h.others.same i o hi ho) ho⟩⟩
theorem BSu.of {B : Nat} {S : Nat → Prop} {W W' : World} (h : BS S W W') (hB : ∀ k, S k → B ≤ k) (hs : B ≤ W.heap.size) : BSu B S W W' :=
  ⟨h.lower B hB hs, fun k _ hk hsk _ => (h.block k (Array.getElem?_eq_some_iff.1 hk).1 hsk).trans hk, h.others⟩
theorem BSu.write {B b : Nat} {S : Nat → Prop} {W W' : World} (h : Below B W W') (ho : Lib.OthersKept 5 (some b) W W') (hS : S b) (hb : ∃ c t, W.heap[b]? = some (.cells c t (0, 0))) : BSu B S W W' :=
  ⟨h, fun k o hk hs h5 => ho k o hk (fun e => hs (by cases e; exact hS)) h5, ⟨h.size, fun k o hk hc => ho k o hk (fun e => by
    cases e
    obtain ⟨c, t, h1⟩ := hb
    rw [h1] at hk
    cases hk
    cases hc) (fun c fz e => by subst e; cases hc)⟩⟩
theorem bsu_from {β : Type} (B : Nat) (S : Nat → Prop) (w : World) (hB : B ≤ w.heap.size) : OwnFrom w.heap.size (fun (_ : β) W => BSu B S w W) := fun _ A C row h hg hr => by
  have hb : ∀ k, k < w.heap.size → C.heap[k]? = A.heap[k]? := fun k hk => hg.block k (Nat.lt_of_lt_of_le hk h.low.size) (fun e => by
    obtain ⟨hle, _⟩ := hr k e.symm
    omega)
  exact ⟨⟨hg.os.trans h.low.os, hg.tape.trans h.low.tape, hg.output.trans h.low.output, Nat.le_trans h.low.size hg.size, fun k hk => (hb k (by omega)).trans (h.low.block k hk)⟩,
    fun k o hk hs ho => (hb k (Array.getElem?_eq_some_iff.1 hk).1).trans (h.block k o hk hs ho),
    ⟨Nat.le_trans h.low.size hg.size, fun k o hk ho => (hb k (Array.getElem?_eq_some_iff.1 hk).1).trans (h.others.same k o hk ho)⟩⟩
theorem BSu.boxed {B : Nat} {S : Nat → Prop} {W W' : World} {k : Nat} {t : TypeId} {v : Value} (h : BSu B S W W') (hb : Boxed W k t v) (hk : ¬ S k) (ht : t ≠ 5) : Boxed W' k t v := h.block k _ hb hk (fun c fz e => ht (by cases e; rfl))
theorem BSu.cells {B : Nat} {S : Nat → Prop} {W W' : World} {k : Nat} {t : TypeId} {v : Array Value} {z : Nat × Nat} (h : BSu B S W W') (hb : W.heap[k]? = some (.cells v t z)) (hk : ¬ S k) (ht : t ≠ 5) : W'.heap[k]? = some (.cells v t z) := h.block k _ hb hk (fun c fz e => ht (by cases e; rfl))
theorem BSu.keeps {B : Nat} {S : Nat → Prop} {Bs : Nat} {l : List UInt8} {W W' : World} (h : BSu B S W W') (h2 : 2 ≤ B) (hS : ¬ S Bs) (hE : WaAt Bs l W) : ∀ k, KW Bs k → W'.heap[k]? = W.heap[k]? := by
  rintro k (rfl | hk)
  · exact (h.boxed hE.bs hS (by decide)).trans hE.bs.symm
  · exact h.low.block k (by omega)
theorem Tryd.Builder_WriteString_k (B b : Nat) (bs : List Value) (s : ByteArray) (w : World) (h : Lib.IsBuilderF 62 5 B b bs w) (hlen : bs.length + s.size ≤ 140737488355328) (hBw : B ≤ w.heap.size) :
    Calls Tryd.prog 41 #[.pointer (some ⟨b, 0, none⟩), .string s] w fun e w' => e = .returned (.tuple #[.int .i64 s.size, .nilIface]) ∧ (Lib.BuilderAtF 62 5 B b (.pointer (some ⟨b, 0, none⟩)) (bs ++ Lib.strCells s) w' ∧ Below B w w' ∧ Lib.OthersKept 5 (some b) w w') :=
  Any.Builder_WriteString_k Tryd.lays166 Tryd.Builder_Extra_166 B b bs s w h hlen hBw
end Go.Proofs.YtlfegdpclappiaaDoor
