/- A law for a range over the iterator of Each (package grapheme) whose body changes boxes alone and may leave. -/
import Derived.Test.YtffbdnlfknomnaaDoorGrEach
namespace Go.Proofs.YtffbdnlfknomnaaDoor.Wt
open Go.RowKit Go.Shelf

/-- How a body may be left. -/
def bdQ {α : Type} (I : List α → World → Prop) (Ix : Code → List α → World → Prop) (xs : List α) : Exit → World → Prop
  | .normal, W => I xs W
  | .ret, W => Ix .ret xs W
  | .exit i, W => Ix (.exit i) xs W
  | _, _ => False
theorem bs_from {β : Type} (S : Nat → Prop) (w : World) : OwnFrom w.heap.size (fun (_ : β) W => BS S w W) := fun _ A C row h hg hr => by
  have hb : ∀ k, k < w.heap.size → C.heap[k]? = A.heap[k]? := fun k hk => hg.block k (Nat.lt_of_lt_of_le hk h.size) (fun e => by
    obtain ⟨hle, _⟩ := hr k e.symm
    omega)
  exact ⟨hg.os.trans h.os, hg.tape.trans h.tape, hg.output.trans h.output, Nat.le_trans h.size hg.size, fun k hk hs => (hb k hk).trans (h.block k hk hs),
    ⟨Nat.le_trans h.size hg.size, fun k o hk ho => (hb k (Array.getElem?_eq_some_iff.1 hk).1).trans (h.others.same k o hk ho)⟩⟩
theorem BS.keeps {S : Nat → Prop} {Bs : Nat} {l : List UInt8} {W W' : World} (h : BS S W W') (hS : ∀ k, S k → ¬ KW Bs k) (hE : WaAt Bs l W) : KrW (KW Bs) W W' :=
  ⟨⟨h.size, fun k o hk hw => h.others.same k o hk (Obj.not_cells_of_walk hw)⟩, fun k hk => h.block k (hE.lt k hk) (fun e => hS k e hk)⟩
theorem rfE {l : List UInt8} {n : Nat} {g : Operand} {ps : Array Tmp} {assign body : Code} {Q : Exit → Act → World → Prop} {a : Act} {w : World}
    (Bs : Nat) (S : Nat → Prop) (L : List (Pl l)) (h1 : 2 ≤ n) (hg : a.eval g = .func (.func 83) #[] #[.pointer (some ⟨Bs, 0, none⟩)])
    (hL : L.map Pl.v = gpF l 0) (hE : WaAt Bs l w) (hl : l.length ≤ 1000000000) (hps : 2 = ps.size) (hS : ∀ k, S k → ¬ KW Bs k)
    (I : List (Pl l) → World → Prop) (Ix : Code → List (Pl l) → World → Prop) (hI : OwnFrom w.heap.size I) (hIx : ∀ c, OwnFrom w.heap.size (Ix c)) (h0 : I [] w) (a₁ : Pl l → Act)
    (hassign : ∀ (lp : Nat) (x : Pl l) (W : World) (K : Act → World → Prop), K (a₁ x) W →
      assign.wpIn (Fence.wide.inRound lp) (n - 1 - 1) Tryd.prog (Exit.then K (fun _ _ _ => False)) { tmps := (ps.zip (encP x)).foldl (fun t (p, v) => t.setIfInBounds p v) a.tmps, defers := [] } W)
    (hbody : ∀ (lp : Nat) (pre : List (Pl l)) (x : Pl l) (W : World), I pre W → BS S w W → WaAt Bs l W → pre.length < L.length → body.wpIn (Fence.wide.inRound lp) (n - 1 - 1) Tryd.prog (fun e _ W' => BS S W W' ∧ bdQ I Ix (pre ++ [x]) e W') (a₁ x) W)
    (hdone : ∀ (D : Nat) (W : World), w.heap.size ≤ D → I L W → BS S w W → W.heap[D]? = some (.deferred (some [])) → Q .normal { a with defers := { target := .collected D, args := #[] } :: a.defers } W)
    (hstop : ∀ (D : Nat) (c : Code) (pre : List (Pl l)) (W : World), w.heap.size ≤ D → pre <+: L → Ix c pre W → BS S w W → W.heap[D]? = some (.deferred (some [])) → c.wpIn Fence.wide n Tryd.prog Q { a with defers := { target := .collected D, args := #[] } :: a.defers } W) :
    (Code.rangeFunc g ps assign body).wpIn Fence.wide n Tryd.prog Q a w := by
  have h2 := hE.tb.two
  refine wpIn_rangeFunc_ownG (F := Fence.wide) rfl (by omega) hg trivial (enters_of Tryd.func83 (by kernel_rfl) rfl) (geach_stops (n - 1) (by omega) Bs l L hL w hE hl) KrW_t (KrW_b hE.lt) (Below.refl _ _) (fun _ => hps)
    (fun pre W => (I pre W ∧ BS S w W) ∧ WaAt Bs l W) (fun c pre W => Ix c pre W ∧ BS S w W)
    (OwnFrom.and (OwnFrom.and hI (bs_from S w)) (waAt_from _ _ l h2)) (fun c => OwnFrom.and (hIx c) (bs_from S w)) ⟨⟨h0, BS.refl S w⟩, hE⟩ a₁ hassign ?_ ?_ ?_
  · rintro lp pre x W ⟨⟨hi, hb⟩, he⟩ hlt
    refine wpIn_mono (hbody lp pre x W hi hb he hlt) ?_
    rintro e _ W' ⟨hB, hq⟩
    have hK := hB.keeps hS he
    cases e with
    | normal => exact ⟨hB.others.from _, hK, ⟨hq, hb.trans hB⟩, he.keeps hB.size hK.2⟩
    | ret => exact ⟨hB.others.from _, hq, hb.trans hB⟩
    | exit i => exact ⟨hB.others.from _, hq, hb.trans hB⟩
    | goto t => exact (hq : False).elim
    | panic c => exact (hq : False).elim
    | outgrown => exact (hq : False).elim
  · rintro D xs W hD rfl ⟨⟨hi, hb⟩, _⟩ hK
    exact hdone D W hD hi hb hK
  · rintro D c pre W hD hp ⟨hx, hb⟩ hK
    exact hstop D c pre W hD hp hx hb hK
/-- The temporaries behind the assignment of the two loop variables. -/
def fr {l : List UInt8} (a : Act) (ps : Array Tmp) (d1 d2 : Nat) (x : Pl l) : Act :=
  { tmps := (((ps.zip (encP x)).foldl (fun t (p, v) => t.setIfInBounds p v) a.tmps).setIfInBounds d1 (.int .i64 (x.v.1 : Nat))).setIfInBounds d2 (.int .i64 (x.v.2 : Nat)), defers := [] }
theorem rfF {l : List UInt8} {n : Nat} {g : Operand} {ps : Array Tmp} {assign body : Code} {Q : Exit → Act → World → Prop} {a : Act} {w : World}
    (Bs : Nat) (S : Nat → Prop) (L : List (Pl l)) (h1 : 2 ≤ n) (hg : a.eval g = .func (.func 83) #[] #[.pointer (some ⟨Bs, 0, none⟩)])
    (hL : L.map Pl.v = gpF l 0) (hE : WaAt Bs l w) (hl : l.length ≤ 1000000000) (hps : 2 = ps.size) (hS : ∀ k, S k → ¬ KW Bs k)
    (I : List (Pl l) → World → Prop) (Ix : Code → List (Pl l) → World → Prop) (hI : OwnFrom w.heap.size I) (hIx : ∀ c, OwnFrom w.heap.size (Ix c)) (h0 : I [] w) (d1 d2 : Nat)
    (hassign : ∀ (lp : Nat) (x : Pl l) (W : World) (K : Act → World → Prop), K (fr a ps d1 d2 x) W →
      assign.wpIn (Fence.wide.inRound lp) (n - 1 - 1) Tryd.prog (Exit.then K (fun _ _ _ => False)) { tmps := (ps.zip (encP x)).foldl (fun t (p, v) => t.setIfInBounds p v) a.tmps, defers := [] } W)
    (hbody : ∀ (lp : Nat) (pre : List (Pl l)) (x : Pl l) (W : World), I pre W → BS S w W → WaAt Bs l W → pre.length < L.length → body.wpIn (Fence.wide.inRound lp) (n - 1 - 1) Tryd.prog (fun e _ W' => BS S W W' ∧ bdQ I Ix (pre ++ [x]) e W') (fr a ps d1 d2 x) W)
    (hdone : ∀ (D : Nat) (W : World), w.heap.size ≤ D → I L W → BS S w W → W.heap[D]? = some (.deferred (some [])) → Q .normal { a with defers := { target := .collected D, args := #[] } :: a.defers } W)
    (hstop : ∀ (D : Nat) (c : Code) (pre : List (Pl l)) (W : World), w.heap.size ≤ D → pre <+: L → Ix c pre W → BS S w W → W.heap[D]? = some (.deferred (some [])) → c.wpIn Fence.wide n Tryd.prog Q { a with defers := { target := .collected D, args := #[] } :: a.defers } W) :
    (Code.rangeFunc g ps assign body).wpIn Fence.wide n Tryd.prog Q a w :=
  rfE Bs S L h1 hg hL hE hl hps hS I Ix hI hIx h0 (fr a ps d1 d2) hassign hbody hdone hstop
theorem boxed_keep {A C : World} {B : Nat} {t : TypeId} {v : Value} {row : Option Nat} {n : Nat} (h : Boxed A B t v) (hg : A.grownBy C row) (hr : ∀ r, row = some r → n ≤ r ∧ ∃ o, A.heap[r]? = some o ∧ o.isCells = false) : Boxed C B t v :=
  boxed_own B t (fun (_ : Unit) => v) () A C row h hg (fun r e => (hr r e).2)
theorem BS.boxed {S : Nat → Prop} {W W' : World} {B : Nat} {t : TypeId} {v : Value} (h : BS S W W') (hb : Boxed W B t v) (hB : ¬ S B) : Boxed W' B t v := (h.block B hb.lt hB).trans hb
theorem bdrew {W : World} {B : Nat} {t : TypeId} {v : Value} (h : Boxed W B t v) : Boxed W.drew B t v := h
theorem BS.drew {S : Nat → Prop} (W : World) : BS S W W.drew := BS.below ((Below.refl _ _).drew)
end Go.Proofs.YtffbdnlfknomnaaDoor.Wt
