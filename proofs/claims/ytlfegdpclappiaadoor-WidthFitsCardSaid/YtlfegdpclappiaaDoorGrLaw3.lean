/- A law for a range over the iterator of Each (package grapheme) with one loop variable. -/
import Derived.Test.YtlfegdpclappiaaDoorGrLaw
namespace Go.Proofs.YtlfegdpclappiaaDoor
open Go.RowKit Go.Shelf

/-- The temporaries behind the assignment of the first loop variable. -/
def fr1 {l : List UInt8} (a : Act) (ps : Array Tmp) (d1 : Nat) (x : Pl l) : Act :=
  { tmps := ((ps.zip (encP x)).foldl (fun t (p, v) => t.setIfInBounds p v) a.tmps).setIfInBounds d1 (.int .i64 (x.v.1 : Nat)), defers := [] }
theorem rfF1 {l : List UInt8} {n : Nat} {g : Operand} {ps : Array Tmp} {assign body : Code} {Q : Exit → Act → World → Prop} {a : Act} {w : World}
    (Bs : Nat) (S : Nat → Prop) (L : List (Pl l)) (h1 : 2 ≤ n) (hg : a.eval g = .func (.func 51) #[] #[.pointer (some ⟨Bs, 0, none⟩)])
    (hL : L.map Pl.v = gpF l 0) (hE : WaAt Bs l w) (hl : l.length ≤ 1000000000) (hps : 2 = ps.size) (hS : ∀ k, S k → ¬ KW Bs k)
    (I : List (Pl l) → World → Prop) (Ix : Code → List (Pl l) → World → Prop) (hI : OwnFrom w.heap.size I) (hIx : ∀ c, OwnFrom w.heap.size (Ix c)) (h0 : I [] w) (d1 : Nat)
    (hassign : ∀ (lp : Nat) (x : Pl l) (W : World) (K : Act → World → Prop), K (fr1 a ps d1 x) W →
      assign.wpIn (Fence.wide.inRound lp) (n - 1 - 1) Tryd.prog (Exit.then K (fun _ _ _ => False)) { tmps := (ps.zip (encP x)).foldl (fun t (p, v) => t.setIfInBounds p v) a.tmps, defers := [] } W)
    (hbody : ∀ (lp : Nat) (pre : List (Pl l)) (x : Pl l) (W : World), I pre W → BS S w W → WaAt Bs l W → pre.length < L.length → body.wpIn (Fence.wide.inRound lp) (n - 1 - 1) Tryd.prog (fun e _ W' => BS S W W' ∧ bdQ I Ix (pre ++ [x]) e W') (fr1 a ps d1 x) W)
    (hdone : ∀ (D : Nat) (W : World), w.heap.size ≤ D → I L W → BS S w W → W.heap[D]? = some (.deferred (some [])) → Q .normal { a with defers := { target := .collected D, args := #[] } :: a.defers } W)
    (hstop : ∀ (D : Nat) (c : Code) (pre : List (Pl l)) (W : World), w.heap.size ≤ D → pre <+: L → Ix c pre W → BS S w W → W.heap[D]? = some (.deferred (some [])) → c.wpIn Fence.wide n Tryd.prog Q { a with defers := { target := .collected D, args := #[] } :: a.defers } W) :
    (Code.rangeFunc g ps assign body).wpIn Fence.wide n Tryd.prog Q a w :=
  rfE Bs S L h1 hg hL hE hl hps hS I Ix hI hIx h0 (fr1 a ps d1) hassign hbody hdone hstop
end Go.Proofs.YtlfegdpclappiaaDoor
