/- Two laws for a range over the iterator of Runs (package runes): one at a function's own level, one within a round. -/
import Derived.Test.YtfahbdlcokoghabDoorOf
import Derived.Test.YtfahbdlcokoghabDoorSetMath
import Derived.Test.YtfahbdlcokoghabDoorKept
namespace Go.Proofs.YtfahbdlcokoghabDoor
open Go.RowKit Go.Shelf

def ixT {l : List UInt8} (L : List (Tw l)) (id : Nat) (E : List (Tw l) → World → Prop) (c : Code) (pre : List (Tw l)) (W : World) : Prop := (c = .ret ∧ ¬ pre <+: L) ∨ (c = .exit id ∧ E pre W)
theorem ixT_own {l : List UInt8} {L : List (Tw l)} {id B : Nat} {E : List (Tw l) → World → Prop} (h : OwnFrom B E) (c : Code) : OwnFrom B (ixT L id E c) := fun s W W' row hs hg hr =>
  hs.elim .inl (fun ⟨e, x⟩ => .inr ⟨e, h s W W' row x hg hr⟩)
def frT {l : List UInt8} (a : Act) (ps : Array Tmp) (d1 d2 : Nat) (x : Tw l) : Act :=
  { tmps := (((ps.zip (encR l x)).foldl (fun t (p, v) => t.setIfInBounds p v) a.tmps).setIfInBounds d1 (.int .i64 (x.val.1 : Int))).setIfInBounds d2 (.int .i64 (x.val.2 : Int)), defers := [] }

theorem rfT_H {l : List UInt8} {F : Fence} {n : Nat} {P : Program} {g : Operand} {ps : Array Tmp} {assign body : Code} {Q : Exit → Act → World → Prop} {a : Act} {w : World}
    (hro : F.round = none) (h1 : 1 ≤ n) {gf : Nat} {lb : Array Value} (hg : a.eval g = .func (.func gf) #[] lb) (hFg : F.fn gf) (eg : ∀ args w, (callFunc gf args).run P w = .ok (.enter gf args) w)
    {K : Nat → Prop} {L : List (Tw l)} {w0 : World} (hseq : SeqStopsK F (n - 1) P gf lb (encR l) (Kr K) (fun xs => xs = L) (fun pre => pre <+: L) L.length w0) (hK : ∀ k, K k → k < w.heap.size) (hb0 : Below w0.heap.size w0 w) (hps : 2 = ps.size)
    (id d1 d2 : Nat) (I E : List (Tw l) → World → Prop) (hI : OwnFrom w.heap.size I) (hE : OwnFrom w.heap.size E) (h0 : I [] w)
    (hassign : ∀ (lp : Nat) (x : Tw l) (W : World) (K : Act → World → Prop), K (frT a ps d1 d2 x) W → assign.wpIn (F.inRound lp) (n - 1 - 1) P (Exit.then K (fun _ _ _ => False)) { tmps := (ps.zip (encR l x)).foldl (fun t (p, v) => t.setIfInBounds p v) a.tmps, defers := [] } W)
    (hbody : ∀ (lp : Nat) (pre : List (Tw l)) (x : Tw l) (W : World), w.heap.size ≤ lp → (∃ r, W.heap[lp]? = some (.loop r)) → I pre W → pre.length < L.length → body.wpIn (F.inRound lp) (n - 1 - 1) P (ownPostG w.heap.size (Kr K) I (ixT L id E) (pre ++ [x]) W) (frT a ps d1 d2 x) W)
    (Fin : World → Prop) (hd : ∀ W, I L W → Fin W) (he : ∀ pre W, pre <+: L → E pre W → Fin W) (hexit : ∀ a W, Q .normal a W → Q (.exit id) a W)
    (hfin : ∀ D W, w.heap.size ≤ D → Fin W → W.heap[D]? = some (.deferred (some [])) → Q .normal { a with defers := { target := .collected D, args := #[] } :: a.defers } W) :
    (Code.rangeFunc g ps assign body).wpIn F n P Q a w :=
  wpIn_rangeFunc_ownH hro h1 hg hFg eg hseq Kr_t (fun W lp o o' hl h hc hk => Kr_b hK W lp o o' hl h hc hk) hb0 (fun _ => hps) I (ixT L id E) hI (ixT_own hE) h0 (fun x a' _ => a' = frT a ps d1 d2 x) (fun _ _ _ _ _ _ hs _ _ => hs)
    (fun lp _ x W K' hi hK' => hassign lp x W K' (hK' _ _ (KeepsFrom.refl _ _) ⟨KeepsWalks.refl W, fun _ _ => rfl⟩ hi rfl))
    (fun lp pre x a' W hl hr hi e hlt => by subst e; exact hbody lp pre x W hl hr hi hlt)
    (fun D xs W hD hS hi hK' => hfin D W hD (hd W (by have e : xs = L := hS; subst e; exact hi)) hK')
    (fun D c pre W hD hSp hx hK' => by
      rcases hx with ⟨_, hn⟩ | ⟨rfl, hx⟩
      · exact absurd hSp hn
      · exact wpIn_exit (hexit _ _ (hfin D W hD (he pre W hSp hx) hK')))

theorem rfT_N {l : List UInt8} {F : Fence} {n : Nat} {P : Program} {g : Operand} {ps : Array Tmp} {assign body : Code} {Q : Exit → Act → World → Prop} {a : Act} {w : World}
    {l₀ : Nat} {r₀ : Loop} (hro : F.round = some l₀) (hl₀ : w.heap[l₀]? = some (.loop r₀)) (h1 : 1 ≤ n) {gf : Nat} {lb : Array Value} (hg : a.eval g = .func (.func gf) #[] lb) (hFg : F.fn gf) (eg : ∀ args w, (callFunc gf args).run P w = .ok (.enter gf args) w)
    {K : Nat → Prop} {L : List (Tw l)} {w0 : World} (hseq : SeqStopsK F (n - 1) P gf lb (encR l) (Kr K) (fun xs => xs = L) (fun pre => pre <+: L) L.length w0) (hK : ∀ k, K k → k < w.heap.size) (hb0 : Below w0.heap.size w0 w) (hps : 2 = ps.size)
    (id d1 d2 : Nat) (I E : List (Tw l) → World → Prop) (hI : OwnFrom w.heap.size I) (hE : OwnFrom w.heap.size E) (h0 : I [] w)
    (hassign : ∀ (lp : Nat) (x : Tw l) (W : World) (K : Act → World → Prop), K (frT a ps d1 d2 x) W → assign.wpIn (F.inRound lp) (n - 1 - 1) P (Exit.then K (fun _ _ _ => False)) { tmps := (ps.zip (encR l x)).foldl (fun t (p, v) => t.setIfInBounds p v) a.tmps, defers := [] } W)
    (hbody : ∀ (lp : Nat) (pre : List (Tw l)) (x : Tw l) (W : World), w.heap.size ≤ lp → (∃ r, W.heap[lp]? = some (.loop r)) → I pre W → pre.length < L.length → body.wpIn (F.inRound lp) (n - 1 - 1) P (ownPostG w.heap.size (Kr K) I (ixT L id E) (pre ++ [x]) W) (frT a ps d1 d2 x) W)
    (Fin : World → Prop) (hd : ∀ W, I L W → Fin W) (he : ∀ pre W, pre <+: L → E pre W → Fin W) (hexit : ∀ a W, Q .normal a W → Q (.exit id) a W)
    (hfin : ∀ W, Fin W → Q .normal a W) :
    (Code.rangeFunc g ps assign body).wpIn F n P Q a w :=
  wpIn_rangeFunc_ownN hro hl₀ h1 hg hFg eg hseq Kr_t (fun W lp o o' hl h hc hk => Kr_b hK W lp o o' hl h hc hk) hb0 (fun _ => hps) I (ixT L id E) hI (ixT_own hE) h0 (fun x a' _ => a' = frT a ps d1 d2 x) (fun _ _ _ _ _ _ hs _ _ => hs)
    (fun lp _ x W K' hi hK' => hassign lp x W K' (hK' _ _ (KeepsFrom.refl _ _) ⟨KeepsWalks.refl W, fun _ _ => rfl⟩ hi rfl))
    (fun lp pre x a' W hl hr hi e hlt => by subst e; exact hbody lp pre x W hl hr hi hlt)
    (fun xs W hS hi => hfin W (hd W (by have e : xs = L := hS; subst e; exact hi)))
    (fun c pre W hSp hx => by
      rcases hx with ⟨_, hn⟩ | ⟨rfl, hx⟩
      · exact absurd hSp hn
      · exact wpIn_exit (hexit _ _ (hfin W (he pre W hSp hx))))
end Go.Proofs.YtfahbdlcokoghabDoor

