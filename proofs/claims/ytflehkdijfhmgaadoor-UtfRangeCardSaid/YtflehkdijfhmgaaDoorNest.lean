/- Two laws for a range over the iterator of Each whose body may hold what it is handed against a list and leave: one at a function's own level, one within a round. -/
import Derived.Test.YtflehkdijfhmgaaDoorEach
namespace Go.Proofs.YtflehkdijfhmgaaDoor
open Go.RowKit Go.Shelf

/-- How a body leaves: by a return, if what came is no beginning of the list (so never); by a break. -/
def ixOf (L : List (Int × Int)) (id : Nat) (E : List (Int × Int) → World → Prop) (c : Code) (pre : List (Int × Int)) (W : World) : Prop := (c = .ret ∧ ¬ pre <+: L) ∨ (c = .exit id ∧ E pre W)
theorem ixOf_own {L : List (Int × Int)} {id B : Nat} {E : List (Int × Int) → World → Prop} (h : OwnFrom B E) (c : Code) : OwnFrom B (ixOf L id E c) := fun s W W' row hs hg hr =>
  hs.elim .inl (fun ⟨e, x⟩ => .inr ⟨e, h s W W' row x hg hr⟩)

/-- The temporaries behind the assignment of the two loop variables. -/
def fr (a : Act) (ps : Array Tmp) (d1 d2 : Nat) (x : Int × Int) : Act :=
  { tmps := (((ps.zip (encs2 x)).foldl (fun t (p, v) => t.setIfInBounds p v) a.tmps).setIfInBounds d1 (.int .i64 x.1)).setIfInBounds d2 (.int .i32 x.2), defers := [] }

theorem rf_H {F : Fence} {n : Nat} {P : Program} {g : Operand} {ps : Array Tmp} {assign body : Code} {Q : Exit → Act → World → Prop} {a : Act} {w : World}
    (hro : F.round = none) (h1 : 1 ≤ n) {gf : Nat} {lb : Array Value} (hg : a.eval g = .func (.func gf) #[] lb) (hFg : F.fn gf) (eg : ∀ args w, (callFunc gf args).run P w = .ok (.enter gf args) w)
    {L : List (Int × Int)} {w0 : World} (hseq : SeqStopsA F (n - 1) P gf lb encs2 (fun xs => xs = L) (fun pre => pre <+: L) L.length w0) (hb0 : Below w0.heap.size w0 w) (hps : 2 = ps.size)
    (id d1 d2 : Nat) (I E : List (Int × Int) → World → Prop) (hI : OwnFrom w.heap.size I) (hE : OwnFrom w.heap.size E) (h0 : I [] w)
    (hassign : ∀ (l : Nat) (x : Int × Int) (W : World) (K : Act → World → Prop), K (fr a ps d1 d2 x) W → assign.wpIn (F.inRound l) (n - 1 - 1) P (Exit.then K (fun _ _ _ => False)) { tmps := (ps.zip (encs2 x)).foldl (fun t (p, v) => t.setIfInBounds p v) a.tmps, defers := [] } W)
    (hbody : ∀ (l : Nat) (pre : List (Int × Int)) (x : Int × Int) (W : World), w.heap.size ≤ l → (∃ r, W.heap[l]? = some (.loop r)) → I pre W → pre.length < L.length → body.wpIn (F.inRound l) (n - 1 - 1) P (ownPostG w.heap.size KeepsWalks I (ixOf L id E) (pre ++ [x]) W) (fr a ps d1 d2 x) W)
    (Fin : World → Prop) (hd : ∀ W, I L W → Fin W) (he : ∀ pre W, pre <+: L → E pre W → Fin W) (hexit : ∀ a W, Q .normal a W → Q (.exit id) a W)
    (hfin : ∀ D W, w.heap.size ≤ D → Fin W → W.heap[D]? = some (.deferred (some [])) → Q .normal { a with defers := { target := .collected D, args := #[] } :: a.defers } W) :
    (Code.rangeFunc g ps assign body).wpIn F n P Q a w :=
  wpIn_rangeFunc_ownH hro h1 hg hFg eg (seqStopsA_iff.1 hseq) walksK_t walksK_b hb0 (fun _ => hps) I (ixOf L id E) hI (ixOf_own hE) h0 (fun x a' _ => a' = fr a ps d1 d2 x) (fun _ _ _ _ _ _ hs _ _ => hs)
    (fun l _ x W K hi hK => hassign l x W K (hK _ _ (KeepsFrom.refl _ _) (KeepsWalks.refl W) hi rfl))
    (fun l pre x a' W hl hr hi e hlt => by subst e; exact hbody l pre x W hl hr hi hlt)
    (fun D xs W hD hS hi hK => hfin D W hD (hd W (by have e : xs = L := hS; subst e; exact hi)) hK)
    (fun D c pre W hD hSp hx hK => by
      rcases hx with ⟨_, hn⟩ | ⟨rfl, hx⟩
      · exact absurd hSp hn
      · exact wpIn_exit (hexit _ _ (hfin D W hD (he pre W hSp hx) hK)))

theorem rf_N {F : Fence} {n : Nat} {P : Program} {g : Operand} {ps : Array Tmp} {assign body : Code} {Q : Exit → Act → World → Prop} {a : Act} {w : World}
    {l₀ : Nat} {r₀ : Loop} (hro : F.round = some l₀) (hl₀ : w.heap[l₀]? = some (.loop r₀)) (h1 : 1 ≤ n) {gf : Nat} {lb : Array Value} (hg : a.eval g = .func (.func gf) #[] lb) (hFg : F.fn gf) (eg : ∀ args w, (callFunc gf args).run P w = .ok (.enter gf args) w)
    {L : List (Int × Int)} {w0 : World} (hseq : SeqStopsA F (n - 1) P gf lb encs2 (fun xs => xs = L) (fun pre => pre <+: L) L.length w0) (hb0 : Below w0.heap.size w0 w) (hps : 2 = ps.size)
    (id d1 d2 : Nat) (I E : List (Int × Int) → World → Prop) (hI : OwnFrom w.heap.size I) (hE : OwnFrom w.heap.size E) (h0 : I [] w)
    (hassign : ∀ (l : Nat) (x : Int × Int) (W : World) (K : Act → World → Prop), K (fr a ps d1 d2 x) W → assign.wpIn (F.inRound l) (n - 1 - 1) P (Exit.then K (fun _ _ _ => False)) { tmps := (ps.zip (encs2 x)).foldl (fun t (p, v) => t.setIfInBounds p v) a.tmps, defers := [] } W)
    (hbody : ∀ (l : Nat) (pre : List (Int × Int)) (x : Int × Int) (W : World), w.heap.size ≤ l → (∃ r, W.heap[l]? = some (.loop r)) → I pre W → pre.length < L.length → body.wpIn (F.inRound l) (n - 1 - 1) P (ownPostG w.heap.size KeepsWalks I (ixOf L id E) (pre ++ [x]) W) (fr a ps d1 d2 x) W)
    (Fin : World → Prop) (hd : ∀ W, I L W → Fin W) (he : ∀ pre W, pre <+: L → E pre W → Fin W) (hexit : ∀ a W, Q .normal a W → Q (.exit id) a W)
    (hfin : ∀ W, Fin W → Q .normal a W) :
    (Code.rangeFunc g ps assign body).wpIn F n P Q a w :=
  wpIn_rangeFunc_ownN hro hl₀ h1 hg hFg eg (seqStopsA_iff.1 hseq) walksK_t walksK_b hb0 (fun _ => hps) I (ixOf L id E) hI (ixOf_own hE) h0 (fun x a' _ => a' = fr a ps d1 d2 x) (fun _ _ _ _ _ _ hs _ _ => hs)
    (fun l _ x W K hi hK => hassign l x W K (hK _ _ (KeepsFrom.refl _ _) (KeepsWalks.refl W) hi rfl))
    (fun l pre x a' W hl hr hi e hlt => by subst e; exact hbody l pre x W hl hr hi hlt)
    (fun xs W hS hi => hfin W (hd W (by have e : xs = L := hS; subst e; exact hi)))
    (fun c pre W hSp hx => by
      rcases hx with ⟨_, hn⟩ | ⟨rfl, hx⟩
      · exact absurd hSp hn
      · exact wpIn_exit (hexit _ _ (hfin W (he pre W hSp hx))))

/-- A contract goes into a round as it is. -/
theorem stopsA_round {F : Fence} {n : Nat} {P : Program} {g : Nat} {lb : Array Value} {S Sp : List (Int × Int) → Prop} {N : Nat} {w₀ : World} (l : Nat)
    (h : SeqStopsA F n P g lb encs2 S Sp N w₀) : SeqStopsA (F.inRound l) n P g lb encs2 S Sp N w₀ := h
/-- What kept whatever is no cells keeps the walks. -/
theorem keepsWalks_of {W W' : World} (h : KeepsFrom 0 W W') : KeepsWalks W W' := ⟨h.size, fun k o hk hw => h.same k o (Nat.zero_le _) hk (Obj.not_cells_of_walk hw)⟩
theorem keepsFrom_of {W W' : World} (B : Nat) (h : KeepsFrom 0 W W') : KeepsFrom B W W' := ⟨h.size, fun k o _ hk hw => h.same k o (Nat.zero_le _) hk hw⟩
end Go.Proofs.YtflehkdijfhmgaaDoor
