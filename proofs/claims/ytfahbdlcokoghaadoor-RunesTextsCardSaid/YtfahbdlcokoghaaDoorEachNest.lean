/- Two laws for a range over the iterator of Each (package runes) whose body may turn one block and leave: one at a function's own level, one within a round. -/
import Derived.Test.YtfahbdlcokoghaaDoorEach
import Derived.RangeFuncNested
namespace Go.Proofs.YtfahbdlcokoghaaDoor
open Go.RowKit Go.Shelf

/-- How a body leaves: by a return, if what came is no beginning of the list (so never); by a break. -/
def ixE (L : List Int) (id : Nat) (E : List Int → World → Prop) (c : Code) (pre : List Int) (W : World) : Prop := (c = .ret ∧ ¬ pre <+: L) ∨ (c = .exit id ∧ E pre W)
theorem ixE_own {L : List Int} {id B : Nat} {E : List Int → World → Prop} (h : OwnFrom B E) (c : Code) : OwnFrom B (ixE L id E c) := fun s W W' row hs hg hr =>
  hs.elim .inl (fun ⟨e, x⟩ => .inr ⟨e, h s W W' row x hg hr⟩)

/-- The temporaries behind the assignment of the loop variable. -/
def frE (a : Act) (ps : Array Tmp) (d1 : Nat) (x : Int) : Act :=
  { tmps := ((ps.zip (encE x)).foldl (fun t (p, v) => t.setIfInBounds p v) a.tmps).setIfInBounds d1 (.int .i32 x), defers := [] }

theorem rfE_H {F : Fence} {n : Nat} {P : Program} {g : Operand} {ps : Array Tmp} {assign body : Code} {Q : Exit → Act → World → Prop} {a : Act} {w : World}
    (hro : F.round = none) (h1 : 1 ≤ n) {gf : Nat} {lb : Array Value} (hg : a.eval g = .func (.func gf) #[] lb) (hFg : F.fn gf) (eg : ∀ args w, (callFunc gf args).run P w = .ok (.enter gf args) w)
    {b : Nat} {L : List Int} {w0 : World} (hseq : SeqStopsK F (n - 1) P gf lb encE (KpB b) (fun xs => xs = L) (fun pre => pre <+: L) L.length w0) (hb0 : Below w0.heap.size w0 w) (hps : 1 = ps.size)
    (id d1 : Nat) (I E : List Int → World → Prop) (hI : OwnFrom w.heap.size I) (hE : OwnFrom w.heap.size E) (h0 : I [] w)
    (hassign : ∀ (l : Nat) (x : Int) (W : World) (K : Act → World → Prop), K (frE a ps d1 x) W → assign.wpIn (F.inRound l) (n - 1 - 1) P (Exit.then K (fun _ _ _ => False)) { tmps := (ps.zip (encE x)).foldl (fun t (p, v) => t.setIfInBounds p v) a.tmps, defers := [] } W)
    (hbody : ∀ (l : Nat) (pre : List Int) (x : Int) (W : World), w.heap.size ≤ l → (∃ r, W.heap[l]? = some (.loop r)) → I pre W → pre.length < L.length → body.wpIn (F.inRound l) (n - 1 - 1) P (ownPostG w.heap.size (KpB b) I (ixE L id E) (pre ++ [x]) W) (frE a ps d1 x) W)
    (Fin : World → Prop) (hd : ∀ W, I L W → Fin W) (he : ∀ pre W, pre <+: L → E pre W → Fin W) (hexit : ∀ a W, Q .normal a W → Q (.exit id) a W)
    (hfin : ∀ D W, w.heap.size ≤ D → Fin W → W.heap[D]? = some (.deferred (some [])) → Q .normal { a with defers := { target := .collected D, args := #[] } :: a.defers } W) :
    (Code.rangeFunc g ps assign body).wpIn F n P Q a w :=
  wpIn_rangeFunc_ownH hro h1 hg hFg eg hseq (fun h k => h.t k) (fun W l o o' hl h hc hk => KpB.b (w := w) W l o o' hl h hc hk) hb0 (fun _ => hps) I (ixE L id E) hI (ixE_own hE) h0 (fun x a' _ => a' = frE a ps d1 x) (fun _ _ _ _ _ _ hs _ _ => hs)
    (fun l _ x W K hi hK => hassign l x W K (hK _ _ (KeepsFrom.refl _ _) (KpB.refl b W) hi rfl))
    (fun l pre x a' W hl hr hi e hlt => by subst e; exact hbody l pre x W hl hr hi hlt)
    (fun D xs W hD hS hi hK => hfin D W hD (hd W (by have e : xs = L := hS; subst e; exact hi)) hK)
    (fun D c pre W hD hSp hx hK => by
      rcases hx with ⟨_, hn⟩ | ⟨rfl, hx⟩
      · exact absurd hSp hn
      · exact wpIn_exit (hexit _ _ (hfin D W hD (he pre W hSp hx) hK)))

theorem rfE_N {F : Fence} {n : Nat} {P : Program} {g : Operand} {ps : Array Tmp} {assign body : Code} {Q : Exit → Act → World → Prop} {a : Act} {w : World}
    {l₀ : Nat} {r₀ : Loop} (hro : F.round = some l₀) (hl₀ : w.heap[l₀]? = some (.loop r₀)) (h1 : 1 ≤ n) {gf : Nat} {lb : Array Value} (hg : a.eval g = .func (.func gf) #[] lb) (hFg : F.fn gf) (eg : ∀ args w, (callFunc gf args).run P w = .ok (.enter gf args) w)
    {b : Nat} {L : List Int} {w0 : World} (hseq : SeqStopsK F (n - 1) P gf lb encE (KpB b) (fun xs => xs = L) (fun pre => pre <+: L) L.length w0) (hb0 : Below w0.heap.size w0 w) (hps : 1 = ps.size)
    (id d1 : Nat) (I E : List Int → World → Prop) (hI : OwnFrom w.heap.size I) (hE : OwnFrom w.heap.size E) (h0 : I [] w)
    (hassign : ∀ (l : Nat) (x : Int) (W : World) (K : Act → World → Prop), K (frE a ps d1 x) W → assign.wpIn (F.inRound l) (n - 1 - 1) P (Exit.then K (fun _ _ _ => False)) { tmps := (ps.zip (encE x)).foldl (fun t (p, v) => t.setIfInBounds p v) a.tmps, defers := [] } W)
    (hbody : ∀ (l : Nat) (pre : List Int) (x : Int) (W : World), w.heap.size ≤ l → (∃ r, W.heap[l]? = some (.loop r)) → I pre W → pre.length < L.length → body.wpIn (F.inRound l) (n - 1 - 1) P (ownPostG w.heap.size (KpB b) I (ixE L id E) (pre ++ [x]) W) (frE a ps d1 x) W)
    (Fin : World → Prop) (hd : ∀ W, I L W → Fin W) (he : ∀ pre W, pre <+: L → E pre W → Fin W) (hexit : ∀ a W, Q .normal a W → Q (.exit id) a W)
    (hfin : ∀ W, Fin W → Q .normal a W) :
    (Code.rangeFunc g ps assign body).wpIn F n P Q a w :=
  wpIn_rangeFunc_ownN hro hl₀ h1 hg hFg eg hseq (fun h k => h.t k) (fun W l o o' hl h hc hk => KpB.b (w := w) W l o o' hl h hc hk) hb0 (fun _ => hps) I (ixE L id E) hI (ixE_own hE) h0 (fun x a' _ => a' = frE a ps d1 x) (fun _ _ _ _ _ _ hs _ _ => hs)
    (fun l _ x W K hi hK => hassign l x W K (hK _ _ (KeepsFrom.refl _ _) (KpB.refl b W) hi rfl))
    (fun l pre x a' W hl hr hi e hlt => by subst e; exact hbody l pre x W hl hr hi hlt)
    (fun xs W hS hi => hfin W (hd W (by have e : xs = L := hS; subst e; exact hi)))
    (fun c pre W hSp hx => by
      rcases hx with ⟨_, hn⟩ | ⟨rfl, hx⟩
      · exact absurd hSp hn
      · exact wpIn_exit (hexit _ _ (hfin W (he pre W hSp hx))))

/-- What a body did: whatever lay keeps, but the cells of one block. -/
structure KpA (b : Nat) (W W' : World) : Prop where
  size : W.heap.size ≤ W'.heap.size
  same : ∀ j : Nat, j < W.heap.size → j ≠ b → W'.heap[j]? = W.heap[j]?
  others : ∀ (o : Obj), W.heap[b]? = some o → o.isCells = false → W'.heap[b]? = some o
theorem KpA.refl (b : Nat) (W : World) : KpA b W W := ⟨Nat.le_refl _, fun _ _ _ => rfl, fun _ h _ => h⟩
theorem KpA.trans {b : Nat} {X Y Z : World} (h : KpA b X Y) (k : KpA b Y Z) : KpA b X Z := ⟨Nat.le_trans h.size k.size, fun j hj hb => (k.same j (Nat.lt_of_lt_of_le hj h.size) hb).trans (h.same j hj hb), fun o ho hc => k.others o (h.others o ho hc) hc⟩
theorem KpA.kpB {b : Nat} {X Y : World} (h : KpA b X Y) : KpB b X Y := ⟨h.size, fun j _ hj hb _ => (h.same j (Array.getElem?_eq_some_iff.1 hj).1 hb).trans hj⟩
theorem KpA.from {b : Nat} {X Y : World} (h : KpA b X Y) (B : Nat) : KeepsFrom B X Y := ⟨h.size, fun k o _ hk ho => by
  by_cases e : k = b
  · subst e; exact h.others o hk ho
  · exact (h.same k (Array.getElem?_eq_some_iff.1 hk).1 e).trans hk⟩
theorem KpA.below {b : Nat} {X Y : World} (h : Below X.heap.size X Y) : KpA b X Y := ⟨h.size, fun j hj _ => h.block j hj, fun _ ho _ => (h.block b (Array.getElem?_eq_some_iff.1 ho).1).trans ho⟩
theorem KpA.set {b : Nat} {X : World} {t : TypeId} {v : Value} (hb : Boxed X b t v) (u : Value) : KpA b X (X.setCell ⟨b, 0, none⟩ u) := ⟨by simp, fun j _ hj => Below.heap_setCell X ⟨b, 0, none⟩ u j hj, fun o ho hc => by
  have e : X.heap[b]? = _ := hb
  rw [e] at ho; cases ho; cases hc⟩
theorem ownFrom_kpA {β : Type} {b B : Nat} {w₀ : World} (hB : w₀.heap.size ≤ B) : OwnFrom B (fun (_ : β) W => KpA b w₀ W) :=
  fun _ X Y row hs hg hr => ⟨Nat.le_trans hs.size hg.size, fun j hj hb => by
    have h1 := hs.same j hj hb
    have h2 : j < X.heap.size := Nat.lt_of_lt_of_le hj hs.size
    exact (hg.block j h2 (fun e => by have := (hr j e.symm).1; omega)).trans h1, fun o ho hc => by
    have h1 := hs.others o ho hc
    refine (hg.block b (Array.getElem?_eq_some_iff.1 h1).1 (fun e => ?_)).trans h1
    have h2 := (hr b e.symm).1
    have h3 := (Array.getElem?_eq_some_iff.1 ho).1
    omega⟩

theorem bad_nextE {L pre : List Int} {n : Nat} {x y : Int} (hn : n = pre.length) (h : L[n]? = some y) (hne : ¬ y = x) : ¬ pre ++ [x] <+: L := by
  rintro ⟨r, rfl⟩
  subst hn
  simp at h
  exact hne h.symm
end Go.Proofs.YtfahbdlcokoghaaDoor
