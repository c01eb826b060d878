/- A law for a range over the iterator of fitting (package wrap) whose body changes boxes alone and may leave; and for functions that leave several such ranges behind them. -/
import Derived.Test.YtkopefljnhgdkaaGreatDoorWpIt
namespace Go.Proofs.YtkopefljnhgdkaaGreatDoor
open Go.RowKit Go.Shelf
attribute [local go_sem] Oper.semAt_some

/-- What a body does: blocks of S alone may be others, and they are boxes. -/
structure BS (S : Nat → Prop) (W W' : World) : Prop where
  os : W'.os = W.os
  tape : W'.tape = W.tape
  output : W'.output = W.output
  size : W.heap.size ≤ W'.heap.size
  block : ∀ k, k < W.heap.size → ¬ S k → W'.heap[k]? = W.heap[k]?
  others : KeepsOthers W W'
theorem BS.refl (S : Nat → Prop) (W : World) : BS S W W := ⟨rfl, rfl, rfl, Nat.le_refl _, fun _ _ _ => rfl, KeepsOthers.refl W⟩
theorem BS.trans {S : Nat → Prop} {A B C : World} (h : BS S A B) (k : BS S B C) : BS S A C :=
  ⟨k.os.trans h.os, k.tape.trans h.tape, k.output.trans h.output, Nat.le_trans h.size k.size, fun i hi hs => (k.block i (Nat.lt_of_lt_of_le hi h.size) hs).trans (h.block i hi hs), ⟨Nat.le_trans h.size k.size, fun i o hi ho => k.others.same i o (h.others.same i o hi ho) ho⟩⟩
theorem BS.below {S : Nat → Prop} {W W' : World} (h : Below W.heap.size W W') : BS S W W' :=
  ⟨h.os, h.tape, h.output, h.size, fun k hk _ => h.block k hk, ⟨h.size, fun k _ hk _ => (h.block k (Array.getElem?_eq_some_iff.1 hk).1).trans hk⟩⟩
theorem BS.set {S : Nat → Prop} (W : World) (B : Nat) (v : Value) (hB : S B) : BS S W (W.setCell ⟨B, 0, none⟩ v) :=
  have g := grownBy_setCell' W B v
  ⟨g.os, g.tape, g.output, g.size, fun k hk hs => g.block k hk (fun e => hs (by cases e; exact hB)), KeepsOthers.setCell W _ v⟩
theorem BS.lower {S : Nat → Prop} {W W' : World} (h : BS S W W') (B : Nat) (hB : ∀ k, S k → B ≤ k) (hs : B ≤ W.heap.size) : Below B W W' :=
  ⟨h.os, h.tape, h.output, h.size, fun k hk => h.block k (Nat.lt_of_lt_of_le hk hs) (fun e => by have := hB k e; omega)⟩
/-- How a body may be left. -/
def bdQ {α : Type} (I : List α → World → Prop) (Ix : Code → List α → World → Prop) (xs : List α) : Exit → World → Prop
  | .normal, W => I xs W
  | .ret, W => Ix .ret xs W
  | .exit i, W => Ix (.exit i) xs W
  | _, _ => False
theorem bs_from {β : Type} (S : Nat → Prop) (w : World) : OwnFrom w.heap.size (fun (_ : β) W => BS S w W) := fun _ A C row h hg hr => by
  have hb : ∀ k, k < w.heap.size → C.heap[k]? = A.heap[k]? := fun k hk => hg.block k (Nat.lt_of_lt_of_le hk h.size) (fun e => by
    obtain ⟨hle, _⟩ := hr k e.symm
    omega)
  exact ⟨hg.os.trans h.os, hg.tape.trans h.tape, hg.output.trans h.output, Nat.le_trans h.size hg.size, fun k hk hs => (hb k hk).trans (h.block k hk hs),
    ⟨Nat.le_trans h.size hg.size, fun k o hk ho => (hb k (Array.getElem?_eq_some_iff.1 hk).1).trans (h.others.same k o hk ho)⟩⟩
theorem BS.keepsF {S : Nat → Prop} {Bs Bf : Nat} {lo : Option Addr} {n c : Nat} {V : Wr} {L : List Bx} {i : Nat} {X Y : World} (h : BS S X Y) (hS : ∀ k, S k → ¬ KF Bs Bf lo L k) (hE : WfAt Bs Bf lo n c V L i X) (hT : ∀ k, S k → ∀ c fz, X.heap[k]? ≠ some (Obj.cells c 53 fz)) : KrF (KF Bs Bf lo L) X Y :=
  ⟨⟨h.size, fun k o hk hw => h.others.same k o hk (Obj.not_cells_of_walk hw)⟩, h.size, fun k hk => h.block k (hE.lt k hk) (fun e => hS k e hk), fun k c fz hk => (h.block k (Array.getElem?_eq_some_iff.1 hk).1 (fun e => hT k e c fz hk)).trans hk⟩
theorem wfAt_from {β : Type} (B Bs Bf : Nat) (lo : Option Addr) (n c : Nat) (V : Wr) (L : List Bx) (i : Nat) (hB : Bs ≤ B) : OwnFrom B (fun (_ : β) W => WfAt Bs Bf lo n c V L i W) := fun _ A C row h hg hr => by
  refine h.keeps hg.size fun k hk => hg.block k (h.lt k hk) fun e => ?_
  obtain ⟨hle, o, ho, hc⟩ := hr k e.symm
  rcases hk with rfl | rfl | ⟨a, _, rfl, h1, _⟩
  · have := h.sh; unfold Sht at this; rw [this] at ho; cases ho; cases hc
  · have := h.bf; unfold Boxed at this; rw [this] at ho; cases ho; cases hc
  · omega
theorem fitting_any (lo : Option Addr) (n c : Nat) (wd fi re ho : Int) (i : Nat) (w : World) :
    Calls Tryz.prog 23 #[.agg #[.slice lo n c, .int .i64 wd, .int .i64 fi, .int .i64 re, .int .i64 ho], .int .i64 i] w fun e w' => e = .returned (.func (.func 33) #[] #[.pointer (some ⟨w.heap.size, 0, none⟩), .pointer (some ⟨w.heap.size + 1, 0, none⟩)]) ∧
      w' = (w.alloc (.cells #[.slice lo n c, .int .i64 wd, .int .i64 fi, .int .i64 re, .int .i64 ho] 56)).alloc (.cells #[.int .i64 i] 3) := by
  go_enter Tryz.func23, Tryz.ntmps23
  go_wp2
  go_ret
  exact ⟨rfl, rfl⟩
/-- What the iterator has caught, right behind the call. -/
theorem wfAt_new (w : World) (lo : Option Addr) (n c : Nat) (wd fi re ho : Int) (L : List Bx) (i : Nat) (hr : RdB w lo L) :
    WfAt w.heap.size (w.heap.size + 1) lo n c ⟨wd, fi, re, ho⟩ L i ((w.alloc (.cells #[.slice lo n c, .int .i64 wd, .int .i64 fi, .int .i64 re, .int .i64 ho] 56)).alloc (.cells #[.int .i64 i] 3)) := by
  have b := Boxed.new (w.alloc (.cells #[.slice lo n c, .int .i64 wd, .int .i64 fi, .int .i64 re, .int .i64 ho] 56)) 3 (.int .i64 i)
  rw [World.size_alloc] at b
  refine ⟨(Sht.new w lo n c wd fi re ho).kept below_box, b, (hr.below below_box).below below_box, fun a ha hl => ?_⟩
  obtain ⟨a', h1, h2, _⟩ := hr.at hl
  rw [ha] at h1
  cases h1
  exact h2
theorem rfW {lo : Option Addr} {ln lc : Nat} {V : Wr} {L : List Bx} {i : Nat} {n : Nat} {g : Operand} {ps : Array Tmp} {assign body : Code} {Q : Exit → Act → World → Prop} {a : Act} {w : World}
    (Bs Bf : Nat) (S : Nat → Prop) (F : List (Fe V L i)) (h1 : 2 ≤ n) (hg : a.eval g = .func (.func 33) #[] #[.pointer (some ⟨Bs, 0, none⟩), .pointer (some ⟨Bf, 0, none⟩)])
    (hF : FL V L i F) (hE : WfAt Bs Bf lo ln lc V L i w) (hln : ln = L.length) (hi : i ≤ ln) (o : Okb V L) (hps : 2 = ps.size) (hS : ∀ k, S k → ¬ KF Bs Bf lo L k)
    (I : List (Fe V L i) → World → Prop) (Ix : Code → List (Fe V L i) → World → Prop) (hI : OwnFrom w.heap.size I) (hIx : ∀ c, OwnFrom w.heap.size (Ix c)) (h0 : I [] w)
    (hT : ∀ pre W, I pre W → ∀ k, S k → ∀ c fz, W.heap[k]? ≠ some (Obj.cells c 53 fz)) (a₁ : Fe V L i → Act)
    (hassign : ∀ (lp : Nat) (x : Fe V L i) (W : World) (K : Act → World → Prop), K (a₁ x) W →
      assign.wpIn (Fence.wide.inRound lp) (n - 1 - 1) Tryz.prog (Exit.then K (fun _ _ _ => False)) { tmps := (ps.zip (encF x)).foldl (fun t (p, v) => t.setIfInBounds p v) a.tmps, defers := [] } W)
    (hbody : ∀ (lp : Nat) (pre : List (Fe V L i)) (x : Fe V L i) (W : World), I pre W → BS S w W → WfAt Bs Bf lo ln lc V L i W → pre.length < F.length → body.wpIn (Fence.wide.inRound lp) (n - 1 - 1) Tryz.prog (fun e _ W' => BS S W W' ∧ bdQ I Ix (pre ++ [x]) e W') (a₁ x) W)
    (hdone : ∀ (D : Nat) (W : World), w.heap.size ≤ D → I F W → BS S w W → W.heap[D]? = some (.deferred (some [])) → Q .normal { a with defers := { target := .collected D, args := #[] } :: a.defers } W)
    (hstop : ∀ (D : Nat) (c : Code) (pre : List (Fe V L i)) (W : World), w.heap.size ≤ D → pre <+: F → Ix c pre W → BS S w W → W.heap[D]? = some (.deferred (some [])) → c.wpIn Fence.wide n Tryz.prog Q { a with defers := { target := .collected D, args := #[] } :: a.defers } W) :
    (Code.rangeFunc g ps assign body).wpIn Fence.wide n Tryz.prog Q a w := by
  refine wpIn_rangeFunc_ownG (F := Fence.wide) rfl (by omega) hg trivial (enters_of Tryz.func33 (by kernel_rfl) rfl) (fit_stops (n - 1) (by omega) Bs Bf lo ln lc V L i F hF w hE hln hi o) KrF_t (KrF_b hE.lt) (Below.refl _ _) (fun _ => hps)
    (fun pre W => (I pre W ∧ BS S w W) ∧ WfAt Bs Bf lo ln lc V L i W) (fun c pre W => Ix c pre W ∧ BS S w W)
    (OwnFrom.and (OwnFrom.and hI (bs_from S w)) (wfAt_from _ Bs Bf lo ln lc V L i (Nat.le_of_lt hE.sh.lt))) (fun c => OwnFrom.and (hIx c) (bs_from S w)) ⟨⟨h0, BS.refl S w⟩, hE⟩ a₁ hassign ?_ ?_ ?_
  · rintro lp pre x W ⟨⟨hi, hb⟩, he⟩ hlt
    refine wpIn_mono (hbody lp pre x W hi hb he hlt) ?_
    rintro e _ W' ⟨hB, hq⟩
    have hK := hB.keepsF hS he (hT pre W hi)
    cases e with
    | normal => exact ⟨hB.others.from _, hK, ⟨hq, hb.trans hB⟩, he.keeps hB.size hK.block⟩
    | ret => exact ⟨hB.others.from _, hq, hb.trans hB⟩
    | exit i => exact ⟨hB.others.from _, hq, hb.trans hB⟩
    | goto t => exact (hq : False).elim
    | panic c => exact (hq : False).elim
    | outgrown => exact (hq : False).elim
  · rintro D xs W hD rfl ⟨⟨hi, hb⟩, _⟩ hK
    exact hdone D W hD hi hb hK
  · rintro D c pre W hD hp ⟨hx, hb⟩ hK
    exact hstop D c pre W hD hp hx hb hK
/-- The temporaries behind the assignment of the loop variables. -/
def frW1 {V : Wr} {L : List Bx} {i : Nat} (a : Act) (ps : Array Tmp) (d1 : Nat) (x : Fe V L i) : Act :=
  { tmps := ((ps.zip (encF x)).foldl (fun t (p, v) => t.setIfInBounds p v) a.tmps).setIfInBounds d1 (.int .i64 (x.j : Nat)), defers := [] }
def frW2 {V : Wr} {L : List Bx} {i : Nat} (a : Act) (ps : Array Tmp) (d1 d2 : Nat) (x : Fe V L i) : Act :=
  { tmps := (((ps.zip (encF x)).foldl (fun t (p, v) => t.setIfInBounds p v) a.tmps).setIfInBounds d1 (.int .i64 (x.j : Nat))).setIfInBounds d2 (.int .i64 (sz L i x.j)), defers := [] }
theorem rfW1 {lo : Option Addr} {ln lc : Nat} {V : Wr} {L : List Bx} {i : Nat} {n : Nat} {g : Operand} {ps : Array Tmp} {assign body : Code} {Q : Exit → Act → World → Prop} {a : Act} {w : World}
    (Bs Bf : Nat) (S : Nat → Prop) (F : List (Fe V L i)) (h1 : 2 ≤ n) (hg : a.eval g = .func (.func 33) #[] #[.pointer (some ⟨Bs, 0, none⟩), .pointer (some ⟨Bf, 0, none⟩)])
    (hF : FL V L i F) (hE : WfAt Bs Bf lo ln lc V L i w) (hln : ln = L.length) (hi : i ≤ ln) (o : Okb V L) (hps : 2 = ps.size) (hS : ∀ k, S k → ¬ KF Bs Bf lo L k)
    (I : List (Fe V L i) → World → Prop) (Ix : Code → List (Fe V L i) → World → Prop) (hI : OwnFrom w.heap.size I) (hIx : ∀ c, OwnFrom w.heap.size (Ix c)) (h0 : I [] w)
    (hT : ∀ pre W, I pre W → ∀ k, S k → ∀ c fz, W.heap[k]? ≠ some (Obj.cells c 53 fz)) (d1 : Nat)
    (hassign : ∀ (lp : Nat) (x : Fe V L i) (W : World) (K : Act → World → Prop), K (frW1 a ps d1 x) W →
      assign.wpIn (Fence.wide.inRound lp) (n - 1 - 1) Tryz.prog (Exit.then K (fun _ _ _ => False)) { tmps := (ps.zip (encF x)).foldl (fun t (p, v) => t.setIfInBounds p v) a.tmps, defers := [] } W)
    (hbody : ∀ (lp : Nat) (pre : List (Fe V L i)) (x : Fe V L i) (W : World), I pre W → BS S w W → WfAt Bs Bf lo ln lc V L i W → pre.length < F.length → body.wpIn (Fence.wide.inRound lp) (n - 1 - 1) Tryz.prog (fun e _ W' => BS S W W' ∧ bdQ I Ix (pre ++ [x]) e W') (frW1 a ps d1 x) W)
    (hdone : ∀ (D : Nat) (W : World), w.heap.size ≤ D → I F W → BS S w W → W.heap[D]? = some (.deferred (some [])) → Q .normal { a with defers := { target := .collected D, args := #[] } :: a.defers } W)
    (hstop : ∀ (D : Nat) (c : Code) (pre : List (Fe V L i)) (W : World), w.heap.size ≤ D → pre <+: F → Ix c pre W → BS S w W → W.heap[D]? = some (.deferred (some [])) → c.wpIn Fence.wide n Tryz.prog Q { a with defers := { target := .collected D, args := #[] } :: a.defers } W) :
    (Code.rangeFunc g ps assign body).wpIn Fence.wide n Tryz.prog Q a w :=
  rfW Bs Bf S F h1 hg hF hE hln hi o hps hS I Ix hI hIx h0 hT (frW1 a ps d1) hassign hbody hdone hstop
theorem rfW2 {lo : Option Addr} {ln lc : Nat} {V : Wr} {L : List Bx} {i : Nat} {n : Nat} {g : Operand} {ps : Array Tmp} {assign body : Code} {Q : Exit → Act → World → Prop} {a : Act} {w : World}
    (Bs Bf : Nat) (S : Nat → Prop) (F : List (Fe V L i)) (h1 : 2 ≤ n) (hg : a.eval g = .func (.func 33) #[] #[.pointer (some ⟨Bs, 0, none⟩), .pointer (some ⟨Bf, 0, none⟩)])
    (hF : FL V L i F) (hE : WfAt Bs Bf lo ln lc V L i w) (hln : ln = L.length) (hi : i ≤ ln) (o : Okb V L) (hps : 2 = ps.size) (hS : ∀ k, S k → ¬ KF Bs Bf lo L k)
    (I : List (Fe V L i) → World → Prop) (Ix : Code → List (Fe V L i) → World → Prop) (hI : OwnFrom w.heap.size I) (hIx : ∀ c, OwnFrom w.heap.size (Ix c)) (h0 : I [] w)
    (hT : ∀ pre W, I pre W → ∀ k, S k → ∀ c fz, W.heap[k]? ≠ some (Obj.cells c 53 fz)) (d1 d2 : Nat)
    (hassign : ∀ (lp : Nat) (x : Fe V L i) (W : World) (K : Act → World → Prop), K (frW2 a ps d1 d2 x) W →
      assign.wpIn (Fence.wide.inRound lp) (n - 1 - 1) Tryz.prog (Exit.then K (fun _ _ _ => False)) { tmps := (ps.zip (encF x)).foldl (fun t (p, v) => t.setIfInBounds p v) a.tmps, defers := [] } W)
    (hbody : ∀ (lp : Nat) (pre : List (Fe V L i)) (x : Fe V L i) (W : World), I pre W → BS S w W → WfAt Bs Bf lo ln lc V L i W → pre.length < F.length → body.wpIn (Fence.wide.inRound lp) (n - 1 - 1) Tryz.prog (fun e _ W' => BS S W W' ∧ bdQ I Ix (pre ++ [x]) e W') (frW2 a ps d1 d2 x) W)
    (hdone : ∀ (D : Nat) (W : World), w.heap.size ≤ D → I F W → BS S w W → W.heap[D]? = some (.deferred (some [])) → Q .normal { a with defers := { target := .collected D, args := #[] } :: a.defers } W)
    (hstop : ∀ (D : Nat) (c : Code) (pre : List (Fe V L i)) (W : World), w.heap.size ≤ D → pre <+: F → Ix c pre W → BS S w W → W.heap[D]? = some (.deferred (some [])) → c.wpIn Fence.wide n Tryz.prog Q { a with defers := { target := .collected D, args := #[] } :: a.defers } W) :
    (Code.rangeFunc g ps assign body).wpIn Fence.wide n Tryz.prog Q a w :=
  rfW Bs Bf S F h1 hg hF hE hln hi o hps hS I Ix hI hIx h0 hT (frW2 a ps d1 d2) hassign hbody hdone hstop
theorem boxed_keep {A C : World} {B : Nat} {t : TypeId} {v : Value} {row : Option Nat} {n : Nat} (h : Boxed A B t v) (hg : A.grownBy C row) (hr : ∀ r, row = some r → n ≤ r ∧ ∃ o, A.heap[r]? = some o ∧ o.isCells = false) : Boxed C B t v :=
  boxed_own B t (fun (_ : Unit) => v) () A C row h hg (fun r e => (hr r e).2)
theorem BS.boxed {S : Nat → Prop} {W W' : World} {B : Nat} {t : TypeId} {v : Value} (h : BS S W W') (hb : Boxed W B t v) (hB : ¬ S B) : Boxed W' B t v := (h.block B hb.lt hB).trans hb
theorem bdrew {W : World} {B : Nat} {t : TypeId} {v : Value} (h : Boxed W B t v) : Boxed W.drew B t v := h
theorem BS.drew {S : Nat → Prop} (W : World) : BS S W W.drew := BS.below ((Below.refl _ _).drew)
/-- The marks that ranges over functions have left. -/
def mks (D : List Nat) : List Deferred := D.map fun d => { target := .collected d, args := #[] }
structure Marks (D : List Nat) (B : Nat) (w : World) : Prop where
  at' : ∀ d ∈ D, w.heap[d]? = some (.deferred (some []))
  low : ∀ d ∈ D, B ≤ d
  nodup : D.Nodup
theorem Marks.nil (B : Nat) (w : World) : Marks [] B w := ⟨fun _ h => (by cases h), fun _ h => (by cases h), List.nodup_nil⟩
/-- What shutting the marks leaves as it was. -/
structure Shut (B : Nat) (X Y : World) : Prop where
  low : Below B X Y
  cells : ∀ (k : Nat) (o : Obj), X.heap[k]? = some o → o.isCells = true → Y.heap[k]? = some o
theorem Shut.refl (B : Nat) (X : World) : Shut B X X := ⟨Below.refl _ _, fun _ _ h _ => h⟩
theorem Shut.trans {B : Nat} {X Y Z : World} (h : Shut B X Y) (k : Shut B Y Z) : Shut B X Z := ⟨h.low.trans k.low, fun i o h1 h2 => k.cells i o (h.cells i o h1 h2) h2⟩
theorem leaves_marks {fn : Func} {tmps : Array Value} {R : Ending → World → Prop} (n B : Nat) : ∀ (D : List Nat) (w : World), Marks D B w → (∀ w', Shut B w w' → LeavesIn Fence.wide n Tryz.prog fn tmps R [] .returning w') → LeavesInM Fence.wide n Tryz.prog fn tmps R (mks D) .returning w
  | [], w, _, h => h w (Shut.refl B w)
  | d :: D, w, hm, h => by
    have hd := hm.at' d (.head _)
    have hlt := (Array.getElem?_eq_some_iff.1 hd).1
    have hs : Shut B w (w.putObj d (.deferred none)) := ⟨(Below.refl B w).grown (grownBy_putObj' w d _) (by have := hm.low d (.head _); omega) (fun k e => by cases e; exact hm.low d (.head _)), fun k o h1 h2 => by
      have : k ≠ d := fun e => by subst e; rw [hd] at h1; cases h1; cases h2
      rw [World.putObj_heap_other this]; exact h1⟩
    refine ⟨by simp, .inl ⟨_, _, rfl, run_takeDeferred hd, leaves_marks n B D _ ⟨fun e he => ?_, fun e he => hm.low e (.tail _ he), (List.nodup_cons.1 hm.nodup).2⟩ (fun w' hw => h w' (hs.trans hw))⟩⟩
    have : e ≠ d := fun h1 => (List.nodup_cons.1 hm.nodup).1 (h1 ▸ he)
    rw [World.putObj_heap_other this]
    exact hm.at' e (.tail _ he)
/-- A loop by its rounds, with an invariant. -/
theorem wpIn_loop_inv {F : Fence} {n : Nat} {P : Program} {Q : Exit → Act → World → Prop} {c : Code} (Inv : Nat → Act → World → Prop) (h0 : ∀ a w, ¬ Inv 0 a w)
    (h : ∀ m a w, Inv (m + 1) a w → c.wpIn F n P (Exit.then (Inv m) Q) a w) (m : Nat) (a : Act) (w : World) (hi : Inv m a w) : (Code.loop c).wpIn F n P Q a w := by
  refine wpIn_loop_rounds m ?_
  have key : ∀ m a w, Inv m a w → Code.roundsIn F n P c Q m a w := by
    intro m
    induction m with
    | zero => exact fun a w hi => absurd hi (h0 a w)
    | succ m ih =>
      intro a w hi
      rw [roundsIn_succ]
      refine wpIn_mono (h m a w hi) ?_
      intro e a' w' hq
      cases e with
      | normal => exact ih a' w' hq
      | _ => exact hq
  exact key m a w hi
theorem ofFn_all {k : Nat} (t : Array Value) (h : t.size = k) : t = Array.ofFn (fun i : Fin k => t.getD i undef) := by
  apply Array.ext
  · simp [h]
  · intro i h1 h2
    simp [Array.getD, h1]
/-- What a slot of the frame holds. -/
def at_ (a : Act) (i : Nat) : Value := a.tmps.getD i undef
end Go.Proofs.YtkopefljnhgdkaaGreatDoor
