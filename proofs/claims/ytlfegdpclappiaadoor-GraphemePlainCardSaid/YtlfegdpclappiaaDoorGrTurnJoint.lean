/- (*strings.Builder).WriteString, laid at this program. -/
import Derived.Shelf.Strings.BuilderK
import Derived.Test.YtlfegdpclappiaaDoorShelf
import Derived.Test.YtlfegdpclappiaaDoorGrLaw
import Derived.Test.YtlfegdpclappiaaDoorGrBackJoint
namespace Go.Proofs
open Go.Shelf
def Tryd.lays166_ren : Go.Shelf.Ren := ⟨fun | 166 => 41 | 240 => 60 | 276 => 74 | n => n, fun | 70 => 59 | 72 => 62 | 37 => 60 | 164 => 91 | 75 => 65 | 80 => 68 | n => n, fun | n => n⟩
theorem Tryd.lays166 : Go.Proofs.Lays.n166 Tryd.prog Tryd.lays166_ren := {
  mixed := by kernel_rfl
  f166 := Tryd.func41.trans (congrArg some (by kernel_rfl))
  f240 := Tryd.func60.trans (congrArg some (by kernel_rfl))
  f276 := Tryd.func74.trans (congrArg some (by kernel_rfl))
  t0 := Tryd.underlying0
  a0 := Tryd.isAgg0
  z0 := Tryd.sizeOf0
  v0 := Tryd.zeroValue0
  t3 := Tryd.underlying3
  a3 := Tryd.isAgg3
  z3 := Tryd.sizeOf3
  v3 := Tryd.zeroValue3
  t4 := Tryd.underlying4
  a4 := Tryd.isAgg4
  z4 := Tryd.sizeOf4
  v4 := Tryd.zeroValue4
  t9 := Tryd.underlying9
  a9 := Tryd.isAgg9
  z9 := Tryd.sizeOf9
  v9 := Tryd.zeroValue9
  t20 := Tryd.underlying20
  a20 := Tryd.isAgg20
  z20 := Tryd.sizeOf20
  v20 := Tryd.zeroValue20
  t37 := Tryd.underlying60
  a37 := Tryd.isAgg60
  z37 := Tryd.sizeOf60
  v37 := Tryd.zeroValue60
  t70 := Tryd.underlying59
  a70 := Tryd.isAgg59
  z70 := Tryd.sizeOf59
  v70 := Tryd.zeroValue59
  t72 := Tryd.underlying62
  a72 := Tryd.isAgg62
  z72 := Tryd.sizeOf62
  v72 := Tryd.zeroValue62
  t75 := Tryd.underlying65
  a75 := Tryd.isAgg65
  z75 := Tryd.sizeOf65
  v75 := Tryd.zeroValue65
  t164 := Tryd.underlying91
  a164 := Tryd.isAgg91
  z164 := Tryd.sizeOf91
  v164 := Tryd.zeroValue91 }
theorem Tryd.Builder_Extra_166 : Builder.Extra Tryd.prog Tryd.lays166_ren := {
  sizeBuilder := by kernel_rfl
  liesBuilder := by kernel_rfl
  t5 := Tryd.underlying5
  a5 := Tryd.isAgg5
  z5 := Tryd.sizeOf5
  v5 := Tryd.zeroValue5
  infoByte := by kernel_rfl
  cellsByte := by kernel_rfl
  sizeByte := by kernel_rfl
  neB5 := by decide }
end Go.Proofs
/- A law for a range over the iterator of Each (package grapheme) whose body keeps a relation; bodies that write a Builder. -/
namespace Go.Proofs.YtlfegdpclappiaaDoor
open Go.RowKit Go.Shelf

theorem rfR {l : List UInt8} {n : Nat} {g : Operand} {ps : Array Tmp} {assign body : Code} {Q : Exit → Act → World → Prop} {a : Act} {w : World}
    (Bs : Nat) (R : World → World → Prop) (L : List (Pl l)) (h1 : 2 ≤ n) (hg : a.eval g = .func (.func 51) #[] #[.pointer (some ⟨Bs, 0, none⟩)])
    (hL : L.map Pl.v = gpF l 0) (hE : WaAt Bs l w) (hl : l.length ≤ 1000000000) (hps : 2 = ps.size) (hR0 : ∀ W, R W W) (hRt : ∀ {A B C : World}, R A B → R B C → R A C) (hRo : ∀ {A B : World}, R A B → KeepsOthers A B) (hRk : ∀ {A B : World}, R A B → WaAt Bs l A → ∀ k, KW Bs k → B.heap[k]? = A.heap[k]?) (hRf : OwnFrom w.heap.size (fun (_ : List (Pl l)) W => R w W))
    (I : List (Pl l) → World → Prop) (Ix : Code → List (Pl l) → World → Prop) (hI : OwnFrom w.heap.size I) (hIx : ∀ c, OwnFrom w.heap.size (Ix c)) (h0 : I [] w) (a₁ : Pl l → Act)
    (hassign : ∀ (lp : Nat) (x : Pl l) (W : World) (K : Act → World → Prop), K (a₁ x) W →
      assign.wpIn (Fence.wide.inRound lp) (n - 1 - 1) Tryd.prog (Exit.then K (fun _ _ _ => False)) { tmps := (ps.zip (encP x)).foldl (fun t (p, v) => t.setIfInBounds p v) a.tmps, defers := [] } W)
    (hbody : ∀ (lp : Nat) (pre : List (Pl l)) (x : Pl l) (W : World), I pre W → R w W → WaAt Bs l W → pre.length < L.length → body.wpIn (Fence.wide.inRound lp) (n - 1 - 1) Tryd.prog (fun e _ W' => R W W' ∧ bdQ I Ix (pre ++ [x]) e W') (a₁ x) W)
    (hdone : ∀ (D : Nat) (W : World), w.heap.size ≤ D → I L W → R w W → W.heap[D]? = some (.deferred (some [])) → Q .normal { a with defers := { target := .collected D, args := #[] } :: a.defers } W)
    (hstop : ∀ (D : Nat) (c : Code) (pre : List (Pl l)) (W : World), w.heap.size ≤ D → pre <+: L → Ix c pre W → R w W → W.heap[D]? = some (.deferred (some [])) → c.wpIn Fence.wide n Tryd.prog Q { a with defers := { target := .collected D, args := #[] } :: a.defers } W) :
    (Code.rangeFunc g ps assign body).wpIn Fence.wide n Tryd.prog Q a w := by
  have h2 := hE.tb.two
  refine wpIn_rangeFunc_ownG (F := Fence.wide) rfl (by omega) hg trivial (enters_of Tryd.func51 (by kernel_rfl) rfl) (geach_stops (n - 1) (by omega) Bs l L hL w hE hl) KrW_t (KrW_b hE.lt) (Below.refl _ _) (fun _ => hps)
    (fun pre W => (I pre W ∧ R w W) ∧ WaAt Bs l W) (fun c pre W => Ix c pre W ∧ R w W)
    (OwnFrom.and (OwnFrom.and hI hRf) (waAt_from _ _ l h2)) (fun c => OwnFrom.and (hIx c) hRf) ⟨⟨h0, hR0 w⟩, hE⟩ a₁ hassign ?_ ?_ ?_
  · rintro lp pre x W ⟨⟨hi, hb⟩, he⟩ hlt
    refine wpIn_mono (hbody lp pre x W hi hb he hlt) ?_
    rintro e _ W' ⟨hB, hq⟩
    have hO := hRo hB
    have hK : KrW (KW Bs) W W' := ⟨⟨hO.size, fun k o hk hw => hO.same k o hk (Obj.not_cells_of_walk hw)⟩, hRk hB he⟩
    cases e with
    | normal => exact ⟨hO.from _, hK, ⟨hq, hRt hb hB⟩, he.keeps hO.size hK.2⟩
    | ret => exact ⟨hO.from _, hq, hRt hb hB⟩
    | exit i => exact ⟨hO.from _, hq, hRt hb hB⟩
    | goto t => exact (hq : False).elim
    | panic c => exact (hq : False).elim
    | outgrown => exact (hq : False).elim
  · rintro D xs W hD rfl ⟨⟨hi, hb⟩, _⟩ hK
    exact hdone D W hD hi hb hK
  · rintro D c pre W hD hp ⟨hx, hb⟩ hK
    exact hstop D c pre W hD hp hx hb hK
theorem rfRF {l : List UInt8} {n : Nat} {g : Operand} {ps : Array Tmp} {assign body : Code} {Q : Exit → Act → World → Prop} {a : Act} {w : World}
    (Bs : Nat) (R : World → World → Prop) (L : List (Pl l)) (h1 : 2 ≤ n) (hg : a.eval g = .func (.func 51) #[] #[.pointer (some ⟨Bs, 0, none⟩)])
    (hL : L.map Pl.v = gpF l 0) (hE : WaAt Bs l w) (hl : l.length ≤ 1000000000) (hps : 2 = ps.size) (hR0 : ∀ W, R W W) (hRt : ∀ {A B C : World}, R A B → R B C → R A C) (hRo : ∀ {A B : World}, R A B → KeepsOthers A B) (hRk : ∀ {A B : World}, R A B → WaAt Bs l A → ∀ k, KW Bs k → B.heap[k]? = A.heap[k]?) (hRf : OwnFrom w.heap.size (fun (_ : List (Pl l)) W => R w W))
    (I : List (Pl l) → World → Prop) (Ix : Code → List (Pl l) → World → Prop) (hI : OwnFrom w.heap.size I) (hIx : ∀ c, OwnFrom w.heap.size (Ix c)) (h0 : I [] w) (d1 d2 : Nat)
    (hassign : ∀ (lp : Nat) (x : Pl l) (W : World) (K : Act → World → Prop), K (fr a ps d1 d2 x) W →
      assign.wpIn (Fence.wide.inRound lp) (n - 1 - 1) Tryd.prog (Exit.then K (fun _ _ _ => False)) { tmps := (ps.zip (encP x)).foldl (fun t (p, v) => t.setIfInBounds p v) a.tmps, defers := [] } W)
    (hbody : ∀ (lp : Nat) (pre : List (Pl l)) (x : Pl l) (W : World), I pre W → R w W → WaAt Bs l W → pre.length < L.length → body.wpIn (Fence.wide.inRound lp) (n - 1 - 1) Tryd.prog (fun e _ W' => R W W' ∧ bdQ I Ix (pre ++ [x]) e W') (fr a ps d1 d2 x) W)
    (hdone : ∀ (D : Nat) (W : World), w.heap.size ≤ D → I L W → R w W → W.heap[D]? = some (.deferred (some [])) → Q .normal { a with defers := { target := .collected D, args := #[] } :: a.defers } W)
    (hstop : ∀ (D : Nat) (c : Code) (pre : List (Pl l)) (W : World), w.heap.size ≤ D → pre <+: L → Ix c pre W → R w W → W.heap[D]? = some (.deferred (some [])) → c.wpIn Fence.wide n Tryd.prog Q { a with defers := { target := .collected D, args := #[] } :: a.defers } W) :
    (Code.rangeFunc g ps assign body).wpIn Fence.wide n Tryd.prog Q a w :=
  rfR Bs R L h1 hg hL hE hl hps hR0 (fun h k => hRt h k) hRo hRk hRf I Ix hI hIx h0 (fr a ps d1 d2) hassign hbody hdone hstop
/-- What a body does that writes a Builder at b: rows of bytes from B on, and blocks of S, may be others. -/
structure BSu (B : Nat) (S : Nat → Prop) (W W' : World) : Prop where
  low : Below B W W'
  block : ∀ k o, W.heap[k]? = some o → ¬ S k → (∀ c fz, o ≠ .cells c 5 fz) → W'.heap[k]? = some o
  others : KeepsOthers W W'
theorem BSu.refl (B : Nat) (S : Nat → Prop) (W : World) : BSu B S W W := ⟨Below.refl _ _, fun _ _ h _ _ => h, KeepsOthers.refl W⟩
theorem BSu.trans {B : Nat} {S : Nat → Prop} {X Y Z : World} (h : BSu B S X Y) (k : BSu B S Y Z) : BSu B S X Z :=
  ⟨h.low.trans k.low, fun i o hi hs ho => k.block i o (h.block i o hi hs ho) hs ho, ⟨Nat.le_trans h.others.size k.others.size, fun i o hi ho => k.others.same i o (h.others.same i o hi ho) ho⟩⟩
theorem BSu.of {B : Nat} {S : Nat → Prop} {W W' : World} (h : BS S W W') (hB : ∀ k, S k → B ≤ k) (hs : B ≤ W.heap.size) : BSu B S W W' :=
  ⟨h.lower B hB hs, fun k _ hk hsk _ => (h.block k (Array.getElem?_eq_some_iff.1 hk).1 hsk).trans hk, h.others⟩
theorem BSu.write {B b : Nat} {S : Nat → Prop} {W W' : World} (h : Below B W W') (ho : Lib.OthersKept 5 (some b) W W') (hS : S b) (hb : ∃ c t, W.heap[b]? = some (.cells c t (0, 0))) : BSu B S W W' :=
  ⟨h, fun k o hk hs h5 => ho k o hk (fun e => hs (by cases e; exact hS)) h5, ⟨h.size, fun k o hk hc => ho k o hk (fun e => by
    cases e
    obtain ⟨c, t, h1⟩ := hb
    rw [h1] at hk
    cases hk
    cases hc) (fun c fz e => by subst e; cases hc)⟩⟩
theorem bsu_from {β : Type} (B : Nat) (S : Nat → Prop) (w : World) (hB : B ≤ w.heap.size) : OwnFrom w.heap.size (fun (_ : β) W => BSu B S w W) := fun _ A C row h hg hr => by
  have hb : ∀ k, k < w.heap.size → C.heap[k]? = A.heap[k]? := fun k hk => hg.block k (Nat.lt_of_lt_of_le hk h.low.size) (fun e => by
    obtain ⟨hle, _⟩ := hr k e.symm
    omega)
  exact ⟨⟨hg.os.trans h.low.os, hg.tape.trans h.low.tape, hg.output.trans h.low.output, Nat.le_trans h.low.size hg.size, fun k hk => (hb k (by omega)).trans (h.low.block k hk)⟩,
    fun k o hk hs ho => (hb k (Array.getElem?_eq_some_iff.1 hk).1).trans (h.block k o hk hs ho),
    ⟨Nat.le_trans h.low.size hg.size, fun k o hk ho => (hb k (Array.getElem?_eq_some_iff.1 hk).1).trans (h.others.same k o hk ho)⟩⟩
theorem BSu.boxed {B : Nat} {S : Nat → Prop} {W W' : World} {k : Nat} {t : TypeId} {v : Value} (h : BSu B S W W') (hb : Boxed W k t v) (hk : ¬ S k) (ht : t ≠ 5) : Boxed W' k t v := h.block k _ hb hk (fun c fz e => ht (by cases e; rfl))
theorem BSu.cells {B : Nat} {S : Nat → Prop} {W W' : World} {k : Nat} {t : TypeId} {v : Array Value} {z : Nat × Nat} (h : BSu B S W W') (hb : W.heap[k]? = some (.cells v t z)) (hk : ¬ S k) (ht : t ≠ 5) : W'.heap[k]? = some (.cells v t z) := h.block k _ hb hk (fun c fz e => ht (by cases e; rfl))
theorem BSu.keeps {B : Nat} {S : Nat → Prop} {Bs : Nat} {l : List UInt8} {W W' : World} (h : BSu B S W W') (h2 : 2 ≤ B) (hS : ¬ S Bs) (hE : WaAt Bs l W) : ∀ k, KW Bs k → W'.heap[k]? = W.heap[k]? := by
  rintro k (rfl | hk)
  · exact (h.boxed hE.bs hS (by decide)).trans hE.bs.symm
  · exact h.low.block k (by omega)
theorem Tryd.Builder_WriteString_k (B b : Nat) (bs : List Value) (s : ByteArray) (w : World) (h : Lib.IsBuilderF 62 5 B b bs w) (hlen : bs.length + s.size ≤ 140737488355328) (hBw : B ≤ w.heap.size) :
    Calls Tryd.prog 41 #[.pointer (some ⟨b, 0, none⟩), .string s] w fun e w' => e = .returned (.tuple #[.int .i64 s.size, .nilIface]) ∧ (Lib.BuilderAtF 62 5 B b (.pointer (some ⟨b, 0, none⟩)) (bs ++ Lib.strCells s) w' ∧ Below B w w' ∧ Lib.OthersKept 5 (some b) w w') :=
  Any.Builder_WriteString_k Tryd.lays166 Tryd.Builder_Extra_166 B b bs s w h hlen hBw
end Go.Proofs.YtlfegdpclappiaaDoor
/- A Builder that is written: WriteString and String; what keeps it. -/
namespace Go.Proofs.YtlfegdpclappiaaDoor
open Go.RowKit Go.Shelf

theorem write_any (B b : Nat) (T u : List UInt8) (s : ByteArray) (w : World) (h : Lib.IsBuilderF 62 5 B b (Lib.byteCells T) w) (hs : s = ⟨u.toArray⟩) (hlen : T.length + u.length ≤ 140737488355328) (hBw : B ≤ w.heap.size) :
    Calls Tryd.prog 41 #[.pointer (some ⟨b, 0, none⟩), .string s] w fun e w' => (∃ v, e = .returned v) ∧ Lib.IsBuilderF 62 5 B b (Lib.byteCells (T ++ u)) w' ∧ Below B w w' ∧ Lib.OthersKept 5 (some b) w w' := by
  subst hs
  have hc : Lib.byteCells T ++ Lib.strCells ⟨u.toArray⟩ = Lib.byteCells (T ++ u) := by
    unfold Lib.byteCells Lib.strCells
    simp
  refine (Any.Builder_WriteString_k Tryd.lays166 Tryd.Builder_Extra_166 B b (Lib.byteCells T) ⟨u.toArray⟩ w h ?_ hBw).mono ?_
  · rw [Lib.byteCells_length]
    show _ + u.toArray.size ≤ _
    simpa using hlen
  · rintro e w' ⟨rfl, h1, h2, h3⟩
    rw [hc] at h1
    exact ⟨⟨_, rfl⟩, .inr h1, h2, h3⟩
theorem string_any (B b : Nat) (T : List UInt8) (w : World) (h : Lib.IsBuilderF 62 5 B b (Lib.byteCells T) w) (hBw : B ≤ w.heap.size) :
    Calls Tryd.prog 42 #[.pointer (some ⟨b, 0, none⟩)] w fun e w' => e = .returned (.string ⟨T.toArray⟩) ∧ Below B w w' ∧ Lib.OthersKept 5 (some b) w w' :=
  (Any.Builder_String_any_k Tryd.lays169 Tryd.Builder_Extra_169 B b T w h hBw).mono fun _ _ h => ⟨h.1, h.2.2.1, h.2.2.2⟩
theorem builderF_own {β : Type} (B b : Nat) (f : β → List Value) : Own (fun s W => Lib.IsBuilderF 62 5 B b (f s) W) := by
  have one : ∀ (p : Value) (s : β) (X Y : World) (row : Option Nat), Lib.BuilderAtF 62 5 B b p (f s) X → X.grownBy Y row → (∀ r, row = some r → ∃ o : Obj, X.heap[r]? = some o ∧ o.isCells = false) → Lib.BuilderAtF 62 5 B b p (f s) Y := by
    rintro p s X Y row ⟨h1, v, hv, hr, hne⟩ hg hrow
    have kept : ∀ (k : Nat) c t fz, X.heap[k]? = some (Obj.cells c t fz) → Y.heap[k]? = some (Obj.cells c t fz) := fun k c t fz hk =>
      (hg.block k (Array.getElem?_eq_some_iff.1 hk).1 (fun e => by
        obtain ⟨o, ho, hc⟩ := hrow k e.symm
        rw [hk] at ho; cases ho; cases hc)).trans hk
    refine ⟨h1, v, kept _ _ _ _ hv, ⟨hr.1, ?_⟩, hne⟩
    rcases hr.2 with h0 | ⟨g, cap, cur, fz, hv', hbg, hgg, hrr⟩
    · exact .inl h0
    · exact .inr ⟨g, cap, cur, fz, hv', hbg, kept _ _ _ _ hgg, hrr⟩
  rintro s X Y row h hg hrow
  exact h.imp (fun x => one _ s X Y row x hg hrow) (fun x => one _ s X Y row x hg hrow)
theorem bf_below {B b : Nat} {bs : List Value} {W W' : World} (h : Lib.IsBuilderF 62 5 B b bs W) (hb : Below W.heap.size W W') : Lib.IsBuilderF 62 5 B b bs W' :=
  builderF_own B b (fun (_ : Unit) => bs) () W W' none h (wgrown hb) (fun _ e => by cases e)
theorem bf_set {B b M : Nat} {bs : List Value} {W : World} {v v' : Value} {t : TypeId} (h : Lib.IsBuilderF 62 5 B b bs W) (hM : Boxed W M t v) (hne : M ≠ b) (ht : t ≠ 5) : Lib.IsBuilderF 62 5 B b bs (W.setCell ⟨M, 0, none⟩ v') := by
  have hg := grownBy_setCell' W M v'
  have one : ∀ (p : Value), Lib.BuilderAtF 62 5 B b p bs W → Lib.BuilderAtF 62 5 B b p bs (W.setCell ⟨M, 0, none⟩ v') := by
    rintro p ⟨h1, u, hv, hr, hnb⟩
    refine ⟨h1, u, (hg.block b (Array.getElem?_eq_some_iff.1 hv).1 (fun e => hne (by cases e; rfl))).trans hv, ⟨hr.1, ?_⟩, hnb⟩
    rcases hr.2 with h0 | ⟨g, cap, cur, fz, hv', hbg, hgg, hrr⟩
    · exact .inl h0
    · refine .inr ⟨g, cap, cur, fz, hv', hbg, (hg.block g (Array.getElem?_eq_some_iff.1 hgg).1 (fun e => ?_)).trans hgg, hrr⟩
      cases e
      have hx : W.heap[M]? = some (.cells #[v] t (0, 0)) := hM
      rw [hx] at hgg
      cases hgg
      exact ht rfl
  exact h.imp (one _) (one _)
theorem bf_block {B b : Nat} {bs : List Value} {W : World} (h : Lib.IsBuilderF 62 5 B b bs W) : ∃ c t, W.heap[b]? = some (.cells c t (0, 0)) := by
  rcases h with ⟨_, v, h, _⟩ | ⟨_, v, h, _⟩
  · exact ⟨_, _, h⟩
  · exact ⟨_, _, h⟩
end Go.Proofs.YtlfegdpclappiaaDoor
/- A law for a range over the iterator of Back (package grapheme); the contracts of Back and Turn. -/
namespace Go.Proofs.YtlfegdpclappiaaDoor
open Go.RowKit Go.Shelf
attribute [local go_sem] Oper.semAt_some

theorem rfB {l : List UInt8} {n : Nat} {g : Operand} {ps : Array Tmp} {assign body : Code} {Q : Exit → Act → World → Prop} {a : Act} {w : World}
    (Bs : Nat) (R : World → World → Prop) (L : List (Pl l)) (h1 : 4 ≤ n) (hg : a.eval g = .func (.func 62) #[] #[.pointer (some ⟨Bs, 0, none⟩)])
    (hL : L.map Pl.v = bkR l (rl l).length) (hE : WaAt Bs l w) (hl : l.length ≤ 100000000) (hps : 2 = ps.size) (hR0 : ∀ W, R W W) (hRt : ∀ {A B C : World}, R A B → R B C → R A C) (hRo : ∀ {A B : World}, R A B → KeepsOthers A B) (hRk : ∀ {A B : World}, R A B → WaAt Bs l A → ∀ k, KW Bs k → B.heap[k]? = A.heap[k]?) (hRw : ∀ {A B : World}, R A B → ∀ k c fz, w.heap.size ≤ k → A.heap[k]? = some (.cells c 3 fz) → B.heap[k]? = some (.cells c 3 fz)) (hRf : OwnFrom w.heap.size (fun (_ : List (Pl l)) W => R w W))
    (I : List (Pl l) → World → Prop) (Ix : Code → List (Pl l) → World → Prop) (hI : OwnFrom w.heap.size I) (hIx : ∀ c, OwnFrom w.heap.size (Ix c)) (h0 : I [] w) (a₁ : Pl l → Act)
    (hassign : ∀ (lp : Nat) (x : Pl l) (W : World) (K : Act → World → Prop), K (a₁ x) W →
      assign.wpIn (Fence.wide.inRound lp) (n - 1 - 1) Tryd.prog (Exit.then K (fun _ _ _ => False)) { tmps := (ps.zip (encP x)).foldl (fun t (p, v) => t.setIfInBounds p v) a.tmps, defers := [] } W)
    (hbody : ∀ (lp : Nat) (pre : List (Pl l)) (x : Pl l) (W : World), I pre W → R w W → WaAt Bs l W → pre.length < L.length → body.wpIn (Fence.wide.inRound lp) (n - 1 - 1) Tryd.prog (fun e _ W' => R W W' ∧ bdQ I Ix (pre ++ [x]) e W') (a₁ x) W)
    (hdone : ∀ (D : Nat) (W : World), w.heap.size ≤ D → I L W → R w W → W.heap[D]? = some (.deferred (some [])) → Q .normal { a with defers := { target := .collected D, args := #[] } :: a.defers } W)
    (hstop : ∀ (D : Nat) (c : Code) (pre : List (Pl l)) (W : World), w.heap.size ≤ D → pre <+: L → Ix c pre W → R w W → W.heap[D]? = some (.deferred (some [])) → c.wpIn Fence.wide n Tryd.prog Q { a with defers := { target := .collected D, args := #[] } :: a.defers } W) :
    (Code.rangeFunc g ps assign body).wpIn Fence.wide n Tryd.prog Q a w := by
  have h2 := hE.tb.two
  refine wpIn_rangeFunc_ownG (F := Fence.wide) rfl (by omega) hg trivial (enters_of Tryd.func62 (by kernel_rfl) rfl) (gback_stops (n - 1) (by omega) Bs w.heap.size l L hL w (Nat.le_refl _) hE hl) KrB_t (KrB_b hE.lt) (Below.refl _ _) (fun _ => hps)
    (fun pre W => (I pre W ∧ R w W) ∧ WaAt Bs l W) (fun c pre W => Ix c pre W ∧ R w W)
    (OwnFrom.and (OwnFrom.and hI hRf) (waAt_from _ _ l h2)) (fun c => OwnFrom.and (hIx c) hRf) ⟨⟨h0, hR0 w⟩, hE⟩ a₁ hassign ?_ ?_ ?_
  · rintro lp pre x W ⟨⟨hi, hb⟩, he⟩ hlt
    refine wpIn_mono (hbody lp pre x W hi hb he hlt) ?_
    rintro e _ W' ⟨hB, hq⟩
    have hO := hRo hB
    have hK : KrW (KW Bs) W W' := ⟨⟨hO.size, fun k o hk hw => hO.same k o hk (Obj.not_cells_of_walk hw)⟩, hRk hB he⟩
    have hKB : KrB (KW Bs) w.heap.size W W' := ⟨hK, hRw hB⟩
    cases e with
    | normal => exact ⟨hO.from _, hKB, ⟨hq, hRt hb hB⟩, he.keeps hO.size hK.2⟩
    | ret => exact ⟨hO.from _, hq, hRt hb hB⟩
    | exit i => exact ⟨hO.from _, hq, hRt hb hB⟩
    | goto t => exact (hq : False).elim
    | panic c => exact (hq : False).elim
    | outgrown => exact (hq : False).elim
  · rintro D xs W hD rfl ⟨⟨hi, hb⟩, _⟩ hK
    exact hdone D W hD hi hb hK
  · rintro D c pre W hD hp ⟨hx, hb⟩ hK
    exact hstop D c pre W hD hp hx hb hK
theorem rfBF {l : List UInt8} {n : Nat} {g : Operand} {ps : Array Tmp} {assign body : Code} {Q : Exit → Act → World → Prop} {a : Act} {w : World}
    (Bs : Nat) (R : World → World → Prop) (L : List (Pl l)) (h1 : 4 ≤ n) (hg : a.eval g = .func (.func 62) #[] #[.pointer (some ⟨Bs, 0, none⟩)])
    (hL : L.map Pl.v = bkR l (rl l).length) (hE : WaAt Bs l w) (hl : l.length ≤ 100000000) (hps : 2 = ps.size) (hR0 : ∀ W, R W W) (hRt : ∀ {A B C : World}, R A B → R B C → R A C) (hRo : ∀ {A B : World}, R A B → KeepsOthers A B) (hRk : ∀ {A B : World}, R A B → WaAt Bs l A → ∀ k, KW Bs k → B.heap[k]? = A.heap[k]?) (hRw : ∀ {A B : World}, R A B → ∀ k c fz, w.heap.size ≤ k → A.heap[k]? = some (.cells c 3 fz) → B.heap[k]? = some (.cells c 3 fz)) (hRf : OwnFrom w.heap.size (fun (_ : List (Pl l)) W => R w W))
    (I : List (Pl l) → World → Prop) (Ix : Code → List (Pl l) → World → Prop) (hI : OwnFrom w.heap.size I) (hIx : ∀ c, OwnFrom w.heap.size (Ix c)) (h0 : I [] w) (d1 d2 : Nat)
    (hassign : ∀ (lp : Nat) (x : Pl l) (W : World) (K : Act → World → Prop), K (fr a ps d1 d2 x) W →
      assign.wpIn (Fence.wide.inRound lp) (n - 1 - 1) Tryd.prog (Exit.then K (fun _ _ _ => False)) { tmps := (ps.zip (encP x)).foldl (fun t (p, v) => t.setIfInBounds p v) a.tmps, defers := [] } W)
    (hbody : ∀ (lp : Nat) (pre : List (Pl l)) (x : Pl l) (W : World), I pre W → R w W → WaAt Bs l W → pre.length < L.length → body.wpIn (Fence.wide.inRound lp) (n - 1 - 1) Tryd.prog (fun e _ W' => R W W' ∧ bdQ I Ix (pre ++ [x]) e W') (fr a ps d1 d2 x) W)
    (hdone : ∀ (D : Nat) (W : World), w.heap.size ≤ D → I L W → R w W → W.heap[D]? = some (.deferred (some [])) → Q .normal { a with defers := { target := .collected D, args := #[] } :: a.defers } W)
    (hstop : ∀ (D : Nat) (c : Code) (pre : List (Pl l)) (W : World), w.heap.size ≤ D → pre <+: L → Ix c pre W → R w W → W.heap[D]? = some (.deferred (some [])) → c.wpIn Fence.wide n Tryd.prog Q { a with defers := { target := .collected D, args := #[] } :: a.defers } W) :
    (Code.rangeFunc g ps assign body).wpIn Fence.wide n Tryd.prog Q a w :=
  rfB Bs R L h1 hg hL hE hl hps hR0 (fun h k => hRt h k) hRo hRk hRw hRf I Ix hI hIx h0 (fr a ps d1 d2) hassign hbody hdone hstop
theorem gback_any (l : List UInt8) (w : World) :
    Calls Tryd.prog 40 #[.string ⟨l.toArray⟩] w fun e w' => e = .returned (.func (.func 62) #[] #[.pointer (some ⟨w.heap.size, 0, none⟩)]) ∧ w' = w.alloc (.cells #[.string ⟨l.toArray⟩] 9) := by
  go_enter Tryd.func40, Tryd.ntmps40
  go_wp2
  go_ret
  exact ⟨rfl, rfl⟩
/-- Pieces one behind the other. -/
def trP (l : List UInt8) (xs : List (Nat × Nat)) : List UInt8 := xs.flatMap fun x => (l.take x.2).drop x.1
theorem trP_snoc (l : List UInt8) (xs : List (Nat × Nat)) (x : Nat × Nat) : trP l (xs ++ [x]) = trP l xs ++ (l.take x.2).drop x.1 := by simp [trP]
theorem trP_len (l : List UInt8) (hl : l.length ≤ 1000) : ∀ (xs : List (Nat × Nat)), (trP l xs).length ≤ 1000 * xs.length
  | [] => by simp [trP]
  | x :: xs => by
    have h := trP_len l hl xs
    have h1 : ((l.take x.2).drop x.1).length ≤ 1000 := by rw [List.length_drop, List.length_take]; omega
    have e : trP l (x :: xs) = (l.take x.2).drop x.1 ++ trP l xs := rfl
    rw [e, List.length_append, List.length_cons]
    omega
/-- A text turned. -/
def trn (l : List UInt8) : List UInt8 := trP l (gpF l 0).reverse
set_option maxHeartbeats 4000000 in
set_option maxRecDepth 100000 in
theorem gturn_in (l : List UInt8) (w : World) (ht : TbW w) (hl : l.length ≤ 1000) :
    CallsIn Fence.wide 5 Tryd.prog 14 #[.string ⟨l.toArray⟩] w fun e W' => e = .returned (.string ⟨(trn l).toArray⟩) ∧ Below w.heap.size w W' := by
  have HT := hid ht
  clear ht
  obtain ⟨L0, hL0, hLl⟩ := gp_all l _ 0 (Nat.le_refl _)
  obtain ⟨L, hLe⟩ : ∃ L, L = L0.reverse := ⟨_, rfl⟩
  have HL := hid (show L.map Pl.v = bkR l (rl l).length by rw [hLe, List.map_reverse, hL0, bkR_all])
  have HTR := hid (show trP l (L.map Pl.v) = trn l by rw [hLe, List.map_reverse, hL0]; rfl)
  have hll : L.length ≤ 1000 := by rw [hLe, List.length_reverse]; omega
  clear hL0 hLl hLe
  obtain ⟨N, hN⟩ : ∃ N, N = w.heap.size := ⟨_, rfl⟩
  have b0 := (Boxed.new w 9 (.string ⟨l.toArray⟩)).alloc (.cells #[.pointer none, .slice none 0 0] 62)
  have hbk := World.alloc_heap_new (w.alloc (.cells #[.string ⟨l.toArray⟩] 9)) (.cells #[.pointer none, .slice none 0 0] 62)
  have hB0 : Below w.heap.size w ((w.alloc (.cells #[.string ⟨l.toArray⟩] 9)).alloc (.cells #[.pointer none, .slice none 0 0] 62)) := ((Below.refl _ _).alloc (Nat.le_refl _) _).alloc (by simp) _
  have hsz0 : ((w.alloc (.cells #[.string ⟨l.toArray⟩] 9)).alloc (.cells #[.pointer none, .slice none 0 0] 62)).heap.size = w.heap.size + 2 := by simp
  rw [World.size_alloc] at hbk
  refine callsIn_of_wp_marks Tryd.func14 rfl trivial ?_ rfl
  simp only [Tryd.ntmps14, List.size_toArray, List.length_cons, List.length_nil, Nat.reduceAdd, Nat.reduceSub, Array.replicate_succ, Array.replicate_zero, List.push_toArray, List.append_toArray, List.nil_append, List.cons_append]
  gi_wp2_with fail
  obtain ⟨w0, hw0⟩ : ∃ w0, w0 = (w.alloc (.cells #[.string ⟨l.toArray⟩] 9)).alloc (.cells #[.pointer none, .slice none 0 0] 62) := ⟨_, rfl⟩
  rw [← hw0] at b0 hbk hB0 hsz0 ⊢
  rw [← hN] at b0 hbk hB0 hsz0 ⊢
  have h2 : 2 ≤ N := by rw [hN]; exact HT.out.two
  have HN := hid hN
  clear hw0 hN
  refine ⟨trivial, (callsIn_wide.2 (Tryd.Builder_Grow_fresh (N + 1) (N + 1) l.length w0 (Nat.le_refl _) hbk (by omega) (by omega))).mono ?_⟩
  rintro e w1 ⟨rfl, hG, be1⟩
  have b1 : Boxed w1 N 9 (.string ⟨l.toArray⟩) := (be1.block N (by omega)).trans b0
  have HB1 := hid (show Below N w w1 from hB0.trans (be1.mono (by omega)))
  have HBF := hid (Lib.IsBuilderF.of (.inr hG))
  have hs1 : N + 2 ≤ w1.heap.size := by have := be1.size; omega
  have c1 := b1.cell
  have b2 := Boxed.new w1 9 (.string ⟨l.toArray⟩)
  have hB2 : Below w1.heap.size w1 (w1.alloc (.cells #[.string ⟨l.toArray⟩] 9)) := (Below.refl _ _).alloc (Nat.le_refl _) _
  have hs2 : (w1.alloc (.cells #[.string ⟨l.toArray⟩] 9)).heap.size = w1.heap.size + 1 := by simp
  clear hbk be1 hG b0 hB0 hsz0
  gi_wp2_with (refine ⟨trivial, ?_⟩; gi_at_call 40; refine (callsIn_wide.2 (gback_any l _)).mono ?_; rintro e w' ⟨rfl, rfl⟩)
  obtain ⟨w2, hw2⟩ : ∃ w2, w2 = w1.alloc (.cells #[.string ⟨l.toArray⟩] 9) := ⟨_, rfl⟩
  rw [← hw2] at b2 hB2 hs2 ⊢
  clear hw2
  obtain ⟨M, hM⟩ : ∃ M, M = w1.heap.size := ⟨_, rfl⟩
  have HBF2 := hid (bf_below HBF.out hB2)
  rw [← hM] at b2 hs2 hB2 hs1 ⊢
  have HB0 := hid (show Boxed w2 N 9 (.string ⟨l.toArray⟩) from (hB2.block N (by omega)).trans b1)
  have HBw := hid (show Below N w w2 from HB1.out.trans (hB2.mono (by omega)))
  have HEa := hid (show WaAt M l w2 from ⟨b2, HT.out.below (by rw [← HN.out]; exact HBw.out)⟩)
  have HS2 := hid hs2
  clear b1 b2 hB2 hs2 hM HB1 HBF c1
  refine rfBF M (BSu (N + 1) (fun k => k = N + 1)) L (by omega) rfl HL.out HEa.out (by omega) rfl (fun W => BSu.refl _ _ W) (fun h k => h.trans k) (fun h => h.others) (fun h he => h.keeps (by omega) (fun h => by omega) he)
    (fun h k c fz hk hc => h.cells hc (fun e => by have := HS2.out; omega) (by decide)) (bsu_from (N + 1) _ w2 (by have := HS2.out; omega))
    (fun pre W => Boxed W N 9 (.string ⟨l.toArray⟩) ∧ Lib.IsBuilderF 62 5 (N + 1) (N + 1) (Lib.byteCells (trP l (pre.map Pl.v))) W)
    (fun _ _ _ => False)
    (OwnFrom.and (Own.from (boxed_own _ _ _) _) (Own.from (builderF_own (N + 1) (N + 1) (fun pre : List (Pl l) => Lib.byteCells (trP l (pre.map Pl.v)))) _))
    (fun _ _ _ _ _ hs _ _ => hs)
    ⟨HB0.out, HBF2.out⟩ 4 5 ?assign ?body ?done ?stop
  case assign =>
    intro lp x W K hK
    dsimp only [encP]
    gi_wp2
    simpa [fr, encP] using hK
  case body =>
    rintro lp pre x W ⟨v0, vb⟩ hb he hlt
    have hx1 := x.lt
    have hx2 := x.le
    obtain ⟨f, hf⟩ : ∃ f, f = x.v.1 := ⟨_, rfl⟩
    obtain ⟨z, hx⟩ : ∃ z, z = x.v.2 := ⟨_, rfl⟩
    have hpb := trP_len l hl (pre.map Pl.v)
    rw [List.length_map] at hpb
    have HPS := hid (trP_snoc l (pre.map Pl.v) x.v)
    obtain ⟨o, ho⟩ : ∃ o, o = trP l (pre.map Pl.v) := ⟨_, rfl⟩
    rw [← ho] at vb hpb HPS
    rw [← hf, ← hx] at HPS
    have HEX := hid (ext_piece l f z (by omega))
    have HLE := hid (show ((l.take z).drop f).length = z - f by rw [List.length_drop, List.length_take]; omega)
    dsimp only [fr, encP]
    rw [← hf, ← hx] at hx1 ⊢
    rw [← hx] at hx2
    clear hf hx ho
    have HV0 := hid v0
    have HVB := hid vb
    have c0 := v0.cell
    have hWs : N + 2 ≤ W.heap.size := by have := hb.others.size; have := HS2.out; omega
    clear v0 vb
    gi_wp2_with fail
    rw [HEX.out]
    refine ⟨trivial, CallsIn.inRound lp (callsIn_wide.2 ((write_any (N + 1) (N + 1) o ((l.take z).drop f) _ W HVB.out rfl (by have := HLE.out; omega) (by omega)).mono ?_))⟩
    rintro e W1 ⟨⟨v', rfl⟩, hbf, hlo, hot⟩
    have HR := hid (show BSu (N + 1) (fun k => k = N + 1) W W1 from BSu.write hlo hot rfl (bf_block HVB.out))
    have HBF1 := hid hbf
    clear hbf hlo hot c0
    gi_wp2
    refine ⟨HR.out, HR.out.boxed HV0.out (fun h => by omega) (by decide), ?_⟩
    rw [List.map_append, List.map_cons, List.map_nil, HPS.out]
    exact HBF1.out
  case done =>
    rintro D W hD ⟨_, vb⟩ hb hK
    rw [HTR.out] at vb
    have HVB := hid vb
    have hWs : N + 2 ≤ W.heap.size := by have := hb.others.size; have := HS2.out; omega
    clear vb
    gi_wp2_with fail
    refine ⟨trivial, (callsIn_wide.2 (string_any (N + 1) (N + 1) (trn l) W HVB.out (by omega))).mono ?_⟩
    rintro e W1 ⟨rfl, hl1, ho1⟩
    have hK1 : W1.heap[D]? = some (.deferred (some [])) := ho1 D _ hK (fun e => by
      cases e
      have := HS2.out
      omega) (fun c fz e => by cases e)
    have HL1 := hid hl1
    clear hl1 ho1
    gi_wp2
    refine ⟨by simp, .inl ⟨_, _, rfl, run_takeDeferred hK1, ?_⟩⟩
    refine ⟨_, results_tmp rfl _ _ _, rfl, ?_⟩
    have hs2 := HS2.out
    have hn := HN.out
    rw [← hn]
    exact ((HBw.out.trans (hb.low.mono (by omega))).trans (HL1.out.mono (by omega))).trans (belowK_b (w := w) (by omega) W1 D _ _ (by omega) hK1 rfl rfl)
  case stop =>
    rintro D c pre W _ _ h _
    exact h.elim
theorem gturn_any (l : List UInt8) (w : World) (ht : TbW w) (hl : l.length ≤ 1000) :
    Calls Tryd.prog 14 #[.string ⟨l.toArray⟩] w fun e W' => e = .returned (.string ⟨(trn l).toArray⟩) ∧ Below w.heap.size w W' := callsIn_wide.1 (gturn_in l w ht hl)
end Go.Proofs.YtlfegdpclappiaaDoor
