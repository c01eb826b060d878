/- (*strings.Builder).WriteString, laid at this program. -/
import Derived.Shelf.Strings.BuilderK
import Derived.Test.YtlfegdpclappiaaDoorShelf
import Derived.Test.YtlfegdpclappiaaDoorGrLaw
namespace Go.Proofs
open Go.Shelf
def Tryd.lays166_ren : Go.Shelf.Ren := ⟨fun | 166 => 41 | 240 => 60 | 276 => 74 | n => n, fun | 70 => 59 | 72 => 62 | 37 => 60 | 164 => 91 | 75 => 65 | 80 => 68 | n => n, fun | n => n⟩
theorem Tryd.lays166 : Go.Proofs.Lays.n166 Tryd.prog Tryd.lays166_ren := {
  mixed := by kernel_rfl
  f166 := Tryd.func41.trans (congrArg some (by kernel_rfl))
  f240 := Tryd.func60.trans (congrArg some (by kernel_rfl))
  f276 := Tryd.func74.trans (congrArg some (by kernel_rfl))
  t0 := Tryd.underlying0
  a0 := Tryd.isAgg0
  z0 := Tryd.sizeOf0
  v0 := Tryd.zeroValue0
  t3 := Tryd.underlying3
  a3 := Tryd.isAgg3
  z3 := Tryd.sizeOf3
  v3 := Tryd.zeroValue3
  t4 := Tryd.underlying4
  a4 := Tryd.isAgg4
  z4 := Tryd.sizeOf4
  v4 := Tryd.zeroValue4
  t9 := Tryd.underlying9
  a9 := Tryd.isAgg9
  z9 := Tryd.sizeOf9
  v9 := Tryd.zeroValue9
  t20 := Tryd.underlying20
  a20 := Tryd.isAgg20
  z20 := Tryd.sizeOf20
  v20 := Tryd.zeroValue20
  t37 := Tryd.underlying60
  a37 := Tryd.isAgg60
  z37 := Tryd.sizeOf60
  v37 := Tryd.zeroValue60
  t70 := Tryd.underlying59
  a70 := Tryd.isAgg59
  z70 := Tryd.sizeOf59
  v70 := Tryd.zeroValue59
  t72 := Tryd.underlying62
  a72 := Tryd.isAgg62
  z72 := Tryd.sizeOf62
  v72 := Tryd.zeroValue62
  t75 := Tryd.underlying65
  a75 := Tryd.isAgg65
  z75 := Tryd.sizeOf65
  v75 := Tryd.zeroValue65
  t164 := Tryd.underlying91
  a164 := Tryd.isAgg91
  z164 := Tryd.sizeOf91
  v164 := Tryd.zeroValue91 }
theorem Tryd.Builder_Extra_166 : Builder.Extra Tryd.prog Tryd.lays166_ren := {
  sizeBuilder := by kernel_rfl
  liesBuilder := by kernel_rfl
  t5 := Tryd.underlying5
  a5 := Tryd.isAgg5
  z5 := Tryd.sizeOf5
  v5 := Tryd.zeroValue5
  infoByte := by kernel_rfl
  cellsByte := by kernel_rfl
  sizeByte := by kernel_rfl
  neB5 := by decide }
end Go.Proofs
/- A law for a range over the iterator of Each (package grapheme) whose body keeps a relation; bodies that write a Builder. -/
namespace Go.Proofs.YtlfegdpclappiaaDoor
open Go.RowKit Go.Shelf

theorem rfR {l : List UInt8} {n : Nat} {g : Operand} {ps : Array Tmp} {assign body : Code} {Q : Exit → Act → World → Prop} {a : Act} {w : World}
    (Bs : Nat) (R : World → World → Prop) (L : List (Pl l)) (h1 : 2 ≤ n) (hg : a.eval g = .func (.func 51) #[] #[.pointer (some ⟨Bs, 0, none⟩)])
    (hL : L.map Pl.v = gpF l 0) (hE : WaAt Bs l w) (hl : l.length ≤ 1000000000) (hps : 2 = ps.size) (hR0 : ∀ W, R W W) (hRt : ∀ {A B C : World}, R A B → R B C → R A C) (hRo : ∀ {A B : World}, R A B → KeepsOthers A B) (hRk : ∀ {A B : World}, R A B → WaAt Bs l A → ∀ k, KW Bs k → B.heap[k]? = A.heap[k]?) (hRf : OwnFrom w.heap.size (fun (_ : List (Pl l)) W => R w W))
    (I : List (Pl l) → World → Prop) (Ix : Code → List (Pl l) → World → Prop) (hI : OwnFrom w.heap.size I) (hIx : ∀ c, OwnFrom w.heap.size (Ix c)) (h0 : I [] w) (a₁ : Pl l → Act)
    (hassign : ∀ (lp : Nat) (x : Pl l) (W : World) (K : Act → World → Prop), K (a₁ x) W →
      assign.wpIn (Fence.wide.inRound lp) (n - 1 - 1) Tryd.prog (Exit.then K (fun _ _ _ => False)) { tmps := (ps.zip (encP x)).foldl (fun t (p, v) => t.setIfInBounds p v) a.tmps, defers := [] } W)
    (hbody : ∀ (lp : Nat) (pre : List (Pl l)) (x : Pl l) (W : World), I pre W → R w W → WaAt Bs l W → pre.length < L.length → body.wpIn (Fence.wide.inRound lp) (n - 1 - 1) Tryd.prog (fun e _ W' => R W W' ∧ bdQ I Ix (pre ++ [x]) e W') (a₁ x) W)
    (hdone : ∀ (D : Nat) (W : World), w.heap.size ≤ D → I L W → R w W → W.heap[D]? = some (.deferred (some [])) → Q .normal { a with defers := { target := .collected D, args := #[] } :: a.defers } W)
    (hstop : ∀ (D : Nat) (c : Code) (pre : List (Pl l)) (W : World), w.heap.size ≤ D → pre <+: L → Ix c pre W → R w W → W.heap[D]? = some (.deferred (some [])) → c.wpIn Fence.wide n Tryd.prog Q { a with defers := { target := .collected D, args := #[] } :: a.defers } W) :
    (Code.rangeFunc g ps assign body).wpIn Fence.wide n Tryd.prog Q a w := by
  have h2 := hE.tb.two
  refine wpIn_rangeFunc_ownG (F := Fence.wide) rfl (by omega) hg trivial (enters_of Tryd.func51 (by kernel_rfl) rfl) (geach_stops (n - 1) (by omega) Bs l L hL w hE hl) KrW_t (KrW_b hE.lt) (Below.refl _ _) (fun _ => hps)
    (fun pre W => (I pre W ∧ R w W) ∧ WaAt Bs l W) (fun c pre W => Ix c pre W ∧ R w W)
    (OwnFrom.and (OwnFrom.and hI hRf) (waAt_from _ _ l h2)) (fun c => OwnFrom.and (hIx c) hRf) ⟨⟨h0, hR0 w⟩, hE⟩ a₁ hassign ?_ ?_ ?_
  · rintro lp pre x W ⟨⟨hi, hb⟩, he⟩ hlt
    refine wpIn_mono (hbody lp pre x W hi hb he hlt) ?_
    rintro e _ W' ⟨hB, hq⟩
    have hO := hRo hB
    have hK : KrW (KW Bs) W W' := ⟨⟨hO.size, fun k o hk hw => hO.same k o hk (Obj.not_cells_of_walk hw)⟩, hRk hB he⟩
    cases e with
    | normal => exact ⟨hO.from _, hK, ⟨hq, hRt hb hB⟩, he.keeps hO.size hK.2⟩
    | ret => exact ⟨hO.from _, hq, hRt hb hB⟩
    | exit i => exact ⟨hO.from _, hq, hRt hb hB⟩
    | goto t => exact (hq : False).elim
    | panic c => exact (hq : False).elim
    | outgrown => exact (hq : False).elim
  · rintro D xs W hD rfl ⟨⟨hi, hb⟩, _⟩ hK
    exact hdone D W hD hi hb hK
  · rintro D c pre W hD hp ⟨hx, hb⟩ hK
    exact hstop D c pre W hD hp hx hb hK
theorem rfRF {l : List UInt8} {n : Nat} {g : Operand} {ps : Array Tmp} {assign body : Code} {Q : Exit → Act → World → Prop} {a : Act} {w : World}
    (Bs : Nat) (R : World → World → Prop) (L : List (Pl l)) (h1 : 2 ≤ n) (hg : a.eval g = .func (.func 51) #[] #[.pointer (some ⟨Bs, 0, none⟩)])
    (hL : L.map Pl.v = gpF l 0) (hE : WaAt Bs l w) (hl : l.length ≤ 1000000000) (hps : 2 = ps.size) (hR0 : ∀ W, R W W) (hRt : ∀ {A B C : World}, R A B → R B C → R A C) (hRo : ∀ {A B : World}, R A B → KeepsOthers A B) (hRk : ∀ {A B : World}, R A B → WaAt Bs l A → ∀ k, KW Bs k → B.heap[k]? = A.heap[k]?) (hRf : OwnFrom w.heap.size (fun (_ : List (Pl l)) W => R w W))
    (I : List (Pl l) → World → Prop) (Ix : Code → List (Pl l) → World → Prop) (hI : OwnFrom w.heap.size I) (hIx : ∀ c, OwnFrom w.heap.size (Ix c)) (h0 : I [] w) (d1 d2 : Nat)
    (hassign : ∀ (lp : Nat) (x : Pl l) (W : World) (K : Act → World → Prop), K (fr a ps d1 d2 x) W →
      assign.wpIn (Fence.wide.inRound lp) (n - 1 - 1) Tryd.prog (Exit.then K (fun _ _ _ => False)) { tmps := (ps.zip (encP x)).foldl (fun t (p, v) => t.setIfInBounds p v) a.tmps, defers := [] } W)
    (hbody : ∀ (lp : Nat) (pre : List (Pl l)) (x : Pl l) (W : World), I pre W → R w W → WaAt Bs l W → pre.length < L.length → body.wpIn (Fence.wide.inRound lp) (n - 1 - 1) Tryd.prog (fun e _ W' => R W W' ∧ bdQ I Ix (pre ++ [x]) e W') (fr a ps d1 d2 x) W)
    (hdone : ∀ (D : Nat) (W : World), w.heap.size ≤ D → I L W → R w W → W.heap[D]? = some (.deferred (some [])) → Q .normal { a with defers := { target := .collected D, args := #[] } :: a.defers } W)
    (hstop : ∀ (D : Nat) (c : Code) (pre : List (Pl l)) (W : World), w.heap.size ≤ D → pre <+: L → Ix c pre W → R w W → W.heap[D]? = some (.deferred (some [])) → c.wpIn Fence.wide n Tryd.prog Q { a with defers := { target := .collected D, args := #[] } :: a.defers } W) :
    (Code.rangeFunc g ps assign body).wpIn Fence.wide n Tryd.prog Q a w :=
  rfR Bs R L h1 hg hL hE hl hps hR0 (fun h k => hRt h k) hRo hRk hRf I Ix hI hIx h0 (fr a ps d1 d2) hassign hbody hdone hstop
/-- What a body does that writes a Builder at b: rows of bytes from B on, and blocks of S, may be others. -/
structure BSu (B : Nat) (S : Nat → Prop) (W W' : World) : Prop where
  low : Below B W W'
  block : ∀ k o, W.heap[k]? = some o → ¬ S k → (∀ c fz, o ≠ .cells c 5 fz) → W'.heap[k]? = some o
  others : KeepsOthers W W'
theorem BSu.refl (B : Nat) (S : Nat → Prop) (W : World) : BSu B S W W := ⟨Below.refl _ _, fun _ _ h _ _ => h, KeepsOthers.refl W⟩
theorem BSu.trans {B : Nat} {S : Nat → Prop} {X Y Z : World} (h : BSu B S X Y) (k : BSu B S Y Z) : BSu B S X Z :=
  ⟨h.low.trans k.low, fun i o hi hs ho => k.block i o (h.block i o hi hs ho) hs ho, ⟨Nat.le_trans h.others.size k.others.size, fun i o hi ho => k.others.same i o (h.others.same i o hi ho) ho⟩⟩
theorem BSu.of {B : Nat} {S : Nat → Prop} {W W' : World} (h : BS S W W') (hB : ∀ k, S k → B ≤ k) (hs : B ≤ W.heap.size) : BSu B S W W' :=
  ⟨h.lower B hB hs, fun k _ hk hsk _ => (h.block k (Array.getElem?_eq_some_iff.1 hk).1 hsk).trans hk, h.others⟩
theorem BSu.write {B b : Nat} {S : Nat → Prop} {W W' : World} (h : Below B W W') (ho : Lib.OthersKept 5 (some b) W W') (hS : S b) (hb : ∃ c t, W.heap[b]? = some (.cells c t (0, 0))) : BSu B S W W' :=
  ⟨h, fun k o hk hs h5 => ho k o hk (fun e => hs (by cases e; exact hS)) h5, ⟨h.size, fun k o hk hc => ho k o hk (fun e => by
    cases e
    obtain ⟨c, t, h1⟩ := hb
    rw [h1] at hk
    cases hk
    cases hc) (fun c fz e => by subst e; cases hc)⟩⟩
theorem bsu_from {β : Type} (B : Nat) (S : Nat → Prop) (w : World) (hB : B ≤ w.heap.size) : OwnFrom w.heap.size (fun (_ : β) W => BSu B S w W) := fun _ A C row h hg hr => by
  have hb : ∀ k, k < w.heap.size → C.heap[k]? = A.heap[k]? := fun k hk => hg.block k (Nat.lt_of_lt_of_le hk h.low.size) (fun e => by
    obtain ⟨hle, _⟩ := hr k e.symm
    omega)
  exact ⟨⟨hg.os.trans h.low.os, hg.tape.trans h.low.tape, hg.output.trans h.low.output, Nat.le_trans h.low.size hg.size, fun k hk => (hb k (by omega)).trans (h.low.block k hk)⟩,
    fun k o hk hs ho => (hb k (Array.getElem?_eq_some_iff.1 hk).1).trans (h.block k o hk hs ho),
    ⟨Nat.le_trans h.low.size hg.size, fun k o hk ho => (hb k (Array.getElem?_eq_some_iff.1 hk).1).trans (h.others.same k o hk ho)⟩⟩
theorem BSu.boxed {B : Nat} {S : Nat → Prop} {W W' : World} {k : Nat} {t : TypeId} {v : Value} (h : BSu B S W W') (hb : Boxed W k t v) (hk : ¬ S k) (ht : t ≠ 5) : Boxed W' k t v := h.block k _ hb hk (fun c fz e => ht (by cases e; rfl))
theorem BSu.cells {B : Nat} {S : Nat → Prop} {W W' : World} {k : Nat} {t : TypeId} {v : Array Value} {z : Nat × Nat} (h : BSu B S W W') (hb : W.heap[k]? = some (.cells v t z)) (hk : ¬ S k) (ht : t ≠ 5) : W'.heap[k]? = some (.cells v t z) := h.block k _ hb hk (fun c fz e => ht (by cases e; rfl))
theorem BSu.keeps {B : Nat} {S : Nat → Prop} {Bs : Nat} {l : List UInt8} {W W' : World} (h : BSu B S W W') (h2 : 2 ≤ B) (hS : ¬ S Bs) (hE : WaAt Bs l W) : ∀ k, KW Bs k → W'.heap[k]? = W.heap[k]? := by
  rintro k (rfl | hk)
  · exact (h.boxed hE.bs hS (by decide)).trans hE.bs.symm
  · exact h.low.block k (by omega)
theorem Tryd.Builder_WriteString_k (B b : Nat) (bs : List Value) (s : ByteArray) (w : World) (h : Lib.IsBuilderF 62 5 B b bs w) (hlen : bs.length + s.size ≤ 140737488355328) (hBw : B ≤ w.heap.size) :
    Calls Tryd.prog 41 #[.pointer (some ⟨b, 0, none⟩), .string s] w fun e w' => e = .returned (.tuple #[.int .i64 s.size, .nilIface]) ∧ (Lib.BuilderAtF 62 5 B b (.pointer (some ⟨b, 0, none⟩)) (bs ++ Lib.strCells s) w' ∧ Below B w w' ∧ Lib.OthersKept 5 (some b) w w') :=
  Any.Builder_WriteString_k Tryd.lays166 Tryd.Builder_Extra_166 B b bs s w h hlen hBw
end Go.Proofs.YtlfegdpclappiaaDoor
/- A Builder that is written: WriteString and String; what keeps it. -/
namespace Go.Proofs.YtlfegdpclappiaaDoor
open Go.RowKit Go.Shelf

theorem write_any (B b : Nat) (T u : List UInt8) (s : ByteArray) (w : World) (h : Lib.IsBuilderF 62 5 B b (Lib.byteCells T) w) (hs : s = ⟨u.toArray⟩) (hlen : T.length + u.length ≤ 140737488355328) (hBw : B ≤ w.heap.size) :
    Calls Tryd.prog 41 #[.pointer (some ⟨b, 0, none⟩), .string s] w fun e w' => (∃ v, e = .returned v) ∧ Lib.IsBuilderF 62 5 B b (Lib.byteCells (T ++ u)) w' ∧ Below B w w' ∧ Lib.OthersKept 5 (some b) w w' := by
  subst hs
  have hc : Lib.byteCells T ++ Lib.strCells ⟨u.toArray⟩ = Lib.byteCells (T ++ u) := by
    unfold Lib.byteCells Lib.strCells
    simp
  refine (Any.Builder_WriteString_k Tryd.lays166 Tryd.Builder_Extra_166 B b (Lib.byteCells T) ⟨u.toArray⟩ w h ?_ hBw).mono ?_
  · rw [Lib.byteCells_length]
    show _ + u.toArray.size ≤ _
    simpa using hlen
  · rintro e w' ⟨rfl, h1, h2, h3⟩
    rw [hc] at h1
    exact ⟨⟨_, rfl⟩, .inr h1, h2, h3⟩
theorem string_any (B b : Nat) (T : List UInt8) (w : World) (h : Lib.IsBuilderF 62 5 B b (Lib.byteCells T) w) (hBw : B ≤ w.heap.size) :
    Calls Tryd.prog 42 #[.pointer (some ⟨b, 0, none⟩)] w fun e w' => e = .returned (.string ⟨T.toArray⟩) ∧ Below B w w' ∧ Lib.OthersKept 5 (some b) w w' :=
  (Any.Builder_String_any_k Tryd.lays169 Tryd.Builder_Extra_169 B b T w h hBw).mono fun _ _ h => ⟨h.1, h.2.2.1, h.2.2.2⟩
theorem builderF_own {β : Type} (B b : Nat) (f : β → List Value) : Own (fun s W => Lib.IsBuilderF 62 5 B b (f s) W) := by
  have one : ∀ (p : Value) (s : β) (X Y : World) (row : Option Nat), Lib.BuilderAtF 62 5 B b p (f s) X → X.grownBy Y row → (∀ r, row = some r → ∃ o : Obj, X.heap[r]? = some o ∧ o.isCells = false) → Lib.BuilderAtF 62 5 B b p (f s) Y := by
    rintro p s X Y row ⟨h1, v, hv, hr, hne⟩ hg hrow
    have kept : ∀ (k : Nat) c t fz, X.heap[k]? = some (Obj.cells c t fz) → Y.heap[k]? = some (Obj.cells c t fz) := fun k c t fz hk =>
      (hg.block k (Array.getElem?_eq_some_iff.1 hk).1 (fun e => by
        obtain ⟨o, ho, hc⟩ := hrow k e.symm
        rw [hk] at ho; cases ho; cases hc)).trans hk
    refine ⟨h1, v, kept _ _ _ _ hv, ⟨hr.1, ?_⟩, hne⟩
    rcases hr.2 with h0 | ⟨g, cap, cur, fz, hv', hbg, hgg, hrr⟩
    · exact .inl h0
    · exact .inr ⟨g, cap, cur, fz, hv', hbg, kept _ _ _ _ hgg, hrr⟩
  rintro s X Y row h hg hrow
  exact h.imp (fun x => one _ s X Y row x hg hrow) (fun x => one _ s X Y row x hg hrow)
theorem bf_below {B b : Nat} {bs : List Value} {W W' : World} (h : Lib.IsBuilderF 62 5 B b bs W) (hb : Below W.heap.size W W') : Lib.IsBuilderF 62 5 B b bs W' :=
  builderF_own B b (fun (_ : Unit) => bs) () W W' none h (wgrown hb) (fun _ e => by cases e)
theorem bf_set {B b M : Nat} {bs : List Value} {W : World} {v v' : Value} {t : TypeId} (h : Lib.IsBuilderF 62 5 B b bs W) (hM : Boxed W M t v) (hne : M ≠ b) (ht : t ≠ 5) : Lib.IsBuilderF 62 5 B b bs (W.setCell ⟨M, 0, none⟩ v') := by
  have hg := grownBy_setCell' W M v'
  have one : ∀ (p : Value), Lib.BuilderAtF 62 5 B b p bs W → Lib.BuilderAtF 62 5 B b p bs (W.setCell ⟨M, 0, none⟩ v') := by
    rintro p ⟨h1, u, hv, hr, hnb⟩
    refine ⟨h1, u, (hg.block b (Array.getElem?_eq_some_iff.1 hv).1 (fun e => hne (by cases e; rfl))).trans hv, ⟨hr.1, ?_⟩, hnb⟩
    rcases hr.2 with h0 | ⟨g, cap, cur, fz, hv', hbg, hgg, hrr⟩
    · exact .inl h0
    · refine .inr ⟨g, cap, cur, fz, hv', hbg, (hg.block g (Array.getElem?_eq_some_iff.1 hgg).1 (fun e => ?_)).trans hgg, hrr⟩
      cases e
      have hx : W.heap[M]? = some (.cells #[v] t (0, 0)) := hM
      rw [hx] at hgg
      cases hgg
      exact ht rfl
  exact h.imp (one _) (one _)
theorem bf_block {B b : Nat} {bs : List Value} {W : World} (h : Lib.IsBuilderF 62 5 B b bs W) : ∃ c t, W.heap[b]? = some (.cells c t (0, 0)) := by
  rcases h with ⟨_, v, h, _⟩ | ⟨_, v, h, _⟩
  · exact ⟨_, _, h⟩
  · exact ⟨_, _, h⟩
end Go.Proofs.YtlfegdpclappiaaDoor
