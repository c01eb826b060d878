/- GrTurn, GrLv, PwMg: parts of the proof, joined. -/
import Derived.Test.YtdpohgoikbeplaaGreatDoorPPtFun1
import Derived.Test.YtdpohgoikbeplaaGreatDoorPGrBackS
import Derived.Test.YtdpohgoikbeplaaGreatDoorPGrLaw2
namespace Go.Proofs.YtdpohgoikbeplaaGreatDoor.Wt
open Go.RowKit Go.Shelf
attribute [local go_sem] Oper.semAt_some
theorem rfB {l : List UInt8} {n : Nat} {g : Operand} {ps : Array Tmp} {assign body : Code} {Q : Exit -> Act -> World -> Prop} {a : Act} {w : World}
  (Bs : Nat) (R : World -> World -> Prop) (L : List (Pl l)) (h1 : 4 <= n) (hg : a.eval g = .func (.func 62) #[] #[.pointer (some ⟨Bs, 0, none⟩)])
  (hL : L.map Pl.v = bkR l (rl l).length) (hE : WaAt Bs l w) (hl : l.length <= 100000000) (hps : 2 = ps.size) (hR0 : ∀ W, R W W) (hRt : ∀ {A B C : World}, R A B -> R B C -> R A C) (hRo : ∀ {A B : World}, R A B -> KeepsOthers A B) (hRk : ∀ {A B : World}, R A B -> WaAt Bs l A -> ∀ k, KW Bs k -> B.heap[k]? = A.heap[k]?) (hRw : ∀ {A B : World}, R A B -> ∀ k c fz, w.heap.size <= k -> A.heap[k]? = some (.cells c 3 fz) -> B.heap[k]? = some (.cells c 3 fz)) (hRf : OwnFrom w.heap.size (fun (_ : List (Pl l)) W => R w W))
  (I : List (Pl l) -> World -> Prop) (Ix : Code -> List (Pl l) -> World -> Prop) (hI : OwnFrom w.heap.size I) (hIx : ∀ c, OwnFrom w.heap.size (Ix c)) (h0 : I [] w) (a₁ : Pl l -> Act)
  (hassign : ∀ (lp : Nat) (x : Pl l) (W : World) (K : Act -> World -> Prop), K (a₁ x) W ->
   assign.wpIn (Fence.wide.inRound lp) (n - 1 - 1) Tryz.prog (Exit.then K (fun _ _ _ => False)) { tmps := (ps.zip (encP x)).foldl (fun t (p, v) => t.setIfInBounds p v) a.tmps, defers := [] } W)
  (hbody : ∀ (lp : Nat) (pre : List (Pl l)) (x : Pl l) (W : World), I pre W -> R w W -> WaAt Bs l W -> pre.length < L.length -> body.wpIn (Fence.wide.inRound lp) (n - 1 - 1) Tryz.prog (fun e _ W' => R W W' /\ bdQ I Ix (pre ++ [x]) e W') (a₁ x) W)
  (hdone : ∀ (D : Nat) (W : World), w.heap.size <= D -> I L W -> R w W -> W.heap[D]? = some (.deferred (some [])) -> Q .normal { a with defers := { target := .collected D, args := #[] } :: a.defers } W)
  (hstop : ∀ (D : Nat) (c : Code) (pre : List (Pl l)) (W : World), w.heap.size <= D -> pre <+: L -> Ix c pre W -> R w W -> W.heap[D]? = some (.deferred (some [])) -> c.wpIn Fence.wide n Tryz.prog Q { a with defers := { target := .collected D, args := #[] } :: a.defers } W) :
  (Code.rangeFunc g ps assign body).wpIn Fence.wide n Tryz.prog Q a w := by
 have h2 := hE.tb.two
 refine rangeS (F := Fence.wide) rfl (by omega) hg trivial (enters_of Tryz.func62 (by kernel_rfl) rfl) (gback_s (n - 1) (by omega) Bs w.heap.size l L hL w (Nat.le_refl _) hE hl) KrB_t (KrB_b hE.lt) (Below.refl _ _) (fun _ => hps)
  (fun pre W => (I pre W /\ R w W) /\ WaAt Bs l W) (fun c pre W => Ix c pre W /\ R w W)
  (OwnFrom.and (OwnFrom.and hI hRf) (waAt_from _ _ l h2)) (fun c => OwnFrom.and (hIx c) hRf) ⟨⟨h0, hR0 w⟩, hE⟩ (fun x a' _ => a' = a₁ x) (fun _ _ _ _ _ _ h _ _ => h) ?_ ?_ ?_ ?_
 ·intro lp pre x W K hi hK
  exact hassign lp x W K (hK _ _ (KeepsFrom.refl _ _) ⟨⟨KeepsWalks.refl _, fun _ _ => rfl⟩, fun _ _ _ _ h => h⟩ hi rfl)
 ·rintro lp pre x a' W _ _ ⟨⟨hi, hb⟩, he⟩ rfl hsp
  have hlt : pre.length < L.length := by
   have h := hsp.length_le
   rw [List.length_append, List.length_singleton] at h
   omega
  refine wpIn_mono (hbody lp pre x W hi hb he hlt) ?_
  rintro e _ W' ⟨hB, hq⟩
  have hO := hRo hB
  have hK : KrW (KW Bs) W W' := ⟨⟨hO.size, fun k o hk hw => hO.same k o hk (Obj.not_cells_of_walk hw)⟩, hRk hB he⟩
  have hKB : KrB (KW Bs) w.heap.size W W' := ⟨hK, hRw hB⟩
  cases e with
  | normal => exact ⟨hO.from _, hKB, ⟨hq, hRt hb hB⟩, he.keeps hO.size hK.2⟩
  | ret => exact ⟨hO.from _, hq, hRt hb hB⟩
  | exit i => exact ⟨hO.from _, hq, hRt hb hB⟩
  | goto t => exact (hq : False).elim
  | panic c => exact (hq : False).elim
  | outgrown => exact (hq : False).elim
 ·rintro D xs W hD rfl ⟨⟨hi, hb⟩, _⟩ hK
  exact hdone D W hD hi hb hK
 ·rintro D c pre W hD hp ⟨hx, hb⟩ hK
  exact hstop D c pre W hD hp hx hb hK
theorem rfBF {l : List UInt8} {n : Nat} {g : Operand} {ps : Array Tmp} {assign body : Code} {Q : Exit -> Act -> World -> Prop} {a : Act} {w : World}
  (Bs : Nat) (R : World -> World -> Prop) (L : List (Pl l)) (h1 : 4 <= n) (hg : a.eval g = .func (.func 62) #[] #[.pointer (some ⟨Bs, 0, none⟩)])
  (hL : L.map Pl.v = bkR l (rl l).length) (hE : WaAt Bs l w) (hl : l.length <= 100000000) (hps : 2 = ps.size) (hR0 : ∀ W, R W W) (hRt : ∀ {A B C : World}, R A B -> R B C -> R A C) (hRo : ∀ {A B : World}, R A B -> KeepsOthers A B) (hRk : ∀ {A B : World}, R A B -> WaAt Bs l A -> ∀ k, KW Bs k -> B.heap[k]? = A.heap[k]?) (hRw : ∀ {A B : World}, R A B -> ∀ k c fz, w.heap.size <= k -> A.heap[k]? = some (.cells c 3 fz) -> B.heap[k]? = some (.cells c 3 fz)) (hRf : OwnFrom w.heap.size (fun (_ : List (Pl l)) W => R w W))
  (I : List (Pl l) -> World -> Prop) (Ix : Code -> List (Pl l) -> World -> Prop) (hI : OwnFrom w.heap.size I) (hIx : ∀ c, OwnFrom w.heap.size (Ix c)) (h0 : I [] w) (d1 d2 : Nat)
  (hassign : ∀ (lp : Nat) (x : Pl l) (W : World) (K : Act -> World -> Prop), K (fr a ps d1 d2 x) W ->
   assign.wpIn (Fence.wide.inRound lp) (n - 1 - 1) Tryz.prog (Exit.then K (fun _ _ _ => False)) { tmps := (ps.zip (encP x)).foldl (fun t (p, v) => t.setIfInBounds p v) a.tmps, defers := [] } W)
  (hbody : ∀ (lp : Nat) (pre : List (Pl l)) (x : Pl l) (W : World), I pre W -> R w W -> WaAt Bs l W -> pre.length < L.length -> body.wpIn (Fence.wide.inRound lp) (n - 1 - 1) Tryz.prog (fun e _ W' => R W W' /\ bdQ I Ix (pre ++ [x]) e W') (fr a ps d1 d2 x) W)
  (hdone : ∀ (D : Nat) (W : World), w.heap.size <= D -> I L W -> R w W -> W.heap[D]? = some (.deferred (some [])) -> Q .normal { a with defers := { target := .collected D, args := #[] } :: a.defers } W)
  (hstop : ∀ (D : Nat) (c : Code) (pre : List (Pl l)) (W : World), w.heap.size <= D -> pre <+: L -> Ix c pre W -> R w W -> W.heap[D]? = some (.deferred (some [])) -> c.wpIn Fence.wide n Tryz.prog Q { a with defers := { target := .collected D, args := #[] } :: a.defers } W) :
  (Code.rangeFunc g ps assign body).wpIn Fence.wide n Tryz.prog Q a w :=
 rfB Bs R L h1 hg hL hE hl hps hR0 (fun h k => hRt h k) hRo hRk hRw hRf I Ix hI hIx h0 (fr a ps d1 d2) hassign hbody hdone hstop
theorem gback_any (l : List UInt8) (w : World) :
  Calls Tryz.prog 26 #[.string ⟨l.toArray⟩] w fun e w' => e = .returned (.func (.func 62) #[] #[.pointer (some ⟨w.heap.size, 0, none⟩)]) /\ w' = w.alloc (.cells #[.string ⟨l.toArray⟩] 9) := by
 go_enter Tryz.func26, Tryz.ntmps26
 go_wp2
 go_ret
 exact ⟨rfl, rfl⟩
def trP (l : List UInt8) (xs : List (Nat × Nat)) : List UInt8 := xs.flatMap fun x => (l.take x.2).drop x.1
theorem trP_snoc (l : List UInt8) (xs : List (Nat × Nat)) (x : Nat × Nat) : trP l (xs ++ [x]) = trP l xs ++ (l.take x.2).drop x.1 := by simp [trP]
theorem trP_len (l : List UInt8) (hl : l.length <= 1000) : ∀ (xs : List (Nat × Nat)), (trP l xs).length <= 1000 * xs.length
 | [] => by simp [trP]
 | x :: xs => by
  have h := trP_len l hl xs
  have h1 : ((l.take x.2).drop x.1).length <= 1000 := by rw [List.length_drop, List.length_take]; omega
  have e : trP l (x :: xs) = (l.take x.2).drop x.1 ++ trP l xs := rfl
  rw [e, List.length_append, List.length_cons]; omega
def trn (l : List UInt8) : List UInt8 := trP l (gpF l 0).reverse
set_option maxHeartbeats 4000000 in
set_option maxRecDepth 100000 in
theorem gturn_in (l : List UInt8) (w : World) (ht : TbW w) (hl : l.length <= 1000) :
  CallsIn Fence.wide 5 Tryz.prog 32 #[.string ⟨l.toArray⟩] w fun e W' => e = .returned (.string ⟨(trn l).toArray⟩) /\ Below w.heap.size w W' := by
 have HT := hid ht
 clear ht
 obtain ⟨L0, hL0, hLl⟩ := gp_all l _ 0 (Nat.le_refl _)
 obtain ⟨L, hLe⟩ : ∃ L, L = L0.reverse := ⟨_, rfl⟩
 have HL := hid (show L.map Pl.v = bkR l (rl l).length by rw [hLe, List.map_reverse, hL0, bkR_all])
 have HTR := hid (show trP l (L.map Pl.v) = trn l by rw [hLe, List.map_reverse, hL0]; rfl)
 have hll : L.length <= 1000 := by rw [hLe, List.length_reverse]; omega
 clear hL0 hLl hLe
 obtain ⟨N, hN⟩ : ∃ N, N = w.heap.size := ⟨_, rfl⟩
 have b0 := (Boxed.new w 9 (.string ⟨l.toArray⟩)).alloc (.cells #[.pointer none, .slice none 0 0] 72)
 have hbk := World.alloc_heap_new (w.alloc (.cells #[.string ⟨l.toArray⟩] 9)) (.cells #[.pointer none, .slice none 0 0] 72)
 have hB0 : Below w.heap.size w ((w.alloc (.cells #[.string ⟨l.toArray⟩] 9)).alloc (.cells #[.pointer none, .slice none 0 0] 72)) := ((Below.refl _ _).alloc (Nat.le_refl _) _).alloc (by simp) _
 have hsz0 : ((w.alloc (.cells #[.string ⟨l.toArray⟩] 9)).alloc (.cells #[.pointer none, .slice none 0 0] 72)).heap.size = w.heap.size + 2 := by simp
 rw [World.size_alloc] at hbk
 refine callsIn_of_wp_marks Tryz.func32 rfl trivial ?_ rfl
 simp only [Tryz.ntmps32, List.size_toArray, List.length_cons, List.length_nil, Nat.reduceAdd, Nat.reduceSub, Array.replicate_succ, Array.replicate_zero, List.push_toArray, List.append_toArray, List.nil_append, List.cons_append]
 gi_wp2_with fail
 obtain ⟨w0, hw0⟩ : ∃ w0, w0 = (w.alloc (.cells #[.string ⟨l.toArray⟩] 9)).alloc (.cells #[.pointer none, .slice none 0 0] 72) := ⟨_, rfl⟩
 rw [<- hw0] at b0 hbk hB0 hsz0 ⊢
 rw [<- hN] at b0 hbk hB0 hsz0 ⊢
 have h2 : 3 <= N := by rw [hN]; exact HT.out.two
 have HN := hid hN
 clear hw0 hN
 refine ⟨trivial, (callsIn_wide.2 (Tryz.Builder_Grow_fresh (N + 1) (N + 1) l.length w0 (Nat.le_refl _) hbk (by omega) (by omega))).mono ?_⟩
 rintro e w1 ⟨rfl, hG, be1⟩
 have b1 : Boxed w1 N 9 (.string ⟨l.toArray⟩) := (be1.block N (by omega)).trans b0
 have HB1 := hid (show Below N w w1 from hB0.trans (be1.mono (by omega)))
 have HBF := hid (Lib.IsBuilderF.of (.inr hG))
 have hs1 : N + 2 <= w1.heap.size := by have := be1.size; omega
 have c1 := b1.cell
 have b2 := Boxed.new w1 9 (.string ⟨l.toArray⟩)
 have hB2 : Below w1.heap.size w1 (w1.alloc (.cells #[.string ⟨l.toArray⟩] 9)) := (Below.refl _ _).alloc (Nat.le_refl _) _
 have hs2 : (w1.alloc (.cells #[.string ⟨l.toArray⟩] 9)).heap.size = w1.heap.size + 1 := by simp
 clear hbk be1 hG b0 hB0 hsz0
 gi_wp2_with (refine ⟨trivial, ?_⟩; gi_at_call 26; refine (callsIn_wide.2 (gback_any l _)).mono ?_; rintro e w' ⟨rfl, rfl⟩)
 obtain ⟨w2, hw2⟩ : ∃ w2, w2 = w1.alloc (.cells #[.string ⟨l.toArray⟩] 9) := ⟨_, rfl⟩
 rw [<- hw2] at b2 hB2 hs2 ⊢
 clear hw2
 obtain ⟨M, hM⟩ : ∃ M, M = w1.heap.size := ⟨_, rfl⟩
 have HBF2 := hid (bf_below HBF.out hB2)
 rw [<- hM] at b2 hs2 hB2 hs1 ⊢
 have HB0 := hid (show Boxed w2 N 9 (.string ⟨l.toArray⟩) from (hB2.block N (by omega)).trans b1)
 have HBw := hid (show Below N w w2 from HB1.out.trans (hB2.mono (by omega)))
 have HEa := hid (show WaAt M l w2 from ⟨b2, HT.out.below (by rw [<- HN.out]; exact HBw.out)⟩)
 have HS2 := hid hs2
 clear b1 b2 hB2 hs2 hM HB1 HBF c1
 refine rfBF M (BSu (N + 1) (fun k => k = N + 1)) L (by omega) rfl HL.out HEa.out (by omega) rfl (fun W => BSu.refl _ _ W) (fun h k => h.trans k) (fun h => h.others) (fun h he => h.keeps (by omega) (fun h => by omega) he)
  (fun h k c fz hk hc => h.cells hc (fun e => by have := HS2.out; omega) (by decide)) (bsu_from (N + 1) _ w2 (by have := HS2.out; omega))
  (fun pre W => Boxed W N 9 (.string ⟨l.toArray⟩) /\ Lib.IsBuilderF 72 5 (N + 1) (N + 1) (Lib.byteCells (trP l (pre.map Pl.v))) W)
  (fun _ _ _ => False)
  (OwnFrom.and (Own.from (boxed_own _ _ _) _) (Own.from (builderF_own (N + 1) (N + 1) (fun pre : List (Pl l) => Lib.byteCells (trP l (pre.map Pl.v)))) _))
  (fun _ _ _ _ _ hs _ _ => hs)
  ⟨HB0.out, HBF2.out⟩ 4 5 ?assign ?body ?done ?stop
 case assign =>
  intro lp x W K hK
  dsimp only [encP]
  gi_wp2
  simpa [fr, encP] using hK
 case body =>
  rintro lp pre x W ⟨v0, vb⟩ hb he hlt
  have hx1 := x.lt
  have hx2 := x.le
  obtain ⟨f, hf⟩ : ∃ f, f = x.v.1 := ⟨_, rfl⟩
  obtain ⟨z, hx⟩ : ∃ z, z = x.v.2 := ⟨_, rfl⟩
  have hpb := trP_len l hl (pre.map Pl.v)
  rw [List.length_map] at hpb
  have HPS := hid (trP_snoc l (pre.map Pl.v) x.v)
  obtain ⟨o, ho⟩ : ∃ o, o = trP l (pre.map Pl.v) := ⟨_, rfl⟩
  rw [<- ho] at vb hpb HPS
  rw [<- hf, <- hx] at HPS
  have HEX := hid (ext_piece l f z (by omega))
  have HLE := hid (show ((l.take z).drop f).length = z - f by rw [List.length_drop, List.length_take]; omega)
  dsimp only [fr, encP]
  rw [<- hf, <- hx] at hx1 ⊢
  rw [<- hx] at hx2
  clear hf hx ho; have HV0 := hid v0
  have HVB := hid vb
  have c0 := v0.cell
  have hWs : N + 2 <= W.heap.size := by have := hb.others.size; have := HS2.out; omega
  clear v0 vb
  gi_wp2_with fail
  rw [HEX.out]; refine ⟨trivial, CallsIn.inRound lp (callsIn_wide.2 ((write_any (N + 1) (N + 1) o ((l.take z).drop f) _ W HVB.out rfl (by have := HLE.out; omega) (by omega)).mono ?_))⟩
  rintro e W1 ⟨⟨v', rfl⟩, hbf, hlo, hot⟩
  have HR := hid (show BSu (N + 1) (fun k => k = N + 1) W W1 from BSu.write hlo hot rfl (bf_block HVB.out))
  have HBF1 := hid hbf
  clear hbf hlo hot c0
  gi_wp2; refine ⟨HR.out, HR.out.boxed HV0.out (fun h => by omega) (by decide), ?_⟩
  rw [List.map_append, List.map_cons, List.map_nil, HPS.out]; exact HBF1.out
 case done =>
  rintro D W hD ⟨_, vb⟩ hb hK
  rw [HTR.out] at vb
  have HVB := hid vb
  have hWs : N + 2 <= W.heap.size := by have := hb.others.size; have := HS2.out; omega
  clear vb
  gi_wp2_with fail
  refine ⟨trivial, (callsIn_wide.2 (string_any (N + 1) (N + 1) (trn l) W HVB.out (by omega))).mono ?_⟩
  rintro e W1 ⟨rfl, hl1, ho1⟩
  have hK1 : W1.heap[D]? = some (.deferred (some [])) := ho1 D _ hK (fun e => by
   cases e
   have := HS2.out
   omega) (fun c fz e => by cases e)
  have HL1 := hid hl1
  clear hl1 ho1
  gi_wp2; refine ⟨by simp, .inl ⟨_, _, rfl, run_takeDeferred hK1, ?_⟩⟩
  refine ⟨_, results_tmp rfl _ _ _, rfl, ?_⟩
  have hs2 := HS2.out
  have hn := HN.out
  rw [<- hn]; exact ((HBw.out.trans (hb.low.mono (by omega))).trans (HL1.out.mono (by omega))).trans (belowK_b (w := w) (by omega) W1 D _ _ (by omega) hK1 rfl rfl)
 case stop =>
  rintro D c pre W _ _ h _
  exact h.elim
theorem gturn_any (l : List UInt8) (w : World) (ht : TbW w) (hl : l.length <= 1000) :
  Calls Tryz.prog 32 #[.string ⟨l.toArray⟩] w fun e W' => e = .returned (.string ⟨(trn l).toArray⟩) /\ Below w.heap.size w W' := callsIn_wide.1 (gturn_in l w ht hl)
end Go.Proofs.YtdpohgoikbeplaaGreatDoor.Wt
namespace Go.Proofs.YtdpohgoikbeplaaGreatDoor.Br
open Go.RowKit Wt
theorem below_drN {B : Nat} {w w' : World} (h : Below B w w') (k : Nat) : Below B w (w'.drewN k) := ⟨h.os, h.tape, h.output, h.size, h.block⟩
def gbs (l : List UInt8) : List Nat := if l = [] then [] else gbd l
theorem gtos_bds {l : List UInt8} {L : List (Pl l)} (h : L.map Pl.v = gpF l 0) : i64s (gtos L) = Pt.i64n (gbd l) := by
 unfold gbd bds gtos i64s Pt.i64n
 rw [<- h, List.map_cons, List.map_cons, List.map_map, List.map_map, List.map_map]
 rfl
theorem gtos_len {l : List UInt8} {L : List (Pl l)} (h : L.map Pl.v = gpF l 0) : (gtos L).length = (gbd l).length := by
 unfold gbd bds gtos
 rw [<- h, List.length_cons, List.length_cons, List.length_map, List.length_map, List.length_map]
theorem gbds_any (l : List UInt8) (w : World) (ht : TbW w) (hl : l.length <= 100000000) :
  Calls Tryz.prog 13 #[.string ⟨l.toArray⟩] w (Pt.LsQ w (gbs l)) := by
 by_cases h : l = []
 ·subst h
  clear ht
  go_enter Tryz.func13, Tryz.ntmps13
  go_wp2
  go_ret; exact ⟨none, 0, rfl, World.ownsRow_nil _ _ _ _, Below.refl _ _⟩
 ·obtain ⟨L, hL, _⟩ := gp_all l _ 0 (Nat.le_refl _)
  refine (gbounds_any l L hL w ht hl h).mono ?_
  rintro e w' ⟨v, rfl, ho, hb⟩
  rw [gtos_bds hL, gtos_len hL] at ho
  have e : gbs l = gbd l := if_neg h
  rw [<- e] at ho
  have hv : ∃ vo vc, v = .slice vo (gbs l).length vc := by
   rcases ho.2 with ⟨h1, h2⟩ | ⟨g, cap, cur, h1, _⟩
   ·exact ⟨none, 0, by rw [h1, h2]⟩
   ·exact ⟨_, _, h1⟩
  obtain ⟨vo, vc, rfl⟩ := hv
  exact ⟨vo, vc, rfl, ho, hb⟩
set_option maxHeartbeats 1000000 in
set_option maxRecDepth 100000 in
theorem places_any (ao bo : Option Addr) (n ac bc : Nat) (l : List Int) (w : World) (ha : Pt.RdI w ao l) (hb : Pt.RdI w bo l) (hn : n = l.length) (hl : n <= 100000) :
  Calls Tryz.prog 14 #[.slice ao n ac, .slice bo n bc] w fun e w' => e = .returned (.bool true) /\ Below w.heap.size w w' := by
 have HA := hid ha
 have HB := hid hb
 have HN := hid hn
 clear ha hb hn
 go_enter Tryz.func14, Tryz.ntmps14
 go_wp2
 go_loopw [5] (fun i wr => ∃ k : Nat, k <= n /\ i = .int .i64 k /\ Hid (Below w.heap.size w wr)) (fun i _ => n - (intOf i).toNat)
 case atStart => exact ⟨0, by omega, rfl, Below.refl _ _⟩
 case round =>
  obtain ⟨k, hk, rfl, HBr⟩ := hrel
  by_cases hlt : k < n
  ·have hkl : k < l.length := by have := HN.out; omega
   obtain ⟨a, rfl, _, a0⟩ := HA.out.below HBr.out k l[k] (List.getElem?_eq_getElem hkl)
   obtain ⟨b, rfl, _, b0⟩ := HB.out.below HBr.out k l[k] (List.getElem?_eq_getElem hkl)
   obtain ⟨x, hx⟩ : ∃ x, l[k] = x := ⟨_, rfl⟩
   rw [hx] at a0 b0
   have i3 : (k : Int) < (n : Int) := by omega
   have i0 : (0 : Int) <= (k : Int) := by omega
   have xx : (x != x) = false := bne_eq_false_iff_eq.2 rfl
   clear hx hkl
   go_wp2_with fail
   go_quiet (fail)
   go_wp2
   go_roundw
   case rel => exact ⟨k + 1, by omega, by go_num, below_drN HBr.out _⟩
   case measure => simp [intOf]; omega
  ·have i3 : ¬ (k : Int) < (n : Int) := by omega
   go_wp2
   go_ret; exact ⟨rfl, HBr.out⟩
def lvA : List UInt8 := [101, 204, 129, 120, 13, 10]
def lvB : List UInt8 := [240, 159, 135, 166, 240, 159, 135, 167, 240, 159, 135, 168]
def lvC : List UInt8 := [101, 204, 129, 120]
theorem lvA_bs : gbs lvA = [0, 3, 4, 6] := by decide +kernel
theorem lvB_cnt : gcnt lvB = 2 := by decide +kernel
theorem lvC_trn : trn lvC = [120, 101, 204, 129] := by decide +kernel
theorem lvC_nx : abv 0 4 (gbd lvC) = 3 := by decide +kernel
set_option maxHeartbeats 2000000 in
set_option maxRecDepth 100000 in
theorem lives11 (w : World) (ht : TbW w) : Calls Tryz.prog 12 #[] w fun e w' => e = .returned (.bool true) /\ Below w.heap.size w w' := by
 have HT := hid ht
 clear ht
 go_enter Tryz.func12, Tryz.ntmps12
 go_wp2_with fail
 refine (gbds_any lvA w HT.out (by decide)).mono ?_
 rintro e w1 ⟨vo, vc, rfl, hown, be1⟩
 rw [lvA_bs] at hown ⊢
 have HR := hid (Pt.rdi_own hown rfl)
 have HE1 := hid be1
 clear hown be1
 have hbA : Below w1.heap.size w1 (w1.alloc (.cells #[.int .i64 0, .int .i64 3, .int .i64 4, .int .i64 6] 3)) := (Below.refl _ _).alloc (Nat.le_refl _) _
 have HR1 := hid (HR.out.below hbA)
 have HRB := hid (show Pt.RdI (w1.alloc (.cells #[.int .i64 0, .int .i64 3, .int .i64 4, .int .i64 6] 3)) (some ⟨w1.heap.size, 0, none⟩) (List.map (fun (x : Nat) => (x : Int)) [0, 3, 4, 6]) from
  Pt.rdi_own (vc := 4) (B := w1.heap.size) (World.ownsRow_lit w1 #[.int .i64 0, .int .i64 3, .int .i64 4, .int .i64 6] 4 (Nat.le_refl _) (by decide) rfl) rfl)
 have HE2 := hid (HE1.out.trans (hbA.mono HE1.out.size))
 clear hbA HR HE1
 go_wp2_with fail
 obtain ⟨w2, hw2⟩ : ∃ w2, w2 = w1.alloc (.cells #[.int .i64 0, .int .i64 3, .int .i64 4, .int .i64 6] 3) := ⟨_, rfl⟩
 rw [<- hw2] at HR1 HRB HE2 ⊢
 clear hw2
 refine (places_any vo _ 4 vc 4 _ w2 HR1.out HRB.out rfl (by decide)).mono ?_
 rintro e w3 ⟨rfl, be3⟩
 have HE3 := hid (HE2.out.trans (be3.mono HE2.out.size))
 clear be3 HE2 HR1 HRB
 go_wp2_with fail
 refine (gcount_any lvB w3 (HT.out.below HE3.out) (by decide)).mono ?_
 rintro e w4 ⟨rfl, be4⟩
 rw [lvB_cnt]
 have HE4 := hid (HE3.out.trans (be4.mono HE3.out.size))
 clear be4 HE3
 go_wp2_with fail
 refine (gturn_any lvC w4 (HT.out.below HE4.out) (by decide)).mono ?_
 rintro e w5 ⟨rfl, be5⟩
 rw [lvC_trn]
 have HE5 := hid (HE4.out.trans (be5.mono HE4.out.size))
 clear be5 HE4
 have heq : ((⟨[120, 101, 204, 129].toArray⟩ : ByteArray) == ⟨#[120, 101, 204, 129]⟩) = true := by decide +kernel
 go_wp2_with fail
 refine (gnext_any lvC 0 w5 (HT.out.below HE5.out) (by decide)).mono ?_
 rintro e w6 ⟨rfl, be6⟩
 rw [show abv 0 lvC.length (gbd lvC) = 3 from lvC_nx]
 have HE6 := hid (HE5.out.trans (be6.mono HE5.out.size))
 clear be6 HE5
 go_wp2
 go_ret
 exact ⟨by simp, HE6.out⟩
end Go.Proofs.YtdpohgoikbeplaaGreatDoor.Br
namespace Go.Proofs.YtdpohgoikbeplaaGreatDoor.Br
open Wt
theorem pchn_at {p e : Nat} {P : List (Nat × Nat)} (h : Br.Chn p e P) : ∀ (k : Nat) (x : Nat × Nat), P[k]? = some x -> (Br.bds p P)[k]? = some x.1 /\ (Br.bds p P)[k + 1]? = some x.2 := by
 induction h with
 | nil => intro k x hx; simp at hx
 | @cons p t e P k1 k2 ih =>
  intro k x hx
  rw [Br.bds_cons]
  cases k with
  | zero =>
   simp only [List.getElem?_cons_zero, Option.some.injEq] at hx
   subst hx; exact ⟨rfl, rfl⟩
  | succ k =>
   rw [List.getElem?_cons_succ] at hx
   have := ih k x hx
   exact ⟨by rw [List.getElem?_cons_succ]; exact this.1, by rw [List.getElem?_cons_succ]; exact this.2⟩
theorem pchn_len {p e : Nat} {P : List (Nat × Nat)} (h : Br.Chn p e P) : P.length + p <= e := by
 induction h with
 | nil => simp
 | cons h1 _ ih => rw [List.length_cons]; omega
theorem gpl_all (l : List UInt8) : ∃ L : List (Pl l), L.map Pl.v = gpF l 0 := by
 obtain ⟨L, hL, _⟩ := gp_all l _ 0 (Nat.le_refl _)
 exact ⟨L, hL⟩
theorem gpw_facts (l : List UInt8) : ∃ L L2 : List (Pl l), L.map Pl.v = gpF l 0 /\ L2.map Pl.v = bkR l (rl l).length /\ (∀ k x, L[k]? = some x -> (gbs l)[k]? = some x.v.1 /\ (gbs l)[k + 1]? = some x.v.2) ∧
  (∀ j x, L2[j]? = some x -> j < L.length /\ (gbs l)[L.length - 1 - j]? = some x.v.1 /\ (gbs l)[L.length - j]? = some x.v.2) /\ L2.length = L.length /\ (gbs l).length - 1 = L.length /\ L.length <= l.length := by
 obtain ⟨L, hL⟩ := gpl_all l
 have hlen : L.length = (gpF l 0).length := by rw [<- hL, List.length_map]
 have hle := pchn_len (gp_ch0 l)
 have hA : ∀ k x, L[k]? = some x -> (gbs l)[k]? = some x.v.1 /\ (gbs l)[k + 1]? = some x.v.2 := fun k x hx => by
  have hk := (List.getElem?_eq_some_iff.1 hx).1
  have hne : l ≠ [] := fun e => by
   rw [e] at hle
   simp at hle
   rw [hlen, e, hle] at hk
   simp at hk
  unfold gbs
  rw [if_neg hne]; refine pchn_at (gp_ch0 l) k x.v ?_
  rw [<- hL, List.getElem?_map, hx]
  rfl
 refine ⟨L, L.reverse, hL, by rw [List.map_reverse, hL, bkR_all], hA, fun j x hx => ?_, List.length_reverse, ?_, by omega⟩
 ·have hj := (List.getElem?_eq_some_iff.1 hx).1
  rw [List.length_reverse] at hj
  rw [List.getElem?_reverse hj] at hx
  obtain ⟨h1, h2⟩ := hA _ x hx
  exact ⟨hj, h1, by rw [show L.length - j = L.length - 1 - j + 1 by omega]; exact h2⟩
 ·unfold gbs
  by_cases hne : l = []
  ·rw [if_pos hne, hlen]
   have h0 : l.length = 0 := by rw [hne]; rfl
   show 0 - 1 = _
   omega
  ·rw [if_neg hne, hlen]
   unfold gbd Br.bds
   simp
end Go.Proofs.YtdpohgoikbeplaaGreatDoor.Br
