/- SnFst, SnLv: parts of the proof, joined. -/
import Derived.Test.YtdpohgoikbeplaaGreatDoorUSnUm
import Derived.Test.YtdpohgoikbeplaaGreatDoorURfPl
namespace Go.Proofs.YtdpohgoikbeplaaGreatDoor.Sn
open Go.RowKit Go.Shelf Wt
open Sg (Pl encP)
attribute [local go_sem] Oper.semAt_some
def FsQ (l : List UInt8) (n : Int) (p : Nat) : Prop := p = plE (sbs l) n l.length
theorem fsq_pre (l : List UInt8) (n : Int) (xs : List (Nat × Nat)) (x : Nat × Nat) (h : xs ++ [x] <+: spF l) (hn : (xs.length : Int) + 1 = n) : FsQ l n x.2 := by
 obtain ⟨R, hR⟩ := h
 have hk : (spF l)[xs.length]? = some x := by rw [<- hR]; simp
 have hne : l ≠ [] := fun e => by
  have h1 := scnt_le l
  have h2 := (List.getElem?_eq_some_iff.1 hk).1
  unfold scnt at h1
  rw [e] at h1 h2
  simp at h1
  rw [h1] at h2
  simp at h2
 have e : sbs l = sbd l := if_neg hne
 unfold FsQ plE
 rw [e, if_neg (by omega), show n.toNat = xs.length + 1 by omega, List.getD_eq_getElem?_getD]
 unfold sbd
 rw [(bds_at (sp_ch0 l) _ _ hk).2]; rfl
theorem fsq_all (l : List UInt8) (n : Int) (hn : (scnt l : Int) < n) : FsQ l n l.length := by
 unfold FsQ plE
 rw [if_neg (by omega), List.getD_eq_getElem?_getD]
 by_cases hne : l = []
 ·rw [show sbs l = [] from if_pos hne]; rfl
 ·rw [show sbs l = sbd l from if_neg hne, List.getElem?_eq_none (by unfold sbd; rw [bds_len]; unfold scnt at hn; omega)]; rfl
theorem bds_hd {p e : Nat} {P : List (Nat × Nat)} (h : Br.Chn p e P) : (Br.bds p P)[0]? = some p := by
 cases h <;> rfl
theorem fsq_neg (l : List UInt8) (n : Int) (hn : n < 1) : FsQ l n 0 := by
 unfold FsQ plE
 by_cases h : n < 0
 ·rw [if_pos h]
 ·rw [if_neg h, show n.toNat = 0 by omega, List.getD_eq_getElem?_getD]
  by_cases hne : l = []
  ·rw [show sbs l = [] from if_pos hne, hne]; rfl
  ·rw [show sbs l = sbd l from if_neg hne]
   unfold sbd
   rw [bds_hd (sp_ch0 l)]; rfl
def fr2 {l : List UInt8} (a : Act) (ps : Array Tmp) (d1 : Nat) (x : Pl l) : Act :=
 { tmps := ((ps.zip (encP x)).foldl (fun t (p, v) => t.setIfInBounds p v) a.tmps).setIfInBounds d1 (.int .i64 (x.v.2 : Nat)), defers := [] }
theorem rfF2 {l : List UInt8} {n : Nat} {g : Operand} {ps : Array Tmp} {assign body : Code} {Q : Exit -> Act -> World -> Prop} {a : Act} {w : World}
  (Bs : Nat) (S : Nat -> Prop) (L : List (Pl l)) (h1 : 2 <= n) (hg : a.eval g = .func (.func 82) #[] #[.pointer (some ⟨Bs, 0, none⟩)])
  (hL : L.map Pl.v = spF l) (hE : WaAt Bs l w) (hl : l.length <= 1000000000) (hps : 2 = ps.size) (hS : ∀ k, S k -> ¬ KW Bs k)
  (I : List (Pl l) -> World -> Prop) (Ix : Code -> List (Pl l) -> World -> Prop) (hI : OwnFrom w.heap.size I) (hIx : ∀ c, OwnFrom w.heap.size (Ix c)) (h0 : I [] w) (d1 : Nat)
  (hassign : ∀ (lp : Nat) (x : Pl l) (W : World) (K : Act -> World -> Prop), K (fr2 a ps d1 x) W ->
   assign.wpIn (Fence.wide.inRound lp) (n - 1 - 1) Tryz.prog (Exit.then K (fun _ _ _ => False)) { tmps := (ps.zip (encP x)).foldl (fun t (p, v) => t.setIfInBounds p v) a.tmps, defers := [] } W)
  (hbody : ∀ (lp : Nat) (pre : List (Pl l)) (x : Pl l) (W : World), I pre W -> BS S w W -> WaAt Bs l W -> pre.length < L.length -> body.wpIn (Fence.wide.inRound lp) (n - 1 - 1) Tryz.prog (fun e _ W' => BS S W W' /\ bdQ I Ix (pre ++ [x]) e W') (fr2 a ps d1 x) W)
  (hdone : ∀ (D : Nat) (W : World), w.heap.size <= D -> I L W -> BS S w W -> W.heap[D]? = some (.deferred (some [])) -> Q .normal { a with defers := { target := .collected D, args := #[] } :: a.defers } W)
  (hstop : ∀ (D : Nat) (c : Code) (pre : List (Pl l)) (W : World), w.heap.size <= D -> pre <+: L -> Ix c pre W -> BS S w W -> W.heap[D]? = some (.deferred (some [])) -> c.wpIn Fence.wide n Tryz.prog Q { a with defers := { target := .collected D, args := #[] } :: a.defers } W) :
  (Code.rangeFunc g ps assign body).wpIn Fence.wide n Tryz.prog Q a w :=
 rfE Bs S L h1 hg hL hE hl hps hS I Ix hI hIx h0 (fr2 a ps d1) hassign hbody hdone hstop
theorem boxed_keep {A C : World} {B : Nat} {t : TypeId} {v : Value} {row : Option Nat} {n : Nat} (h : Boxed A B t v) (hg : A.grownBy C row) (hr : ∀ r, row = some r -> n <= r /\ ∃ o, A.heap[r]? = some o /\ o.isCells = false) : Boxed C B t v :=
 boxed_own B t (fun (_ : Unit) => v) () A C row h hg (fun r e => (hr r e).2)
theorem ext_take0 (l : List UInt8) (p : Nat) : (⟨l.toArray⟩ : ByteArray).extract 0 p = ⟨(l.take p).toArray⟩ := by
 apply ByteArray.ext
 simp [ByteArray.data_extract]
set_option maxHeartbeats 4000000 in
set_option maxRecDepth 100000 in
theorem sfst_in (l : List UInt8) (n : Int) (w : World) (ht : TbW w) (hl : l.length <= 100000000) (hn : n <= 9223372036854775807) :
  CallsIn Fence.wide 3 Tryz.prog 53 #[.string ⟨l.toArray⟩, .int .i64 n] w fun e W' => ∃ p : Nat, e = .returned (.string ⟨(l.take p).toArray⟩) /\ FsQ l n p /\ Below w.heap.size w W' := by
 have HT := hid ht
 clear ht
 obtain ⟨L, hL, hLl⟩ := sp_all l
 have HL := hid hL
 have HC := hid (sp_cnt hL)
 have hll : L.length <= 100000000 := by omega
 clear hL hLl
 refine callsIn_of_wp_marks Tryz.func53 rfl trivial ?_ rfl
 simp only [Tryz.ntmps53, List.size_toArray, List.length_cons, List.length_nil, Nat.reduceAdd, Nat.reduceSub, Array.replicate_succ, Array.replicate_zero, List.push_toArray, List.append_toArray, List.nil_append, List.cons_append]
 have b0 := ((Boxed.new w 9 (.string ⟨l.toArray⟩)).alloc (.cells #[.int .i64 n] 3)).alloc (.cells #[.string ⟨#[]⟩] 9)
 have b1 := (Boxed.new (w.alloc (.cells #[.string ⟨l.toArray⟩] 9)) 3 (.int .i64 n)).alloc (.cells #[.string ⟨#[]⟩] 9)
 have b2 := Boxed.new ((w.alloc (.cells #[.string ⟨l.toArray⟩] 9)).alloc (.cells #[.int .i64 n] 3)) 9 (.string ⟨#[]⟩)
 simp only [World.size_alloc] at b1 b2
 have hB : Below w.heap.size w (((w.alloc (.cells #[.string ⟨l.toArray⟩] 9)).alloc (.cells #[.int .i64 n] 3)).alloc (.cells #[.string ⟨#[]⟩] 9)) := (((Below.refl _ _).alloc (Nat.le_refl _) _).alloc (by simp) _).alloc (by simp; omega) _
 have hsz : (((w.alloc (.cells #[.string ⟨l.toArray⟩] 9)).alloc (.cells #[.int .i64 n] 3)).alloc (.cells #[.string ⟨#[]⟩] 9)).heap.size = w.heap.size + 3 := by simp
 have HB3 := hid (And.intro b0 (And.intro b1 b2))
 have c1 := b1.cell
 have c0 := b0.cell
 have f2 := b2.frozen
 by_cases hneg : n < 1
 ·have HQ := hid (fsq_neg l n hneg)
  clear b0 b1 b2
  gi_wp2; refine ⟨_, ?_, 0, rfl, HQ.out, hB⟩
  simp [results, Tryz.f53, go_sem]
 ·have h0 : 1 <= n := by omega
  clear hneg
  gi_wp2_with (refine ⟨trivial, ?_⟩; gi_at_call 46; refine (callsIn_wide.2 (seach_any l _)).mono ?_; rintro e w' ⟨rfl, rfl⟩)
  have b3 := Boxed.new (((w.alloc (.cells #[.string ⟨l.toArray⟩] 9)).alloc (.cells #[.int .i64 n] 3)).alloc (.cells #[.string ⟨#[]⟩] 9)) 9 (.string ⟨l.toArray⟩)
  have HB4 := hid (hB.alloc hB.size (.cells #[.string ⟨l.toArray⟩] 9))
  obtain ⟨b0, b1, b2⟩ := HB3.out
  have b0 := b0.alloc (.cells #[.string ⟨l.toArray⟩] 9)
  have b1 := b1.alloc (.cells #[.string ⟨l.toArray⟩] 9)
  have b2 := b2.alloc (.cells #[.string ⟨l.toArray⟩] 9)
  have hs4 : ((((w.alloc (.cells #[.string ⟨l.toArray⟩] 9)).alloc (.cells #[.int .i64 n] 3)).alloc (.cells #[.string ⟨#[]⟩] 9)).alloc (.cells #[.string ⟨l.toArray⟩] 9)).heap.size = w.heap.size + 4 := by simp
  rw [hsz] at b3
  have HTw := hid (HT.out.below HB4.out)
  clear c1 c0 f2 HB3 hB hsz; obtain ⟨W0, hW0⟩ : ∃ W0, W0 = (((w.alloc (.cells #[.string ⟨l.toArray⟩] 9)).alloc (.cells #[.int .i64 n] 3)).alloc (.cells #[.string ⟨#[]⟩] 9)).alloc (.cells #[.string ⟨l.toArray⟩] 9) := ⟨_, rfl⟩
  rw [<- hW0] at b0 b1 b2 b3 HB4 HTw hs4 ⊢
  clear hW0; obtain ⟨N, hN⟩ : ∃ N, N = w.heap.size := ⟨_, rfl⟩
  rw [<- hN] at b0 b1 b2 b3 HB4 hs4 ⊢
  have h2 : 3 <= N := by rw [hN]; exact HT.out.two
  have HN := hid hN
  have HS := hid hs4
  have HEa := hid (show WaAt (N + 3) l W0 from ⟨b3, HTw.out⟩)
  clear hN hs4 HTw; have HI0 := hid (And.intro b1 b2)
  have HS0 := hid b0
  clear b0 b1 b2 b3; refine rfF2 (N + 3) (fun k => k = N + 1 \/ k = N + 1 + 1) L (by omega) rfl HL.out HEa.out (by omega) rfl (fun k hk => by rintro (h | h) <;> omega)
   (fun pre W => (Boxed W (N + 1) 3 (.int .i64 (n - (pre.length : Nat))) /\ Boxed W (N + 1 + 1) 9 (.string ⟨#[]⟩)) /\ (pre.length : Int) < n)
   (fun c pre W => c = .ret /\ ∃ (pr : List (Pl l)) (x : Pl l), pre = pr ++ [x] /\ (pr.length : Int) + 1 = n /\ Boxed W (N + 1 + 1) 9 (.string ⟨(l.take x.v.2).toArray⟩))
   (OwnFrom.and (OwnFrom.and (Own.from (boxed_own _ _ (fun pre : List (Pl l) => Value.int .i64 (n - (pre.length : Nat)))) _) (Own.from (boxed_own _ _ _) _)) (ownFrom_pure _ _))
   (fun c _ A C row hs hg hr => by
    obtain ⟨e, pr, x, e1, e2, e3⟩ := hs
    exact ⟨e, pr, x, e1, e2, boxed_keep e3 hg hr⟩)
   ⟨⟨by simpa using HI0.out.1, HI0.out.2⟩, by simp; omega⟩ 6 ?assign ?body ?done ?stop
  case assign =>
   intro lp x W K hK
   dsimp only [encP]
   gi_wp2
   simpa [fr2, encP] using hK
  case body =>
   rintro lp pre x W ⟨⟨v0, v1⟩, hpre⟩ hb he hlt
   have hx2 := x.le
   have hs4 := HS.out
   have vS : Boxed W N 9 (.string ⟨l.toArray⟩) := (hb.block N (by omega) (by omega)).trans HS0.out
   obtain ⟨f, hf⟩ : ∃ f, f = x.v.2 := ⟨_, rfl⟩
   have HF := hid hf
   dsimp only [fr2, encP]
   rw [<- hf] at hx2 ⊢
   clear hf; have HP : Hid ((pre ++ [x]).length = pre.length + 1) := hid (by simp)
   obtain ⟨k, hk⟩ : ∃ k, k = pre.length := ⟨_, rfl⟩
   have HK := hid hk
   rw [<- hk] at v0 hpre hlt HP
   clear hk; obtain ⟨m, hm⟩ : ∃ m, m = n - (k : Int) := ⟨_, rfl⟩
   rw [<- hm] at v0
   have hm0 : 1 <= m := by omega
   have hm1 : m <= 9223372036854775807 := by omega
   have HM := hid hm
   have c0 := v0.cell
   have f0 := v0.frozen
   have q0 : (0 : Int) <= (f : Int) := by omega
   have q1 : (f : Int) <= (l.length : Int) := by omega
   clear hm hpre
   by_cases hz : m = 1
   ·subst hz
    have y0 := (v0.set (.int .i64 0)).cell
    have yS := (vS.other (B' := N + 1) (by omega) (.int .i64 0)).cell
    have y2 := v1.other (B' := N + 1) (by omega) (.int .i64 0)
    have f2 := y2.frozen
    have g2 := y2.cell
    have f3 := v1.frozen
    have g3 := v1.cell
    have HY2 := hid y2
    clear v0 v1 vS y2
    gi_wp2; refine ⟨(BS.set W _ _ (.inl rfl)).trans (BS.set _ _ _ (.inr rfl)), rfl, pre, x, rfl, ?_, ?_⟩
    ·have := HM.out
     have := HK.out
     omega
    ·rw [<- HF.out, <- ext_take0]
     exact HY2.out.set _
   ·have w1 : IntKind.i64.wrap (m - 1) = m - 1 := by rw [IntKind.wrap_i64]; omega
    have y0 := (v0.set (.int .i64 (m - 1))).cell
    have z0 : ((m - 1) == 0) = false := beq_eq_false_iff_ne.2 (by omega)
    have HY2 := hid (v1.other (B' := N + 1) (by omega) (.int .i64 (m - 1)))
    have HY0 := hid (v0.set (.int .i64 (m - 1)))
    clear v0 v1 vS
    gi_wp2; refine ⟨BS.set W _ _ (.inl rfl), ⟨?_, HY2.out⟩, ?_⟩
    ·have e : m - 1 = n - ((pre ++ [x]).length : Nat) := by rw [HP.out]; have := HM.out; omega
     rw [<- e]; exact HY0.out
    ·rw [HP.out]
     have := HM.out
     omega
  case done =>
   rintro D W hD ⟨⟨v0, v1⟩, hpre⟩ hb hK
   have hs4 := HS.out
   have vS : Boxed W N 9 (.string ⟨l.toArray⟩) := (hb.block N (by omega) (by omega)).trans HS0.out
   have HPQ := hid (fsq_all l n (by rw [<- HC.out]; exact hpre))
   have f1 := v1.frozen
   have g1 := v1.cell
   have cS := vS.cell
   have HV1 := hid v1
   clear hpre v0 vS v1
   gi_wp2; have y1 := HV1.out.set (.string ⟨l.toArray⟩)
   have HBS2 := hid (hb.trans (BS.set (S := fun k => k = N + 1 \/ k = N + 1 + 1) W (N + 1 + 1) (.string ⟨l.toArray⟩) (.inr rfl)))
   have hK' := (BS.set (S := fun k => k = N + 1 \/ k = N + 1 + 1) W (N + 1 + 1) (.string ⟨l.toArray⟩) (.inr rfl)).others.same D _ hK rfl
   refine ⟨by simp, .inl ⟨_, _, rfl, run_takeDeferred hK', ?_⟩⟩
   have c4 := cell_kept y1.cell (grownBy_putObj' _ D (.deferred none)) (fun r e => by cases e; exact ⟨_, hK', rfl⟩)
   refine ⟨_, ?_, l.length, rfl, HPQ.out, ?_⟩
   ·simp [results, Tryz.f53, go_sem, c4]
   ·have hn := HN.out
    rw [<- hn]; exact (HB4.out.trans (HBS2.out.lower N (fun k hk => by omega) (by omega))).trans (belowK_b (w := w) (by omega) _ D _ _ (by omega) hK' rfl rfl)
  case stop =>
   rintro D c pre W hD hp' ⟨rfl, pr, x, rfl, e2, e4⟩ hb hK
   have hs4 := HS.out
   gi_wp2; refine ⟨by simp, .inl ⟨_, _, rfl, run_takeDeferred hK, ?_⟩⟩
   have c4 := cell_kept e4.cell (grownBy_putObj' _ D (.deferred none)) (fun r e => by cases e; exact ⟨_, hK, rfl⟩)
   refine ⟨_, ?_, x.v.2, rfl, ?_, ?_⟩
   ·simp [results, Tryz.f53, go_sem, c4]
   ·refine fsq_pre l n (pr.map Pl.v) x.v ?_ (by rw [List.length_map]; exact e2)
    rw [<- HL.out]; obtain ⟨R, hR⟩ := hp'
    exact ⟨R.map Pl.v, by rw [<- hR]; simp⟩
   ·have hn := HN.out
    rw [<- hn]; exact (HB4.out.trans (hb.lower N (fun k hk => by omega) (by omega))).trans (belowK_b (w := w) (by omega) W D _ _ (by omega) hK rfl rfl)
theorem sfirst2_any (l : List UInt8) (n : Int) (w : World) (ht : TbW w) (hl : l.length <= 100000000) (hn : n <= 9223372036854775807) :
  Calls Tryz.prog 53 #[.string ⟨l.toArray⟩, .int .i64 n] w fun e W' => e = .returned (.string ⟨(l.take (plE (sbs l) n l.length)).toArray⟩) /\ Below w.heap.size w W' :=
 (callsIn_wide.1 (sfst_in l n w ht hl hn)).mono fun e W' ⟨p, h1, h2, h3⟩ => ⟨by rw [h1, show p = _ from h2], h3⟩
end Go.Proofs.YtdpohgoikbeplaaGreatDoor.Sn
namespace Go.Proofs.YtdpohgoikbeplaaGreatDoor.Sn
open Ev Go.RowKit Wt
theorem live13_run : runA Tryz.prog none7 1000000 60 [] 38 [] (.bool true) = true := by kernel_rfl
theorem lives13 (w : World) : Calls Tryz.prog 38 #[] w fun e w' => e = .returned (.bool true) /\ Below w.heap.size w w' := closed_args mixed none7_ok rfl rfl live13_run w (fun x hx => by cases hx)
end Go.Proofs.YtdpohgoikbeplaaGreatDoor.Sn
