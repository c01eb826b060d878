/- The contract of best (package wrap). -/
import Derived.Test.YtkopefljnhgdkaaGreatDoorWpBm
import Derived.Test.YtkopefljnhgdkaaGreatDoorMixIn
namespace Go.Proofs.YtkopefljnhgdkaaGreatDoor
open Go.RowKit Go.Shelf
attribute [local go_sem] Oper.semAt_some

/-- A way in a box. -/
def Wyb (W : World) (B : Nat) (x : Way) : Prop := W.heap[B]? = some (.cells #[.int .i64 x.c, .int .i64 x.l, .int .i64 (x.e : Nat)] 72 (0, 0))
theorem Wyb.lt {W : World} {B : Nat} {x : Way} (h : Wyb W B x) : B < W.heap.size := (Array.getElem?_eq_some_iff.1 h).1
theorem Wyb.cell {W : World} {B : Nat} {x : Way} (h : Wyb W B x) : W.cell? ⟨B, 0, none⟩ = some (.int .i64 x.c) ∧ W.cell? ⟨B, 1, none⟩ = some (.int .i64 x.l) ∧ W.cell? ⟨B, 2, none⟩ = some (.int .i64 (x.e : Nat)) := by
  unfold Wyb at h
  refine ⟨?_, ?_, ?_⟩ <;> simp [World.cell?, h]
theorem Wyb.new (w : World) (x : Way) : Wyb (w.alloc (.cells #[.int .i64 x.c, .int .i64 x.l, .int .i64 (x.e : Nat)] 72)) w.heap.size x := World.alloc_heap_new w _
theorem Wyb.kept {W W' : World} {B : Nat} {x : Way} (h : Wyb W B x) (hb : Below W.heap.size W W') : Wyb W' B x := (hb.block _ h.lt).trans h
theorem Wyb.bs {S : Nat → Prop} {W W' : World} {B : Nat} {x : Way} (h : Wyb W B x) (hb : BS S W W') (hS : ¬ S B) : Wyb W' B x := (hb.block _ h.lt hS).trans h
def st3 (W : World) (p : Nat) (v0 v1 v2 : Value) : World := ((W.setCell ⟨p, 0, none⟩ v0).setCell ⟨p, 1, none⟩ v1).setCell ⟨p, 2, none⟩ v2
theorem st3_at {W : World} {p : Nat} {x0 x1 x2 v0 v1 v2 : Value} {t : TypeId} (h : W.heap[p]? = some (.cells #[x0, x1, x2] t)) : (st3 W p v0 v1 v2).heap[p]? = some (.cells #[v0, v1, v2] t) := by
  have e1 := heap_setCell_same W p 0 _ t v0 h
  have e2 := heap_setCell_same _ p 1 _ t v1 e1
  exact heap_setCell_same _ p 2 _ t v2 e2
theorem st3_other {W : World} {p : Nat} {v0 v1 v2 : Value} {b : Nat} (hb : b ≠ p) : (st3 W p v0 v1 v2).heap[b]? = W.heap[b]? := by
  unfold st3
  rw [heap_setCell_other _ ⟨p, 2, none⟩ b _ (fun e => hb e), heap_setCell_other _ ⟨p, 1, none⟩ b _ (fun e => hb e), heap_setCell_other _ ⟨p, 0, none⟩ b _ (fun e => hb e)]
theorem st3_size {W : World} {p : Nat} {v0 v1 v2 : Value} : (st3 W p v0 v1 v2).heap.size = W.heap.size := by unfold st3; simp
theorem Wyb.frz {W : World} {B : Nat} {x : Way} (h : Wyb W B x) : W.frozen? ⟨B, 0, none⟩ = false ∧ W.frozen? ⟨B, 1, none⟩ = false ∧ W.frozen? ⟨B, 2, none⟩ = false := by
  unfold Wyb at h
  refine ⟨?_, ?_, ?_⟩ <;> simp [World.frozen?, h]
theorem Wyb.st {W : World} {B : Nat} {x : Way} (h : Wyb W B x) (y : Way) : Wyb (st3 W B (.int .i64 y.c) (.int .i64 y.l) (.int .i64 (y.e : Nat))) B y := st3_at h
theorem BS.st3 {S : Nat → Prop} (W : World) (B : Nat) (v0 v1 v2 : Value) (hB : S B) (hc : ∃ c t, W.heap[B]? = some (Obj.cells c t (0, 0))) : BS S W (st3 W B v0 v1 v2) :=
  ⟨rfl, rfl, rfl, by rw [st3_size]; exact Nat.le_refl _, fun k _ hs => st3_other (fun e => hs (by rw [e]; exact hB)), ⟨by rw [st3_size]; exact Nat.le_refl _, fun k o hk ho => (st3_other (fun e => by
    subst e
    obtain ⟨c, t, h1⟩ := hc
    rw [h1] at hk
    cases hk
    cases ho)).trans hk⟩⟩
theorem bst1_yes {W : Wr} {L : List Bx} {T : Nat → Way} {i j : Nat} {x y : Way} (h : wy W L T i j = y) (hc : y.c < x.c ∨ y.c = x.c ∧ y.l ≤ x.l) : bst1 W L T i x j = y := by
  unfold bst1
  rw [h, if_pos hc]
theorem bst1_no {W : Wr} {L : List Bx} {T : Nat → Way} {i j : Nat} {x y : Way} (h : wy W L T i j = y) (hc : ¬ (y.c < x.c ∨ y.c = x.c ∧ y.l ≤ x.l)) : bst1 W L T i x j = x := by
  unfold bst1
  rw [h, if_neg hc]
/-- A table of ways in memory, from a number on. -/
def RdT (w : World) (g : Nat) (T : Nat → Way) (i n : Nat) : Prop := g < w.heap.size ∧ ∀ k, i ≤ k → k ≤ n → w.cell? ⟨g, k * 3, none⟩ = some (.int .i64 (T k).c) ∧ w.cell? ⟨g, k * 3 + 1, none⟩ = some (.int .i64 (T k).l) ∧ w.cell? ⟨g, k * 3 + 2, none⟩ = some (.int .i64 ((T k).e : Nat))
theorem RdT.keep {w w' : World} {g : Nat} {T : Nat → Way} {i n : Nat} (h : RdT w g T i n) (hs : w.heap.size ≤ w'.heap.size) (hb : w'.heap[g]? = w.heap[g]?) : RdT w' g T i n :=
  ⟨Nat.lt_of_lt_of_le h.1 hs, fun k h1 h2 => ⟨(World.cell?_of_block (w := w) (a := ⟨g, k * 3, none⟩) hb).trans (h.2 k h1 h2).1, (World.cell?_of_block (w := w) (a := ⟨g, k * 3 + 1, none⟩) hb).trans (h.2 k h1 h2).2.1, (World.cell?_of_block (w := w) (a := ⟨g, k * 3 + 2, none⟩) hb).trans (h.2 k h1 h2).2.2⟩⟩
theorem RdT.below {w w' : World} {g : Nat} {T : Nat → Way} {i n : Nat} (h : RdT w g T i n) (hb : Below w.heap.size w w') : RdT w' g T i n := h.keep hb.size (hb.block _ h.1)
def BsQ (w : World) (x : Way) (e : Ending) (w' : World) : Prop := e = .returned (.agg #[.int .i64 x.c, .int .i64 x.l, .int .i64 (x.e : Nat)]) ∧ Below w.heap.size w w'
set_option maxHeartbeats 4000000 in
theorem best_in (lo : Option Addr) (n c : Nat) (wd fi re ho : Int) (L : List Bx) (i g kc : Nat) (T : Nat → Way) (F : List (Fe ⟨wd, fi, re, ho⟩ L i)) (w : World) (hn : n = L.length) (hr : RdB w lo L) (o : Okb ⟨wd, fi, re, ho⟩ L) (hi : i < n) (hF : FL ⟨wd, fi, re, ho⟩ L i F) (hT : RdT w g T (i + 1) n) (hTO : ∀ k, i < k → k ≤ L.length → TOk L T k) :
    CallsIn Fence.wide 4 Tryz.prog 32 #[.agg #[.slice lo n c, .int .i64 wd, .int .i64 fi, .int .i64 re, .int .i64 ho], .int .i64 i, .slice (some ⟨g, 0, none⟩) (n + 1) kc] w fun e w' => BsQ w (bstL ⟨wd, fi, re, ho⟩ L T i (F.map Fe.j)) e w' := by
  have HN := hid hn
  have HO := hid o
  have HF := hid hF
  have hlen : n ≤ 4096 := hn ▸ o.len
  obtain ⟨w1, hw1⟩ : ∃ w1, w1 = ((((w.alloc (.cells #[.slice lo n c, .int .i64 wd, .int .i64 fi, .int .i64 re, .int .i64 ho] 56)).alloc (.cells #[.int .i64 i] 3)).alloc (.cells #[.slice (some ⟨g, 0, none⟩) (n + 1) kc] 70)).alloc (.cells #[.int .i64 0, .int .i64 0, .int .i64 0] 72)).alloc (.cells #[.int .i64 9223372036854775807, .int .i64 0, .int .i64 0] 72) := ⟨_, rfl⟩
  have hs1 : w1.heap.size = w.heap.size + 5 := by rw [hw1]; simp
  have HB1 := hid (show Below w.heap.size w w1 by rw [hw1]; exact ((((below_box.alloc (by simp) _).alloc (by simp; omega) _).alloc (by simp; omega) _).alloc (by simp; omega) _))
  have HS1 := hid (show Sht w1 w.heap.size lo n c wd fi re ho by rw [hw1]; exact ((((Sht.new w lo n c wd fi re ho).kept below_box).kept below_box).kept below_box).kept below_box)
  have HI1 := hid (show Boxed w1 (w.heap.size + 1) 3 (.int .i64 i) by
    rw [hw1]
    have b := Boxed.new (w.alloc (.cells #[.slice lo n c, .int .i64 wd, .int .i64 fi, .int .i64 re, .int .i64 ho] 56)) 3 (.int .i64 i)
    rw [World.size_alloc] at b
    exact ((b.alloc _).alloc _).alloc _)
  have HK1 := hid (show Boxed w1 (w.heap.size + 1 + 1) 70 (.slice (some ⟨g, 0, none⟩) (n + 1) kc) by
    rw [hw1]
    have b := Boxed.new ((w.alloc (.cells #[.slice lo n c, .int .i64 wd, .int .i64 fi, .int .i64 re, .int .i64 ho] 56)).alloc (.cells #[.int .i64 i] 3)) 70 (.slice (some ⟨g, 0, none⟩) (n + 1) kc)
    rw [World.size_alloc, World.size_alloc] at b
    exact (b.alloc _).alloc _)
  have HL1 := hid (show Wyb w1 (w.heap.size + 1 + 1 + 1 + 1) way0 by
    rw [hw1]
    have b := Wyb.new ((((w.alloc (.cells #[.slice lo n c, .int .i64 wd, .int .i64 fi, .int .i64 re, .int .i64 ho] 56)).alloc (.cells #[.int .i64 i] 3)).alloc (.cells #[.slice (some ⟨g, 0, none⟩) (n + 1) kc] 70)).alloc (.cells #[.int .i64 0, .int .i64 0, .int .i64 0] 72)) way0
    simp only [World.size_alloc] at b
    exact b)
  have HR1 := hid (hr.below HB1.out)
  have HT1 := hid (hT.below HB1.out)
  have HTO := hid hTO
  have hr0 := hr
  have hg0 := hT.1
  clear hr hn o hF hT hTO
  refine callsIn_of_wp_marks Tryz.func32 rfl trivial ?_ rfl
  simp only [Tryz.ntmps32, List.size_toArray, List.length_cons, List.length_nil, Nat.reduceAdd, Nat.reduceSub, Array.replicate_succ, Array.replicate_zero, List.push_toArray, List.append_toArray, List.nil_append, List.cons_append]
  gi_wp2_with fail
  rw [← hw1]
  have HZ1 := hid (show Wyb w1 (w.heap.size + 1 + 1 + 1) ⟨0, 0, 0⟩ by
    rw [hw1]
    have b := Wyb.new (((w.alloc (.cells #[.slice lo n c, .int .i64 wd, .int .i64 fi, .int .i64 re, .int .i64 ho] 56)).alloc (.cells #[.int .i64 i] 3)).alloc (.cells #[.slice (some ⟨g, 0, none⟩) (n + 1) kc] 70)) ⟨0, 0, 0⟩
    simp only [World.size_alloc] at b
    exact Wyb.kept b below_box)
  clear hw1
  refine ⟨trivial, (callsIn_wide.2 (fitting_any lo n c wd fi re ho i _)).mono ?_⟩
  rintro e w2 ⟨rfl, hw2⟩
  have HWE := hid (wfAt_new w1 lo n c wd fi re ho L i HR1.out)
  rw [← hw2] at HWE
  have hsz2 : w2.heap.size = w.heap.size + 7 := by rw [hw2]; simp [hs1]
  have HB2 := hid (show Below w1.heap.size w1 w2 by rw [hw2]; exact below_box.alloc (by simp) _)
  clear hw2
  have HL2 := hid (HL1.out.kept HB2.out)
  obtain ⟨N, hN⟩ : ∃ N, N = w.heap.size := ⟨_, rfl⟩
  rw [← hN] at HB1 HS1 HI1 HK1 HL2 HZ1 hs1 hsz2
  rw [← hN]
  rw [hs1] at HWE
  have HS2 := hid (HS1.out.kept HB2.out)
  have HI2 := hid (show Boxed w2 (N + 1) 3 (.int .i64 i) from (HB2.out.block _ HI1.out.lt).trans HI1.out)
  have HK2 := hid (show Boxed w2 (N + 1 + 1) 70 (.slice (some ⟨g, 0, none⟩) (n + 1) kc) from (HB2.out.block _ HK1.out.lt).trans HK1.out)
  have HZ2 := hid (HZ1.out.kept HB2.out)
  have HT2 := hid (HT1.out.below HB2.out)
  have HR2 := hid (HR1.out.below HB2.out)
  have HLO := hid (show ∀ a, lo = some a → a.block < N from fun a ha => by
    obtain ⟨a', h1, h2, _⟩ := hr0.at (i := i) (by have := HN.out; omega)
    rw [ha] at h1; cases h1; rw [hN]; exact h2)
  have HG := hid (show g < N by rw [hN]; exact hg0)
  have HBW := hid (show Below N w w2 from HB1.out.trans (HB2.out.mono (by omega)))
  clear HB1 HS1 HI1 HK1 HL1 HZ1 HT1 HR1 HB2
  rw [hs1]
  have HNW := hid hN
  clear hs1 hr0 hg0 hN
  gi_wp2
  refine rfW2 (N + 5) (N + 5 + 1) (fun k => k = N + 1 + 1 + 1 + 1) F (by omega) rfl HF.out HWE.out HN.out (by omega) HO.out rfl ?hS
    (fun pre W => Wyb W (N + 1 + 1 + 1 + 1) (bstL ⟨wd, fi, re, ho⟩ L T i (pre.map Fe.j))) (fun _ _ _ => False) ?hO (fun _ _ _ _ _ hs _ _ => hs) HL2.out ?hT
    8 9 ?assign ?body ?done ?stop
  case hO => exact fun pre A C row h hg hr => (hg.block _ h.lt (fun e => by
      obtain ⟨_, ob, hob, hc⟩ := hr _ e.symm
      unfold Wyb at h
      rw [h] at hob
      cases hob
      cases hc)).trans h
  case hS =>
    rintro k rfl (h | h | ⟨a, ha, hk, hk2, _⟩)
    · omega
    · omega
    · have := HLO.out a ha
      omega
  case hT =>
    rintro pre W hv k rfl c fz h
    unfold Wyb at hv
    rw [hv] at h
    cases h
  case assign =>
    intro lp x W K hK
    dsimp only [encF]
    gi_wp2
    simpa [frW2, encF] using hK
  case stop =>
    rintro D c pre W _ _ h _
    exact h.elim
  case body =>
    intro lp pre x W hv hb he hlt
    have hTk := HT2.out.keep hb.size (hb.block _ (by have := HG.out; omega) (by have := HG.out; omega))
    have hln := x.lin
    obtain ⟨j, hj⟩ : ∃ j, j = x.j := ⟨_, rfl⟩
    have HSN := hid (show bstL ⟨wd, fi, re, ho⟩ L T i ((pre ++ [x]).map Fe.j) = bst1 ⟨wd, fi, re, ho⟩ L T i (bstL ⟨wd, fi, re, ho⟩ L T i (pre.map Fe.j)) j by rw [List.map_append, List.map_singleton, bstL_snoc, hj])
    dsimp only [frW2, encF]
    rw [← hj] at hln
    rw [← hj]
    have hij := hln.1.1
    have hjn : j < n := by have := hln.1.2.1; have := HN.out; omega
    obtain ⟨k0, k1, k2⟩ := hTk.2 (j + 1) (by omega) (by omega)
    have ck := (show Boxed W (N + 1 + 1) 70 (.slice (some ⟨g, 0, none⟩) (n + 1) kc) from (hb.block _ HK2.out.lt (by omega)).trans HK2.out).cell
    have HJ := hid hj
    have HLN := hid hln
    have HTK := hid (HTO.out (j + 1) (by omega) (by have := HN.out; omega))
    have HWY := hid (show wy ⟨wd, fi, re, ho⟩ L T i j = ⟨lc ⟨wd, fi, re, ho⟩ L i j + (T (j + 1)).c, 1 + (T (j + 1)).l, j⟩ from rfl)
    have hlc := HO.out.line hln
    have hc0 := HTK.out.c0
    have hc1 := HTK.out.c1
    have hl0 := HTK.out.l0
    have hl1 := HTK.out.l1
    have HCO := hid (fun WW (h : RdB WW lo L) => cost_any lo n c wd fi re ho L i j WW HN.out h HLN.out HO.out)
    obtain ⟨tc, htc⟩ : ∃ z, z = (T (j + 1)).c := ⟨_, rfl⟩
    obtain ⟨tl, htl⟩ : ∃ z, z = (T (j + 1)).l := ⟨_, rfl⟩
    obtain ⟨te, hte⟩ : ∃ z, z = (T (j + 1)).e := ⟨_, rfl⟩
    obtain ⟨lcv, hlcv⟩ : ∃ z, z = lc ⟨wd, fi, re, ho⟩ L i j := ⟨_, rfl⟩
    rw [← htc, ← htl, ← hlcv] at HWY
    rw [← htc] at k0 hc0 hc1
    rw [← htl] at k1 hl0 hl1
    rw [← hte] at k2
    rw [← hlcv] at hlc HCO
    have hc1' : tc ≤ 1000000000000 * 4096 := by have := HN.out; omega
    have hl1' : tl ≤ 4096 := by have := HN.out; omega
    have HWB := hid (show Below W.heap.size W (W.alloc (.cells #[.int .i64 tc, .int .i64 tl, .int .i64 (te : Nat)] 72)) from below_box)
    have HNX := hid (show Wyb (W.alloc (.cells #[.int .i64 tc, .int .i64 tl, .int .i64 (te : Nat)] 72)) W.heap.size ⟨tc, tl, te⟩ from Wyb.new W ⟨tc, tl, te⟩)
    have hWs := hb.size
    have HV := hid hv
    have HB := hid hb
    have HE := hid he
    clear hj hln htc htl hte hlcv hc1 hl1 hv hb he hTk HTK
    gi_wp2
    obtain ⟨W2, hW2⟩ : ∃ W2, W2 = W.alloc (.cells #[.int .i64 tc, .int .i64 tl, .int .i64 (te : Nat)] 72) := ⟨_, rfl⟩
    rw [← hW2] at HWB HNX
    rw [← hW2]
    have hs2 : W2.heap.size = W.heap.size + 1 := by rw [hW2]; simp
    have HSx := hid (show Sht W2 N lo n c wd fi re ho from (HWB.out.block _ (by omega)).trans ((HB.out.block _ (by omega) (by omega)).trans HS2.out))
    have HIx := hid (show Boxed W2 (N + 1) 3 (.int .i64 i) from (HWB.out.block _ (by omega)).trans ((HB.out.block _ (by omega) (by omega)).trans HI2.out))
    have HRx := hid (show RdB W2 lo L from HE.out.rd.below HWB.out)
    have HVx := hid (show Wyb W2 (N + 1 + 1 + 1 + 1) (bstL ⟨wd, fi, re, ho⟩ L T i (pre.map Fe.j)) from HV.out.kept HWB.out)
    clear hW2 k0 k1 k2 ck
    have e1 : IntKind.i64.wrap (lcv + tc) = lcv + tc := by rw [IntKind.wrap_i64]; omega
    have e2 : IntKind.i64.wrap (1 + tl) = 1 + tl := by rw [IntKind.wrap_i64]; omega
    refine wpIn_region_mixT lp _ (.one 0 1 (.one 1 1 (.one 2 1 (.one 3 1 (.one 5 1 (.one 6 1 (.one 8 1 (.one 9 1 (.one 10 1 (.one 11 1 (.two 4 13 (.one 7 1 (.one 12 1 (.one 13 2 (.one 14 2 .nil)))) (.one 4 2 (.one 7 1 (.one 12 1 (.one 14 2 .nil))))))))))))))) (fun _ => True)
      (fun w' => Sht w' N lo n c wd fi re ho ∧ Boxed w' (N + 1) 3 (.int .i64 i) ∧ Wyb w' W.heap.size ⟨tc, tl, te⟩) (fun _ => false) (by kernel_rfl) (by kernel_rfl) (by kernel_rfl) (fun j hj => by cases hj) rfl (by kernel_rfl) trivial ⟨HSx.out, HIx.out, HNX.out⟩ ?_
    iterate 10 (refine mixT_t ?_ rfl (by kernel_rfl) (fun w' hS => ?_) ?_; (rotate_left; (obtain ⟨s0, s1, s2, s3, s4⟩ := hS.1.cell; have s5 := hS.2.1.cell; obtain ⟨s6, s7, s8⟩ := hS.2.2.cell; dsimp only at s6 s7 s8; go_simp; with_reducible rfl); rotate_left))
    refine mixT_two ?xA ?xB
    case xA =>
      refine hand_go rfl (by kernel_rfl) fun KK hKK => ?_
      go_simp
      refine (HCO.out _ (show RdB W2.drew lo L from HRx.out)).mono ?_
      rintro e W3 ⟨rfl, be3⟩
      refine hKK _ _ (fun _ => trivial) ⟨Sht.kept (W := W2.drew) HSx.out be3, (be3.block _ HIx.out.lt).trans HIx.out, Wyb.kept (W := W2.drew) HNX.out be3⟩ ?_
      clear hKK KK
      iterate 2 (refine mixT_t ?_ rfl (by kernel_rfl) (fun w' hS => ?_) ?_; (rotate_left; (go_simp; with_reducible rfl); rotate_left))
      refine mixT_go rfl (by kernel_rfl) fun KK hKK => ?_
      go_simp
      have be4 := be3.trans (below_box (w := W3) (o := .cells #[.int .i64 (lcv + tc), .int .i64 (1 + tl), .int .i64 (j : Nat)] 72) |>.mono be3.size)
      refine hKK _ _ (fun _ => trivial) ⟨(Sht.kept (W := W2.drew) HSx.out be3).kept below_box, ((be3.trans (below_box.mono be3.size)).block _ HIx.out.lt).trans HIx.out, (Wyb.kept (W := W2.drew) HNX.out be3).kept below_box⟩ ?_
      clear hKK KK
      have HB4 := hid (show BS (fun k => k = N + 1 + 1 + 1 + 1) W (W3.alloc (.cells #[.int .i64 (lcv + tc), .int .i64 (1 + tl), .int .i64 (j : Nat)] 72)) from (BS.below HWB.out).trans ((BS.below (Below.refl _ _).drew).trans ((BS.below be3).trans (BS.below below_box))))
      have HV4 := hid ((Wyb.kept (W := W2.drew) HVx.out be3).kept (below_box (o := .cells #[.int .i64 (lcv + tc), .int .i64 (1 + tl), .int .i64 (j : Nat)] 72)))
      have HO4 := hid (show Wyb (W3.alloc (.cells #[.int .i64 (lcv + tc), .int .i64 (1 + tl), .int .i64 (j : Nat)] 72)) W3.heap.size ⟨lcv + tc, 1 + tl, j⟩ from Wyb.new W3 ⟨lcv + tc, 1 + tl, j⟩)
      obtain ⟨W4, hW4⟩ : ∃ W4, W4 = W3.alloc (.cells #[.int .i64 (lcv + tc), .int .i64 (1 + tl), .int .i64 (j : Nat)] 72) := ⟨_, rfl⟩
      rw [← hW4] at HB4 HV4 HO4
      refine mixT_go rfl (by kernel_rfl) fun KK hKK0 => ?_
      go_simp
      rw [← hW4]
      refine hKK0 _ _ (fun _ => trivial) (by rw [hW4]; exact ⟨Sht.kept (W := W2.drew) HSx.out be4, (be4.block _ HIx.out.lt).trans HIx.out, Wyb.kept (W := W2.drew) HNX.out be4⟩) ?_
      clear hW4 be4
      refine mixT_end (OnlyN.in ?_)
      clear hKK0
      obtain ⟨xx, hxx⟩ : ∃ xx, xx = bstL ⟨wd, fi, re, ho⟩ L T i (pre.map Fe.j) := ⟨_, rfl⟩
      rw [← hxx] at HV4 HSN
      obtain ⟨xc, xl, xe⟩ := xx
      obtain ⟨a0, a1, a2⟩ := HV4.out.cell
      obtain ⟨f0, f1, f2⟩ := HV4.out.frz
      obtain ⟨b0, b1, b2⟩ := HO4.out.cell
      dsimp only at a0 a1 a2 b0 b1 b2
      clear hxx
      by_cases q1 : lcv + tc < xc
      · have HX := hid (HSN.out.trans (bst1_yes HWY.out (.inl q1)))
        gi_wp2
        refine ⟨HB4.out.trans (BS.st3 W4 _ (.int .i64 (lcv + tc)) (.int .i64 (1 + tl)) (.int .i64 (j : Nat)) rfl ⟨_, _, HV4.out⟩), ?_⟩
        show Wyb _ _ _
        rw [HX.out]
        exact HV4.out.st ⟨lcv + tc, 1 + tl, j⟩
      · cases q2 : ((lcv + tc) == xc) with
        | true =>
          by_cases q3 : 1 + tl ≤ xl
          · have HX := hid (HSN.out.trans (bst1_yes HWY.out (.inr ⟨beq_iff_eq.1 q2, q3⟩)))
            gi_wp2
            refine ⟨HB4.out.trans (BS.st3 W4 _ (.int .i64 (lcv + tc)) (.int .i64 (1 + tl)) (.int .i64 (j : Nat)) rfl ⟨_, _, HV4.out⟩), ?_⟩
            show Wyb _ _ _
            rw [HX.out]
            exact HV4.out.st ⟨lcv + tc, 1 + tl, j⟩
          · have HX := hid (HSN.out.trans (bst1_no HWY.out (fun h => h.elim q1 (fun h => q3 h.2))))
            gi_wp2
            refine ⟨HB4.out, ?_⟩
            show Wyb _ _ _
            rw [HX.out]
            exact HV4.out
        | false =>
          have HX := hid (HSN.out.trans (bst1_no HWY.out (fun h => h.elim q1 (fun h => (beq_eq_false_iff_ne.1 q2) h.1))))
          gi_wp2
          refine ⟨HB4.out, ?_⟩
          show Wyb _ _ _
          rw [HX.out]
          exact HV4.out
    case xB =>
      refine hand_go rfl (by kernel_rfl) fun KK hKK => ?_
      go_simp
      have hbA : Below W2.drew.heap.size W2.drew (W2.drew.alloc (.cells #[.int .i64 0, .int .i64 0, .int .i64 0] 72)) := below_box
      refine hKK _ _ (fun _ => trivial) ⟨Sht.kept (W := W2.drew) HSx.out hbA, (hbA.block _ HIx.out.lt).trans HIx.out, Wyb.kept (W := W2.drew) HNX.out hbA⟩ ?_
      clear hKK KK
      refine mixT_go rfl (by kernel_rfl) fun KK hKK => ?_
      go_simp
      refine (HCO.out _ (RdB.below (w := W2.drew) HRx.out hbA)).mono ?_
      rintro e W3 ⟨rfl, be3⟩
      refine hKK _ _ (fun _ => trivial) ⟨Sht.kept (Sht.kept (W := W2.drew) HSx.out hbA) be3, (be3.block _ (by have := HIx.out.lt; simp; omega)).trans ((hbA.block _ HIx.out.lt).trans HIx.out), (Wyb.kept (W := W2.drew) HNX.out hbA).kept be3⟩ ?_
      clear hKK KK
      iterate 2 (refine mixT_t ?_ rfl (by kernel_rfl) (fun w' hS => ?_) ?_; (rotate_left; (go_simp; with_reducible rfl); rotate_left))
      refine mixT_go rfl (by kernel_rfl) fun KK hKK0 => ?_
      have hZ3 : Wyb W3 (W.heap.size + 1) ⟨0, 0, 0⟩ := by
        have b : Wyb (W2.drew.alloc (.cells #[.int .i64 0, .int .i64 0, .int .i64 0] 72)) W2.drew.heap.size ⟨0, 0, 0⟩ := Wyb.new W2.drew ⟨0, 0, 0⟩
        rw [show W2.drew.heap.size = W.heap.size + 1 from hs2] at b
        exact b.kept be3
      have hz := Wyb.frz (W := W3) (B := W.heap.size + 1) hZ3
      have z0 := hz.1
      have z1 := hz.2.1
      have z2 := hz.2.2
      have hy := Wyb.cell (W := W3) (B := W.heap.size + 1) hZ3
      have y0 := hy.1
      have y1 := hy.2.1
      have y2 := hy.2.2
      clear hz hy
      dsimp only at y0 y1 y2
      have hbs3 := be3.size
      rw [World.size_alloc, show W2.drew.heap.size = W.heap.size + 1 from hs2] at hbs3
      have HB3 := hid (show BS (fun k => k = N + 1 + 1 + 1 + 1) W W3 from (BS.below HWB.out).trans ((BS.below (Below.refl _ _).drew).trans ((BS.below hbA).trans (BS.below be3))))
      have HV3 := hid ((Wyb.kept (W := W2.drew) HVx.out hbA).kept be3)
      have HT3 := hid (show Sht W3 N lo n c wd fi re ho ∧ Boxed W3 (N + 1) 3 (.int .i64 i) ∧ Wyb W3 W.heap.size ⟨tc, tl, te⟩ from ⟨Sht.kept (Sht.kept (W := W2.drew) HSx.out hbA) be3, (be3.block _ (by have := HIx.out.lt; simp; omega)).trans ((hbA.block _ HIx.out.lt).trans HIx.out), (Wyb.kept (W := W2.drew) HNX.out hbA).kept be3⟩)
      have HZ3 := hid hZ3
      clear hbA be3 hZ3
      go_simp
      have hV4 : Wyb (st3 W3 (W.heap.size + 1) (.int .i64 (lcv + tc)) (.int .i64 (1 + tl)) (.int .i64 (j : Nat))) (W.heap.size + 1) ⟨lcv + tc, 1 + tl, j⟩ := HZ3.out.st ⟨lcv + tc, 1 + tl, j⟩
      have hot : ∀ k, k ≠ W.heap.size + 1 → (st3 W3 (W.heap.size + 1) (.int .i64 (lcv + tc)) (.int .i64 (1 + tl)) (.int .i64 (j : Nat))).heap[k]? = W3.heap[k]? := fun k hk => st3_other hk
      have HV4 := hid (show Wyb (st3 W3 (W.heap.size + 1) (.int .i64 (lcv + tc)) (.int .i64 (1 + tl)) (.int .i64 (j : Nat))) (N + 1 + 1 + 1 + 1) (bstL ⟨wd, fi, re, ho⟩ L T i (pre.map Fe.j)) from (hot _ (by omega)).trans HV3.out)
      have HB4 := hid (show BS (fun k => k = N + 1 + 1 + 1 + 1) W (st3 W3 (W.heap.size + 1) (.int .i64 (lcv + tc)) (.int .i64 (1 + tl)) (.int .i64 (j : Nat))) from by
        refine ⟨HB3.out.os, HB3.out.tape, HB3.out.output, by rw [st3_size]; exact HB3.out.size, fun k hk hs => (hot k (by omega)).trans (HB3.out.block k hk hs), ⟨by rw [st3_size]; exact HB3.out.size, fun k o hk hc => (hot k (by have := (Array.getElem?_eq_some_iff.1 hk).1; omega)).trans (HB3.out.others.same k o hk hc)⟩⟩)
      have HO4 := hid hV4
      have HT4 := hid (show Sht (st3 W3 (W.heap.size + 1) (.int .i64 (lcv + tc)) (.int .i64 (1 + tl)) (.int .i64 (j : Nat))) N lo n c wd fi re ho ∧ Boxed (st3 W3 (W.heap.size + 1) (.int .i64 (lcv + tc)) (.int .i64 (1 + tl)) (.int .i64 (j : Nat))) (N + 1) 3 (.int .i64 i) ∧ Wyb (st3 W3 (W.heap.size + 1) (.int .i64 (lcv + tc)) (.int .i64 (1 + tl)) (.int .i64 (j : Nat))) W.heap.size ⟨tc, tl, te⟩ from ⟨(hot _ (by omega)).trans HT3.out.1, (hot _ (by omega)).trans HT3.out.2.1, (hot _ (by omega)).trans HT3.out.2.2⟩)
      obtain ⟨W4, hW4⟩ : ∃ W4, W4 = st3 W3 (W.heap.size + 1) (.int .i64 (lcv + tc)) (.int .i64 (1 + tl)) (.int .i64 (j : Nat)) := ⟨_, rfl⟩
      rw [← hW4] at HB4 HV4 HO4 HT4
      show KK _ (st3 W3 (W.heap.size + 1) (.int .i64 (lcv + tc)) (.int .i64 (1 + tl)) (.int .i64 (j : Nat)))
      rw [← hW4]
      refine hKK0 _ _ (fun _ => trivial) HT4.out ?_
      clear hW4 hot hV4 z0 z1 z2 y0 y1 y2 HZ3 HT3 HV3 HB3
      refine mixT_end (OnlyN.in ?_)
      clear hKK0
      obtain ⟨xx, hxx⟩ : ∃ xx, xx = bstL ⟨wd, fi, re, ho⟩ L T i (pre.map Fe.j) := ⟨_, rfl⟩
      rw [← hxx] at HV4 HSN
      obtain ⟨xc, xl, xe⟩ := xx
      obtain ⟨a0, a1, a2⟩ := HV4.out.cell
      obtain ⟨f0, f1, f2⟩ := HV4.out.frz
      obtain ⟨b0, b1, b2⟩ := HO4.out.cell
      dsimp only at a0 a1 a2 b0 b1 b2
      clear hxx
      by_cases q1 : lcv + tc < xc
      · have HX := hid (HSN.out.trans (bst1_yes HWY.out (.inl q1)))
        gi_wp2
        refine ⟨HB4.out.trans (BS.st3 W4 _ (.int .i64 (lcv + tc)) (.int .i64 (1 + tl)) (.int .i64 (j : Nat)) rfl ⟨_, _, HV4.out⟩), ?_⟩
        show Wyb _ _ _
        rw [HX.out]
        exact HV4.out.st ⟨lcv + tc, 1 + tl, j⟩
      · cases q2 : ((lcv + tc) == xc) with
        | true =>
          by_cases q3 : 1 + tl ≤ xl
          · have HX := hid (HSN.out.trans (bst1_yes HWY.out (.inr ⟨beq_iff_eq.1 q2, q3⟩)))
            gi_wp2
            refine ⟨HB4.out.trans (BS.st3 W4 _ (.int .i64 (lcv + tc)) (.int .i64 (1 + tl)) (.int .i64 (j : Nat)) rfl ⟨_, _, HV4.out⟩), ?_⟩
            show Wyb _ _ _
            rw [HX.out]
            exact HV4.out.st ⟨lcv + tc, 1 + tl, j⟩
          · have HX := hid (HSN.out.trans (bst1_no HWY.out (fun h => h.elim q1 (fun h => q3 h.2))))
            gi_wp2
            refine ⟨HB4.out, ?_⟩
            show Wyb _ _ _
            rw [HX.out]
            exact HV4.out
        | false =>
          have HX := hid (HSN.out.trans (bst1_no HWY.out (fun h => h.elim q1 (fun h => (beq_eq_false_iff_ne.1 q2) h.1))))
          gi_wp2
          refine ⟨HB4.out, ?_⟩
          show Wyb _ _ _
          rw [HX.out]
          exact HV4.out
  case done =>
    intro d W hd hv hb hK
    have hWs := hb.size
    have hZ : Wyb W (N + 1 + 1 + 1) ⟨0, 0, 0⟩ := HZ2.out.bs hb (by omega)
    obtain ⟨x, hx⟩ : ∃ x, x = bstL ⟨wd, fi, re, ho⟩ L T i (F.map Fe.j) := ⟨_, rfl⟩
    rw [← hx] at hv
    have HX := hid hx
    obtain ⟨xc, xl, xe⟩ := x
    obtain ⟨a0, a1, a2⟩ := hv.cell
    obtain ⟨f0, f1, f2⟩ := hZ.frz
    obtain ⟨b0, b1, b2⟩ := hZ.cell
    dsimp only at a0 a1 a2 b0 b1 b2
    have HQ := hid (show Wyb (st3 W (N + 1 + 1 + 1) (.int .i64 xc) (.int .i64 xl) (.int .i64 (xe : Nat))) (N + 1 + 1 + 1) ⟨xc, xl, xe⟩ from hZ.st ⟨xc, xl, xe⟩)
    have HBQ := hid (show Below N w (st3 W (N + 1 + 1 + 1) (.int .i64 xc) (.int .i64 xl) (.int .i64 (xe : Nat))) from (HBW.out.trans (hb.lower N (fun k hk => by omega) (by omega))).trans ⟨rfl, rfl, rfl, by rw [st3_size]; exact Nat.le_refl _, fun k hk => st3_other (by omega)⟩)
    have HMK := hid (show Marks [d] N (st3 W (N + 1 + 1 + 1) (.int .i64 xc) (.int .i64 xl) (.int .i64 (xe : Nat))) from (Marks.nil N _).cons ((st3_other (by omega)).trans hK) (by omega) (fun e he => by cases he))
    clear hx hv hb hK hZ hd hWs
    gi_wp2
    refine leaves_marks 4 N [d] (st3 W (N + 1 + 1 + 1) (.int .i64 xc) (.int .i64 xl) (.int .i64 (xe : Nat))) HMK.out (fun w' hs => ?_)
    refine ⟨_, results_cell_row rfl _ _ (N + 1 + 1 + 1) 72 #[.int .i64 xc, .int .i64 xl, .int .i64 (xe : Nat)] (0, 0) _ rfl (hs.cells _ _ HQ.out rfl) Tryz.underlying72 rfl (by kernel_rfl), ?_⟩
    rw [← HX.out]
    refine ⟨rfl, ?_⟩
    rw [← HNW.out]
    exact HBQ.out.trans hs.low
theorem best_any (lo : Option Addr) (n c : Nat) (wd fi re ho : Int) (L : List Bx) (i g kc : Nat) (T : Nat → Way) (F : List (Fe ⟨wd, fi, re, ho⟩ L i)) (w : World) (hn : n = L.length) (hr : RdB w lo L) (o : Okb ⟨wd, fi, re, ho⟩ L) (hi : i < n) (hF : FL ⟨wd, fi, re, ho⟩ L i F) (hT : RdT w g T (i + 1) n) (hTO : ∀ k, i < k → k ≤ L.length → TOk L T k) :
    Calls Tryz.prog 32 #[.agg #[.slice lo n c, .int .i64 wd, .int .i64 fi, .int .i64 re, .int .i64 ho], .int .i64 i, .slice (some ⟨g, 0, none⟩) (n + 1) kc] w fun e w' => BsQ w (bstL ⟨wd, fi, re, ho⟩ L T i (F.map Fe.j)) e w' := callsIn_wide.1 (best_in lo n c wd fi re ho L i g kc T F w hn hr o hi hF hT hTO)
end Go.Proofs.YtkopefljnhgdkaaGreatDoor
