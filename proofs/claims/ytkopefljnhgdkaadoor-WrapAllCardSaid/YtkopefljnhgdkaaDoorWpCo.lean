/- The contract of Cost (package wrap). -/
import Derived.Test.YtkopefljnhgdkaaDoorWpLn
import Derived.Test.YtkopefljnhgdkaaDoorMixIn
import Derived.Scope
import Derived.WalkMore
namespace Go.Proofs.YtkopefljnhgdkaaDoor
open Go.RowKit Go.Shelf
attribute [local go_sem] Oper.semAt_some

theorem ofFnC (f : Nat → Value) : Array.ofFn (fun i : Fin 57 => f i) = #[f 0, f 1, f 2, f 3, f 4, f 5, f 6, f 7, f 8, f 9, f 10, f 11, f 12, f 13, f 14, f 15, f 16, f 17, f 18, f 19, f 20, f 21, f 22, f 23, f 24, f 25, f 26, f 27, f 28, f 29, f 30, f 31, f 32, f 33, f 34, f 35, f 36, f 37, f 38, f 39, f 40, f 41, f 42, f 43, f 44, f 45, f 46, f 47, f 48, f 49, f 50, f 51, f 52, f 53, f 54, f 55, f 56] := by kernel_rfl
theorem frameC (a : Act) (D : List Deferred) (hs : a.tmps.size = 57) (hd : a.defers = D) (v0 v2 v6 v7 v10 v11 v12 v28 v29 v30 : Value) (h0 : at_ a 0 = v0) (h2 : at_ a 2 = v2) (h6 : at_ a 6 = v6) (h7 : at_ a 7 = v7) (h10 : at_ a 10 = v10) (h11 : at_ a 11 = v11) (h12 : at_ a 12 = v12) (h28 : at_ a 28 = v28) (h29 : at_ a 29 = v29) (h30 : at_ a 30 = v30) :
    ∃ u : Nat → Value, a = { tmps := #[v0, u 1, v2, u 3, u 4, u 5, v6, v7, u 8, u 9, v10, v11, v12, u 13, u 14, u 15, u 16, u 17, u 18, u 19, u 20, u 21, u 22, u 23, u 24, u 25, u 26, u 27, v28, v29, v30, u 31, u 32, u 33, u 34, u 35, u 36, u 37, u 38, u 39, u 40, u 41, u 42, u 43, u 44, u 45, u 46, u 47, u 48, u 49, u 50, u 51, u 52, u 53, u 54, u 55, u 56], defers := D } := by
  obtain ⟨t, d⟩ := a
  subst hd
  refine ⟨fun i => t.getD i undef, ?_⟩
  simp only [at_] at h0 h2 h6 h7 h10 h11 h12 h28 h29 h30
  subst h0 h2 h6 h7 h10 h11 h12 h28 h29 h30
  exact congrArg (fun t => (Act.mk t d : Act)) ((ofFn_all t hs).trans (ofFnC fun i => t.getD i undef))
/-- What Cost answers. -/
def CsQ (w : World) (W : Wr) (L : List Bx) (es : List Int) (e : Ending) (w' : World) : Prop :=
  (∃ (z : Int) (b : Bool), e = .returned (.tuple #[.int .i64 z, .bool b]) ∧ (b = true ↔ (chk W L).1 = 0 ∧ Brk W L 0 es) ∧ z = if b = true then cst W L 0 es else 0) ∧ Below w.heap.size w w'
/-- What stands between the rounds of Cost: the first k ends are those of lines, up to first. -/
structure CsM (W : Wr) (L : List Bx) (es : List Int) (k first : Nat) (s : Int) : Prop where
  iff : Brk W L 0 es ↔ Brk W L first (es.drop k)
  sum : Brk W L first (es.drop k) → cst W L 0 es = s + cst W L first (es.drop k)
  s0 : 0 ≤ s
  s1 : s ≤ 1000000000000 * (first : Int)
theorem CsM.start (W : Wr) (L : List Bx) (es : List Int) : CsM W L es 0 0 0 := ⟨Iff.rfl, fun _ => by rw [List.drop_zero]; omega, Int.le_refl _, by omega⟩
theorem CsM.step {W : Wr} {L : List Bx} {es : List Int} {k first : Nat} {s : Int} (o : Okb W L) (h : CsM W L es k first s) {j : Nat} (hj : es[k]? = some (j : Int)) (hl : Lin W L first j) : CsM W L es (k + 1) (j + 1) (s + lc W L first j) := by
  obtain ⟨hk, hj⟩ := List.getElem?_eq_some_iff.1 hj
  have hd : es.drop k = (j : Int) :: es.drop (k + 1) := by rw [drop_at hk, hj]
  have hb : Brk W L first (es.drop k) ↔ Brk W L (j + 1) (es.drop (k + 1)) := by
    rw [hd]
    constructor
    · rintro ⟨i, e, _, h2⟩
      have : i = j := by omega
      subst this
      exact h2
    · exact fun h2 => ⟨j, rfl, hl, h2⟩
  have hq := o.line hl
  refine ⟨h.iff.trans hb, fun h2 => ?_, by have := h.s0; omega, by have := h.s1; have := hl.1.1; omega⟩
  have h3 := h.sum (hb.2 h2)
  rw [hd, cst_cons] at h3
  omega
theorem CsM.no {W : Wr} {L : List Bx} {es : List Int} {k first : Nat} {s : Int} (h : CsM W L es k first s) {z : Int} (hz : es[k]? = some z) (hn : ∀ j : Nat, z = (j : Int) → ¬ Lin W L first j) : ¬ Brk W L 0 es := by
  obtain ⟨hk, hz⟩ := List.getElem?_eq_some_iff.1 hz
  rw [h.iff, drop_at hk]
  rintro ⟨j, e, hl, _⟩
  exact hn j (hz ▸ e) hl
structure CsI (w w1 : World) (lo : Option Addr) (n c : Nat) (wd fi re ho : Int) (L : List Bx) (eo : Option Addr) (el ec : Nat) (es : List Int) (m : Nat) (a : Act) (wr : World) (k first : Nat) (s : Int) (D : List Nat) : Prop where
  size : a.tmps.size = 57
  df : a.defers = mks D
  t0 : at_ a 0 = .slice lo n c
  t2 : at_ a 2 = .slice eo el ec
  t6 : at_ a 6 = .int .i64 0
  t7 : at_ a 7 = .bool false
  t10 : at_ a 10 = .pointer (some ⟨w1.heap.size, 0, none⟩)
  t11 : at_ a 11 = .pointer (some ⟨w1.heap.size + 1, 0, none⟩)
  t12 : at_ a 12 = .pointer (some ⟨w1.heap.size + 1 + 1, 0, none⟩)
  t28 : at_ a 28 = .slice eo el ec
  t29 : at_ a 29 = .int .i64 el
  t30 : at_ a 30 = .int .i64 k
  kle : k ≤ el
  fle : first ≤ n
  lt : el - k < m
  cm : CsM ⟨wd, fi, re, ho⟩ L es k first s
  b1 : Boxed wr (w1.heap.size + 1) 3 (.int .i64 first)
  b2 : Boxed wr (w1.heap.size + 1 + 1) 2 (.int .i64 s)
  low : Below (w1.heap.size + 1) (w1.alloc (.cells #[.slice lo n c, .int .i64 wd, .int .i64 fi, .int .i64 re, .int .i64 ho] 52)) wr
  mks : Marks D w1.heap.size wr
set_option maxHeartbeats 4000000 in
theorem cost_in (lo : Option Addr) (n c : Nat) (wd fi re ho : Int) (L : List Bx) (eo : Option Addr) (el ec : Nat) (es : List Int) (w : World) (hn : n = L.length) (hr : RdB w lo L) (hel : el = es.length) (hre : RdI w eo es) (hbig : el ≤ 17592186044416) (hok : (chk ⟨wd, fi, re, ho⟩ L).1 = 0) :
    CallsIn Fence.wide 3 Tryd.prog 10 #[.slice lo n c, .agg #[.int .i64 wd, .int .i64 fi, .int .i64 re, .int .i64 ho], .slice eo el ec] w fun e w' => CsQ w ⟨wd, fi, re, ho⟩ L es e w' := by
  have HS := hid (Wrs.new w wd fi re ho)
  have HB := hid (below_box (w := w) (o := .cells #[.int .i64 wd, .int .i64 fi, .int .i64 re, .int .i64 ho] 24))
  have HR := hid (hr.below HB.out)
  have HRE := hid (hre.below HB.out)
  have HN := hid hn
  have HEL := hid hel
  have HE := hid hok
  have HO := hid (chk_ok hok)
  clear hr hn hel hre hok
  obtain ⟨c0, c1, c2, c3⟩ := HS.out.cell
  refine callsIn_of_wp_marks Tryd.func10 rfl trivial ?_ rfl
  simp only [Tryd.ntmps10, List.size_toArray, List.length_cons, List.length_nil, Nat.reduceAdd, Nat.reduceSub, Array.replicate_succ, Array.replicate_zero, List.push_toArray, List.append_toArray, List.nil_append, List.cons_append]
  gi_wp2_with fail
  refine wpIn_wide.2 (wp_scope_straight ((wpIn_wide (n := 3)).1 ?_))
  gi_wp2_with fail
  refine ⟨trivial, (callsIn_wide.2 (check_any lo n c wd fi re ho L _ HN.out HR.out)).mono ?_⟩
  rintro e w1 ⟨rfl, be1⟩
  rw [HE.out]
  have HS1 := hid (HS.out.kept be1)
  have HB1 := hid (HB.out.trans (be1.mono HB.out.size))
  have HR1 := hid (HR.out.below be1)
  have HRE1 := hid (HRE.out.below be1)
  obtain ⟨d0, d1, d2, d3⟩ := HS1.out.cell
  obtain ⟨wI, hwI⟩ : ∃ wI, wI = ((w1.alloc (.cells #[.slice lo n c, .int .i64 wd, .int .i64 fi, .int .i64 re, .int .i64 ho] 52)).alloc (.cells #[.int .i64 0] 3)).alloc (.cells #[.int .i64 0] 2) := ⟨_, rfl⟩
  clear be1 c0 c1 c2 c3
  gi_wp2
  refine wpIn_wide.2 (wp_label ?_)
  gi_wp2
  rw [← hwI]
  have hsI : wI.heap.size = w1.heap.size + 3 := by rw [hwI]; simp
  have HSI := hid (Sht.new w1 lo n c wd fi re ho)
  have HB1I := hid (show Boxed wI (w1.heap.size + 1) 3 (.int .i64 0) by
    rw [hwI]
    have b := Boxed.new (w1.alloc (.cells #[.slice lo n c, .int .i64 wd, .int .i64 fi, .int .i64 re, .int .i64 ho] 52)) 3 (.int .i64 0)
    rw [World.size_alloc] at b
    exact b.alloc _)
  have HB2I := hid (show Boxed wI (w1.heap.size + 1 + 1) 2 (.int .i64 0) by
    rw [hwI]
    have b := Boxed.new ((w1.alloc (.cells #[.slice lo n c, .int .i64 wd, .int .i64 fi, .int .i64 re, .int .i64 ho] 52)).alloc (.cells #[.int .i64 0] 3)) 2 (.int .i64 0)
    rw [World.size_alloc, World.size_alloc] at b
    exact b)
  have HBI := hid (show Below (w1.heap.size + 1) (w1.alloc (.cells #[.slice lo n c, .int .i64 wd, .int .i64 fi, .int .i64 re, .int .i64 ho] 52)) wI by rw [hwI]; exact ((Below.refl _ _).alloc (by simp) _).alloc (by simp) _)
  clear hwI d0 d1 d2 d3
  refine wpIn_loop_inv (fun m a wr => ∃ k first s D, CsI w w1 lo n c wd fi re ho L eo el ec es m a wr k first s D) (fun a wr ⟨_, _, _, _, h⟩ => by have := h.lt; omega) ?round (el + 1) _ _ ⟨0, 0, 0, [], ⟨rfl, rfl, rfl, rfl, rfl, rfl, rfl, rfl, rfl, rfl, rfl, rfl, Nat.zero_le _, Nat.zero_le _, by omega, CsM.start _ _ _, HB1I.out, HB2I.out, HBI.out, Marks.nil _ _⟩⟩
  clear HB1I HB2I HBI hsI
  rintro m a wr ⟨k, first, s, D, hI⟩
  obtain ⟨hsz, hdf, t0, t2, t6, t7, t10, t11, t12, t28, t29, t30, hkle, hfle, hlt, hcm, hb1, hb2, hlow, hmk⟩ := hI
  obtain ⟨u, rfl⟩ := frameC a _ hsz hdf _ _ _ _ _ _ _ _ _ _ t0 t2 t6 t7 t10 t11 t12 t28 t29 t30
  clear hsz hdf t0 t2 t6 t7 t10 t11 t12 t28 t29 t30
  obtain ⟨dd0, hdd0⟩ : ∃ dd, dd = mks D := ⟨_, rfl⟩
  have HDD0 := hid hdd0
  rw [← hdd0]
  clear hdd0
  have hs0 := hcm.s0
  have hs1 := hcm.s1
  have hn4 : n ≤ 4096 := by have := HO.out.len; have := HN.out; omega
  have HCM := hid hcm
  have HLO := hid hlow
  have HMK := hid hmk
  have hw3 : w1.heap.size + 3 ≤ wr.heap.size := by have := hb2.lt; omega
  have HBX1 := hid hb1
  have HBX2 := hid hb2
  have HSH := hid (show Sht wr w1.heap.size lo n c wd fi re ho from (hlow.block _ (by omega)).trans HSI.out)
  have HLOW := hid (show Below w1.heap.size w1 wr from below_box.trans (hlow.mono (by omega)))
  have HRD := hid (HR1.out.below HLOW.out)
  have HRX := hid (HRE1.out.below HLOW.out)
  clear hcm hlow hmk hb1 hb2
  by_cases hf : k < el
  · have hfi : (k : Int) < (el : Int) := by omega
    have i0 : (0 : Int) ≤ (k : Int) := by omega
    have hkl : k < es.length := by have := HEL.out; omega
    obtain ⟨b, rfl, hbl, e0⟩ := HRX.out k es[k] (List.getElem?_eq_getElem hkl)
    obtain ⟨z, hz⟩ : ∃ z, es[k]? = some z := ⟨_, List.getElem?_eq_getElem hkl⟩
    rw [(List.getElem?_eq_some_iff.1 hz).2] at e0
    have HZ := hid hz
    clear hz hkl
    obtain ⟨F, hF⟩ := ff_all HO.out first
    have HF := hid hF
    clear hF
    have HBE := hid (Boxed.new wr 3 (.int .i64 z))
    have HWE := hid (wfAt_new (wr.alloc (.cells #[.int .i64 z] 3)) lo n c wd fi re ho L first (HRD.out.below below_box))
    obtain ⟨d0, d1, d2, d3, d4⟩ := (HSH.out.kept (below_box (o := .cells #[.int .i64 z] 3))).cell
    have g1 := (HBX1.out.alloc (.cells #[.int .i64 z] 3)).cell
    gi_wp2_with fail
    refine ⟨trivial, (callsIn_wide.2 (fitting_any lo n c wd fi re ho first _)).mono ?_⟩
    rintro e w2 ⟨rfl, hw2⟩
    rw [← hw2] at HWE
    have hsz2 : w2.heap.size = wr.heap.size + 3 := by rw [hw2]; simp
    have HB2 := hid (show Below wr.heap.size wr w2 by rw [hw2]; exact ((below_box.alloc (by simp) _).alloc (by simp; omega) _))
    have HBE2 := hid (show Boxed w2 wr.heap.size 3 (.int .i64 z) by rw [hw2]; exact (HBE.out.alloc _).alloc _)
    rw [World.size_alloc] at HWE
    clear hw2 HBE d0 d1 d2 d3 d4 g1 e0
    have HS2 := hid (HSH.out.kept HB2.out)
    have HX1 := hid (show Boxed w2 (w1.heap.size + 1) 3 (.int .i64 first) from (HB2.out.block _ HBX1.out.lt).trans HBX1.out)
    have HX2 := hid (show Boxed w2 (w1.heap.size + 1 + 1) 2 (.int .i64 s) from (HB2.out.block _ HBX2.out.lt).trans HBX2.out)
    have HLA := hid (show ∀ a, lo = some a → 0 < L.length → a.block < w1.heap.size from fun a ha hl => by
      obtain ⟨a', h1, h2, _⟩ := HR1.out.at hl
      rw [ha] at h1; cases h1; exact h2)
    gi_wp2
    refine rfW2 (wr.heap.size + 1) (wr.heap.size + 1 + 1) (fun q => q = w1.heap.size + 1 ∨ q = w1.heap.size + 1 + 1) F (by omega) rfl HF.out HWE.out HN.out hfle HO.out rfl ?hS
      (fun pre W => (Boxed W (w1.heap.size + 1) 3 (.int .i64 first) ∧ Boxed W (w1.heap.size + 1 + 1) 2 (.int .i64 s)) ∧ ∀ x ∈ pre, (x.j : Int) ≠ z)
      (fun q _ W => ∃ j : Nat, q = .exit 1 ∧ (z = (j : Int) ∧ Lin ⟨wd, fi, re, ho⟩ L first j) ∧ Boxed W (w1.heap.size + 1) 3 (.int .i64 ((j + 1 : Nat) : Int)) ∧ Boxed W (w1.heap.size + 1 + 1) 2 (.int .i64 (s + lc ⟨wd, fi, re, ho⟩ L first j)))
      (OwnFrom.and (OwnFrom.and (Own.from (boxed_own _ _ _) _) (Own.from (boxed_own _ _ _) _)) (fun _ _ _ _ h _ _ => h))
      (fun q x A C row h hg hr => by
        obtain ⟨j, h1, h2, h3, h4⟩ := h
        exact ⟨j, h1, h2, boxed_keep h3 hg hr, boxed_keep h4 hg hr⟩)
      ⟨⟨HX1.out, HX2.out⟩, fun x hx => by cases hx⟩ ?hT
      15 16 ?assign ?body ?done ?stop
    case hS =>
      rintro q hq (h | h | ⟨a, ha, hk, hk2, hl0⟩)
      · omega
      · omega
      · have := HLA.out a ha hl0
        omega
    case hT =>
      rintro pre W hv q hq c fz h
      rcases hq with rfl | rfl
      · have h1 := hv.1.1
        unfold Boxed at h1
        rw [h1] at h
        cases h
      · have h1 := hv.1.2
        unfold Boxed at h1
        rw [h1] at h
        cases h
    case assign =>
      intro lp x W K hK
      dsimp only [encF]
      gi_wp2
      simpa [frW2, encF] using hK
    case body =>
      rintro lp pre x W ⟨⟨hv1, hv2⟩, hpre⟩ hb he hlt
      have hln := x.lin
      obtain ⟨j, hj⟩ : ∃ j, j = x.j := ⟨_, rfl⟩
      have HPR := hid (show (j : Int) ≠ z → ∀ y ∈ pre ++ [x], (y.j : Int) ≠ z from fun h y hy => by
        rcases List.mem_append.1 hy with h1 | h1
        · exact hpre y h1
        · have : y = x := by simpa using h1
          rw [this, ← hj]; exact h)
      dsimp only [frW2, encF]
      rw [← hj] at hln
      rw [← hj]
      have HLN := hid hln
      have hjn : j < n := by have := hln.1.2.1; have := HN.out; omega
      have hlc := HO.out.line hln
      have HE14 := hid (show Boxed W wr.heap.size 3 (.int .i64 z) from (hb.block _ (by omega) (by omega)).trans HBE2.out)
      have HSW := hid (show Sht W w1.heap.size lo n c wd fi re ho from (hb.block _ (by omega) (by omega)).trans HS2.out)
      have HCO := hid (fun WW (h : RdB WW lo L) => cost_any lo n c wd fi re ho L first j WW HN.out h HLN.out HO.out)
      obtain ⟨lcv, hlcv⟩ : ∃ z, z = lc ⟨wd, fi, re, ho⟩ L first j := ⟨_, rfl⟩
      rw [← hlcv] at hlc HCO
      have HLC := hid hlcv
      have hc14 := HE14.out.cell
      have hWs := hb.size
      have HV1 := hid hv1
      have HV2 := hid hv2
      have HB := hid hb
      have HEr := hid he.rd
      clear hj hln hpre hlcv hv1 hv2 hb he
      cases hq : ((j : Int) == z) with
      | false =>
        have HPR2 := hid (HPR.out (beq_eq_false_iff_ne.1 hq))
        gi_wp2
        exact ⟨BS.refl _ _, ⟨HV1.out, HV2.out⟩, HPR2.out⟩
      | true =>
        have HJZ := hid (beq_iff_eq.1 hq)
        have e1 : IntKind.i64.wrap (s + lcv) = s + lcv := by rw [IntKind.wrap_i64]; omega
        gi_wp2
        refine wpIn_region_mix lp _ [(0, true), (1, true), (2, true), (3, true), (4, true), (5, false), (6, true), (7, false)] (fun w' => Sht w' w1.heap.size lo n c wd fi re ho ∧ Boxed w' (w1.heap.size + 1) 3 (.int .i64 first) ∧ Boxed w' (w1.heap.size + 1 + 1) 2 (.int .i64 s)) (fun q => q == 7) (by kernel_rfl) (by kernel_rfl) (by kernel_rfl) ?hs rfl (by kernel_rfl) ⟨HSW.out, HV1.out, HV2.out⟩ ?_
        case hs =>
          intro j hj
          have e : j = 7 := by simpa using hj
          subst e
          decide
        iterate 5 (refine mix_free ?_ rfl (by kernel_rfl) (fun w' hS => ?_) ?_; (rotate_left; (obtain ⟨s0, s1, s2, s3, s4⟩ := hS.1.cell; have s5 := hS.2.1.cell; have s6 := hS.2.2.cell; go_simp; with_reducible rfl); rotate_left))
        refine mix_go rfl (by kernel_rfl) fun KK hKK => ?_
        go_simp
        refine (HCO.out _ (show RdB W.drew lo L from HEr.out)).mono ?_
        rintro e W3 ⟨rfl, be3⟩
        have hV1 : Boxed W3 (w1.heap.size + 1) 3 (.int .i64 first) := (be3.block _ HV1.out.lt).trans HV1.out
        have hV2 : Boxed W3 (w1.heap.size + 1 + 1) 2 (.int .i64 s) := (be3.block _ HV2.out.lt).trans HV2.out
        have HB3 := hid (show BS (fun q => q = w1.heap.size + 1 ∨ q = w1.heap.size + 1 + 1) W W3 from (BS.below (Below.refl _ _).drew).trans (BS.below be3))
        refine hKK _ _ (fun _ => ⟨Sht.kept (W := W.drew) HSW.out be3, hV1, hV2⟩) ?_
        clear hKK KK be3
        refine mix_free ?_ rfl (by kernel_rfl) (fun w' hS => ?_) ?_; (rotate_left; (go_simp; with_reducible rfl); rotate_left)
        refine mix_go rfl (by kernel_rfl) fun KK hKK => ?_
        have f2 := hV2.frozen
        have y2 := hV2.cell
        go_simp
        refine hKK _ _ (fun h => by cases h) ?_
        clear hKK KK f2 y2
        refine mix_end (OnlyN.in ?_)
        have HW1 := hid (hV1.other (B' := w1.heap.size + 1 + 1) (by omega) (.int .i64 (s + lcv)))
        have HW2 := hid (hV2.set (.int .i64 (s + lcv)))
        have HB4 := hid (HB3.out.trans (BS.set W3 (w1.heap.size + 1 + 1) (.int .i64 (s + lcv)) (.inr rfl)))
        obtain ⟨W4, hW4⟩ : ∃ W4, W4 = W3.setCell ⟨w1.heap.size + 1 + 1, 0, none⟩ (.int .i64 (s + lcv)) := ⟨_, rfl⟩
        rw [← hW4] at HW1 HW2 HB4
        rw [← hW4]
        clear hW4 hV1 hV2
        have f1 := HW1.out.frozen
        have y1 := HW1.out.cell
        gi_wp2
        refine ⟨HB4.out.trans (BS.set W4 (w1.heap.size + 1) _ (.inl rfl)), ?_⟩
        refine ⟨j, rfl, ⟨HJZ.out.symm, HLN.out⟩, ?_, ?_⟩
        · have := HW1.out.set (.int .i64 ((j : Int) + 1))
          exact this
        · rw [← HLC.out]
          exact HW2.out.other (by omega) _
    case done =>
      intro d W hd hv hb hK
      have HNB := hid (HCM.out.no HZ.out (fun j hjz hl => by
        obtain ⟨x, hx, hxj⟩ := HF.out.all j hl
        exact hv.2 x hx (by rw [hxj, hjz])))
      have hWs := hb.size
      have HLW := hid (show Below w.heap.size w W from (HB1.out.trans (HLOW.out.mono HB1.out.size)).trans ((HB2.out.mono (by have := HB1.out.size; omega)).trans (hb.lower w.heap.size (fun q hq => by have := HB1.out.size; omega) (by have := HB1.out.size; omega))))
      have HMW := hid (show Marks (d :: D) w.heap.size W from by
        have h1 : Marks D w1.heap.size W := (HMK.out.below HB2.out).bs hb (fun q hq => by
          rcases hq with rfl | rfl
          · exact ⟨_, _, HX1.out⟩
          · exact ⟨_, _, HX2.out⟩)
        have h2 : Marks (d :: D) w1.heap.size W := h1.cons hK (by omega) (fun e he => by have := lt_of (HMK.out.at' e he); omega)
        exact ⟨h2.at', fun e he => by have := h2.low e he; have := HB1.out.size; omega, h2.nodup⟩)
      rw [HDD0.out]
      clear hv hb hK hd
      show Exit.inBlock 2 _ Exit.normal { tmps := _, defers := mks (d :: D) } W
      obtain ⟨dd, hdd⟩ : ∃ dd, dd = mks (d :: D) := ⟨_, rfl⟩
      have HDD := hid hdd
      rw [← hdd]
      clear hdd
      gi_wp2
      rw [Exit.noGoto_ret, HDD.out]
      exact leaves_marks 3 w.heap.size (d :: D) W HMW.out (fun w' hs => ⟨_, results_tmp2 rfl _ _ _, ⟨0, false, rfl, ⟨fun h => (by cases h), fun h => absurd h.2 HNB.out⟩, rfl⟩, HLW.out.trans hs.low⟩)
    case stop =>
      rintro d q pre W hd hp ⟨j, rfl, ⟨hjz, hl⟩, hv1, hv2⟩ hb hK
      have hjn : j < n := by have := hl.1.2.1; have := HN.out; omega
      have hWs := hb.size
      have HNX := hid (show CsI w w1 lo n c wd fi re ho L (some b) el ec es m { tmps := #[.slice lo n c, undef, .slice (some b) el ec, undef, undef, undef, .int .i64 0, .bool false, undef, undef, .pointer (some ⟨w1.heap.size, 0, none⟩), .pointer (some ⟨w1.heap.size + 1, 0, none⟩), .pointer (some ⟨w1.heap.size + 1 + 1, 0, none⟩), undef, undef, undef, undef, undef, undef, undef, undef, undef, undef, undef, undef, undef, undef, undef, .slice (some b) el ec, .int .i64 el, .int .i64 ((k + 1 : Nat) : Int), undef, undef, undef, undef, undef, undef, undef, undef, undef, undef, undef, undef, undef, undef, undef, undef, undef, undef, undef, undef, undef, undef, undef, undef, undef, undef], defers := mks (d :: D) } W (k + 1) (j + 1) (s + lc ⟨wd, fi, re, ho⟩ L first j) (d :: D) from by
        refine ⟨rfl, rfl, rfl, rfl, rfl, rfl, rfl, rfl, rfl, rfl, rfl, rfl, by omega, by omega, by omega, HCM.out.step HO.out (by rw [HZ.out, hjz]) hl, hv1, hv2, ?_, ?_⟩
        · exact (HLO.out.trans (HB2.out.mono (by omega))).trans (hb.lower (w1.heap.size + 1) (fun q hq => by omega) (by omega))
        · have h1 : Marks D w1.heap.size W := (HMK.out.below HB2.out).bs hb (fun q hq => by
            rcases hq with rfl | rfl
            · exact ⟨_, _, HX1.out⟩
            · exact ⟨_, _, HX2.out⟩)
          exact h1.cons hK (by omega) (fun e he => by have := lt_of (HMK.out.at' e he); omega))
      rw [HDD0.out]
      clear hv1 hv2 hb hK hd hp hjz hl
      show Code.wpIn Fence.wide 3 Tryd.prog (Code.exit 1) _ { tmps := _, defers := mks (d :: D) } W
      obtain ⟨dd, hdd⟩ : ∃ dd, dd = mks (d :: D) := ⟨_, rfl⟩
      rw [← hdd] at HNX
      rw [← hdd]
      clear hdd
      gi_wp2
      have h := HNX.out
      refine ⟨k + 1, j + 1, s + lc ⟨wd, fi, re, ho⟩ L first j, d :: D, ?_⟩
      exact ⟨rfl, h.df, rfl, rfl, rfl, rfl, rfl, rfl, rfl, rfl, rfl, rfl, h.kle, h.fle, h.lt, h.cm, h.b1, h.b2, h.low, h.mks⟩
  · have hfi : ¬ (k : Int) < (el : Int) := by omega
    have HDR := hid (show es.drop k = [] from List.drop_of_length_le (by have := HEL.out; omega))
    have g1 := HBX1.out.cell
    have g2 := HBX2.out.cell
    have HLW := hid (show Below w.heap.size w wr from HB1.out.trans (HLOW.out.mono HB1.out.size))
    have HMW := hid (show Marks D w.heap.size wr from ⟨HMK.out.at', fun e he => by have := HMK.out.low e he; have := HB1.out.size; omega, HMK.out.nodup⟩)
    by_cases hfn : first < n
    · have hfni : (first : Int) < (n : Int) := by omega
      have HNB := hid (show ¬ Brk ⟨wd, fi, re, ho⟩ L 0 es by
        rw [HCM.out.iff, HDR.out]
        intro h
        have h' : first = L.length := h
        have := HN.out
        omega)
      gi_wp2
      (try rw [Exit.noGoto_ret]); rw [HDD0.out]
      exact leaves_marks 3 w.heap.size D wr HMW.out (fun w' hs => ⟨_, results_tmp2 rfl _ _ _, ⟨0, false, rfl, ⟨fun h => (by cases h), fun h => absurd h.2 HNB.out⟩, rfl⟩, HLW.out.trans hs.low⟩)
    · have hfni : ¬ (first : Int) < (n : Int) := by omega
      have HBK := hid (show Brk ⟨wd, fi, re, ho⟩ L first (es.drop k) by
        rw [HDR.out]
        show first = L.length
        have := HN.out
        omega)
      have HYB := hid (HCM.out.iff.2 HBK.out)
      have HSU := hid (show cst ⟨wd, fi, re, ho⟩ L 0 es = s by
        rw [HCM.out.sum HBK.out, HDR.out]
        simp [cst])
      gi_wp2
      (try rw [Exit.noGoto_ret]); rw [HDD0.out]
      exact leaves_marks 3 w.heap.size D wr HMW.out (fun w' hs => ⟨_, results_tmp2 rfl _ _ _, ⟨s, true, rfl, ⟨fun _ => ⟨HE.out, HYB.out⟩, fun _ => rfl⟩, by rw [if_pos rfl, HSU.out]⟩, HLW.out.trans hs.low⟩)
set_option maxHeartbeats 1000000 in
theorem costs_any (lo : Option Addr) (n c : Nat) (wd fi re ho : Int) (L : List Bx) (eo : Option Addr) (el ec : Nat) (es : List Int) (w : World) (hn : n = L.length) (hr : RdB w lo L) (hel : el = es.length) (hre : RdI w eo es) (hbig : el ≤ 17592186044416) :
    Calls Tryd.prog 10 #[.slice lo n c, .agg #[.int .i64 wd, .int .i64 fi, .int .i64 re, .int .i64 ho], .slice eo el ec] w fun e w' => CsQ w ⟨wd, fi, re, ho⟩ L es e w' := by
  by_cases hok : (chk ⟨wd, fi, re, ho⟩ L).1 = 0
  · exact callsIn_wide.1 (cost_in lo n c wd fi re ho L eo el ec es w hn hr hel hre hbig hok)
  · have HS := hid (Wrs.new w wd fi re ho)
    have HB := hid (below_box (w := w) (o := .cells #[.int .i64 wd, .int .i64 fi, .int .i64 re, .int .i64 ho] 24))
    have HR := hid (hr.below HB.out)
    have HN := hid hn
    have HE := hid hok
    obtain ⟨z, hz⟩ : ∃ z, z = (chk ⟨wd, fi, re, ho⟩ L).1 := ⟨_, rfl⟩
    have b1 : (z != 0) = true := by rw [hz]; exact bne_iff_ne.2 hok
    have HZ := hid hz
    clear hr hn hel hre hok hz
    obtain ⟨c0, c1, c2, c3⟩ := HS.out.cell
    go_enter Tryd.func10, Tryd.ntmps10
    go_wp2_with fail
    refine wp_scope_straight ?_
    go_wp2_with fail
    refine (check_any lo n c wd fi re ho L _ HN.out HR.out).mono ?_
    rintro e w1 ⟨rfl, be1⟩
    rw [← HZ.out]
    have HB1 := hid (HB.out.trans (be1.mono HB.out.size))
    clear be1
    go_wp2
    (try rw [Exit.noGoto_ret])
    go_ret2
    exact ⟨⟨0, false, rfl, ⟨fun h => (by cases h), fun h => absurd h.1 HE.out⟩, rfl⟩, HB1.out⟩
end Go.Proofs.YtkopefljnhgdkaaDoor
