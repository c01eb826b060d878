/- The contract of Cost (package wrap). -/
import Derived.Scope
import Derived.WalkMore
import Derived.Test.YtkopefljnhgdkaaGreatDoorWpLn
import Derived.Test.YtkopefljnhgdkaaGreatDoorMixIn
import Derived.Laws.Rows
import Derived.Deep.AppendSrc
import Derived.Test.YtkopefljnhgdkaaGreatDoorWpOwn
import Derived.Test.YtkopefljnhgdkaaGreatDoorMix3
import Derived.Test.YtkopefljnhgdkaaGreatDoorWrEvJoint
namespace Go.Proofs.YtkopefljnhgdkaaGreatDoor
open Go.RowKit Go.Shelf
attribute [local go_sem] Oper.semAt_some

theorem ofFnC (f : Nat → Value) : Array.ofFn (fun i : Fin 57 => f i) = #[f 0, f 1, f 2, f 3, f 4, f 5, f 6, f 7, f 8, f 9, f 10, f 11, f 12, f 13, f 14, f 15, f 16, f 17, f 18, f 19, f 20, f 21, f 22, f 23, f 24, f 25, f 26, f 27, f 28, f 29, f 30, f 31, f 32, f 33, f 34, f 35, f 36, f 37, f 38, f 39, f 40, f 41, f 42, f 43, f 44, f 45, f 46, f 47, f 48, f 49, f 50, f 51, f 52, f 53, f 54, f 55, f 56] := by kernel_rfl
theorem frameC (a : Act) (D : List Deferred) (hs : a.tmps.size = 57) (hd : a.defers = D) (v0 v2 v6 v7 v10 v11 v12 v28 v29 v30 : Value) (h0 : at_ a 0 = v0) (h2 : at_ a 2 = v2) (h6 : at_ a 6 = v6) (h7 : at_ a 7 = v7) (h10 : at_ a 10 = v10) (h11 : at_ a 11 = v11) (h12 : at_ a 12 = v12) (h28 : at_ a 28 = v28) (h29 : at_ a 29 = v29) (h30 : at_ a 30 = v30) :
    ∃ u : Nat → Value, a = { tmps := #[v0, u 1, v2, u 3, u 4, u 5, v6, v7, u 8, u 9, v10, v11, v12, u 13, u 14, u 15, u 16, u 17, u 18, u 19, u 20, u 21, u 22, u 23, u 24, u 25, u 26, u 27, v28, v29, v30, u 31, u 32, u 33, u 34, u 35, u 36, u 37, u 38, u 39, u 40, u 41, u 42, u 43, u 44, u 45, u 46, u 47, u 48, u 49, u 50, u 51, u 52, u 53, u 54, u 55, u 56], defers := D } := by
  obtain ⟨t, d⟩ := a
  subst hd
  refine ⟨fun i => t.getD i undef, ?_⟩
  simp only [at_] at h0 h2 h6 h7 h10 h11 h12 h28 h29 h30
  subst h0 h2 h6 h7 h10 h11 h12 h28 h29 h30
  exact congrArg (fun t => (Act.mk t d : Act)) ((ofFn_all t hs).trans (ofFnC fun i => t.getD i undef))
/-- What Cost answers. -/
def CsQ (w : World) (W : Wr) (L : List Bx) (es : List Int) (e : Ending) (w' : World) : Prop :=
  (∃ (z : Int) (b : Bool), e = .returned (.tuple #[.int .i64 z, .bool b]) ∧ (b = true ↔ (chk W L).1 = 0 ∧ Brk W L 0 es) ∧ z = if b = true then cst W L 0 es else 0) ∧ Below w.heap.size w w'
/-- What stands between the rounds of Cost: the first k ends are those of lines, up to first. -/
structure CsM (W : Wr) (L : List Bx) (es : List Int) (k first : Nat) (s : Int) : Prop where
  iff : Brk W L 0 es ↔ Brk W L first (es.drop k)
  sum : Brk W L first (es.drop k) → cst W L 0 es = s + cst W L first (es.drop k)
  s0 : 0 ≤ s
  s1 : s ≤ 1000000000000 * (first : Int)
theorem CsM.start (W : Wr) (L : List Bx) (es : List Int) : CsM W L es 0 0 0 := ⟨Iff.rfl, fun _ => by rw [List.drop_zero]; omega, Int.le_refl _, by omega⟩
theorem CsM.step {W : Wr} {L : List Bx} {es : List Int} {k first : Nat} {s : Int} (o : Okb W L) (h : CsM W L es k first s) {j : Nat} (hj : es[k]? = some (j : Int)) (hl : Lin W L first j) : CsM W L es (k + 1) (j + 1) (s + lc W L first j) := by
  obtain ⟨hk, hj⟩ := List.getElem?_eq_some_iff.1 hj
  have hd : es.drop k = (j : Int) :: es.drop (k + 1) := by rw [drop_at hk, hj]
  have hb : Brk W L first (es.drop k) ↔ Brk W L (j + 1) (es.drop (k + 1)) := by
    rw [hd]
    constructor
    · rintro ⟨i, e, _, h2⟩
      have : i = j := by omega
      subst this
      exact h2
    · exact fun h2 => ⟨j, rfl, hl, h2⟩
  have hq := o.line hl
  refine ⟨h.iff.trans hb, fun h2 => ?_, by have := h.s0; omega, by have := h.s1; have := hl.1.1; omega⟩
  have h3 := h.sum (hb.2 h2)
  rw [hd, cst_cons] at h3
  omega
theorem CsM.no {W : Wr} {L : List Bx} {es : List Int} {k first : Nat} {s : Int} (h : CsM W L es k first s) {z : Int} (hz : es[k]? = some z) (hn : ∀ j : Nat, z = (j : Int) → ¬ Lin W L first j) : ¬ Brk W L 0 es := by
  obtain ⟨hk, hz⟩ := List.getElem?_eq_some_iff.1 hz
  rw [h.iff, drop_at hk]
  rintro ⟨j, e, hl, _⟩
  exact hn j (hz ▸ e) hl
structure CsI (w w1 : World) (lo : Option Addr) (n c : Nat) (wd fi re ho : Int) (L : List Bx) (eo : Option Addr) (el ec : Nat) (es : List Int) (m : Nat) (a : Act) (wr : World) (k first : Nat) (s : Int) (D : List Nat) : Prop where
  size : a.tmps.size = 57
  df : a.defers = mks D
  t0 : at_ a 0 = .slice lo n c
  t2 : at_ a 2 = .slice eo el ec
  t6 : at_ a 6 = .int .i64 0
  t7 : at_ a 7 = .bool false
  t10 : at_ a 10 = .pointer (some ⟨w1.heap.size, 0, none⟩)
  t11 : at_ a 11 = .pointer (some ⟨w1.heap.size + 1, 0, none⟩)
  t12 : at_ a 12 = .pointer (some ⟨w1.heap.size + 1 + 1, 0, none⟩)
  t28 : at_ a 28 = .slice eo el ec
  t29 : at_ a 29 = .int .i64 el
  t30 : at_ a 30 = .int .i64 k
  kle : k ≤ el
  fle : first ≤ n
  lt : el - k < m
  cm : CsM ⟨wd, fi, re, ho⟩ L es k first s
  b1 : Boxed wr (w1.heap.size + 1) 3 (.int .i64 first)
  b2 : Boxed wr (w1.heap.size + 1 + 1) 2 (.int .i64 s)
  low : Below (w1.heap.size + 1) (w1.alloc (.cells #[.slice lo n c, .int .i64 wd, .int .i64 fi, .int .i64 re, .int .i64 ho] 56)) wr
  mks : Marks D w1.heap.size wr
set_option maxHeartbeats 4000000 in
theorem cost_in (lo : Option Addr) (n c : Nat) (wd fi re ho : Int) (L : List Bx) (eo : Option Addr) (el ec : Nat) (es : List Int) (w : World) (hn : n = L.length) (hr : RdB w lo L) (hel : el = es.length) (hre : RdI w eo es) (hbig : el ≤ 17592186044416) (hok : (chk ⟨wd, fi, re, ho⟩ L).1 = 0) :
    CallsIn Fence.wide 3 Tryz.prog 11 #[.slice lo n c, .agg #[.int .i64 wd, .int .i64 fi, .int .i64 re, .int .i64 ho], .slice eo el ec] w fun e w' => CsQ w ⟨wd, fi, re, ho⟩ L es e w' := by
  have HS := hid (Wrs.new w wd fi re ho)
  have HB := hid (below_box (w := w) (o := .cells #[.int .i64 wd, .int .i64 fi, .int .i64 re, .int .i64 ho] 24))
  have HR := hid (hr.below HB.out)
  have HRE := hid (hre.below HB.out)
  have HN := hid hn
  have HEL := hid hel
  have HE := hid hok
  have HO := hid (chk_ok hok)
  clear hr hn hel hre hok
  obtain ⟨c0, c1, c2, c3⟩ := HS.out.cell
  refine callsIn_of_wp_marks Tryz.func11 rfl trivial ?_ rfl
  simp only [Tryz.ntmps11, List.size_toArray, List.length_cons, List.length_nil, Nat.reduceAdd, Nat.reduceSub, Array.replicate_succ, Array.replicate_zero, List.push_toArray, List.append_toArray, List.nil_append, List.cons_append]
  gi_wp2_with fail
  refine wpIn_wide.2 (wp_scope_straight ((wpIn_wide (n := 3)).1 ?_))
  gi_wp2_with fail
  refine ⟨trivial, (callsIn_wide.2 (check_any lo n c wd fi re ho L _ HN.out HR.out)).mono ?_⟩
  rintro e w1 ⟨rfl, be1⟩
  rw [HE.out]
  have HS1 := hid (HS.out.kept be1)
  have HB1 := hid (HB.out.trans (be1.mono HB.out.size))
  have HR1 := hid (HR.out.below be1)
  have HRE1 := hid (HRE.out.below be1)
  obtain ⟨d0, d1, d2, d3⟩ := HS1.out.cell
  obtain ⟨wI, hwI⟩ : ∃ wI, wI = ((w1.alloc (.cells #[.slice lo n c, .int .i64 wd, .int .i64 fi, .int .i64 re, .int .i64 ho] 56)).alloc (.cells #[.int .i64 0] 3)).alloc (.cells #[.int .i64 0] 2) := ⟨_, rfl⟩
  clear be1 c0 c1 c2 c3
  gi_wp2
  refine wpIn_wide.2 (wp_label ?_)
  gi_wp2
  rw [← hwI]
  have hsI : wI.heap.size = w1.heap.size + 3 := by rw [hwI]; simp
  have HSI := hid (Sht.new w1 lo n c wd fi re ho)
  have HB1I := hid (show Boxed wI (w1.heap.size + 1) 3 (.int .i64 0) by
    rw [hwI]
    have b := Boxed.new (w1.alloc (.cells #[.slice lo n c, .int .i64 wd, .int .i64 fi, .int .i64 re, .int .i64 ho] 56)) 3 (.int .i64 0)
    rw [World.size_alloc] at b
    exact b.alloc _)
  have HB2I := hid (show Boxed wI (w1.heap.size + 1 + 1) 2 (.int .i64 0) by
    rw [hwI]
    have b := Boxed.new ((w1.alloc (.cells #[.slice lo n c, .int .i64 wd, .int .i64 fi, .int .i64 re, .int .i64 ho] 56)).alloc (.cells #[.int .i64 0] 3)) 2 (.int .i64 0)
    rw [World.size_alloc, World.size_alloc] at b
    exact b)
  have HBI := hid (show Below (w1.heap.size + 1) (w1.alloc (.cells #[.slice lo n c, .int .i64 wd, .int .i64 fi, .int .i64 re, .int .i64 ho] 56)) wI by rw [hwI]; exact ((Below.refl _ _).alloc (by simp) _).alloc (by simp) _)
  clear hwI d0 d1 d2 d3
  refine wpIn_loop_inv (fun m a wr => ∃ k first s D, CsI w w1 lo n c wd fi re ho L eo el ec es m a wr k first s D) (fun a wr ⟨_, _, _, _, h⟩ => by have := h.lt; omega) ?round (el + 1) _ _ ⟨0, 0, 0, [], ⟨rfl, rfl, rfl, rfl, rfl, rfl, rfl, rfl, rfl, rfl, rfl, rfl, Nat.zero_le _, Nat.zero_le _, by omega, CsM.start _ _ _, HB1I.out, HB2I.out, HBI.out, Marks.nil _ _⟩⟩
  clear HB1I HB2I HBI hsI
  rintro m a wr ⟨k, first, s, D, hI⟩
  obtain ⟨hsz, hdf, t0, t2, t6, t7, t10, t11, t12, t28, t29, t30, hkle, hfle, hlt, hcm, hb1, hb2, hlow, hmk⟩ := hI
  obtain ⟨u, rfl⟩ := frameC a _ hsz hdf _ _ _ _ _ _ _ _ _ _ t0 t2 t6 t7 t10 t11 t12 t28 t29 t30
  clear hsz hdf t0 t2 t6 t7 t10 t11 t12 t28 t29 t30
  obtain ⟨dd0, hdd0⟩ : ∃ dd, dd = mks D := ⟨_, rfl⟩
  have HDD0 := hid hdd0
  rw [← hdd0]
  clear hdd0
  have hs0 := hcm.s0
  have hs1 := hcm.s1
  have hn4 : n ≤ 4096 := by have := HO.out.len; have := HN.out; omega
  have HCM := hid hcm
  have HLO := hid hlow
  have HMK := hid hmk
  have hw3 : w1.heap.size + 3 ≤ wr.heap.size := by have := hb2.lt; omega
  have HBX1 := hid hb1
  have HBX2 := hid hb2
  have HSH := hid (show Sht wr w1.heap.size lo n c wd fi re ho from (hlow.block _ (by omega)).trans HSI.out)
  have HLOW := hid (show Below w1.heap.size w1 wr from below_box.trans (hlow.mono (by omega)))
  have HRD := hid (HR1.out.below HLOW.out)
  have HRX := hid (HRE1.out.below HLOW.out)
  clear hcm hlow hmk hb1 hb2
  by_cases hf : k < el
  · have hfi : (k : Int) < (el : Int) := by omega
    have i0 : (0 : Int) ≤ (k : Int) := by omega
    have hkl : k < es.length := by have := HEL.out; omega
    obtain ⟨b, rfl, hbl, e0⟩ := HRX.out k es[k] (List.getElem?_eq_getElem hkl)
    obtain ⟨z, hz⟩ : ∃ z, es[k]? = some z := ⟨_, List.getElem?_eq_getElem hkl⟩
    rw [(List.getElem?_eq_some_iff.1 hz).2] at e0
    have HZ := hid hz
    clear hz hkl
    obtain ⟨F, hF⟩ := ff_all HO.out first
    have HF := hid hF
    clear hF
    have HBE := hid (Boxed.new wr 3 (.int .i64 z))
    have HWE := hid (wfAt_new (wr.alloc (.cells #[.int .i64 z] 3)) lo n c wd fi re ho L first (HRD.out.below below_box))
    obtain ⟨d0, d1, d2, d3, d4⟩ := (HSH.out.kept (below_box (o := .cells #[.int .i64 z] 3))).cell
    have g1 := (HBX1.out.alloc (.cells #[.int .i64 z] 3)).cell
    gi_wp2_with fail
    refine ⟨trivial, (callsIn_wide.2 (fitting_any lo n c wd fi re ho first _)).mono ?_⟩
    rintro e w2 ⟨rfl, hw2⟩
    rw [← hw2] at HWE
    have hsz2 : w2.heap.size = wr.heap.size + 3 := by rw [hw2]; simp
    have HB2 := hid (show Below wr.heap.size wr w2 by rw [hw2]; exact ((below_box.alloc (by simp) _).alloc (by simp; omega) _))
    have HBE2 := hid (show Boxed w2 wr.heap.size 3 (.int .i64 z) by rw [hw2]; exact (HBE.out.alloc _).alloc _)
    rw [World.size_alloc] at HWE
    clear hw2 HBE d0 d1 d2 d3 d4 g1 e0
    have HS2 := hid (HSH.out.kept HB2.out)
    have HX1 := hid (show Boxed w2 (w1.heap.size + 1) 3 (.int .i64 first) from (HB2.out.block _ HBX1.out.lt).trans HBX1.out)
    have HX2 := hid (show Boxed w2 (w1.heap.size + 1 + 1) 2 (.int .i64 s) from (HB2.out.block _ HBX2.out.lt).trans HBX2.out)
    have HLA := hid (show ∀ a, lo = some a → 0 < L.length → a.block < w1.heap.size from fun a ha hl => by
      obtain ⟨a', h1, h2, _⟩ := HR1.out.at hl
      rw [ha] at h1; cases h1; exact h2)
    gi_wp2
    refine rfW2 (wr.heap.size + 1) (wr.heap.size + 1 + 1) (fun q => q = w1.heap.size + 1 ∨ q = w1.heap.size + 1 + 1) F (by omega) rfl HF.out HWE.out HN.out hfle HO.out rfl ?hS
      (fun pre W => (Boxed W (w1.heap.size + 1) 3 (.int .i64 first) ∧ Boxed W (w1.heap.size + 1 + 1) 2 (.int .i64 s)) ∧ ∀ x ∈ pre, (x.j : Int) ≠ z)
      (fun q _ W => ∃ j : Nat, q = .exit 1 ∧ (z = (j : Int) ∧ Lin ⟨wd, fi, re, ho⟩ L first j) ∧ Boxed W (w1.heap.size + 1) 3 (.int .i64 ((j + 1 : Nat) : Int)) ∧ Boxed W (w1.heap.size + 1 + 1) 2 (.int .i64 (s + lc ⟨wd, fi, re, ho⟩ L first j)))
      (OwnFrom.and (OwnFrom.and (Own.from (boxed_own _ _ _) _) (Own.from (boxed_own _ _ _) _)) (fun _ _ _ _ h _ _ => h))
      (fun q x A C row h hg hr => by
        obtain ⟨j, h1, h2, h3, h4⟩ := h
        exact ⟨j, h1, h2, boxed_keep h3 hg hr, boxed_keep h4 hg hr⟩)
      ⟨⟨HX1.out, HX2.out⟩, fun x hx => by cases hx⟩ ?hT
      15 16 ?assign ?body ?done ?stop
    case hS =>
      rintro q hq (h | h | ⟨a, ha, hk, hk2, hl0⟩)
      · omega
      · omega
      · have := HLA.out a ha hl0
        omega
    case hT =>
      rintro pre W hv q hq c fz h
      rcases hq with rfl | rfl
      · have h1 := hv.1.1
        unfold Boxed at h1
        rw [h1] at h
        cases h
      · have h1 := hv.1.2
        unfold Boxed at h1
        rw [h1] at h
        cases h
    case assign =>
      intro lp x W K hK
      dsimp only [encF]
      gi_wp2
      simpa [frW2, encF] using hK
    case body =>
      rintro lp pre x W ⟨⟨hv1, hv2⟩, hpre⟩ hb he hlt
      have hln := x.lin
      obtain ⟨j, hj⟩ : ∃ j, j = x.j := ⟨_, rfl⟩
      have HPR := hid (show (j : Int) ≠ z → ∀ y ∈ pre ++ [x], (y.j : Int) ≠ z from fun h y hy => by
        rcases List.mem_append.1 hy with h1 | h1
        · exact hpre y h1
        · have : y = x := by simpa using h1
          rw [this, ← hj]; exact h)
      dsimp only [frW2, encF]
      rw [← hj] at hln
      rw [← hj]
      have HLN := hid hln
      have hjn : j < n := by have := hln.1.2.1; have := HN.out; omega
      have hlc := HO.out.line hln
      have HE14 := hid (show Boxed W wr.heap.size 3 (.int .i64 z) from (hb.block _ (by omega) (by omega)).trans HBE2.out)
      have HSW := hid (show Sht W w1.heap.size lo n c wd fi re ho from (hb.block _ (by omega) (by omega)).trans HS2.out)
      have HCO := hid (fun WW (h : RdB WW lo L) => cost_any lo n c wd fi re ho L first j WW HN.out h HLN.out HO.out)
      obtain ⟨lcv, hlcv⟩ : ∃ z, z = lc ⟨wd, fi, re, ho⟩ L first j := ⟨_, rfl⟩
      rw [← hlcv] at hlc HCO
      have HLC := hid hlcv
      have hc14 := HE14.out.cell
      have hWs := hb.size
      have HV1 := hid hv1
      have HV2 := hid hv2
      have HB := hid hb
      have HEr := hid he.rd
      clear hj hln hpre hlcv hv1 hv2 hb he
      cases hq : ((j : Int) == z) with
      | false =>
        have HPR2 := hid (HPR.out (beq_eq_false_iff_ne.1 hq))
        gi_wp2
        exact ⟨BS.refl _ _, ⟨HV1.out, HV2.out⟩, HPR2.out⟩
      | true =>
        have HJZ := hid (beq_iff_eq.1 hq)
        have e1 : IntKind.i64.wrap (s + lcv) = s + lcv := by rw [IntKind.wrap_i64]; omega
        gi_wp2
        refine wpIn_region_mix lp _ [(0, true), (1, true), (2, true), (3, true), (4, true), (5, false), (6, true), (7, false)] (fun w' => Sht w' w1.heap.size lo n c wd fi re ho ∧ Boxed w' (w1.heap.size + 1) 3 (.int .i64 first) ∧ Boxed w' (w1.heap.size + 1 + 1) 2 (.int .i64 s)) (fun q => q == 7) (by kernel_rfl) (by kernel_rfl) (by kernel_rfl) ?hs rfl (by kernel_rfl) ⟨HSW.out, HV1.out, HV2.out⟩ ?_
        case hs =>
          intro j hj
          have e : j = 7 := by simpa using hj
          subst e
          decide
        iterate 5 (refine mix_free ?_ rfl (by kernel_rfl) (fun w' hS => ?_) ?_; (rotate_left; (obtain ⟨s0, s1, s2, s3, s4⟩ := hS.1.cell; have s5 := hS.2.1.cell; have s6 := hS.2.2.cell; go_simp; with_reducible rfl); rotate_left))
        refine mix_go rfl (by kernel_rfl) fun KK hKK => ?_
        go_simp
        refine (HCO.out _ (show RdB W.drew lo L from HEr.out)).mono ?_
        rintro e W3 ⟨rfl, be3⟩
        have hV1 : Boxed W3 (w1.heap.size + 1) 3 (.int .i64 first) := (be3.block _ HV1.out.lt).trans HV1.out
        have hV2 : Boxed W3 (w1.heap.size + 1 + 1) 2 (.int .i64 s) := (be3.block _ HV2.out.lt).trans HV2.out
        have HB3 := hid (show BS (fun q => q = w1.heap.size + 1 ∨ q = w1.heap.size + 1 + 1) W W3 from (BS.below (Below.refl _ _).drew).trans (BS.below be3))
        refine hKK _ _ (fun _ => ⟨Sht.kept (W := W.drew) HSW.out be3, hV1, hV2⟩) ?_
        clear hKK KK be3
        refine mix_free ?_ rfl (by kernel_rfl) (fun w' hS => ?_) ?_; (rotate_left; (go_simp; with_reducible rfl); rotate_left)
        refine mix_go rfl (by kernel_rfl) fun KK hKK => ?_
        have f2 := hV2.frozen
        have y2 := hV2.cell
        go_simp
        refine hKK _ _ (fun h => by cases h) ?_
        clear hKK KK f2 y2
        refine mix_end (OnlyN.in ?_)
        have HW1 := hid (hV1.other (B' := w1.heap.size + 1 + 1) (by omega) (.int .i64 (s + lcv)))
        have HW2 := hid (hV2.set (.int .i64 (s + lcv)))
        have HB4 := hid (HB3.out.trans (BS.set W3 (w1.heap.size + 1 + 1) (.int .i64 (s + lcv)) (.inr rfl)))
        obtain ⟨W4, hW4⟩ : ∃ W4, W4 = W3.setCell ⟨w1.heap.size + 1 + 1, 0, none⟩ (.int .i64 (s + lcv)) := ⟨_, rfl⟩
        rw [← hW4] at HW1 HW2 HB4
        rw [← hW4]
        clear hW4 hV1 hV2
        have f1 := HW1.out.frozen
        have y1 := HW1.out.cell
        gi_wp2
        refine ⟨HB4.out.trans (BS.set W4 (w1.heap.size + 1) _ (.inl rfl)), ?_⟩
        refine ⟨j, rfl, ⟨HJZ.out.symm, HLN.out⟩, ?_, ?_⟩
        · have := HW1.out.set (.int .i64 ((j : Int) + 1))
          exact this
        · rw [← HLC.out]
          exact HW2.out.other (by omega) _
    case done =>
      intro d W hd hv hb hK
      have HNB := hid (HCM.out.no HZ.out (fun j hjz hl => by
        obtain ⟨x, hx, hxj⟩ := HF.out.all j hl
        exact hv.2 x hx (by rw [hxj, hjz])))
      have hWs := hb.size
      have HLW := hid (show Below w.heap.size w W from (HB1.out.trans (HLOW.out.mono HB1.out.size)).trans ((HB2.out.mono (by have := HB1.out.size; omega)).trans (hb.lower w.heap.size (fun q hq => by have := HB1.out.size; omega) (by have := HB1.out.size; omega))))
      have HMW := hid (show Marks (d :: D) w.heap.size W from by
        have h1 : Marks D w1.heap.size W := (HMK.out.below HB2.out).bs hb (fun q hq => by
          rcases hq with rfl | rfl
          · exact ⟨_, _, HX1.out⟩
          · exact ⟨_, _, HX2.out⟩)
        have h2 : Marks (d :: D) w1.heap.size W := h1.cons hK (by omega) (fun e he => by have := lt_of (HMK.out.at' e he); omega)
        exact ⟨h2.at', fun e he => by have := h2.low e he; have := HB1.out.size; omega, h2.nodup⟩)
      rw [HDD0.out]
      clear hv hb hK hd
      show Exit.inBlock 2 _ Exit.normal { tmps := _, defers := mks (d :: D) } W
      obtain ⟨dd, hdd⟩ : ∃ dd, dd = mks (d :: D) := ⟨_, rfl⟩
      have HDD := hid hdd
      rw [← hdd]
      clear hdd
      gi_wp2
      rw [Exit.noGoto_ret, HDD.out]
      exact leaves_marks 3 w.heap.size (d :: D) W HMW.out (fun w' hs => ⟨_, results_tmp2 rfl _ _ _, ⟨0, false, rfl, ⟨fun h => (by cases h), fun h => absurd h.2 HNB.out⟩, rfl⟩, HLW.out.trans hs.low⟩)
    case stop =>
      rintro d q pre W hd hp ⟨j, rfl, ⟨hjz, hl⟩, hv1, hv2⟩ hb hK
      have hjn : j < n := by have := hl.1.2.1; have := HN.out; omega
      have hWs := hb.size
      have HNX := hid (show CsI w w1 lo n c wd fi re ho L (some b) el ec es m { tmps := #[.slice lo n c, undef, .slice (some b) el ec, undef, undef, undef, .int .i64 0, .bool false, undef, undef, .pointer (some ⟨w1.heap.size, 0, none⟩), .pointer (some ⟨w1.heap.size + 1, 0, none⟩), .pointer (some ⟨w1.heap.size + 1 + 1, 0, none⟩), undef, undef, undef, undef, undef, undef, undef, undef, undef, undef, undef, undef, undef, undef, undef, .slice (some b) el ec, .int .i64 el, .int .i64 ((k + 1 : Nat) : Int), undef, undef, undef, undef, undef, undef, undef, undef, undef, undef, undef, undef, undef, undef, undef, undef, undef, undef, undef, undef, undef, undef, undef, undef, undef, undef], defers := mks (d :: D) } W (k + 1) (j + 1) (s + lc ⟨wd, fi, re, ho⟩ L first j) (d :: D) from by
        refine ⟨rfl, rfl, rfl, rfl, rfl, rfl, rfl, rfl, rfl, rfl, rfl, rfl, by omega, by omega, by omega, HCM.out.step HO.out (by rw [HZ.out, hjz]) hl, hv1, hv2, ?_, ?_⟩
        · exact (HLO.out.trans (HB2.out.mono (by omega))).trans (hb.lower (w1.heap.size + 1) (fun q hq => by omega) (by omega))
        · have h1 : Marks D w1.heap.size W := (HMK.out.below HB2.out).bs hb (fun q hq => by
            rcases hq with rfl | rfl
            · exact ⟨_, _, HX1.out⟩
            · exact ⟨_, _, HX2.out⟩)
          exact h1.cons hK (by omega) (fun e he => by have := lt_of (HMK.out.at' e he); omega))
      rw [HDD0.out]
      clear hv1 hv2 hb hK hd hp hjz hl
      show Code.wpIn Fence.wide 3 Tryz.prog (Code.exit 1) _ { tmps := _, defers := mks (d :: D) } W
      obtain ⟨dd, hdd⟩ : ∃ dd, dd = mks (d :: D) := ⟨_, rfl⟩
      rw [← hdd] at HNX
      rw [← hdd]
      clear hdd
      gi_wp2
      have h := HNX.out
      refine ⟨k + 1, j + 1, s + lc ⟨wd, fi, re, ho⟩ L first j, d :: D, ?_⟩
      exact ⟨rfl, h.df, rfl, rfl, rfl, rfl, rfl, rfl, rfl, rfl, rfl, rfl, h.kle, h.fle, h.lt, h.cm, h.b1, h.b2, h.low, h.mks⟩
  · have hfi : ¬ (k : Int) < (el : Int) := by omega
    have HDR := hid (show es.drop k = [] from List.drop_of_length_le (by have := HEL.out; omega))
    have g1 := HBX1.out.cell
    have g2 := HBX2.out.cell
    have HLW := hid (show Below w.heap.size w wr from HB1.out.trans (HLOW.out.mono HB1.out.size))
    have HMW := hid (show Marks D w.heap.size wr from ⟨HMK.out.at', fun e he => by have := HMK.out.low e he; have := HB1.out.size; omega, HMK.out.nodup⟩)
    by_cases hfn : first < n
    · have hfni : (first : Int) < (n : Int) := by omega
      have HNB := hid (show ¬ Brk ⟨wd, fi, re, ho⟩ L 0 es by
        rw [HCM.out.iff, HDR.out]
        intro h
        have h' : first = L.length := h
        have := HN.out
        omega)
      gi_wp2
      (try rw [Exit.noGoto_ret]); rw [HDD0.out]
      exact leaves_marks 3 w.heap.size D wr HMW.out (fun w' hs => ⟨_, results_tmp2 rfl _ _ _, ⟨0, false, rfl, ⟨fun h => (by cases h), fun h => absurd h.2 HNB.out⟩, rfl⟩, HLW.out.trans hs.low⟩)
    · have hfni : ¬ (first : Int) < (n : Int) := by omega
      have HBK := hid (show Brk ⟨wd, fi, re, ho⟩ L first (es.drop k) by
        rw [HDR.out]
        show first = L.length
        have := HN.out
        omega)
      have HYB := hid (HCM.out.iff.2 HBK.out)
      have HSU := hid (show cst ⟨wd, fi, re, ho⟩ L 0 es = s by
        rw [HCM.out.sum HBK.out, HDR.out]
        simp [cst])
      gi_wp2
      (try rw [Exit.noGoto_ret]); rw [HDD0.out]
      exact leaves_marks 3 w.heap.size D wr HMW.out (fun w' hs => ⟨_, results_tmp2 rfl _ _ _, ⟨s, true, rfl, ⟨fun _ => ⟨HE.out, HYB.out⟩, fun _ => rfl⟩, by rw [if_pos rfl, HSU.out]⟩, HLW.out.trans hs.low⟩)
set_option maxHeartbeats 1000000 in
theorem costs_any (lo : Option Addr) (n c : Nat) (wd fi re ho : Int) (L : List Bx) (eo : Option Addr) (el ec : Nat) (es : List Int) (w : World) (hn : n = L.length) (hr : RdB w lo L) (hel : el = es.length) (hre : RdI w eo es) (hbig : el ≤ 17592186044416) :
    Calls Tryz.prog 11 #[.slice lo n c, .agg #[.int .i64 wd, .int .i64 fi, .int .i64 re, .int .i64 ho], .slice eo el ec] w fun e w' => CsQ w ⟨wd, fi, re, ho⟩ L es e w' := by
  by_cases hok : (chk ⟨wd, fi, re, ho⟩ L).1 = 0
  · exact callsIn_wide.1 (cost_in lo n c wd fi re ho L eo el ec es w hn hr hel hre hbig hok)
  · have HS := hid (Wrs.new w wd fi re ho)
    have HB := hid (below_box (w := w) (o := .cells #[.int .i64 wd, .int .i64 fi, .int .i64 re, .int .i64 ho] 24))
    have HR := hid (hr.below HB.out)
    have HN := hid hn
    have HE := hid hok
    obtain ⟨z, hz⟩ : ∃ z, z = (chk ⟨wd, fi, re, ho⟩ L).1 := ⟨_, rfl⟩
    have b1 : (z != 0) = true := by rw [hz]; exact bne_iff_ne.2 hok
    have HZ := hid hz
    clear hr hn hel hre hok hz
    obtain ⟨c0, c1, c2, c3⟩ := HS.out.cell
    go_enter Tryz.func11, Tryz.ntmps11
    go_wp2_with fail
    refine wp_scope_straight ?_
    go_wp2_with fail
    refine (check_any lo n c wd fi re ho L _ HN.out HR.out).mono ?_
    rintro e w1 ⟨rfl, be1⟩
    rw [← HZ.out]
    have HB1 := hid (HB.out.trans (be1.mono HB.out.size))
    clear be1
    go_wp2
    (try rw [Exit.noGoto_ret])
    go_ret2
    exact ⟨⟨0, false, rfl, ⟨fun h => (by cases h), fun h => absurd h.1 HE.out⟩, rfl⟩, HB1.out⟩
end Go.Proofs.YtkopefljnhgdkaaGreatDoor
/- Lists of numbers that are copied into rows of their own. -/
namespace Go.Proofs.YtkopefljnhgdkaaGreatDoor
open Go.RowKit

/-- append of a list onto an empty row. -/
theorem run_copy {B H : Nat} {w : World} (hown : w.ownsRow B 3 1 (.slice (some ⟨H, 0, none⟩) 0 0) 0 []) (ty : TypeId) {fo : Option Addr} {fn fc : Nat} {F : List Int} (hF : RdI w fo F) (hfn : fn = F.length) (hl : fn ≤ 1000000) (hB : B ≤ w.heap.size) :
    ∃ g cap w', (Builtin.append_ #[33, 33] ty #[.slice (some ⟨H, 0, none⟩) 0 0, .slice fo fn fc]).run Tryz.prog w = .ok (.slice (some ⟨g, 0, none⟩) fn cap) w' ∧ w'.ownsRow B 3 1 (.slice (some ⟨g, 0, none⟩) fn cap) fn (i64s F) ∧ w.grownBy w' (some H) ∧ (g = H ∨ g = w.heap.size) ∧ g < w'.heap.size := by
  obtain ⟨i, hi, hz, hsize, hby⟩ := info_parts Tryz.info3
  by_cases h0 : fn = 0
  · subst h0
    have hF0 : F = [] := List.eq_nil_of_length_eq_zero hfn.symm
    subst hF0
    have hs : Src Tryz.prog i.size 33 (.slice fo 0 fc) 0 [] w := by
      cases fo with
      | none => exact Src.ofNil w Tryz.underlying33 fc
      | some a => exact Src.ofSlice w Tryz.underlying33 a 0 fc [] (by simp) (fun j u hj => by simp at hj) (fun u hu => by simp at hu)
    have hr : (Builtin.append_ #[33, 33] ty #[.slice (some ⟨H, 0, none⟩) 0 0, .slice fo 0 fc]).run Tryz.prog w = .ok (.slice (some ⟨H, 0, none⟩) 0 0) w := by
      simp [Builtin.append_, run_underlying Tryz.underlying33, sizeOf, typeInfo, hi, hs.len, hs.cells, storeCells]
    exact ⟨H, 0, w, hr, hown, ⟨rfl, rfl, rfl, Nat.le_refl _, fun _ _ _ => rfl⟩, .inl rfl, (hown.lt H rfl).2⟩
  · obtain ⟨a, rfl, _, _⟩ := hF 0 F[0] (List.getElem?_eq_getElem (by omega))
    obtain ⟨g, cap, w', hr, h2, h3, h4, h5⟩ := run_append_lies (P := Tryz.prog) w 33 ty B 3 i (.int .i64 0) 1 8 Tryz.underlying33 hi hz hsize hby rfl (by decide) (.slice (some ⟨H, 0, none⟩) 0 0) 0 [] hown a fn fc (i64s F) (by rw [i64s_len, hfn, Nat.mul_one]) (fun j u hj => by
      rw [i64s_at] at hj
      obtain ⟨z, hz1, hz2⟩ := Option.map_eq_some_iff.1 hj
      obtain ⟨a', e, _, h⟩ := hF j z hz1
      cases e
      rw [h, hz2]) (i64s_one F) (by omega) (by unfold maxLen; omega) (by omega) hB w.heap.size rfl
    refine ⟨g, cap, w', by simpa using hr, by simpa using h2, h3, ?_, h5⟩
    rcases h4 with h | h
    · exact .inl (Option.some.inj h).symm
    · exact .inr h
theorem wp_copy {w : World} {o : Oper} {a : Act} {K : Act → World → Prop} {Q : Exit → Act → World → Prop} (s x : Operand) (ho : o.op = .call { callee := .builtin .append, args := #[s, x], argTypes := #[33, 33] }) (B H : Nat) (hs : a.eval s = .slice (some ⟨H, 0, none⟩) 0 0) (hown : w.ownsRow B 3 1 (.slice (some ⟨H, 0, none⟩) 0 0) 0 []) (fo : Option Addr) (fn fc : Nat) (F : List Int) (hx : a.eval x = .slice fo fn fc) (hF : RdI w fo F) (hfn : fn = F.length) (hl : fn ≤ 1000000) (hB : B ≤ w.heap.size)
    (h : ∀ g cap w', w'.ownsRow B 3 1 (.slice (some ⟨g, 0, none⟩) fn cap) fn (i64s F) → w.grownBy w' (some H) → (g = H ∨ g = w.heap.size) → g < w'.heap.size → K (a.put o.dst (.slice (some ⟨g, 0, none⟩) fn cap)) w') : o.wp Tryz.prog a w K Q := by
  obtain ⟨g, cap, w', hr, h2, h3, h4, h5⟩ := run_copy hown o.type (fc := fc) hF hfn hl hB
  unfold Oper.wp execOp
  simp only [ho, resolve, invoke, builtin, Sem.run_bind, Sem.run_pure, Result.andThen_ok, List.map_toArray, List.map_cons, List.map_nil, hs, hx, hr]
  exact h g cap w' h2 h3 h4 h5
theorem wpList_copy {w : World} {ops : Array Oper} {rest : List Oper} {o : Oper} {a : Act} {Q : Exit → Act → World → Prop} (hgd : o.guard = none) (s x : Operand) (ho : o.op = .call { callee := .builtin .append, args := #[s, x], argTypes := #[33, 33] }) (B H : Nat) (hs : a.eval s = .slice (some ⟨H, 0, none⟩) 0 0) (hown : w.ownsRow B 3 1 (.slice (some ⟨H, 0, none⟩) 0 0) 0 []) (fo : Option Addr) (fn fc : Nat) (F : List Int) (hx : a.eval x = .slice fo fn fc) (hF : RdI w fo F) (hfn : fn = F.length) (hl : fn ≤ 1000000) (hB : B ≤ w.heap.size)
    (h : ∀ g cap w', w'.ownsRow B 3 1 (.slice (some ⟨g, 0, none⟩) fn cap) fn (i64s F) → w.grownBy w' (some H) → (g = H ∨ g = w.heap.size) → g < w'.heap.size → wpList Tryz.prog ops Q rest (a.put o.dst (.slice (some ⟨g, 0, none⟩) fn cap)) w') : wpList Tryz.prog ops Q (o :: rest) a w :=
  wpList_plain hgd fun _ hK => wp_copy s x ho B H hs hown fo fn fc F hx hF hfn hl hB fun g cap w' h2 h3 h4 h5 => hK _ _ (h g cap w' h2 h3 h4 h5)
end Go.Proofs.YtkopefljnhgdkaaGreatDoor
/- The contract of Cost of the document's side (kerfref16), and of two boxes' lists that are the same. -/
namespace Go.Proofs.YtkopefljnhgdkaaGreatDoor
open Go.RowKit Go.Shelf

set_option maxRecDepth 100000 in
set_option maxHeartbeats 4000000 in
theorem rcosts_any (lo : Option Addr) (n c : Nat) (wd fi re ho : Int) (L : List Bx) (eo : Option Addr) (el ec : Nat) (es : List Int) (w : World) (hn : n = L.length) (hr : RdB w lo L) (hel : el = es.length) (hre : RdI w eo es) (hbig : el ≤ 17592186044416) :
    Calls Tryz.prog 12 #[.slice lo n c, .agg #[.int .i64 wd, .int .i64 fi, .int .i64 re, .int .i64 ho], .slice eo el ec] w fun e w' => CsQ w ⟨wd, fi, re, ho⟩ L es e w' := by
  have HS := hid (Wrs.new w wd fi re ho)
  have HB := hid (below_box (w := w) (o := .cells #[.int .i64 wd, .int .i64 fi, .int .i64 re, .int .i64 ho] 24))
  have HR0 := hid hr
  have HRE0 := hid hre
  have HN := hid hn
  have HEL := hid hel
  obtain ⟨c0, c1, c2, c3⟩ := HS.out.cell
  clear hr hn hel hre
  by_cases hok : (chk ⟨wd, fi, re, ho⟩ L).1 = 0
  · have HE := hid hok
    have HO := hid (chk_ok hok)
    have hlen : n ≤ 4096 := by have := HO.out.len; have := HN.out; omega
    clear hok
    go_enter Tryz.func12, Tryz.ntmps12
    go_wp2_with fail
    refine (rcheck_any lo n c wd fi re ho L _ HN.out (HR0.out.below HB.out)).mono ?_
    rintro e w1 ⟨rfl, be1⟩
    rw [HE.out]
    have HB1 := hid (show Below (w.heap.size + 1) (w.alloc (.cells #[.int .i64 wd, .int .i64 fi, .int .i64 re, .int .i64 ho] 24)) w1 from be1.mono (by simp))
    clear be1 c0 c1 c2 c3
    go_wp2
    go_loopw [10, 11, 12] (fun v10 v11 v12 wr => ∃ (k first : Nat) (s : Int), v10 = .int .i64 s ∧ v11 = .int .i64 first ∧ v12 = .int .i64 k ∧ (k ≤ el ∧ first ≤ n) ∧ (0 ≤ s ∧ s ≤ 1000000000000 * (first : Int)) ∧ Hid (CsM ⟨wd, fi, re, ho⟩ L es k first s) ∧ Hid (Below (w.heap.size + 1) (w.alloc (.cells #[.int .i64 wd, .int .i64 fi, .int .i64 re, .int .i64 ho] 24)) wr)) (fun _ _ v12 _ => el - (intOf v12).toNat)
    case atStart => exact ⟨0, 0, 0, rfl, rfl, rfl, ⟨Nat.zero_le _, Nat.zero_le _⟩, ⟨Int.le_refl _, by omega⟩, CsM.start _ _ _, HB1⟩
    case round =>
      obtain ⟨k, first, s, rfl, rfl, rfl, ⟨hk, hfn⟩, ⟨hs0, hs1⟩, HCM, HBr⟩ := hrel
      have HBW := hid (box_trans HBr.out)
      have hws : w.heap.size + 1 ≤ wr.heap.size := by have := HBr.out.size; simpa using this
      have HWR := hid (show Wrs wr w.heap.size wd fi re ho from (HBr.out.block _ (by omega)).trans HS.out)
      by_cases hlt : k < el
      · have hlti : (k : Int) < (el : Int) := by omega
        have i0 : (0 : Int) ≤ (k : Int) := by omega
        have hkl : k < es.length := by have := HEL.out; omega
        obtain ⟨b, rfl, hbl, e0⟩ := HRE0.out.below HBW.out k es[k] (List.getElem?_eq_getElem hkl)
        obtain ⟨z, hz⟩ : ∃ z, es[k]? = some z := ⟨_, List.getElem?_eq_getElem hkl⟩
        rw [(List.getElem?_eq_some_iff.1 hz).2] at e0
        have HZ := hid hz
        clear hz hkl hbl
        have HNO := hid (show (∀ j : Nat, z = (j : Int) → ¬ Lin ⟨wd, fi, re, ho⟩ L first j) → ¬ Brk ⟨wd, fi, re, ho⟩ L 0 es from fun h => HCM.out.no HZ.out h)
        by_cases q1 : z < (first : Int)
        · have HF := hid (HNO.out (fun j hj hl => by have := hl.1.1; omega))
          go_wp2
          go_ret2
          exact ⟨⟨0, false, rfl, ⟨fun h => (by cases h), fun h => absurd h.2 HF.out⟩, rfl⟩, HBW.out⟩
        by_cases q2 : (n : Int) ≤ z
        · have HF := hid (HNO.out (fun j hj hl => by have := hl.1.2.1; have := HN.out; omega))
          go_wp2
          go_ret2
          exact ⟨⟨0, false, rfl, ⟨fun h => (by cases h), fun h => absurd h.2 HF.out⟩, rfl⟩, HBW.out⟩
        obtain ⟨j, rfl⟩ : ∃ j : Nat, z = (j : Int) := ⟨z.toNat, by omega⟩
        have hfj : first ≤ j := by omega
        have hjn : j < n := by omega
        obtain ⟨d0, d1, d2, d3⟩ := HWR.out.cell
        go_wp2_with fail
        refine (rlast_any lo n c L first wr HN.out (HR0.out.below HBW.out) (by omega) hlen).mono ?_
        rintro e w2 ⟨⟨q, rfl, hq⟩, hw2⟩
        obtain rfl := hw2.symm
        clear hw2
        by_cases q3 : q < j
        · have q3i : (q : Int) < (j : Int) := by omega
          have HF := hid (HNO.out (fun j' hj' hl => by have := (hq.par.1 hl.1).2; omega))
          clear hq
          go_wp2
          go_ret2
          exact ⟨⟨0, false, rfl, ⟨fun h => (by cases h), fun h => absurd h.2 HF.out⟩, rfl⟩, HBW.out⟩
        have q3i : ¬ (q : Int) < (j : Int) := by omega
        have HPJ := hid (hq.par.2 ⟨hfj, by omega⟩)
        clear hq
        go_wp2_with fail
        refine (rfits_any lo n c wd fi re ho L first j wr HN.out (HR0.out.below HBW.out) HPJ.out HO.out).mono ?_
        rintro e w3 ⟨⟨bb, rfl, hbb⟩, be3⟩
        have HB3 := hid (HBr.out.trans (be3.mono hws))
        have HBW3 := hid (box_trans HB3.out)
        have HBB := hid hbb
        obtain ⟨k0, k1, k2, k3⟩ := (HWR.out.kept be3).cell
        clear hbb be3 d0 d1 d2 d3
        cases bb with
        | false =>
          have HF := hid (HNO.out (fun j' hj' hl => by
            have : j' = j := by omega
            subst this
            have := HBB.out.2 hl
            cases this))
          clear HBB
          go_wp2
          go_ret2
          exact ⟨⟨0, false, rfl, ⟨fun h => (by cases h), fun h => absurd h.2 HF.out⟩, rfl⟩, HBW3.out⟩
        | true =>
          have HLN := hid (HBB.out.1 rfl)
          have hlc := HO.out.line HLN.out
          have HST := hid (HCM.out.step HO.out HZ.out HLN.out)
          have HCO := hid (rcost_any lo n c wd fi re ho L first j w3 HN.out (HR0.out.below HBW3.out) HLN.out HO.out)
          have hst1 := HST.out.s1
          have hst0 := HST.out.s0
          obtain ⟨lcv, hlcv⟩ : ∃ z, z = lc ⟨wd, fi, re, ho⟩ L first j := ⟨_, rfl⟩
          rw [← hlcv] at HST HCO hlc hst1 hst0
          clear HBB hlcv
          go_wp2_with fail
          refine HCO.out.mono ?_
          rintro e w4 ⟨rfl, be4⟩
          have HB4 := hid (HB3.out.trans (be4.mono (by have := HB3.out.size; simpa using this)))
          clear be4 k0 k1 k2 k3
          go_wp2
          go_roundw
          case rel => exact ⟨k + 1, j + 1, s + lcv, rfl, by go_num, by go_num, ⟨by omega, by omega⟩, ⟨hst0, hst1⟩, HST, HB4⟩
          case measure => simp [intOf]; omega
      · have hlti : ¬ (k : Int) < (el : Int) := by omega
        have HDR := hid (show es.drop k = [] from List.drop_of_length_le (by have := HEL.out; omega))
        by_cases hq : first = n
        · have b1 : ((first : Int) != (n : Int)) = false := bne_eq_false_iff_eq.2 (by omega)
          have HBK := hid (show Brk ⟨wd, fi, re, ho⟩ L first (es.drop k) by
            rw [HDR.out]
            show first = L.length
            have := HN.out
            omega)
          have HYB := hid (HCM.out.iff.2 HBK.out)
          have HSU := hid (show cst ⟨wd, fi, re, ho⟩ L 0 es = s by
            rw [HCM.out.sum HBK.out, HDR.out]
            simp [cst])
          clear hq
          go_wp2
          go_ret2
          exact ⟨⟨s, true, rfl, ⟨fun _ => ⟨HE.out, HYB.out⟩, fun _ => rfl⟩, by rw [if_pos rfl, HSU.out]⟩, HBW.out⟩
        · have b1 : ((first : Int) != (n : Int)) = true := bne_iff_ne.2 (by omega)
          have HNB := hid (show ¬ Brk ⟨wd, fi, re, ho⟩ L 0 es by
            rw [HCM.out.iff, HDR.out]
            intro h
            have h' : first = L.length := h
            have := HN.out
            omega)
          clear hq
          go_wp2
          go_ret2
          exact ⟨⟨0, false, rfl, ⟨fun h => (by cases h), fun h => absurd h.2 HNB.out⟩, rfl⟩, HBW.out⟩
  · have HE := hid hok
    obtain ⟨z, hz⟩ : ∃ z, z = (chk ⟨wd, fi, re, ho⟩ L).1 := ⟨_, rfl⟩
    have b1 : (z != 0) = true := by rw [hz]; exact bne_iff_ne.2 hok
    have HZ := hid hz
    clear hok hz
    go_enter Tryz.func12, Tryz.ntmps12
    go_wp2_with fail
    refine (rcheck_any lo n c wd fi re ho L _ HN.out (HR0.out.below HB.out)).mono ?_
    rintro e w1 ⟨rfl, be1⟩
    rw [← HZ.out]
    have HB1 := hid (HB.out.trans (be1.mono HB.out.size))
    clear be1 c0 c1 c2 c3
    go_wp2
    go_ret2
    exact ⟨⟨0, false, rfl, ⟨fun h => (by cases h), fun h => absurd h.1 HE.out⟩, rfl⟩, HB1.out⟩
end Go.Proofs.YtkopefljnhgdkaaGreatDoor
/- Boxes that are copied, and two lists of boxes that are the same. -/
namespace Go.Proofs.YtkopefljnhgdkaaGreatDoor
open Go.RowKit Go.Shelf

/-- The cells of boxes. -/
def bxc (x : Bx) : List Value := [.int .i64 x.w, .int .i64 x.b, .int .i64 x.h, .bool x.m]
def bxs (L : List Bx) : List Value := L.flatMap bxc
theorem bxs_len : ∀ L : List Bx, (bxs L).length = L.length * 4
  | [] => rfl
  | x :: L => by
    have := bxs_len L
    simp only [bxs, List.flatMap_cons, List.length_append, List.length_cons] at this ⊢
    rw [this]
    simp [bxc]
    omega
theorem bxs_at : ∀ (L : List Bx) (k : Nat) (x : Bx), L[k]? = some x → (bxs L)[k * 4]? = some (.int .i64 x.w) ∧ (bxs L)[k * 4 + 1]? = some (.int .i64 x.b) ∧ (bxs L)[k * 4 + 2]? = some (.int .i64 x.h) ∧ (bxs L)[k * 4 + 3]? = some (.bool x.m)
  | [], k, x, h => by cases h
  | y :: L, 0, x, h => by
    cases h
    exact ⟨rfl, rfl, rfl, rfl⟩
  | y :: L, k + 1, x, h => by
    have ih := bxs_at L k x h
    have e : ∀ j, (bxs (y :: L))[(k + 1) * 4 + j]? = (bxs L)[k * 4 + j]? := fun j => by
      show (bxc y ++ bxs L)[(k + 1) * 4 + j]? = _
      rw [List.getElem?_append_right (by simp [bxc]; omega)]
      congr 1
      simp [bxc]
      omega
    have e0 := e 0
    rw [Nat.add_zero, Nat.add_zero] at e0
    rw [e0, e 1, e 2, e 3]
    exact ih
theorem bxs_one (L : List Bx) : ∀ u ∈ bxs L, u.oneCell' = true := fun u hu => by
  obtain ⟨x, _, hx⟩ := List.mem_flatMap.1 hu
  simp only [bxc, List.mem_cons, List.mem_nil_iff, or_false] at hx
  rcases hx with rfl | rfl | rfl | rfl <;> rfl
theorem add_one4' (a : Addr) (k : Nat) : a.add (k + 1) = ⟨(a.add k).block, (a.add k).off + 1, none⟩ := by
  unfold Addr.add
  rw [if_neg (by omega)]
  split
  · rename_i h; subst h; rfl
  · rfl
theorem add_off' (a : Addr) (k : Nat) : (a.add (k + 1) = ⟨(a.add k).block, (a.add k).off + 1, none⟩) ∧ (a.add (k + 2) = ⟨(a.add k).block, (a.add k).off + 2, none⟩) ∧ (a.add (k + 3) = ⟨(a.add k).block, (a.add k).off + 3, none⟩) := by
  refine ⟨add_one4' a k, ?_, ?_⟩
  · rw [show k + 2 = k + 1 + 1 by omega, add_one4', add_one4']
  · rw [show k + 3 = k + 1 + 1 + 1 by omega, add_one4', add_one4', add_one4']
/-- A row of one's own, read as boxes. -/
theorem rdb_own {B m vc : Nat} {w : World} {vo : Option Addr} {L : List Bx} (h : w.ownsRow B 53 4 (.slice vo m vc) m (bxs L)) (hm : m = L.length) : RdB w vo L := fun k x hk => by
  have hkl := (List.getElem?_eq_some_iff.1 hk).1
  have hkm : k + 1 ≤ m := by rw [hm]; exact hkl
  clear hm
  rcases h.2 with ⟨_, h0⟩ | ⟨g, cap, cur, hv, hb, hg, h1, h2, h3, h4⟩
  · omega
  · simp only [Value.slice.injEq, true_and] at hv
    obtain ⟨rfl, rfl⟩ := hv
    obtain ⟨a0, a1, a2, a3⟩ := bxs_at L k x hk
    have hc : ∀ j, j < m * 4 → ∀ v, (bxs L)[j]? = some v → w.cell? ⟨g, j, none⟩ = some v := fun j hj v hv => by
      rw [cell_of_row w g j cur _ _ hg]
      rw [← h4, List.getElem?_take, if_pos hj, Array.getElem?_toList] at hv
      exact hv
    refine ⟨_, rfl, (Array.getElem?_eq_some_iff.1 hg).1, ?_, ?_, ?_, ?_⟩
    · rw [Addr.add_lit, Nat.zero_add]; exact hc (k * 4) (by omega) _ a0
    · rw [Addr.add_lit, Nat.zero_add]; exact hc (k * 4 + 1) (by omega) _ a1
    · rw [Addr.add_lit, Nat.zero_add]; exact hc (k * 4 + 2) (by omega) _ a2
    · rw [Addr.add_lit, Nat.zero_add]; exact hc (k * 4 + 3) (by omega) _ a3
theorem Tryz.infoBox : (Tryz.prog.info? 53).map (fun i => (i.zero, i.size, i.bytes)) = some (some (.agg #[.int .i64 0, .int .i64 0, .int .i64 0, .bool false]), 4, 32) := by kernel_rfl
/-- append of boxes onto an empty row. -/
theorem run_copyB {B H : Nat} {w : World} (hown : w.ownsRow B 53 4 (.slice (some ⟨H, 0, none⟩) 0 0) 0 []) (ty : TypeId) {fo : Option Addr} {fn fc : Nat} {L : List Bx} (hF : RdB w fo L) (hfn : fn = L.length) (hl : fn ≤ 1000000) (hB : B ≤ w.heap.size) :
    ∃ g cap w', (Builtin.append_ #[22, 22] ty #[.slice (some ⟨H, 0, none⟩) 0 0, .slice fo fn fc]).run Tryz.prog w = .ok (.slice (some ⟨g, 0, none⟩) fn cap) w' ∧ w'.ownsRow B 53 4 (.slice (some ⟨g, 0, none⟩) fn cap) fn (bxs L) ∧ w.grownBy w' (some H) ∧ (g = H ∨ g = w.heap.size) ∧ g < w'.heap.size := by
  obtain ⟨i, hi, hz, hsize, hby⟩ := info_parts Tryz.infoBox
  by_cases h0 : fn = 0
  · subst h0
    have hF0 : L = [] := List.eq_nil_of_length_eq_zero hfn.symm
    subst hF0
    have hs : Src Tryz.prog i.size 22 (.slice fo 0 fc) 0 [] w := by
      cases fo with
      | none => exact Src.ofNil w Tryz.underlying22 fc
      | some a => exact Src.ofSlice w Tryz.underlying22 a 0 fc [] (by simp) (fun j u hj => by simp at hj) (fun u hu => by simp at hu)
    have hr : (Builtin.append_ #[22, 22] ty #[.slice (some ⟨H, 0, none⟩) 0 0, .slice fo 0 fc]).run Tryz.prog w = .ok (.slice (some ⟨H, 0, none⟩) 0 0) w := by
      simp [Builtin.append_, run_underlying Tryz.underlying22, sizeOf, typeInfo, hi, hs.len, hs.cells, storeCells]
    exact ⟨H, 0, w, hr, hown, ⟨rfl, rfl, rfl, Nat.le_refl _, fun _ _ _ => rfl⟩, .inl rfl, (hown.lt H rfl).2⟩
  · obtain ⟨a, rfl, _, _⟩ := hF 0 L[0] (List.getElem?_eq_getElem (by omega))
    obtain ⟨g, cap, w', hr, h2, h3, h4, h5⟩ := run_append_lies (P := Tryz.prog) w 22 ty B 53 i (.agg #[.int .i64 0, .int .i64 0, .int .i64 0, .bool false]) 4 32 Tryz.underlying22 hi hz hsize hby rfl (by decide) (.slice (some ⟨H, 0, none⟩) 0 0) 0 [] hown a fn fc (bxs L) (by rw [bxs_len, hfn]) (fun j u hj => by
      have hjl : j < L.length * 4 := by rw [← bxs_len]; exact (List.getElem?_eq_some_iff.1 hj).1
      have hk : j / 4 < L.length := by omega
      obtain ⟨a', e, _, c0, c1, c2, c3⟩ := hF (j / 4) L[j / 4] (List.getElem?_eq_getElem hk)
      cases e
      obtain ⟨b0, b1, b2, b3⟩ := bxs_at L (j / 4) L[j / 4] (List.getElem?_eq_getElem hk)
      obtain ⟨o1, o2, o3⟩ := add_off' a (j / 4 * 4)
      have hm : j = j / 4 * 4 ∨ j = j / 4 * 4 + 1 ∨ j = j / 4 * 4 + 2 ∨ j = j / 4 * 4 + 3 := by omega
      rcases hm with e | e | e | e
      · rw [e] at hj ⊢
        rw [b0] at hj; cases hj; exact c0
      · rw [e] at hj ⊢
        rw [b1] at hj; cases hj; rw [o1]; exact c1
      · rw [e] at hj ⊢
        rw [b2] at hj; cases hj; rw [o2]; exact c2
      · rw [e] at hj ⊢
        rw [b3] at hj; cases hj; rw [o3]; exact c3) (bxs_one L) (by omega) (by unfold maxLen; omega) (by omega) hB w.heap.size rfl
    refine ⟨g, cap, w', by simpa using hr, by simpa using h2, h3, ?_, h5⟩
    rcases h4 with h | h
    · exact .inl (Option.some.inj h).symm
    · exact .inr h
theorem wpList_copyB {w : World} {ops : Array Oper} {rest : List Oper} {o : Oper} {a : Act} {Q : Exit → Act → World → Prop} (hgd : o.guard = none) (s x : Operand) (ho : o.op = .call { callee := .builtin .append, args := #[s, x], argTypes := #[22, 22] }) (B H : Nat) (hs : a.eval s = .slice (some ⟨H, 0, none⟩) 0 0) (hown : w.ownsRow B 53 4 (.slice (some ⟨H, 0, none⟩) 0 0) 0 []) (fo : Option Addr) (fn fc : Nat) (L : List Bx) (hx : a.eval x = .slice fo fn fc) (hF : RdB w fo L) (hfn : fn = L.length) (hl : fn ≤ 1000000) (hB : B ≤ w.heap.size)
    (h : ∀ g cap w', w'.ownsRow B 53 4 (.slice (some ⟨g, 0, none⟩) fn cap) fn (bxs L) → w.grownBy w' (some H) → (g = H ∨ g = w.heap.size) → g < w'.heap.size → wpList Tryz.prog ops Q rest (a.put o.dst (.slice (some ⟨g, 0, none⟩) fn cap)) w') : wpList Tryz.prog ops Q (o :: rest) a w :=
  wpList_plain hgd fun _ hK => by
    obtain ⟨g, cap, w', hr, h2, h3, h4, h5⟩ := run_copyB hown o.type (fc := fc) hF hfn hl hB
    unfold Oper.wp execOp
    simp only [ho, resolve, invoke, builtin, Sem.run_bind, Sem.run_pure, Result.andThen_ok, List.map_toArray, List.map_cons, List.map_nil, hs, hx, hr]
    exact hK _ _ (h g cap w' h2 h3 h4 h5)
set_option maxHeartbeats 2000000 in
set_option maxRecDepth 100000 in
/-- Two lists of boxes that are the same. -/
theorem boxes_same (ao bo : Option Addr) (n ac bc : Nat) (L : List Bx) (w : World) (ha : RdB w ao L) (hb : RdB w bo L) (hn : n = L.length) (hl : n ≤ 1000000) :
    Calls Tryz.prog 14 #[.slice ao n ac, .slice bo n bc] w fun e w' => e = .returned (.bool true) ∧ Below w.heap.size w w' := by
  have HA := hid ha
  have HB := hid hb
  have HN := hid hn
  clear ha hb hn
  go_enter Tryz.func14, Tryz.ntmps14
  go_wp2
  go_loopw [5] (fun i wr => ∃ k : Nat, k ≤ n ∧ i = .int .i64 k ∧ Hid (Below w.heap.size w wr)) (fun i _ => n - (intOf i).toNat)
  case atStart => exact ⟨0, by omega, rfl, Below.refl _ _⟩
  case round =>
    obtain ⟨k, hk, rfl, HBr⟩ := hrel
    by_cases hlt : k < n
    · have hkl : k < L.length := by have := HN.out; omega
      obtain ⟨a, rfl, _, a0, a1, a2, a3⟩ := (HA.out.below HBr.out).at hkl
      obtain ⟨b, rfl, _, b0, b1, b2, b3⟩ := (HB.out.below HBr.out).at hkl
      obtain ⟨x, hx⟩ : ∃ x, bx L k = x := ⟨_, rfl⟩
      rw [hx] at a0 a1 a2 a3 b0 b1 b2 b3
      obtain ⟨xw, xb, xh, xm⟩ := x
      dsimp only at a0 a1 a2 a3 b0 b1 b2 b3
      have i3 : (k : Int) < (n : Int) := by omega
      have i0 : (0 : Int) ≤ (k : Int) := by omega
      have x1 : (xw == xw) = true := beq_iff_eq.2 rfl
      have x2 : (xb == xb) = true := beq_iff_eq.2 rfl
      have x3 : (xh == xh) = true := beq_iff_eq.2 rfl
      have x4 : (xm == xm) = true := beq_iff_eq.2 rfl
      clear hx hkl
      go_wp2_with fail
      go_quiet (fail)
      go_wp2
      go_roundw
      case rel => exact ⟨k + 1, by omega, by go_num, below_drN HBr.out _⟩
      case measure => simp [intOf]; omega
    · have i3 : ¬ (k : Int) < (n : Int) := by omega
      go_wp2
      go_ret
      exact ⟨rfl, HBr.out⟩
end Go.Proofs.YtkopefljnhgdkaaGreatDoor
/- The contract of Lines of the document's side (kerfref16), and two lists that are the same. -/
namespace Go.Proofs.YtkopefljnhgdkaaGreatDoor
open Go.RowKit Go.Shelf

set_option maxHeartbeats 1000000 in
set_option maxRecDepth 100000 in
/-- Two lists that are the same. -/
theorem ints_same (ao bo : Option Addr) (n ac bc : Nat) (l : List Int) (w : World) (ha : RdI w ao l) (hb : RdI w bo l) (hn : n = l.length) (hl : n ≤ 1000000) :
    Calls Tryz.prog 13 #[.slice ao n ac, .slice bo n bc] w fun e w' => e = .returned (.bool true) ∧ Below w.heap.size w w' := by
  have HA := hid ha
  have HB := hid hb
  have HN := hid hn
  clear ha hb hn
  go_enter Tryz.func13, Tryz.ntmps13
  go_wp2
  go_loopw [5] (fun i wr => ∃ k : Nat, k ≤ n ∧ i = .int .i64 k ∧ Hid (Below w.heap.size w wr)) (fun i _ => n - (intOf i).toNat)
  case atStart => exact ⟨0, by omega, rfl, Below.refl _ _⟩
  case round =>
    obtain ⟨k, hk, rfl, HBr⟩ := hrel
    by_cases hlt : k < n
    · have hkl : k < l.length := by have := HN.out; omega
      obtain ⟨a, rfl, _, a0⟩ := HA.out.below HBr.out k l[k] (List.getElem?_eq_getElem hkl)
      obtain ⟨b, rfl, _, b0⟩ := HB.out.below HBr.out k l[k] (List.getElem?_eq_getElem hkl)
      obtain ⟨x, hx⟩ : ∃ x, l[k] = x := ⟨_, rfl⟩
      rw [hx] at a0 b0
      have i3 : (k : Int) < (n : Int) := by omega
      have i0 : (0 : Int) ≤ (k : Int) := by omega
      have xx : (x != x) = false := bne_eq_false_iff_eq.2 rfl
      clear hx hkl
      go_wp2_with fail
      go_quiet (fail)
      go_wp2
      go_roundw
      case rel => exact ⟨k + 1, by omega, by go_num, below_drN HBr.out _⟩
      case measure => simp [intOf]; omega
    · have i3 : ¬ (k : Int) < (n : Int) := by omega
      go_wp2
      go_ret
      exact ⟨rfl, HBr.out⟩
set_option maxHeartbeats 2000000 in
theorem rlines_any (lo : Option Addr) (n c : Nat) (wd fi re ho : Int) (L : List Bx) (w : World) (hn : n = L.length) (hr : RdB w lo L) (hev : ∀ W, RdB W lo L → Okb ⟨wd, fi, re, ho⟩ L → Calls Tryz.prog 22 #[.slice lo n c, .agg #[.int .i64 wd, .int .i64 fi, .int .i64 re, .int .i64 ho]] W fun e w' => EvQ W ⟨wd, fi, re, ho⟩ L e w') :
    Calls Tryz.prog 10 #[.slice lo n c, .agg #[.int .i64 wd, .int .i64 fi, .int .i64 re, .int .i64 ho]] w fun e w' => LnQ w ⟨wd, fi, re, ho⟩ L e w' := by
  have HS := hid (Wrs.new w wd fi re ho)
  have HB := hid (below_box (w := w) (o := .cells #[.int .i64 wd, .int .i64 fi, .int .i64 re, .int .i64 ho] 24))
  have HR := hid (hr.below HB.out)
  have HN := hid hn
  have HEN := hid hev
  clear hr hn hev
  obtain ⟨c0, c1, c2, c3⟩ := HS.out.cell
  by_cases he : (chk ⟨wd, fi, re, ho⟩ L).1 = 0
  · have HOK := hid (chk_ok he)
    have hho := HOK.out.ho
    dsimp only at hho
    have HE := hid he
    clear he
    rcases hho with rfl | rfl
    · go_enter Tryz.func10, Tryz.ntmps10
      go_wp2_with fail
      refine (rcheck_any lo n c wd fi re 0 L _ HN.out HR.out).mono ?_
      rintro e w1 ⟨rfl, be1⟩
      have HS1 := hid (HS.out.kept be1)
      have HB1 := hid (HB.out.trans (be1.mono HB.out.size))
      have HR1 := hid (HR.out.below be1)
      obtain ⟨d0, d1, d2, d3⟩ := HS1.out.cell
      rw [HE.out]
      clear be1 c0 c1 c2 c3
      go_wp2_with fail
      refine (rgreedy_any lo n c wd fi re 0 L _ HN.out HR1.out HOK.out).mono ?_
      rintro e w2 ⟨es, eo, el, ec, rfl, hel, how, hgr, be2⟩
      have HEL := hid hel
      have HOW := hid how
      have HGR := hid hgr
      have HB3 := hid (HB1.out.trans (be2.mono HB1.out.size))
      have hsz := HB1.out.size
      clear hel how hgr be2 d0 d1 d2 d3
      go_wp2
      go_ret2
      exact ⟨⟨es, eo, el, ec, by rw [HE.out]; rfl, HEL.out, own_mono' HOW.out hsz, fun h => absurd HE.out h, fun _ => ⟨fun _ => HGR.out, fun h => by cases h⟩⟩, HB3.out⟩
    · go_enter Tryz.func10, Tryz.ntmps10
      go_wp2_with fail
      refine (rcheck_any lo n c wd fi re 1 L _ HN.out HR.out).mono ?_
      rintro e w1 ⟨rfl, be1⟩
      have HS1 := hid (HS.out.kept be1)
      have HB1 := hid (HB.out.trans (be1.mono HB.out.size))
      have HR1 := hid (HR.out.below be1)
      obtain ⟨d0, d1, d2, d3⟩ := HS1.out.cell
      rw [HE.out]
      clear be1 c0 c1 c2 c3
      go_wp2_with fail
      refine (HEN.out _ HR1.out HOK.out).mono ?_
      rintro e w2 ⟨T, es, eo, el, ec, rfl, hel, how, hgd, hev, be2⟩
      have HEL := hid hel
      have HOW := hid how
      have HGD := hid hgd
      have HEV := hid hev
      have HB3 := hid (HB1.out.trans (be2.mono HB1.out.size))
      have hsz := HB1.out.size
      clear hel how hgd hev be2 d0 d1 d2 d3
      go_wp2
      go_ret2
      exact ⟨⟨es, eo, el, ec, by rw [HE.out]; rfl, HEL.out, own_mono' HOW.out hsz, fun h => absurd HE.out h, fun _ => ⟨fun h => (by cases h), fun _ => ⟨T, HGD.out, HEV.out⟩⟩⟩, HB3.out⟩
  · have HE := hid he
    obtain ⟨z, hz⟩ : ∃ z, z = (chk ⟨wd, fi, re, ho⟩ L).1 := ⟨_, rfl⟩
    have b1 : (z != 0) = true := by rw [hz]; exact bne_iff_ne.2 he
    have HZ := hid hz
    clear he hz
    go_enter Tryz.func10, Tryz.ntmps10
    go_wp2_with fail
    refine (rcheck_any lo n c wd fi re ho L _ HN.out HR.out).mono ?_
    rintro e w1 ⟨rfl, be1⟩
    rw [← HZ.out]
    have HB1 := hid (HB.out.trans (be1.mono HB.out.size))
    clear be1
    go_wp2
    go_ret2
    exact ⟨⟨[], none, 0, 0, by rw [← HZ.out]; rfl, rfl, own_nil _ _ _ _, fun _ => rfl, fun h => absurd h HE.out⟩, HB1.out⟩
end Go.Proofs.YtkopefljnhgdkaaGreatDoor
/- The walk of WrapLines. -/
namespace Go.Proofs.YtkopefljnhgdkaaGreatDoor
open Go.RowKit Go.Shelf

set_option maxRecDepth 100000 in
set_option maxHeartbeats 8000000 in
theorem lines_main (lo : Option Addr) (n c : Nat) (wd fi re ho : Int) (L : List Bx) (eo : Option Addr) (el ec : Nat) (es : List Int) (w : World) (hn : n = L.length) (hr : RdB w lo L) (hel : el = es.length) (hre : RdI w eo es) (hev : ∀ W, RdB W lo L → Okb ⟨wd, fi, re, ho⟩ L → Calls Tryz.prog 22 #[.slice lo n c, .agg #[.int .i64 wd, .int .i64 fi, .int .i64 re, .int .i64 ho]] W fun e w' => EvQ W ⟨wd, fi, re, ho⟩ L e w') (htb : Ev.Tbs tabs w) :
    Calls Tryz.prog 4 #[.slice lo n c, .agg #[.int .i64 wd, .int .i64 fi, .int .i64 re, .int .i64 ho], .slice eo el ec] w fun e w' => e = .returned (.bool true) ∧ Below w.heap.size w w' := by
  have HTB := hid (fun W (h : Below w.heap.size w W) => tbs_below htb h)
  clear htb
  by_cases hbig : 40 < n ∨ 100 < el
  · have HB := hid (below_box (w := w) (o := .cells #[.int .i64 wd, .int .i64 fi, .int .i64 re, .int .i64 ho] 24))
    have hc : 40 < n ∨ ¬ 40 < n ∧ 100 < el := by omega
    clear hbig hn hr hel hre hev
    rcases hc with h1 | ⟨h1, h2⟩
    all_goals
      have i1 : (40 : Int) < (n : Int) ∨ ¬ (40 : Int) < (n : Int) := Decidable.em _
      first | (have j1 : (40 : Int) < (n : Int) := by omega) | (have j1 : ¬ (40 : Int) < (n : Int) := by omega)
      (try have j2 : (100 : Int) < (el : Int) := by omega)
      clear i1
      go_enter Tryz.func4, Tryz.ntmps4
      go_wp2_with fail
      refine (lives _ (HTB.out _ HB.out)).mono ?_
      rintro e w2 ⟨rfl, be2⟩
      have HB2 := hid (HB.out.trans (be2.mono HB.out.size))
      clear be2
      go_wp2
      go_ret
      exact ⟨rfl, HB2.out⟩
  · have j1 : ¬ (40 : Int) < (n : Int) := by omega
    have j2 : ¬ (100 : Int) < (el : Int) := by omega
    have hel' : el ≤ 100 := by omega
    have hn' : n ≤ 40 := by omega
    have HN := hid hn
    have HEL := hid hel
    have HR0 := hid hr
    have HRE0 := hid hre
    have HEN := hid hev
    clear hbig hn hel hr hre hev
    have HB := hid (below_box (w := w) (o := .cells #[.int .i64 wd, .int .i64 fi, .int .i64 re, .int .i64 ho] 24))
    have HS := hid (Wrs.new w wd fi re ho)
    have HOE := hid (show ((w.alloc (.cells #[.int .i64 wd, .int .i64 fi, .int .i64 re, .int .i64 ho] 24)).alloc (.cells #[] 53)).ownsRow (w.heap.size + 1) 53 4 (.slice (some ⟨w.heap.size + 1, 0, none⟩) 0 0) 0 [] by
      have h := World.ownsRow_lit (e := 53) (size := 4) (base := w.heap.size + 1) (w.alloc (.cells #[.int .i64 wd, .int .i64 fi, .int .i64 re, .int .i64 ho] 24)) #[] 0 (by rw [World.size_alloc]; exact Nat.le_refl _) (by decide) (by simp)
      rw [World.size_alloc] at h
      exact h)
    have HBA := hid (show Below w.heap.size w ((w.alloc (.cells #[.int .i64 wd, .int .i64 fi, .int .i64 re, .int .i64 ho] 24)).alloc (.cells #[] 53)) from HB.out.alloc (by simp) _)
    have HSA := hid (show Wrs ((w.alloc (.cells #[.int .i64 wd, .int .i64 fi, .int .i64 re, .int .i64 ho] 24)).alloc (.cells #[] 53)) w.heap.size wd fi re ho from HS.out.kept below_box)
    go_enter Tryz.func4, Tryz.ntmps4
    go_wp2_with (at_builtin; refine wpList_copyB rfl _ _ rfl (w.heap.size + 1) (w.heap.size + 1) rfl HOE.out lo n c L rfl (HR0.out.below HBA.out) HN.out (by omega) (by simp) ?_; intro g gcap w1 o1 gr1 hg1 hlt1; have HO1 := hid o1; have HB1 := hid (show Below w.heap.size w w1 from HBA.out.grown gr1 (by simp; omega) (fun k e => by cases e; omega)); have HS1 := hid (show Wrs w1 w.heap.size wd fi re ho from (gr1.block _ (by simp; omega) (fun e => by have := Option.some.inj e; omega)).trans HSA.out); obtain ⟨d0, d1, d2, d3⟩ := HS1.out.cell; clear o1 gr1 hg1 hlt1)
    refine (lines_any (some ⟨g, 0, none⟩) n gcap wd fi re ho L w1 HN.out (rdb_own HO1.out HN.out)).mono ?_
    rintro e w2 ⟨⟨ga, gao, gal, gac, rfl, hgl, hgo, hne, hok⟩, be2⟩
    have HB2 := hid (HB1.out.trans (be2.mono HB1.out.size))
    have HS2 := hid (HS1.out.kept be2)
    have HX2 := hid ((rdb_own HO1.out HN.out).below be2)
    have HA2 := hid (rdi_own hgo)
    have HGL := hid hgl
    have HNE := hid hne
    have HOK := hid hok
    clear d0 d1 d2 d3 hgl hgo hne hok be2 HO1 HB1 HS1
    obtain ⟨d0, d1, d2, d3⟩ := HS2.out.cell
    obtain ⟨z, hz⟩ : ∃ z, z = (chk ⟨wd, fi, re, ho⟩ L).1 := ⟨_, rfl⟩
    have HZ := hid hz
    rw [← hz]
    rw [← hz] at HNE HOK
    clear hz
    go_wp2_with fail
    refine (rlines_any lo n c wd fi re ho L w2 HN.out (HR0.out.below HB2.out) HEN.out).mono ?_
    rintro e w3 ⟨⟨gb, gbo, gbl, gbc, rfl, hgbl, hgbo, hne2, hok2⟩, be3⟩
    rw [← HZ.out] at hne2 hok2
    have hab : gb = ga := by
      by_cases h0 : z = 0
      · have h1 := HOK.out h0
        have h2 := hok2 h0
        have o := chk_ok (HZ.out.symm.trans h0)
        rcases o.ho with e | e
        · exact grl_uniq (h2.gr e) (h1.gr e)
        · obtain ⟨T, a1, a2⟩ := h1.ev e
          obtain ⟨S, b1, b2⟩ := h2.ev e
          exact evl_uniq b1 a1 b2 a2
      · rw [HNE.out h0, hne2 h0]
    have hle : ga.length ≤ L.length := by
      by_cases h0 : z = 0
      · have h1 := HOK.out h0
        have o := chk_ok (HZ.out.symm.trans h0)
        rcases o.ho with e | e
        · have := brk_le _ _ (h1.gr e).brk; omega
        · obtain ⟨T, a1, a2⟩ := h1.ev e
          have := brk_le _ _ (evl_is a1 a2).1; omega
      · rw [HNE.out h0]; exact Nat.zero_le _
    have hgal : gal ≤ 40 := by have := HGL.out; have := HN.out; omega
    clear hle
    subst hab
    obtain rfl : gbl = gal := by rw [hgbl, HGL.out]
    have HB3 := hid (HB2.out.trans (be3.mono HB2.out.size))
    have HS3 := hid (HS2.out.kept be3)
    have HX3 := hid (HX2.out.below be3)
    have HA3 := hid (HA2.out.below be3)
    have HC3 := hid (rdi_own hgbo)
    rw [← HZ.out]
    clear d0 d1 d2 d3 hgbl hgbo hne2 hok2 be3 HB2 HS2 HX2 HA2 HNE HOK HEN
    obtain ⟨d0, d1, d2, d3⟩ := HS3.out.cell
    obtain ⟨u, hu⟩ : ∃ u, u = w3.drew := ⟨_, rfl⟩
    obtain ⟨M, hM⟩ : ∃ M, M = w3.heap.size := ⟨_, rfl⟩
    have HUS := hid (show u.heap.size = M by rw [hu, hM]; rfl)
    have HUB3 := hid (show ∀ V, Below M u V → Below w3.heap.size w3 V from fun V h => ((Below.refl _ w3).drew).trans (by rw [← hu, ← hM]; exact h))
    have HWT := hid (show ∀ V, Below M u V → Wrs V w.heap.size wd fi re ho from fun V h => HS3.out.kept (HUB3.out V h))
    have HRI := hid (show ∀ V, Below M u V → RdI V eo es from fun V h => (HRE0.out.below HB3.out).below (HUB3.out V h))
    have HXI := hid (show ∀ V, Below M u V → RdB V (some ⟨g, 0, none⟩) L from fun V h => HX3.out.below (HUB3.out V h))
    go_wp2_with fail
    refine wp_region_mixT (.one 0 1 (.one 1 1 (.one 3 1 (.one 2 2 (.one 4 2 (.one 5 2 (.one 6 1 (.one 7 1 (.one 8 1 (.one 9 1 (.one 10 1 .nil))))))))))) (fun _ => True) (fun w' => Below M u w') (fun _ => false) (by kernel_rfl) (by kernel_rfl) (fun j hj => by cases hj) rfl (by kernel_rfl) trivial (by rw [hu]; exact Below.refl _ _) ?_
    rw [← hu]
    clear hu hM d0 d1 d2 d3
    iterate 3 (refine mixT_t ?_ rfl (by kernel_rfl) (fun w' hS => ?_) ?_; (rotate_left; (obtain ⟨s0, s1, s2, s3⟩ := (HWT.out _ hS).cell; go_simp; with_reducible rfl); rotate_left))
    refine mixT_go rfl (by kernel_rfl) fun KK hKK => ?_
    go_simp
    have HB4 := hid (show Below M u (u.alloc (.cells #[] 3)) from (Below.refl _ _).alloc (by rw [HUS.out]; exact Nat.le_refl _) _)
    refine hKK _ _ (fun _ => trivial) HB4.out ?_
    clear hKK KK
    have HO1 := hid (show (u.alloc (.cells #[] 3)).ownsRow M 3 1 (.slice (some ⟨M, 0, none⟩) 0 0) 0 [] by
      have h := World.ownsRow_lit (e := 3) (size := 1) (base := M) u #[] 0 (by rw [HUS.out]; exact Nat.le_refl _) (by decide) (by simp)
      rw [HUS.out] at h
      exact h)
    obtain ⟨v1, hv1⟩ : ∃ v1, v1 = u.alloc (.cells #[] 3) := ⟨_, rfl⟩
    have HZ1 := hid (show v1.heap.size = M + 1 by rw [hv1]; simp [HUS.out])
    have HM1 := hid (show M ≤ v1.heap.size by rw [HZ1.out]; omega)
    rw [← hv1] at HB4 HO1
    rw [← hv1, HUS.out]
    clear hv1
    refine mixT_go rfl (by kernel_rfl) fun KK hKK => ?_
    refine wp_copy _ _ rfl M M rfl HO1.out eo el ec es rfl (HRI.out _ HB4.out) HEL.out (by omega) HM1.out ?_
    intro g4 c4 v2 o2 gr2 hg2 hlt2
    have HB5 := hid (show Below M u v2 from HB4.out.grown gr2 HM1.out (fun k e => by cases e; exact Nat.le_refl _))
    have HO2 := hid (rdi_own o2)
    refine hKK _ _ (fun _ => trivial) HB5.out ?_
    clear hKK KK o2 gr2 hg2 hlt2 HB4 HO1 HZ1 HM1
    refine mixT_go rfl (by kernel_rfl) fun KK hKK => ?_
    go_simp
    refine (costs_any (some ⟨g, 0, none⟩) n gcap wd fi re ho L (some ⟨g4, 0, none⟩) el c4 es v2 HN.out (HXI.out _ HB5.out) HEL.out HO2.out (by omega)).mono ?_
    rintro e w4 ⟨⟨y, b, rfl, hb, hy⟩, be4⟩
    have HB6 := hid (show Below M u w4 from HB5.out.trans (be4.mono (by have := HB5.out.size; have := HUS.out; omega)))
    have HBI := hid hb
    have HYI := hid hy
    refine hKK _ _ (fun _ => trivial) HB6.out ?_
    clear hKK KK be4 hb hy HB5 HO2
    iterate 5 (refine mixT_t ?_ rfl (by kernel_rfl) (fun w' hS => ?_) ?_; (rotate_left; (go_simp; with_reducible rfl); rotate_left))
    refine mixT_end (NoPanic.normal ?_)
    go_simp
    have HB7 := hid (HB3.out.trans ((HUB3.out _ HB6.out).mono HB3.out.size))
    have HS7 := hid (HWT.out _ HB6.out)
    have HX7 := hid (HXI.out _ HB6.out)
    have HA7 := hid (HA3.out.below (HUB3.out _ HB6.out))
    have HC7 := hid (HC3.out.below (HUB3.out _ HB6.out))
    clear HUS HUB3 HWT HRI HXI HB3 HS3 HX3 HA3 HC3 HB6
    obtain ⟨d0, d1, d2, d3⟩ := HS7.out.cell
    go_wp2_with fail
    refine (rcosts_any lo n c wd fi re ho L eo el ec es w4 HN.out (HR0.out.below HB7.out) HEL.out (HRE0.out.below HB7.out) (by omega)).mono ?_
    rintro e w5 ⟨⟨y', b', rfl, hb', hy'⟩, be5⟩
    obtain rfl : b' = b := by
      have h1 := HBI.out
      cases b <;> cases b' <;> simp_all
    obtain rfl : y' = y := hy'.trans HYI.out.symm
    have HB8 := hid (HB7.out.trans (be5.mono HB7.out.size))
    have HX8 := hid (HX7.out.below be5)
    have HA8 := hid (HA7.out.below be5)
    have HC8 := hid (HC7.out.below be5)
    have x1 : (y' == y') = true := beq_iff_eq.2 rfl
    have x2 : (b' == b') = true := beq_iff_eq.2 rfl
    have x3 : (z == z) = true := beq_iff_eq.2 rfl
    clear hb' hy' be5 d0 d1 d2 d3 HB7 HS7 HX7 HA7 HC7 HBI HYI
    go_wp2_with fail
    refine (ints_same gao gbo gbl gac gbc gb w5 HA8.out HC8.out HGL.out (by omega)).mono ?_
    rintro e w6 ⟨rfl, be6⟩
    have HB9 := hid (HB8.out.trans (be6.mono HB8.out.size))
    have HX9 := hid (HX8.out.below be6)
    clear be6 HB8 HX8 HA8 HC8
    go_wp2_with fail
    refine (num_any z w6).mono ?_
    rintro e w6' ⟨rfl, hw6⟩
    obtain rfl := hw6.symm
    clear hw6
    go_wp2_with fail
    refine (boxes_same (some ⟨g, 0, none⟩) lo n gcap c L w6 HX9.out (HR0.out.below HB9.out) HN.out (by omega)).mono ?_
    rintro e w7 ⟨rfl, be7⟩
    have HB10 := hid (HB9.out.trans (be7.mono HB9.out.size))
    clear be7 HB9 HX9
    go_wp2_with fail
    refine (lives _ (HTB.out _ HB10.out)).mono ?_
    rintro e w8 ⟨rfl, be8⟩
    have HB11 := hid (HB10.out.trans (be8.mono HB10.out.size))
    clear be8 HB10
    go_wp2
    go_ret
    exact ⟨rfl, HB11.out⟩
end Go.Proofs.YtkopefljnhgdkaaGreatDoor
