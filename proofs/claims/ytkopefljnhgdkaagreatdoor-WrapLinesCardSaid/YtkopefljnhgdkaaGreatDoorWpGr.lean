/- The contract of greedy (package wrap). -/
import Derived.Test.YtkopefljnhgdkaaGreatDoorWpOwn
namespace Go.Proofs.YtkopefljnhgdkaaGreatDoor
open Go.RowKit Go.Shelf
attribute [local go_sem] Oper.semAt_some

theorem ofFnG (f : Nat → Value) : Array.ofFn (fun i : Fin 26 => f i) = #[f 0, f 1, f 2, f 3, f 4, f 5, f 6, f 7, f 8, f 9, f 10, f 11, f 12, f 13, f 14, f 15, f 16, f 17, f 18, f 19, f 20, f 21, f 22, f 23, f 24, f 25] := by kernel_rfl
theorem frameG (a : Act) (D : List Deferred) (hs : a.tmps.size = 26) (hd : a.defers = D) (v0 v1 v2 v3 v4 : Value) (h0 : at_ a 0 = v0) (h1 : at_ a 1 = v1) (h2 : at_ a 2 = v2) (h3 : at_ a 3 = v3) (h4 : at_ a 4 = v4) :
    ∃ u : Nat → Value, a = { tmps := #[v0, v1, v2, v3, v4, u 5, u 6, u 7, u 8, u 9, u 10, u 11, u 12, u 13, u 14, u 15, u 16, u 17, u 18, u 19, u 20, u 21, u 22, u 23, u 24, u 25], defers := D } := by
  obtain ⟨t, d⟩ := a
  subst hd
  refine ⟨fun i => t.getD i undef, ?_⟩
  simp only [at_] at h0 h1 h2 h3 h4
  subst h0 h1 h2 h3 h4
  exact congrArg (fun t => (Act.mk t d : Act)) ((ofFn_all t hs).trans (ofFnG fun i => t.getD i undef))
/-- What stands between the rounds of greedy. -/
structure GrI (w : World) (lo : Option Addr) (n c : Nat) (wd fi re ho : Int) (L : List Bx) (m : Nat) (a : Act) (wr : World) (first : Nat) (es : List Int) (eo : Option Addr) (el ec : Nat) (D : List Nat) : Prop where
  size : a.tmps.size = 26
  df : a.defers = mks D
  t0 : at_ a 0 = .agg #[.slice lo n c, .int .i64 wd, .int .i64 fi, .int .i64 re, .int .i64 ho]
  t1 : at_ a 1 = .pointer (some ⟨w.heap.size, 0, none⟩)
  t2 : at_ a 2 = .slice none 0 0
  t3 : at_ a 3 = .slice eo el ec
  t4 : at_ a 4 = .int .i64 first
  le : first ≤ n
  lt : n - first < m
  ell : el = es.length
  el2 : el ≤ first
  own : wr.ownsRow (w.heap.size + 1) 3 1 (.slice eo el ec) el (i64s es)
  gr : ∀ t, GrL ⟨wd, fi, re, ho⟩ L first t → GrL ⟨wd, fi, re, ho⟩ L 0 (es ++ t)
  low : Below (w.heap.size + 1) (w.alloc (.cells #[.slice lo n c, .int .i64 wd, .int .i64 fi, .int .i64 re, .int .i64 ho] 56)) wr
  mks : Marks D w.heap.size wr
theorem last_gr {W : Wr} {L : List Bx} {i : Nat} {F : List (Fe W L i)} (h : FL W L i F) (hi : i < L.length) : ∃ x, F.getLast? = some x ∧ Gr W L i x.j := by
  obtain ⟨y, hy, _⟩ := h.all i (Lin.self hi)
  cases hl : F.getLast? with
  | none => rw [List.getLast?_eq_none_iff] at hl; rw [hl] at hy; cases hy
  | some x =>
    refine ⟨x, rfl, x.lin, fun k hk => ?_⟩
    obtain ⟨z, hz, rfl⟩ := h.all k hk
    obtain ⟨T, rfl⟩ := List.getLast?_eq_some_iff.1 hl
    have hr := h.rise
    rw [List.map_append, List.pairwise_append] at hr
    rcases List.mem_append.1 hz with h1 | h1
    · have := hr.2.2 z.j (List.mem_map.2 ⟨z, h1, rfl⟩) x.j (by simp)
      omega
    · have : z = x := by simpa using h1
      rw [this]
      exact Nat.le_refl _
theorem GrL.snoc {W : Wr} {L : List Bx} {es : List Int} {first j : Nat} (h : ∀ t, GrL W L first t → GrL W L 0 (es ++ t)) (hg : Gr W L first j) : ∀ t, GrL W L (j + 1) t → GrL W L 0 ((es ++ [(j : Int)]) ++ t) := fun t ht => by
  rw [List.append_assoc]
  exact h _ ⟨j, rfl, hg, ht⟩
/-- The last box of the last line that came. -/
def lastJ {W : Wr} {L : List Bx} {i : Nat} (pre : List (Fe W L i)) : Nat := match pre.getLast? with
  | some x => x.j
  | none => i
theorem lastJ_snoc {W : Wr} {L : List Bx} {i : Nat} (pre : List (Fe W L i)) (x : Fe W L i) : lastJ (pre ++ [x]) = x.j := by
  unfold lastJ
  rw [List.getLast?_concat]
def GrQ (w : World) (W : Wr) (L : List Bx) (e : Ending) (w' : World) : Prop :=
  ∃ (es : List Int) (eo : Option Addr) (el ec : Nat), e = .returned (.slice eo el ec) ∧ el = es.length ∧ w'.ownsRow w.heap.size 3 1 (.slice eo el ec) el (i64s es) ∧ GrL W L 0 es ∧ Below w.heap.size w w'
set_option maxHeartbeats 4000000 in
theorem greedy_in (lo : Option Addr) (n c : Nat) (wd fi re ho : Int) (L : List Bx) (w : World) (hn : n = L.length) (hr : RdB w lo L) (o : Okb ⟨wd, fi, re, ho⟩ L) :
    CallsIn Fence.wide 3 Tryz.prog 20 #[.agg #[.slice lo n c, .int .i64 wd, .int .i64 fi, .int .i64 re, .int .i64 ho]] w fun e w' => GrQ w ⟨wd, fi, re, ho⟩ L e w' := by
  obtain ⟨i0, hi3, hz0, hz1, hz2⟩ := info_parts Tryz.info3
  have HI := hid (And.intro hi3 (And.intro hz0 (And.intro hz1 hz2)))
  clear hi3 hz0 hz1 hz2
  have HS := hid (Sht.new w lo n c wd fi re ho)
  have HB := hid (below_box (w := w) (o := .cells #[.slice lo n c, .int .i64 wd, .int .i64 fi, .int .i64 re, .int .i64 ho] 56))
  have HR := hid (hr.below HB.out)
  have HN := hid hn
  have HO := hid o
  have hlen : n ≤ 4096 := hn ▸ o.len
  clear hr hn o
  refine callsIn_of_wp_marks Tryz.func20 rfl trivial ?_ rfl
  simp only [Tryz.ntmps20, List.size_toArray, List.length_cons, List.length_nil, Nat.reduceAdd, Nat.reduceSub, Array.replicate_succ, Array.replicate_zero, List.push_toArray, List.append_toArray, List.nil_append, List.cons_append]
  gi_wp2
  refine wpIn_loop_inv (fun m a wr => ∃ first es eo el ec D, GrI w lo n c wd fi re ho L m a wr first es eo el ec D) (fun a wr ⟨_, _, _, _, _, _, h⟩ => by have := h.lt; omega) ?round (n + 1) _ _ ⟨0, [], none, 0, 0, [], ⟨rfl, rfl, rfl, rfl, rfl, rfl, rfl, Nat.zero_le _, by omega, rfl, Nat.le_refl _, own_nil _ _ _ _, fun t ht => ht, Below.refl _ _, Marks.nil _ _⟩⟩
  rintro m a wr ⟨first, es, eo, el, ec, D, hI⟩
  obtain ⟨hsz, hdf, t0, t1, t2, t3, t4, hle, hlt, hel, hel2, hown, hgr, hlow, hmk⟩ := hI
  obtain ⟨u, rfl⟩ := frameG a _ hsz hdf _ _ _ _ _ t0 t1 t2 t3 t4
  clear hsz hdf t0 t1 t2 t3 t4
  have HLO := hid hlow
  have hB1 : w.heap.size + 1 ≤ wr.heap.size := by have := hlow.size; simpa using this
  have HSH := hid (show Sht wr w.heap.size lo n c wd fi re ho from (hlow.block _ (by omega)).trans HS.out)
  have HRD := hid (HR.out.below (hlow.mono (by simp)))
  obtain ⟨c0, c1, c2, c3, c4⟩ := HSH.out.cell
  have HOW := hid hown
  have HGR := hid hgr
  have HEL := hid hel
  have HMK := hid hmk
  clear hown hgr hel hlow hmk
  by_cases hf : first < n
  · have hfi : (first : Int) < (n : Int) := by omega
    obtain ⟨F, hF⟩ := ff_all HO.out first
    have HF := hid hF
    clear hF
    have HBE := hid (Boxed.new wr 3 (.int .i64 first))
    have HWE := hid (wfAt_new (wr.alloc (.cells #[.int .i64 first] 3)) lo n c wd fi re ho L first (HRD.out.below below_box))
    obtain ⟨d0, d1, d2, d3, d4⟩ := (HSH.out.kept (below_box (o := .cells #[.int .i64 first] 3))).cell
    gi_wp2_with fail
    refine ⟨trivial, (callsIn_wide.2 (fitting_any lo n c wd fi re ho first _)).mono ?_⟩
    rintro e w2 ⟨rfl, hw2⟩
    rw [← hw2] at HWE
    have hsz2 : w2.heap.size = wr.heap.size + 3 := by rw [hw2]; simp
    have HB2 := hid (show Below wr.heap.size wr w2 by rw [hw2]; exact ((below_box.alloc (by simp) _).alloc (by simp; omega) _))
    have HBE2 := hid (show Boxed w2 wr.heap.size 3 (.int .i64 first) by rw [hw2]; exact (HBE.out.alloc _).alloc _)
    rw [World.size_alloc] at HWE
    clear hw2 HBE d0 d1 d2 d3 d4 c0 c1 c2 c3 c4
    gi_wp2
    refine rfW1 (wr.heap.size + 1) (wr.heap.size + 1 + 1) (fun k => k = wr.heap.size) F (by omega) rfl HF.out HWE.out HN.out hle HO.out rfl ?hS
      (fun pre W => Boxed W wr.heap.size 3 (.int .i64 (lastJ pre : Nat))) (fun _ _ _ => False) (Own.from (boxed_own _ _ (fun pre : List (Fe ⟨wd, fi, re, ho⟩ L first) => Value.int .i64 (lastJ pre : Nat))) _) (fun _ _ _ _ _ hs _ _ => hs) HBE2.out ?hT
      6 ?assign ?body ?done ?stop
    case hS =>
      rintro k rfl (h | h | ⟨a, ha, hk, hk2, _⟩)
      · omega
      · omega
      · obtain ⟨a', ha', hlt', _⟩ := HRD.out.at (i := first) (by have := HN.out; omega)
        rw [ha] at ha'
        cases ha'
        omega
    case hT =>
      rintro pre W hv k rfl c fz h
      unfold Boxed at hv
      rw [hv] at h
      cases h
    case assign =>
      intro lp x W K hK
      dsimp only [encF]
      gi_wp2
      simpa [frW1, encF] using hK
    case body =>
      intro lp pre x W hv hb he hlt
      have hc := hv.cell
      have hf := hv.frozen
      dsimp only [frW1, encF]
      gi_wp2
      refine ⟨BS.set W _ _ rfl, ?_⟩
      have := hv.set (.int .i64 (x.j : Nat))
      show Boxed _ _ _ _
      rw [lastJ_snoc]
      exact this
    case stop =>
      rintro D c pre W _ _ h _
      exact h.elim
    case done =>
      intro d W hd hv hb hK
      obtain ⟨x, hx1, hx2⟩ := last_gr HF.out (by have := HN.out; omega)
      have hj : lastJ F = x.j := by unfold lastJ; rw [hx1]
      rw [hj] at hv
      obtain ⟨j, hj'⟩ : ∃ j, j = x.j := ⟨_, rfl⟩
      rw [← hj'] at hv hx2
      have hj1 := hx2.1.1.1
      have hj2 : j < n := by have := hx2.1.1.2.1; have := HN.out; omega
      clear hj hj' hx1
      have HG2 := hid (GrL.snoc HGR.out hx2)
      have hc := hv.cell
      have hbs := hb.size
      have HNX := hid (show ∀ (g5 ec5 : Nat) (w5 : World), w5.ownsRow (w.heap.size + 1) 3 1 (.slice (some ⟨g5, 0, none⟩) (el + 1) ec5) (el + 1) (i64s es ++ [.int .i64 (j : Int)]) → (W.alloc (.cells #[.int .i64 (j : Int)] 3)).grownBy w5 (Value.ownBlock (.slice eo el ec)) →
          w5.cell? ⟨wr.heap.size, 0, none⟩ = some (.int .i64 (j : Int)) ∧ GrI w lo n c wd fi re ho L m { tmps := #[.agg #[.slice lo n c, .int .i64 wd, .int .i64 fi, .int .i64 re, .int .i64 ho], .pointer (some ⟨w.heap.size, 0, none⟩), .slice none 0 0, .slice (some ⟨g5, 0, none⟩) (el + 1) ec5, .int .i64 ((j + 1 : Nat) : Int), undef, undef, undef, undef, undef, undef, undef, undef, undef, undef, undef, undef, undef, undef, undef, undef, undef, undef, undef, undef, undef], defers := mks (d :: D) } w5 (j + 1) (es ++ [(j : Int)]) (some ⟨g5, 0, none⟩) (el + 1) ec5 (d :: D) by
        intro g5 ec5 w5 o5 gr5
        have how := HOW.out
        have hlow := HLO.out
        have hmk := HMK.out
        have hvl := hv.lt
        have hne : ∀ k, Value.ownBlock (.slice eo el ec) = some k → w.heap.size + 1 ≤ k ∧ k < wr.heap.size := fun k hk => ⟨(how.lt k hk).1, by
          obtain ⟨c, hc⟩ := own_type how hk
          exact lt_of hc⟩
        have hoW : W.ownsRow (w.heap.size + 1) 3 1 (.slice eo el ec) el (i64s es) := own_same how (fun k hk hkl => (hb.block k (by omega) (by omega)).trans (HB2.out.block k hkl))
        have hbW : Below (w.heap.size + 1) (w.alloc (.cells #[.slice lo n c, .int .i64 wd, .int .i64 fi, .int .i64 re, .int .i64 ho] 56)) W := (hlow.trans (HB2.out.mono hB1)).trans (hb.lower (w.heap.size + 1) (fun k hk => by omega) (by omega))
        have hs5 : W.heap.size + 1 ≤ w5.heap.size := (by have h := gr5.size; simpa using h)
        refine ⟨?_, rfl, rfl, rfl, rfl, rfl, rfl, rfl, by omega, by omega, ?_, by omega, ?_, HG2.out, ?_, ?_⟩
        · have h1 : Boxed w5 wr.heap.size 3 (.int .i64 (j : Int)) := (hv.alloc _).kept gr5 (fun e => by have := hne _ e.symm; omega)
          exact h1.cell
        · rw [List.length_append, ← HEL.out]; rfl
        · rw [i64s_snoc]; exact o5
        · exact (hbW.alloc (by omega) _).grown gr5 (by simp; omega) (fun k hk => (hne k hk).1)
        · have h1 : Marks D w.heap.size W := (hmk.below HB2.out).bs hb (fun k hk => by subst hk; exact ⟨_, _, HBE2.out⟩)
          have h2 : Marks (d :: D) w.heap.size W := h1.cons hK (by omega) (fun e he => by have := lt_of (hmk.at' e he); omega)
          exact (h2.alloc _).grown (hoW.alloc _) gr5)
      have HOW2 := hid (own_same HOW.out (fun k hk hkl => (hb.block k (by rw [hsz2]; omega) (by omega)).trans (HB2.out.block k hkl)))
      have hWs : w.heap.size + 1 ≤ W.heap.size := by omega
      clear hv hb hK HF HWE HB2 HBE2 HOW HGR HSH HRD HMK hx2 hsz2 hbs hd hlt HG2 HEL HLO
      obtain ⟨dd, hdd⟩ : ∃ dd, dd = mks (d :: D) := ⟨_, rfl⟩
      rw [← hdd] at HNX
      show Exit.inBlock 2 _ Exit.normal { tmps := _, defers := mks (d :: D) } W
      rw [← hdd]
      clear hdd
      simp only [Exit.inBlock, Exit.then]
      rename_i hKK
      refine hKK _ _ ?_
      clear hKK
      refine wpIn_wide.2 ?_
      go_wp2_with (at_builtin; refine wpList_append_lies _ rfl _ _ 33 rfl (w.heap.size + 1) 3 i0 (.int .i64 0) 1 8 Tryz.underlying33 HI.out.1 HI.out.2.1 HI.out.2.2.1 HI.out.2.2.2 rfl (by decide) (.slice eo el ec) el (i64s es) rfl (HOW2.out.alloc _) ⟨W.heap.size, 0, none⟩ 1 1 [.int .i64 (j : Int)] rfl rfl (news_one W _ 3) (i64s_one [(j : Int)]) (by decide) (by unfold maxLen; omega) (by omega) (by simp; omega) (W.heap.size + 1) (by simp) ?_; intro g5 ec5 w5 o5 gr5 hl5 hlt5; obtain ⟨hc5, hI5⟩ := HNX.out g5 ec5 w5 o5 gr5; have HI5 := hid hI5; clear hI5 o5 gr5 hl5 hlt5)
      refine ⟨j + 1, es ++ [(j : Int)], some ⟨g5, 0, none⟩, el + 1, ec5, d :: D, ?_⟩
      have h := HI5.out
      exact ⟨rfl, h.df, rfl, rfl, rfl, rfl, rfl, h.le, h.lt, h.ell, h.el2, h.own, h.gr, h.low, h.mks⟩
  · have hfi : ¬ (first : Int) < (n : Int) := by omega
    have HFN := hid (show first = L.length by have := HN.out; omega)
    have HQ := hid (HGR.out [] HFN.out)
    clear HGR
    gi_wp2
    exact leaves_marks 3 w.heap.size D wr HMK.out (fun w' hs => ⟨_, results_tmp rfl _ _ _, es, eo, el, ec, rfl, HEL.out, own_mono' (hs.own HOW.out) (by omega), by have := HQ.out; rwa [List.append_nil] at this, ((HB.out.trans (HLO.out.mono (by omega))).trans hs.low)⟩)
theorem greedy_any (lo : Option Addr) (n c : Nat) (wd fi re ho : Int) (L : List Bx) (w : World) (hn : n = L.length) (hr : RdB w lo L) (o : Okb ⟨wd, fi, re, ho⟩ L) :
    Calls Tryz.prog 20 #[.agg #[.slice lo n c, .int .i64 wd, .int .i64 fi, .int .i64 re, .int .i64 ho]] w fun e w' => GrQ w ⟨wd, fi, re, ho⟩ L e w' := callsIn_wide.1 (greedy_in lo n c wd fi re ho L w hn hr o)
end Go.Proofs.YtkopefljnhgdkaaGreatDoor
