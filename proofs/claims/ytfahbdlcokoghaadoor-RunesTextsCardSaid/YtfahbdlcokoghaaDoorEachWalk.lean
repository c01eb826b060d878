/- The walk of RunesEach. -/
import Derived.Test.YtfahbdlcokoghaaDoorEachNest
import Derived.Test.YtfahbdlcokoghaaDoorCntWalk
import Derived.Laws.EntriesVeiled
namespace Go.Proofs.YtfahbdlcokoghaaDoor
open Go.RowKit Go.Shelf
attribute [local go_sem] Oper.semAt_some

theorem eq_nilfE (lb : Array Value) (w : World) : (binOp .eql 41 (.func (.func 49) #[] lb) .nilFunc).run Tryd.prog w = .ok (.bool false) w := by kernel_rfl
attribute [local go_sem] eq_nilfE

theorem boxed_belowE {n B : Nat} {t : TypeId} {v : Value} {W W' : World} (h : Boxed W B t v) (hB : Below n W W') (hlt : B < n) : Boxed W' B t v := (hB.block B hlt).trans h
theorem KpA.setAt {b i : Nat} {X : World} {t : TypeId} {c : Array Value} {fz : Nat × Nat} (hb : X.heap[b]? = some (.cells c t fz)) (u : Value) : KpA b X (X.setCell ⟨b, i, none⟩ u) := ⟨by simp, fun j _ hj => Below.heap_setCell X ⟨b, i, none⟩ u j hj, fun o ho hc => by
  rw [hb] at ho; cases ho; cases hc⟩
theorem KpA.new {b c : Nat} {W Y Z : World} (hY : Below W.heap.size W Y) (hb : W.heap.size ≤ b) (h : KpA b Y Z) : KpA c W Z := ⟨Nat.le_trans hY.size h.size, fun j hj _ => (h.same j (Nat.lt_of_lt_of_le hj hY.size) (by omega)).trans (hY.block j hj), fun o ho _ => by
  have hc := (Array.getElem?_eq_some_iff.1 ho).1
  exact ((h.same c (Nat.lt_of_lt_of_le hc hY.size) (by omega)).trans (hY.block c hc)).trans ho⟩

/-- What lies below when the loop begins. -/
structure KitE (B Bl Bs : Nat) (lo : Option Addr) (lc : Nat) (l : List Rg) (stop : Int) (so : Option Addr) (sc : Nat) (W : World) : Prop where
  lst : Boxed W B 22 (.slice lo l.length lc)
  stop : Boxed W (B + 1) 3 (.int .i64 stop)
  res : Boxed W (B + 1 + 1) 4 (.bool false)
  fn : Boxed W Bs 41 (.func (.func 49) #[] #[.pointer (some ⟨Bl, 0, none⟩)])
  each : EachAt Bl so sc (nrm l) W
  rd : RdR W lo l
theorem KitE.below {B Bl Bs : Nat} {lo : Option Addr} {lc : Nat} {l : List Rg} {stop : Int} {so : Option Addr} {sc : Nat} {W W' : World} (h : KitE B Bl Bs lo lc l stop so sc W) (hB : Below W.heap.size W W') : KitE B Bl Bs lo lc l stop so sc W' :=
  ⟨boxed_belowE h.lst hB h.lst.lt, boxed_belowE h.stop hB h.stop.lt, boxed_belowE h.res hB h.res.lt, boxed_belowE h.fn hB h.fn.lt, h.each.below hB (Nat.le_refl _), h.rd.below hB⟩

set_option maxHeartbeats 4000000 in
set_option maxRecDepth 100000 in
theorem each_long (lo : Option Addr) (lc : Nat) (l : List Rg) (stop : Int) (w : World) (hT : Lib.Utf8Tabs 0 1 w) (h2 : 2 ≤ w.heap.size) (hlen : (1500 : Int) < l.length) :
    CallsIn Fence.wide 9 Tryd.prog 7 #[.slice lo l.length lc, .int .i64 stop] w fun e w' => e = .returned (.bool true) ∧ Below w.heap.size w w' := by
  have HT := hid hT
  clear hT
  obtain ⟨U, hU⟩ : ∃ U, U = ((w.alloc (.cells #[.slice lo l.length lc] 22)).alloc (.cells #[.int .i64 stop] 3)).alloc (.cells #[.bool false] 4) := ⟨_, rfl⟩
  have HBU := hid (show Below w.heap.size w U by rw [hU]; exact (((Below.refl _ w).alloc (Nat.le_refl _) _).alloc (by simp) _).alloc (by simp; omega) _)
  have HBR := hid (show Boxed U (w.heap.size + 1 + 1) 4 (.bool false) by rw [hU]; have h := Boxed.new ((w.alloc (.cells #[.slice lo l.length lc] 22)).alloc (.cells #[.int .i64 stop] 3)) 4 (.bool false); simp only [World.size_alloc] at h; exact h)
  have HTU := hid (tabs_below HT.out h2 HBU.out)
  have hUs : 2 ≤ U.heap.size := by have := HBU.out.size; omega
  have HU := hid hU
  clear hU
  refine callsIn_of_wp_marks Tryd.func7 rfl trivial ?_ rfl
  simp only [Tryd.ntmps7, List.size_toArray, List.length_cons, List.length_nil, Nat.reduceAdd, Nat.reduceSub, Array.replicate_succ, Array.replicate_zero, List.push_toArray, List.append_toArray, List.nil_append, List.cons_append]
  gi_wp2_with (refine ⟨trivial, ?_⟩; gi_at_call 9; rw [← HU.out]; refine (callsIn_wide.2 (live_any U (by exact HTU.out) (by exact hUs))).mono ?_; rintro e w9 ⟨rfl, hb9⟩; have hB9 := boxed_belowE HBR.out hb9 HBR.out.lt; have cR := hB9.cell; have fR := hB9.frozen; have HB9 := hid hb9; have HR9 := hid hB9; clear hb9 hB9)
  have hbf : Below w.heap.size w (w9.setCell ⟨w.heap.size + 1 + 1, 0, none⟩ (.bool true)) := (HBU.out.trans (HB9.out.mono HBU.out.size)).setCell (p := ⟨w.heap.size + 1 + 1, 0, none⟩) (by simp; omega) _
  have hc5 := (HR9.out.set (.bool true)).cell
  refine ⟨.bool true, ?_, rfl, hbf⟩
  simp [results, Tryd.f7, go_sem, hc5]

theorem tail_norm {Bn A n : Nat} {wr W Z : World} {L pre : List Int} {y : Int} {E : List Int → World → Prop} {a : Act} (hA : KpA Bn W Z) (hb : Boxed Z Bn 3 (.int .i64 n)) (hB : Below Bn wr Z) (hn : n = pre.length) :
    ownPostG A (KpB Bn) (fun pre W' => Boxed W' Bn 3 (.int .i64 pre.length) ∧ Below Bn wr W') (ixE L 2 E) (pre ++ [y]) W .normal a (Z.setCell ⟨Bn, 0, none⟩ (.int .i64 (n + 1))) :=
  ⟨(hA.trans (KpA.set hb _)).from _, (hA.trans (KpA.set hb _)).kpB, by rw [List.length_append, ← hn]; exact hb.set _, hB.setCell (p := ⟨Bn, 0, none⟩) (Nat.le_refl _) _⟩
theorem tail_exit {Bn A n : Nat} {wr W Z : World} {L pre : List Int} {y : Int} {I : List Int → World → Prop} {a : Act} (hA : KpA Bn W Z) (hb : Boxed Z Bn 3 (.int .i64 n)) (hB : Below Bn wr Z) (hn : (60 : Int) < n + 1) :
    ownPostG A (KpB Bn) I (ixE L 2 (fun _ W' => (∃ q : Int, 60 < q ∧ Boxed W' Bn 3 (.int .i64 q)) ∧ Below Bn wr W')) (pre ++ [y]) W (.exit 2) a (Z.setCell ⟨Bn, 0, none⟩ (.int .i64 (n + 1))) :=
  ⟨(hA.trans (KpA.set hb _)).from _, .inr ⟨rfl, ⟨_, hn, hb.set _⟩, hB.setCell (p := ⟨Bn, 0, none⟩) (Nat.le_refl _) _⟩⟩

theorem in_norm {Bn bk A k : Nat} {wr Y W Z : World} {L pre : List Int} {y : Int} {E : List Int → World → Prop} {a : Act} (hz : Below W.heap.size W Z) (hb : Boxed W bk 3 (.int .i64 k)) (hs : bk < W.heap.size) (hB : Below Bn wr W) (hA : KpA bk Y W) (hbk : Bn ≤ bk) (hn : k = pre.length) :
    ownPostG A (KpB bk) (fun pre W' => Boxed W' bk 3 (.int .i64 pre.length) ∧ (Below Bn wr W' ∧ KpA bk Y W')) (ixE L 4 E) (pre ++ [y]) W .normal a (Z.setCell ⟨bk, 0, none⟩ (.int .i64 (k + 1))) := by
  have h1 := boxed_belowE hb hz hs
  have h2 : KpA bk W (Z.setCell ⟨bk, 0, none⟩ (.int .i64 (k + 1))) := (KpA.below hz).trans (KpA.set h1 _)
  exact ⟨h2.from _, h2.kpB, by rw [List.length_append, ← hn]; exact h1.set _, (hB.trans (hz.mono (by omega))).setCell (p := ⟨bk, 0, none⟩) hbk _, hA.trans h2⟩
theorem in_exit {Bn bk A k : Nat} {wr Y W Z : World} {L pre : List Int} {y : Int} {I : List Int → World → Prop} {a : Act} (hz : Below W.heap.size W Z) (hb : Boxed W bk 3 (.int .i64 k)) (hs : bk < W.heap.size) (hB : Below Bn wr W) (hA : KpA bk Y W) (hbk : Bn ≤ bk) :
    ownPostG A (KpB bk) I (ixE L 4 (fun _ W' => Below Bn wr W' ∧ KpA bk Y W')) (pre ++ [y]) W (.exit 4) a (Z.setCell ⟨bk, 0, none⟩ (.int .i64 (k + 1))) := by
  have h1 := boxed_belowE hb hz hs
  have h2 : KpA bk W (Z.setCell ⟨bk, 0, none⟩ (.int .i64 (k + 1))) := (KpA.below hz).trans (KpA.set h1 _)
  exact ⟨h2.from _, .inr ⟨rfl, (hB.trans (hz.mono (by omega))).setCell (p := ⟨bk, 0, none⟩) hbk _, hA.trans h2⟩⟩

set_option maxHeartbeats 4000000 in
set_option maxRecDepth 100000 in
theorem each_in (lo : Option Addr) (lc : Nat) (l : List Rg) (stop : Int) (w : World) (hT : Lib.Utf8Tabs 0 1 w) (h2 : 2 ≤ w.heap.size) (hlc : lo = none → lc = 0) (hl : RdR w lo l) (hlen : ¬ (1500 : Int) < l.length) :
    CallsIn Fence.wide 9 Tryd.prog 7 #[.slice lo l.length lc, .int .i64 stop] w fun e w' => e = .returned (.bool true) ∧ Below w.heap.size w w' := by
  have HT := hid hT
  have hnl : l.length ≤ 1500 := by omega
  have hsl := nrm_len l
  obtain ⟨U, hU⟩ : ∃ U, U = ((w.alloc (.cells #[.slice lo l.length lc] 22)).alloc (.cells #[.int .i64 stop] 3)).alloc (.cells #[.bool false] 4) := ⟨_, rfl⟩
  have hUs : U.heap.size = w.heap.size + 3 := by rw [hU]; simp
  have HBU := hid (show Below w.heap.size w U by rw [hU]; exact (((Below.refl _ w).alloc (Nat.le_refl _) _).alloc (by simp) _).alloc (by simp; omega) _)
  have HU0 := hid (show Boxed U w.heap.size 22 (.slice lo l.length lc) by rw [hU]; exact ((Boxed.new w 22 (.slice lo l.length lc)).alloc _).alloc _)
  have HU1 := hid (show Boxed U (w.heap.size + 1) 3 (.int .i64 stop) by rw [hU]; have h := (Boxed.new (w.alloc (.cells #[.slice lo l.length lc] 22)) 3 (.int .i64 stop)).alloc (.cells #[.bool false] 4); simp only [World.size_alloc] at h; exact h)
  have HU2 := hid (show Boxed U (w.heap.size + 1 + 1) 4 (.bool false) by rw [hU]; have h := Boxed.new ((w.alloc (.cells #[.slice lo l.length lc] 22)).alloc (.cells #[.int .i64 stop] 3)) 4 (.bool false); simp only [World.size_alloc] at h; exact h)
  have HRU := hid (hl.below HBU.out)
  have HOW := hid (own_any lo lc l U HRU.out hlc (by omega))
  have HU := hid hU
  clear hU hT hlc hl
  refine callsIn_of_wp_marks Tryd.func7 rfl trivial ?_ rfl
  simp only [Tryd.ntmps7, List.size_toArray, List.length_cons, List.length_nil, Nat.reduceAdd, Nat.reduceSub, Array.replicate_succ, Array.replicate_zero, List.push_toArray, List.append_toArray, List.nil_append, List.cons_append]
  gi_wp2_with (refine ⟨trivial, ?_⟩; gi_at_call 10; rw [← HU.out]; refine (callsIn_wide.2 HOW.out).mono ?_; rintro e w1 ⟨g, cap, rfl, ho1, hwg, hb1⟩; have HO1 := hid ho1; have HB1 := hid hb1; clear ho1 hb1)
  have hs1 := HB1.out.size
  have hg1 := HO1.out.lt
  have HEA := hid (each_any (some ⟨g, 0, none⟩) cap l w1 HO1.out.reads.left (by omega))
  clear HOW HU
  gi_wp2_with (refine ⟨trivial, ?_⟩; gi_at_call 33; refine (callsIn_wide.2 HEA.out).mono ?_; rintro e w2 ⟨so, sc, rfl, he2, hso, hb2⟩; have HE2 := hid he2; have HSO := hid hso; have HB2 := hid hb2; clear he2 hso hb2)
  have hs2 := HB2.out.size
  have hbl2 := HE2.out.bl.lt
  have HG2 := hid (show ∃ cur, w2.heap[g]? = some (.cells cur 30 (0, 0)) ∧ l.length * 2 ≤ cur.size from by
    have hro := HO1.out.room
    rcases HO1.out.row.2 with ⟨h1, _⟩ | ⟨gn, cc, cur, hv, hB, hg, h4, _, h6, _⟩
    · cases h1
    · injection hv with hv1 hv2 hv3
      injection hv1 with hv1
      injection hv1 with hv1 _ _
      subst hv1
      exact ⟨cur, (HB2.out.block g hg1).trans hg, by rw [h6]; omega⟩)
  gi_wp2_with fail
  obtain ⟨Bl, hBl⟩ : ∃ Bl, Bl = w1.heap.size := ⟨_, rfl⟩
  obtain ⟨Bs, hBs⟩ : ∃ Bs, Bs = w2.heap.size := ⟨_, rfl⟩
  obtain ⟨w3, hw3⟩ : ∃ w3, w3 = w2.alloc (.cells #[.func (.func 49) #[] #[.pointer (some ⟨Bl, 0, none⟩)]] 41) := ⟨_, rfl⟩
  have hb23 : Below w2.heap.size w2 w3 := by rw [hw3]; exact (Below.refl _ w2).alloc (Nat.le_refl _) _
  have hs3 := hb23.size
  have HE3 := hid (HE2.out.below hb23 (Nat.le_refl _))
  have HS3 := hid (show Boxed w3 Bs 41 (.func (.func 49) #[] #[.pointer (some ⟨Bl, 0, none⟩)]) by rw [hw3, hBs]; exact Boxed.new _ _ _)
  have HB3 := hid (HB1.out.trans ((HB2.out.mono hs1).trans (hb23.mono (by omega))))
  have HG3 := hid (show ∃ cur, w3.heap[g]? = some (.cells cur 30 (0, 0)) ∧ l.length * 2 ≤ cur.size from by
    obtain ⟨cur, h1, h2⟩ := HG2.out
    exact ⟨cur, (hb23.block g (by omega)).trans h1, h2⟩)
  have HGT := hid (show ∀ a : Addr, so = some a → g < a.block from fun a ha => by have := HSO.out a ha; omega)
  rw [← hBl, ← hBs, ← hw3]
  rw [← hBl] at HE3 hg1 hs1
  have hgBs : g < Bs := by omega
  clear hw3 hb23 HG2 HE2 HEA HB2 HB1 HO1 HSO hBs hBl
  gi_loopw [7] (fun i wq => ∃ j : Nat, i = .int .i64 j ∧ j ≤ l.length ∧ Hid (KpA g w3 wq) ∧ Hid (Below U.heap.size U wq) ∧ Hid (∃ cur, wq.heap[g]? = some (.cells cur 30 (0, 0)) ∧ l.length * 2 ≤ cur.size)) (fun i _ => l.length - (intOf i).toNat)
  case atStart => exact ⟨0, rfl, by omega, KpA.refl _ _, HB3, HG3⟩
  case round =>
    obtain ⟨j, rfl, hj, HKq, HBq, HGq⟩ := hrel
    by_cases hjl : j < l.length
    · obtain ⟨cur, hgc, hcs⟩ := HGq.out
      have q0 : wr.cell? ⟨g, j * 2, none⟩ = some (cur[j * 2]'(by omega)) := by rw [cell_of_row wr g (j * 2) _ 30 (0, 0) hgc]; exact Array.getElem?_eq_getElem _
      have q1 : wr.cell? ⟨g, j * 2 + 1, none⟩ = some (cur[j * 2 + 1]'(by omega)) := by rw [cell_of_row wr g (j * 2 + 1) _ 30 (0, 0) hgc]; exact Array.getElem?_eq_getElem _
      have f0 := frozen_of_row wr g (j * 2) _ 30 hgc
      have f1 := frozen_of_row wr g (j * 2 + 1) _ 30 hgc
      generalize cur[j * 2]'(by omega) = c0 at q0
      generalize cur[j * 2 + 1]'(by omega) = c1 at q1
      have HGC := hid hgc
      have hgc2 := Lib.heap_setCell_same (i := j * 2) HGC.out (.int .i32 122)
      have HK2 := hid (show ∃ cur, ((wr.setCell ⟨g, j * 2, none⟩ (.int .i32 122)).setCell ⟨g, j * 2 + 1, none⟩ (.int .i32 122)).heap[g]? = some (.cells cur 30 (0, 0)) ∧ l.length * 2 ≤ cur.size from
        ⟨_, Lib.heap_setCell_same (i := j * 2 + 1) hgc2 (.int .i32 122), by simpa using hcs⟩)
      have HA2 := hid ((HKq.out.trans (KpA.setAt (i := j * 2) HGC.out (.int .i32 122))).trans (KpA.setAt (i := j * 2 + 1) hgc2 (.int .i32 122)))
      have HB2' := hid ((HBq.out.setCell (p := ⟨g, j * 2, none⟩) hwg (.int .i32 122)).setCell (p := ⟨g, j * 2 + 1, none⟩) hwg (.int .i32 122))
      clear hgc hgc2 HKq HBq HGq
      gi_wp2
      go_roundw
      case rel => exact ⟨j + 1, by go_num, by omega, HA2, HB2', HK2⟩
      case measure => simp [intOf]; omega
    · have hk := HKq.out
      have HKIT := hid (show KitE w.heap.size Bl Bs lo lc l stop so sc wr from
        { lst := boxed_belowE HU0.out HBq.out HU0.out.lt
          stop := boxed_belowE HU1.out HBq.out HU1.out.lt
          res := boxed_belowE HU2.out HBq.out HU2.out.lt
          fn := (hk.same Bs HS3.out.lt (by omega)).trans HS3.out
          each := HE3.out.keeps hk.size (hk.same Bl HE3.out.bl.lt (by omega)) (fun a ha => by
            obtain ⟨c, fz, hc⟩ := HE3.out.row a ha
            have := HGT.out a ha
            exact hk.same a.block (Array.getElem?_eq_some_iff.1 hc).1 (by omega))
          rd := HRU.out.below HBq.out })
      have HBw := hid (HBU.out.trans (HBq.out.mono (by omega)))
      have hUw := HBq.out.size
      clear hk HKq HBq HGq HE3 HS3 HGT HG3 HB3 HRU HU0 HU1 HU2
      have HBn0 := hid ((Below.refl wr.heap.size wr).alloc (Nat.le_refl _) (.cells #[.int .i64 0] 3))
      have cL := (HKIT.out.below HBn0.out).lst.cell
      have HCT := hid (rcount_any lo lc l _ (HKIT.out.below HBn0.out).rd (by omega))
      have HNn := hid (Boxed.new wr 3 (.int .i64 0))
      have hnz : (wr.alloc (.cells #[.int .i64 0] 3)).heap.size = wr.heap.size + 1 := by simp
      gi_wp2_with (refine ⟨trivial, ?_⟩; gi_at_call 32; refine (callsIn_wide.2 HCT.out).mono ?_; rintro e X0 ⟨rfl, hbx⟩; have HBX := hid hbx; clear hbx; have cE := ((HKIT.out.below HBn0.out).below HBX.out).fn.cell)
      clear cL HCT
      obtain ⟨L, hL⟩ : ∃ L, L = els (nrm l) := ⟨_, rfl⟩
      obtain ⟨ct, hct⟩ : ∃ ct, ct = cntF (nrm l) := ⟨_, rfl⟩
      have hLl : (L.length : Int) = ct := by rw [hL, hct]; exact els_len (nrm_nf l)
      have hctb : 0 ≤ ct ∧ ct ≤ 1114114 := by rw [hct]; exact cnt_nf_bd (nrm_nf l)
      have HAT := hid (show ∀ (n : Nat) (y : Int), L[n]? = some y → atN l n = some y from fun n y h => by rw [atN_els, ← hL]; exact h)
      rw [← hct]
      have HX0 := hid (show Below wr.heap.size wr X0 from HBn0.out.trans (HBX.out.mono (by omega)))
      have HNX := hid (show Boxed X0 wr.heap.size 3 (.int .i64 0) from boxed_belowE HNn.out HBX.out (by omega))
      have HKX := hid (HKIT.out.below HX0.out)
      have hXs : wr.heap.size < X0.heap.size := HNX.out.lt
      obtain ⟨Bn, hBn⟩ : ∃ Bn, Bn = wr.heap.size := ⟨_, rfl⟩
      obtain ⟨wk, hwk⟩ : ∃ wk, wk = wr := ⟨_, rfl⟩
      rw [← hBn] at HX0 HNX hXs ⊢
      have hlt1 : w.heap.size < Bn := by rw [hBn]; exact HKIT.out.lst.lt
      have hlt2 : w.heap.size + 1 < Bn := by rw [hBn]; exact HKIT.out.stop.lt
      have hlt3 : w.heap.size + 1 + 1 < Bn := by rw [hBn]; exact HKIT.out.res.lt
      have hbl3 : Bl < Bn := by rw [hBn]; exact HKIT.out.each.bl.lt
      have HROW := hid (show ∀ a : Addr, so = some a → a.block < Bn from fun a ha => by
        obtain ⟨c, fz, hc⟩ := HKIT.out.each.row a ha
        rw [hBn]; exact (Array.getElem?_eq_some_iff.1 hc).1)
      have HWS := hid hBn
      clear HBn0 HNn HBX hnz hBn hwk hct
      have HLE := hid hL
      refine rfE_H (b := Bn) (L := L) rfl (by omega) (gf := 49) (lb := #[.pointer (some ⟨Bl, 0, none⟩)]) rfl trivial (enters_of Tryd.func49 (by kernel_rfl) rfl)
        (by rw [hL]; exact each_stops _ Bn Bl (by omega) so sc (nrm l) X0 HKX.out.each (nrm_nf l) (by omega) (by omega) (fun a ha => by have := HROW.out a ha; omega) hXs) (Below.refl _ _) rfl 2 10
        (fun pre W' => Boxed W' Bn 3 (.int .i64 pre.length) ∧ Below Bn wr W')
        (fun _ W' => (∃ q : Int, 60 < q ∧ Boxed W' Bn 3 (.int .i64 q)) ∧ Below Bn wr W')
        (OwnFrom.and (Own.from (boxed_own _ _ (fun pre : List Int => Value.int .i64 pre.length)) _) (ownFrom_below (by rw [HWS.out]; omega) (by omega)))
        (OwnFrom.and (fun _ A B row hs hg hr => by obtain ⟨q, hq0, hq⟩ := hs; exact ⟨q, hq0, boxed_own Bn 3 (fun (_ : Unit) => Value.int .i64 q) () A B row hq hg (fun r e => (hr r e).2)⟩) (ownFrom_below (by rw [HWS.out]; omega) (by omega)))
        ⟨HNX.out, HX0.out⟩ ?assign0 ?body0
        (fun W' => (∃ q : Int, (q = ct ∨ 60 < q) ∧ Boxed W' Bn 3 (.int .i64 q)) ∧ Below Bn wr W') (fun _ h => ⟨⟨_, .inl hLl, h.1⟩, h.2⟩) (fun _ _ _ h => ⟨⟨_, .inr h.1.choose_spec.1, h.1.choose_spec.2⟩, h.2⟩) (fun _ _ h => h) ?fin0
      case assign0 =>
        intro lp x W K hK
        dsimp only [encE]
        gi_wp2
        simpa [frE, encE] using hK
      case body0 =>
        rintro lp pre x W hlp ⟨r, hr⟩ ⟨bN, hB⟩ hlt
        have hKw := HKIT.out.below (by rw [← HWS.out]; exact hB)
        obtain ⟨y, hy⟩ : ∃ y, L[pre.length]? = some y := ⟨_, List.getElem?_eq_getElem hlt⟩
        obtain ⟨n, hn⟩ : ∃ n, n = pre.length := ⟨_, rfl⟩
        rw [← hn] at hlt bN hy
        have HN1 := hid hn
        have HY := hid hy
        have HRA := hid (show Calls Tryd.prog 28 #[.slice lo l.length lc, .int .i64 n] W fun e w' => e = .returned (.tuple #[.int .i32 y, .bool true]) ∧ Below W.heap.size W w' from rat_eq lo lc l n (some y) (HAT.out n y hy) W hKw.rd (by omega) (by omega) (by omega))
        have cN := bN.cell
        have cL := hKw.lst.cell
        have HBN := hid bN
        have HB1 := hid hB
        have HKW := hid hKw
        have HR := hid hr
        have hWs : Bn < W.heap.size := bN.lt
        clear hn hy bN hB hKw hr
        dsimp only [frE, encE]
        by_cases exy : y = x
        · subst exy
          by_cases hst : (n : Int) = stop
          · have ts : ((n : Int) == stop) = true := beq_iff_eq.2 hst
            clear hst
            gi_wp2_with (refine ⟨trivial, ?_⟩; gi_at_call 28; refine (CallsIn.inRound lp (callsIn_wide.2 HRA.out)).mono ?_; rintro e y1 ⟨rfl, hb1⟩; have cN1 := (boxed_belowE HBN.out hb1 hWs).cell; have cS1 := (HKW.out.below hb1).stop.cell; have cE1 := ((HKW.out.below hb1).fn.alloc (.cells #[.int .i64 0] 3)).cell; have HY1 := hid hb1; clear hb1)
            clear cN1 cS1 cE1 cN cL HRA ts
            obtain ⟨Y, hYd⟩ : ∃ Y, Y = y1.alloc (.cells #[.int .i64 0] 3) := ⟨_, rfl⟩
            obtain ⟨bk, hbk⟩ : ∃ bk, bk = y1.heap.size := ⟨_, rfl⟩
            have hy1s := HY1.out.size
            have hWY : Below W.heap.size W Y := by rw [hYd]; exact HY1.out.alloc hy1s _
            have HWY := hid hWY
            have HBK := hid (show Boxed Y bk 3 (.int .i64 0) by rw [hYd, hbk]; exact Boxed.new _ _ _)
            have HBY := hid (HB1.out.trans (hWY.mono (by omega)))
            have HNY := hid (boxed_belowE HBN.out hWY hWs)
            have HRY := hid ((hWY.block lp (Array.getElem?_eq_some_iff.1 HR.out).1).trans HR.out)
            have HKY := hid (HKW.out.below hWY)
            have hYs := hWY.size
            have hbkY : bk < Y.heap.size := HBK.out.lt
            have hbkW : W.heap.size ≤ bk := by omega
            have hBk : Bn ≤ bk := by omega
            rw [← hYd, ← hbk]
            clear hYd hbk hWY HY1 hy1s
            refine rfE_N (b := bk) (L := L) (l₀ := lp) (r₀ := r) rfl HRY.out (by omega) (gf := 49) (lb := #[.pointer (some ⟨Bl, 0, none⟩)]) rfl trivial (enters_of Tryd.func49 (by kernel_rfl) rfl)
              (SeqStopsK.inRound lp (by rw [HLE.out]; exact each_stops _ bk Bl (by omega) so sc (nrm l) Y HKY.out.each (nrm_nf l) (by omega) (by omega) (fun a ha => by have := HROW.out a ha; omega) hbkY)) (Below.refl _ _) rfl 4 14
              (fun pre' W' => Boxed W' bk 3 (.int .i64 pre'.length) ∧ (Below Bn wr W' ∧ KpA bk Y W'))
              (fun _ W' => Below Bn wr W' ∧ KpA bk Y W')
              (OwnFrom.and (Own.from (boxed_own _ _ (fun pre : List Int => Value.int .i64 pre.length)) _) (OwnFrom.and (ownFrom_below (by rw [HWS.out]; omega) (by omega)) (ownFrom_kpA (Nat.le_refl _))))
              (OwnFrom.and (ownFrom_below (by rw [HWS.out]; omega) (by omega)) (ownFrom_kpA (Nat.le_refl _)))
              ⟨HBK.out, HBY.out, KpA.refl _ _⟩ ?assign2 ?body2
              (fun W' => Below Bn wr W' ∧ KpA bk Y W') (fun _ h => h.2) (fun _ _ _ h => h) (fun _ _ h => h) ?fin2
            case assign2 =>
              intro lp2 x W' K hK
              dsimp only [encE]
              gi_wp2
              refine Eq.mp (congrArg (fun a => K a W') ?_) hK
              simp [frE, encE]
            case body2 =>
              rintro lp2 pre2 x2 W' hlp2 _ ⟨bK, hB2, hA2⟩ hlt2
              have hK2 := HKIT.out.below (by rw [← HWS.out]; exact hB2)
              obtain ⟨y2, hy2⟩ : ∃ y, L[pre2.length]? = some y := ⟨_, List.getElem?_eq_getElem hlt2⟩
              obtain ⟨k, hk⟩ : ∃ k, k = pre2.length := ⟨_, rfl⟩
              rw [← hk] at hlt2 bK hy2
              have HK1 := hid hk
              have HY2 := hid hy2
              have HRA := hid (show Calls Tryd.prog 28 #[.slice lo l.length lc, .int .i64 k] W' fun e w' => e = .returned (.tuple #[.int .i32 y2, .bool true]) ∧ Below W'.heap.size W' w' from rat_eq lo lc l k (some y2) (HAT.out k y2 hy2) W' hK2.rd (by omega) (by omega) (by omega))
              have cK := bK.cell
              have cL := hK2.lst.cell
              have HBK2 := hid bK
              have HB2 := hid hB2
              have HA2 := hid hA2
              have HK2 := hid hK2
              have hW2s : bk < W'.heap.size := bK.lt
              clear hk hy2 bK hB2 hA2 hK2
              dsimp only [frE, encE]
              by_cases exy : y2 = x2
              · subst exy
                by_cases hk2 : (2 : Int) < k + 1
                · gi_wp2_with (refine ⟨trivial, ?_⟩; gi_at_call 28; refine (CallsIn.inRound lp2 (callsIn_wide.2 HRA.out)).mono ?_; rintro e z1 ⟨rfl, hb1⟩; have cK1 := (boxed_belowE HBK2.out hb1 hW2s).cell; have fK1 := (boxed_belowE HBK2.out hb1 hW2s).frozen; have cK2 := ((boxed_belowE HBK2.out hb1 hW2s).set (.int .i64 (k + 1))).cell; have HZ1 := hid hb1; clear hb1)
                  exact in_exit HZ1.out HBK2.out hW2s HB2.out HA2.out hBk
                · gi_wp2_with (refine ⟨trivial, ?_⟩; gi_at_call 28; refine (CallsIn.inRound lp2 (callsIn_wide.2 HRA.out)).mono ?_; rintro e z1 ⟨rfl, hb1⟩; have cK1 := (boxed_belowE HBK2.out hb1 hW2s).cell; have fK1 := (boxed_belowE HBK2.out hb1 hW2s).frozen; have cK2 := ((boxed_belowE HBK2.out hb1 hW2s).set (.int .i64 (k + 1))).cell; have HZ1 := hid hb1; clear hb1)
                  exact in_norm HZ1.out HBK2.out hW2s HB2.out HA2.out hBk HK1.out
              · have t1 : (x2 != y2) = true := bne_iff_ne.2 (fun e => exy e.symm)
                gi_wp2_with (refine ⟨trivial, ?_⟩; gi_at_call 28; refine (CallsIn.inRound lp2 (callsIn_wide.2 HRA.out)).mono ?_; rintro e z1 ⟨rfl, hb1⟩; have cR := (HK2.out.below hb1).res.cell; have fR := (HK2.out.below hb1).res.frozen; have HZ1 := hid hb1; clear hb1)
                exact ⟨((KpA.below (b := 0) HZ1.out).from _).trans ((KeepsOthers.setCell _ _ _).from _), .inl ⟨rfl, bad_nextE HK1.out HY2.out exy⟩⟩
            case fin2 =>
              rintro W' ⟨hB2, hA2⟩
              have bN2 : Boxed W' Bn 3 (.int .i64 n) := (hA2.same Bn (by omega) (by omega)).trans HNY.out
              have HAW := hid (show KpA Bn W W' from KpA.new HWY.out hbkW hA2)
              have cN2 := bN2.cell
              have fN2 := bN2.frozen
              have cN3 := (bN2.set (.int .i64 (n + 1))).cell
              have HBN2 := hid bN2
              have HB2 := hid hB2
              clear bN2 hB2 hA2
              by_cases h60 : (60 : Int) < n + 1
              · gi_wp2
                exact tail_exit HAW.out HBN2.out HB2.out h60
              · gi_wp2
                exact tail_norm HAW.out HBN2.out HB2.out HN1.out
          · have ts : ((n : Int) == stop) = false := beq_eq_false_iff_ne.2 hst
            clear hst
            by_cases h60 : (60 : Int) < n + 1
            · gi_wp2_with (refine ⟨trivial, ?_⟩; gi_at_call 28; refine (CallsIn.inRound lp (callsIn_wide.2 HRA.out)).mono ?_; rintro e y1 ⟨rfl, hb1⟩; have cN1 := (boxed_belowE HBN.out hb1 hWs).cell; have fN1 := (boxed_belowE HBN.out hb1 hWs).frozen; have cS1 := (HKW.out.below hb1).stop.cell; have cN2 := ((boxed_belowE HBN.out hb1 hWs).set (.int .i64 (n + 1))).cell; have HY1 := hid hb1; clear hb1)
              exact tail_exit (KpA.below HY1.out) (boxed_belowE HBN.out HY1.out hWs) (HB1.out.trans (HY1.out.mono (by omega))) h60
            · gi_wp2_with (refine ⟨trivial, ?_⟩; gi_at_call 28; refine (CallsIn.inRound lp (callsIn_wide.2 HRA.out)).mono ?_; rintro e y1 ⟨rfl, hb1⟩; have cN1 := (boxed_belowE HBN.out hb1 hWs).cell; have fN1 := (boxed_belowE HBN.out hb1 hWs).frozen; have cS1 := (HKW.out.below hb1).stop.cell; have cN2 := ((boxed_belowE HBN.out hb1 hWs).set (.int .i64 (n + 1))).cell; have HY1 := hid hb1; clear hb1)
              exact tail_norm (KpA.below HY1.out) (boxed_belowE HBN.out HY1.out hWs) (HB1.out.trans (HY1.out.mono (by omega))) HN1.out
        · have t1 : (x != y) = true := bne_iff_ne.2 (fun e => exy e.symm)
          gi_wp2_with (refine ⟨trivial, ?_⟩; gi_at_call 28; refine (CallsIn.inRound lp (callsIn_wide.2 HRA.out)).mono ?_; rintro e y1 ⟨rfl, hb1⟩; have cR := (HKW.out.below hb1).res.cell; have fR := (HKW.out.below hb1).res.frozen; have HY1 := hid hb1; clear hb1)
          exact ⟨((KpA.below (b := 0) HY1.out).from _).trans ((KeepsOthers.setCell _ _ _).from _), .inl ⟨rfl, bad_nextE HN1.out HY.out exy⟩⟩
      case fin0 =>
        rintro D W hD ⟨⟨q, hq, bN⟩, hB⟩ hDK
        have hKz := HKIT.out.below (by rw [← HWS.out]; exact hB)
        have cN := bN.cell
        have HBW := hid (HBw.out.trans (hB.mono (by omega)))
        have HTW := hid (tabs_below HT.out h2 HBW.out)
        have hWs : 2 ≤ W.heap.size := by have := HBW.out.size; omega
        have HDK := hid hDK
        have HKZ := hid hKz
        have hDs : D < W.heap.size := (Array.getElem?_eq_some_iff.1 hDK).1
        clear hDK hKz bN hB
        by_cases e1 : q = ct
        · have t1 : (q == ct) = true := beq_iff_eq.2 e1
          gi_wp2_with (refine ⟨trivial, ?_⟩; gi_at_call 9; refine (callsIn_wide.2 (live_any _ (by exact HTW.out) (by exact hWs))).mono ?_; rintro e w9 ⟨rfl, hb9⟩; have cR := (HKZ.out.below hb9).res.cell; have fR := (HKZ.out.below hb9).res.frozen; have HB9 := hid hb9; clear hb9)
          have hq0 : (w9.setCell ⟨w.heap.size + 1 + 1, 0, none⟩ (.bool true)).heap[D]? = some (.deferred (some [])) := (Below.heap_setCell _ _ _ _ (show D ≠ w.heap.size + 1 + 1 by omega)).trans ((HB9.out.block D hDs).trans HDK.out)
          have hc5 := (((HKZ.out.below HB9.out).res.set (.bool true)).kept (grownBy_putObj' _ D (.deferred none)) (fun e => by cases e; omega)).cell
          have hbf : Below w.heap.size w ((w9.setCell ⟨w.heap.size + 1 + 1, 0, none⟩ (.bool true)).putObj D (.deferred none)) :=
            (((HBW.out.trans (HB9.out.mono (by have := HBW.out.size; omega))).setCell (p := ⟨w.heap.size + 1 + 1, 0, none⟩) (by simp; omega) _).trans (belowK_b (w := w) (Nat.le_refl _) _ D _ _ (by omega) hq0 rfl rfl))
          refine ⟨by simp, .inl ⟨_, _, rfl, run_takeDeferred hq0, ?_⟩⟩
          refine ⟨.bool true, ?_, rfl, hbf⟩
          simp [results, Tryd.f7, go_sem, hc5]
        · have t1 : (q == ct) = false := beq_eq_false_iff_ne.2 e1
          have t2 : (60 : Int) < q := by omega
          gi_wp2_with (refine ⟨trivial, ?_⟩; gi_at_call 9; refine (callsIn_wide.2 (live_any _ (by exact HTW.out) (by exact hWs))).mono ?_; rintro e w9 ⟨rfl, hb9⟩; have cR := (HKZ.out.below hb9).res.cell; have fR := (HKZ.out.below hb9).res.frozen; have HB9 := hid hb9; clear hb9)
          have hq0 : (w9.setCell ⟨w.heap.size + 1 + 1, 0, none⟩ (.bool true)).heap[D]? = some (.deferred (some [])) := (Below.heap_setCell _ _ _ _ (show D ≠ w.heap.size + 1 + 1 by omega)).trans ((HB9.out.block D hDs).trans HDK.out)
          have hc5 := (((HKZ.out.below HB9.out).res.set (.bool true)).kept (grownBy_putObj' _ D (.deferred none)) (fun e => by cases e; omega)).cell
          have hbf : Below w.heap.size w ((w9.setCell ⟨w.heap.size + 1 + 1, 0, none⟩ (.bool true)).putObj D (.deferred none)) :=
            (((HBW.out.trans (HB9.out.mono (by have := HBW.out.size; omega))).setCell (p := ⟨w.heap.size + 1 + 1, 0, none⟩) (by simp; omega) _).trans (belowK_b (w := w) (Nat.le_refl _) _ D _ _ (by omega) hq0 rfl rfl))
          refine ⟨by simp, .inl ⟨_, _, rfl, run_takeDeferred hq0, ?_⟩⟩
          refine ⟨.bool true, ?_, rfl, hbf⟩
          simp [results, Tryd.f7, go_sem, hc5]

theorem each_walk (lo : Option Addr) (lc : Nat) (l : List Rg) (stop : Int) (w : World) (hT : Lib.Utf8Tabs 0 1 w) (h2 : 2 ≤ w.heap.size) (hlc : lo = none → lc = 0) (hl : RdR w lo l) :
    Calls Tryd.prog 7 #[.slice lo l.length lc, .int .i64 stop] w fun e w' => e = .returned (.bool true) ∧ Below w.heap.size w w' := by
  by_cases h : (1500 : Int) < l.length
  · exact callsIn_wide.1 (each_long lo lc l stop w hT h2 h)
  · exact callsIn_wide.1 (each_in lo lc l stop w hT h2 hlc hl h)
end Go.Proofs.YtfahbdlcokoghaaDoor
