/- The contract of reach (package places) at short texts: it counts from a kept place on. -/
import Derived.Test.YtffbdnlfknomnaaDoorPcRch0
import Derived.Test.YtffbdnlfknomnaaDoorPcNew
namespace Go.Proofs.YtffbdnlfknomnaaDoor.Wt
open Go.RowKit Go.Shelf
attribute [local go_sem] Oper.semAt_some

theorem on_end (l : List UInt8) (p : Int) (h : (l.length : Int) ≤ p) : onE l p = l.length := by
  unfold onE
  rw [if_neg (by omega), if_pos h]
theorem Cb.dr {W : World} {B : Nat} {c : Array Value} {t : Nat} (h : Cb W B c t) : Cb W.drew B c t := h
/-- Places in the whole text. -/
def shP (p : Nat) {s : List UInt8} (pre : List (Pn s)) : List Nat := pre.map fun y => p + y.v
def lsP (p : Nat) {s : List UInt8} (pre : List (Pn s)) : Nat := (shP p pre).getLastD p
/-- None of these ends the count. -/
def NoS (n at_ : Int) (p : Nat) {s : List UInt8} (pre : List (Pn s)) : Prop := ∀ (i q : Nat), (shP p pre)[i]? = some q → ¬ (at_ ≤ (q : Int) ∨ ((0 + i : Nat) : Int) = n)
theorem NoS.snoc {n at_ : Int} {p : Nat} {s : List UInt8} {pre : List (Pn s)} {x : Pn s} (h : NoS n at_ p pre) (h1 : ¬ at_ ≤ ((p + x.v : Nat) : Int)) (h2 : ¬ ((pre.length : Nat) : Int) = n) : NoS n at_ p (pre ++ [x]) := fun i q hq => by
  unfold shP at hq
  rw [List.map_append, List.getElem?_append] at hq
  split at hq
  · exact h i q hq
  · rename_i hi
    rw [List.length_map] at hi hq
    rcases Nat.lt_or_ge pre.length i with hlt | hge
    · rw [List.getElem?_eq_none (by simp; omega)] at hq; cases hq
    · have e : i = pre.length := by omega
      subst e
      simp at hq
      subst hq
      intro hh
      rcases hh with hh | hh
      · exact h1 hh
      · exact h2 (by omega)
theorem cb6 (w : World) (c0 c1 c2 c3 c4 c5 : Array Value) (t0 t1 t2 t3 t4 t5 : Nat) :
    Cb ((((((w.alloc (.cells c0 t0)).alloc (.cells c1 t1)).alloc (.cells c2 t2)).alloc (.cells c3 t3)).alloc (.cells c4 t4)).alloc (.cells c5 t5)) w.heap.size c0 t0 ∧
    Cb ((((((w.alloc (.cells c0 t0)).alloc (.cells c1 t1)).alloc (.cells c2 t2)).alloc (.cells c3 t3)).alloc (.cells c4 t4)).alloc (.cells c5 t5)) (w.heap.size + 1) c1 t1 ∧
    Cb ((((((w.alloc (.cells c0 t0)).alloc (.cells c1 t1)).alloc (.cells c2 t2)).alloc (.cells c3 t3)).alloc (.cells c4 t4)).alloc (.cells c5 t5)) (w.heap.size + 1 + 1) c2 t2 ∧
    Cb ((((((w.alloc (.cells c0 t0)).alloc (.cells c1 t1)).alloc (.cells c2 t2)).alloc (.cells c3 t3)).alloc (.cells c4 t4)).alloc (.cells c5 t5)) (w.heap.size + 1 + 1 + 1) c3 t3 ∧
    Cb ((((((w.alloc (.cells c0 t0)).alloc (.cells c1 t1)).alloc (.cells c2 t2)).alloc (.cells c3 t3)).alloc (.cells c4 t4)).alloc (.cells c5 t5)) (w.heap.size + 1 + 1 + 1 + 1) c4 t4 ∧
    Cb ((((((w.alloc (.cells c0 t0)).alloc (.cells c1 t1)).alloc (.cells c2 t2)).alloc (.cells c3 t3)).alloc (.cells c4 t4)).alloc (.cells c5 t5)) (w.heap.size + 1 + 1 + 1 + 1 + 1) c5 t5 ∧
    ((((((w.alloc (.cells c0 t0)).alloc (.cells c1 t1)).alloc (.cells c2 t2)).alloc (.cells c3 t3)).alloc (.cells c4 t4)).alloc (.cells c5 t5)).heap.size = w.heap.size + 6 ∧
    Below w.heap.size w ((((((w.alloc (.cells c0 t0)).alloc (.cells c1 t1)).alloc (.cells c2 t2)).alloc (.cells c3 t3)).alloc (.cells c4 t4)).alloc (.cells c5 t5)) := by
  have e0 := Cb.new w c0 t0
  have e1 := Cb.new (w.alloc (.cells c0 t0)) c1 t1
  have e2 := Cb.new ((w.alloc (.cells c0 t0)).alloc (.cells c1 t1)) c2 t2
  have e3 := Cb.new (((w.alloc (.cells c0 t0)).alloc (.cells c1 t1)).alloc (.cells c2 t2)) c3 t3
  have e4 := Cb.new ((((w.alloc (.cells c0 t0)).alloc (.cells c1 t1)).alloc (.cells c2 t2)).alloc (.cells c3 t3)) c4 t4
  have e5 := Cb.new (((((w.alloc (.cells c0 t0)).alloc (.cells c1 t1)).alloc (.cells c2 t2)).alloc (.cells c3 t3)).alloc (.cells c4 t4)) c5 t5
  simp only [World.size_alloc] at e1 e2 e3 e4 e5
  refine ⟨((((e0.alloc _).alloc _).alloc _).alloc _).alloc _, (((e1.alloc _).alloc _).alloc _).alloc _, ((e2.alloc _).alloc _).alloc _, (e3.alloc _).alloc _, e4.alloc _, e5, by simp, ?_⟩
  exact ((((((Below.refl _ _).alloc (Nat.le_refl _) _).alloc (by simp) _).alloc (by simp; omega) _).alloc (by simp; omega) _).alloc (by simp; omega) _).alloc (by simp; omega) _
/-- The result is laid. -/
theorem finish_spot {N D : Nat} {w V : World} {c : Array Value} {t : Nat} (k : Cb V (N + 1 + 1 + 1 + 1) c t) (kb : Below N w V) (hK : V.heap[D]? = some (.deferred (some []))) (hD : N + 4 < D) (u v : Value) :
    Cb ((V.setCell ⟨N + 1 + 1 + 1 + 1, 0, none⟩ u).setCell ⟨N + 1 + 1 + 1 + 1, 1, none⟩ v) (N + 1 + 1 + 1 + 1) ((c.setIfInBounds 0 u).setIfInBounds 1 v) t ∧
    ((V.setCell ⟨N + 1 + 1 + 1 + 1, 0, none⟩ u).setCell ⟨N + 1 + 1 + 1 + 1, 1, none⟩ v).heap[D]? = some (.deferred (some [])) ∧
    Below N w ((V.setCell ⟨N + 1 + 1 + 1 + 1, 0, none⟩ u).setCell ⟨N + 1 + 1 + 1 + 1, 1, none⟩ v) := by
  refine ⟨(k.set 0 u).set 1 v, ?_, (kb.setCell (p := ⟨N + 1 + 1 + 1 + 1, 0, none⟩) (by show N ≤ N + 1 + 1 + 1 + 1; omega) _).setCell (p := ⟨N + 1 + 1 + 1 + 1, 1, none⟩) (by show N ≤ N + 1 + 1 + 1 + 1; omega) _⟩
  rw [Below.heap_setCell _ _ _ D (by show D ≠ N + 1 + 1 + 1 + 1; omega), Below.heap_setCell _ _ _ D (by show D ≠ N + 1 + 1 + 1 + 1; omega)]
  exact hK
set_option maxHeartbeats 4000000 in
set_option maxRecDepth 100000 in
theorem reach_in (m g : Nat) (E : List UInt8 → List Nat) (C : Cnt m g E) (l : List UInt8) (p : Nat) (tl : List Nat) (he : E l = p :: tl) (lo : Int) (sg : Option Addr) (sl sc : Nat) (n at_ : Int) (w : World) (ht : TbW w) (hl : l.length ≤ 100) :
    CallsIn Fence.wide 9 Tryd.prog 69 #[.agg #[.string ⟨l.toArray⟩, .func (.func m) #[] #[], .int .i64 lo, .slice sg sl sc], .agg #[.int .i64 0, .int .i64 p], .int .i64 n, .int .i64 at_] w fun e W' => e = .returned (.agg #[.int .i64 (rch n at_ (E l) 0 p).1, .int .i64 (rch n at_ (E l) 0 p).2]) ∧ Below w.heap.size w W' := by
  have HT := hid ht
  have h2 := ht.two
  have HC := hid C
  have hpl : p < l.length := C.scl.lt l p (by rw [he]; exact List.mem_cons_self ..)
  obtain ⟨L, hL⟩ := pn_all (l.drop p) (E (l.drop p)) (C.scl.lt _)
  have HEL := hid (show E l = shP p L by
    rw [← C.scl.cut l p tl he, ← hL]; unfold shP; rw [List.map_map]; rfl)
  have HLEN := hid (show L.length ≤ (l.drop p).length by
    have h1 := rise_len (C.scl.rise (l.drop p)) (C.scl.lt _)
    rw [← hL, List.length_map] at h1
    exact h1)
  have HL := hid hL
  have em := C.em
  clear ht C hL he
  refine callsIn_of_wp_marks Tryd.func69 rfl trivial ?_ rfl
  simp only [Tryd.ntmps69, List.size_toArray, List.length_cons, List.length_nil, Nat.reduceAdd, Nat.reduceSub, Array.replicate_succ, Array.replicate_zero, List.push_toArray, List.append_toArray, List.nil_append, List.cons_append]
  gi_wp2_with fail
  refine wpIn_wide.2 (wp_scope_straight ((wpIn_wide (n := 9)).1 ?_))
  gi_wp2_with fail
  obtain ⟨b0, b1, b2, b3, b4, b5, hs6, hB6⟩ := cb6 w #[.string ⟨l.toArray⟩, .func (.func m) #[] #[], .int .i64 lo, .slice sg sl sc] #[.int .i64 0, .int .i64 p] #[.int .i64 n] #[.int .i64 at_] #[.int .i64 0, .int .i64 0] #[.int .i64 p] 75 104 3 3 104 3
  obtain ⟨w6, hw6⟩ : ∃ w6, w6 = ((((((w.alloc (.cells #[.string ⟨l.toArray⟩, .func (.func m) #[] #[], .int .i64 lo, .slice sg sl sc] 75)).alloc (.cells #[.int .i64 0, .int .i64 p] 104)).alloc (.cells #[.int .i64 n] 3)).alloc (.cells #[.int .i64 at_] 3)).alloc (.cells #[.int .i64 0, .int .i64 0] 104)).alloc (.cells #[.int .i64 p] 3)) := ⟨_, rfl⟩
  rw [← hw6] at b0 b1 b2 b3 b4 b5 hs6 hB6 ⊢
  clear hw6
  have HT6 := hid (HT.out.below hB6)
  refine ⟨trivial, (callsIn_wide.2 (on_any l ((p : Int) + 128 - 1) w6 (by omega) HT6.out.tabs HT6.out.two)).mono ?_⟩
  rintro e w7 ⟨rfl, be⟩
  rw [on_end l _ (by omega)]
  have HN : ∃ N, N = w.heap.size := ⟨_, rfl⟩
  obtain ⟨N, hN⟩ := HN
  have HB0 := hid (b0.below be)
  have HB1 := hid (b1.below be)
  have HB2 := hid (b2.below be)
  have HB3 := hid (b3.below be)
  have HB4 := hid (b4.below be)
  have HB5 := hid (b5.below be)
  have HBW := hid (hB6.trans (be.mono (by omega)))
  have HT7 := hid (HT6.out.below be)
  have hs7 : N + 6 ≤ w7.heap.size := by have := be.size; omega
  rw [← hN] at HB0 HB1 HB2 HB3 HB4 HB5 HBW h2 ⊢
  have HNW := hid hN
  clear b0 b1 b2 b3 b4 b5 hs6 hB6 be HT6 hN HT
  have hn9 : (1 : Nat) ≤ 9 := by omega
  have hple : (p : Int) ≤ (l.length : Int) := by omega
  gi_wp2_with fail
  refine wpIn_wide.2 (wp_label ?_)
  gi_wp2_with fail
  refine wpIn_wide.2 ?_
  have c0 := HB0.out.cell 0
  have c1 := HB0.out.cell 1
  have c5 := HB5.out.cell 0
  simp only [List.getElem?_toArray, List.getElem?_cons_zero, List.getElem?_cons_succ] at c0 c1 c5
  refine wp_region_mix [(0, true), (1, true), (2, true), (3, true), (4, true), (5, true), (6, true), (7, false)] (fun w' => Cb w' N #[.string ⟨l.toArray⟩, .func (.func m) #[] #[], .int .i64 lo, .slice sg sl sc] 75 ∧ Cb w' (N + 1 + 1 + 1 + 1 + 1) #[.int .i64 p] 3) (fun _ => false) (by kernel_rfl) (by kernel_rfl) (fun j hj => by cases hj) rfl (by kernel_rfl) ⟨HB0.out.dr, HB5.out.dr⟩ ?_
  iterate 7 (refine mix_free ?_ rfl (by kernel_rfl) (fun w' hS => ?_) ?_; (rotate_left; (have z0 := hS.1.cell 0; have z1 := hS.1.cell 1; have z5 := hS.2.cell 0; simp only [List.getElem?_toArray, List.getElem?_cons_zero, List.getElem?_cons_succ] at z0 z1 z5; go_simp; with_reducible rfl); rotate_left))
  refine mix_go rfl (by kernel_rfl) fun KK hKK => ?_
  go_simp
  rw [ext_drop]
  refine (HC.out.made (l.drop p) _).mono ?_
  rintro e w8 ⟨rfl, rfl⟩
  refine hKK _ _ (fun _ => ⟨HB0.out.dr.alloc _, HB5.out.dr.alloc _⟩) ?_
  clear hKK KK
  refine mix_end (NoPanic.normal ?_)
  rename_i hKA
  refine hKA _ _ ?_
  clear hKA
  have HE8 := hid (show WaAt w7.heap.size (l.drop p) (w7.drew.alloc (.cells #[.string ⟨(l.drop p).toArray⟩] 9)) from ⟨Boxed.new w7.drew 9 _, HT7.out.below ((Below.refl _ _).drew.alloc (Nat.le_refl _) _)⟩)
  have hB8 : Below w7.heap.size w7 (w7.drew.alloc (.cells #[.string ⟨(l.drop p).toArray⟩] 9)) := (Below.refl _ _).drew.alloc (Nat.le_refl _) _
  have hs8 : (w7.drew.alloc (.cells #[.string ⟨(l.drop p).toArray⟩] 9)).heap.size = w7.heap.size + 1 := by simp
  obtain ⟨w8, hw8⟩ : ∃ w8, w8 = w7.drew.alloc (.cells #[.string ⟨(l.drop p).toArray⟩] 9) := ⟨_, rfl⟩
  rw [← hw8] at HE8 hB8 hs8 ⊢
  have d1 := HB1.out.below hB8
  have d2 := HB2.out.below hB8
  have d3 := HB3.out.below hB8
  have d4 := HB4.out.below hB8
  have d5 := HB5.out.below hB8
  have HBW8 := hid (HBW.out.trans (hB8.mono (by omega)))
  have HD := hid (And.intro d1 (And.intro d2 (And.intro d3 (And.intro d4 d5))))
  have hT8 : 2 ≤ w8.heap.size := by omega
  obtain ⟨M, hM⟩ : ∃ M, M = w7.heap.size := ⟨_, rfl⟩
  have hdM : w7.drew.heap.size = M := by rw [hM]; rfl
  rw [hdM]
  rw [← hM] at HE8 hs8 hs7
  clear hw8 d1 d2 d3 d4 d5 c0 c1 c5 hB8 hM hdM
  gi_wp2
  refine rangeO rfl (by omega) rfl trivial HC.out.eg (HC.out.seq (9 - 1) M (l.drop p) L w8 (by omega) HL.out HE8.out (by rw [List.length_drop]; omega)) Kt_t (Kt_b (by omega)) (Below.refl _ _) (fun _ => rfl)
    (fun pre V => (Cb V (N + 1) #[.int .i64 (pre.length : Nat), .int .i64 (lsP p pre : Nat)] 104 ∧ Cb V (N + 1 + 1) #[.int .i64 n] 3 ∧ Cb V (N + 1 + 1 + 1) #[.int .i64 at_] 3 ∧ Cb V (N + 1 + 1 + 1 + 1) #[.int .i64 0, .int .i64 0] 104 ∧ Cb V (N + 1 + 1 + 1 + 1 + 1) #[.int .i64 p] 3 ∧ Below N w V ∧ w8.heap.size ≤ V.heap.size) ∧ NoS n at_ p pre)
    (fun c pre V => c = .exit 0 ∧ ∃ pr x, pre = pr ++ [x] ∧ NoS n at_ p pr ∧ (at_ ≤ ((p + x.v : Nat) : Int) ∨ ((0 + pr.length : Nat) : Int) = n) ∧ Cb V (N + 1) #[.int .i64 (pr.length : Nat), .int .i64 ((p : Int) + x.v)] 104 ∧ Cb V (N + 1 + 1 + 1 + 1) #[.int .i64 0, .int .i64 0] 104 ∧ Below N w V ∧ w8.heap.size ≤ V.heap.size) ?own ?ownx
    ⟨⟨HD.out.1, HD.out.2.1, HD.out.2.2.1, HD.out.2.2.2.1, HD.out.2.2.2.2, HBW8.out, Nat.le_refl _⟩, fun i q h => by simp [shP] at h⟩
    (fun x a' _ => a' = { tmps := #[.agg #[.string ⟨l.toArray⟩, .func (.func m) #[] #[], .int .i64 lo, .slice sg sl sc], .agg #[.int .i64 0, .int .i64 p], .int .i64 n, .int .i64 at_, .pointer (some ⟨N, 0, none⟩), .pointer (some ⟨N + 1, 0, none⟩), .pointer (some ⟨N + 1 + 1, 0, none⟩), .pointer (some ⟨N + 1 + 1 + 1, 0, none⟩), .pointer (some ⟨N + 1 + 1 + 1 + 1, 0, none⟩), .pointer (some ⟨N + 1 + 1 + 1 + 1 + 1, 0, none⟩), .int .i64 l.length, .int .i64 (x.v : Nat), .pointer (some ⟨N + 1, 1, none⟩), .int .i64 p, .pointer (some ⟨N, 0, none⟩), .string ⟨l.toArray⟩, .int .i64 p, .int .i64 ((p : Int) + 128), .int .i64 ((p : Int) + 128 - 1), .int .i64 l.length, .pointer (some ⟨N, 1, none⟩), .func (.func m) #[] #[], .pointer (some ⟨N, 0, none⟩), .string ⟨l.toArray⟩, .int .i64 p, .int .i64 l.length, .string ⟨(l.drop p).toArray⟩, .func (.func g) #[] #[.pointer (some ⟨M, 0, none⟩)], .int .i64 (x.v : Nat), undef, undef, undef, undef, undef, undef, undef, undef, undef, undef, undef, undef, undef, undef, undef, undef, undef, undef], defers := [] })
    (fun _ _ _ _ _ _ h _ _ => h) ?assign ?body ?done ?stop
  case own =>
    rintro pre A C row ⟨⟨k1, k2, k3, k4, k5, kb, ks⟩, kn⟩ hg hr
    refine ⟨⟨cb_keep k1 hg hr, cb_keep k2 hg hr, cb_keep k3 hg hr, cb_keep k4 hg hr, cb_keep k5 hg hr, ?_, Nat.le_trans ks hg.size⟩, kn⟩
    refine kb.trans ⟨hg.os, hg.tape, hg.output, hg.size, fun k hk => hg.block k (by omega) fun e => ?_⟩
    have := (hr k e.symm).1
    omega
  case ownx =>
    rintro c pre A C row ⟨e, pr, x, e1, e2, e3, k1, k4, kb, ks⟩ hg hr
    refine ⟨e, pr, x, e1, e2, e3, cb_keep k1 hg hr, cb_keep k4 hg hr, ?_, Nat.le_trans ks hg.size⟩
    refine kb.trans ⟨hg.os, hg.tape, hg.output, hg.size, fun k hk => hg.block k (by omega) fun e => ?_⟩
    have := (hr k e.symm).1
    omega
  case assign =>
    intro lp2 pre x V K hI hK
    dsimp only [encN]
    gi_wp2
    exact hK _ _ (KeepsFrom.refl _ _) (Kt.refl _) hI rfl
  case body =>
    rintro lp2 pre x a' V hlp _ ⟨⟨k1, k2, k3, k4, k5, kb, ks⟩, kn⟩ rfl hlt
    obtain ⟨q, hq⟩ : ∃ q, q = x.v := ⟨_, rfl⟩
    have hxl := x.lt
    rw [List.length_drop, ← hq] at hxl
    have HQ := hid hq
    have hlen : pre.length < 100 := by
      have h1 := HLEN.out
      rw [List.length_drop] at h1
      omega
    obtain ⟨la, hla⟩ : ∃ la, la = lsP p pre := ⟨_, rfl⟩
    rw [← hla] at k1
    rw [← hq]
    have HLA := hid (show lsP p (pre ++ [x]) = p + q by unfold lsP shP; rw [List.map_append, hq]; simp)
    have a1 := k1.cell 0
    have a1' := k1.cell 1
    have a2 := k2.cell 0
    have a3 := k3.cell 0
    have a5 := k5.cell 0
    have f1 := k1.frozen 0
    have f1' := k1.frozen 1
    simp only [List.getElem?_toArray, List.getElem?_cons_zero, List.getElem?_cons_succ] at a1 a1' a2 a3 a5
    have HK := hid (And.intro k1 (And.intro k2 (And.intro k3 (And.intro k4 k5))))
    have HKB := hid kb
    have HKN := hid kn
    clear k1 k2 k3 k4 k5 kb kn hla hq
    have hle1 : (pre.length : Int) + 1 < 1000 := by omega
    have hpq : (p : Int) + q < 1000 := by omega
    obtain ⟨j1, j2, j3, j4, j5⟩ := HK.out
    have y1 : Cb (V.setCell ⟨N + 1, 1, none⟩ (.int .i64 ((p : Int) + q))) (N + 1) #[.int .i64 (pre.length : Nat), .int .i64 ((p : Int) + q)] 104 := j1.set 1 _
    have bd1 := Bd.set (N := N) j1 rfl h2 (by omega) 1 (.int .i64 ((p : Int) + q))
    have HY := hid (And.intro y1 bd1)
    clear j1 j2 j3 j4 j5 y1 bd1
    by_cases hat : at_ ≤ (p : Int) + q
    · gi_wp2
      obtain ⟨y1, bd1⟩ := HY.out
      refine ⟨bd1.others.from _, rfl, pre, x, rfl, HKN.out, .inl (by rw [← HQ.out]; omega), by rw [← HQ.out]; exact y1, HK.out.2.2.2.1.other (by omega) 1 _, HKB.out.trans bd1.low, by have := bd1.low.size; omega⟩
    · by_cases hn' : ((pre.length : Int) == n) = true
      · gi_wp2
        obtain ⟨y1, bd1⟩ := HY.out
        refine ⟨bd1.others.from _, rfl, pre, x, rfl, HKN.out, .inr (by have := beq_iff_eq.1 hn'; omega), by rw [← HQ.out]; exact y1, HK.out.2.2.2.1.other (by omega) 1 _, HKB.out.trans bd1.low, by have := bd1.low.size; omega⟩
      · have hn2 : ((pre.length : Int) == n) = false := by simpa using hn'
        clear hn'
        gi_wp2
        obtain ⟨y1, bd1⟩ := HY.out
        have bd2 := bd1.trans (Bd.set (N := N) y1 rfl h2 (by omega) 0 (.int .i64 ((pre.length : Int) + 1)))
        refine ⟨bd2.others.from _, bd2.kt, ⟨?_, (HK.out.2.1.other (by omega) 1 _).other (by omega) 0 _, (HK.out.2.2.1.other (by omega) 1 _).other (by omega) 0 _, (HK.out.2.2.2.1.other (by omega) 1 _).other (by omega) 0 _, (HK.out.2.2.2.2.other (by omega) 1 _).other (by omega) 0 _, HKB.out.trans bd2.low, by have := bd2.low.size; omega⟩, HKN.out.snoc (by rw [← HQ.out]; omega) (by have := beq_eq_false_iff_ne.1 hn2; omega)⟩
        rw [HLA.out, List.length_append]
        exact y1.set 0 _
  case done =>
    rintro D xs V hD rfl ⟨⟨k1, k2, k3, k4, k5, kb, ks⟩, kn⟩ hK
    have HR := hid (show rch n at_ (E l) 0 p = (xs.length, lsP p xs) by
      have h := rch_go n at_ (shP p xs) [] 0 p kn
      rw [List.append_nil, Nat.zero_add] at h
      rw [HEL.out, h]
      unfold shP lsP
      rw [List.length_map]; rfl)
    obtain ⟨la, hla⟩ : ∃ la, la = lsP p xs := ⟨_, rfl⟩
    rw [← hla] at k1 HR
    clear hla kn
    have a0 := k1.cell 0
    have a1 := k1.cell 1
    have b0 := k4.cell 0
    have b1 := k4.cell 1
    have f0 := k4.frozen 0
    have f1 := k4.frozen 1
    simp only [List.getElem?_toArray, List.getElem?_cons_zero, List.getElem?_cons_succ] at a0 a1 b0 b1
    have HF := hid (finish_spot (N := N) (w := w) k4 kb hK (by omega) (.int .i64 (xs.length : Nat)) (.int .i64 (la : Nat)))
    clear k1 k2 k3 k4 k5 kb hK
    gi_wp2
    obtain ⟨q, hd, hb⟩ := HF.out
    refine ⟨by simp, .inl ⟨_, _, rfl, run_takeDeferred hd, ?_⟩⟩
    refine ⟨_, results_cell_row rfl _ _ (N + 1 + 1 + 1 + 1) 104 #[.int .i64 (xs.length : Nat), .int .i64 (la : Nat)] (0, 0) _ rfl ((World.putObj_heap_other (by omega)).trans q) Tryd.underlying104 rfl (by kernel_rfl), by rw [HR.out], ?_⟩
    rw [← HNW.out]
    exact hb.trans (belowK_b (w := w8) (by omega) _ D _ _ (by omega) hd rfl rfl)
  case stop =>
    rintro D c pre V hD hp ⟨rfl, pr, x, rfl, e2, e3, k1, k4, kb, ks⟩ hK
    obtain ⟨R, hR⟩ := hp
    have HR := hid (show rch n at_ (E l) 0 p = (pr.length, p + x.v) by
      have h := rch_here n at_ (shP p pr) (shP p R) (p + x.v) 0 p e2 (by unfold shP; rw [List.length_map]; exact e3)
      rw [Nat.zero_add] at h
      rw [HEL.out, ← hR, List.append_assoc]
      unfold shP at h ⊢
      rw [List.map_append]
      rw [List.length_map] at h
      exact h)
    obtain ⟨q, hq⟩ : ∃ q, q = x.v := ⟨_, rfl⟩
    rw [← hq] at k1 HR
    clear hq e2 e3 hR
    have a0 := k1.cell 0
    have a1 := k1.cell 1
    have b0 := k4.cell 0
    have b1 := k4.cell 1
    have f0 := k4.frozen 0
    have f1 := k4.frozen 1
    simp only [List.getElem?_toArray, List.getElem?_cons_zero, List.getElem?_cons_succ] at a0 a1 b0 b1
    have HF := hid (finish_spot (N := N) (w := w) k4 kb hK (by omega) (.int .i64 (pr.length : Nat)) (.int .i64 ((p : Int) + q)))
    clear k1 k4 kb hK
    gi_wp2
    obtain ⟨q', hd, hb⟩ := HF.out
    refine ⟨by simp, .inl ⟨_, _, rfl, run_takeDeferred hd, ?_⟩⟩
    refine ⟨_, results_cell_row rfl _ _ (N + 1 + 1 + 1 + 1) 104 #[.int .i64 (pr.length : Nat), .int .i64 ((p : Int) + q)] (0, 0) _ rfl ((World.putObj_heap_other (by omega)).trans q') Tryd.underlying104 rfl (by kernel_rfl), by rw [HR.out]; rfl, ?_⟩
    rw [← HNW.out]
    exact hb.trans (belowK_b (w := w8) (by omega) _ D _ _ (by omega) hd rfl rfl)
theorem reach_any (m g : Nat) (E : List UInt8 → List Nat) (C : Cnt m g E) (l : List UInt8) (p : Nat) (tl : List Nat) (he : E l = p :: tl) (lo : Int) (sg : Option Addr) (sl sc : Nat) (n at_ : Int) (w : World) (ht : TbW w) (hl : l.length ≤ 100) :
    Calls Tryd.prog 69 #[.agg #[.string ⟨l.toArray⟩, .func (.func m) #[] #[], .int .i64 lo, .slice sg sl sc], .agg #[.int .i64 0, .int .i64 p], .int .i64 n, .int .i64 at_] w fun e W' => e = .returned (.agg #[.int .i64 (rch n at_ (E l) 0 p).1, .int .i64 (rch n at_ (E l) 0 p).2]) ∧ Below w.heap.size w W' :=
  callsIn_wide.1 (reach_in m g E C l p tl he lo sg sl sc n at_ w ht hl)
end Go.Proofs.YtffbdnlfknomnaaDoor.Wt
