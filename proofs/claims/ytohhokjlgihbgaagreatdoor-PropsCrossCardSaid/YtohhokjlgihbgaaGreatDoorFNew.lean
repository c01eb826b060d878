/- The contract of New (package props). -/
import Derived.RegionIn
import Derived.Test.YtohhokjlgihbgaaGreatDoorFReadMath
import Derived.Test.YtohhokjlgihbgaaGreatDoorFSplit
import Derived.Test.YtohhokjlgihbgaaGreatDoorFBare
namespace Go.Proofs.YtohhokjlgihbgaaGreatDoor
open Go.RowKit Go.Shelf
attribute [local go_sem] Oper.semAt_some

theorem RdrAt.keepB {B X P K : Nat} {U : List (List UInt8)} {nv : Value} {S : List Tr} {so : Option Addr} {sc : Nat} {w w' : World} (h : RdrAt B X P K U nv S so sc w) (e : ∀ b, b < w.heap.size → (b = X ∨ b = P ∨ b = K ∨ nv.ownBlock = some b ∨ (Value.slice so S.length sc).ownBlock = some b) → w'.heap[b]? = w.heap[b]?) : RdrAt B X P K U nv S so sc w' :=
  ⟨h.db.keep (fun b hb hc => e b hb (by rcases hc with h1 | h1 | h1; exact .inr (.inl h1); exact .inr (.inr (.inl h1)); exact .inr (.inr (.inr (.inl h1))))), (e X (lt_of_heap h.rd) (.inl rfl)).trans h.rd, row_keep h.row (fun b hb => e b (h.row.lt b hb).2 (.inr (.inr (.inr (.inr hb))))), h.bX, h.nd, h.len, h.rs⟩
/-- What stands between the rounds of New. -/
structure NewI (B X P K NB Bs : Nat) (L : List (List UInt8)) (V : World) (pre : List (List UInt8)) (U : List (List UInt8)) (nv : Value) (S : List Tr) (so : Option Addr) (sc : Nat) (W : World) : Prop where
  eq : nwF 0 [oth] [] L = nwF pre.length U S (L.drop pre.length)
  rd : RdrAt B X P K U nv S so sc W
  nb : Boxed W NB 3 (.int .i64 (pre.length : Int))
  bl : Below B V W
  nn : ∀ x, nv.ownBlock = some x → x ≠ Bs ∧ x ≠ Bs + 1 ∧ x ≠ Bs + 2
  ns : (Value.slice so S.length sc).ownBlock ≠ some Bs
theorem NewI.keep {B X P K NB Bs : Nat} {L : List (List UInt8)} {V : World} {pre U : List (List UInt8)} {nv : Value} {S : List Tr} {so : Option Addr} {sc : Nat} {W W' : World} (h : NewI B X P K NB Bs L V pre U nv S so sc W) (hb : Below B W W') (e : ∀ b, b < W.heap.size → (b = X ∨ b = P ∨ b = K ∨ b = NB ∨ nv.ownBlock = some b ∨ (Value.slice so S.length sc).ownBlock = some b) → W'.heap[b]? = W.heap[b]?) : NewI B X P K NB Bs L V pre U nv S so sc W' :=
  ⟨h.eq, h.rd.keepB (fun b hb hc => e b hb (by rcases hc with h1 | h1 | h1 | h1 | h1; exact .inl h1; exact .inr (.inl h1); exact .inr (.inr (.inl h1)); exact .inr (.inr (.inr (.inr (.inl h1)))); exact .inr (.inr (.inr (.inr (.inr h1)))))), (e NB h.nb.lt (.inr (.inr (.inr (.inl rfl))))).trans h.nb, h.bl.trans hb, h.nn, h.ns⟩
theorem below_grown {B : Nat} {W W' : World} {row : Option Nat} (hg : W.grownBy W' row) (hr : ∀ r, row = some r → B ≤ r) (hB : B ≤ W.heap.size) : Below B W W' := (Below.refl B W).grown hg hB hr
theorem newI_own {B X P K NB Bs B' : Nat} {L : List (List UInt8)} {V : World} (hB : B ≤ B') (h1 : X < B') (h2 : P < B') (h3 : K < B') (h4 : NB < B') (h5 : B ≤ V.heap.size) :
    OwnFrom B' (fun pre W => ∃ U nv S so sc, NewI B X P K NB Bs L V pre U nv S so sc W) := fun pre W W' row ⟨U, nv, S, so, sc, h⟩ hg hr =>
  ⟨U, nv, S, so, sc, h.keep (below_grown hg (fun r e => Nat.le_trans hB (hr r e).1) (Nat.le_trans h5 h.bl.size)) (fun b hb hc => hg.block b hb (fun e => by
    obtain ⟨k1, o, k2, k3⟩ := hr b e.symm
    rcases hc with rfl | rfl | rfl | rfl | hc | hc
    · omega
    · omega
    · omega
    · omega
    · obtain ⟨cs, hcs⟩ := row_blk h.rd.db.hR hc
      rw [hcs] at k2; cases k2; cases k3
    · obtain ⟨cs, hcs⟩ := row_blk h.rd.row hc
      rw [hcs] at k2; cases k2; cases k3))⟩
theorem newI_caught {B X P K NB Bs : Nat} {L : List (List UInt8)} {V : World} (hB : B ≤ Bs) (h1 : X < Bs) (h2 : P < Bs) (h3 : K < Bs) (h4 : NB < Bs) (h5 : B ≤ V.heap.size) (pre : List (List UInt8)) (A C : World)
    (h : ∃ U nv S so sc, NewI B X P K NB Bs L V pre U nv S so sc A) (hg : A.grownBy C (some Bs)) : ∃ U nv S so sc, NewI B X P K NB Bs L V pre U nv S so sc C := by
  obtain ⟨U, nv, S, so, sc, h⟩ := h
  exact ⟨U, nv, S, so, sc, h.keep (below_grown hg (fun r e => by injection e with e; omega) (Nat.le_trans h5 h.bl.size)) (fun b hb hc => hg.block b hb (fun e => by
    injection e with e
    subst e
    rcases hc with rfl | rfl | rfl | rfl | hc | hc
    · omega
    · omega
    · omega
    · omega
    · exact (h.nn b hc).1 rfl
    · exact h.ns hc))⟩
/-- What stands where New has met an error. -/
structure NewX (N : Nat) (w : World) (er : Int) (ln : Nat) (W : World) : Prop where
  r0 : Boxed W N 24 (.pointer none)
  r1 : Boxed W (N + 1) 25 (.int .i64 er)
  r2 : Boxed W (N + 2) 3 (.int .i64 (ln : Int))
  bl : Below N w W
theorem NewX.keep {N : Nat} {w W W' : World} {er : Int} {ln : Nat} (h : NewX N w er ln W) {row : Option Nat} (hg : W.grownBy W' row) (hr : ∀ r, row = some r → N + 3 ≤ r) (hN : N ≤ W.heap.size) : NewX N w er ln W' :=
  ⟨h.r0.kept hg (fun e => by have := hr _ e.symm; omega), h.r1.kept hg (fun e => by have := hr _ e.symm; omega), h.r2.kept hg (fun e => by have := hr _ e.symm; omega), h.bl.trans (below_grown hg (fun r e => by have := hr r e; omega) hN)⟩

theorem five (w : World) (a b c d e : Obj) (W : World) (hW : W = ((((w.alloc a).alloc b).alloc c).alloc d).alloc e) : W.heap[w.heap.size]? = some a ∧ W.heap[w.heap.size + 1]? = some b ∧ W.heap[w.heap.size + 2]? = some c ∧ W.heap[w.heap.size + 3]? = some d ∧ W.heap[w.heap.size + 4]? = some e := by
  subst hW
  have h1 := heap_alloc_new (w.alloc a) b
  have h2 := heap_alloc_new ((w.alloc a).alloc b) c
  have h3 := heap_alloc_new (((w.alloc a).alloc b).alloc c) d
  have h4 := heap_alloc_new ((((w.alloc a).alloc b).alloc c).alloc d) e
  simp only [World.size_alloc] at h1 h2 h3 h4
  exact ⟨(heap_alloc_old _ e _ (by simp; omega)).trans ((heap_alloc_old _ d _ (by simp; omega)).trans ((heap_alloc_old _ c _ (by simp; omega)).trans ((heap_alloc_old _ b _ (by simp)).trans (heap_alloc_new w a)))), (heap_alloc_old _ e _ (by simp)).trans ((heap_alloc_old _ d _ (by simp)).trans ((heap_alloc_old _ c _ (by simp)).trans h1)), (heap_alloc_old _ e _ (by simp)).trans ((heap_alloc_old _ d _ (by simp)).trans h2), (heap_alloc_old _ e _ (by simp)).trans h3, h4⟩
def frL (a : Act) (ps : Array Tmp) (d : Nat) (x : List UInt8) : Act := { tmps := ((ps.zip (encL x)).foldl (fun t (p, v) => t.setIfInBounds p v) a.tmps).setIfInBounds d (.string ⟨x.toArray⟩), defers := [] }
theorem rfL {F : Fence} {n : Nat} {P : Program} {g : Operand} {ps : Array Tmp} {assign body : Code} {Q : Exit → Act → World → Prop} {a : Act} {w : World}
    (hro : F.round = none) (h1 : 1 ≤ n) {gf : Nat} {lb : Array Value} (hg : a.eval g = .func (.func gf) #[] lb) (hFg : F.fn gf) (eg : ∀ args w, (callFunc gf args).run P w = .ok (.enter gf args) w)
    {Bs : Nat} {L : List (List UInt8)} (hseq : CaughtStops F (n - 1) P gf lb encL (some Bs) (fun W => ∃ s, SplAt Bs s W) (Kq (KS Bs)) L w) (hBs : Bs + 2 < w.heap.size) (hps : 1 = ps.size) (d : Nat)
    (I Ix : List (List UInt8) → World → Prop) (hI : OwnFrom w.heap.size I) (hIx : OwnFrom w.heap.size Ix) (hIc : ∀ s A C, I s A → A.grownBy C (some Bs) → I s C) (hIxc : ∀ s A C, Ix s A → A.grownBy C (some Bs) → Ix s C) (h0 : I [] w)
    (hassign : ∀ (l : Nat) (x : List UInt8) (W : World) (K : Act → World → Prop), K (frL a ps d x) W → assign.wpIn (F.inRound l) (n - 1 - 1) P (Exit.then K (fun _ _ _ => False)) { tmps := (ps.zip (encL x)).foldl (fun t (p, v) => t.setIfInBounds p v) a.tmps, defers := [] } W)
    (hbody : ∀ (l : Nat) (pre : List (List UInt8)) (x : List UInt8) (W : World), w.heap.size ≤ l → pre ++ [x] <+: L → (∃ s, SplAt Bs s W) → I pre W → body.wpIn (F.inRound l) (n - 1 - 1) P (caughtPost w.heap.size (Kq (KS Bs)) I Ix (pre ++ [x]) W) (frL a ps d x) W)
    (hdone : ∀ (D : Nat) (W : World), w.heap.size ≤ D → I L W → W.heap[D]? = some (.deferred (some [])) → Q .normal { a with defers := { target := .collected D, args := #[] } :: a.defers } W)
    (hstop : ∀ (D : Nat) (pre : List (List UInt8)) (W : World), w.heap.size ≤ D → pre <+: L → Ix pre W → W.heap[D]? = some (.deferred (some [])) → Code.ret.wpIn F n P Q { a with defers := { target := .collected D, args := #[] } :: a.defers } W) :
    (Code.rangeFunc g ps assign body).wpIn F n P Q a w :=
  rf_caught hro h1 hg hFg eg hseq (fun r e => by injection e with e; omega) (fun W l o' hl ⟨s, hs⟩ => ⟨s, hs.keeps (fun k hk => World.putObj_heap_other (by rcases hk with rfl | rfl | rfl <;> omega))⟩) Kq_t (fun W lp o o' hl h hc hk k hks => World.putObj_heap_other (by rcases hks with rfl | rfl | rfl <;> omega)) (fun _ => hps) I Ix hI hIx (fun s A C r e => by cases e; exact hIc s A C) (fun s A C r e => by cases e; exact hIxc s A C) h0 (frL a ps d) hassign hbody hdone hstop

set_option maxRecDepth 100000 in
set_option maxHeartbeats 2000000 in
theorem new_in (t : List UInt8) (m : Int) (w : World) (hT : Lib.Utf8Tabs 0 1 w) (hm : w.cell? ⟨2, 0, none⟩ = some (.int .i64 m)) (h3 : 3 ≤ w.heap.size) :
    CallsIn Fence.wide 9 Tryz.prog 10 #[.string ⟨t.toArray⟩] w fun e w' => Below w.heap.size w w' ∧
      (((nw t).1.1 ≠ 0 ∧ e = .returned (.tuple #[.pointer none, .int .i64 (nw t).1.1, .int .i64 ((nw t).1.2 : Int)])) ∨
       ((nw t).1.1 = 0 ∧ ∃ P K nv po pc, e = .returned (.tuple #[.pointer (some ⟨P, 0, none⟩), .int .i64 0, .int .i64 0]) ∧ DbAt w.heap.size P K (nw t).2.1 nv (.slice po (whl (nw t).2.2).length pc) w' ∧ w'.ownsRow w.heap.size 86 3 (.slice po (whl (nw t).2.2).length pc) (whl (nw t).2.2).length (rks (whl (nw t).2.2)) ∧ Rs 0 (nw t).2.2 ∧ (nw t).2.1.Nodup ∧ (nw t).2.1.length ≤ 64)) := by
  have HT := hid hT
  have HM := hid hm
  obtain ⟨N, hN⟩ : ∃ N, N = w.heap.size := ⟨_, rfl⟩
  have HN := hid hN
  have HSZ := hid (show (⟨t.toArray⟩ : ByteArray).size = t.length by show t.toArray.size = _; simp)
  refine callsIn_of_wp_marks Tryz.func10 rfl trivial ?_ rfl
  simp only [Tryz.ntmps10, List.size_toArray, List.length_cons, List.length_nil, Nat.reduceAdd, Nat.reduceSub, Array.replicate_succ, Array.replicate_zero, List.push_toArray, List.append_toArray, List.nil_append, List.cons_append]
  rw [← hN]
  rw [← hN] at h3
  clear hT hm hN
  by_cases hlong : 65536 < t.length
  · have HNW := hid (show nw t = ((1, 0), [oth], []) by unfold nw; rw [if_pos hlong])
    have hl' : (65536 : Int) < (t.length : Int) := by omega
    rw [HNW.out]
    clear hlong
    gi_wp2
    refine ⟨.tuple #[.pointer none, .int .i64 1, .int .i64 0], by simp [results, Tryz.results10, go_sem], ?_, rfl⟩
    rw [HN.out]
    exact (((Below.refl _ w).alloc (Nat.le_refl _) _).alloc (by simp) _).alloc (by simp; omega) _
  · have HNW := hid (show nw t = nwF 0 [oth] [] (lns t) by unfold nw; rw [if_neg hlong])
    have hl' : ¬ (65536 : Int) < (t.length : Int) := by omega
    have htl : t.length ≤ 65536 := by omega
    gi_wp2_with (refine ⟨trivial, ?_⟩; gi_at_call 34; refine (callsIn_wide.2 (bare_any _)).mono ?_; rintro e w1 ⟨P, K, nv, rfl, d1, b1⟩)
    refine ⟨trivial, (callsIn_wide.2 (splitSeq_any t _)).mono ?_⟩
    rintro e w3 ⟨rfl, hw3⟩
    simp only [World.size_alloc] at d1 b1 ⊢
    rw [← HN.out] at d1 b1 ⊢
    obtain ⟨V, hV⟩ : ∃ V, V = ((w.alloc (.cells #[.pointer none] 24)).alloc (.cells #[.int .i64 0] 25)).alloc (.cells #[.int .i64 0] 3) := ⟨_, rfl⟩
    rw [← hV] at b1
    have hVs : V.heap.size = N + 3 := by rw [hV]; simp; have h5 := HN.out; omega
    have HV0 := hid (show Boxed V N 24 (.pointer none) by rw [hV, HN.out]; exact ((Boxed.new w 24 (.pointer none)).alloc _).alloc _)
    have HV1 := hid (show Boxed V (N + 1) 25 (.int .i64 0) by rw [hV, HN.out]; have h5 := Boxed.new (w.alloc (.cells #[.pointer none] 24)) 25 (.int .i64 0); rw [World.size_alloc] at h5; exact h5.alloc _)
    have HV2 := hid (show Boxed V (N + 2) 3 (.int .i64 0) by rw [hV, HN.out]; have h5 := Boxed.new ((w.alloc (.cells #[.pointer none] 24)).alloc (.cells #[.int .i64 0] 25)) 3 (.int .i64 0); rw [World.size_alloc, World.size_alloc] at h5; exact h5)
    have HVB := hid (show Below N w V by rw [hV, HN.out]; exact (((Below.refl _ w).alloc (Nat.le_refl _) _).alloc (by simp) _).alloc (by simp; omega) _)
    have hX1 : N + 3 ≤ w1.heap.size := by have h5 := b1.size; omega
    obtain ⟨X, hX⟩ : ∃ X, X = w1.heap.size := ⟨_, rfl⟩
    have hb13 : Below w1.heap.size w1 w3 := by
      rw [hw3]
      exact (((((Below.refl _ w1).alloc (Nat.le_refl _) _).alloc (by simp) _).alloc (by simp; omega) _).alloc (by simp; omega) _).alloc (by simp; omega) _
    have hs3 : w3.heap.size = X + 5 := by rw [hw3, hX]; simp
    obtain ⟨k0, k1, k2, k3, k4⟩ := five w1 _ _ _ _ _ w3 hw3
    rw [← hX] at k0 k1 k2 k3 k4
    have HRD := hid (show RdrAt (N + 3) X P K [oth] nv [] none 0 w3 from ⟨d1.below hb13, k0, World.ownsRow_nil w3 (N + 3) 86 3, by omega, by simp, by simp, trivial⟩)
    have HNB := hid (show Boxed w3 (X + 1) 3 (.int .i64 0) from k1)
    have HSP := hid (show SplAt (X + 2) t w3 from ⟨k2, k3, k4⟩)
    have HB3 := hid (show Below (N + 3) V w3 from b1.trans (hb13.mono hX1))
    have hPX : P < X := by rw [hX]; exact lt_of_heap d1.hP
    have hKX : K < X := by rw [hX]; exact d1.hK.lt
    have HNO := hid (show ∀ x, nv.ownBlock = some x → x < X from fun x hx => by rw [hX]; exact (d1.hR.lt x hx).2)
    have hPB := d1.bP
    have hKB := d1.bK
    have HX := hid hX
    have HT3 := hid (show Lib.Utf8Tabs 0 1 V from tabs_b HT.out (by omega) HVB.out)
    have HM3 := hid (show V.cell? ⟨2, 0, none⟩ = some (.int .i64 m) from (HVB.out.cell (p := ⟨2, 0, none⟩) (by show 2 < N; omega)).trans HM.out)
    rw [← hX]
    clear hw3 hb13 d1 b1 hV hX k0 k1 k2 k3 k4
    gi_wp2
    refine rfL (L := lns t) rfl (by omega) (gf := 86) (lb := #[.pointer (some ⟨X + 1 + 1 + 1, 0, none⟩), .pointer (some ⟨X + 1 + 1, 0, none⟩), .pointer (some ⟨X + 1 + 1 + 1 + 1, 0, none⟩)]) rfl trivial (enters_of Tryz.func86 (by kernel_rfl) rfl)
      (split_stops _ (by omega) (X + 2) t w3 HSP.out (by omega)) (by omega) rfl 7
      (fun pre W => ∃ U nv S so sc, NewI (N + 3) X P K (X + 1) (X + 2) (lns t) V pre U nv S so sc W)
      (fun _ W => ∃ er ln, (nw t).1 = (er, ln) ∧ er ≠ 0 ∧ NewX N w er ln W ∧ N + 3 ≤ W.heap.size)
      (newI_own (by omega) (by omega) (by omega) (by omega) (by omega) (by omega)) ?ixown (newI_caught (by omega) (by omega) (by omega) (by omega) (by omega) (by omega)) ?ixc
      ⟨[oth], nv, [], none, 0, rfl, HRD.out, HNB.out, HB3.out, fun x hx => (by have h5 := HNO.out x hx; omega), fun h => by cases h⟩ ?assign ?body ?done ?stop
    case ixown =>
      rintro _ W W' row ⟨er, ln, q1, q2, q3, q4⟩ hg hr
      exact ⟨er, ln, q1, q2, q3.keep hg (fun r e => by have h5 := (hr r e).1; omega) (by omega), Nat.le_trans q4 hg.size⟩
    case ixc =>
      rintro _ W W' ⟨er, ln, q1, q2, q3, q4⟩ hg
      exact ⟨er, ln, q1, q2, q3.keep hg (fun r e => by injection e with e; omega) (by omega), Nat.le_trans q4 hg.size⟩
    case assign =>
      intro lp x W K hK
      dsimp only [encL]
      gi_wp2
      simpa [frL, encL] using hK
    case body =>
      rintro lp pre x W hlp hpre ⟨sS, hsp⟩ ⟨U, nv', S, so, sc, h⟩
      have hlpW : X + 4 < W.heap.size := hsp.save.lt
      have HXL := hid (show (lns t)[pre.length]? = some x by obtain ⟨r, hr⟩ := hpre; rw [← hr]; simp)
      have hxl : x.length ≤ 65536 := Nat.le_trans (lns_mem t x (List.mem_of_getElem? HXL.out)) htl
      have hpl : pre.length ≤ 65536 := by have h5 := (List.getElem?_eq_some_iff.1 HXL.out).1; have h6 := lns_len t; omega
      have c0 := h.nb.cell
      have f0 := h.nb.frozen
      have HI := hid h
      have HSS := hid hsp
      have HPL := hid (show (pre ++ [x]).length = pre.length + 1 by simp)
      obtain ⟨k, hk⟩ : ∃ k, k = pre.length := ⟨_, rfl⟩
      have HK := hid hk
      rw [← hk] at c0 hpl HXL HPL
      clear h hsp hpre hk
      dsimp only [frL, encL]
      have HB1 := hid (show Below (N + 3) W (W.setCell ⟨X + 1, 0, none⟩ (.int .i64 ((k : Int) + 1))) from (Below.refl _ W).setCell (p := ⟨X + 1, 0, none⟩) (by show N + 3 ≤ X + 1; omega) _)
      have HR1 := hid (show RdrAt (N + 3) X P K U nv' S so sc (W.setCell ⟨X + 1, 0, none⟩ (.int .i64 ((k : Int) + 1))) from HI.out.rd.keepB (fun b hb hc => Below.heap_setCell W ⟨X + 1, 0, none⟩ _ b (fun e => by
        have e' : b = X + 1 := e
        rcases hc with h1 | h1 | h1 | h1 | h1
        · omega
        · omega
        · omega
        · rw [e'] at h1; exact row_other HI.out.rd.db.hR (X + 1) _ 3 HI.out.nb (by decide) h1
        · rw [e'] at h1; exact row_other HI.out.rd.row (X + 1) _ 3 HI.out.nb (by decide) h1)))
      have HN1 := hid (HI.out.nb.set (.int .i64 ((k : Int) + 1)))
      have HS1 := hid (show SplAt (X + 2) sS (W.setCell ⟨X + 1, 0, none⟩ (.int .i64 ((k : Int) + 1))) from HSS.out.keeps (fun b hb => Below.heap_setCell W ⟨X + 1, 0, none⟩ _ b (fun e => by have e' : b = X + 1 := e; rcases hb with rfl | rfl | rfl <;> omega)))
      obtain ⟨W1, hW1⟩ : ∃ W1, W1 = W.setCell ⟨X + 1, 0, none⟩ (.int .i64 ((k : Int) + 1)) := ⟨_, rfl⟩
      have hsW : W1.heap.size = W.heap.size := by rw [hW1]; simp [World.setCell]
      have HSW := hid hsW
      have HO1 := hid (show ∀ b, b ≠ X + 1 → W1.heap[b]? = W.heap[b]? from fun b hb => by rw [hW1]; exact Below.heap_setCell W ⟨X + 1, 0, none⟩ _ b hb)
      rw [← hW1] at HB1 HR1 HN1 HS1
      have HBV := hid (HI.out.bl.trans HB1.out)
      have HRD' := hid (read_any (N + 3) X P K U nv' S so sc x m W1 HR1.out (by have h5 := HBV.out.size; omega) (by omega) (by omega) (tabs_b HT3.out (by omega) HBV.out) ((HBV.out.cell (p := ⟨2, 0, none⟩) (by show 2 < N + 3; omega)).trans HM3.out))
      have HW1 := hid hW1
      clear hW1 hsW
      have HNX := hid (nwF_at k U S (lns t) k x HXL.out)
      have HEQ := hid (show nw t = nwF k U S ((lns t).drop k) by rw [HNW.out, HI.out.eq, ← HK.out])
      have hs3W : w3.heap.size ≤ W.heap.size := by omega
      obtain ⟨er, her⟩ : ∃ er, er = (rdS U S x).1 := ⟨_, rfl⟩
      rw [← her] at HRD' HNX
      have HER := hid her
      clear her
      by_cases he : er = 0
      · rw [if_pos he] at HNX
        rw [he] at HRD'
        clear he
        gi_wp2_with (refine ⟨trivial, ?_⟩; gi_at_call 36; rw [← HW1.out]; refine (callsIn_wide.2 HRD'.out).mono ?_; rintro e w5 ⟨rfl, b5, f5, hok5⟩)
        obtain ⟨nv2, so2, sc2, r5, n5⟩ := hok5 (by first | rfl | trivial)
        have hsz := HSW.out
        have kp : ∀ b, b ≠ X + 1 → b < W.heap.size → b ≠ P → b ≠ K → b ≠ X → nv'.ownBlock ≠ some b → (∀ cs f, W.heap[b]? ≠ some (.cells cs 86 f)) → w5.heap[b]? = W.heap[b]? := fun b q1 q2 q3 q4 q5 q6 q7 =>
          (f5.st b (by omega) q3 q4 q5 q6 (fun cs f e => q7 cs f ((HO1.out b q1).symm.trans e))).trans (HO1.out b q1)
        have ks : ∀ b, KS (X + 2) b → w5.heap[b]? = W.heap[b]? := fun b hb => by
          have hlt : b < W.heap.size := by rcases hb with rfl | rfl | rfl; exact HSS.out.s.lt; exact HSS.out.sep.lt; exact HSS.out.save.lt
          refine kp b (by rcases hb with rfl | rfl | rfl <;> omega) hlt (by rcases hb with rfl | rfl | rfl <;> omega) (by rcases hb with rfl | rfl | rfl <;> omega) (by rcases hb with rfl | rfl | rfl <;> omega) (fun e => ?_) (fun cs f e => ?_)
          · have h5 := HI.out.nn b e
            rcases hb with rfl | rfl | rfl
            · exact h5.1 rfl
            · exact h5.2.1 rfl
            · exact h5.2.2 rfl
          · rcases hb with rfl | rfl | rfl
            · have h5 := HSS.out.s; unfold Boxed at h5; rw [h5] at e; cases e
            · have h5 := HSS.out.sep; unfold Boxed at h5; rw [h5] at e; cases e
            · have h5 := HSS.out.save; unfold Boxed at h5; rw [h5] at e; cases e
        refine ⟨⟨by have h5 := f5.sz; omega, fun b o hb ho hc => (kp b (by omega) (lt_of_heap ho) (by omega) (by omega) (by omega) (fun e => ?_) (fun cs f e => ?_)).trans ho⟩, ks, _, nv2, _, so2, sc2, ?_, r5, ?_, HBV.out.trans b5, fun y hy => ?_, ?_⟩
        · obtain ⟨cs, hcs⟩ := row_blk HI.out.rd.db.hR e
          rw [hcs] at ho; cases ho; cases hc
        · rw [e] at ho; cases ho; cases hc
        · rw [← HNW.out, HEQ.out, HNX.out, HPL.out]
        · have h5 := f5.st (X + 1) (by have h6 := HN1.out.lt; exact h6) (by omega) (by omega) (by omega) (row_other HR1.out.db.hR (X + 1) _ 3 HN1.out (by decide)) (fun cs f e => by have h6 := HN1.out; unfold Boxed at h6; rw [h6] at e; cases e)
          rw [HPL.out]
          exact h5.trans HN1.out
        · rcases n5 y hy with h5 | h5
          · exact HI.out.nn y h5
          · have h6 := HSS.out.save.lt
            omega
        · exact row_other r5.row (X + 2) _ 9 ((ks (X + 2) (.inl rfl)).trans HSS.out.s) (by decide)
      · rw [if_neg he] at HNX
        have he' : (er == 0) = false := beq_eq_false_iff_ne.2 he
        gi_wp2_with (refine ⟨trivial, ?_⟩; gi_at_call 36; rw [← HW1.out]; refine (callsIn_wide.2 HRD'.out).mono ?_; rintro e w5 ⟨rfl, b5, f5, hok5⟩)
        have BV5 := HBV.out.trans b5
        have r0 : Boxed w5 N 24 (.pointer none) := (BV5.block N (by omega)).trans HV0.out
        have r1 : Boxed w5 (N + 1) 25 (.int .i64 0) := (BV5.block (N + 1) (by omega)).trans HV1.out
        have r2 : Boxed w5 (N + 2) 3 (.int .i64 0) := (BV5.block (N + 2) (by omega)).trans HV2.out
        have r3 : Boxed w5 (X + 1) 3 (.int .i64 ((k : Int) + 1)) := (f5.st (X + 1) (by have h6 := HN1.out.lt; exact h6) (by omega) (by omega) (by omega) (row_other HR1.out.db.hR (X + 1) _ 3 HN1.out (by decide)) (fun cs f e => by have h6 := HN1.out; unfold Boxed at h6; rw [h6] at e; cases e)).trans HN1.out
        have HBX := hid (HVB.out.trans (BV5.mono (by omega)))
        have HF5 := hid f5
        have HR0 := hid r0
        have HR1' := hid r1
        have HR2 := hid r2
        have z0 := r0.cell
        have z1 := r1.cell
        have z2 := r2.cell
        have z3 := r3.cell
        have y0 := r0.frozen
        have y1 := r1.frozen
        have y2 := r2.frozen
        have n1 : N ≠ N + 1 := by omega
        have n2 : N ≠ N + 2 := by omega
        have n3 : N + 1 ≠ N + 2 := by omega
        have n4 : X + 1 ≠ N := by omega
        have n5 : X + 1 ≠ N + 1 := by omega
        have n6 : X + 1 ≠ N + 2 := by omega
        have HNX2 := hid (show NewX N w er (k + 1) (((w5.setCell ⟨N, 0, none⟩ (.pointer none)).setCell ⟨N + 1, 0, none⟩ (.int .i64 er)).setCell ⟨N + 1 + 1, 0, none⟩ (.int .i64 ((k : Int) + 1))).drew from
          ⟨((r0.set (.pointer none)).other (by omega) _).other (by omega) _, ((r1.other (by omega) _).set (.int .i64 er)).other (by omega) _, by
            have h5 := ((r2.other (B' := N) (by omega) (.pointer none)).other (B' := N + 1) (by omega) (.int .i64 er)).set (.int .i64 (((k + 1 : Nat)) : Int))
            exact h5, (((HBX.out.setCell (p := ⟨N, 0, none⟩) (Nat.le_refl N) _).setCell (p := ⟨N + 1, 0, none⟩) (by show N ≤ N + 1; omega) _).setCell (p := ⟨N + 1 + 1, 0, none⟩) (by show N ≤ N + 1 + 1; omega) _).drew⟩)
        have HKF := hid (show KeepsFrom w3.heap.size W (((w5.setCell ⟨N, 0, none⟩ (.pointer none)).setCell ⟨N + 1, 0, none⟩ (.int .i64 er)).setCell ⟨N + 1 + 1, 0, none⟩ (.int .i64 ((k : Int) + 1))).drew from by
          refine ⟨by have h5 := f5.sz; have h6 := HSW.out; show W.heap.size ≤ _; simp [World.setCell]; omega, fun b o hb ho hc => ?_⟩
          have q5 : w5.heap[b]? = some o := (f5.st b (by have h5 := lt_of_heap ho; have h6 := HSW.out; omega) (by omega) (by omega) (by omega) (fun e => by
            obtain ⟨cs, hcs⟩ := row_blk HI.out.rd.db.hR e
            rw [hcs] at ho; cases ho; cases hc) (fun cs f e => by
            have e2 := (HO1.out b (by omega)).symm.trans e
            rw [e2] at ho; cases ho; cases hc)).trans ((HO1.out b (by omega)).trans ho)
          exact (Below.heap_setCell _ ⟨N + 1 + 1, 0, none⟩ _ b (by show b ≠ N + 1 + 1; omega)).trans ((Below.heap_setCell _ ⟨N + 1, 0, none⟩ _ b (by show b ≠ N + 1; omega)).trans ((Below.heap_setCell _ ⟨N, 0, none⟩ _ b (by show b ≠ N; omega)).trans q5)))
        have HS5 := hid (show N + 3 ≤ (((w5.setCell ⟨N, 0, none⟩ (.pointer none)).setCell ⟨N + 1, 0, none⟩ (.int .i64 er)).setCell ⟨N + 1 + 1, 0, none⟩ (.int .i64 ((k : Int) + 1))).drew.heap.size by
          have h5 := HKF.out.size; omega)
        have HNE := hid (show (nw t).1 = (er, k + 1) by rw [HEQ.out, HNX.out])
        clear BV5 r0 r1 r2 r3 hok5 b5 f5 c0 f0 HR0 HR1' HR2 HF5
        gi_region
        all_goals
          gi_wp2
          exact ⟨HKF.out, er, k + 1, HNE.out, he, HNX2.out, HS5.out⟩
    case done =>
      rintro D W hD ⟨U, nv', S, so, sc, h⟩ hDK
      have HEQ := hid (show nw t = ((0, 0), U, S) by rw [HNW.out, h.eq, List.drop_of_length_le (Nat.le_refl _)]; rfl)
      have HI := hid h
      have HDK := hid hDK
      have h0 := h
      clear h hDK
      have HRD2 := hid h0.rd
      obtain ⟨hXX, hNV, hsN⟩ : N + 3 ≤ X ∧ X + 1 < W.heap.size ∧ N + 3 ≤ W.heap.size := ⟨by omega, h0.nb.lt, by have h5 := h0.bl.size; omega⟩
      have HWH := hid (whole_any so sc S W.drew (show RdK W.drew so (S.map rkT) from rd_own h0.rd.row) (by have h5 := rs_len S 0 h0.rd.rs (by omega); omega) (fun g hg => by have h5 := rs_mem S 0 h0.rd.rs g hg; omega))
      have HXS := hid (show ∀ V' : World, V'.heap[X]? = W.heap[X]? → V'.cell? ⟨X, 0, none⟩ = some (.pointer (some ⟨P, 0, none⟩)) ∧ V'.cell? ⟨X, 1, none⟩ = some (.slice so S.length sc) from fun V' e => ⟨cell_row V' X 0 [_, _] 68 _ (e.trans HRD2.out.rd) rfl, cell_row V' X 1 [_, _] 68 _ (e.trans HRD2.out.rd) rfl⟩)
      clear h0
      gi_wp2
      refine wpIn_wide.2 ?_
      refine wp_region_mixC [(0, 1), (1, 0), (2, 1), (3, 0), (4, 2), (5, 1), (6, 1), (7, 2)] (fun W => W.cell? ⟨X, 0, none⟩ = some (.pointer (some ⟨P, 0, none⟩)) ∧ W.cell? ⟨X, 1, none⟩ = some (.slice so S.length sc)) (fun _ => True) (fun j => j == 7) (by kernel_rfl) (by kernel_rfl) (fun j hj => by simp at hj; rw [hj]; decide) rfl (by kernel_rfl) (HXS.out W.drew rfl) trivial ?_
      iterate 4 ((first | refine mixC_s ?_ rfl (by kernel_rfl) (fun w' hS => ?_) ?_ | refine mixC_t ?_ rfl (by kernel_rfl) (fun w' hS => ?_) ?_); (rotate_left; ((first | obtain ⟨s1, s2⟩ := hS | clear hS); go_simp; with_reducible rfl); rotate_left))
      simp only [Act.put, List.setIfInBounds_toArray]
      refine mixC_go rfl (by kernel_rfl) fun KK hKK => ?_
      go_simp
      refine HWH.out.mono ?_
      rintro e w4 ⟨v4, rfl, o4, b4⟩
      have b4' : Below W.heap.size W w4 := (show Below W.heap.size W W.drew from ⟨rfl, rfl, rfl, Nat.le_refl _, fun _ _ => rfl⟩).trans b4
      obtain ⟨po, pc, rfl⟩ := own_form o4
      have HR4 := hid (HRD2.out.below b4')
      have HO4 := hid (show w4.ownsRow W.heap.size 86 3 (.slice po (whl S).length pc) (whl S).length (rks (whl S)) from o4)
      have HB4 := hid (HI.out.bl.trans (b4'.mono hsN))
      have HD4 := hid ((b4'.block D (lt_of_heap HDK.out)).trans HDK.out)
      refine hKK _ _ (fun _ => HXS.out w4 (b4'.block X (lt_of_heap HRD2.out.rd))) trivial ?_
      have p2 := HR4.out.db.c2
      have p2f := frozen_row HR4.out.db.hP 2
      clear hKK KK o4 b4 b4'
      iterate 2 (refine mixC_t ?_ rfl (by kernel_rfl) (fun w' hS => ?_) ?_; (rotate_left; (go_simp; with_reducible rfl); rotate_left))
      simp only [Act.put, List.setIfInBounds_toArray]
      refine mixC_go rfl (by kernel_rfl) fun KK hKK => ?_
      go_simp
      refine hKK _ _ (fun h => by cases h) trivial ?_
      clear hKK KK p2 p2f
      refine mixC_end (NoPanic.normal ?_)
      obtain ⟨A, hA⟩ : ∃ A, A = whl S := ⟨_, rfl⟩
      rw [← hA] at HO4 ⊢
      have HP5 := hid (set_row w4 P 2 _ 76 (.slice po A.length pc) HR4.out.db.hP)
      have HO5 := hid (show ∀ b, b ≠ P → (w4.setCell ⟨P, 2, none⟩ (.slice po A.length pc)).heap[b]? = w4.heap[b]? from fun b hb => Below.heap_setCell w4 ⟨P, 2, none⟩ _ b hb)
      have HB5 := hid (HB4.out.setCell (p := ⟨P, 2, none⟩) (by show N + 3 ≤ P; exact hPB) (.slice po A.length pc))
      obtain ⟨W5, hW5⟩ : ∃ W5, W5 = w4.setCell ⟨P, 2, none⟩ (.slice po A.length pc) := ⟨_, rfl⟩
      have hs5 : W5.heap.size = w4.heap.size := by rw [hW5]; simp [World.setCell]
      rw [← hW5] at HP5 HO5 HB5 ⊢
      have hXP : X ≠ P := by omega
      have cX := cell_row W5 X 0 [_, _] 68 _ ((HO5.out X hXP).trans HR4.out.rd) rfl
      have r0 : Boxed W5 N 24 (.pointer none) := (HB5.out.block N (by omega)).trans HV0.out
      have r1 : Boxed W5 (N + 1) 25 (.int .i64 0) := (HB5.out.block (N + 1) (by omega)).trans HV1.out
      have r2 : Boxed W5 (N + 1 + 1) 3 (.int .i64 0) := (HB5.out.block (N + 2) (by omega)).trans HV2.out
      have g0 := r0.cell
      have g1 := r0.frozen
      have t1 := r1.other (B' := N) (by omega) (.pointer (some ⟨P, 0, none⟩))
      have g2 := t1.cell
      have g3 := t1.frozen
      have t2 := (r2.other (B' := N) (by omega) (.pointer (some ⟨P, 0, none⟩))).other (B' := N + 1) (by omega) (.int .i64 0)
      have g4 := t2.cell
      have g5 := t2.frozen
      obtain ⟨W6, hW6⟩ : ∃ W6, W6 = ((W5.setCell ⟨N, 0, none⟩ (.pointer (some ⟨P, 0, none⟩))).setCell ⟨N + 1, 0, none⟩ (.int .i64 0)).setCell ⟨N + 1 + 1, 0, none⟩ (.int .i64 0) := ⟨_, rfl⟩
      have HY0 := hid (show Boxed W6 N 24 (.pointer (some ⟨P, 0, none⟩)) by rw [hW6]; exact ((r0.set _).other (by omega) _).other (by omega) _)
      have HY1 := hid (show Boxed W6 (N + 1) 25 (.int .i64 0) by rw [hW6]; exact (t1.set _).other (by omega) _)
      have HY2 := hid (show Boxed W6 (N + 1 + 1) 3 (.int .i64 0) by rw [hW6]; exact t2.set _)
      have HO6 := hid (show ∀ b, N + 3 ≤ b → W6.heap[b]? = W5.heap[b]? from fun b hb => by
        rw [hW6]
        exact (Below.heap_setCell _ ⟨N + 1 + 1, 0, none⟩ _ b (by show b ≠ N + 1 + 1; omega)).trans ((Below.heap_setCell _ ⟨N + 1, 0, none⟩ _ b (by show b ≠ N + 1; omega)).trans (Below.heap_setCell _ ⟨N, 0, none⟩ _ b (by show b ≠ N; omega))))
      have HB6 := hid (show Below N w W6 by
        rw [hW6]
        exact (((HVB.out.trans (HB5.out.mono (by omega))).setCell (p := ⟨N, 0, none⟩) (Nat.le_refl N) _).setCell (p := ⟨N + 1, 0, none⟩) (by show N ≤ N + 1; omega) _).setCell (p := ⟨N + 1 + 1, 0, none⟩) (by show N ≤ N + 1 + 1; omega) _)
      have HW6 := hid hW6
      have hDP : D ≠ P := by omega
      have HD6 := hid (show W6.heap[D]? = some (.deferred (some [])) from (HO6.out D (by omega)).trans ((HO5.out D hDP).trans HD4.out))
      have HH5 := hid hs5
      have HA := hid hA
      have hKP : K ≠ P := fun e => by subst e; exact ne_map9 HR4.out.db.hK HR4.out.db.hP
      clear hA hW5 hW6 r0 r1 r2 t1 t2 hs5
      gi_wp2
      rw [← HW6.out]
      have hq : W6.heap[D]? = some (.deferred (some [])) := HD6.out
      refine ⟨by simp, .inl ⟨_, _, rfl, run_takeDeferred hq, ?_⟩⟩
      have hg := grownBy_putObj' W6 D (.deferred none)
      have y0 := (HY0.out.kept hg (fun e => by injection e with e; omega)).cell
      have y1 := (HY1.out.kept hg (fun e => by injection e with e; omega)).cell
      have y2 := (HY2.out.kept hg (fun e => by injection e with e; omega)).cell
      have HO7 : ∀ b, N + 3 ≤ b → b ≠ D → b ≠ P → (W6.putObj D (.deferred none)).heap[b]? = w4.heap[b]? := fun b q1 q2 q3 => (World.putObj_heap_other (by omega)).trans ((HO6.out b q1).trans (HO5.out b q3))
      have hnD : ∀ b, nv'.ownBlock = some b → b ≠ D := fun b hb e => by
        obtain ⟨cs, hcs⟩ := row_blk HR4.out.db.hR hb
        rw [e, HD4.out] at hcs; cases hcs
      have hnP : ∀ b, nv'.ownBlock = some b → b ≠ P := fun b hb e => by
        subst e; exact row_other HR4.out.db.hR b _ 76 HR4.out.db.hP (by decide) hb
      have hvD : ∀ b, (Value.slice po A.length pc).ownBlock = some b → b ≠ D := fun b hb e => by
        obtain ⟨cs, hcs⟩ := row_blk HO4.out hb
        rw [e, HD4.out] at hcs; cases hcs
      have hvP : ∀ b, (Value.slice po A.length pc).ownBlock = some b → b ≠ P := fun b hb e => by
        subst e; exact row_other HO4.out b _ 76 HR4.out.db.hP (by decide) hb
      refine ⟨.tuple #[.pointer (some ⟨P, 0, none⟩), .int .i64 0, .int .i64 0], by simp [results, Tryz.results10, go_sem, y0, y1, y2], HB6.out.trans (belowK_b (w := w3) (by omega) W6 D _ (.deferred none) hD hq rfl rfl), .inr ?_⟩
      rw [HEQ.out]
      refine ⟨rfl, P, K, nv', po, pc, ?_, ⟨?_, ?_, ?_, ?_, ?_⟩, ?_, HRD2.out.rs, HRD2.out.nd, HRD2.out.len⟩
      · rfl
      · rw [← HA.out]
        exact (World.putObj_heap_other (by omega)).trans ((HO6.out P hPB).trans HP5.out)
      · exact map_keep HR4.out.db.hK (HO7 K hKB (by omega) hKP)
      · exact own_mono (row_keep HR4.out.db.hR (fun b hb => HO7 b (HR4.out.db.hR.lt b hb).1 (hnD b hb) (hnP b hb))) (by omega)
      · omega
      · omega
      · rw [← HA.out]
        exact own_mono (row_keep HO4.out (fun b hb => HO7 b (by have h5 := (HO4.out.lt b hb).1; omega) (hvD b hb) (hvP b hb))) (by omega)
    case stop =>
      rintro D pre W hD hpre ⟨er, ln, q1, q2, q3, q4⟩ hDK
      have HDK := hid hDK
      have HX3 := hid q3
      have z0 := q3.r0.cell
      have z1 := q3.r1.cell
      have z2 := q3.r2.cell
      clear q3 hDK
      gi_wp2
      have hq : W.heap[D]? = some (.deferred (some [])) := HDK.out
      refine ⟨by simp, .inl ⟨_, _, rfl, run_takeDeferred hq, ?_⟩⟩
      have q5 := HX3.out.keep (grownBy_putObj' W D (.deferred none)) (fun r e => by cases e; omega) (by omega)
      have y0 := q5.r0.cell
      have y1 := q5.r1.cell
      have y2 : (W.putObj D (.deferred none)).cell? ⟨N + 1 + 1, 0, none⟩ = some (.int .i64 (ln : Int)) := q5.r2.cell
      refine ⟨.tuple #[.pointer none, .int .i64 er, .int .i64 (ln : Int)], by simp [results, Tryz.results10, go_sem, y0, y1, y2], q5.bl, .inl ?_⟩
      rw [q1]
      exact ⟨q2, rfl⟩
end Go.Proofs.YtohhokjlgihbgaaGreatDoor
