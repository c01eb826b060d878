/- What the walk of PropsTexts needs besides: a text's runes and their classes side by side, and the two laws of a range over Each's iterator with both of its values kept. -/
import Derived.Laws.EntriesVeiled
import Derived.Test.YtohhokjlgihbgaaGreatDoorEROf4
import Derived.Test.YtohhokjlgihbgaaGreatDoorELive4
import Derived.Test.YtohhokjlgihbgaaGreatDoorERNew
import Derived.Test.YtohhokjlgihbgaaGreatDoorEEvMath
import Derived.Test.YtohhokjlgihbgaaGreatDoorECaught
namespace Go.Proofs.YtohhokjlgihbgaaGreatDoor
open Go.RowKit Go.Shelf

theorem txo_some {w : World} {B e s n : Nat} {v : Value} {xs : List Value} (h : w.ownsRow B e s v n xs) (hn : 0 < n) : ∃ g cap, v = .slice (some ⟨g, 0, none⟩) n cap ∧ B ≤ g := by
  obtain ⟨g, cap, h1, h2, _⟩ := h.form hn
  exact ⟨g, cap, h1, h2⟩
theorem txo_at {w : World} {B e s g n cap : Nat} {xs : List Value} (h : w.ownsRow B e s (.slice (some ⟨g, 0, none⟩) n cap) n xs) (j : Nat) (hj : j < n * s) : ∃ v, w.cell? ⟨g, j, none⟩ = some v ∧ w.frozen? ⟨g, j, none⟩ = false := by
  refine ⟨xs[j]'(by rw [h.1]; exact hj), ?_, h.frozenAt j⟩
  rw [h.cellAt j hj, List.getElem?_eq_getElem]
theorem txp_of (t : List UInt8) (ht : t.length ≤ 12000) (h0 : (nw t).1.1 = 0) (hr : Rs 0 (nw t).2.2) : Cov 0 (whl (nw t).2.2) 1114112 ∧ (∀ g ∈ whl (nw t).2.2, g.2.2 < (nw t).2.1.length) ∧ (whl (nw t).2.2).length ≤ 30000 ∧ ((whl (nw t).2.2).Pairwise fun x y => x.2.1 < y.2.1) ∧ ∃ g ∈ whl (nw t).2.2, g.2.1 = 1114111 := by
  obtain ⟨g1, g2⟩ := nw_good t h0
  obtain ⟨k1, k2, k3, k4⟩ := whl_good _ _ g1 hr
  obtain ⟨s1, s2⟩ := whl_st _ hr
  exact ⟨k1, k3, by omega, s1, s2⟩
theorem cls_at (e : Nat) : ∀ (xs : List (Nat × Int)) (k : Nat) (x : Nat × Int), xs[k]? = some x → ∃ e', (cls e xs)[k]? = some (x.2, x.1, e')
  | [], _, _, h => by cases h
  | y :: t, 0, x, h => by cases h; exact ⟨_, rfl⟩
  | y :: t, k + 1, x, h => cls_at e t k x h
theorem evs_txt (A : List Tr) (l : List UInt8) : (txt l).length = (evs A l 0).length ∧ ∀ (k : Nat) (x : Nat × Nat), (evs A l 0)[k]? = some x → ∃ r e, (txt l)[k]? = some (r, x.1, e) := by
  refine ⟨by unfold txt evs; rw [cls_len, List.length_map], fun k x h => ?_⟩
  unfold evs at h
  rw [List.getElem?_map] at h
  cases hk : (plr l 0)[k]? with
  | none => rw [hk] at h; cases h
  | some y =>
    rw [hk] at h
    cases h
    obtain ⟨e', h5⟩ := cls_at l.length _ _ _ hk
    exact ⟨_, _, h5⟩
theorem evs_first (A : List Tr) (l : List UInt8) (x : Nat × Nat) (h : (evs A l 0)[0]? = some x) : x.1 = 0 := by
  by_cases h0 : 0 < l.length
  · rw [evs_step A l 0 h0] at h
    cases h; rfl
  · rw [evs_end A l 0 h0] at h
    cases h
theorem snoc_at {α : Type} {L pre : List α} {x : α} (h : pre ++ [x] <+: L) : L[pre.length]? = some x := by
  obtain ⟨r, rfl⟩ := h
  simp
/-- The temporaries behind the assignment of the two loop variables. -/
def frX (a : Act) (ps : Array Tmp) (d e : Nat) (x : Nat × Nat) : Act := { tmps := (((ps.zip (encE x)).foldl (fun t (p, v) => t.setIfInBounds p v) a.tmps).setIfInBounds d (.int .i64 (x.1 : Int))).setIfInBounds e (.int .i64 (x.2 : Int)), defers := [] }
theorem rfXH {F : Fence} {n : Nat} {P : Program} {g : Operand} {ps : Array Tmp} {assign body : Code} {Q : Exit → Act → World → Prop} {a : Act} {w : World}
    (hro : F.round = none) (h1 : 1 ≤ n) {gf : Nat} {lb : Array Value} (hg : a.eval g = .func (.func gf) #[] lb) (hFg : F.fn gf) (eg : ∀ args w, (callFunc gf args).run P w = .ok (.enter gf args) w)
    {Z : World → Prop} {K : Nat → Prop} {L : List (Nat × Nat)} (hseq : CaughtStops F (n - 1) P gf lb encE none Z (Kr K) L w) (hZ : ∀ W l o', w.heap.size ≤ l → Z W → Z (W.putObj l o')) (hK : ∀ k, K k → k < w.heap.size) (hps : 2 = ps.size) (d e : Nat)
    (I Ix : List (Nat × Nat) → World → Prop) (hI : OwnFrom w.heap.size I) (hIx : OwnFrom w.heap.size Ix) (h0 : I [] w)
    (hassign : ∀ (l : Nat) (x : Nat × Nat) (W : World) (K : Act → World → Prop), K (frX a ps d e x) W → assign.wpIn (F.inRound l) (n - 1 - 1) P (Exit.then K (fun _ _ _ => False)) { tmps := (ps.zip (encE x)).foldl (fun t (p, v) => t.setIfInBounds p v) a.tmps, defers := [] } W)
    (hbody : ∀ (l : Nat) (pre : List (Nat × Nat)) (x : Nat × Nat) (W : World), w.heap.size ≤ l → (∃ r, W.heap[l]? = some (.loop r)) → pre ++ [x] <+: L → Z W → I pre W → body.wpIn (F.inRound l) (n - 1 - 1) P (caughtPost w.heap.size (Kr K) I Ix (pre ++ [x]) W) (frX a ps d e x) W)
    (hdone : ∀ (D : Nat) (W : World), w.heap.size ≤ D → I L W → W.heap[D]? = some (.deferred (some [])) → Q .normal { a with defers := { target := .collected D, args := #[] } :: a.defers } W)
    (hstop : ∀ (D : Nat) (pre : List (Nat × Nat)) (W : World), w.heap.size ≤ D → pre <+: L → Ix pre W → W.heap[D]? = some (.deferred (some [])) → Code.ret.wpIn F n P Q { a with defers := { target := .collected D, args := #[] } :: a.defers } W) :
    (Code.rangeFunc g ps assign body).wpIn F n P Q a w :=
  rf_caughtH hro h1 hg hFg eg hseq (fun r e => by cases e) hZ Kr_t (fun W lp o o' hl h hc hk => Kr_b hK W lp o o' hl h hc hk) (fun _ => hps) I Ix hI hIx (fun s A C r e => by cases e) (fun s A C r e => by cases e) h0 (frX a ps d e) hassign hbody hdone hstop
theorem rfXN {F : Fence} {n : Nat} {P : Program} {g : Operand} {ps : Array Tmp} {assign body : Code} {Q : Exit → Act → World → Prop} {a : Act} {w : World}
    {l₀ : Nat} {r₀ : Loop} (hro : F.round = some l₀) (hl₀ : w.heap[l₀]? = some (.loop r₀)) (h1 : 1 ≤ n) {gf : Nat} {lb : Array Value} (hg : a.eval g = .func (.func gf) #[] lb) (hFg : F.fn gf) (eg : ∀ args w, (callFunc gf args).run P w = .ok (.enter gf args) w)
    {Z : World → Prop} {K : Nat → Prop} {L : List (Nat × Nat)} (hseq : CaughtStops F (n - 1) P gf lb encE none Z (Kr K) L w) (hZ : ∀ W l o', w.heap.size ≤ l → Z W → Z (W.putObj l o')) (hK : ∀ k, K k → k < w.heap.size) (hps : 2 = ps.size) (d e id : Nat)
    (I E : List (Nat × Nat) → World → Prop) (hI : OwnFrom w.heap.size I) (hE : OwnFrom w.heap.size E) (h0 : I [] w)
    (hassign : ∀ (l : Nat) (x : Nat × Nat) (W : World) (K : Act → World → Prop), K (frX a ps d e x) W → assign.wpIn (F.inRound l) (n - 1 - 1) P (Exit.then K (fun _ _ _ => False)) { tmps := (ps.zip (encE x)).foldl (fun t (p, v) => t.setIfInBounds p v) a.tmps, defers := [] } W)
    (hbody : ∀ (l : Nat) (pre : List (Nat × Nat)) (x : Nat × Nat) (W : World), w.heap.size ≤ l → pre ++ [x] <+: L → Z W → I pre W → body.wpIn (F.inRound l) (n - 1 - 1) P (breakPost w.heap.size (Kr K) I E id (pre ++ [x]) W) (frX a ps d e x) W)
    (Fin : World → Prop) (hd : ∀ W, I L W → Fin W) (he : ∀ pre W, pre <+: L → E pre W → Fin W) (hexit : ∀ a W, Q .normal a W → Q (.exit id) a W) (hfin : ∀ W, Fin W → Q .normal a W) :
    (Code.rangeFunc g ps assign body).wpIn F n P Q a w :=
  rf_caughtN hro hl₀ h1 hg hFg eg hseq hZ Kr_t (fun W lp o o' hl h hc hk => Kr_b hK W lp o o' hl h hc hk) (fun _ => hps) id I E hI hE h0 (frX a ps d e) hassign hbody (fun W hi => hfin W (hd W hi)) (fun pre W hp hx => wpIn_exit (hexit _ _ (hfin W (he pre W hp hx))))
/-- One box stored into, behind what only added blocks. -/
theorem set_post {bn : Nat} {W W' : World} {t : TypeId} {v : Value} (hb : Below W.heap.size W W') (hv : Boxed W bn t v) (u : Value) (B : Nat) (K : Nat → Prop) (hK : ∀ k, K k → k < W.heap.size ∧ k ≠ bn) : KeepsFrom B W (W'.setCell ⟨bn, 0, none⟩ u) ∧ Kr K W (W'.setCell ⟨bn, 0, none⟩ u) := by
  have hsz : W.heap.size ≤ (W'.setCell ⟨bn, 0, none⟩ u).heap.size := by simp; exact hb.size
  have same : ∀ k, k < W.heap.size → k ≠ bn → (W'.setCell ⟨bn, 0, none⟩ u).heap[k]? = W.heap[k]? := fun k h1 h2 => (Below.heap_setCell W' ⟨bn, 0, none⟩ u k h2).trans (hb.block k h1)
  have ne : ∀ (k : Nat) (o : Obj), W.heap[k]? = some o → o.isCells = false → k ≠ bn := fun k o h1 h2 e => by
    subst e
    rw [show W.heap[k]? = _ from hv] at h1
    cases h1; cases h2
  exact ⟨⟨hsz, fun k o _ h1 h2 => (same k (Array.getElem?_eq_some_iff.1 h1).1 (ne k o h1 h2)).trans h1⟩, ⟨hsz, fun k o h1 h2 => (same k (Array.getElem?_eq_some_iff.1 h1).1 (ne k o h1 (Obj.not_cells_of_walk h2))).trans h1⟩, fun k hk => same k (hK k hk).1 (hK k hk).2⟩
end Go.Proofs.YtohhokjlgihbgaaGreatDoor
/- The walk of PropsTexts. -/
namespace Go.Proofs.YtohhokjlgihbgaaGreatDoor
open Go.RowKit Go.Shelf
attribute [local go_sem] Oper.semAt_some

theorem eq_nilf (lb : Array Value) (w : World) : (binOp .eql 38 (.func (.func 47) #[] lb) .nilFunc).run Tryz.prog w = .ok (.bool false) w := by kernel_rfl
theorem boxed_in {n B : Nat} {t : TypeId} {v : Value} {W W' : World} (h : Boxed W B t v) (hB : Below n W W') (hlt : B < n) : Boxed W' B t v := (hB.block B hlt).trans h
/-- What lies below when the loop begins. -/
structure KitX (N M R bx P n : Nat) (stop : Int) (wo : Option Addr) (wc : Nat) (xo : Option Addr) (xc : Nat) (nv : Value) (K : Nat) (po : Option Addr) (pc : Nat) (A : List Tr) (s : List UInt8) (L : List (Nat × Nat)) (W : World) : Prop where
  stop : Boxed W N 3 (.int .i64 stop)
  res : Boxed W (N + 1) 4 (.bool false)
  want : Boxed W M 34 (.slice wo n wc)
  fn : Boxed W (R + 2) 38 (.func (.func 47) #[] #[.pointer (some ⟨R, 0, none⟩), .pointer (some ⟨R + 1, 0, none⟩)])
  xs : Boxed W bx 40 (.slice xo n xc)
  own : W.ownsRow (N + 2) 86 3 (.slice po A.length pc) A.length (rks A)
  each : EachAt R (R + 1) P nv (.map (some K)) po pc A s W
  rdw : RdI W wo (L.map fun x => (x.2 : Int))
  rdx : RdT W xo (txt s)
section
variable {N M R bx P n : Nat} {stop : Int} {wo : Option Addr} {wc : Nat} {xo : Option Addr} {xc : Nat} {nv : Value} {K : Nat} {po : Option Addr} {pc : Nat} {A : List Tr} {s : List UInt8} {L : List (Nat × Nat)} {W W' : World}
theorem KitX.below (h : KitX N M R bx P n stop wo wc xo xc nv K po pc A s L W) (hB : Below W.heap.size W W') : KitX N M R bx P n stop wo wc xo xc nv K po pc A s L W' :=
  ⟨boxed_in h.stop hB h.stop.lt, boxed_in h.res hB h.res.lt, boxed_in h.want hB h.want.lt, boxed_in h.fn hB h.fn.lt, boxed_in h.xs hB h.xs.lt, own_keep h.own hB, h.each.below hB (Nat.le_refl _), h.rdw.below hB, h.rdx.below hB⟩
end

set_option maxRecDepth 100000 in
set_option maxHeartbeats 8000000 in
theorem texts_in (t s : List UInt8) (stop : Int) (m : Int) (w : World) (h : Tbs m w) (ht : t.length ≤ 9223372036854775807) (hs : s.length ≤ 9223372036854775807) :
    CallsIn Fence.wide 9 Tryz.prog 4 #[.string ⟨t.toArray⟩, .string ⟨s.toArray⟩, .int .i64 stop] w fun e w' => e = .returned (.bool true) ∧ Below w.heap.size w w' := by
  have HT := hid h
  have HLV := hid (live_any m)
  have HNU := hid num_any
  have HSZ := hid (show (⟨t.toArray⟩ : ByteArray).size = t.length by show t.toArray.size = _; simp)
  have HSZ2 := hid (show (⟨s.toArray⟩ : ByteArray).size = s.length by show s.toArray.size = _; simp)
  obtain ⟨N, hN⟩ : ∃ N, N = w.heap.size := ⟨_, rfl⟩
  have HN := hid hN
  obtain ⟨V, hV⟩ : ∃ V, V = (w.alloc (.cells #[.int .i64 stop] 3)).alloc (.cells #[.bool false] 4) := ⟨_, rfl⟩
  have hVs : V.heap.size = N + 2 := by rw [hV, hN]; simp
  have HV0 := hid (show Boxed V N 3 (.int .i64 stop) by rw [hV, hN]; exact (Boxed.new w 3 (.int .i64 stop)).alloc _)
  have HV1 := hid (show Boxed V (N + 1) 4 (.bool false) by
    have h5 := Boxed.new (w.alloc (.cells #[.int .i64 stop] 3)) 4 (.bool false)
    rw [World.size_alloc] at h5
    rw [hV, hN]; exact h5)
  have HVB := hid (show Below N w V by rw [hV, hN]; exact ((Below.refl _ w).alloc (Nat.le_refl _) _).alloc (by simp) _)
  have HEND := hid (show ∀ u, Below (N + 2) V u → Boxed u (N + 1) 4 (.bool false) ∧ Boxed (u.setCell ⟨N + 1, 0, none⟩ (.bool true)) (N + 1) 4 (.bool true) ∧ Below N w (u.setCell ⟨N + 1, 0, none⟩ (.bool true)) from fun u hu => by
    have h5 := boxed_in HV1.out hu (by omega)
    exact ⟨h5, h5.set _, (HVB.out.trans (hu.mono (by omega))).setCell (p := ⟨N + 1, 0, none⟩) (Nat.le_succ _) _⟩)
  have HTV := hid (show ∀ u, Below (N + 2) V u → Tbs m u from fun u hu => HT.out.below (by rw [← hN]; exact HVB.out.trans (hu.mono (by omega))))
  have HV := hid hV
  have HV2 := hid (show Below (N + 2) V V by rw [← hVs]; exact Below.refl _ _)
  clear h hN hV
  by_cases h1 : 12000 < t.length ∨ 8000 < s.length
  · have h1' : (12000 : Int) < (t.length : Int) ∨ (¬ (12000 : Int) < (t.length : Int) ∧ (8000 : Int) < (s.length : Int)) := by omega
    clear h1
    rcases h1' with h1 | ⟨h1, h2⟩
    all_goals
      refine callsIn_of_wp_marks Tryz.func4 rfl trivial ?_ rfl
      simp only [Tryz.ntmps4, List.size_toArray, List.length_cons, List.length_nil, Nat.reduceAdd, Nat.reduceSub, Array.replicate_succ, Array.replicate_zero, List.push_toArray, List.append_toArray, List.nil_append, List.cons_append]
      gi_wp2_with fail
      rw [← HV.out, ← HN.out]
      refine ⟨trivial, (callsIn_wide.2 (HLV.out V (HTV.out V HV2.out))).mono ?_⟩
      rintro e u ⟨rfl, b⟩
      obtain ⟨x0, x1, x2⟩ := HEND.out u (by rw [← hVs]; exact b)
      have c0 := x0.cell
      have c1 := x0.frozen
      have y0 := x1.cell
      clear b
      gi_wp2
      refine ⟨.bool true, by simp [results, Tryz.results4, go_sem, y0], rfl, by rw [← HN.out]; exact x2⟩
  have g1 : ¬ (12000 : Int) < (t.length : Int) := by omega
  have g2 : ¬ (8000 : Int) < (s.length : Int) := by omega
  have hsl : s.length ≤ 8000 := by omega
  have HNE := hid (new_any t m V (HTV.out V HV2.out))
  have HRE := hid (fun W => rnew_any t W (.inl (by omega)))
  have HTP := hid (txp_of t (by omega))
  obtain ⟨er, her⟩ : ∃ er, er = (nw t).1.1 := ⟨_, rfl⟩
  obtain ⟨ln, hln⟩ : ∃ ln, ln = (nw t).1.2 := ⟨_, rfl⟩
  obtain ⟨U, hU⟩ : ∃ U, U = (nw t).2.1 := ⟨_, rfl⟩
  obtain ⟨S, hS⟩ : ∃ S, S = (nw t).2.2 := ⟨_, rfl⟩
  rw [← her, ← hln, ← hU, ← hS] at HNE
  rw [← her, ← hln, ← hU, ← hS] at HRE
  rw [← her, ← hU, ← hS] at HTP
  clear her hln hU hS h1
  rw [hVs] at HNE
  refine callsIn_of_wp_marks Tryz.func4 rfl trivial ?_ rfl
  simp only [Tryz.ntmps4, List.size_toArray, List.length_cons, List.length_nil, Nat.reduceAdd, Nat.reduceSub, Array.replicate_succ, Array.replicate_zero, List.push_toArray, List.append_toArray, List.nil_append, List.cons_append]
  gi_wp2_with fail
  rw [← HV.out, ← HN.out]
  refine ⟨trivial, (callsIn_wide.2 HNE.out).mono ?_⟩
  rintro e w1 ⟨b1, (⟨hne, rfl⟩ | ⟨he0, P, K, nv, po, pc, rfl, d1, o1, r1, nd1, ln1⟩)⟩
  · have HB1 := hid b1
    have HR1 := hid (HRE.out w1)
    clear b1 HNE HRE HTP
    gi_wp2_with fail
    refine ⟨trivial, (callsIn_wide.2 HR1.out).mono ?_⟩
    rintro e w2 ⟨b2, (⟨_, rfl⟩ | ⟨he0, _⟩)⟩
    · have hs1 := HB1.out.size
      have HB2 := hid (HB1.out.trans (b2.mono (by omega)))
      clear b2 HR1
      gi_wp2_with (first | (refine ⟨trivial, ?_⟩; gi_at_call 12; refine (callsIn_wide.2 (HNU.out _ _)).mono ?_; rintro e w3 ⟨rfl, hw⟩; obtain rfl := hw.symm) | fail)
      refine ⟨trivial, (callsIn_wide.2 (HLV.out w2 (HTV.out w2 HB2.out))).mono ?_⟩
      rintro e u ⟨rfl, b⟩
      have hs2 := HB2.out.size
      obtain ⟨x0, x1, x2⟩ := HEND.out u (HB2.out.trans (b.mono (by omega)))
      have c0 := x0.cell
      have c1 := x0.frozen
      have y0 := x1.cell
      clear b
      gi_wp2
      refine ⟨.bool true, by simp [results, Tryz.results4, go_sem, y0], rfl, by rw [← HN.out]; exact x2⟩
    · exact absurd he0 hne
  obtain ⟨p1, p3, p8, p9, p10⟩ := HTP.out he0 r1
  have p6 := ln1
  obtain ⟨A, hA⟩ : ∃ A, A = whl S := ⟨_, rfl⟩
  rw [← hA] at p1 p3 p8 p9 p10 d1 o1 HRE
  have HB1 := hid b1
  have HD1 := hid d1
  have HO1 := hid o1
  have HCV := hid p1
  have HCL := hid p3
  have HPW := hid p9
  have HEN := hid p10
  have HR1 := hid (HRE.out w1)
  have HEL := hid (evs_len A s)
  have HTX := hid (evs_txt A s)
  have HFI := hid (evs_first A s)
  clear b1 d1 o1 r1 nd1 ln1 HNE HRE HTP p1 p3 p9 p10 hA
  gi_wp2_with fail
  refine ⟨trivial, (callsIn_wide.2 HR1.out).mono ?_⟩
  rintro e w2 ⟨b2, (⟨hne, _⟩ | ⟨_, Q, nv2, sv2, vs2, rfl, d2⟩)⟩
  · exact absurd he0 hne
  have hs1 := HB1.out.size
  have HB2 := hid (HB1.out.trans (b2.mono (by omega)))
  have hs2 := Nat.le_trans hs1 b2.size
  have HD2 := hid (HD1.out.below b2)
  have HO2 := hid (own_keep HO1.out b2)
  have HRO := hid (rof_any w1.heap.size Q U.length U A nv2 sv2 vs2 s w2 d2 HCV.out HCL.out (by omega) (by omega) (by omega))
  obtain rfl : er = 0 := he0
  obtain ⟨L, hL⟩ : ∃ L, L = evs A s 0 := ⟨_, rfl⟩
  rw [← hL] at HRO HEL HTX HFI
  have HLE := hid hL
  clear b2 d2 HR1 HD1 HO1 hL
  gi_wp2_with (first | (refine ⟨trivial, ?_⟩; gi_at_call 12; refine (callsIn_wide.2 (HNU.out _ _)).mono ?_; rintro e w3 ⟨rfl, hw⟩; obtain rfl := hw.symm) | fail)
  refine ⟨trivial, (callsIn_wide.2 HRO.out).mono ?_⟩
  rintro e w3 ⟨v3, rfl, o3, b3⟩
  obtain ⟨wo, wc, rfl, rd3⟩ := rdi_own o3 rfl
  have HB3 := hid (HB2.out.trans (b3.mono (by omega)))
  have hs3 := Nat.le_trans hs2 b3.size
  have HD3 := hid (HD2.out.below b3)
  have HO3 := hid (own_keep HO2.out b3)
  have HW3 := hid rd3
  obtain ⟨M, hM⟩ : ∃ M, M = w3.heap.size := ⟨_, rfl⟩
  obtain ⟨n, hn⟩ : ∃ n, n = L.length := ⟨_, rfl⟩
  have HNL := hid hn
  obtain ⟨X4, hX4⟩ : ∃ X4, X4 = w3.alloc (.cells #[.slice wo n wc] 34) := ⟨_, rfl⟩
  have hb4 : Below w3.heap.size w3 X4 := by rw [hX4]; exact (Below.refl _ w3).alloc (Nat.le_refl _) _
  have HM4 := hid (show Boxed X4 M 34 (.slice wo n wc) by rw [hX4, hM]; exact Boxed.new _ _ _)
  have hX4s : X4.heap.size = M + 1 := by rw [hX4, hM]; simp
  have HB4 := hid (HB3.out.trans (hb4.mono (by omega)))
  have HD4 := hid (HD3.out.below hb4)
  have HO4 := hid (own_keep HO3.out hb4)
  have HW4 := hid (HW3.out.below hb4)
  have HOF := hid (of_any V.heap.size P nv (.map (some K)) po pc A s X4 HD4.out.hP (by rw [hVs]; exact HO4.out) (by omega) HPW.out HEN.out (by omega))
  rw [← HLE.out, ← hn] at HOF
  have hMN : N + 2 ≤ M := by omega
  rw [← hn]
  have HX4 := hid hX4
  clear b3 o3 rd3 hb4 HRO HD2 HO2 HD3 HO3 HW3 HB3 HB2 hX4 hn
  gi_wp2_with fail
  rw [← hM, ← HX4.out]
  clear hM
  refine ⟨trivial, (callsIn_wide.2 HOF.out).mono ?_⟩
  rintro e w5 ⟨v5, rfl, o5, b5⟩
  obtain ⟨go, gc, rfl, rd5⟩ := rdi_own o5 HNL.out
  have hs5 := b5.size
  have HO5 := hid o5
  have hm5 := (boxed_in HM4.out b5 (by omega)).cell
  have HIN := hid (ints_same go wo gc wc n (L.map fun x => (x.2 : Int)) w5 rd5 (HW4.out.below b5) (by rw [List.length_map]; exact HNL.out) (by have h5 := HEL.out; have h6 := HNL.out; omega))
  have HB5 := hid b5
  clear b5 o5 rd5 HOF
  gi_wp2_with fail
  refine ⟨trivial, (callsIn_wide.2 HIN.out).mono ?_⟩
  rintro e w6 ⟨rfl, b6⟩
  have HO6 := hid (own_keep HO5.out b6)
  have HB6 := hid (show Below (M + 1) X4 w6 from (by rw [← hX4s]; exact HB5.out.trans (b6.mono hs5)))
  rw [hX4s] at HO6
  have hnl : n ≤ 8000 := by have h5 := HEL.out; have h6 := HNL.out; omega
  clear b6 HIN HO5 HB5 hm5
  gi_wp2_with fail
  gi_loopw [15] (fun i wr => ∃ (k : Nat) (ys : List Value), k ≤ n ∧ i = .int .i64 (k : Int) ∧ Hid (wr.ownsRow (M + 1) 3 1 (.slice go n gc) n ys) ∧ Hid (Below (M + 1) X4 wr)) (fun i _ => n - (intOf i).toNat)
  case atStart => exact ⟨0, _, by omega, rfl, HO6, HB6⟩
  case round =>
    obtain ⟨k, ys, hk, rfl, HOr, HBr⟩ := hrel
    clear HO6 HB6
    by_cases hlt : k < n
    · obtain ⟨g, cap, e, hg⟩ := txo_some HOr.out (by omega)
      cases e
      obtain ⟨v, q0, q1⟩ := txo_at HOr.out k (by omega)
      have i3 : (k : Int) < (n : Int) := by omega
      have i0 : (0 : Int) ≤ (k : Int) := by omega
      have HO7 := hid ((HOr.out.stored k (.int .i64 (-1))).1)
      have HB7 := hid (HBr.out.setCell (p := ⟨g, k, none⟩) hg (.int .i64 (-1)))
      clear HOr HBr
      gi_wp2
      go_roundw
      case rel => exact ⟨k + 1, _, by omega, by go_num, HO7, HB7⟩
      case measure => simp [intOf]; omega
    · have i3 : ¬ (k : Int) < (n : Int) := by omega
      have HEA := hid (each_any P s wr)
      obtain ⟨R, hR⟩ : ∃ R, R = wr.heap.size := ⟨_, rfl⟩
      have hRM : M + 1 ≤ R := by have h5 := HBr.out.size; omega
      rw [← hR] at HEA
      have HRe := hid hR
      clear hR HOr
      gi_wp2_with fail
      refine ⟨trivial, (callsIn_wide.2 HEA.out).mono ?_⟩
      rintro e w7 ⟨rfl, hw7⟩
      obtain ⟨X7, hX7⟩ : ∃ X7, X7 = w7.alloc (.cells #[.func (.func 47) #[] #[.pointer (some ⟨R, 0, none⟩), .pointer (some ⟨R + 1, 0, none⟩)]] 38) := ⟨_, rfl⟩
      have hw7s : w7.heap.size = R + 2 := by rw [hw7, HRe.out]; simp
      have hX7s : X7.heap.size = R + 3 := by rw [hX7, World.size_alloc, hw7s]
      have HF7 := hid (show Boxed X7 (R + 2) 38 (.func (.func 47) #[] #[.pointer (some ⟨R, 0, none⟩), .pointer (some ⟨R + 1, 0, none⟩)]) by rw [hX7, ← hw7s]; exact Boxed.new _ _ _)
      have HD7 := hid (show Boxed X7 R 24 (.pointer (some ⟨P, 0, none⟩)) by rw [hX7, hw7, HRe.out]; exact ((Boxed.new wr 24 _).alloc _).alloc _)
      have HS7 := hid (show Boxed X7 (R + 1) 9 (.string ⟨s.toArray⟩) by
        have h5 := Boxed.new (wr.alloc (.cells #[.pointer (some ⟨P, 0, none⟩)] 24)) 9 (.string ⟨s.toArray⟩)
        rw [World.size_alloc] at h5
        rw [hX7, hw7, HRe.out]; exact h5.alloc _)
      have HB7 := hid (show Below (M + 1) X4 X7 by
        rw [hX7, hw7]
        have h5 := HRe.out
        exact ((HBr.out.alloc (by omega) _).alloc (by simp; omega) _).alloc (by simp; omega) _)
      have HX7 := hid hX7
      have HW7 := hid hw7
      have HW7s := hid hw7s
      have hnl := eq_nilf #[.pointer (some ⟨R, 0, none⟩), .pointer (some ⟨R + 1, 0, none⟩)] X7
      rw [hX7] at hnl
      clear hw7 hX7 HBr HEA hw7s
      gi_wp2_with fail
      rw [← HX7.out, HW7s.out]
      have HRU := hid (rrunes_rd s X7 (by omega))
      rw [HTX.out.1, ← HNL.out] at HRU
      refine ⟨trivial, (callsIn_wide.2 HRU.out).mono ?_⟩
      rintro e w8 ⟨xo, xc, rfl, rd8, b8⟩
      obtain ⟨X0, hX0⟩ : ∃ X0, X0 = w8.alloc (.cells #[.slice xo n xc] 40) := ⟨_, rfl⟩
      obtain ⟨X1, hX1⟩ : ∃ X1, X1 = X0.alloc (.cells #[.int .i64 0] 3) := ⟨_, rfl⟩
      obtain ⟨bx, hbx⟩ : ∃ bx, bx = w8.heap.size := ⟨_, rfl⟩
      have hX0s : X0.heap.size = bx + 1 := by rw [hX0, hbx]; simp
      have hX1s : X1.heap.size = bx + 2 := by rw [hX1, World.size_alloc, hX0s]
      have hs8 : R + 3 ≤ bx := by have h5 := b8.size; omega
      have hb80 : Below w8.heap.size w8 X0 := by rw [hX0]; exact (Below.refl _ w8).alloc (Nat.le_refl _) _
      have hb70 : Below X7.heap.size X7 X0 := b8.trans (hb80.mono b8.size)
      have hb40 : Below X4.heap.size X4 X0 := by rw [hX4s]; exact HB7.out.trans (hb70.mono (by omega))
      have HVX := hid (show Below (N + 2) V X0 from HB4.out.trans (hb40.mono (by omega)))
      have ho0 := own_keep HO4.out hb40
      have hd0 := HD4.out.below hb40
      have HRL := hid (show ∀ a : Addr, po = some a → ∃ c fz, X0.heap[a.block]? = some (.cells c 86 fz) from fun a e => by
        obtain ⟨cs, hcs⟩ := row_blk ho0 (x := a.block) (by rw [e]; exact (by
          rcases ho0.2 with ⟨h5, _⟩ | ⟨q, cap, cur, h5, _⟩
          · rw [e] at h5; cases h5
          · rw [e] at h5; cases h5; rfl))
        exact ⟨cs, (0, 0), hcs⟩)
      have HK0 := hid (show KitX N M R bx P n stop wo wc xo xc nv K po pc A s L X0 from
        { stop := boxed_in (boxed_in HV0.out HB4.out (by omega)) hb40 (by omega)
          res := boxed_in (boxed_in HV1.out HB4.out (by omega)) hb40 (by omega)
          want := boxed_in HM4.out hb40 (by omega)
          fn := boxed_in HF7.out hb70 (by omega)
          xs := by rw [hX0, hbx]; exact Boxed.new _ _ _
          own := ho0
          each := ⟨boxed_in HD7.out hb70 (by omega), boxed_in HS7.out hb70 (by omega), hd0.hP, HRL.out, rd_own ho0⟩
          rdw := HW4.out.below hb40
          rdx := rd8.below hb80 })
      have hb01 : Below X0.heap.size X0 X1 := by rw [hX1]; exact (Below.refl _ X0).alloc (Nat.le_refl _) _
      have HK1 := hid (HK0.out.below hb01)
      have HKE := hid (show ∀ k, KE R (R + 1) P po k → k < bx + 1 from fun k hk => by rw [← hX0s]; exact HK0.out.each.lt k hk)
      have HN1 := hid (show Boxed X1 (bx + 1) 3 (.int .i64 0) by rw [hX1, ← hX0s]; exact Boxed.new _ _ _)
      have HB01 := hid (show Below (bx + 1) X0 X1 by rw [← hX0s]; exact hb01)
      have hf := HK1.out.fn.cell
      rw [hX1, hX0] at hf
      have HX1 := hid hX1
      have HX0 := hid hX0
      have HBX := hid hbx
      clear b8 rd8 hb80 hb70 hb40 ho0 hd0 HX7 HW7 HW7s hnl HRU HF7 HD7 HS7 hb01 hX0 hX1 hbx HM4 HX4 HD4 HO4 HW4 HB7 HV0 HV1 HRe HRL
      gi_wp2
      rw [← HX0.out, ← HX1.out, ← HBX.out]
      clear hf HX0 HX1 HBX
      refine rfXH (Z := EachAt R (R + 1) P nv (.map (some K)) po pc A s) (K := KE R (R + 1) P po) (L := L) rfl (by omega) (gf := 47) (lb := #[.pointer (some ⟨R, 0, none⟩), .pointer (some ⟨R + 1, 0, none⟩)]) rfl trivial (enters_of Tryz.func47 (by kernel_rfl) rfl)
        (by rw [HLE.out]; exact each_stops _ (by omega) R (R + 1) P nv (.map (some K)) po pc A s X1 HK1.out.each (by omega) HPW.out HEN.out)
        (fun W lp o' hlp hz => hz.keeps (grownBy_putObj' W lp o').size (fun k hk => World.putObj_heap_other (by have h5 := HKE.out k hk; omega))) (fun k hk => by have h5 := HKE.out k hk; omega) rfl 19 20
        (fun pre W => Boxed W (bx + 1) 3 (.int .i64 (pre.length : Nat)) ∧ Below (bx + 1) X0 W) (fun _ _ => False)
        (OwnFrom.and (Own.from (boxed_own _ _ (fun pre : List (Nat × Nat) => Value.int .i64 (pre.length : Nat))) _) (ownFrom_below (by omega) (by omega)))
        (fun _ _ _ _ h _ _ => h) ⟨HN1.out, HB01.out⟩ ?assign ?body ?done ?stop
      case assign =>
        intro lp z W K hK
        dsimp only [encE]
        gi_wp2
        simpa [frX, encE] using hK
      case stop =>
        rintro D pre W _ _ h _
        exact h.elim
      case body =>
        rintro lp pre z W hlp ⟨r, hr⟩ hpre hZ ⟨bN, hB⟩
        have hz := snoc_at hpre
        have HKW := hid (HK0.out.below (by rw [hX0s]; exact hB))
        obtain ⟨j, hj⟩ : ∃ j, j = pre.length := ⟨_, rfl⟩
        rw [← hj] at hz bN
        obtain ⟨xr, xe, htx⟩ := HTX.out.2 j z hz
        obtain ⟨xg, hxg, hxl, xc0, xc1, xc2⟩ := HKW.out.rdx j _ htx
        obtain ⟨wa, hwa, hwl, wc0⟩ := HKW.out.rdw j (z.2 : Int) (by rw [List.getElem?_map, hz]; rfl)
        subst hxg hwa
        have hjn : j < n := by have h5 := (List.getElem?_eq_some_iff.1 hz).1; have h6 := HNL.out; omega
        have j3 : (j : Int) < (n : Int) := by omega
        have j0 : (0 : Int) ≤ (j : Int) := by omega
        have cN := bN.cell
        have cX := HKW.out.xs.cell
        have cW := HKW.out.want.cell
        have cS := HKW.out.stop.cell
        have cF := HKW.out.fn.cell
        have fN := bN.frozen
        have HBN := hid bN
        have HB := hid hB
        have HJ := hid hj
        have HR := hid hr
        have hbW : bx + 1 < W.heap.size := bN.lt
        obtain ⟨z1, z2⟩ := z
        dsimp only at xc1 wc0
        have HPO := hid (show ∀ (B : Nat) (W' : World), Below W.heap.size W W' → KeepsFrom B W (W'.setCell ⟨bx + 1, 0, none⟩ (.int .i64 ((j : Int) + 1))) ∧ Kr (KE R (R + 1) P po) W (W'.setCell ⟨bx + 1, 0, none⟩ (.int .i64 ((j : Int) + 1))) ∧ (Boxed (W'.setCell ⟨bx + 1, 0, none⟩ (.int .i64 ((j : Int) + 1))) (bx + 1) 3 (.int .i64 ((pre ++ [(z1, z2)]).length : Nat)) ∧ Below (bx + 1) X0 (W'.setCell ⟨bx + 1, 0, none⟩ (.int .i64 ((j : Int) + 1)))) from fun B W' hW => by
          obtain ⟨q1, q2⟩ := set_post hW HBN.out (.int .i64 ((j : Int) + 1)) B (KE R (R + 1) P po) (fun k hk => by have h5 := HKE.out k hk; omega)
          refine ⟨q1, q2, ?_, (HB.out.trans (hW.mono (by omega))).setCell (p := ⟨bx + 1, 0, none⟩) (Nat.le_refl _) _⟩
          have h5 := (boxed_in HBN.out hW hbW).set (.int .i64 ((j : Int) + 1))
          rw [List.length_append, ← HJ.out]
          exact h5)
        dsimp only [frX, encE]
        clear hpre hZ bN hB hj hr hz htx
        by_cases hst : (j : Int) = stop
        · have ts : ((j : Int) == stop) = true := beq_iff_eq.2 hst
          clear hst
          gi_wp2
          clear cN cX cW cS cF fN ts xc0 xc1 xc2 wc0
          refine rfXN (Z := EachAt R (R + 1) P nv (.map (some K)) po pc A s) (K := KE R (R + 1) P po) (L := L) (l₀ := lp) (r₀ := r) rfl HR.out (by omega) (gf := 47) (lb := #[.pointer (some ⟨R, 0, none⟩), .pointer (some ⟨R + 1, 0, none⟩)]) rfl trivial (enters_of Tryz.func47 (by kernel_rfl) rfl)
            (by rw [HLE.out]; exact each_stops _ (by omega) R (R + 1) P nv (.map (some K)) po pc A s W HKW.out.each (by omega) HPW.out HEN.out)
            (fun W' lp o' hlp hz => hz.keeps (grownBy_putObj' W' lp o').size (fun k hk => World.putObj_heap_other (by have h5 := HKE.out k hk; omega))) (fun k hk => by have h5 := HKE.out k hk; omega) rfl 21 22 4
            (fun pre' W' => pre' = [] ∧ Below W.heap.size W W') (fun _ W' => Below W.heap.size W W')
            (OwnFrom.and (fun _ _ _ _ h _ _ => h) (ownFrom_below (Nat.le_refl _) (Nat.le_refl _))) (ownFrom_below (Nat.le_refl _) (Nat.le_refl _))
            ⟨rfl, Below.refl _ _⟩ ?assign2 ?body2 (fun W' => Below W.heap.size W W') (fun _ h => h.2) (fun _ _ _ h => h) (fun _ _ h => h) ?fin2
          case assign2 =>
            intro lp2 y W' K hK
            dsimp only [encE]
            gi_wp2
            refine Eq.mp (congrArg (fun a => K a W') ?_) hK
            simp [frX, encE]
          case body2 =>
            rintro lp2 pre2 y W' hlp2 hpre2 hZ2 ⟨rfl, hB2⟩
            have hy := snoc_at hpre2
            have HK2 := hid (HKW.out.below hB2)
            have hy0 := HFI.out y hy
            obtain ⟨wb, hwb, _, wd0⟩ := HK2.out.rdw 0 (y.2 : Int) (by rw [List.getElem?_map]; rw [show L[0]? = some y from hy]; rfl)
            cases hwb
            have wd1 : W'.cell? wa = some (.int .i64 (y.2 : Int)) := by
              have e : wa.add 0 = wa := by unfold Addr.add; split <;> simp_all
              rw [e] at wd0; exact wd0
            have cW2 := HK2.out.want.cell
            have n0 : (0 : Int) < (n : Int) := by omega
            obtain ⟨y1, y2⟩ := y
            dsimp only at hy0 wd0 wd1
            subst hy0
            have HB2 := hid hB2
            clear hpre2 hZ2 hy hB2
            dsimp only [frX, encE]
            gi_wp2
            exact ⟨rfl, KeepsFrom.refl _ _, HB2.out⟩
          case fin2 =>
            intro W' hB2
            have dN := boxed_in HBN.out hB2 hbW
            have cN := dN.cell
            have fN := dN.frozen
            have HP2 := hid (fun B => HPO.out B W' hB2)
            clear hB2 dN
            gi_wp2
            exact HP2.out _
        · have ts : ((j : Int) == stop) = false := beq_eq_false_iff_ne.2 hst
          clear hst
          gi_wp2
          exact HPO.out _ W (Below.refl _ _)
      case done =>
        rintro D W hD ⟨bN, hB⟩ hDK
        rw [← HNL.out] at bN
        have HKW := hid (HK0.out.below (by rw [hX0s]; exact hB))
        have hbW : bx + 1 < W.heap.size := bN.lt
        have HBN := hid bN
        have HDK := hid hDK
        have HVW := hid (show Below (N + 2) V W from HVX.out.trans (hB.mono (by omega)))
        have HSS := hid (show ∀ W', Below W.heap.size W W' → W'.cell? ⟨bx + 1, 0, none⟩ = some (.int .i64 (n : Int)) ∧ W'.cell? ⟨bx, 0, none⟩ = some (.slice xo n xc) ∧ W'.cell? ⟨M, 0, none⟩ = some (.slice wo n wc) from fun W' hW => ⟨(boxed_in HBN.out hW hbW).cell, (HKW.out.below hW).xs.cell, (HKW.out.below hW).want.cell⟩)
        have HOW := hid (own_keep HKW.out.own (bdrew W))
        have HOF2 := hid (of_any (N + 2) P nv (.map (some K)) po pc A s W.drew HKW.out.each.hP HOW.out (by omega) HPW.out HEN.out (by omega))
        rw [← HLE.out, ← HNL.out] at HOF2
        have hDW : D < W.heap.size := lt_of_heap hDK
        have hD2 : bx + 2 ≤ D := by omega
        have hnn : ((n : Int) == (n : Int)) = true := beq_self_eq_true _
        clear bN hB hDK HOW
        gi_wp2
        refine wpIn_wide.2 ?_
        refine wp_region_mixC [(0, 0), (1, 0), (2, 1), (3, 1), (4, 1), (5, 1), (6, 1), (8, 0), (7, 2), (9, 2), (10, 1), (11, 1), (12, 2), (13, 1), (14, 2)] (fun W => W.cell? ⟨bx + 1, 0, none⟩ = some (.int .i64 (n : Int)) ∧ W.cell? ⟨bx, 0, none⟩ = some (.slice xo n xc) ∧ W.cell? ⟨M, 0, none⟩ = some (.slice wo n wc)) (fun _ => True) (fun j => j == 14) (by kernel_rfl) (by kernel_rfl) (fun j hj => by simp at hj; rw [hj]; decide) rfl (by kernel_rfl) (HSS.out W.drew (bdrew W)) trivial ?_
        iterate 8 ((first | refine mixC_s ?_ rfl (by kernel_rfl) (fun w' hS => ?_) ?_ | refine mixC_t ?_ rfl (by kernel_rfl) (fun w' hS => ?_) ?_); (rotate_left; ((first | obtain ⟨s1, s2, s3⟩ := hS | clear hS); go_simp; with_reducible rfl); rotate_left); (try simp only [Act.put, List.setIfInBounds_toArray]))
        refine mixC_go rfl (by kernel_rfl) fun KK hKK => ?_
        go_simp
        refine HOF2.out.mono ?_
        rintro e u1 ⟨v1, rfl, o1, b1⟩
        obtain ⟨go2, gc2, rfl, rd1⟩ := rdi_own o1 HNL.out
        have HB1u := hid (show Below W.heap.size W u1 from (bdrew W).trans b1)
        have HRD1 := hid rd1
        refine hKK _ _ (fun _ => HSS.out u1 HB1u.out) trivial ?_
        clear hKK KK o1 b1 rd1 HOF2
        try simp only [Act.put, List.setIfInBounds_toArray]
        have HIN2 := hid (ints_same go2 wo gc2 wc n (L.map fun x => (x.2 : Int)) u1 HRD1.out (HKW.out.below HB1u.out).rdw (by rw [List.length_map]; exact HNL.out) (by omega))
        refine mixC_go rfl (by kernel_rfl) fun KK hKK => ?_
        go_simp
        refine HIN2.out.mono ?_
        rintro e u2 ⟨rfl, b2⟩
        have HB2u := hid (HB1u.out.trans (b2.mono HB1u.out.size))
        refine hKK _ _ (fun _ => HSS.out u2 HB2u.out) trivial ?_
        clear hKK KK b2 HIN2 HRD1 HB1u
        iterate 2 ((try simp only [Act.put, List.setIfInBounds_toArray]); refine mixC_t ?_ rfl (by kernel_rfl) (fun w' hS => ?_) ?_; (rotate_left; (go_simp; with_reducible rfl); rotate_left))
        try simp only [Act.put]
        have hVW2 : N + 2 ≤ W.heap.size := by omega
        have HTU := hid (HTV.out u2 (HVW.out.trans (HB2u.out.mono hVW2)))
        refine mixC_go rfl (by kernel_rfl) fun KK hKK => ?_
        go_simp
        refine (HLV.out u2 HTU.out).mono ?_
        rintro e u3 ⟨rfl, b3⟩
        have HB3u := hid (HB2u.out.trans (b3.mono HB2u.out.size))
        refine hKK _ _ (fun _ => HSS.out u3 HB3u.out) trivial ?_
        clear hKK KK b3 HB2u HTU
        try simp only [Act.put, List.setIfInBounds_toArray]
        refine mixC_t ?_ rfl (by kernel_rfl) (fun w' hS => ?_) ?_; (rotate_left; (go_simp; with_reducible rfl); rotate_left)
        try simp only [Act.put, List.setIfInBounds_toArray]
        obtain ⟨x0, x1, x2⟩ := HEND.out u3 (HVW.out.trans (HB3u.out.mono hVW2))
        have c0 := x0.cell
        have c1 := x0.frozen
        have HX1' := hid x1
        have HX2' := hid x2
        have HD3 := hid ((HB3u.out.block D hDW).trans HDK.out)
        refine mixC_go rfl (by kernel_rfl) fun KK hKK => ?_
        go_simp
        refine hKK _ _ (fun h => by cases h) trivial ?_
        clear hKK KK c0 c1 x0 x1 x2
        refine mixC_end (NoPanic.normal ?_)
        have hq : (u3.setCell ⟨N + 1, 0, none⟩ (.bool true)).heap[D]? = some (.deferred (some [])) := (Below.heap_setCell u3 ⟨N + 1, 0, none⟩ _ D (by show D ≠ N + 1; omega)).trans HD3.out
        gi_wp2
        refine ⟨by simp, .inl ⟨_, _, rfl, run_takeDeferred hq, ?_⟩⟩
        have y0 := (HX1'.out.kept (grownBy_putObj' (u3.setCell ⟨N + 1, 0, none⟩ (.bool true)) D (.deferred none)) (fun e => by injection e with e; omega)).cell
        refine ⟨.bool true, by simp [results, Tryz.results4, go_sem, y0], rfl, by rw [← HN.out]; exact HX2'.out.trans (belowK_b (w := X1) (by omega) _ D _ (.deferred none) hD hq rfl rfl)⟩
theorem texts_walk (t s : List UInt8) (stop : Int) (m : Int) (w : World) (h : Tbs m w) (ht : t.length ≤ 9223372036854775807) (hs : s.length ≤ 9223372036854775807) :
    Calls Tryz.prog 4 #[.string ⟨t.toArray⟩, .string ⟨s.toArray⟩, .int .i64 stop] w fun e w' => e = .returned (.bool true) ∧ Below w.heap.size w w' := callsIn_wide.1 (texts_in t s stop m w h ht hs)
end Go.Proofs.YtohhokjlgihbgaaGreatDoor
