/- The contract of fitting (package width). -/
import Derived.Test.YtlfegdpclappiaaDoorWtPm2Joint
import Derived.Test.YtlfegdpclappiaaDoorMixW
import Derived.Test.YtlfegdpclappiaaDoorBld2Joint
namespace Go.Proofs.YtlfegdpclappiaaDoor
open Go.RowKit Go.Shelf
attribute [local go_sem] Oper.semAt_some

theorem plc_fold2 (l : List UInt8) (a t : Int) (R : List (Nat × Nat)) : ∀ (M : List (List (Nat × Nat))) (p : Nat) (c : Int), rl (l.drop p) = M.flatten ++ R → (∀ x ∈ M, x ≠ []) → colP l a t c (plc p M) = M.foldl (bhR a t) c
  | [], _, _, _, _ => rfl
  | x :: M, p, c, h, hne => by
    rw [List.flatten_cons, List.append_assoc] at h
    obtain ⟨h1, h2⟩ := cut_at _ _ _ h
    have hx := hne x (List.mem_cons_self ..)
    have e : (l.take (p + psm x)).drop p = (l.drop p).take (psm x) := by rw [List.drop_take, Nat.add_sub_cancel_left]
    have e2 : colP l a t c (plc p (x :: M)) = colP l a t (bhd a t c ((l.take (p + psm x)).drop p)) (plc (p + psm x) M) := rfl
    rw [e2, e, bhd_rl a t c _ (piece_ne _ x h1 hx), h1, plc_fold2 l a t R M _ _ (by rw [← List.drop_drop]; exact h2) (fun y hy => hne y (List.mem_cons_of_mem _ hy))]
    rfl
theorem plc_pre : ∀ (M : List (List (Nat × Nat))) (q : Nat) (xs : List (Nat × Nat)), xs <+: plc q M → ∃ P Q, M = P ++ Q ∧ xs = plc q P
  | M, q, [], _ => ⟨[], M, rfl, rfl⟩
  | [], q, x :: xs, h => by
    obtain ⟨r, hr⟩ := h
    cases hr
  | m :: M, q, x :: xs, h => by
    obtain ⟨r, hr⟩ := h
    rw [plc, List.cons_append] at hr
    obtain ⟨h1, h2⟩ := List.cons.inj hr
    obtain ⟨P, Q, e1, e2⟩ := plc_pre M _ xs ⟨r, h2⟩
    exact ⟨m :: P, Q, by rw [e1]; rfl, by rw [plc, h1, e2]⟩
/-- The end of the last piece. -/
def eL (xs : List (Nat × Nat)) : Nat := xs.foldl (fun _ y => y.2) 0
theorem eL_snoc (xs : List (Nat × Nat)) (x : Nat × Nat) : eL (xs ++ [x]) = x.2 := by simp [eL]
theorem eF_plc : ∀ (M : List (List (Nat × Nat))) (q : Nat), (plc q M).foldl (fun _ y => y.2) q = q + psm M.flatten
  | [], q => by simp [plc, psm]
  | x :: M, q => by
    rw [plc, List.foldl_cons]
    show (plc (q + psm x) M).foldl (fun _ y => y.2) (q + psm x) = _
    rw [eF_plc M, List.flatten_cons, psm_app, Nat.add_assoc]
theorem eL_plc (M : List (List (Nat × Nat))) : eL (plc 0 M) = psm M.flatten := by
  unfold eL
  rw [eF_plc M 0, Nat.zero_add]
theorem al_keep {w : World} {k : Nat} {o : Obj} (h : w.heap[k]? = some o) (o' : Obj) : (w.alloc o').heap[k]? = some o := (Below.heap_alloc w o' k (Array.getElem?_eq_some_iff.1 h).1).trans h
/-- What fitting tells: whole letters, how far they reach, and the column behind them. -/
def FitQ (l : List UInt8) (cells a t s : Int) (e : Nat) (c : Int) : Prop :=
  ∃ P Q, pcl gc (rl l) = P ++ Q ∧ e = psm P.flatten ∧ c = P.foldl (bhR a t) s ∧ (P = [] ∨ c ≤ cells)
theorem fit_of (l : List UInt8) (cells a t s : Int) (xs : List (Nat × Nat)) (h : xs <+: gpF l 0) (hc : xs = [] ∨ colP l a t s xs ≤ cells) : FitQ l cells a t s (eL xs) (colP l a t s xs) := by
  rw [gpF_0] at h
  obtain ⟨P, Q, h1, rfl⟩ := plc_pre _ _ _ h
  have h2 := pcl_all gc _ (rl l) (Nat.le_refl _)
  rw [h1, List.flatten_append] at h2
  have h3 : colP l a t s (plc 0 P) = P.foldl (bhR a t) s := plc_fold2 l a t Q.flatten P 0 s h2.symm (fun x hx => pcl_ne gc _ _ (Nat.le_refl _) x (by rw [h1]; exact List.mem_append_left _ hx))
  refine ⟨P, Q, h1, eL_plc P, h3, ?_⟩
  rcases hc with h | h
  · left
    cases P with
    | nil => rfl
    | cons x P => cases h
  · exact .inr h
set_option maxHeartbeats 4000000 in
set_option maxRecDepth 100000 in
theorem wfit_in (l : List UInt8) (z a t s : Int) (w : World) (ht : TbW w) (hl : l.length ≤ 100000000) (hk : Okc a t s) :
    CallsIn Fence.wide 3 Tryd.prog 48 #[.string ⟨l.toArray⟩, .int .i64 z, .agg #[.int .i64 a, .int .i64 t, .int .i64 s]] w fun e W' => ∃ (n : Nat) (c : Int), e = .returned (.tuple #[.int .i64 n, .int .i64 c]) ∧ FitQ l z a t s n c ∧ Below w.heap.size w W' := by
  have HT := hid ht
  have HK := hid hk
  have hs0 := hk.s1
  have hs1 := hk.s2
  clear ht hk
  obtain ⟨L, hL, hLl⟩ := gp_all l _ 0 (Nat.le_refl _)
  have HL := hid hL
  have hll : L.length ≤ 100000000 := by omega
  clear hL hLl
  refine callsIn_of_wp_marks Tryd.func48 rfl trivial ?_ rfl
  simp only [Tryd.ntmps48, List.size_toArray, List.length_cons, List.length_nil, Nat.reduceAdd, Nat.reduceSub, Array.replicate_succ, Array.replicate_zero, List.push_toArray, List.append_toArray, List.nil_append, List.cons_append]
  gi_wp2_with (refine ⟨trivial, ?_⟩; gi_at_call 23; refine (callsIn_wide.2 (geach_any l _)).mono ?_; rintro e w' ⟨rfl, rfl⟩)
  obtain ⟨N, hN⟩ : ∃ N, N = w.heap.size := ⟨_, rfl⟩
  have b0 := ((((((Boxed.new w 9 (.string ⟨l.toArray⟩)).alloc (.cells #[.int .i64 z] 3)).alloc (.cells #[.int .i64 a, .int .i64 t, .int .i64 s] 36)).alloc (.cells #[.int .i64 0] 3)).alloc (.cells #[.int .i64 s] 3)).alloc (.cells #[.string ⟨l.toArray⟩] 9))
  have b1 := (((((Boxed.new (w.alloc (.cells #[.string ⟨l.toArray⟩] 9)) 3 (.int .i64 z)).alloc (.cells #[.int .i64 a, .int .i64 t, .int .i64 s] 36)).alloc (.cells #[.int .i64 0] 3)).alloc (.cells #[.int .i64 s] 3)).alloc (.cells #[.string ⟨l.toArray⟩] 9))
  have b2 := al_keep (al_keep (al_keep (World.alloc_heap_new ((w.alloc (.cells #[.string ⟨l.toArray⟩] 9)).alloc (.cells #[.int .i64 z] 3)) (.cells #[.int .i64 a, .int .i64 t, .int .i64 s] 36)) (.cells #[.int .i64 0] 3)) (.cells #[.int .i64 s] 3)) (.cells #[.string ⟨l.toArray⟩] 9)
  have b3 := (((Boxed.new (((w.alloc (.cells #[.string ⟨l.toArray⟩] 9)).alloc (.cells #[.int .i64 z] 3)).alloc (.cells #[.int .i64 a, .int .i64 t, .int .i64 s] 36)) 3 (.int .i64 0)).alloc (.cells #[.int .i64 s] 3)).alloc (.cells #[.string ⟨l.toArray⟩] 9))
  have b4 := ((Boxed.new ((((w.alloc (.cells #[.string ⟨l.toArray⟩] 9)).alloc (.cells #[.int .i64 z] 3)).alloc (.cells #[.int .i64 a, .int .i64 t, .int .i64 s] 36)).alloc (.cells #[.int .i64 0] 3)) 3 (.int .i64 s)).alloc (.cells #[.string ⟨l.toArray⟩] 9))
  have b5 := Boxed.new (((((w.alloc (.cells #[.string ⟨l.toArray⟩] 9)).alloc (.cells #[.int .i64 z] 3)).alloc (.cells #[.int .i64 a, .int .i64 t, .int .i64 s] 36)).alloc (.cells #[.int .i64 0] 3)).alloc (.cells #[.int .i64 s] 3)) 9 (.string ⟨l.toArray⟩)
  have hB : Below w.heap.size w ((((((w.alloc (.cells #[.string ⟨l.toArray⟩] 9)).alloc (.cells #[.int .i64 z] 3)).alloc (.cells #[.int .i64 a, .int .i64 t, .int .i64 s] 36)).alloc (.cells #[.int .i64 0] 3)).alloc (.cells #[.int .i64 s] 3)).alloc (.cells #[.string ⟨l.toArray⟩] 9)) := ((((((Below.refl _ _).alloc (Nat.le_refl _) _).alloc (by simp) _).alloc (by simp; omega) _).alloc (by simp; omega) _).alloc (by simp; omega) _).alloc (by simp; omega) _
  have hsz : ((((((w.alloc (.cells #[.string ⟨l.toArray⟩] 9)).alloc (.cells #[.int .i64 z] 3)).alloc (.cells #[.int .i64 a, .int .i64 t, .int .i64 s] 36)).alloc (.cells #[.int .i64 0] 3)).alloc (.cells #[.int .i64 s] 3)).alloc (.cells #[.string ⟨l.toArray⟩] 9)).heap.size = w.heap.size + 6 := by simp
  simp only [World.size_alloc] at b1 b2 b3 b4 b5
  have HTw := hid (HT.out.below hB)
  obtain ⟨W0, hW0⟩ : ∃ W0, W0 = (((((w.alloc (.cells #[.string ⟨l.toArray⟩] 9)).alloc (.cells #[.int .i64 z] 3)).alloc (.cells #[.int .i64 a, .int .i64 t, .int .i64 s] 36)).alloc (.cells #[.int .i64 0] 3)).alloc (.cells #[.int .i64 s] 3)).alloc (.cells #[.string ⟨l.toArray⟩] 9) := ⟨_, rfl⟩
  rw [← hW0] at b0 b1 b2 b3 b4 b5 hB hsz HTw ⊢
  rw [← hN] at b0 b1 b2 b3 b4 b5 hB hsz ⊢
  have h2 : 2 ≤ N := by rw [hN]; exact HT.out.two
  have HN := hid hN
  have HBw := hid hB
  have HS := hid hsz
  have HEa := hid (show WaAt (N + 1 + 1 + 1 + 1 + 1) l W0 from ⟨b5, HTw.out⟩)
  clear hN hB hsz hW0 HTw
  have HI0 := hid (And.intro (And.intro (And.intro b0 b1) b2) (And.intro b3 b4))
  clear b0 b1 b2 b3 b4 b5
  refine rfF (N + 1 + 1 + 1 + 1 + 1) (fun k => k = N + 1 + 1 + 1 ∨ k = N + 1 + 1 + 1 + 1) L (by omega) rfl HL.out HEa.out (by omega) rfl (fun k hk => by rintro (h | h) <;> omega)
    (fun pre W => (((Boxed W N 9 (.string ⟨l.toArray⟩) ∧ Boxed W (N + 1) 3 (.int .i64 z)) ∧ W.heap[N + 1 + 1]? = some (.cells #[.int .i64 a, .int .i64 t, .int .i64 s] 36 (0, 0))) ∧ (Boxed W (N + 1 + 1 + 1) 3 (.int .i64 (eL (pre.map Pl.v) : Nat)) ∧ Boxed W (N + 1 + 1 + 1 + 1) 3 (.int .i64 (colP l a t s (pre.map Pl.v))))) ∧ (pre = [] ∨ colP l a t s (pre.map Pl.v) ≤ z))
    (fun c pre W => c = .exit 0 ∧ ∃ (pr : List (Pl l)), pr <+: pre ∧ (pr = [] ∨ colP l a t s (pr.map Pl.v) ≤ z) ∧ Boxed W (N + 1 + 1 + 1) 3 (.int .i64 (eL (pr.map Pl.v) : Nat)) ∧ Boxed W (N + 1 + 1 + 1 + 1) 3 (.int .i64 (colP l a t s (pr.map Pl.v))))
    (OwnFrom.and (OwnFrom.and (OwnFrom.and (OwnFrom.and (Own.from (boxed_own _ _ _) _) (Own.from (boxed_own _ _ _) _)) (cells_from _ _ _ _)) (OwnFrom.and (Own.from (boxed_own _ _ (fun pre : List (Pl l) => Value.int .i64 (eL (pre.map Pl.v) : Nat))) _) (Own.from (boxed_own _ _ (fun pre : List (Pl l) => Value.int .i64 (colP l a t s (pre.map Pl.v)))) _))) (ownFrom_pure _ _))
    (fun c _ A C row hs hg hr => by
      obtain ⟨e, pr, e1, e2, e3, e4⟩ := hs
      exact ⟨e, pr, e1, e2, boxed_keep e3 hg hr, boxed_keep e4 hg hr⟩)
    ⟨HI0.out, .inl rfl⟩ 8 9 ?assign ?body ?done ?stop
  case assign =>
    intro lp x W K hK
    dsimp only [encP]
    gi_wp2
    simpa [fr, encP] using hK
  case body =>
    rintro lp pre x W ⟨⟨⟨⟨v0, v1⟩, v2⟩, v3, v4⟩, hpure⟩ hb he hlt
    have hx1 := x.lt
    have hx2 := x.le
    obtain ⟨f, hf⟩ : ∃ f, f = x.v.1 := ⟨_, rfl⟩
    obtain ⟨y, hx⟩ : ∃ y, y = x.v.2 := ⟨_, rfl⟩
    have hcb := colP_bd l a t s HK.out (pre.map Pl.v) s hs0
    rw [List.length_map] at hcb
    have HSN := hid (colP_snoc l a t s (pre.map Pl.v) x.v)
    have HES := hid (eL_snoc (pre.map Pl.v) x.v)
    obtain ⟨c, hc⟩ : ∃ c, c = colP l a t s (pre.map Pl.v) := ⟨_, rfl⟩
    obtain ⟨n, hn⟩ : ∃ n, n = eL (pre.map Pl.v) := ⟨_, rfl⟩
    have HC := hid hc
    have HNN := hid hn
    have HPU := hid hpure
    rw [← hc] at hcb v4 HSN
    rw [← hn] at v3
    rw [← hf, ← hx] at HSN
    rw [← hx] at HES
    have HEX := hid (ext_piece l f y (by omega))
    have HLE := hid (show ((l.take y).drop f).length = y - f by rw [List.length_drop, List.length_take]; omega)
    dsimp only [fr, encP]
    rw [← hf, ← hx] at hx1 ⊢
    rw [← hx] at hx2
    clear hf hx hc hn hpure
    have HE := hid he.tb
    have HV := hid (And.intro v0 (And.intro v1 (And.intro v2 (And.intro v3 v4))))
    have c0 := v0.cell
    have c1 : W.cell? ⟨N + 1 + 1, 0, none⟩ = some (.int .i64 a) := by simp [World.cell?, v2]
    have c2 : W.cell? ⟨N + 1 + 1, 1, none⟩ = some (.int .i64 t) := by simp [World.cell?, v2]
    have c3 : W.cell? ⟨N + 1 + 1, 2, none⟩ = some (.int .i64 s) := by simp [World.cell?, v2]
    have c4 := v4.cell
    gi_wp2_with fail
    rw [HEX.out]
    refine ⟨trivial, CallsIn.inRound lp (callsIn_wide.2 ((wbehind_any ((l.take y).drop f) c a t s W HE.out (by have := HLE.out; omega) (by have := HLE.out; omega) HK.out hcb.1 (by omega)).mono ?_))⟩
    rintro e W1 ⟨rfl, be1⟩
    have HBS1 := hid (show BS (fun k => k = N + 1 + 1 + 1 ∨ k = N + 1 + 1 + 1 + 1) W W1 from BS.below be1)
    have HBE1 := hid be1
    have HT1 := hid (HE.out.below be1)
    rw [← HSN.out]
    obtain ⟨c', hc'⟩ : ∃ c', c' = colP l a t s (List.map Pl.v pre ++ [x.v]) := ⟨_, rfl⟩
    rw [← hc'] at HSN ⊢
    have HC' := hid hc'
    clear be1 hc' c0 c1 c2 c3 c4
    gi_wp2_with fail
    refine ⟨trivial, CallsIn.inRound lp (callsIn_wide.2 ((wends_any ((l.take y).drop f) W1 HT1.out).mono ?_))⟩
    rintro e W2 ⟨rfl, be2⟩
    have HBS2 := hid (HBS1.out.trans (BS.below be2))
    have HBE2 := hid (show Below W.heap.size W W2 from HBE1.out.trans (be2.mono HBE1.out.size))
    obtain ⟨v, hv⟩ : ∃ v, v = elR (dec ((l.take y).drop f)).1 := ⟨_, rfl⟩
    rw [← hv]
    have w1 : Boxed W2 (N + 1) 3 (.int .i64 z) := (HBE2.out.block _ v1.lt).trans v1
    have w3 : Boxed W2 (N + 1 + 1 + 1) 3 (.int .i64 n) := (HBE2.out.block _ v3.lt).trans v3
    have w4 : Boxed W2 (N + 1 + 1 + 1 + 1) 3 (.int .i64 c) := (HBE2.out.block _ v4.lt).trans v4
    have HW0 := hid (show Boxed W2 N 9 (.string ⟨l.toArray⟩) from (HBE2.out.block _ v0.lt).trans v0)
    have HW2 := hid ((HBE2.out.block _ (Array.getElem?_eq_some_iff.1 v2).1).trans v2)
    have HW := hid (And.intro w1 (And.intro w3 w4))
    have k1 := w1.cell
    clear be2 hv HBS1 HBE1 HT1 v0 v1 v2 v3 v4
    cases v with
    | true =>
      clear w1 w3 w4
      gi_wp2
      refine ⟨HBS2.out, rfl, pre, List.prefix_append _ _, ?_, ?_, ?_⟩
      · rw [← HC.out]; have := HPU.out; rwa [← HC.out] at this
      · rw [← HNN.out]; exact HW.out.2.1
      · rw [← HC.out]; exact HW.out.2.2
    | false =>
      by_cases hgt : z < c'
      · clear w1 w3 w4
        gi_wp2
        refine ⟨HBS2.out, rfl, pre, List.prefix_append _ _, ?_, ?_, ?_⟩
        · rw [← HC.out]; have := HPU.out; rwa [← HC.out] at this
        · rw [← HNN.out]; exact HW.out.2.1
        · rw [← HC.out]; exact HW.out.2.2
      · have f3 := w3.frozen
        have f4 := w4.frozen
        have e3 := w3.cell
        have e4 := w4.cell
        clear w1 w3 w4
        gi_wp2
        have w0' := HW0.out
        have hw2 := HW2.out
        have g2 := (Array.getElem?_eq_some_iff.1 hw2).1
        refine ⟨HBS2.out.trans ((BS.set W2 (N + 1 + 1 + 1) _ (.inl rfl)).trans (BS.set _ (N + 1 + 1 + 1 + 1) _ (.inr rfl))), ⟨⟨⟨⟨?_, ?_⟩, ?_⟩, ?_, ?_⟩, ?_⟩⟩
        · exact (w0'.other (B' := N + 1 + 1 + 1) (by omega) _).other (B' := N + 1 + 1 + 1 + 1) (by omega) _
        · exact (HW.out.1.other (B' := N + 1 + 1 + 1) (by omega) _).other (B' := N + 1 + 1 + 1 + 1) (by omega) _
        · exact ((Below.heap_setCell _ _ _ (N + 1 + 1) (by simp)).trans (Below.heap_setCell _ _ _ (N + 1 + 1) (by simp))).trans hw2
        · rw [List.map_append, List.map_cons, List.map_nil, HES.out]
          exact (HW.out.2.1.set _).other (B' := N + 1 + 1 + 1 + 1) (by omega) _
        · rw [List.map_append, List.map_cons, List.map_nil, ← HC'.out]
          exact (HW.out.2.2.other (B' := N + 1 + 1 + 1) (by omega) _).set _
        · right
          rw [List.map_append, List.map_cons, List.map_nil, ← HC'.out]
          omega
  case done =>
    rintro D W hD ⟨⟨_, v3, v4⟩, hpu⟩ hb hK
    have HFQ := hid (fit_of l z a t s (L.map Pl.v) (by rw [HL.out]; exact List.prefix_refl _) (by
      rcases hpu with h | h
      · exact .inl (by rw [h]; rfl)
      · exact .inr h))
    clear hpu
    obtain ⟨n, hn⟩ : ∃ n, n = eL (L.map Pl.v) := ⟨_, rfl⟩
    obtain ⟨c, hc⟩ : ∃ c, c = colP l a t s (L.map Pl.v) := ⟨_, rfl⟩
    rw [← hn] at v3
    rw [← hc] at v4
    rw [← hn, ← hc] at HFQ
    clear hn hc
    have e3 := v3.cell
    have e4 := v4.cell
    gi_wp2
    refine wpIn_region_mixW _ [(0, true), (1, true), (2, false), (3, false)] (fun w' => w'.cell? ⟨N + 1 + 1 + 1, 0, none⟩ = some (.int .i64 n) ∧ w'.cell? ⟨N + 1 + 1 + 1 + 1, 0, none⟩ = some (.int .i64 c)) (fun _ => false) (by kernel_rfl) (by kernel_rfl) (by kernel_rfl) (fun j hj => by cases hj) rfl (by kernel_rfl) ⟨e3, e4⟩ ?hm1
    iterate 2 (refine mix_free ?_ rfl (by kernel_rfl) (fun w' hS => ?_) ?_; (rotate_left; (obtain ⟨s1, s2⟩ := hS; go_simp; with_reducible rfl); rotate_left))
    refine mix_go rfl (by kernel_rfl) fun KK hKK => ?_
    have f3d : W.drew.frozen? ⟨N + 1 + 1 + 1, 0, none⟩ = false := v3.frozen
    have e3d : W.drew.cell? ⟨N + 1 + 1 + 1, 0, none⟩ = some (.int .i64 n) := e3
    go_simp
    have u3 := bdrew (v3.set (.int .i64 n))
    have u4 := bdrew (v4.other (B' := N + 1 + 1 + 1) (by omega) (.int .i64 n))
    refine hKK _ _ (fun _ => ⟨u3.cell, u4.cell⟩) ?_
    clear hKK KK e3 e4 f3d e3d
    obtain ⟨W1, hW1⟩ : ∃ W1, W1 = (W.setCell ⟨N + 1 + 1 + 1, 0, none⟩ (.int .i64 n)).drew := ⟨_, rfl⟩
    have HBS1 := hid (show BS (fun k => k = N + 1 + 1 + 1 ∨ k = N + 1 + 1 + 1 + 1) W W1 by rw [hW1]; exact (BS.set W (N + 1 + 1 + 1) _ (.inl rfl)).trans (BS.drew _))
    rw [← hW1] at u3 u4 ⊢
    clear hW1 v3 v4
    refine mix_go rfl (by kernel_rfl) fun KK hKK => ?_
    have f4d := u4.frozen
    have e4d := u4.cell
    go_simp
    have y3 := u3.other (B' := N + 1 + 1 + 1 + 1) (by omega) (.int .i64 c)
    have y4 := u4.set (.int .i64 c)
    refine hKK _ _ (fun _ => ⟨y3.cell, y4.cell⟩) ?_
    clear hKK KK f4d e4d
    obtain ⟨W2, hW2⟩ : ∃ W2, W2 = W1.setCell ⟨N + 1 + 1 + 1 + 1, 0, none⟩ (.int .i64 c) := ⟨_, rfl⟩
    have HBS2 := hid (show BS (fun k => k = N + 1 + 1 + 1 ∨ k = N + 1 + 1 + 1 + 1) W W2 by rw [hW2]; exact HBS1.out.trans (BS.set W1 (N + 1 + 1 + 1 + 1) _ (.inr rfl)))
    rw [← hW2] at y3 y4 ⊢
    clear hW2 u3 u4
    have hK' := HBS2.out.others.same D _ hK rfl
    refine mix_end (OnlyN.in ?_)
    gi_wp2
    refine ⟨by simp, .inl ⟨_, _, rfl, run_takeDeferred hK', ?_⟩⟩
    have c4 := cell_kept y3.cell (grownBy_putObj' _ D (.deferred none)) (fun r e => by cases e; exact ⟨_, hK', rfl⟩)
    have c5 := cell_kept y4.cell (grownBy_putObj' _ D (.deferred none)) (fun r e => by cases e; exact ⟨_, hK', rfl⟩)
    refine ⟨_, ?_, n, c, rfl, HFQ.out, ?_⟩
    · simp [results, Tryd.f48, go_sem, c4, c5]
    · have hs3 := HS.out
      have hn := HN.out
      rw [← hn]
      exact (HBw.out.trans ((hb.trans HBS2.out).lower N (fun k hk => by omega) (by omega))).trans (belowK_b (w := w) (by omega) W2 D _ _ (by omega) hK' rfl rfl)
  case stop =>
    rintro D cd pre W hD hp' ⟨rfl, pr, e1, e2, v3, v4⟩ hb hK
    have HFQ := hid (fit_of l z a t s (pr.map Pl.v) (by
      rw [← HL.out]
      exact (e1.trans hp').map Pl.v) (by
      rcases e2 with h | h
      · exact .inl (by rw [h]; rfl)
      · exact .inr h))
    clear e1 e2 hp'
    obtain ⟨n, hn⟩ : ∃ n, n = eL (pr.map Pl.v) := ⟨_, rfl⟩
    obtain ⟨c, hc⟩ : ∃ c, c = colP l a t s (pr.map Pl.v) := ⟨_, rfl⟩
    rw [← hn] at v3
    rw [← hc] at v4
    rw [← hn, ← hc] at HFQ
    clear hn hc
    have e3 := v3.cell
    have e4 := v4.cell
    gi_wp2
    refine wpIn_region_mixW _ [(0, true), (1, true), (2, false), (3, false)] (fun w' => w'.cell? ⟨N + 1 + 1 + 1, 0, none⟩ = some (.int .i64 n) ∧ w'.cell? ⟨N + 1 + 1 + 1 + 1, 0, none⟩ = some (.int .i64 c)) (fun _ => false) (by kernel_rfl) (by kernel_rfl) (by kernel_rfl) (fun j hj => by cases hj) rfl (by kernel_rfl) ⟨e3, e4⟩ ?hm2
    iterate 2 (refine mix_free ?_ rfl (by kernel_rfl) (fun w' hS => ?_) ?_; (rotate_left; (obtain ⟨s1, s2⟩ := hS; go_simp; with_reducible rfl); rotate_left))
    refine mix_go rfl (by kernel_rfl) fun KK hKK => ?_
    have f3d : W.drew.frozen? ⟨N + 1 + 1 + 1, 0, none⟩ = false := v3.frozen
    have e3d : W.drew.cell? ⟨N + 1 + 1 + 1, 0, none⟩ = some (.int .i64 n) := e3
    go_simp
    have u3 := bdrew (v3.set (.int .i64 n))
    have u4 := bdrew (v4.other (B' := N + 1 + 1 + 1) (by omega) (.int .i64 n))
    refine hKK _ _ (fun _ => ⟨u3.cell, u4.cell⟩) ?_
    clear hKK KK e3 e4 f3d e3d
    obtain ⟨W1, hW1⟩ : ∃ W1, W1 = (W.setCell ⟨N + 1 + 1 + 1, 0, none⟩ (.int .i64 n)).drew := ⟨_, rfl⟩
    have HBS1 := hid (show BS (fun k => k = N + 1 + 1 + 1 ∨ k = N + 1 + 1 + 1 + 1) W W1 by rw [hW1]; exact (BS.set W (N + 1 + 1 + 1) _ (.inl rfl)).trans (BS.drew _))
    rw [← hW1] at u3 u4 ⊢
    clear hW1 v3 v4
    refine mix_go rfl (by kernel_rfl) fun KK hKK => ?_
    have f4d := u4.frozen
    have e4d := u4.cell
    go_simp
    have y3 := u3.other (B' := N + 1 + 1 + 1 + 1) (by omega) (.int .i64 c)
    have y4 := u4.set (.int .i64 c)
    refine hKK _ _ (fun _ => ⟨y3.cell, y4.cell⟩) ?_
    clear hKK KK f4d e4d
    obtain ⟨W2, hW2⟩ : ∃ W2, W2 = W1.setCell ⟨N + 1 + 1 + 1 + 1, 0, none⟩ (.int .i64 c) := ⟨_, rfl⟩
    have HBS2 := hid (show BS (fun k => k = N + 1 + 1 + 1 ∨ k = N + 1 + 1 + 1 + 1) W W2 by rw [hW2]; exact HBS1.out.trans (BS.set W1 (N + 1 + 1 + 1 + 1) _ (.inr rfl)))
    rw [← hW2] at y3 y4 ⊢
    clear hW2 u3 u4
    have hK' := HBS2.out.others.same D _ hK rfl
    refine mix_end (OnlyN.in ?_)
    gi_wp2
    refine ⟨by simp, .inl ⟨_, _, rfl, run_takeDeferred hK', ?_⟩⟩
    have c4 := cell_kept y3.cell (grownBy_putObj' _ D (.deferred none)) (fun r e => by cases e; exact ⟨_, hK', rfl⟩)
    have c5 := cell_kept y4.cell (grownBy_putObj' _ D (.deferred none)) (fun r e => by cases e; exact ⟨_, hK', rfl⟩)
    refine ⟨_, ?_, n, c, rfl, HFQ.out, ?_⟩
    · simp [results, Tryd.f48, go_sem, c4, c5]
    · have hs3 := HS.out
      have hn := HN.out
      rw [← hn]
      exact (HBw.out.trans ((hb.trans HBS2.out).lower N (fun k hk => by omega) (by omega))).trans (belowK_b (w := w) (by omega) W2 D _ _ (by omega) hK' rfl rfl)
theorem wfit_any (l : List UInt8) (z a t s : Int) (w : World) (ht : TbW w) (hl : l.length ≤ 100000000) (hk : Okc a t s) :
    Calls Tryd.prog 48 #[.string ⟨l.toArray⟩, .int .i64 z, .agg #[.int .i64 a, .int .i64 t, .int .i64 s]] w fun e W' => ∃ (n : Nat) (c : Int), e = .returned (.tuple #[.int .i64 n, .int .i64 c]) ∧ FitQ l z a t s n c ∧ Below w.heap.size w W' := callsIn_wide.1 (wfit_in l z a t s w ht hl hk)
theorem fit_le {l : List UInt8} {z a t s : Int} {n : Nat} {c : Int} (h : FitQ l z a t s n c) : n ≤ l.length := by
  obtain ⟨P, Q, h1, rfl, _⟩ := h
  have h2 := pcl_all gc _ (rl l) (Nat.le_refl _)
  rw [h1, List.flatten_append] at h2
  have h3 := congrArg psm h2
  rw [psm_app, rl_sum _ l (Nat.le_refl _)] at h3
  omega
set_option maxHeartbeats 1000000 in
theorem wcut_any (l : List UInt8) (z a t s : Int) (w : World) (ht : TbW w) (hl : l.length ≤ 100000000) (hk : Okc a t s) :
    Calls Tryd.prog 21 #[.string ⟨l.toArray⟩, .int .i64 z, .agg #[.int .i64 a, .int .i64 t, .int .i64 s]] w fun e W' => ∃ (n : Nat) (c : Int), e = .returned (.tuple #[.string ⟨(l.take n).toArray⟩, .int .i64 c]) ∧ FitQ l z a t s n c ∧ Below w.heap.size w W' := by
  have HT := hid ht
  have HK := hid hk
  have HCK := hid (show chkE a t s = 0 by unfold chkE; rw [if_pos ((okc_is a t s).2 hk)])
  have hB0 : Below w.heap.size w (w.alloc (.cells #[.int .i64 a, .int .i64 t, .int .i64 s] 36)) := (Below.refl _ _).alloc (Nat.le_refl _) _
  have hbx : (w.alloc (.cells #[.int .i64 a, .int .i64 t, .int .i64 s] 36)).heap[w.heap.size]? = some (.cells #[.int .i64 a, .int .i64 t, .int .i64 s] 36 (0, 0)) := World.alloc_heap_new w _
  have hsz0 : (w.alloc (.cells #[.int .i64 a, .int .i64 t, .int .i64 s] 36)).heap.size = w.heap.size + 1 := by simp
  clear ht hk
  go_enter Tryd.func21, Tryd.ntmps21
  go_wp2_with fail
  obtain ⟨w0, hw0⟩ : ∃ w0, w0 = w.alloc (.cells #[.int .i64 a, .int .i64 t, .int .i64 s] 36) := ⟨_, rfl⟩
  rw [← hw0] at hB0 hbx hsz0 ⊢
  clear hw0
  refine (wcheck_any a t s w0).mono ?_
  rintro e w1 ⟨rfl, be1⟩
  rw [HCK.out]
  have HB1 := hid (hB0.trans (be1.mono hB0.size))
  have hbx1 := (be1.block w.heap.size (by omega)).trans hbx
  have c0 : w1.cell? ⟨w.heap.size, 0, none⟩ = some (.int .i64 a) := by simp [World.cell?, hbx1]
  have c1 : w1.cell? ⟨w.heap.size, 1, none⟩ = some (.int .i64 t) := by simp [World.cell?, hbx1]
  have c2 : w1.cell? ⟨w.heap.size, 2, none⟩ = some (.int .i64 s) := by simp [World.cell?, hbx1]
  clear be1 hbx hsz0 hB0 hbx1
  go_wp2_with fail
  refine (wfit_any l z a t s w1 (HT.out.below HB1.out) hl HK.out).mono ?_
  rintro e w2 ⟨n, c, rfl, hF, be2⟩
  have HB2 := hid (HB1.out.trans (be2.mono HB1.out.size))
  have hnl := fit_le hF
  have HF := hid hF
  clear be2 hF
  go_wp2
  rw [wtake]
  go_ret2
  exact ⟨n, c, rfl, HF.out, HB2.out⟩
end Go.Proofs.YtlfegdpclappiaaDoor
/- The contract of Plain (package width). -/
namespace Go.Proofs.YtlfegdpclappiaaDoor
open Go.RowKit Go.Shelf
attribute [local go_sem] Oper.semAt_some

/-- What Plain writes for a letter. -/
def plO (a t c : Int) (m : List UInt8) : List UInt8 := if byt m 0 = 9 then List.replicate (bhd a t c m - c).toNat 32 else m
/-- What it has written behind letters, by their places. -/
def plP (l : List UInt8) (a t s : Int) (xs : List (Nat × Nat)) : Int × List UInt8 := xs.foldl (fun q x => (bhd a t q.1 ((l.take x.2).drop x.1), q.2 ++ plO a t q.1 ((l.take x.2).drop x.1))) (s, [])
theorem plP_fst (l : List UInt8) (a t : Int) : ∀ (xs : List (Nat × Nat)) (q : Int × List UInt8), (xs.foldl (fun q x => (bhd a t q.1 ((l.take x.2).drop x.1), q.2 ++ plO a t q.1 ((l.take x.2).drop x.1))) q).1 = colP l a t q.1 xs
  | [], _ => rfl
  | _ :: xs, _ => plP_fst l a t xs _
theorem plP_snoc (l : List UInt8) (a t s : Int) (xs : List (Nat × Nat)) (x : Nat × Nat) : (plP l a t s (xs ++ [x])).2 = (plP l a t s xs).2 ++ plO a t (colP l a t s xs) ((l.take x.2).drop x.1) := by
  have h := plP_fst l a t xs (s, [])
  unfold plP
  rw [List.foldl_append]
  simp only [List.foldl_cons, List.foldl_nil]
  rw [h]
theorem plO_len (a t s c : Int) (m : List UInt8) (h : Okc a t s) (h0 : 0 ≤ c) (hm : m.length ≤ 1000) : (plO a t c m).length ≤ 1000 := by
  have hb := bhd_bd a t s c m h h0
  unfold plO
  split
  · rw [List.length_replicate]; omega
  · exact hm
theorem plP_len (l : List UInt8) (a t s : Int) (h : Okc a t s) (hl : l.length ≤ 1000) : ∀ (xs : List (Nat × Nat)) (q : Int × List UInt8), 0 ≤ q.1 → (xs.foldl (fun q x => (bhd a t q.1 ((l.take x.2).drop x.1), q.2 ++ plO a t q.1 ((l.take x.2).drop x.1))) q).2.length ≤ q.2.length + 1000 * xs.length
  | [], q, _ => by simp
  | x :: xs, q, h0 => by
    have hm : ((l.take x.2).drop x.1).length ≤ 1000 := by rw [List.length_drop, List.length_take]; omega
    have h1 := plO_len a t s q.1 _ h h0 hm
    have h2 := (bhd_bd a t s q.1 ((l.take x.2).drop x.1) h h0).1
    have h3 := plP_len l a t s h hl xs (bhd a t q.1 ((l.take x.2).drop x.1), q.2 ++ plO a t q.1 ((l.take x.2).drop x.1)) h2
    rw [List.foldl_cons, List.length_cons]
    simp only [List.length_append] at h3
    omega
theorem rep_32 (n : Nat) : (⟨(Lib.repeatL (⟨#[32]⟩ : ByteArray).data.toList n).toArray⟩ : ByteArray) = ⟨(List.replicate n 32).toArray⟩ := by
  congr 2
  induction n with
  | zero => rfl
  | succ n ih => rw [List.replicate_succ, ← ih]; rfl
set_option maxHeartbeats 4000000 in
set_option maxRecDepth 100000 in
theorem wplain_in (l : List UInt8) (a t s : Int) (w : World) (ht : TbW w) (hl : l.length ≤ 1000) (hk : Okc a t s) :
    CallsIn Fence.wide 3 Tryd.prog 22 #[.string ⟨l.toArray⟩, .agg #[.int .i64 a, .int .i64 t, .int .i64 s]] w fun e W' => e = .returned (.string ⟨(plP l a t s (gpF l 0)).2.toArray⟩) ∧ Below w.heap.size w W' := by
  have HT := hid ht
  have HK := hid hk
  have hs0 := hk.s1
  have hs1 := hk.s2
  have HCK := hid (show chkE a t s = 0 by unfold chkE; rw [if_pos ((okc_is a t s).2 hk)])
  clear ht hk
  obtain ⟨L, hL, hLl⟩ := gp_all l _ 0 (Nat.le_refl _)
  have HL := hid hL
  have hll : L.length ≤ 1000 := by omega
  clear hL hLl
  refine callsIn_of_wp_marks Tryd.func22 rfl trivial ?_ rfl
  simp only [Tryd.ntmps22, List.size_toArray, List.length_cons, List.length_nil, Nat.reduceAdd, Nat.reduceSub, Array.replicate_succ, Array.replicate_zero, List.push_toArray, List.append_toArray, List.nil_append, List.cons_append]
  gi_wp2_with fail
  have b0 := (Boxed.new w 9 (.string ⟨l.toArray⟩)).alloc (.cells #[.int .i64 a, .int .i64 t, .int .i64 s] 36)
  have b1 : ((w.alloc (.cells #[.string ⟨l.toArray⟩] 9)).alloc (.cells #[.int .i64 a, .int .i64 t, .int .i64 s] 36)).heap[w.heap.size + 1]? = some (.cells #[.int .i64 a, .int .i64 t, .int .i64 s] 36 (0, 0)) := by
    have := World.alloc_heap_new (w.alloc (.cells #[.string ⟨l.toArray⟩] 9)) (.cells #[.int .i64 a, .int .i64 t, .int .i64 s] 36)
    rwa [World.size_alloc] at this
  have hsz0 : ((w.alloc (.cells #[.string ⟨l.toArray⟩] 9)).alloc (.cells #[.int .i64 a, .int .i64 t, .int .i64 s] 36)).heap.size = w.heap.size + 2 := by simp
  have hB0 : Below w.heap.size w ((w.alloc (.cells #[.string ⟨l.toArray⟩] 9)).alloc (.cells #[.int .i64 a, .int .i64 t, .int .i64 s] 36)) := ((Below.refl _ _).alloc (Nat.le_refl _) _).alloc (by simp) _
  obtain ⟨w0, hw0⟩ : ∃ w0, w0 = (w.alloc (.cells #[.string ⟨l.toArray⟩] 9)).alloc (.cells #[.int .i64 a, .int .i64 t, .int .i64 s] 36) := ⟨_, rfl⟩
  rw [← hw0] at b0 b1 hsz0 hB0 ⊢
  clear hw0
  refine ⟨trivial, (callsIn_wide.2 (wcheck_any a t s w0)).mono ?_⟩
  rintro e w1 ⟨rfl, be1⟩
  rw [HCK.out]
  obtain ⟨N, hN⟩ : ∃ N, N = w.heap.size := ⟨_, rfl⟩
  rw [← hN] at b0 b1 hsz0 hB0 ⊢
  have hb1 : Boxed w1 N 9 (.string ⟨l.toArray⟩) := (be1.block _ (by omega)).trans b0
  have hb2 : w1.heap[N + 1]? = some (.cells #[.int .i64 a, .int .i64 t, .int .i64 s] 36 (0, 0)) := (be1.block _ (by omega)).trans b1
  have HB1 := hid (show Below N w w1 from hB0.trans (be1.mono (by omega)))
  have hlt1 : N + 1 < w1.heap.size := by have := be1.size; omega
  have hlt0 : N < w1.heap.size := by omega
  have c0 := hb1.cell
  have h2 : 2 ≤ N := by rw [hN]; exact HT.out.two
  have HN := hid hN
  clear be1 b0 b1 hB0 hsz0 hN
  gi_wp2_with fail
  obtain ⟨b, hb⟩ : ∃ b, b = w1.heap.size := ⟨_, rfl⟩
  have hbk : (w1.alloc (.cells #[.pointer none, .slice none 0 0] 62)).heap[b]? = some (.cells #[.pointer none, .slice none 0 0] 62 (0, 0)) := by rw [hb]; exact World.alloc_heap_new w1 _
  have hba : Below b w1 (w1.alloc (.cells #[.pointer none, .slice none 0 0] 62)) := by rw [hb]; exact (Below.refl _ _).alloc (Nat.le_refl _) _
  have hbs : (w1.alloc (.cells #[.pointer none, .slice none 0 0] 62)).heap.size = b + 1 := by rw [hb]; simp
  rw [← hb] at hlt0 hlt1 ⊢
  refine ⟨trivial, (callsIn_wide.2 (Tryd.Builder_Grow_fresh b b l.length _ (Nat.le_refl _) hbk (by omega) (by omega))).mono ?_⟩
  rintro e w2 ⟨rfl, hG, be2⟩
  have hB12 : Below b w1 w2 := hba.trans be2
  have hb12 : Boxed w2 N 9 (.string ⟨l.toArray⟩) := (hB12.block _ hlt0).trans hb1
  have hb22 : w2.heap[N + 1]? = some (.cells #[.int .i64 a, .int .i64 t, .int .i64 s] 36 (0, 0)) := (hB12.block _ hlt1).trans hb2
  have HB2 := hid (show Below N w w2 from HB1.out.trans (hB12.mono (by omega)))
  have hs2 : b + 1 ≤ w2.heap.size := by have := be2.size; omega
  have HBF := hid (Lib.IsBuilderF.of (.inr hG))
  have c1 : w2.cell? ⟨N + 1, 0, none⟩ = some (.int .i64 a) := by simp [World.cell?, hb22]
  have c2 : w2.cell? ⟨N + 1, 1, none⟩ = some (.int .i64 t) := by simp [World.cell?, hb22]
  have c3 : w2.cell? ⟨N + 1, 2, none⟩ = some (.int .i64 s) := by simp [World.cell?, hb22]
  have c4 := hb12.cell
  have hltM : N < w2.heap.size := by omega
  have b3 := (Boxed.new w2 3 (.int .i64 s)).alloc (.cells #[.string ⟨l.toArray⟩] 9)
  have b4 := Boxed.new (w2.alloc (.cells #[.int .i64 s] 3)) 9 (.string ⟨l.toArray⟩)
  have hB3 : Below w2.heap.size w2 ((w2.alloc (.cells #[.int .i64 s] 3)).alloc (.cells #[.string ⟨l.toArray⟩] 9)) := ((Below.refl _ _).alloc (Nat.le_refl _) _).alloc (by simp) _
  have hs3 : ((w2.alloc (.cells #[.int .i64 s] 3)).alloc (.cells #[.string ⟨l.toArray⟩] 9)).heap.size = w2.heap.size + 2 := by simp
  rw [World.size_alloc] at b4
  clear hbk hba hbs be2 hG c0 hb1 hb2 hb HB1 hB12
  gi_wp2_with (refine ⟨trivial, ?_⟩; gi_at_call 23; refine (callsIn_wide.2 (geach_any l _)).mono ?_; rintro e w' ⟨rfl, rfl⟩)
  obtain ⟨w3, hw3⟩ : ∃ w3, w3 = (w2.alloc (.cells #[.int .i64 s] 3)).alloc (.cells #[.string ⟨l.toArray⟩] 9) := ⟨_, rfl⟩
  rw [← hw3] at b3 b4 hB3 hs3 ⊢
  clear hw3
  obtain ⟨M, hM⟩ : ∃ M, M = w2.heap.size := ⟨_, rfl⟩
  have HBF3 := hid (bf_below HBF.out hB3)
  rw [← hM] at b3 b4 hs3 hB3 hs2 hltM ⊢
  have HI0 := hid (And.intro (And.intro (show Boxed w3 N 9 (.string ⟨l.toArray⟩) from (hB3.block _ hltM).trans hb12) ((hB3.block _ (by omega)).trans hb22)) b3)
  have HBw := hid (show Below N w w3 from HB2.out.trans (hB3.mono (by omega)))
  have HEa := hid (show WaAt (M + 1) l w3 from ⟨b4, HT.out.below (by rw [← HN.out]; exact HBw.out)⟩)
  have HS3 := hid hs3
  clear hb12 hb22 b3 b4 hB3 hs3 hM HB2 HBF c1 c2 c3 c4
  refine rfRF (M + 1) (BSu b (fun k => k = b ∨ k = M)) L (by omega) rfl HL.out HEa.out (by omega) rfl (fun W => BSu.refl _ _ W) (fun h k => h.trans k) (fun h => h.others) (fun h he => h.keeps (by omega) (fun h => by omega) he) (bsu_from b _ w3 (by have := HS3.out; omega))
    (fun pre W => ((Boxed W N 9 (.string ⟨l.toArray⟩) ∧ W.heap[N + 1]? = some (.cells #[.int .i64 a, .int .i64 t, .int .i64 s] 36 (0, 0))) ∧ Boxed W M 3 (.int .i64 (colP l a t s (pre.map Pl.v)))) ∧ Lib.IsBuilderF 62 5 b b (Lib.byteCells (plP l a t s (pre.map Pl.v)).2) W)
    (fun _ _ _ => False)
    (OwnFrom.and (OwnFrom.and (OwnFrom.and (Own.from (boxed_own _ _ _) _) (cells_from _ _ _ _)) (Own.from (boxed_own _ _ (fun pre : List (Pl l) => Value.int .i64 (colP l a t s (pre.map Pl.v)))) _)) (Own.from (builderF_own b b (fun pre : List (Pl l) => Lib.byteCells (plP l a t s (pre.map Pl.v)).2)) _))
    (fun _ _ _ _ _ hs _ _ => hs)
    ⟨⟨HI0.out.1, HI0.out.2⟩, HBF3.out⟩ 7 8 ?assign ?body ?done ?stop
  case assign =>
    intro lp x W K hK
    dsimp only [encP]
    gi_wp2
    simpa [fr, encP] using hK
  case body =>
    rintro lp pre x W ⟨⟨⟨v0, v1⟩, v2⟩, vb⟩ hb he hlt
    have hx1 := x.lt
    have hx2 := x.le
    obtain ⟨f, hf⟩ : ∃ f, f = x.v.1 := ⟨_, rfl⟩
    obtain ⟨z, hx⟩ : ∃ z, z = x.v.2 := ⟨_, rfl⟩
    have hcb := colP_bd l a t s HK.out (pre.map Pl.v) s hs0
    have hpb := plP_len l a t s HK.out hl (pre.map Pl.v) (s, []) hs0
    rw [List.length_map] at hcb hpb
    have hpb2 : (plP l a t s (pre.map Pl.v)).2.length ≤ 1000000 := by
      have e : (plP l a t s (pre.map Pl.v)).2.length ≤ 0 + 1000 * pre.length := hpb
      omega
    clear hpb
    have HSN := hid (colP_snoc l a t s (pre.map Pl.v) x.v)
    have HPS := hid (plP_snoc l a t s (pre.map Pl.v) x.v)
    obtain ⟨c, hc⟩ : ∃ c, c = colP l a t s (pre.map Pl.v) := ⟨_, rfl⟩
    obtain ⟨o, ho⟩ : ∃ o, o = (plP l a t s (pre.map Pl.v)).2 := ⟨_, rfl⟩
    rw [← hc] at hcb v2 HSN HPS
    rw [← ho] at vb hpb2 HPS
    rw [← hf, ← hx] at HSN HPS
    have HEX := hid (ext_piece l f z (by omega))
    have HLE := hid (show ((l.take z).drop f).length = z - f by rw [List.length_drop, List.length_take]; omega)
    obtain ⟨m, hm⟩ : ∃ m, m = (l.take z).drop f := ⟨_, rfl⟩
    rw [← hm] at HEX HLE HSN HPS
    have hml : m.length ≤ 1000 := by have := HLE.out; omega
    have hm0 : 0 < m.length := by have := HLE.out; omega
    have hbd := bhd_bd a t s c m HK.out hcb.1
    dsimp only [fr, encP]
    rw [← hf, ← hx] at hx1 ⊢
    rw [← hx] at hx2
    clear hf hx hc ho hm
    have HE := hid he.tb
    have HVB := hid vb
    have HV := hid (And.intro v0 (And.intro v1 v2))
    have c0 := v0.cell
    have c1 : W.cell? ⟨N + 1, 0, none⟩ = some (.int .i64 a) := by simp [World.cell?, v1]
    have c2 : W.cell? ⟨N + 1, 1, none⟩ = some (.int .i64 t) := by simp [World.cell?, v1]
    have c3 : W.cell? ⟨N + 1, 2, none⟩ = some (.int .i64 s) := by simp [World.cell?, v1]
    have c4 := v2.cell
    have hWs : M + 2 ≤ W.heap.size := by have := hb.others.size; have := HS3.out; omega
    clear v0 v1 vb
    gi_wp2_with fail
    rw [HEX.out]
    refine ⟨trivial, CallsIn.inRound lp (callsIn_wide.2 ((wbehind_any m c a t s W HE.out (by omega) hm0 HK.out hcb.1 (by omega)).mono ?_))⟩
    rintro e W1 ⟨rfl, be1⟩
    rw [← HSN.out]
    rw [← HSN.out] at hbd
    have HPO := hid (show plO a t c m = if byt m 0 = 9 then List.replicate (colP l a t s (List.map Pl.v pre ++ [x.v]) - c).toNat 32 else m by unfold plO; rw [← HSN.out])
    obtain ⟨c', hc'⟩ : ∃ c', c' = colP l a t s (List.map Pl.v pre ++ [x.v]) := ⟨_, rfl⟩
    rw [← hc'] at hbd HPO HSN ⊢
    have HC' := hid hc'
    have HB1 := hid be1
    have x1 : Boxed W1 M 3 (.int .i64 c) := (be1.block _ v2.lt).trans v2
    have HX1 := hid x1
    have e1 := x1.cell
    clear be1 hc' c0 c1 c2 c3 c4 v2 x1
    gi_wp2_with fail
    refine ⟨trivial, CallsIn.inRound lp (callsIn_wide.2 ((wtab_any m W1 hm0).mono ?_))⟩
    rintro e W2 ⟨rfl, hW2⟩
    obtain rfl := hW2.symm
    clear hW2
    by_cases h9 : byt m 0 = 9
    · have b9 : (byt m 0 == 9) = true := beq_iff_eq.2 h9
      rw [b9]
      have HOO := hid (show plO a t c m = List.replicate (c' - c).toNat 32 by rw [HPO.out, if_pos h9])
      have htb := tab_bd t c HK.out.t1 HK.out.t2
      have hcc : c < c' := by
        have h := HSN.out
        unfold bhd at h
        have h0 : ¬ elR (dec m).1 = true := by
          have hne : m ≠ [] := List.length_pos_iff.1 hm0
          rw [(byt_9 m hne).1 h9]; decide
        rw [if_neg h0, if_pos h9] at h
        omega
      obtain ⟨n, hn⟩ : ∃ n : Nat, (n : Int) = c' - c := ⟨(c' - c).toNat, by omega⟩
      have hn1 : n ≤ 1000 := by omega
      rw [show (c' - c).toNat = n by omega] at HOO
      clear h9 b9 htb
      gi_wp2_with fail
      rw [← hn]
      refine ⟨trivial, CallsIn.inRound lp (callsIn_wide.2 ((Tryd.strings_Repeat ⟨#[32]⟩ n W1 (by omega) (by show 1 * n ≤ _; omega)).mono ?_))⟩
      rintro e W3 ⟨rfl, be3⟩
      rw [rep_32]
      rw [HOO.out] at HPS
      have HB3 := hid (show Below W.heap.size W W3 from HB1.out.trans (be3.mono HB1.out.size))
      have HX3 := hid (show Boxed W3 M 3 (.int .i64 c) from (be3.block _ HX1.out.lt).trans HX1.out)
      have HBF3 := hid (bf_below HVB.out HB3.out)
      have HR3 := hid (show BSu b (fun k => k = b ∨ k = M) W W3 from BSu.of (BS.below HB3.out) (fun k hk => by omega) (by omega))
      clear be3 HX1 HB1 e1 hn
      gi_wp2_with fail
      refine ⟨trivial, CallsIn.inRound lp (callsIn_wide.2 ((write_any b b o (List.replicate n 32) _ W3 HBF3.out rfl (by rw [List.length_replicate]; omega) (by have := HB3.out.size; omega)).mono ?_))⟩
      rintro e W4 ⟨⟨v', rfl⟩, hbf4, hl4, ho4⟩
      have HRW := hid (show BSu b (fun k => k = b ∨ k = M) W3 W4 from BSu.write hl4 ho4 (.inl rfl) (bf_block HBF3.out))
      have HR4 := hid (HR3.out.trans HRW.out)
      have HBF4 := hid hbf4
      have x4 : Boxed W4 M 3 (.int .i64 c) := ho4 M _ HX3.out (fun e => by cases e; omega) (fun c fz e => by cases e)
      have f4 := x4.frozen
      have e4 := x4.cell
      have HX4 := hid x4
      clear hbf4 hl4 ho4 x4
      gi_wp2
      have hv0 := HV.out.1
      have hv1 := HV.out.2.1
      refine ⟨HR4.out.trans (BSu.of (BS.set W4 M _ (.inr rfl)) (fun k hk => by omega) (by have := HR4.out.low.size; omega)), ⟨⟨?_, ?_⟩, ?_⟩, ?_⟩
      · have q : Boxed W4 N 9 (.string ⟨l.toArray⟩) := HR4.out.boxed hv0 (fun h => by omega) (by decide)
        exact q.other (B' := M) (by omega) _
      · have q : W4.heap[N + 1]? = some (.cells #[.int .i64 a, .int .i64 t, .int .i64 s] 36 (0, 0)) := HR4.out.cells hv1 (fun h => by omega) (by decide)
        exact (Below.heap_setCell _ _ _ (N + 1) (by simp; omega)).trans q
      · rw [List.map_append, List.map_cons, List.map_nil, ← HC'.out]
        exact HX4.out.set _
      · rw [List.map_append, List.map_cons, List.map_nil, HPS.out]
        exact bf_set HBF4.out HX4.out (by omega) (by decide)
    · have b9 : (byt m 0 == 9) = false := beq_eq_false_iff_ne.2 h9
      rw [b9]
      have HOO := hid (show plO a t c m = m by rw [HPO.out, if_neg h9])
      rw [HOO.out] at HPS
      have HR3 := hid (show BSu b (fun k => k = b ∨ k = M) W W1 from BSu.of (BS.below HB1.out) (fun k hk => by omega) (by omega))
      have HBF3 := hid (bf_below HVB.out HB1.out)
      have HX3 := HX1
      clear h9 b9
      gi_wp2_with fail
      refine ⟨trivial, CallsIn.inRound lp (callsIn_wide.2 ((write_any b b o m _ W1 HBF3.out rfl (by omega) (by have := HB1.out.size; omega)).mono ?_))⟩
      rintro e W4 ⟨⟨v', rfl⟩, hbf4, hl4, ho4⟩
      have HRW := hid (show BSu b (fun k => k = b ∨ k = M) W1 W4 from BSu.write hl4 ho4 (.inl rfl) (bf_block HBF3.out))
      have HR4 := hid (HR3.out.trans HRW.out)
      have HBF4 := hid hbf4
      have x4 : Boxed W4 M 3 (.int .i64 c) := ho4 M _ HX3.out (fun e => by cases e; omega) (fun c fz e => by cases e)
      have f4 := x4.frozen
      have e4 := x4.cell
      have HX4 := hid x4
      clear hbf4 hl4 ho4 x4
      gi_wp2
      have hv0 := HV.out.1
      have hv1 := HV.out.2.1
      refine ⟨HR4.out.trans (BSu.of (BS.set W4 M _ (.inr rfl)) (fun k hk => by omega) (by have := HR4.out.low.size; omega)), ⟨⟨?_, ?_⟩, ?_⟩, ?_⟩
      · have q : Boxed W4 N 9 (.string ⟨l.toArray⟩) := HR4.out.boxed hv0 (fun h => by omega) (by decide)
        exact q.other (B' := M) (by omega) _
      · have q : W4.heap[N + 1]? = some (.cells #[.int .i64 a, .int .i64 t, .int .i64 s] 36 (0, 0)) := HR4.out.cells hv1 (fun h => by omega) (by decide)
        exact (Below.heap_setCell _ _ _ (N + 1) (by simp; omega)).trans q
      · rw [List.map_append, List.map_cons, List.map_nil, ← HC'.out]
        exact HX4.out.set _
      · rw [List.map_append, List.map_cons, List.map_nil, HPS.out]
        exact bf_set HBF4.out HX4.out (by omega) (by decide)
  case done =>
    rintro D W hD ⟨_, vb⟩ hb hK
    rw [HL.out] at vb
    have HVB := hid vb
    have hWs : M + 2 ≤ W.heap.size := by have := hb.others.size; have := HS3.out; omega
    clear vb
    gi_wp2_with fail
    refine ⟨trivial, (callsIn_wide.2 (string_any b b (plP l a t s (gpF l 0)).2 W HVB.out (by omega))).mono ?_⟩
    rintro e W1 ⟨rfl, hl1, ho1⟩
    have hK1 : W1.heap[D]? = some (.deferred (some [])) := ho1 D _ hK (fun e => by
      cases e
      have := HS3.out
      omega) (fun c fz e => by cases e)
    have HL1 := hid hl1
    clear hl1 ho1
    gi_wp2
    refine ⟨by simp, .inl ⟨_, _, rfl, run_takeDeferred hK1, ?_⟩⟩
    refine ⟨_, results_tmp rfl _ _ _, rfl, ?_⟩
    have hs3 := HS3.out
    have hn := HN.out
    rw [← hn]
    exact ((HBw.out.trans (hb.low.mono (by omega))).trans (HL1.out.mono (by omega))).trans (belowK_b (w := w) (by omega) W1 D _ _ (by omega) hK1 rfl rfl)
  case stop =>
    rintro D c pre W _ _ h _
    exact h.elim
theorem wplain_any (l : List UInt8) (a t s : Int) (w : World) (ht : TbW w) (hl : l.length ≤ 1000) (hk : Okc a t s) :
    Calls Tryd.prog 22 #[.string ⟨l.toArray⟩, .agg #[.int .i64 a, .int .i64 t, .int .i64 s]] w fun e W' => e = .returned (.string ⟨(plP l a t s (gpF l 0)).2.toArray⟩) ∧ Below w.heap.size w W' := callsIn_wide.1 (wplain_in l a t s w ht hl hk)
end Go.Proofs.YtlfegdpclappiaaDoor
