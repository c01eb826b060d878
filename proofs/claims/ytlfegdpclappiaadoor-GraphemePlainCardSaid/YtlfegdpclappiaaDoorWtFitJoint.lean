/- Columns by the runes of letters; texts put together at a bound. Mathematics alone. -/
import Derived.Test.YtlfegdpclappiaaDoorWtTxtJoint
import Derived.Test.YtlfegdpclappiaaDoorGrBndJoint
import Derived.Test.YtlfegdpclappiaaDoorMixW
namespace Go.Proofs.YtlfegdpclappiaaDoor

theorem dec_high (m : List UInt8) (h : m ≠ []) (hb : 128 ≤ (m.getD 0 0).toNat) : 128 ≤ (dec m).1 := by
  rw [dec_numbers m h]
  unfold Lib.decodeN
  rw [if_neg (by omega)]
  split
  · split
    · rename_i h1; exact h1
    · decide
  split
  · split
    · rename_i h1; have := h1.1; show 128 ≤ _; omega
    · decide
  split
  · split
    · rename_i h1; have := h1.1; show 128 ≤ _; omega
    · decide
  · decide
theorem dec_low (m : List UInt8) (h : m ≠ []) (hb : (m.getD 0 0).toNat < 128) : dec m = ((m.getD 0 0).toNat, 1) := by
  rw [dec_numbers m h]
  unfold Lib.decodeN
  rw [if_pos hb]
theorem byt_9 (m : List UInt8) (h : m ≠ []) : byt m 0 = 9 ↔ (dec m).1 = 9 := by
  unfold byt
  rcases Nat.lt_or_ge (m.getD 0 0).toNat 128 with hb | hb
  · rw [dec_low m h hb]
    constructor <;> intro e
    · show (m.getD 0 0).toNat = 9; omega
    · have e : (m.getD 0 0).toNat = 9 := e
      omega
  · have := dec_high m h hb
    constructor <;> intro e <;> omega
/-- The column behind a letter, by its runes. -/
def bhR (a t c : Int) (X : List (Nat × Nat)) : Int := if elR (X.headD (0, 0)).1 = true then 0 else if (X.headD (0, 0)).1 = 9 then (c / t + 1) * t else c + lcR a X
theorem bhd_rl (a t c : Int) (m : List UInt8) (h : m ≠ []) : bhd a t c m = bhR a t c (rl m) := by
  have e : (byt m 0 = 9) = ((((rl m).headD (0, 0)).1 : Nat) = 9) := propext ((byt_9 m h).trans (by rw [dec_hd]))
  unfold bhd bhR
  rw [dec_hd]
  simp only [e]
/-- The column behind a row of runes. -/
def txR (a t c : Int) (Y : List (Nat × Nat)) : Int := (pcl gc Y).foldl (bhR a t) c
/-- A beginning of a text, by its runes. -/
theorem cut_at (m : List UInt8) (x y : List (Nat × Nat)) (h : rl m = x ++ y) : rl (m.take (psm x)) = x ∧ rl (m.drop (psm x)) = y := by
  have h1 := rl_cut x.length m (by rw [h, List.length_append]; omega)
  rw [h, List.take_left, List.drop_left] at h1
  exact h1
theorem piece_ne (m : List UInt8) (x : List (Nat × Nat)) (h : rl m = x) (hx : x ≠ []) : m ≠ [] := fun e => by
  subst e
  exact hx h.symm
theorem plc_fold (l : List UInt8) (a t : Int) : ∀ (M : List (List (Nat × Nat))) (p : Nat) (c : Int), rl (l.drop p) = M.flatten → (∀ x ∈ M, x ≠ []) → colP l a t c (plc p M) = M.foldl (bhR a t) c
  | [], _, _, _, _ => rfl
  | x :: M, p, c, h, hne => by
    rw [List.flatten_cons] at h
    obtain ⟨h1, h2⟩ := cut_at _ _ _ h
    have hx := hne x (List.mem_cons_self ..)
    have e : (l.take (p + psm x)).drop p = (l.drop p).take (psm x) := by rw [List.drop_take, Nat.add_sub_cancel_left]
    have e2 : colP l a t c (plc p (x :: M)) = colP l a t (bhd a t c ((l.take (p + psm x)).drop p)) (plc (p + psm x) M) := rfl
    rw [e2, e, bhd_rl a t c _ (piece_ne _ x h1 hx), h1, plc_fold l a t M _ _ (by rw [← List.drop_drop]; exact h2) (fun y hy => hne y (List.mem_cons_of_mem _ hy))]
    rfl
theorem colP_tx (l : List UInt8) (a t c : Int) : colP l a t c (gpF l 0) = txR a t c (rl l) := by
  unfold txR
  rw [gpF_0]
  exact plc_fold l a t _ 0 c (by rw [pcl_all gc _ _ (Nat.le_refl _)]; rfl) (pcl_ne gc _ _ (Nat.le_refl _))
theorem plc_mem : ∀ (M : List (List (Nat × Nat))) (q : Nat) (y : Nat × Nat), y ∈ plc q M → ∃ P Q, M = P ++ Q ∧ y.1 = q + psm P.flatten
  | [], _, _, h => by cases h
  | x :: M, q, y, h => by
    rw [plc] at h
    rcases List.mem_cons.1 h with rfl | h
    · exact ⟨[], x :: M, rfl, rfl⟩
    · obtain ⟨P, Q, h1, h2⟩ := plc_mem M _ y h
      exact ⟨x :: P, Q, by rw [h1]; rfl, by rw [h2, List.flatten_cons, psm_app, Nat.add_assoc]⟩
/-- A place where a letter begins parts a text, and its letters. -/
theorem gis_cut (m : List UInt8) (p : Nat) (h : Gis m p) : rl m = rl (m.take p) ++ rl (m.drop p) ∧ pcl gc (rl m) = pcl gc (rl (m.take p)) ++ pcl gc (rl (m.drop p)) := by
  obtain ⟨y, hy, rfl⟩ := h
  rw [gpF_0] at hy
  obtain ⟨P, Q, h1, h2⟩ := plc_mem _ _ y hy
  rw [Nat.zero_add] at h2
  have h3 := pcl_all gc _ (rl m) (Nat.le_refl _)
  rw [h1, List.flatten_append] at h3
  obtain ⟨k1, k2⟩ := pcl_cut gc P Q _ h1
  obtain ⟨e1, e2⟩ := cut_at m _ _ h3.symm
  rw [h2, e1, e2]
  exact ⟨h3.symm, by rw [h1, k1, k2]⟩
theorem join_tx (s u : List UInt8) (a t c : Int) (h : s = [] ∨ u = [] ∨ Gis (s ++ u) s.length) : colP (s ++ u) a t c (gpF (s ++ u) 0) = colP u a t (colP s a t c (gpF s 0)) (gpF u 0) := by
  rw [colP_tx, colP_tx, colP_tx]
  rcases h with rfl | rfl | h
  · rfl
  · rw [List.append_nil]; rfl
  · obtain ⟨_, h2⟩ := gis_cut _ _ h
    rw [List.take_left, List.drop_left] at h2
    unfold txR
    rw [h2, List.foldl_append]
end Go.Proofs.YtlfegdpclappiaaDoor
/- The contract of fitting (package width). -/
namespace Go.Proofs.YtlfegdpclappiaaDoor
open Go.RowKit Go.Shelf
attribute [local go_sem] Oper.semAt_some

theorem plc_fold2 (l : List UInt8) (a t : Int) (R : List (Nat × Nat)) : ∀ (M : List (List (Nat × Nat))) (p : Nat) (c : Int), rl (l.drop p) = M.flatten ++ R → (∀ x ∈ M, x ≠ []) → colP l a t c (plc p M) = M.foldl (bhR a t) c
  | [], _, _, _, _ => rfl
  | x :: M, p, c, h, hne => by
    rw [List.flatten_cons, List.append_assoc] at h
    obtain ⟨h1, h2⟩ := cut_at _ _ _ h
    have hx := hne x (List.mem_cons_self ..)
    have e : (l.take (p + psm x)).drop p = (l.drop p).take (psm x) := by rw [List.drop_take, Nat.add_sub_cancel_left]
    have e2 : colP l a t c (plc p (x :: M)) = colP l a t (bhd a t c ((l.take (p + psm x)).drop p)) (plc (p + psm x) M) := rfl
    rw [e2, e, bhd_rl a t c _ (piece_ne _ x h1 hx), h1, plc_fold2 l a t R M _ _ (by rw [← List.drop_drop]; exact h2) (fun y hy => hne y (List.mem_cons_of_mem _ hy))]
    rfl
theorem plc_pre : ∀ (M : List (List (Nat × Nat))) (q : Nat) (xs : List (Nat × Nat)), xs <+: plc q M → ∃ P Q, M = P ++ Q ∧ xs = plc q P
  | M, q, [], _ => ⟨[], M, rfl, rfl⟩
  | [], q, x :: xs, h => by
    obtain ⟨r, hr⟩ := h
    cases hr
  | m :: M, q, x :: xs, h => by
    obtain ⟨r, hr⟩ := h
    rw [plc, List.cons_append] at hr
    obtain ⟨h1, h2⟩ := List.cons.inj hr
    obtain ⟨P, Q, e1, e2⟩ := plc_pre M _ xs ⟨r, h2⟩
    exact ⟨m :: P, Q, by rw [e1]; rfl, by rw [plc, h1, e2]⟩
/-- The end of the last piece. -/
def eL (xs : List (Nat × Nat)) : Nat := xs.foldl (fun _ y => y.2) 0
theorem eL_snoc (xs : List (Nat × Nat)) (x : Nat × Nat) : eL (xs ++ [x]) = x.2 := by simp [eL]
theorem eF_plc : ∀ (M : List (List (Nat × Nat))) (q : Nat), (plc q M).foldl (fun _ y => y.2) q = q + psm M.flatten
  | [], q => by simp [plc, psm]
  | x :: M, q => by
    rw [plc, List.foldl_cons]
    show (plc (q + psm x) M).foldl (fun _ y => y.2) (q + psm x) = _
    rw [eF_plc M, List.flatten_cons, psm_app, Nat.add_assoc]
theorem eL_plc (M : List (List (Nat × Nat))) : eL (plc 0 M) = psm M.flatten := by
  unfold eL
  rw [eF_plc M 0, Nat.zero_add]
theorem al_keep {w : World} {k : Nat} {o : Obj} (h : w.heap[k]? = some o) (o' : Obj) : (w.alloc o').heap[k]? = some o := (Below.heap_alloc w o' k (Array.getElem?_eq_some_iff.1 h).1).trans h
/-- What fitting tells: whole letters, how far they reach, and the column behind them. -/
def FitQ (l : List UInt8) (cells a t s : Int) (e : Nat) (c : Int) : Prop :=
  ∃ P Q, pcl gc (rl l) = P ++ Q ∧ e = psm P.flatten ∧ c = P.foldl (bhR a t) s ∧ (P = [] ∨ c ≤ cells)
theorem fit_of (l : List UInt8) (cells a t s : Int) (xs : List (Nat × Nat)) (h : xs <+: gpF l 0) (hc : xs = [] ∨ colP l a t s xs ≤ cells) : FitQ l cells a t s (eL xs) (colP l a t s xs) := by
  rw [gpF_0] at h
  obtain ⟨P, Q, h1, rfl⟩ := plc_pre _ _ _ h
  have h2 := pcl_all gc _ (rl l) (Nat.le_refl _)
  rw [h1, List.flatten_append] at h2
  have h3 : colP l a t s (plc 0 P) = P.foldl (bhR a t) s := plc_fold2 l a t Q.flatten P 0 s h2.symm (fun x hx => pcl_ne gc _ _ (Nat.le_refl _) x (by rw [h1]; exact List.mem_append_left _ hx))
  refine ⟨P, Q, h1, eL_plc P, h3, ?_⟩
  rcases hc with h | h
  · left
    cases P with
    | nil => rfl
    | cons x P => cases h
  · exact .inr h
set_option maxHeartbeats 4000000 in
set_option maxRecDepth 100000 in
theorem wfit_in (l : List UInt8) (z a t s : Int) (w : World) (ht : TbW w) (hl : l.length ≤ 100000000) (hk : Okc a t s) :
    CallsIn Fence.wide 3 Tryd.prog 48 #[.string ⟨l.toArray⟩, .int .i64 z, .agg #[.int .i64 a, .int .i64 t, .int .i64 s]] w fun e W' => ∃ (n : Nat) (c : Int), e = .returned (.tuple #[.int .i64 n, .int .i64 c]) ∧ FitQ l z a t s n c ∧ Below w.heap.size w W' := by
  have HT := hid ht
  have HK := hid hk
  have hs0 := hk.s1
  have hs1 := hk.s2
  clear ht hk
  obtain ⟨L, hL, hLl⟩ := gp_all l _ 0 (Nat.le_refl _)
  have HL := hid hL
  have hll : L.length ≤ 100000000 := by omega
  clear hL hLl
  refine callsIn_of_wp_marks Tryd.func48 rfl trivial ?_ rfl
  simp only [Tryd.ntmps48, List.size_toArray, List.length_cons, List.length_nil, Nat.reduceAdd, Nat.reduceSub, Array.replicate_succ, Array.replicate_zero, List.push_toArray, List.append_toArray, List.nil_append, List.cons_append]
  gi_wp2_with (refine ⟨trivial, ?_⟩; gi_at_call 23; refine (callsIn_wide.2 (geach_any l _)).mono ?_; rintro e w' ⟨rfl, rfl⟩)
  obtain ⟨N, hN⟩ : ∃ N, N = w.heap.size := ⟨_, rfl⟩
  have b0 := ((((((Boxed.new w 9 (.string ⟨l.toArray⟩)).alloc (.cells #[.int .i64 z] 3)).alloc (.cells #[.int .i64 a, .int .i64 t, .int .i64 s] 36)).alloc (.cells #[.int .i64 0] 3)).alloc (.cells #[.int .i64 s] 3)).alloc (.cells #[.string ⟨l.toArray⟩] 9))
  have b1 := (((((Boxed.new (w.alloc (.cells #[.string ⟨l.toArray⟩] 9)) 3 (.int .i64 z)).alloc (.cells #[.int .i64 a, .int .i64 t, .int .i64 s] 36)).alloc (.cells #[.int .i64 0] 3)).alloc (.cells #[.int .i64 s] 3)).alloc (.cells #[.string ⟨l.toArray⟩] 9))
  have b2 := al_keep (al_keep (al_keep (World.alloc_heap_new ((w.alloc (.cells #[.string ⟨l.toArray⟩] 9)).alloc (.cells #[.int .i64 z] 3)) (.cells #[.int .i64 a, .int .i64 t, .int .i64 s] 36)) (.cells #[.int .i64 0] 3)) (.cells #[.int .i64 s] 3)) (.cells #[.string ⟨l.toArray⟩] 9)
  have b3 := (((Boxed.new (((w.alloc (.cells #[.string ⟨l.toArray⟩] 9)).alloc (.cells #[.int .i64 z] 3)).alloc (.cells #[.int .i64 a, .int .i64 t, .int .i64 s] 36)) 3 (.int .i64 0)).alloc (.cells #[.int .i64 s] 3)).alloc (.cells #[.string ⟨l.toArray⟩] 9))
  have b4 := ((Boxed.new ((((w.alloc (.cells #[.string ⟨l.toArray⟩] 9)).alloc (.cells #[.int .i64 z] 3)).alloc (.cells #[.int .i64 a, .int .i64 t, .int .i64 s] 36)).alloc (.cells #[.int .i64 0] 3)) 3 (.int .i64 s)).alloc (.cells #[.string ⟨l.toArray⟩] 9))
  have b5 := Boxed.new (((((w.alloc (.cells #[.string ⟨l.toArray⟩] 9)).alloc (.cells #[.int .i64 z] 3)).alloc (.cells #[.int .i64 a, .int .i64 t, .int .i64 s] 36)).alloc (.cells #[.int .i64 0] 3)).alloc (.cells #[.int .i64 s] 3)) 9 (.string ⟨l.toArray⟩)
  have hB : Below w.heap.size w ((((((w.alloc (.cells #[.string ⟨l.toArray⟩] 9)).alloc (.cells #[.int .i64 z] 3)).alloc (.cells #[.int .i64 a, .int .i64 t, .int .i64 s] 36)).alloc (.cells #[.int .i64 0] 3)).alloc (.cells #[.int .i64 s] 3)).alloc (.cells #[.string ⟨l.toArray⟩] 9)) := ((((((Below.refl _ _).alloc (Nat.le_refl _) _).alloc (by simp) _).alloc (by simp; omega) _).alloc (by simp; omega) _).alloc (by simp; omega) _).alloc (by simp; omega) _
  have hsz : ((((((w.alloc (.cells #[.string ⟨l.toArray⟩] 9)).alloc (.cells #[.int .i64 z] 3)).alloc (.cells #[.int .i64 a, .int .i64 t, .int .i64 s] 36)).alloc (.cells #[.int .i64 0] 3)).alloc (.cells #[.int .i64 s] 3)).alloc (.cells #[.string ⟨l.toArray⟩] 9)).heap.size = w.heap.size + 6 := by simp
  simp only [World.size_alloc] at b1 b2 b3 b4 b5
  have HTw := hid (HT.out.below hB)
  obtain ⟨W0, hW0⟩ : ∃ W0, W0 = (((((w.alloc (.cells #[.string ⟨l.toArray⟩] 9)).alloc (.cells #[.int .i64 z] 3)).alloc (.cells #[.int .i64 a, .int .i64 t, .int .i64 s] 36)).alloc (.cells #[.int .i64 0] 3)).alloc (.cells #[.int .i64 s] 3)).alloc (.cells #[.string ⟨l.toArray⟩] 9) := ⟨_, rfl⟩
  rw [← hW0] at b0 b1 b2 b3 b4 b5 hB hsz HTw ⊢
  rw [← hN] at b0 b1 b2 b3 b4 b5 hB hsz ⊢
  have h2 : 2 ≤ N := by rw [hN]; exact HT.out.two
  have HN := hid hN
  have HBw := hid hB
  have HS := hid hsz
  have HEa := hid (show WaAt (N + 1 + 1 + 1 + 1 + 1) l W0 from ⟨b5, HTw.out⟩)
  clear hN hB hsz hW0 HTw
  have HI0 := hid (And.intro (And.intro (And.intro b0 b1) b2) (And.intro b3 b4))
  clear b0 b1 b2 b3 b4 b5
  refine rfF (N + 1 + 1 + 1 + 1 + 1) (fun k => k = N + 1 + 1 + 1 ∨ k = N + 1 + 1 + 1 + 1) L (by omega) rfl HL.out HEa.out (by omega) rfl (fun k hk => by rintro (h | h) <;> omega)
    (fun pre W => (((Boxed W N 9 (.string ⟨l.toArray⟩) ∧ Boxed W (N + 1) 3 (.int .i64 z)) ∧ W.heap[N + 1 + 1]? = some (.cells #[.int .i64 a, .int .i64 t, .int .i64 s] 36 (0, 0))) ∧ (Boxed W (N + 1 + 1 + 1) 3 (.int .i64 (eL (pre.map Pl.v) : Nat)) ∧ Boxed W (N + 1 + 1 + 1 + 1) 3 (.int .i64 (colP l a t s (pre.map Pl.v))))) ∧ (pre = [] ∨ colP l a t s (pre.map Pl.v) ≤ z))
    (fun c pre W => c = .exit 0 ∧ ∃ (pr : List (Pl l)), pr <+: pre ∧ (pr = [] ∨ colP l a t s (pr.map Pl.v) ≤ z) ∧ Boxed W (N + 1 + 1 + 1) 3 (.int .i64 (eL (pr.map Pl.v) : Nat)) ∧ Boxed W (N + 1 + 1 + 1 + 1) 3 (.int .i64 (colP l a t s (pr.map Pl.v))))
    (OwnFrom.and (OwnFrom.and (OwnFrom.and (OwnFrom.and (Own.from (boxed_own _ _ _) _) (Own.from (boxed_own _ _ _) _)) (cells_from _ _ _ _)) (OwnFrom.and (Own.from (boxed_own _ _ (fun pre : List (Pl l) => Value.int .i64 (eL (pre.map Pl.v) : Nat))) _) (Own.from (boxed_own _ _ (fun pre : List (Pl l) => Value.int .i64 (colP l a t s (pre.map Pl.v)))) _))) (ownFrom_pure _ _))
    (fun c _ A C row hs hg hr => by
      obtain ⟨e, pr, e1, e2, e3, e4⟩ := hs
      exact ⟨e, pr, e1, e2, boxed_keep e3 hg hr, boxed_keep e4 hg hr⟩)
    ⟨HI0.out, .inl rfl⟩ 8 9 ?assign ?body ?done ?stop
  case assign =>
    intro lp x W K hK
    dsimp only [encP]
    gi_wp2
    simpa [fr, encP] using hK
  case body =>
    rintro lp pre x W ⟨⟨⟨⟨v0, v1⟩, v2⟩, v3, v4⟩, hpure⟩ hb he hlt
    have hx1 := x.lt
    have hx2 := x.le
    obtain ⟨f, hf⟩ : ∃ f, f = x.v.1 := ⟨_, rfl⟩
    obtain ⟨y, hx⟩ : ∃ y, y = x.v.2 := ⟨_, rfl⟩
    have hcb := colP_bd l a t s HK.out (pre.map Pl.v) s hs0
    rw [List.length_map] at hcb
    have HSN := hid (colP_snoc l a t s (pre.map Pl.v) x.v)
    have HES := hid (eL_snoc (pre.map Pl.v) x.v)
    obtain ⟨c, hc⟩ : ∃ c, c = colP l a t s (pre.map Pl.v) := ⟨_, rfl⟩
    obtain ⟨n, hn⟩ : ∃ n, n = eL (pre.map Pl.v) := ⟨_, rfl⟩
    have HC := hid hc
    have HNN := hid hn
    have HPU := hid hpure
    rw [← hc] at hcb v4 HSN
    rw [← hn] at v3
    rw [← hf, ← hx] at HSN
    rw [← hx] at HES
    have HEX := hid (ext_piece l f y (by omega))
    have HLE := hid (show ((l.take y).drop f).length = y - f by rw [List.length_drop, List.length_take]; omega)
    dsimp only [fr, encP]
    rw [← hf, ← hx] at hx1 ⊢
    rw [← hx] at hx2
    clear hf hx hc hn hpure
    have HE := hid he.tb
    have HV := hid (And.intro v0 (And.intro v1 (And.intro v2 (And.intro v3 v4))))
    have c0 := v0.cell
    have c1 : W.cell? ⟨N + 1 + 1, 0, none⟩ = some (.int .i64 a) := by simp [World.cell?, v2]
    have c2 : W.cell? ⟨N + 1 + 1, 1, none⟩ = some (.int .i64 t) := by simp [World.cell?, v2]
    have c3 : W.cell? ⟨N + 1 + 1, 2, none⟩ = some (.int .i64 s) := by simp [World.cell?, v2]
    have c4 := v4.cell
    gi_wp2_with fail
    rw [HEX.out]
    refine ⟨trivial, CallsIn.inRound lp (callsIn_wide.2 ((wbehind_any ((l.take y).drop f) c a t s W HE.out (by have := HLE.out; omega) (by have := HLE.out; omega) HK.out hcb.1 (by omega)).mono ?_))⟩
    rintro e W1 ⟨rfl, be1⟩
    have HBS1 := hid (show BS (fun k => k = N + 1 + 1 + 1 ∨ k = N + 1 + 1 + 1 + 1) W W1 from BS.below be1)
    have HBE1 := hid be1
    have HT1 := hid (HE.out.below be1)
    rw [← HSN.out]
    obtain ⟨c', hc'⟩ : ∃ c', c' = colP l a t s (List.map Pl.v pre ++ [x.v]) := ⟨_, rfl⟩
    rw [← hc'] at HSN ⊢
    have HC' := hid hc'
    clear be1 hc' c0 c1 c2 c3 c4
    gi_wp2_with fail
    refine ⟨trivial, CallsIn.inRound lp (callsIn_wide.2 ((wends_any ((l.take y).drop f) W1 HT1.out).mono ?_))⟩
    rintro e W2 ⟨rfl, be2⟩
    have HBS2 := hid (HBS1.out.trans (BS.below be2))
    have HBE2 := hid (show Below W.heap.size W W2 from HBE1.out.trans (be2.mono HBE1.out.size))
    obtain ⟨v, hv⟩ : ∃ v, v = elR (dec ((l.take y).drop f)).1 := ⟨_, rfl⟩
    rw [← hv]
    have w1 : Boxed W2 (N + 1) 3 (.int .i64 z) := (HBE2.out.block _ v1.lt).trans v1
    have w3 : Boxed W2 (N + 1 + 1 + 1) 3 (.int .i64 n) := (HBE2.out.block _ v3.lt).trans v3
    have w4 : Boxed W2 (N + 1 + 1 + 1 + 1) 3 (.int .i64 c) := (HBE2.out.block _ v4.lt).trans v4
    have HW0 := hid (show Boxed W2 N 9 (.string ⟨l.toArray⟩) from (HBE2.out.block _ v0.lt).trans v0)
    have HW2 := hid ((HBE2.out.block _ (Array.getElem?_eq_some_iff.1 v2).1).trans v2)
    have HW := hid (And.intro w1 (And.intro w3 w4))
    have k1 := w1.cell
    clear be2 hv HBS1 HBE1 HT1 v0 v1 v2 v3 v4
    cases v with
    | true =>
      clear w1 w3 w4
      gi_wp2
      refine ⟨HBS2.out, rfl, pre, List.prefix_append _ _, ?_, ?_, ?_⟩
      · rw [← HC.out]; have := HPU.out; rwa [← HC.out] at this
      · rw [← HNN.out]; exact HW.out.2.1
      · rw [← HC.out]; exact HW.out.2.2
    | false =>
      by_cases hgt : z < c'
      · clear w1 w3 w4
        gi_wp2
        refine ⟨HBS2.out, rfl, pre, List.prefix_append _ _, ?_, ?_, ?_⟩
        · rw [← HC.out]; have := HPU.out; rwa [← HC.out] at this
        · rw [← HNN.out]; exact HW.out.2.1
        · rw [← HC.out]; exact HW.out.2.2
      · have f3 := w3.frozen
        have f4 := w4.frozen
        have e3 := w3.cell
        have e4 := w4.cell
        clear w1 w3 w4
        gi_wp2
        have w0' := HW0.out
        have hw2 := HW2.out
        have g2 := (Array.getElem?_eq_some_iff.1 hw2).1
        refine ⟨HBS2.out.trans ((BS.set W2 (N + 1 + 1 + 1) _ (.inl rfl)).trans (BS.set _ (N + 1 + 1 + 1 + 1) _ (.inr rfl))), ⟨⟨⟨⟨?_, ?_⟩, ?_⟩, ?_, ?_⟩, ?_⟩⟩
        · exact (w0'.other (B' := N + 1 + 1 + 1) (by omega) _).other (B' := N + 1 + 1 + 1 + 1) (by omega) _
        · exact (HW.out.1.other (B' := N + 1 + 1 + 1) (by omega) _).other (B' := N + 1 + 1 + 1 + 1) (by omega) _
        · exact ((Below.heap_setCell _ _ _ (N + 1 + 1) (by simp)).trans (Below.heap_setCell _ _ _ (N + 1 + 1) (by simp))).trans hw2
        · rw [List.map_append, List.map_cons, List.map_nil, HES.out]
          exact (HW.out.2.1.set _).other (B' := N + 1 + 1 + 1 + 1) (by omega) _
        · rw [List.map_append, List.map_cons, List.map_nil, ← HC'.out]
          exact (HW.out.2.2.other (B' := N + 1 + 1 + 1) (by omega) _).set _
        · right
          rw [List.map_append, List.map_cons, List.map_nil, ← HC'.out]
          omega
  case done =>
    rintro D W hD ⟨⟨_, v3, v4⟩, hpu⟩ hb hK
    have HFQ := hid (fit_of l z a t s (L.map Pl.v) (by rw [HL.out]; exact List.prefix_refl _) (by
      rcases hpu with h | h
      · exact .inl (by rw [h]; rfl)
      · exact .inr h))
    clear hpu
    obtain ⟨n, hn⟩ : ∃ n, n = eL (L.map Pl.v) := ⟨_, rfl⟩
    obtain ⟨c, hc⟩ : ∃ c, c = colP l a t s (L.map Pl.v) := ⟨_, rfl⟩
    rw [← hn] at v3
    rw [← hc] at v4
    rw [← hn, ← hc] at HFQ
    clear hn hc
    have e3 := v3.cell
    have e4 := v4.cell
    gi_wp2
    refine wpIn_region_mixW _ [(0, true), (1, true), (2, false), (3, false)] (fun w' => w'.cell? ⟨N + 1 + 1 + 1, 0, none⟩ = some (.int .i64 n) ∧ w'.cell? ⟨N + 1 + 1 + 1 + 1, 0, none⟩ = some (.int .i64 c)) (fun _ => false) (by kernel_rfl) (by kernel_rfl) (by kernel_rfl) (fun j hj => by cases hj) rfl (by kernel_rfl) ⟨e3, e4⟩ ?hm1
    iterate 2 (refine mix_free ?_ rfl (by kernel_rfl) (fun w' hS => ?_) ?_; (rotate_left; (obtain ⟨s1, s2⟩ := hS; go_simp; with_reducible rfl); rotate_left))
    refine mix_go rfl (by kernel_rfl) fun KK hKK => ?_
    have f3d : W.drew.frozen? ⟨N + 1 + 1 + 1, 0, none⟩ = false := v3.frozen
    have e3d : W.drew.cell? ⟨N + 1 + 1 + 1, 0, none⟩ = some (.int .i64 n) := e3
    go_simp
    have u3 := bdrew (v3.set (.int .i64 n))
    have u4 := bdrew (v4.other (B' := N + 1 + 1 + 1) (by omega) (.int .i64 n))
    refine hKK _ _ (fun _ => ⟨u3.cell, u4.cell⟩) ?_
    clear hKK KK e3 e4 f3d e3d
    obtain ⟨W1, hW1⟩ : ∃ W1, W1 = (W.setCell ⟨N + 1 + 1 + 1, 0, none⟩ (.int .i64 n)).drew := ⟨_, rfl⟩
    have HBS1 := hid (show BS (fun k => k = N + 1 + 1 + 1 ∨ k = N + 1 + 1 + 1 + 1) W W1 by rw [hW1]; exact (BS.set W (N + 1 + 1 + 1) _ (.inl rfl)).trans (BS.drew _))
    rw [← hW1] at u3 u4 ⊢
    clear hW1 v3 v4
    refine mix_go rfl (by kernel_rfl) fun KK hKK => ?_
    have f4d := u4.frozen
    have e4d := u4.cell
    go_simp
    have y3 := u3.other (B' := N + 1 + 1 + 1 + 1) (by omega) (.int .i64 c)
    have y4 := u4.set (.int .i64 c)
    refine hKK _ _ (fun _ => ⟨y3.cell, y4.cell⟩) ?_
    clear hKK KK f4d e4d
    obtain ⟨W2, hW2⟩ : ∃ W2, W2 = W1.setCell ⟨N + 1 + 1 + 1 + 1, 0, none⟩ (.int .i64 c) := ⟨_, rfl⟩
    have HBS2 := hid (show BS (fun k => k = N + 1 + 1 + 1 ∨ k = N + 1 + 1 + 1 + 1) W W2 by rw [hW2]; exact HBS1.out.trans (BS.set W1 (N + 1 + 1 + 1 + 1) _ (.inr rfl)))
    rw [← hW2] at y3 y4 ⊢
    clear hW2 u3 u4
    have hK' := HBS2.out.others.same D _ hK rfl
    refine mix_end (OnlyN.in ?_)
    gi_wp2
    refine ⟨by simp, .inl ⟨_, _, rfl, run_takeDeferred hK', ?_⟩⟩
    have c4 := cell_kept y3.cell (grownBy_putObj' _ D (.deferred none)) (fun r e => by cases e; exact ⟨_, hK', rfl⟩)
    have c5 := cell_kept y4.cell (grownBy_putObj' _ D (.deferred none)) (fun r e => by cases e; exact ⟨_, hK', rfl⟩)
    refine ⟨_, ?_, n, c, rfl, HFQ.out, ?_⟩
    · simp [results, Tryd.f48, go_sem, c4, c5]
    · have hs3 := HS.out
      have hn := HN.out
      rw [← hn]
      exact (HBw.out.trans ((hb.trans HBS2.out).lower N (fun k hk => by omega) (by omega))).trans (belowK_b (w := w) (by omega) W2 D _ _ (by omega) hK' rfl rfl)
  case stop =>
    rintro D cd pre W hD hp' ⟨rfl, pr, e1, e2, v3, v4⟩ hb hK
    have HFQ := hid (fit_of l z a t s (pr.map Pl.v) (by
      rw [← HL.out]
      exact (e1.trans hp').map Pl.v) (by
      rcases e2 with h | h
      · exact .inl (by rw [h]; rfl)
      · exact .inr h))
    clear e1 e2 hp'
    obtain ⟨n, hn⟩ : ∃ n, n = eL (pr.map Pl.v) := ⟨_, rfl⟩
    obtain ⟨c, hc⟩ : ∃ c, c = colP l a t s (pr.map Pl.v) := ⟨_, rfl⟩
    rw [← hn] at v3
    rw [← hc] at v4
    rw [← hn, ← hc] at HFQ
    clear hn hc
    have e3 := v3.cell
    have e4 := v4.cell
    gi_wp2
    refine wpIn_region_mixW _ [(0, true), (1, true), (2, false), (3, false)] (fun w' => w'.cell? ⟨N + 1 + 1 + 1, 0, none⟩ = some (.int .i64 n) ∧ w'.cell? ⟨N + 1 + 1 + 1 + 1, 0, none⟩ = some (.int .i64 c)) (fun _ => false) (by kernel_rfl) (by kernel_rfl) (by kernel_rfl) (fun j hj => by cases hj) rfl (by kernel_rfl) ⟨e3, e4⟩ ?hm2
    iterate 2 (refine mix_free ?_ rfl (by kernel_rfl) (fun w' hS => ?_) ?_; (rotate_left; (obtain ⟨s1, s2⟩ := hS; go_simp; with_reducible rfl); rotate_left))
    refine mix_go rfl (by kernel_rfl) fun KK hKK => ?_
    have f3d : W.drew.frozen? ⟨N + 1 + 1 + 1, 0, none⟩ = false := v3.frozen
    have e3d : W.drew.cell? ⟨N + 1 + 1 + 1, 0, none⟩ = some (.int .i64 n) := e3
    go_simp
    have u3 := bdrew (v3.set (.int .i64 n))
    have u4 := bdrew (v4.other (B' := N + 1 + 1 + 1) (by omega) (.int .i64 n))
    refine hKK _ _ (fun _ => ⟨u3.cell, u4.cell⟩) ?_
    clear hKK KK e3 e4 f3d e3d
    obtain ⟨W1, hW1⟩ : ∃ W1, W1 = (W.setCell ⟨N + 1 + 1 + 1, 0, none⟩ (.int .i64 n)).drew := ⟨_, rfl⟩
    have HBS1 := hid (show BS (fun k => k = N + 1 + 1 + 1 ∨ k = N + 1 + 1 + 1 + 1) W W1 by rw [hW1]; exact (BS.set W (N + 1 + 1 + 1) _ (.inl rfl)).trans (BS.drew _))
    rw [← hW1] at u3 u4 ⊢
    clear hW1 v3 v4
    refine mix_go rfl (by kernel_rfl) fun KK hKK => ?_
    have f4d := u4.frozen
    have e4d := u4.cell
    go_simp
    have y3 := u3.other (B' := N + 1 + 1 + 1 + 1) (by omega) (.int .i64 c)
    have y4 := u4.set (.int .i64 c)
    refine hKK _ _ (fun _ => ⟨y3.cell, y4.cell⟩) ?_
    clear hKK KK f4d e4d
    obtain ⟨W2, hW2⟩ : ∃ W2, W2 = W1.setCell ⟨N + 1 + 1 + 1 + 1, 0, none⟩ (.int .i64 c) := ⟨_, rfl⟩
    have HBS2 := hid (show BS (fun k => k = N + 1 + 1 + 1 ∨ k = N + 1 + 1 + 1 + 1) W W2 by rw [hW2]; exact HBS1.out.trans (BS.set W1 (N + 1 + 1 + 1 + 1) _ (.inr rfl)))
    rw [← hW2] at y3 y4 ⊢
    clear hW2 u3 u4
    have hK' := HBS2.out.others.same D _ hK rfl
    refine mix_end (OnlyN.in ?_)
    gi_wp2
    refine ⟨by simp, .inl ⟨_, _, rfl, run_takeDeferred hK', ?_⟩⟩
    have c4 := cell_kept y3.cell (grownBy_putObj' _ D (.deferred none)) (fun r e => by cases e; exact ⟨_, hK', rfl⟩)
    have c5 := cell_kept y4.cell (grownBy_putObj' _ D (.deferred none)) (fun r e => by cases e; exact ⟨_, hK', rfl⟩)
    refine ⟨_, ?_, n, c, rfl, HFQ.out, ?_⟩
    · simp [results, Tryd.f48, go_sem, c4, c5]
    · have hs3 := HS.out
      have hn := HN.out
      rw [← hn]
      exact (HBw.out.trans ((hb.trans HBS2.out).lower N (fun k hk => by omega) (by omega))).trans (belowK_b (w := w) (by omega) W2 D _ _ (by omega) hK' rfl rfl)
theorem wfit_any (l : List UInt8) (z a t s : Int) (w : World) (ht : TbW w) (hl : l.length ≤ 100000000) (hk : Okc a t s) :
    Calls Tryd.prog 48 #[.string ⟨l.toArray⟩, .int .i64 z, .agg #[.int .i64 a, .int .i64 t, .int .i64 s]] w fun e W' => ∃ (n : Nat) (c : Int), e = .returned (.tuple #[.int .i64 n, .int .i64 c]) ∧ FitQ l z a t s n c ∧ Below w.heap.size w W' := callsIn_wide.1 (wfit_in l z a t s w ht hl hk)
theorem fit_le {l : List UInt8} {z a t s : Int} {n : Nat} {c : Int} (h : FitQ l z a t s n c) : n ≤ l.length := by
  obtain ⟨P, Q, h1, rfl, _⟩ := h
  have h2 := pcl_all gc _ (rl l) (Nat.le_refl _)
  rw [h1, List.flatten_append] at h2
  have h3 := congrArg psm h2
  rw [psm_app, rl_sum _ l (Nat.le_refl _)] at h3
  omega
set_option maxHeartbeats 1000000 in
theorem wcut_any (l : List UInt8) (z a t s : Int) (w : World) (ht : TbW w) (hl : l.length ≤ 100000000) (hk : Okc a t s) :
    Calls Tryd.prog 21 #[.string ⟨l.toArray⟩, .int .i64 z, .agg #[.int .i64 a, .int .i64 t, .int .i64 s]] w fun e W' => ∃ (n : Nat) (c : Int), e = .returned (.tuple #[.string ⟨(l.take n).toArray⟩, .int .i64 c]) ∧ FitQ l z a t s n c ∧ Below w.heap.size w W' := by
  have HT := hid ht
  have HK := hid hk
  have HCK := hid (show chkE a t s = 0 by unfold chkE; rw [if_pos ((okc_is a t s).2 hk)])
  have hB0 : Below w.heap.size w (w.alloc (.cells #[.int .i64 a, .int .i64 t, .int .i64 s] 36)) := (Below.refl _ _).alloc (Nat.le_refl _) _
  have hbx : (w.alloc (.cells #[.int .i64 a, .int .i64 t, .int .i64 s] 36)).heap[w.heap.size]? = some (.cells #[.int .i64 a, .int .i64 t, .int .i64 s] 36 (0, 0)) := World.alloc_heap_new w _
  have hsz0 : (w.alloc (.cells #[.int .i64 a, .int .i64 t, .int .i64 s] 36)).heap.size = w.heap.size + 1 := by simp
  clear ht hk
  go_enter Tryd.func21, Tryd.ntmps21
  go_wp2_with fail
  obtain ⟨w0, hw0⟩ : ∃ w0, w0 = w.alloc (.cells #[.int .i64 a, .int .i64 t, .int .i64 s] 36) := ⟨_, rfl⟩
  rw [← hw0] at hB0 hbx hsz0 ⊢
  clear hw0
  refine (wcheck_any a t s w0).mono ?_
  rintro e w1 ⟨rfl, be1⟩
  rw [HCK.out]
  have HB1 := hid (hB0.trans (be1.mono hB0.size))
  have hbx1 := (be1.block w.heap.size (by omega)).trans hbx
  have c0 : w1.cell? ⟨w.heap.size, 0, none⟩ = some (.int .i64 a) := by simp [World.cell?, hbx1]
  have c1 : w1.cell? ⟨w.heap.size, 1, none⟩ = some (.int .i64 t) := by simp [World.cell?, hbx1]
  have c2 : w1.cell? ⟨w.heap.size, 2, none⟩ = some (.int .i64 s) := by simp [World.cell?, hbx1]
  clear be1 hbx hsz0 hB0 hbx1
  go_wp2_with fail
  refine (wfit_any l z a t s w1 (HT.out.below HB1.out) hl HK.out).mono ?_
  rintro e w2 ⟨n, c, rfl, hF, be2⟩
  have HB2 := hid (HB1.out.trans (be2.mono HB1.out.size))
  have hnl := fit_le hF
  have HF := hid hF
  clear be2 hF
  go_wp2
  rw [wtake]
  go_ret2
  exact ⟨n, c, rfl, HF.out, HB2.out⟩
end Go.Proofs.YtlfegdpclappiaaDoor
