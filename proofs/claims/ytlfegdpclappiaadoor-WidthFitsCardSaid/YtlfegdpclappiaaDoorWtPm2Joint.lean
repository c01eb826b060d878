/- Columns by the runes of letters; texts put together at a bound. Mathematics alone. -/
import Derived.Test.YtlfegdpclappiaaDoorWtTxtJoint
import Derived.Test.YtlfegdpclappiaaDoorGrBndJoint
namespace Go.Proofs.YtlfegdpclappiaaDoor

theorem dec_high (m : List UInt8) (h : m ≠ []) (hb : 128 ≤ (m.getD 0 0).toNat) : 128 ≤ (dec m).1 := by
  rw [dec_numbers m h]
  unfold Lib.decodeN
  rw [if_neg (by omega)]
  split
  · split
    · rename_i h1; exact h1
    · decide
  split
  · split
    · rename_i h1; have := h1.1; show 128 ≤ _; omega
    · decide
  split
  · split
    · rename_i h1; have := h1.1; show 128 ≤ _; omega
    · decide
  · decide
theorem dec_low (m : List UInt8) (h : m ≠ []) (hb : (m.getD 0 0).toNat < 128) : dec m = ((m.getD 0 0).toNat, 1) := by
  rw [dec_numbers m h]
  unfold Lib.decodeN
  rw [if_pos hb]
theorem byt_9 (m : List UInt8) (h : m ≠ []) : byt m 0 = 9 ↔ (dec m).1 = 9 := by
  unfold byt
  rcases Nat.lt_or_ge (m.getD 0 0).toNat 128 with hb | hb
  · rw [dec_low m h hb]
    constructor <;> intro e
    · show (m.getD 0 0).toNat = 9; omega
    · have e : (m.getD 0 0).toNat = 9 := e
      omega
  · have := dec_high m h hb
    constructor <;> intro e <;> omega
/-- The column behind a letter, by its runes. -/
def bhR (a t c : Int) (X : List (Nat × Nat)) : Int := if elR (X.headD (0, 0)).1 = true then 0 else if (X.headD (0, 0)).1 = 9 then (c / t + 1) * t else c + lcR a X
theorem bhd_rl (a t c : Int) (m : List UInt8) (h : m ≠ []) : bhd a t c m = bhR a t c (rl m) := by
  have e : (byt m 0 = 9) = ((((rl m).headD (0, 0)).1 : Nat) = 9) := propext ((byt_9 m h).trans (by rw [dec_hd]))
  unfold bhd bhR
  rw [dec_hd]
  simp only [e]
/-- The column behind a row of runes. -/
def txR (a t c : Int) (Y : List (Nat × Nat)) : Int := (pcl gc Y).foldl (bhR a t) c
/-- A beginning of a text, by its runes. -/
theorem cut_at (m : List UInt8) (x y : List (Nat × Nat)) (h : rl m = x ++ y) : rl (m.take (psm x)) = x ∧ rl (m.drop (psm x)) = y := by
  have h1 := rl_cut x.length m (by rw [h, List.length_append]; omega)
  rw [h, List.take_left, List.drop_left] at h1
  exact h1
theorem piece_ne (m : List UInt8) (x : List (Nat × Nat)) (h : rl m = x) (hx : x ≠ []) : m ≠ [] := fun e => by
  subst e
  exact hx h.symm
theorem plc_fold (l : List UInt8) (a t : Int) : ∀ (M : List (List (Nat × Nat))) (p : Nat) (c : Int), rl (l.drop p) = M.flatten → (∀ x ∈ M, x ≠ []) → colP l a t c (plc p M) = M.foldl (bhR a t) c
  | [], _, _, _, _ => rfl
  | x :: M, p, c, h, hne => by
    rw [List.flatten_cons] at h
    obtain ⟨h1, h2⟩ := cut_at _ _ _ h
    have hx := hne x (List.mem_cons_self ..)
    have e : (l.take (p + psm x)).drop p = (l.drop p).take (psm x) := by rw [List.drop_take, Nat.add_sub_cancel_left]
    have e2 : colP l a t c (plc p (x :: M)) = colP l a t (bhd a t c ((l.take (p + psm x)).drop p)) (plc (p + psm x) M) := rfl
    rw [e2, e, bhd_rl a t c _ (piece_ne _ x h1 hx), h1, plc_fold l a t M _ _ (by rw [← List.drop_drop]; exact h2) (fun y hy => hne y (List.mem_cons_of_mem _ hy))]
    rfl
theorem colP_tx (l : List UInt8) (a t c : Int) : colP l a t c (gpF l 0) = txR a t c (rl l) := by
  unfold txR
  rw [gpF_0]
  exact plc_fold l a t _ 0 c (by rw [pcl_all gc _ _ (Nat.le_refl _)]; rfl) (pcl_ne gc _ _ (Nat.le_refl _))
theorem plc_mem : ∀ (M : List (List (Nat × Nat))) (q : Nat) (y : Nat × Nat), y ∈ plc q M → ∃ P Q, M = P ++ Q ∧ y.1 = q + psm P.flatten
  | [], _, _, h => by cases h
  | x :: M, q, y, h => by
    rw [plc] at h
    rcases List.mem_cons.1 h with rfl | h
    · exact ⟨[], x :: M, rfl, rfl⟩
    · obtain ⟨P, Q, h1, h2⟩ := plc_mem M _ y h
      exact ⟨x :: P, Q, by rw [h1]; rfl, by rw [h2, List.flatten_cons, psm_app, Nat.add_assoc]⟩
/-- A place where a letter begins parts a text, and its letters. -/
theorem gis_cut (m : List UInt8) (p : Nat) (h : Gis m p) : rl m = rl (m.take p) ++ rl (m.drop p) ∧ pcl gc (rl m) = pcl gc (rl (m.take p)) ++ pcl gc (rl (m.drop p)) := by
  obtain ⟨y, hy, rfl⟩ := h
  rw [gpF_0] at hy
  obtain ⟨P, Q, h1, h2⟩ := plc_mem _ _ y hy
  rw [Nat.zero_add] at h2
  have h3 := pcl_all gc _ (rl m) (Nat.le_refl _)
  rw [h1, List.flatten_append] at h3
  obtain ⟨k1, k2⟩ := pcl_cut gc P Q _ h1
  obtain ⟨e1, e2⟩ := cut_at m _ _ h3.symm
  rw [h2, e1, e2]
  exact ⟨h3.symm, by rw [h1, k1, k2]⟩
theorem join_tx (s u : List UInt8) (a t c : Int) (h : s = [] ∨ u = [] ∨ Gis (s ++ u) s.length) : colP (s ++ u) a t c (gpF (s ++ u) 0) = colP u a t (colP s a t c (gpF s 0)) (gpF u 0) := by
  rw [colP_tx, colP_tx, colP_tx]
  rcases h with rfl | rfl | h
  · rfl
  · rw [List.append_nil]; rfl
  · obtain ⟨_, h2⟩ := gis_cut _ _ h
    rw [List.take_left, List.drop_left] at h2
    unfold txR
    rw [h2, List.foldl_append]
end Go.Proofs.YtlfegdpclappiaaDoor
/- What the classes of runes say of their cells; a letter holds no tab but at its beginning. Mathematics alone. -/
namespace Go.Proofs.YtlfegdpclappiaaDoor

theorem iteP {α : Type} {c : Prop} [Decidable c] {x y : α} (P : α → Prop) (h1 : c → P x) (h2 : ¬ c → P y) : P (if c then x else y) := by
  by_cases h : c
  · rw [if_pos h]; exact h1 h
  · rw [if_neg h]; exact h2 h
def Zr (r : Int) : Prop := (768 ≤ r ∧ r ≤ 879) ∨ (1155 ≤ r ∧ r ≤ 1161) ∨ (1425 ≤ r ∧ r ≤ 1469) ∨ (1611 ≤ r ∧ r ≤ 1631) ∨ (1536 ≤ r ∧ r ≤ 1541) ∨ r = 1757 ∨ r = 1807 ∨ r = 2364 ∨ r = 2381 ∨ (3636 ≤ r ∧ r ≤ 3642) ∨ r = 8204 ∨ r = 8205 ∨ (8400 ≤ r ∧ r ≤ 8432) ∨ (12441 ≤ r ∧ r ≤ 12442) ∨ (65024 ≤ r ∧ r ≤ 65039) ∨ (127995 ≤ r ∧ r ≤ 127999) ∨ (917536 ≤ r ∧ r ≤ 917631) ∨ r = 69821
theorem cls_rng (r : Int) : gpcls r = 4 ∨ gpcls r = 5 ∨ gpcls r = 7 → Zr r := by
  unfold gpcls gplatin gpmarks gpjamo gppunct gpsigns gphigh Zr
  repeat' (refine iteP (fun v => v = 4 ∨ v = 5 ∨ v = 7 → _) (fun _ => ?_) (fun _ => ?_))
  all_goals
    intro h
    omega
theorem zr_zero (r : Int) (h : Zr r) : wzero r = true := by
  unfold Zr at h
  unfold wzero wzmark
  repeat' (refine iteP (fun v => v = true) (fun _ => ?_) (fun _ => ?_))
  all_goals first
    | rfl
    | (exfalso; omega)
theorem cel_zero (a : Int) (x : Nat × Nat) (h : gc x = 4 ∨ gc x = 5 ∨ gc x = 7) : rcel a x.1 = 0 := by
  unfold rcel
  rw [if_pos (zr_zero _ (cls_rng _ h))]
theorem el_cls (r : Int) (h : elR r = true) : gpcls r = 1 ∨ gpcls r = 2 ∨ gpcls r = 3 := by
  unfold elR at h
  have h' : r = 10 ∨ r = 11 ∨ r = 12 ∨ r = 13 ∨ r = 133 ∨ r = 8232 ∨ r = 8233 := by
    split at h
    · omega
    split at h
    · omega
    split at h
    · omega
    split at h
    · omega
    split at h
    · omega
    split at h
    · omega
    split at h
    · omega
    · cases h
  rcases h' with rfl | rfl | rfl | rfl | rfl | rfl | rfl <;> decide
theorem cls_9 : gpcls 9 = 3 := by decide
theorem cls_32 : gpcls 32 = 0 := by decide
theorem cel_32 (a : Int) : rcel a 32 = 1 := by
  unfold rcel
  rw [if_neg (by decide), if_neg (by decide), if_neg (by decide)]
/-- A letter that is only as wide as its widest rune, no tab and no line's end. -/
structure Nrm (f : List (Nat × Nat)) : Prop where
  ne : f ≠ []
  el : elR ((f.headD (0, 0)).1 : Int) = false
  n9 : (f.headD (0, 0)).1 ≠ 9
  n12 : gc (f.headD (0, 0)) ≠ 12
  n13 : gc (f.headD (0, 0)) ≠ 13
theorem nrm_one (r : Nat × Nat) (h : gc r = 0 ∨ gc r = 4 ∨ gc r = 5 ∨ gc r = 7) : Nrm [r] where
  ne := by simp
  el := Bool.eq_false_iff.2 (fun e => by
    have h2 := el_cls _ e
    have e2 : gc r = gpcls (r.1 : Int) := rfl
    simp only [List.headD_cons] at h2
    rw [← e2] at h2
    omega)
  n9 := fun e => by
    have e2 : gc r = gpcls (r.1 : Int) := rfl
    have e3 : r.1 = 9 := e
    rw [e3, show ((9 : Nat) : Int) = 9 from rfl, cls_9] at e2
    omega
  n12 := by show gc r ≠ 12; omega
  n13 := by show gc r ≠ 13; omega
theorem hd_app (f : List (Nat × Nat)) (r : Nat × Nat) (h : f ≠ []) : (f ++ [r]).headD (0, 0) = f.headD (0, 0) := by
  cases f with
  | nil => exact absurd rfl h
  | cons x f => rfl
theorem Nrm.app {f : List (Nat × Nat)} (h : Nrm f) (r : Nat × Nat) : Nrm (f ++ [r]) := by
  have e := hd_app f r h.ne
  exact ⟨by simp, by rw [e]; exact h.el, by rw [e]; exact h.n9, by rw [e]; exact h.n12, by rw [e]; exact h.n13⟩
theorem nrm_lc {f : List (Nat × Nat)} (h : Nrm f) (a : Int) : lcR a f = mfl (gc (f.headD (0, 0))) a 0 f := by
  unfold lcR
  rw [if_neg (fun e => h.n13 e.1)]
theorem nrm_bh {f : List (Nat × Nat)} (h : Nrm f) (a t c : Int) : bhR a t c f = c + lcR a f := by
  unfold bhR
  rw [if_neg (by rw [h.el]; simp), if_neg h.n9]
theorem mfl_app (f a m : Int) (X Y : List (Nat × Nat)) : mfl f a m (X ++ Y) = mfl f a (mfl f a m X) Y := by
  unfold mfl
  rw [List.foldl_append]
theorem nrm_app {f : List (Nat × Nat)} (h : Nrm f) (a : Int) (r : Nat × Nat) : lcR a (f ++ [r]) = max (lcR a f) (rcel a r.1) := by
  rw [nrm_lc (h.app r), nrm_lc h, hd_app f r h.ne, mfl_app]
  show stp _ a _ r.1 = _
  unfold stp
  rw [if_neg (fun e => h.n12 e.2)]
theorem nrm_zero {f : List (Nat × Nat)} (h : Nrm f) (a : Int) (ha : a = 1 ∨ a = 2) (r : Nat × Nat) (hz : gc r = 4 ∨ gc r = 5 ∨ gc r = 7) : lcR a (f ++ [r]) = lcR a f := by
  have := (lcR_bd a ha f).1
  rw [nrm_app h, cel_zero a r hz]
  omega
theorem one_lc (a : Int) (ha : a = 1 ∨ a = 2) (r : Nat × Nat) (h : gc r = 0 ∨ gc r = 4 ∨ gc r = 5 ∨ gc r = 7) : lcR a [r] = rcel a r.1 := by
  have hn := nrm_one r h
  have hb := (rcel_bd a r.1 ha).1
  rw [nrm_lc hn]
  show stp _ a 0 r.1 = _
  unfold stp
  rw [if_neg (fun e => hn.n12 e.2)]
  omega
end Go.Proofs.YtlfegdpclappiaaDoor
/- Columns rune by rune, and what they are where tabs are written as blanks. Mathematics alone. -/
namespace Go.Proofs.YtlfegdpclappiaaDoor

section
variable (a t : Int)
/-- The column behind the rest, within a letter f that begins at the column c. -/
def rn : Int → Int → List (Nat × Nat) → List (Nat × Nat) → Int
  | _, c, f, [] => bhR a t c f
  | q, c, f, r :: L => match nx q (gc r) with
    | some q' => rn q' c (f ++ [r]) L
    | none => rn (gc r) (bhR a t c f) [r] L
def rs (C : Int) : List (Nat × Nat) → Int
  | [] => C
  | r :: M => rn a t (gc r) C [r] M
theorem rn_cons (q c : Int) (f : List (Nat × Nat)) (r : Nat × Nat) (L : List (Nat × Nat)) : rn a t q c f (r :: L) = (match nx q (gc r) with | some q' => rn a t q' c (f ++ [r]) L | none => rn a t (gc r) (bhR a t c f) [r] L) := rfl
theorem rn_gr : ∀ (L : List (Nat × Nat)) (q c : Int) (f : List (Nat × Nat)), rn a t q c f L = rs a t (bhR a t c (f ++ L.take (gr q (L.map gc)))) (L.drop (gr q (L.map gc)))
  | [], q, c, f => by simp [rn, rs]
  | r :: L, q, c, f => by
    rw [rn_cons, List.map_cons, gr_cons]
    cases hn : nx q (gc r) with
    | none => simp [rs]
    | some q' =>
      simp only []
      rw [rn_gr L q' c (f ++ [r]), List.take_succ_cons, List.drop_succ_cons, List.append_assoc]; rfl
theorem tx_rs : ∀ (n : Nat) (Y : List (Nat × Nat)) (C : Int), Y.length ≤ n → txR a t C Y = rs a t C Y
  | n, [], C, _ => rfl
  | 0, r :: M, C, h => by simp at h
  | n + 1, r :: M, C, h => by
    have hd : (M.drop (gr (gc r) (M.map gc))).length ≤ n := by
      rw [List.length_drop]
      rw [List.length_cons] at h
      omega
    unfold txR
    rw [pcl_cons gc _ (by simp)]
    simp only [List.map_cons, fstC, List.take_succ_cons, List.drop_succ_cons, List.foldl_cons]
    have ih := tx_rs n (M.drop (gr (gc r) (M.map gc))) (bhR a t C (r :: M.take (gr (gc r) (M.map gc)))) hd
    unfold txR at ih
    rw [ih]
    show _ = rn a t (gc r) C [r] M
    rw [rn_gr]; rfl
/-- What stands for the rest where tabs are blanks. -/
def blk (C : Int) : List (Nat × Nat) := List.replicate ((C / t + 1) * t - C).toNat (32, 1)
def po : Int → Int → List (Nat × Nat) → List (Nat × Nat) → List (Nat × Nat)
  | _, _, _, [] => []
  | q, c, f, r :: L => (if r.1 = 9 then blk t (bhR a t c f) else [r]) ++ (match nx q (gc r) with
    | some q' => po q' c (f ++ [r]) L
    | none => po (gc r) (bhR a t c f) [r] L)
theorem po_cons (q c : Int) (f : List (Nat × Nat)) (r : Nat × Nat) (L : List (Nat × Nat)) : po a t q c f (r :: L) = (if r.1 = 9 then blk t (bhR a t c f) else [r]) ++ (match nx q (gc r) with | some q' => po a t q' c (f ++ [r]) L | none => po a t (gc r) (bhR a t c f) [r] L) := rfl
/-- The same by letters. -/
def outR : Int → List (List (Nat × Nat)) → List (Nat × Nat)
  | _, [] => []
  | C, x :: M => (if (x.headD (0, 0)).1 = 9 then List.replicate (bhR a t C x - C).toNat (32, 1) else x) ++ outR (bhR a t C x) M
end
theorem gbt_3l (b : Int) : gbt 3 b = 0 := by
  unfold gbt
  rw [if_neg (fun h => absurd h.1 (by decide)), if_pos (.inl (by decide))]
theorem nx_3 (q : Int) : nx q 3 = none := by
  unfold nx
  have h : ∀ a : Int, ¬ gbt a 3 = 1 := fun a e => by rw [gbt_3] at e; cases e
  split
  · rw [if_neg (by decide), if_neg (by decide), if_neg (h _)]
  split
  · rw [if_neg (by decide), if_neg (h _)]
  split
  · rw [if_neg (by decide), if_neg (h _)]
  split
  · rw [if_neg (h _)]
  · rw [if_neg (h _)]
theorem nx_3l (b : Int) : nx 3 b = none := by
  unfold nx
  rw [if_neg (by decide), if_neg (by decide), if_neg (by decide), if_neg (by decide), if_neg (by rw [gbt_3l]; decide)]
theorem gr_3 (L : List Int) : gr 3 L = 0 := by
  cases L with
  | nil => rfl
  | cons b L => rw [gr_cons, nx_3l]
def St (q : Int) : Prop := 0 ≤ q ∧ q ≤ 15
def chk2 (q b : Int) : Bool := (!(decide (b = 0) && (nx q b).isSome) || decide (q = 7)) && (!(decide (b = 7) && (nx q b).isSome) || (decide (q = 7) && decide (nx q b = some 7))) && (!(decide (b = 0) && (nx q b).isSome) || decide (nx q b = some 0)) && (match nx q b with | none => true | some q' => decide (0 ≤ q') && decide (q' ≤ 15) && (!decide (q' = 7) || decide (b = 7)))
  && (!decide (q = 0 ∨ q = 4 ∨ q = 5) || (if b = 4 ∨ b = 5 ∨ b = 6 then decide (nx q b = some b) else decide (nx q b = none)))
theorem chk2_all : ((List.range 16).all fun q => (List.range 14).all fun b => chk2 q b) = true := by decide +kernel
theorem chk2_at {q b : Int} (hq : St q) (hb : Cl b) : chk2 q b = true := by
  obtain ⟨qn, rfl⟩ : ∃ n : Nat, q = n := ⟨q.toNat, by have := hq.1; omega⟩
  obtain ⟨bn, rfl⟩ : ∃ n : Nat, b = n := ⟨b.toNat, by have := hb.1; omega⟩
  exact List.all_eq_true.1 (List.all_eq_true.1 chk2_all qn (List.mem_range.2 (by have := hq.2; omega))) bn (List.mem_range.2 (by have := hb.2; omega))
theorem nx_0 {q q' : Int} (hq : St q) (h : nx q 0 = some q') : q = 7 ∧ q' = 0 := by
  have h1 := chk2_at hq (show Cl 0 from ⟨by decide, by decide⟩)
  unfold chk2 at h1
  simp only [h, Option.isSome_some, decide_true, Bool.and_true, Bool.not_true, Bool.false_or, Bool.and_eq_true, decide_eq_true_eq, Option.some.injEq] at h1
  exact ⟨h1.1.1.1.1, h1.1.1.2⟩
theorem nx_7 {q q' b : Int} (hq : St q) (hb : Cl b) (h : nx q b = some q') (h7 : q' = 7) : q = 7 ∧ b = 7 := by
  have h1 := chk2_at hq hb
  unfold chk2 at h1
  subst h7
  simp only [h, Option.isSome_some, decide_true, Bool.and_true, Bool.not_true, Bool.false_or, Bool.and_eq_true, decide_eq_true_eq, Option.some.injEq] at h1
  have hb7 : b = 7 := h1.1.2.2
  subst hb7
  have h2 := h1.1.1.1.2
  simp at h2
  exact ⟨h2, rfl⟩
theorem nx_st {q q' b : Int} (hq : St q) (hb : Cl b) (h : nx q b = some q') : St q' := by
  have h1 := chk2_at hq hb
  unfold chk2 at h1
  simp only [h, Bool.and_eq_true, decide_eq_true_eq] at h1
  exact h1.1.2.1
theorem nx_045 {q b : Int} (hq : q = 0 ∨ q = 4 ∨ q = 5) (hb : Cl b) : nx q b = if b = 4 ∨ b = 5 ∨ b = 6 then some b else none := by
  have h1 := chk2_at (show St q by rcases hq with rfl | rfl | rfl <;> exact ⟨by decide, by decide⟩) hb
  unfold chk2 at h1
  simp only [Bool.and_eq_true] at h1
  have h2 := h1.2
  rw [decide_eq_true hq] at h2
  simp only [Bool.not_true, Bool.false_or] at h2
  split at h2
  · rename_i hh; rw [if_pos hh]; exact of_decide_eq_true h2
  · rename_i hh; rw [if_neg hh]; exact of_decide_eq_true h2
theorem tab_bh (a t c : Int) (r : Nat × Nat) (h : r.1 = 9) : bhR a t c [r] = (c / t + 1) * t := by
  have e : (([r] : List (Nat × Nat)).headD (0, 0)).1 = 9 := h
  unfold bhR
  rw [if_neg (by rw [e]; decide), if_pos e]
section
variable (a t : Int)
/-- No tab is passed within a letter. -/
theorem po_gr : ∀ (L : List (Nat × Nat)) (q c : Int) (f : List (Nat × Nat)), po a t q c f L = L.take (gr q (L.map gc)) ++ outR a t (bhR a t c (f ++ L.take (gr q (L.map gc)))) (pcl gc (L.drop (gr q (L.map gc))))
  | [], q, c, f => by simp [po, pcl_nil, outR]
  | r :: L, q, c, f => by
    rw [po_cons, List.map_cons, gr_cons]
    cases hn : nx q (gc r) with
    | none =>
      simp only [List.take_zero, List.append_nil, List.nil_append, List.drop_zero]
      rw [pcl_cons gc (r :: L) (by simp)]
      simp only [List.map_cons, fstC, List.take_succ_cons, List.drop_succ_cons, outR, List.headD_cons]
      rw [po_gr L (gc r) (bhR a t c f) [r]]
      by_cases h9 : r.1 = 9
      · have e3 : gc r = 3 := by show gpcls (r.1 : Int) = 3; rw [h9]; exact cls_9
        rw [if_pos h9, if_pos h9, e3, gr_3]
        simp only [List.take_zero, List.append_nil, List.nil_append, List.drop_zero]
        rw [tab_bh a t _ r h9]; rfl
      · rw [if_neg h9, if_neg h9]; simp
    | some q' =>
      have h9 : ¬ r.1 = 9 := fun h9 => by
        have e3 : gc r = 3 := by show gpcls (r.1 : Int) = 3; rw [h9]; exact cls_9
        rw [e3, nx_3] at hn
        cases hn
      simp only []
      rw [if_neg h9, po_gr L q' c (f ++ [r]), List.take_succ_cons, List.drop_succ_cons, List.append_assoc]; simp
/-- What must hold within a letter. -/
def Inv (q : Int) (f : List (Nat × Nat)) : Prop := St q ∧ (q = 7 → Nrm f ∧ lcR a f = 0)
theorem inv_one (ha : a = 1 ∨ a = 2) (r : Nat × Nat) : Inv a (gc r) [r] := by
  refine ⟨⟨(gc_cl r).1, by have := (gc_cl r).2; omega⟩, fun h => ⟨nrm_one r (.inr (.inr (.inr h))), ?_⟩⟩
  rw [one_lc a ha r (.inr (.inr (.inr h))), cel_zero a r (.inr (.inr h))]
theorem inv_step (ha : a = 1 ∨ a = 2) {q q' : Int} {f : List (Nat × Nat)} {r : Nat × Nat} (h : Inv a q f) (hn : nx q (gc r) = some q') : Inv a q' (f ++ [r]) := by
  refine ⟨nx_st h.1 (gc_cl r) hn, fun h7 => ?_⟩
  obtain ⟨e1, e2⟩ := nx_7 h.1 (gc_cl r) hn h7
  obtain ⟨k1, k2⟩ := h.2 e1
  exact ⟨k1.app r, by rw [nrm_zero k1 a ha r (.inr (.inr e2)), k2]⟩
theorem gc_32 : gc (32, 1) = 0 := cls_32
theorem blank_one (ha : a = 1 ∨ a = 2) : Nrm [(32, 1)] ∧ lcR a [(32, 1)] = 1 := ⟨nrm_one (32, 1) (.inl gc_32), by rw [one_lc a ha (32, 1) (.inl gc_32)]; exact cel_32 a⟩
/-- Blanks behind a letter. -/
theorem blanks (ha : a = 1 ∨ a = 2) (Z : List (Nat × Nat)) : ∀ (n : Nat) (q c : Int) (f : List (Nat × Nat)), Inv a q f → ∃ g, Nrm g ∧ rn a t q c f (List.replicate (n + 1) (32, 1) ++ Z) = rn a t 0 (bhR a t c f + n) g Z ∧ bhR a t (bhR a t c f + n) g = bhR a t c f + n + 1
  | 0, q, c, f, h => by
    obtain ⟨b1, b2⟩ := blank_one a ha
    show ∃ g, Nrm g ∧ rn a t q c f ((32, 1) :: Z) = _ ∧ _
    rw [rn_cons, gc_32]
    cases hn : nx q 0 with
    | none =>
      refine ⟨[(32, 1)], b1, by simp, ?_⟩
      rw [nrm_bh b1, b2]
    | some q' =>
      obtain ⟨rfl, rfl⟩ := nx_0 h.1 hn
      obtain ⟨k1, k2⟩ := h.2 rfl
      have e : bhR a t c f = c := by rw [nrm_bh k1, k2]; omega
      refine ⟨f ++ [(32, 1)], k1.app _, by rw [e]; simp, ?_⟩
      rw [nrm_bh (k1.app _), nrm_app k1, k2, e]
      show c + (0 : Nat) + max 0 (rcel a 32) = _
      rw [cel_32]
      omega
  | n + 1, q, c, f, h => by
    obtain ⟨b1, b2⟩ := blank_one a ha
    obtain ⟨g, g1, g2, g3⟩ := blanks ha ((32, 1) :: Z) n q c f h
    refine ⟨[(32, 1)], b1, ?_, ?_⟩
    · have e : List.replicate (n + 1 + 1) ((32 : Nat), (1 : Nat)) ++ Z = List.replicate (n + 1) (32, 1) ++ ((32, 1) :: Z) := by
        rw [List.replicate_succ' (n := n + 1), List.append_assoc]; rfl
      rw [e, g2, rn_cons, gc_32, nx_045 (.inl rfl) ⟨by decide, by decide⟩]
      simp only [show ¬ ((0 : Int) = 4 ∨ (0 : Int) = 5 ∨ (0 : Int) = 6) by decide, if_false]
      rw [g3, show bhR a t c f + (n : Int) + 1 = bhR a t c f + ((n + 1 : Nat) : Int) by omega]
    · rw [nrm_bh b1, b2]
end
end Go.Proofs.YtlfegdpclappiaaDoor
