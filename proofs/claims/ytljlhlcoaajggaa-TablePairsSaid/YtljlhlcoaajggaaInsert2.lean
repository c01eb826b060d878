/- The contract of slices.Insert at ranges, one laid in ahead of others. -/
import Derived.Test.YtljlhlcoaajggaaInsert
namespace Go.Proofs.Ytljlhlcoaajggaa
open Go.RowKit Go.Lib

theorem shape_row {w : World} {b : Nat} {cs : Array Value} {t : TypeId} (h : w.heap[b]? = some (.cells cs t (0, 0))) : w.shape? b = some (t, cs.size) := by
  unfold World.shape?; rw [h]
theorem overlaps_no (w : World) (a b : Addr) (la ca lb cb : Nat) (ca' cb' : Array Value) (hne : a.block ≠ b.block) (ha : w.heap[a.block]? = some (.cells ca' 36 (0, 0))) (hb : w.heap[b.block]? = some (.cells cb' 36 (0, 0))) (hk : cb'.size ≠ 0) (ho : a = ⟨a.block, a.off, none⟩) :
    (callFunc 64 #[.slice (some a) la ca, .slice (some b) lb cb]).run Try.prog w = .ok (.value (.bool false)) w := by
  rw [run_callFunc_extern Try.func64 (by kernel_rfl) (by kernel_rfl) (by kernel_rfl) (e := Extern.SlicesOverlaps.overlaps #[25, 25] #[4]) (by kernel_rfl),
      Lib.run_overlaps_apart w 25 4 36 Try.underlying25 3 Try.sizeOf36 a b la ca lb cb hne 36 36 _ _ (shape_row ha) (shape_row hb) hk (by rw [ho]; exact frozen_of_row w _ _ ca' 36 ha) (frozen_of_row w _ _ ca' 36 ha)]
  rfl

set_option maxHeartbeats 2000000 in
set_option maxRecDepth 100000 in
theorem insert_shift (B vb q n cap i : Nat) (A : List Tr) (g : Tr) (w : World) (h : w.ownsRow B 36 3 (.slice (some ⟨q, 0, none⟩) n cap) n (rks A)) (hA : n = A.length) (hl : n ≤ 100000000) (hi : i < n) (hroom : n + 1 ≤ cap) (hq : vb ≠ q)
    (hv : w.heap[vb]? = some (.cells (rkc (rkT g)).toArray 36 (0, 0))) :
    Calls Try.prog 38 #[.slice (some ⟨q, 0, none⟩) n cap, .int .i64 (i : Int), .slice (some ⟨vb, 0, none⟩) 1 1] w fun e w' => ∃ v', e = .returned v' ∧ w'.ownsRow B 36 3 v' (n + 1) (rks (A.take i ++ g :: A.drop i)) ∧ Below B w w' := by
  obtain ⟨_, hcm, cur, hcur, hcs⟩ := own_cap h
  obtain ⟨ys, hys, hm⟩ := own_more h hroom
  have hcl : ∀ j, j < n + 1 → True := fun _ _ => trivial
  have hxl : (rks A ++ ys).length = (n + 1) * 3 := by rw [List.length_append, rks_len, hys]; omega
  have hcell : ∀ j, j < (n + 1) * 3 → w.cell? ⟨q, j, none⟩ = (rks A ++ ys)[j]? := fun j hj => hm.cellAt j hj
  have hov : ∀ lb cb, (callFunc 64 #[.slice (some ⟨vb, 0, none⟩) 1 1, .slice (some ⟨q, (i + 1) * 3, none⟩) lb cb]).run Try.prog w = .ok (.value (.bool false)) w := fun lb cb =>
    overlaps_no w ⟨vb, 0, none⟩ ⟨q, (i + 1) * 3, none⟩ 1 1 lb cb _ cur hq hv hcur (by rw [hcs]; omega) rfl
  have hcp1 : ∀ ty dc sc, (Builtin.copy_ #[25, 25] ty #[.slice (some ⟨q, (i + 1) * 3, none⟩) (n - i) dc, .slice (some ⟨q, i * 3, none⟩) (n + 1 - i) sc]).run Try.prog w.drew = .ok (goInt (Nat.min (n + 1 - i) (n - i))) (w.drew.setCells q ((i + 1) * 3) (rks (A.drop i))) := fun ty dc sc =>
    run_copy3 w.drew _ _ ty 36 q ((i + 1) * 3) (n - i) dc ⟨q, i * 3, none⟩ (n + 1 - i) sc (rks (A.drop i)) Try.underlying25 size36 (by rw [rks_len, List.length_drop, ← hA]; simp only [Nat.min_def]; split <;> omega)
      (fun j u hj => by
        have hjl := (List.getElem?_eq_some_iff.1 hj).1
        rw [rks_len, List.length_drop, ← hA] at hjl
        rw [Addr.add_lit]
        show w.cell? ⟨q, i * 3 + j, none⟩ = _
        rw [hcell _ (by omega), List.getElem?_append_left (by rw [rks_len]; omega), ← List.getElem?_drop, rks_drop A i (by omega)]
        exact hj)
      (fun j hj => by
        rw [rks_len, List.length_drop, ← hA] at hj
        show (w.cell? ⟨q, (i + 1) * 3 + j, none⟩).isSome = true
        rw [hcell _ (by omega), List.getElem?_eq_getElem (by omega)]
        rfl)
      (fun j hj => hm.frozenAt _) (rks_one _)
  obtain ⟨o1, b1⟩ := own_sets (rks (A.drop i)) ((i + 1) * 3) _ w.drew hm.drew
  obtain ⟨o2, b2⟩ := own_sets (rkc (rkT g)) (i * 3) _ _ o1
  obtain ⟨W1, hW1⟩ : ∃ W1, W1 = w.drew.setCells q ((i + 1) * 3) (rks (A.drop i)) := ⟨_, rfl⟩
  rw [← hW1] at hcp1 o1 o2 b1 b2
  have hl1 : (lset (rks A ++ ys) ((i + 1) * 3) (rks (A.drop i))).length = (n + 1) * 3 := o1.1
  have hcp2 : ∀ ty dc, (Builtin.copy_ #[25, 25] ty #[.slice (some ⟨q, i * 3, none⟩) (n + 1 - i) dc, .slice (some ⟨vb, 0, none⟩) 1 1]).run Try.prog W1 = .ok (goInt (Nat.min 1 (n + 1 - i))) (W1.setCells q (i * 3) (rkc (rkT g))) := fun ty dc =>
    run_copy3 W1 _ _ ty 36 q (i * 3) (n + 1 - i) dc ⟨vb, 0, none⟩ 1 1 (rkc (rkT g)) Try.underlying25 size36 (by simp only [Nat.min_def]; rw [if_pos (by omega)]; rfl)
      (fun j u hj => by
        rw [Addr.add_lit, hW1, World.cell?_setCells_out q _ _ _ _ (fun h _ => absurd h hq)]
        show w.cell? ⟨vb, 0 + j, none⟩ = _
        rw [cell_of_row w vb _ _ 36 (0, 0) hv, Nat.zero_add]
        simpa using hj)
      (fun j hj => by
        have hj' : j < 3 := hj
        rw [o1.cellAt _ (by omega), List.getElem?_eq_getElem (by omega)]
        rfl)
      (fun j hj => o1.frozenAt _) (rkc_one _)
  have HO2 := hid o2
  have HB := hid (show Below B w (W1.setCells q (i * 3) (rkc (rkT g))) from (show Below B w w.drew from ⟨rfl, rfl, rfl, Nat.le_refl _, fun _ _ => rfl⟩).trans (b1.trans b2))
  have HR := hid (shift_row A g i ys (by omega) hys)
  have hm1 : Nat.min 1 (n + 1 - i) = 1 := by simp only [Nat.min_def]; rw [if_pos (by omega)]
  have e1 : IntKind.i64.wrap ((i : Int) + 1) = ((i + 1 : Nat) : Int) := by rw [IntKind.wrap_i64]; omega
  have e2 : IntKind.i64.wrap ((n : Int) + 1) = ((n + 1 : Nat) : Int) := by rw [IntKind.wrap_i64]; omega
  have n1 : ((i : Int) == (n : Int)) = false := by simp; omega
  have n2 : ¬ ((cap : Int) < ((n + 1 : Nat) : Int)) := by omega
  have hc63 : cap ≤ 9223372036854775807 := by unfold maxLen at hcm; omega
  have z1 : (0 : Int) ≤ (i : Int) + 1 := by omega
  have z2 : i ≤ n := by omega
  have z3 : (i : Int) ≤ (n : Int) + 1 := by omega
  have mixed : Try.prog.follows .mixedOrders = true := by kernel_rfl
  have d1 : ((i + 1 : Nat) : Int).toNat = i + 1 := by omega
  have hb2 : ¬ (cap = i + 1) := by omega
  have hb4 : ¬ (cap = i) := by omega
  have hin : i ≤ n + 1 := by omega
  clear o1 o2 b1 b2 hl1 hcell hxl hm hcl h hv hcur hcs hcm hW1 hA hys hl
  go_enter Try.func38, Try.ntmps38
  go_wp2_with (simp only [hov])
  go_region_law_o (refine step_copy_runI rfl _ _ 25 25 rfl _ _ (by simp [Act.eval, Act.put]) (by simp [Act.eval, Act.put]) (hcp1 _ _ _) ?_)
  go_wp2_with (at_builtin; refine wpList_copy_runI _ rfl _ _ 25 25 rfl _ _ rfl rfl (hcp2 _ _) ?_)
  go_ret
  exact ⟨_, rfl, by rw [← HR.out]; exact HO2.out, HB.out⟩

theorem zc_len (k : Nat) : (Builtin.zeroCells (Value.agg #[.int .i32 0, .int .i32 0, .int .i64 0]).cells k).size = k * 3 := by
  simp [Builtin.zeroCells, Value.cells]
set_option maxHeartbeats 2000000 in
set_option maxRecDepth 100000 in
theorem insert_grow (B vb q n cap i : Nat) (A : List Tr) (g : Tr) (w : World) (h : w.ownsRow B 36 3 (.slice (some ⟨q, 0, none⟩) n cap) n (rks A)) (hB : B ≤ w.heap.size) (hA : n = A.length) (hl : n ≤ 100000000) (hi : i < n) (hroom : cap < n + 1)
    (hv : w.heap[vb]? = some (.cells (rkc (rkT g)).toArray 36 (0, 0))) :
    Calls Try.prog 38 #[.slice (some ⟨q, 0, none⟩) n cap, .int .i64 (i : Int), .slice (some ⟨vb, 0, none⟩) 1 1] w fun e w' => ∃ v', e = .returned v' ∧ w'.ownsRow B 36 3 v' (n + 1) (rks (A.take i ++ g :: A.drop i)) ∧ Below B w w' := by
  obtain ⟨i0, hi0, hz0, hzs, hzb⟩ := info_parts Try.info36
  obtain ⟨hnc, hcm, cur, hcur, hcs⟩ := own_cap h
  have hqw : q < w.heap.size := (h.lt q rfl).2
  have hvw : vb < w.heap.size := (Array.getElem?_eq_some_iff.1 hv).1
  have hold : (Builtin.firstCells i0.size i (.slice (some ⟨q, 0, none⟩) i cap)).run Try.prog w.drew = .ok (rks (A.take i)).toArray w.drew := by
    rw [hzs]
    exact run_firstCells_some w.drew 3 i ⟨q, 0, none⟩ i cap (rks (A.take i)) (by rw [rks_len, List.length_take]; omega) (fun j u hj => by
      have hjl := (List.getElem?_eq_some_iff.1 hj).1
      rw [rks_len, List.length_take] at hjl
      rw [← rks_take, List.getElem?_take] at hj
      split at hj
      · rw [Addr.add_lit, Nat.zero_add]
        show w.cell? ⟨q, j, none⟩ = _
        rw [h.cellAt j (by omega)]
        exact hj
      · cases hj)
  obtain ⟨k, hk⟩ : ∃ k, k = n + 1 - i := ⟨_, rfl⟩
  have hik : i + k = n + 1 := by omega
  obtain ⟨G, hG⟩ : ∃ G, G = grownCap w (n + 1) cap 36 := ⟨_, rfl⟩
  have hrz := fun ty => Lib.run_append_grow_zeros w 25 3 ty 36 i0 _ .i64 .i64 Try.underlying25 Try.underlying3 hi0 hz0 (some ⟨q, 0, none⟩) i cap (rks (A.take i)) hold k (by omega) (by omega) (by omega) (by omega) (by rw [hzb]; omega) (by rw [hzb, hik]; exact growslice_fits hroom (by omega))
  rw [hik] at hrz
  rw [← hG] at hrz
  have hG1 : n + 1 ≤ G := by rw [hG]; exact grownCap_ge w _ _ _
  have hG2 : G ≤ maxLen := by rw [hG]; exact grownCap_le_maxLen w _ _ _ (by unfold maxLen; omega)
  obtain ⟨Z, hZ⟩ : ∃ Z, Z = Builtin.zeroCells (Value.agg #[.int .i32 0, .int .i32 0, .int .i64 0]).cells k := ⟨_, rfl⟩
  obtain ⟨Y, hY⟩ : ∃ Y, Y = Builtin.zeroCells (Value.agg #[.int .i32 0, .int .i32 0, .int .i64 0]).cells (G - (n + 1)) := ⟨_, rfl⟩
  have hZl : Z.toList.length = k * 3 := by rw [hZ, Array.length_toList, zc_len]
  have hYl : Y.toList.length = (G - (n + 1)) * 3 := by rw [hY, Array.length_toList, zc_len]
  rw [← hZ, ← hY] at hrz
  have hAl : (rks (A.take i)).length = i * 3 := by rw [rks_len, List.length_take]; omega
  obtain ⟨H, hH⟩ : ∃ H, H = w.heap.size := ⟨_, rfl⟩
  have o0 : (w.drew.alloc (.cells ((rks (A.take i)).toArray ++ Z ++ Y) 36)).ownsRow B 36 3 (.slice (some ⟨H, 0, none⟩) (n + 1) G) (n + 1) (rks (A.take i) ++ Z.toList) := by
    refine ⟨by rw [List.length_append, hAl, hZl]; omega, .inr ⟨H, G, _, rfl, by omega, by rw [hH]; exact heap_alloc_new w.drew _, hG1, hG2, ?_, ?_⟩⟩
    · rw [← Array.length_toList, Array.toList_append, Array.toList_append, List.length_append, List.length_append, hZl, hYl]
      simp only []
      rw [hAl]; omega
    · rw [Array.toList_append, Array.toList_append]
      exact List.take_left' (by rw [List.length_append]; simp only []; rw [hAl, hZl]; omega)
  have hold2 : ∀ b j, b < w.heap.size → (w.drew.alloc (.cells ((rks (A.take i)).toArray ++ Z ++ Y) 36)).cell? ⟨b, j, none⟩ = w.cell? ⟨b, j, none⟩ := fun b j hb => World.cell?_alloc_past (w := w.drew) _ b j hb
  have b0 : Below B w (w.drew.alloc (.cells ((rks (A.take i)).toArray ++ Z ++ Y) 36)) := (show Below B w w.drew from ⟨rfl, rfl, rfl, Nat.le_refl _, fun _ _ => rfl⟩).trans ((Below.refl B w.drew).alloc (show B ≤ w.drew.heap.size from hB) _)
  have hvH : vb ≠ H := by omega
  have hqH : q ≠ H := by omega
  rw [← hH] at hrz
  obtain ⟨W0, hW0⟩ : ∃ W0, W0 = (w.drew.alloc (.cells ((rks (A.take i)).toArray ++ Z ++ Y) 36)) := ⟨_, rfl⟩
  rw [← hW0] at hrz o0 hold2 b0
  obtain ⟨o1, b1⟩ := own_sets (rkc (rkT g)) (i * 3) _ W0 o0
  have hcp1 : ∀ ty dc, (Builtin.copy_ #[25, 25] ty #[.slice (some ⟨H, i * 3, none⟩) (n + 1 - i) dc, .slice (some ⟨vb, 0, none⟩) 1 1]).run Try.prog W0 = .ok (goInt (Nat.min 1 (n + 1 - i))) (W0.setCells H (i * 3) (rkc (rkT g))) := fun ty dc =>
    run_copy3 W0 _ _ ty 36 H (i * 3) (n + 1 - i) dc ⟨vb, 0, none⟩ 1 1 (rkc (rkT g)) Try.underlying25 size36 (by simp only [Nat.min_def]; rw [if_pos (by omega)]; rfl)
      (fun j u hj => by
        rw [Addr.add_lit, hold2 vb _ hvw]
        rw [cell_of_row w vb _ _ 36 (0, 0) hv, Nat.zero_add]
        simpa using hj)
      (fun j hj => by
        have hj' : j < 3 := hj
        rw [o0.cellAt _ (by omega), List.getElem?_eq_getElem (by rw [List.length_append, hAl, hZl]; omega)]
        rfl)
      (fun j hj => o0.frozenAt _) (rkc_one _)
  obtain ⟨W1, hW1⟩ : ∃ W1, W1 = W0.setCells H (i * 3) (rkc (rkT g)) := ⟨_, rfl⟩
  have hq1 : ∀ j, W1.cell? ⟨q, j, none⟩ = w.cell? ⟨q, j, none⟩ := fun j => by
    rw [hW1, World.cell?_setCells_out H _ _ _ _ (fun h _ => absurd h hqH)]
    exact hold2 q j hqw
  rw [← hW1] at hcp1 o1 b1
  obtain ⟨o2, b2⟩ := own_sets (rks (A.drop i)) ((i + 1) * 3) _ W1.drew o1.drew
  have hl1 := o1.1
  have hcp2 : ∀ ty dc sc, (Builtin.copy_ #[25, 25] ty #[.slice (some ⟨H, (i + 1) * 3, none⟩) (n - i) dc, .slice (some ⟨q, i * 3, none⟩) (n - i) sc]).run Try.prog W1.drew = .ok (goInt (Nat.min (n - i) (n - i))) (W1.drew.setCells H ((i + 1) * 3) (rks (A.drop i))) := fun ty dc sc =>
    run_copy3 W1.drew _ _ ty 36 H ((i + 1) * 3) (n - i) dc ⟨q, i * 3, none⟩ (n - i) sc (rks (A.drop i)) Try.underlying25 size36 (by rw [rks_len, List.length_drop, ← hA]; simp only [Nat.min_def]; split <;> omega)
      (fun j u hj => by
        have hjl := (List.getElem?_eq_some_iff.1 hj).1
        rw [rks_len, List.length_drop, ← hA] at hjl
        rw [Addr.add_lit]
        show W1.cell? ⟨q, i * 3 + j, none⟩ = _
        rw [hq1, h.cellAt _ (by omega), ← List.getElem?_drop, rks_drop A i (by omega)]
        exact hj)
      (fun j hj => by
        rw [rks_len, List.length_drop, ← hA] at hj
        show (W1.cell? ⟨H, (i + 1) * 3 + j, none⟩).isSome = true
        rw [o1.cellAt _ (by omega), List.getElem?_eq_getElem (by omega)]
        rfl)
      (fun j hj => o1.frozenAt _) (rks_one _)
  have HO2 := hid o2
  have HB := hid (show Below B w (W1.drew.setCells H ((i + 1) * 3) (rks (A.drop i))) from (b0.trans b1).trans ((show Below B W1 W1.drew from ⟨rfl, rfl, rfl, Nat.le_refl _, fun _ _ => rfl⟩).trans b2))
  have HR := hid (grow_row A g i Z.toList (by omega) (by rw [hZl]; omega))
  have hkk : (n : Int) + 1 - (i : Int) = (k : Int) := by omega
  rw [← hkk] at hrz
  have e1 : IntKind.i64.wrap ((i : Int) + 1) = ((i + 1 : Nat) : Int) := by rw [IntKind.wrap_i64]; omega
  have e2 : IntKind.i64.wrap ((n : Int) + 1) = ((n + 1 : Nat) : Int) := by rw [IntKind.wrap_i64]; omega
  have e3 : IntKind.i64.wrap ((n : Int) + 1 - (i : Int)) = (n : Int) + 1 - (i : Int) := by rw [IntKind.wrap_i64]; omega
  have n1 : ((i : Int) == (n : Int)) = false := by simp; omega
  have n2 : ((cap : Int) < (n : Int) + 1) := by omega
  have hG63 : G ≤ 9223372036854775807 := by unfold maxLen at hG2; omega
  have z1 : (0 : Int) ≤ (i : Int) + 1 := by omega
  have z2 : i ≤ n := by omega
  have z3 : (i : Int) ≤ (n : Int) + 1 := by omega
  have z4 : (i : Int) ≤ (cap : Int) := by omega
  have mixed : Try.prog.follows .mixedOrders = true := by kernel_rfl
  have d1 : ((i + 1 : Nat) : Int).toNat = i + 1 := by omega
  have hb2 : ¬ (G = i + 1) := by omega
  have hb4 : ¬ (G = i) := by omega
  have hb5 : ¬ (cap = i) := by omega
  have hin : i ≤ n + 1 := by omega
  clear o0 o1 o2 b0 b1 b2 hl1 hq1 hold2 h hv hcur hcs hcm hW1 hW0 hA hZl hYl hAl hZ hY hG hik hold hkk hk hH hqw hvw hnc hG2
  go_enter Try.func38, Try.ntmps38
  go_wp2_with (first
    | (at_builtin; refine Lib.wpList_append_run _ rfl _ _ _ _ rfl _ _ rfl rfl _ _ (hrz _) ?_)
    | (at_builtin; refine wpList_copy_runI _ rfl _ _ 25 25 rfl _ _ rfl rfl (hcp1 _ _) ?_))
  go_region_law_o (refine step_copy_runI rfl _ _ 25 25 rfl _ _ (by simp [Act.eval, Act.put]) (by simp [Act.eval, Act.put]) (hcp2 _ _ _) ?_)
  go_wp2
  go_ret
  exact ⟨_, rfl, by rw [← HR.out]; exact HO2.out, HB.out⟩

theorem insert_any (B vb i : Nat) (A : List Tr) (g : Tr) (v : Value) (w : World) (h : w.ownsRow B 36 3 v A.length (rks A)) (hB : B ≤ w.heap.size) (hl : A.length ≤ 100000000) (hi : i ≤ A.length) (hq : v.ownBlock ≠ some vb)
    (hv : w.heap[vb]? = some (.cells (rkc (rkT g)).toArray 36 (0, 0))) :
    Calls Try.prog 38 #[v, .int .i64 (i : Int), .slice (some ⟨vb, 0, none⟩) 1 1] w fun e w' => ∃ v', e = .returned v' ∧ w'.ownsRow B 36 3 v' (A.length + 1) (rks (A.take i ++ g :: A.drop i)) ∧ Below B w w' := by
  by_cases hn : i = A.length
  · subst hn
    rw [List.take_of_length_le (Nat.le_refl _), List.drop_of_length_le (Nat.le_refl _)]
    exact insert_end B vb A g v w h hB hl hv
  · obtain ⟨q, cap, rfl, _, _⟩ := h.form (by omega)
    have hq' : vb ≠ q := fun e => hq (by rw [e]; rfl)
    by_cases hc : A.length + 1 ≤ cap
    · exact insert_shift B vb q _ cap i A g w h rfl hl (by omega) hc hq' hv
    · exact insert_grow B vb q _ cap i A g w h hB rfl hl (by omega) (by omega) hv
end Go.Proofs.Ytljlhlcoaajggaa
