/- Rows of ranges: many cells written one behind the other; copies of elements of three cells. -/
import Derived.Shelf.Spec.SlicesInsertGrow
import Derived.Test.YtohhokjlgihbgaaGreatDoorFBare
namespace Go.Proofs.YtohhokjlgihbgaaGreatDoor
open Go.RowKit Go.Lib

theorem run_copy3 (w : World) (dT sT ty elem : TypeId) (b o dLen dCap : Nat) (a : Addr) (sLen sCap : Nat) (cs : List Value)
    (hu : Tryz.prog.underlying dT = some (.slice elem)) (hs : (Tryz.prog.info? elem).map (·.size) = some 3) (hn : cs.length = Nat.min sLen dLen * 3)
    (hsrc : ∀ j v, cs[j]? = some v → w.cell? (a.add j) = some v) (hc : ∀ j, j < cs.length → (w.cell? ⟨b, o + j, none⟩).isSome = true) (hf : ∀ j, j < cs.length → w.frozen? ⟨b, o + j, none⟩ = false) (h1 : ∀ v ∈ cs, v.oneCell' = true) :
    (Builtin.copy_ #[dT, sT] ty #[.slice (some ⟨b, o, none⟩) dLen dCap, .slice (some a) sLen sCap]).run Tryz.prog w = .ok (goInt (Nat.min sLen dLen)) (w.setCells b o cs) := by
  have hl := run_loadCells_list (P := Tryz.prog) w a cs hsrc
  have hst := run_storeCells_cells (P := Tryz.prog) b o cs 0 w (by simpa using hc) (by simpa using hf) h1
  cases hq : Tryz.prog.info? elem with
  | none => simp [hq] at hs
  | some i =>
    have hi : i.size = 3 := by simpa [hq] using hs
    rw [hn] at hl
    simp [Builtin.copy_, run_underlying hu, Builtin.lenOf, Builtin.firstCells, sizeOf, typeInfo, hq, hi, hl, hst]

/-- Values written one behind the other. -/
def lset : List Value → Nat → List Value → List Value
  | xs, _, [] => xs
  | xs, o, v :: r => lset (xs.set o v) (o + 1) r
theorem lset_mid : ∀ (vs p q t : List Value), q.length = vs.length → lset (p ++ q ++ t) p.length vs = p ++ vs ++ t
  | [], p, q, t, h => by
    have : q = [] := List.length_eq_zero_iff.1 h
    subst this
    rfl
  | v :: r, p, q, t, h => by
    cases q with
    | nil => simp at h
    | cons x q =>
      have hs : (p ++ x :: q ++ t).set p.length v = (p ++ [v]) ++ q ++ t := by
        rw [List.append_assoc, List.set_append_right _ _ (Nat.le_refl _)]
        simp
      show lset ((p ++ x :: q ++ t).set p.length v) (p.length + 1) r = _
      rw [hs]
      have := lset_mid r (p ++ [v]) q t (by simpa using h)
      rw [List.length_append] at this
      simpa using this
/-- What lies below B stays, and so does all that lies there but one block. -/
structure Blw (B : Nat) (o : Option Nat) (w w' : World) : Prop where
  b : Below B w w'
  far : ∀ x, x < w.heap.size → o ≠ some x → w'.heap[x]? = w.heap[x]?
theorem Blw.refl (B : Nat) (o : Option Nat) (w : World) : Blw B o w w := ⟨Below.refl B w, fun _ _ _ => rfl⟩
theorem Blw.trans {B : Nat} {o : Option Nat} {u v w : World} (h : Blw B o u v) (k : Blw B o v w) : Blw B o u w :=
  ⟨h.b.trans k.b, fun x hx hn => (k.far x (Nat.lt_of_lt_of_le hx h.b.size) hn).trans (h.far x hx hn)⟩
theorem Blw.drew (B : Nat) (o : Option Nat) (w : World) : Blw B o w w.drew := ⟨⟨rfl, rfl, rfl, Nat.le_refl _, fun _ _ => rfl⟩, fun _ _ _ => rfl⟩
theorem Blw.drewN (B : Nat) (o : Option Nat) (w : World) (k : Nat) : Blw B o w (w.drewN k) := ⟨⟨rfl, rfl, rfl, Nat.le_refl _, fun _ _ => rfl⟩, fun _ _ _ => rfl⟩
theorem Blw.setCell {B : Nat} {g : Nat} (w : World) (j : Nat) (hg : B ≤ g) (v : Value) : Blw B (some g) w (w.setCell ⟨g, j, none⟩ v) :=
  ⟨(Below.refl B w).setCell (p := ⟨g, j, none⟩) hg v, fun x _ hn => Below.heap_setCell w ⟨g, j, none⟩ v x (fun e => hn (by rw [e]))⟩
theorem Blw.grown {B : Nat} {o : Option Nat} {w w' : World} (gr : w.grownBy w' o) (hB : B ≤ w.heap.size) (hk : ∀ k, o = some k → B ≤ k) : Blw B o w w' :=
  ⟨(Below.refl B w).grown gr hB hk, fun x hx hn => gr.block x hx (fun e => hn e.symm)⟩
theorem Blw.alloc {B : Nat} (o : Option Nat) (w : World) (hB : B ≤ w.heap.size) (c : Obj) : Blw B o w (w.alloc c) :=
  ⟨(Below.refl B w).alloc hB c, fun x hx _ => heap_alloc_old w c x hx⟩
/-- What is done to a newer block. -/
theorem Blw.newer {B : Nat} {o : Option Nat} {u v w : World} (h : Blw B o u v) (H : Nat) (hH : u.heap.size ≤ H) (k : Blw B (some H) v w) : Blw B o u w :=
  ⟨h.b.trans k.b, fun x hx hn => (k.far x (Nat.lt_of_lt_of_le hx h.b.size) (fun e => by injection e with e; omega)).trans (h.far x hx hn)⟩
theorem own_sets {B g n cap : Nat} : ∀ (vs : List Value) (o : Nat) (xs : List Value) (w : World), w.ownsRow B 86 3 (.slice (some ⟨g, 0, none⟩) n cap) n xs →
    (w.setCells g o vs).ownsRow B 86 3 (.slice (some ⟨g, 0, none⟩) n cap) n (lset xs o vs) ∧ Blw B (some g) w (w.setCells g o vs)
  | [], _, _, w, h => ⟨h, Blw.refl _ _ _⟩
  | v :: r, o, xs, w, h => by
    have h1 := (h.stored o v).1
    obtain ⟨h2, h3⟩ := own_sets r (o + 1) (xs.set o v) _ h1
    exact ⟨h2, (Blw.setCell w o (h.lt g rfl).1 v).trans h3⟩
/-- A row with room is a longer row. -/
theorem own_more {B g n cap : Nat} {xs : List Value} {w : World} (h : w.ownsRow B 86 3 (.slice (some ⟨g, 0, none⟩) n cap) n xs) (hc : n + 1 ≤ cap) :
    ∃ ys, ys.length = 3 ∧ w.ownsRow B 86 3 (.slice (some ⟨g, 0, none⟩) (n + 1) cap) (n + 1) (xs ++ ys) := by
  rcases h.2 with ⟨h', _⟩ | ⟨g', cap', cur, h', hb, hg, hnc, hcm, hcs, ht⟩
  · simp at h'
  · simp only [Value.slice.injEq, Option.some.injEq, Addr.mk.injEq, and_true, true_and] at h'
    obtain ⟨rfl, rfl⟩ := h'
    have hl : (cur.toList.drop (n * 3)).length = cap * 3 - n * 3 := by rw [List.length_drop, Array.length_toList, hcs]
    have e : cur.toList.take ((n + 1) * 3) = xs ++ (cur.toList.drop (n * 3)).take 3 := by
      rw [show (n + 1) * 3 = n * 3 + 3 by omega, List.take_add, ht]
    refine ⟨(cur.toList.drop (n * 3)).take 3, by rw [List.length_take, hl]; omega, ?_, .inr ⟨g, cap, cur, rfl, hb, hg, hc, hcm, hcs, e⟩⟩
    rw [← e, List.length_take, Array.length_toList, hcs]
    omega
theorem own_cap {B g n cap : Nat} {xs : List Value} {w : World} (h : w.ownsRow B 86 3 (.slice (some ⟨g, 0, none⟩) n cap) n xs) : n ≤ cap ∧ cap ≤ maxLen ∧ ∃ cur : Array Value, w.heap[g]? = some (.cells cur 86 (0, 0)) ∧ cur.size = cap * 3 := by
  rcases h.2 with ⟨h', _⟩ | ⟨g', cap', cur, h', hb, hg, hnc, hcm, hcs, ht⟩
  · simp at h'
  · simp only [Value.slice.injEq, Option.some.injEq, Addr.mk.injEq, and_true, true_and] at h'
    obtain ⟨rfl, rfl⟩ := h'
    exact ⟨hnc, hcm, cur, hg, hcs⟩
theorem rks_one (l : List Tr) : ∀ v ∈ rks l, v.oneCell' = true := fun v hv => by
  obtain ⟨g, _, hg⟩ := List.mem_flatMap.1 hv
  exact rkc_one _ v hg
theorem rks_take (l : List Tr) (s : Nat) : (rks l).take (s * 3) = rks (l.take s) := by
  conv => lhs; rw [← List.take_append_drop s l, rks_app]
  by_cases h : s ≤ l.length
  · rw [List.take_left' (by rw [rks_len, List.length_take]; omega)]
  · rw [List.drop_of_length_le (by omega)]
    rw [show rks [] = [] from rfl, List.append_nil, List.take_of_length_le (by rw [rks_len, List.length_take]; omega)]
theorem rks_drop (l : List Tr) (s : Nat) (h : s ≤ l.length) : (rks l).drop (s * 3) = rks (l.drop s) := by
  conv => lhs; rw [← List.take_append_drop s l, rks_app]
  rw [List.drop_left' (by rw [rks_len, List.length_take]; omega)]
theorem size36 : (Tryz.prog.info? 86).map (·.size) = some 3 := by kernel_rfl
theorem Tryz.sizeOf86 (w : World) : (sizeOf 86).run Tryz.prog w = .ok 3 w := by kernel_rfl
/-- A shift to the right by one, then one laid in. -/
theorem shift_row (A : List Tr) (g : Tr) (s : Nat) (ys : List Value) (hs : s ≤ A.length) (hy : ys.length = 3) :
    lset (lset (rks A ++ ys) ((s + 1) * 3) (rks (A.drop s))) (s * 3) (rkc (rkT g)) = rks (A.take s ++ g :: A.drop s) := by
  have e1 : ∃ q : List Value, q.length = 3 ∧ ∃ r : List Value, r.length = (rks (A.drop s)).length ∧ rks A ++ ys = rks (A.take s) ++ q ++ r := by
    refine ⟨(rks (A.drop s) ++ ys).take 3, ?_, (rks (A.drop s) ++ ys).drop 3, ?_, ?_⟩
    · rw [List.length_take, List.length_append]; omega
    · rw [List.length_drop, List.length_append]; omega
    · rw [List.append_assoc, List.take_append_drop, ← List.append_assoc, ← rks_app, List.take_append_drop]
  obtain ⟨q, hq, r, hr, e⟩ := e1
  have hl : (rks (A.take s)).length = s * 3 := by rw [rks_len, List.length_take]; omega
  have e2 := lset_mid (rks (A.drop s)) (rks (A.take s) ++ q) r [] hr
  rw [List.append_nil, List.append_nil, List.length_append, hl, hq, show s * 3 + 3 = (s + 1) * 3 by omega] at e2
  rw [e, e2]
  have e3 := lset_mid (rkc (rkT g)) (rks (A.take s)) q (rks (A.drop s)) hq
  rw [hl] at e3
  rw [e3]
  simp [rks]
/-- One laid into zeros, then the rest. -/
theorem grow_row (A : List Tr) (g : Tr) (s : Nat) (zs : List Value) (hs : s ≤ A.length) (hz : zs.length = (A.length + 1 - s) * 3) :
    lset (lset (rks (A.take s) ++ zs) (s * 3) (rkc (rkT g))) ((s + 1) * 3) (rks (A.drop s)) = rks (A.take s ++ g :: A.drop s) := by
  have hl : (rks (A.take s)).length = s * 3 := by rw [rks_len, List.length_take]; omega
  have h3 : (rkc (rkT g)).length = 3 := rfl
  have e1 : zs = zs.take 3 ++ zs.drop 3 := (List.take_append_drop 3 zs).symm
  have e2 := lset_mid (rkc (rkT g)) (rks (A.take s)) (zs.take 3) (zs.drop 3) (by rw [List.length_take, hz, h3]; omega)
  rw [hl, List.append_assoc, ← e1] at e2
  rw [e2]
  have e3 := lset_mid (rks (A.drop s)) (rks (A.take s) ++ rkc (rkT g)) (zs.drop 3) [] (by rw [List.length_drop, hz, rks_len, List.length_drop]; omega)
  rw [List.append_nil, List.append_nil, List.length_append, hl, h3, show s * 3 + 3 = (s + 1) * 3 by omega] at e3
  rw [e3]
  simp [rks]
end Go.Proofs.YtohhokjlgihbgaaGreatDoor
/- The contract of slices.Insert at ranges, one laid in. -/
namespace Go.Proofs.YtohhokjlgihbgaaGreatDoor
open Go.RowKit Go.Lib

set_option maxHeartbeats 1000000 in
set_option maxRecDepth 100000 in
theorem insert_end (B vb : Nat) (A : List Tr) (g : Tr) (v : Value) (w : World) (h : w.ownsRow B 86 3 v A.length (rks A)) (hB : B ≤ w.heap.size) (hl : A.length ≤ 100000000)
    (hv : w.heap[vb]? = some (.cells (rkc (rkT g)).toArray 86 (0, 0))) :
    Calls Tryz.prog 120 #[v, .int .i64 (A.length : Int), .slice (some ⟨vb, 0, none⟩) 1 1] w fun e w' => ∃ v', e = .returned v' ∧ w'.ownsRow B 86 3 v' (A.length + 1) (rks (A ++ [g])) ∧ Blw B v.ownBlock w w' := by
  obtain ⟨i0, hi, hz0, hz1, hz2⟩ := info_parts Tryz.info86
  have HO := hid h
  have hn : ∀ j u, (rkc (rkT g))[j]? = some u → w.cell? ((⟨vb, 0, none⟩ : Addr).add j) = some u := fun j u hj => by
    rw [show (⟨vb, 0, none⟩ : Addr).add j = ⟨vb, j, none⟩ by unfold Addr.add; split <;> simp_all, cell_of_row w vb j _ 86 (0, 0) hv]
    simpa using hj
  have HN := hid hn
  have HR := hid (rks_snoc A g)
  have HLT := hid h.lt
  have hcap : ∃ ao cap, v = .slice ao A.length cap ∧ A.length ≤ cap ∧ (ao = none → A.length = 0 ∧ cap = 0) := by
    rcases h.2 with ⟨rfl, h0⟩ | ⟨q, cap, cur, rfl, _, _, h5, _⟩
    · exact ⟨none, 0, by rw [h0], by omega, fun _ => ⟨h0, rfl⟩⟩
    · exact ⟨_, cap, rfl, h5, fun h => by cases h⟩
  obtain ⟨ao, cap, rfl, hcp, hao⟩ := hcap
  obtain ⟨n, hnn⟩ : ∃ n, n = A.length := ⟨_, rfl⟩
  rw [← hnn] at HO hcp hao hl ⊢
  have hcp' : (n : Int) ≤ (cap : Int) := by omega
  have e0 : ((n : Int) == (n : Int)) = true := by simp
  clear hn h hv hnn
  cases ao with
  | none =>
    obtain ⟨h1, h2⟩ := hao rfl
    subst h1 h2
    clear hao hcp
    go_enter Tryz.func120, Tryz.ntmps120
    go_wp2_with (at_builtin; refine wpList_append_lies _ rfl _ _ 64 rfl B 86 i0 (.agg #[.int .i32 0, .int .i32 0, .int .i64 0]) 3 16 Tryz.underlying64 hi hz0 hz1 hz2 rfl (by decide) _ 0 (rks A) rfl HO.out ⟨vb, 0, none⟩ 1 1 (rkc (rkT g)) rfl rfl HN.out (rkc_one _) (by decide) (by decide) (by decide) hB _ rfl ?_; intro q cap' w1 o1 gr1 hlie hg1)
    go_ret
    exact ⟨_, rfl, by rw [HR.out]; exact o1, Blw.grown gr1 hB (fun k hk => (HLT.out k hk).1)⟩
  | some a =>
    clear hao
    go_enter Tryz.func120, Tryz.ntmps120
    go_wp2_with (at_builtin; refine wpList_append_lies _ rfl _ _ 64 rfl B 86 i0 (.agg #[.int .i32 0, .int .i32 0, .int .i64 0]) 3 16 Tryz.underlying64 hi hz0 hz1 hz2 rfl (by decide) _ n (rks A) rfl HO.out ⟨vb, 0, none⟩ 1 1 (rkc (rkT g)) rfl rfl HN.out (rkc_one _) (by decide) (by unfold maxLen; omega) (by omega) hB _ rfl ?_; intro q cap' w1 o1 gr1 hlie hg1)
    all_goals (go_ret; exact ⟨_, rfl, by rw [HR.out]; exact o1, Blw.grown gr1 hB (fun k hk => (HLT.out k hk).1)⟩)
end Go.Proofs.YtohhokjlgihbgaaGreatDoor
/- The contract of slices.Insert at ranges, one laid in ahead of others. -/
namespace Go.Proofs.YtohhokjlgihbgaaGreatDoor
open Go.RowKit Go.Lib

theorem shape_row {w : World} {b : Nat} {cs : Array Value} {t : TypeId} (h : w.heap[b]? = some (.cells cs t (0, 0))) : w.shape? b = some (t, cs.size) := by
  unfold World.shape?; rw [h]
theorem overlaps_no (w : World) (a b : Addr) (la ca lb cb : Nat) (ca' cb' : Array Value) (hne : a.block ≠ b.block) (ha : w.heap[a.block]? = some (.cells ca' 86 (0, 0))) (hb : w.heap[b.block]? = some (.cells cb' 86 (0, 0))) (hk : cb'.size ≠ 0) (ho : a = ⟨a.block, a.off, none⟩) :
    (callFunc 121 #[.slice (some a) la ca, .slice (some b) lb cb]).run Tryz.prog w = .ok (.value (.bool false)) w := by
  rw [run_callFunc_extern Tryz.func121 (by kernel_rfl) (by kernel_rfl) (by kernel_rfl) (e := Extern.SlicesOverlaps.overlaps #[64, 64] #[4]) (by kernel_rfl),
      Lib.run_overlaps_apart w 64 4 86 Tryz.underlying64 3 Tryz.sizeOf86 a b la ca lb cb hne 86 86 _ _ (shape_row ha) (shape_row hb) hk (by rw [ho]; exact frozen_of_row w _ _ ca' 86 ha) (frozen_of_row w _ _ ca' 86 ha)]
  rfl

set_option maxHeartbeats 2000000 in
set_option maxRecDepth 100000 in
theorem insert_shift (B vb q n cap i : Nat) (A : List Tr) (g : Tr) (w : World) (h : w.ownsRow B 86 3 (.slice (some ⟨q, 0, none⟩) n cap) n (rks A)) (hA : n = A.length) (hl : n ≤ 100000000) (hi : i < n) (hroom : n + 1 ≤ cap) (hq : vb ≠ q)
    (hv : w.heap[vb]? = some (.cells (rkc (rkT g)).toArray 86 (0, 0))) :
    Calls Tryz.prog 120 #[.slice (some ⟨q, 0, none⟩) n cap, .int .i64 (i : Int), .slice (some ⟨vb, 0, none⟩) 1 1] w fun e w' => ∃ v', e = .returned v' ∧ w'.ownsRow B 86 3 v' (n + 1) (rks (A.take i ++ g :: A.drop i)) ∧ Blw B (some q) w w' := by
  obtain ⟨_, hcm, cur, hcur, hcs⟩ := own_cap h
  obtain ⟨ys, hys, hm⟩ := own_more h hroom
  have hcl : ∀ j, j < n + 1 → True := fun _ _ => trivial
  have hxl : (rks A ++ ys).length = (n + 1) * 3 := by rw [List.length_append, rks_len, hys]; omega
  have hcell : ∀ j, j < (n + 1) * 3 → w.cell? ⟨q, j, none⟩ = (rks A ++ ys)[j]? := fun j hj => hm.cellAt j hj
  have hov : ∀ lb cb, (callFunc 121 #[.slice (some ⟨vb, 0, none⟩) 1 1, .slice (some ⟨q, (i + 1) * 3, none⟩) lb cb]).run Tryz.prog w = .ok (.value (.bool false)) w := fun lb cb =>
    overlaps_no w ⟨vb, 0, none⟩ ⟨q, (i + 1) * 3, none⟩ 1 1 lb cb _ cur hq hv hcur (by rw [hcs]; omega) rfl
  have hcp1 : ∀ ty dc sc, (Builtin.copy_ #[64, 64] ty #[.slice (some ⟨q, (i + 1) * 3, none⟩) (n - i) dc, .slice (some ⟨q, i * 3, none⟩) (n + 1 - i) sc]).run Tryz.prog w.drew = .ok (goInt (Nat.min (n + 1 - i) (n - i))) (w.drew.setCells q ((i + 1) * 3) (rks (A.drop i))) := fun ty dc sc =>
    run_copy3 w.drew _ _ ty 86 q ((i + 1) * 3) (n - i) dc ⟨q, i * 3, none⟩ (n + 1 - i) sc (rks (A.drop i)) Tryz.underlying64 size36 (by rw [rks_len, List.length_drop, ← hA]; simp only [Nat.min_def]; split <;> omega)
      (fun j u hj => by
        have hjl := (List.getElem?_eq_some_iff.1 hj).1
        rw [rks_len, List.length_drop, ← hA] at hjl
        rw [Addr.add_lit]
        show w.cell? ⟨q, i * 3 + j, none⟩ = _
        rw [hcell _ (by omega), List.getElem?_append_left (by rw [rks_len]; omega), ← List.getElem?_drop, rks_drop A i (by omega)]
        exact hj)
      (fun j hj => by
        rw [rks_len, List.length_drop, ← hA] at hj
        show (w.cell? ⟨q, (i + 1) * 3 + j, none⟩).isSome = true
        rw [hcell _ (by omega), List.getElem?_eq_getElem (by omega)]
        rfl)
      (fun j hj => hm.frozenAt _) (rks_one _)
  obtain ⟨o1, b1⟩ := own_sets (rks (A.drop i)) ((i + 1) * 3) _ w.drew hm.drew
  obtain ⟨o2, b2⟩ := own_sets (rkc (rkT g)) (i * 3) _ _ o1
  obtain ⟨W1, hW1⟩ : ∃ W1, W1 = w.drew.setCells q ((i + 1) * 3) (rks (A.drop i)) := ⟨_, rfl⟩
  rw [← hW1] at hcp1 o1 o2 b1 b2
  have hl1 : (lset (rks A ++ ys) ((i + 1) * 3) (rks (A.drop i))).length = (n + 1) * 3 := o1.1
  have hcp2 : ∀ ty dc, (Builtin.copy_ #[64, 64] ty #[.slice (some ⟨q, i * 3, none⟩) (n + 1 - i) dc, .slice (some ⟨vb, 0, none⟩) 1 1]).run Tryz.prog W1 = .ok (goInt (Nat.min 1 (n + 1 - i))) (W1.setCells q (i * 3) (rkc (rkT g))) := fun ty dc =>
    run_copy3 W1 _ _ ty 86 q (i * 3) (n + 1 - i) dc ⟨vb, 0, none⟩ 1 1 (rkc (rkT g)) Tryz.underlying64 size36 (by simp only [Nat.min_def]; rw [if_pos (by omega)]; rfl)
      (fun j u hj => by
        rw [Addr.add_lit, hW1, World.cell?_setCells_out q _ _ _ _ (fun h _ => absurd h hq)]
        show w.cell? ⟨vb, 0 + j, none⟩ = _
        rw [cell_of_row w vb _ _ 86 (0, 0) hv, Nat.zero_add]
        simpa using hj)
      (fun j hj => by
        have hj' : j < 3 := hj
        rw [o1.cellAt _ (by omega), List.getElem?_eq_getElem (by omega)]
        rfl)
      (fun j hj => o1.frozenAt _) (rkc_one _)
  have HO2 := hid o2
  have HB := hid (show Blw B (some q) w (W1.setCells q (i * 3) (rkc (rkT g))) from (Blw.drew B (some q) w).trans (b1.trans b2))
  have HR := hid (shift_row A g i ys (by omega) hys)
  have hm1 : Nat.min 1 (n + 1 - i) = 1 := by simp only [Nat.min_def]; rw [if_pos (by omega)]
  have e1 : IntKind.i64.wrap ((i : Int) + 1) = ((i + 1 : Nat) : Int) := by rw [IntKind.wrap_i64]; omega
  have e2 : IntKind.i64.wrap ((n : Int) + 1) = ((n + 1 : Nat) : Int) := by rw [IntKind.wrap_i64]; omega
  have n1 : ((i : Int) == (n : Int)) = false := by simp; omega
  have n2 : ¬ ((cap : Int) < ((n + 1 : Nat) : Int)) := by omega
  have hc63 : cap ≤ 9223372036854775807 := by unfold maxLen at hcm; omega
  have z1 : (0 : Int) ≤ (i : Int) + 1 := by omega
  have z2 : i ≤ n := by omega
  have z3 : (i : Int) ≤ (n : Int) + 1 := by omega
  have mixed : Tryz.prog.follows .mixedOrders = true := by kernel_rfl
  have d1 : ((i + 1 : Nat) : Int).toNat = i + 1 := by omega
  have hb2 : ¬ (cap = i + 1) := by omega
  have hb4 : ¬ (cap = i) := by omega
  have hin : i ≤ n + 1 := by omega
  clear o1 o2 b1 b2 hl1 hcell hxl hm hcl h hv hcur hcs hcm hW1 hA hys hl
  go_enter Tryz.func120, Tryz.ntmps120
  go_wp2_with (simp only [hov])
  go_region_law_o (refine step_copy_runI rfl _ _ 64 64 rfl _ _ (by simp [Act.eval, Act.put]) (by simp [Act.eval, Act.put]) (hcp1 _ _ _) ?_)
  go_wp2_with (at_builtin; refine wpList_copy_runI _ rfl _ _ 64 64 rfl _ _ rfl rfl (hcp2 _ _) ?_)
  go_ret
  exact ⟨_, rfl, by rw [← HR.out]; exact HO2.out, HB.out⟩

theorem zc_len (k : Nat) : (Builtin.zeroCells (Value.agg #[.int .i32 0, .int .i32 0, .int .i64 0]).cells k).size = k * 3 := by
  simp [Builtin.zeroCells, Value.cells]
set_option maxHeartbeats 2000000 in
set_option maxRecDepth 100000 in
theorem insert_grow (B vb q n cap i : Nat) (A : List Tr) (g : Tr) (w : World) (h : w.ownsRow B 86 3 (.slice (some ⟨q, 0, none⟩) n cap) n (rks A)) (hB : B ≤ w.heap.size) (hA : n = A.length) (hl : n ≤ 100000000) (hi : i < n) (hroom : cap < n + 1)
    (hv : w.heap[vb]? = some (.cells (rkc (rkT g)).toArray 86 (0, 0))) :
    Calls Tryz.prog 120 #[.slice (some ⟨q, 0, none⟩) n cap, .int .i64 (i : Int), .slice (some ⟨vb, 0, none⟩) 1 1] w fun e w' => ∃ v', e = .returned v' ∧ w'.ownsRow B 86 3 v' (n + 1) (rks (A.take i ++ g :: A.drop i)) ∧ Blw B (some q) w w' := by
  obtain ⟨i0, hi0, hz0, hzs, hzb⟩ := info_parts Tryz.info86
  obtain ⟨hnc, hcm, cur, hcur, hcs⟩ := own_cap h
  have hqw : q < w.heap.size := (h.lt q rfl).2
  have hvw : vb < w.heap.size := (Array.getElem?_eq_some_iff.1 hv).1
  have hold : (Builtin.firstCells i0.size i (.slice (some ⟨q, 0, none⟩) i cap)).run Tryz.prog w.drew = .ok (rks (A.take i)).toArray w.drew := by
    rw [hzs]
    exact run_firstCells_some w.drew 3 i ⟨q, 0, none⟩ i cap (rks (A.take i)) (by rw [rks_len, List.length_take]; omega) (fun j u hj => by
      have hjl := (List.getElem?_eq_some_iff.1 hj).1
      rw [rks_len, List.length_take] at hjl
      rw [← rks_take, List.getElem?_take] at hj
      split at hj
      · rw [Addr.add_lit, Nat.zero_add]
        show w.cell? ⟨q, j, none⟩ = _
        rw [h.cellAt j (by omega)]
        exact hj
      · cases hj)
  obtain ⟨k, hk⟩ : ∃ k, k = n + 1 - i := ⟨_, rfl⟩
  have hik : i + k = n + 1 := by omega
  obtain ⟨G, hG⟩ : ∃ G, G = grownCap w (n + 1) cap 86 := ⟨_, rfl⟩
  have hrz := fun ty => Lib.run_append_grow_zeros w 64 3 ty 86 i0 _ .i64 .i64 Tryz.underlying64 Tryz.underlying3 hi0 hz0 (some ⟨q, 0, none⟩) i cap (rks (A.take i)) hold k (by omega) (by omega) (by omega) (by omega) (by rw [hzb]; omega) (by rw [hzb, hik]; exact growslice_fits hroom (by omega))
  rw [hik] at hrz
  rw [← hG] at hrz
  have hG1 : n + 1 ≤ G := by rw [hG]; exact grownCap_ge w _ _ _
  have hG2 : G ≤ maxLen := by rw [hG]; exact grownCap_le_maxLen w _ _ _ (by unfold maxLen; omega)
  obtain ⟨Z, hZ⟩ : ∃ Z, Z = Builtin.zeroCells (Value.agg #[.int .i32 0, .int .i32 0, .int .i64 0]).cells k := ⟨_, rfl⟩
  obtain ⟨Y, hY⟩ : ∃ Y, Y = Builtin.zeroCells (Value.agg #[.int .i32 0, .int .i32 0, .int .i64 0]).cells (G - (n + 1)) := ⟨_, rfl⟩
  have hZl : Z.toList.length = k * 3 := by rw [hZ, Array.length_toList, zc_len]
  have hYl : Y.toList.length = (G - (n + 1)) * 3 := by rw [hY, Array.length_toList, zc_len]
  rw [← hZ, ← hY] at hrz
  have hAl : (rks (A.take i)).length = i * 3 := by rw [rks_len, List.length_take]; omega
  obtain ⟨H, hH⟩ : ∃ H, H = w.heap.size := ⟨_, rfl⟩
  have o0 : (w.drew.alloc (.cells ((rks (A.take i)).toArray ++ Z ++ Y) 86)).ownsRow B 86 3 (.slice (some ⟨H, 0, none⟩) (n + 1) G) (n + 1) (rks (A.take i) ++ Z.toList) := by
    refine ⟨by rw [List.length_append, hAl, hZl]; omega, .inr ⟨H, G, _, rfl, by omega, by rw [hH]; exact heap_alloc_new w.drew _, hG1, hG2, ?_, ?_⟩⟩
    · rw [← Array.length_toList, Array.toList_append, Array.toList_append, List.length_append, List.length_append, hZl, hYl]
      simp only []
      rw [hAl]; omega
    · rw [Array.toList_append, Array.toList_append]
      exact List.take_left' (by rw [List.length_append]; simp only []; rw [hAl, hZl]; omega)
  have hold2 : ∀ b j, b < w.heap.size → (w.drew.alloc (.cells ((rks (A.take i)).toArray ++ Z ++ Y) 86)).cell? ⟨b, j, none⟩ = w.cell? ⟨b, j, none⟩ := fun b j hb => World.cell?_alloc_past (w := w.drew) _ b j hb
  have b0 : Blw B (some q) w (w.drew.alloc (.cells ((rks (A.take i)).toArray ++ Z ++ Y) 86)) := (Blw.drew B (some q) w).trans (Blw.alloc (some q) w.drew (show B ≤ w.drew.heap.size from hB) _)
  have hvH : vb ≠ H := by omega
  have hqH : q ≠ H := by omega
  rw [← hH] at hrz
  obtain ⟨W0, hW0⟩ : ∃ W0, W0 = (w.drew.alloc (.cells ((rks (A.take i)).toArray ++ Z ++ Y) 86)) := ⟨_, rfl⟩
  rw [← hW0] at hrz o0 hold2 b0
  obtain ⟨o1, b1⟩ := own_sets (rkc (rkT g)) (i * 3) _ W0 o0
  have hcp1 : ∀ ty dc, (Builtin.copy_ #[64, 64] ty #[.slice (some ⟨H, i * 3, none⟩) (n + 1 - i) dc, .slice (some ⟨vb, 0, none⟩) 1 1]).run Tryz.prog W0 = .ok (goInt (Nat.min 1 (n + 1 - i))) (W0.setCells H (i * 3) (rkc (rkT g))) := fun ty dc =>
    run_copy3 W0 _ _ ty 86 H (i * 3) (n + 1 - i) dc ⟨vb, 0, none⟩ 1 1 (rkc (rkT g)) Tryz.underlying64 size36 (by simp only [Nat.min_def]; rw [if_pos (by omega)]; rfl)
      (fun j u hj => by
        rw [Addr.add_lit, hold2 vb _ hvw]
        rw [cell_of_row w vb _ _ 86 (0, 0) hv, Nat.zero_add]
        simpa using hj)
      (fun j hj => by
        have hj' : j < 3 := hj
        rw [o0.cellAt _ (by omega), List.getElem?_eq_getElem (by rw [List.length_append, hAl, hZl]; omega)]
        rfl)
      (fun j hj => o0.frozenAt _) (rkc_one _)
  obtain ⟨W1, hW1⟩ : ∃ W1, W1 = W0.setCells H (i * 3) (rkc (rkT g)) := ⟨_, rfl⟩
  have hq1 : ∀ j, W1.cell? ⟨q, j, none⟩ = w.cell? ⟨q, j, none⟩ := fun j => by
    rw [hW1, World.cell?_setCells_out H _ _ _ _ (fun h _ => absurd h hqH)]
    exact hold2 q j hqw
  rw [← hW1] at hcp1 o1 b1
  obtain ⟨o2, b2⟩ := own_sets (rks (A.drop i)) ((i + 1) * 3) _ W1.drew o1.drew
  have hl1 := o1.1
  have hcp2 : ∀ ty dc sc, (Builtin.copy_ #[64, 64] ty #[.slice (some ⟨H, (i + 1) * 3, none⟩) (n - i) dc, .slice (some ⟨q, i * 3, none⟩) (n - i) sc]).run Tryz.prog W1.drew = .ok (goInt (Nat.min (n - i) (n - i))) (W1.drew.setCells H ((i + 1) * 3) (rks (A.drop i))) := fun ty dc sc =>
    run_copy3 W1.drew _ _ ty 86 H ((i + 1) * 3) (n - i) dc ⟨q, i * 3, none⟩ (n - i) sc (rks (A.drop i)) Tryz.underlying64 size36 (by rw [rks_len, List.length_drop, ← hA]; simp only [Nat.min_def]; split <;> omega)
      (fun j u hj => by
        have hjl := (List.getElem?_eq_some_iff.1 hj).1
        rw [rks_len, List.length_drop, ← hA] at hjl
        rw [Addr.add_lit]
        show W1.cell? ⟨q, i * 3 + j, none⟩ = _
        rw [hq1, h.cellAt _ (by omega), ← List.getElem?_drop, rks_drop A i (by omega)]
        exact hj)
      (fun j hj => by
        rw [rks_len, List.length_drop, ← hA] at hj
        show (W1.cell? ⟨H, (i + 1) * 3 + j, none⟩).isSome = true
        rw [o1.cellAt _ (by omega), List.getElem?_eq_getElem (by omega)]
        rfl)
      (fun j hj => o1.frozenAt _) (rks_one _)
  have HO2 := hid o2
  have HB := hid (show Blw B (some q) w (W1.drew.setCells H ((i + 1) * 3) (rks (A.drop i))) from b0.newer H (by omega) (b1.trans ((Blw.drew B (some H) W1).trans b2)))
  have HR := hid (grow_row A g i Z.toList (by omega) (by rw [hZl]; omega))
  have hkk : (n : Int) + 1 - (i : Int) = (k : Int) := by omega
  rw [← hkk] at hrz
  have e1 : IntKind.i64.wrap ((i : Int) + 1) = ((i + 1 : Nat) : Int) := by rw [IntKind.wrap_i64]; omega
  have e2 : IntKind.i64.wrap ((n : Int) + 1) = ((n + 1 : Nat) : Int) := by rw [IntKind.wrap_i64]; omega
  have e3 : IntKind.i64.wrap ((n : Int) + 1 - (i : Int)) = (n : Int) + 1 - (i : Int) := by rw [IntKind.wrap_i64]; omega
  have n1 : ((i : Int) == (n : Int)) = false := by simp; omega
  have n2 : ((cap : Int) < (n : Int) + 1) := by omega
  have hG63 : G ≤ 9223372036854775807 := by unfold maxLen at hG2; omega
  have z1 : (0 : Int) ≤ (i : Int) + 1 := by omega
  have z2 : i ≤ n := by omega
  have z3 : (i : Int) ≤ (n : Int) + 1 := by omega
  have z4 : (i : Int) ≤ (cap : Int) := by omega
  have mixed : Tryz.prog.follows .mixedOrders = true := by kernel_rfl
  have d1 : ((i + 1 : Nat) : Int).toNat = i + 1 := by omega
  have hb2 : ¬ (G = i + 1) := by omega
  have hb4 : ¬ (G = i) := by omega
  have hb5 : ¬ (cap = i) := by omega
  have hin : i ≤ n + 1 := by omega
  clear o0 o1 o2 b0 b1 b2 hl1 hq1 hold2 h hv hcur hcs hcm hW1 hW0 hA hZl hYl hAl hZ hY hG hik hold hkk hk hH hqw hvw hnc hG2
  go_enter Tryz.func120, Tryz.ntmps120
  go_wp2_with (first
    | (at_builtin; refine Lib.wpList_append_run _ rfl _ _ _ _ rfl _ _ rfl rfl _ _ (hrz _) ?_)
    | (at_builtin; refine wpList_copy_runI _ rfl _ _ 64 64 rfl _ _ rfl rfl (hcp1 _ _) ?_))
  go_region_law_o (refine step_copy_runI rfl _ _ 64 64 rfl _ _ (by simp [Act.eval, Act.put]) (by simp [Act.eval, Act.put]) (hcp2 _ _ _) ?_)
  go_wp2
  go_ret
  exact ⟨_, rfl, by rw [← HR.out]; exact HO2.out, HB.out⟩

theorem insert_any (B vb i : Nat) (A : List Tr) (g : Tr) (v : Value) (w : World) (h : w.ownsRow B 86 3 v A.length (rks A)) (hB : B ≤ w.heap.size) (hl : A.length ≤ 100000000) (hi : i ≤ A.length) (hq : v.ownBlock ≠ some vb)
    (hv : w.heap[vb]? = some (.cells (rkc (rkT g)).toArray 86 (0, 0))) :
    Calls Tryz.prog 120 #[v, .int .i64 (i : Int), .slice (some ⟨vb, 0, none⟩) 1 1] w fun e w' => ∃ v', e = .returned v' ∧ w'.ownsRow B 86 3 v' (A.length + 1) (rks (A.take i ++ g :: A.drop i)) ∧ Blw B v.ownBlock w w' := by
  by_cases hn : i = A.length
  · subst hn
    rw [List.take_of_length_le (Nat.le_refl _), List.drop_of_length_le (Nat.le_refl _)]
    exact insert_end B vb A g v w h hB hl hv
  · obtain ⟨q, cap, rfl, _, _⟩ := h.form (by omega)
    have hq' : vb ≠ q := fun e => hq (by rw [e]; rfl)
    by_cases hc : A.length + 1 ≤ cap
    · exact insert_shift B vb q _ cap i A g w h rfl hl (by omega) hc hq' hv
    · exact insert_grow B vb q _ cap i A g w h hB rfl hl (by omega) (by omega) hv
end Go.Proofs.YtohhokjlgihbgaaGreatDoor
/- Rows of ranges made shorter, and their ends cleared. -/
namespace Go.Proofs.YtohhokjlgihbgaaGreatDoor
open Go.RowKit

theorem run_clear86 (w : World) (ty : TypeId) (b o n c : Nat) (hn : 0 < n) (hc : ∀ j, j < n * 3 → (w.cell? ⟨b, o + j, none⟩).isSome = true) (hf : ∀ j, j < n * 3 → w.frozen? ⟨b, o + j, none⟩ = false) :
    (Builtin.clear_ #[64] ty #[.slice (some ⟨b, o, none⟩) n c]).run Tryz.prog w = .ok (.tuple #[]) (w.setCells b o (Builtin.zeroCells (Value.agg #[.int .i32 0, .int .i32 0, .int .i64 0]).cells n).toList) := by
  have hl : (Builtin.zeroCells (Value.agg #[.int .i32 0, .int .i32 0, .int .i64 0]).cells n).toList.length = n * 3 := by rw [Array.length_toList, zc_len]
  have h1 : ∀ v ∈ (Builtin.zeroCells (Value.agg #[.int .i32 0, .int .i32 0, .int .i64 0]).cells n).toList, v.oneCell' = true := fun v hv => by
    unfold Builtin.zeroCells at hv
    rw [Array.toList_map] at hv
    obtain ⟨i, _, rfl⟩ := List.mem_map.1 hv
    have h3 : i % 3 < 3 := Nat.mod_lt _ (by decide)
    show (#[Value.int .i32 0, .int .i32 0, .int .i64 0][i % 3]!).oneCell' = true
    rcases (show i % 3 = 0 ∨ i % 3 = 1 ∨ i % 3 = 2 by omega) with h | h | h <;> rw [h] <;> rfl
  have hst := run_storeCells_cells (P := Tryz.prog) b o _ 0 w (by rw [hl]; simpa using hc) (by rw [hl]; simpa using hf) h1
  simp only [Nat.add_zero] at hst
  obtain ⟨m, rfl⟩ : ∃ m, n = m + 1 := ⟨n - 1, by omega⟩
  simp [Builtin.clear_, run_underlying Tryz.underlying64, hst]
theorem lset_keep : ∀ (vs xs : List Value) (o : Nat), (lset xs o vs).length = xs.length
  | [], _, _ => rfl
  | v :: r, xs, o => by show (lset (xs.set o v) (o + 1) r).length = _; rw [lset_keep r, List.length_set]
theorem lset_take : ∀ (vs xs : List Value) (o : Nat), (lset xs o vs).take o = xs.take o
  | [], _, _ => rfl
  | v :: r, xs, o => by
    show (lset (xs.set o v) (o + 1) r).take o = _
    have h := lset_take r (xs.set o v) (o + 1)
    have h2 := congrArg (List.take o) h
    rw [List.take_take, List.take_take, Nat.min_eq_left (by omega), List.take_set_of_le (Nat.le_refl _)] at h2
    exact h2
/-- A shorter row. -/
theorem own_less {B g n i cap : Nat} {xs : List Value} {w : World} (h : w.ownsRow B 86 3 (.slice (some ⟨g, 0, none⟩) n cap) n xs) (hi : i ≤ n) : w.ownsRow B 86 3 (.slice (some ⟨g, 0, none⟩) i cap) i (xs.take (i * 3)) := by
  have hl := h.1
  rcases h.2 with ⟨h', _⟩ | ⟨g', cap', cur, h', hb, hg, hnc, hcm, hcs, ht⟩
  · simp at h'
  · simp only [Value.slice.injEq, Option.some.injEq, Addr.mk.injEq, and_true, true_and] at h'
    obtain ⟨rfl, rfl⟩ := h'
    refine ⟨by rw [List.length_take]; omega, .inr ⟨g, cap, cur, rfl, hb, hg, by omega, hcm, hcs, ?_⟩⟩
    rw [← ht, List.take_take, Nat.min_eq_left (by omega)]
end Go.Proofs.YtohhokjlgihbgaaGreatDoor
/- The contract of slices.Replace at ranges, one laid in the place of some. -/
namespace Go.Proofs.YtohhokjlgihbgaaGreatDoor
open Go.RowKit Go.Lib

theorem rks_split (A : List Tr) (i : Nat) (hi : i < A.length) : rks A = rks (A.take i) ++ rkc (rkT A[i]) ++ rks (A.drop (i + 1)) := by
  have e : A = A.take i ++ A[i] :: A.drop (i + 1) := by rw [List.getElem_cons_drop, List.take_append_drop]
  conv => lhs; rw [e, rks_app]
  rw [List.append_assoc]
  rfl
theorem rep_one (A : List Tr) (g : Tr) (i : Nat) (hi : i < A.length) : lset (rks A) (i * 3) (rkc (rkT g)) = rks (A.take i ++ g :: A.drop (i + 1)) := by
  have hl : (rks (A.take i)).length = i * 3 := by rw [rks_len, List.length_take]; omega
  have h5 := lset_mid (rkc (rkT g)) (rks (A.take i)) (rkc (rkT A[i])) (rks (A.drop (i + 1))) rfl
  rw [hl, ← rks_split A i hi] at h5
  rw [h5, rks_app, List.append_assoc]
  rfl
theorem rep_tail (A : List Tr) (g : Tr) (i j : Nat) (hi : i < j) (hj : j ≤ A.length) : (lset (rks (A.take i ++ g :: A.drop (i + 1))) ((i + 1) * 3) (rks (A.drop j))).take ((i + 1 + (A.length - j)) * 3) = rks (A.take i ++ g :: A.drop j) := by
  have e1 : rks (A.take i ++ g :: A.drop (i + 1)) = rks (A.take i ++ [g]) ++ rks ((A.drop (i + 1)).take (A.length - j)) ++ rks ((A.drop (i + 1)).drop (A.length - j)) := by
    rw [List.append_assoc, ← rks_app, List.take_append_drop, ← rks_app]
    simp
  have hl : (rks (A.take i ++ [g])).length = (i + 1) * 3 := by rw [rks_len, List.length_append, List.length_take]; simp; omega
  have h5 := lset_mid (rks (A.drop j)) (rks (A.take i ++ [g])) (rks ((A.drop (i + 1)).take (A.length - j))) (rks ((A.drop (i + 1)).drop (A.length - j))) (by rw [rks_len, rks_len, List.length_take, List.length_drop, List.length_drop]; omega)
  rw [hl, ← e1] at h5
  rw [h5, List.take_append_of_le_length (by rw [List.length_append, hl, rks_len, List.length_drop]; omega), List.take_of_length_le (by rw [List.length_append, hl, rks_len, List.length_drop]; omega), ← rks_app]
  simp
end Go.Proofs.YtohhokjlgihbgaaGreatDoor
/- The contract of slices.Replace at ranges, one laid in the place of some in the middle. -/
namespace Go.Proofs.YtohhokjlgihbgaaGreatDoor
open Go.RowKit Go.Lib

set_option maxHeartbeats 2000000 in
set_option maxRecDepth 100000 in
theorem repl_mid (B vb q n cap i j : Nat) (A : List Tr) (g : Tr) (w : World) (h : w.ownsRow B 86 3 (.slice (some ⟨q, 0, none⟩) n cap) n (rks A)) (hA : n = A.length) (hl : n ≤ 100000000) (hij : i + 1 < j) (hjn : j < n)
    (hv : w.heap[vb]? = some (.cells (rkc (rkT g)).toArray 86 (0, 0))) :
    Calls Tryz.prog 101 #[.slice (some ⟨q, 0, none⟩) n cap, .int .i64 (i : Int), .int .i64 (j : Int), .slice (some ⟨vb, 0, none⟩) 1 1] w fun e w' => ∃ v', e = .returned v' ∧ w'.ownsRow B 86 3 v' (i + 1 + (n - j)) (rks (A.take i ++ g :: A.drop j)) ∧ Blw B (some q) w w' := by
  obtain ⟨hnc, hcm, cur, hcur, hcs⟩ := own_cap h
  have hc63 : cap ≤ 9223372036854775807 := by unfold maxLen at hcm; omega
  have HO := hid h
  have HV := hid hv
  have HA := hid hA
  obtain ⟨t, ht⟩ : ∃ t, t = i + 1 + (n - j) := ⟨_, rfl⟩
  have HTT := hid ht
  have n1 : ((i : Int) == (j : Int)) = false := beq_eq_false_iff_ne.2 (by omega)
  have n2 : ((j : Int) == (n : Int)) = false := beq_eq_false_iff_ne.2 (by omega)
  have z0 : (0 : Int) ≤ (i : Int) := by omega
  have z1 : (i : Int) ≤ (j : Int) := by omega
  have z2 : (j : Int) ≤ (cap : Int) := by omega
  have z3 : (j : Int) ≤ (n : Int) := by omega
  have z4 : (i : Int) ≤ (n : Int) := by omega
  have z5 : (i : Int) ≤ (cap : Int) := by omega
  have m1 : i ≤ j := by omega
  have m2 : j ≤ cap := by omega
  have m3 : j ≤ n := by omega
  have m4 : i ≤ cap := by omega
  have hb1 : ¬ (cap = i) := by omega
  have hb2 : ¬ (cap = j) := by omega
  rw [← ht]
  clear h hv hcur hcs hcm hA
  go_enter Tryz.func101, Tryz.ntmps101
  have e1 : IntKind.i64.wrap ((i : Int) + 1) = ((i + 1 : Nat) : Int) := by rw [IntKind.wrap_i64]; omega
  have e2 : (n : Int) - (j : Int) = ((n - j : Nat) : Int) := by omega
  have e3 : ((i + 1 : Nat) : Int) + ((n - j : Nat) : Int) = (t : Int) := by omega
  have e3' : (i : Int) + 1 + ((n - j : Nat) : Int) = (t : Int) := by omega
  have e4 : IntKind.i64.wrap (t : Int) = (t : Int) := by rw [IntKind.wrap_i64]; omega
  have e5 : i + 1 + (n - j) = t := ht.symm
  clear ht
  go_wp2
  go_quiet (fail)
  have h0 : (w.drewN nq).ownsRow B 86 3 (.slice (some ⟨q, 0, none⟩) n cap) n (rks A) := HO.out
  have v0 : (w.drewN nq).heap[vb]? = some (.cells (rkc (rkT g)).toArray 86 (0, 0)) := HV.out
  have b0 : Blw B (some q) w (w.drewN nq) := Blw.drewN B (some q) w nq
  obtain ⟨W0, hW0⟩ : ∃ W0, W0 = w.drewN nq := ⟨_, rfl⟩
  rw [← hW0] at h0 v0 b0 ⊢
  clear hW0
  have hA := HA.out
  have hti : 1 ≤ t - i := by omega
  have hcp1 : ∀ ty dc, (Builtin.copy_ #[64, 64] ty #[.slice (some ⟨q, i * 3, none⟩) (t - i) dc, .slice (some ⟨vb, 0, none⟩) 1 1]).run Tryz.prog W0 = .ok (goInt (Nat.min 1 (t - i))) (W0.setCells q (i * 3) (rkc (rkT g))) := fun ty dc =>
    run_copy3 W0 _ _ ty 86 q (i * 3) (t - i) dc ⟨vb, 0, none⟩ 1 1 (rkc (rkT g)) Tryz.underlying64 size36 (by simp only [Nat.min_def]; rw [if_pos (by omega)]; rfl)
      (fun k u hk => by
        rw [Addr.add_lit]
        show W0.cell? ⟨vb, 0 + k, none⟩ = _
        rw [cell_of_row W0 vb _ _ 86 (0, 0) v0, Nat.zero_add]
        simpa using hk)
      (fun k hk => by
        have hk' : k < 3 := hk
        rw [h0.cellAt _ (by omega), List.getElem?_eq_getElem (by rw [rks_len]; omega)]
        rfl)
      (fun k hk => h0.frozenAt _) (rkc_one _)
  obtain ⟨o1, b1⟩ := own_sets (rkc (rkT g)) (i * 3) _ W0 h0
  rw [rep_one A g i (by omega)] at o1
  obtain ⟨W1, hW1⟩ : ∃ W1, W1 = W0.setCells q (i * 3) (rkc (rkT g)) := ⟨_, rfl⟩
  rw [← hW1] at hcp1 o1 b1
  have hA1 : (A.take i ++ g :: A.drop (i + 1)).drop j = A.drop j := by
    rw [List.drop_append, List.drop_of_length_le (by rw [List.length_take]; omega), List.nil_append, List.length_take, Nat.min_eq_left (by omega), show j - i = (j - i - 1) + 1 by omega, List.drop_succ_cons, List.drop_drop, show i + 1 + (j - i - 1) = j by omega]
  have hA1l : (A.take i ++ g :: A.drop (i + 1)).length = n := by rw [List.length_append, List.length_take, List.length_cons, List.length_drop]; omega
  have hcp2 : ∀ ty dc sc, (Builtin.copy_ #[64, 64] ty #[.slice (some ⟨q, (i + 1) * 3, none⟩) (t - (i + 1)) dc, .slice (some ⟨q, j * 3, none⟩) (n - j) sc]).run Tryz.prog W1.drew = .ok (goInt (Nat.min (n - j) (t - (i + 1)))) (W1.drew.setCells q ((i + 1) * 3) (rks (A.drop j))) := fun ty dc sc =>
    run_copy3 W1.drew _ _ ty 86 q ((i + 1) * 3) (t - (i + 1)) dc ⟨q, j * 3, none⟩ (n - j) sc (rks (A.drop j)) Tryz.underlying64 size36 (by rw [rks_len, List.length_drop, ← hA]; simp only [Nat.min_def]; split <;> omega)
      (fun k u hk => by
        have hkl := (List.getElem?_eq_some_iff.1 hk).1
        rw [rks_len, List.length_drop, ← hA] at hkl
        rw [Addr.add_lit]
        show W1.cell? ⟨q, j * 3 + k, none⟩ = _
        rw [o1.cellAt _ (by omega), ← List.getElem?_drop, rks_drop _ j (by omega), hA1]
        exact hk)
      (fun k hk => by
        rw [rks_len, List.length_drop, ← hA] at hk
        show (W1.cell? ⟨q, (i + 1) * 3 + k, none⟩).isSome = true
        rw [o1.cellAt _ (by omega), List.getElem?_eq_getElem (by rw [rks_len]; omega)]
        rfl)
      (fun k hk => o1.frozenAt _) (rks_one _)
  obtain ⟨o2, b2⟩ := own_sets (rks (A.drop j)) ((i + 1) * 3) _ W1.drew o1.drew
  obtain ⟨W2, hW2⟩ : ∃ W2, W2 = W1.drew.setCells q ((i + 1) * 3) (rks (A.drop j)) := ⟨_, rfl⟩
  rw [← hW2] at hcp2 o2 b2
  have hclr := fun ty => run_clear86 W2 ty q (t * 3) (n - t) (cap - t) (by omega) (fun k hk => by rw [o2.cellAt _ (by omega), List.getElem?_eq_getElem (by rw [o2.1]; omega)]; rfl) (fun k hk => o2.frozenAt _)
  obtain ⟨o3, b3⟩ := own_sets (Builtin.zeroCells (Value.agg #[.int .i32 0, .int .i32 0, .int .i64 0]).cells (n - t)).toList (t * 3) _ W2 o2
  obtain ⟨W3, hW3⟩ : ∃ W3, W3 = W2.setCells q (t * 3) (Builtin.zeroCells (Value.agg #[.int .i32 0, .int .i32 0, .int .i64 0]).cells (n - t)).toList := ⟨_, rfl⟩
  rw [← hW3] at o3 b3
  have o4 := own_less o3 (show t ≤ n by omega)
  rw [lset_take, show t * 3 = (i + 1 + (A.length - j)) * 3 by have h5 := HTT.out; omega, rep_tail A g i j (by omega) (by omega)] at o4
  have HO4 := hid o4
  have hclr' : ∀ ty, (Builtin.clear_ #[64] ty #[.slice (some ⟨q, t * 3, none⟩) (n - t) (cap - t)]).run Tryz.prog W2 = .ok (.tuple #[]) W3 := fun ty => by rw [hW3]; exact hclr ty
  have HB4 := hid (b0.trans (b1.trans ((Blw.drew B (some q) W1).trans (b2.trans b3))))
  have t1 : (t : Int) ≤ (cap : Int) := by omega
  have t2 : t ≤ cap := by omega
  have t3 : ¬ (cap : Int) < (t : Int) := by omega
  have t4 : (t : Int) ≤ (n : Int) := by omega
  have t5 : t ≤ n := by omega
  have t6 : (i : Int) ≤ (t : Int) := by omega
  have t7 : i ≤ t := by omega
  have t8 : ((i + 1 : Nat) : Int) ≤ (j : Int) := by omega
  have t8' : (i : Int) + 1 ≤ (j : Int) := by omega
  have t9 : ((i + 1 : Nat) : Int) ≤ (t : Int) := by omega
  have t9' : (i : Int) + 1 ≤ (t : Int) := by omega
  have t10 : i + 1 ≤ t := by omega
  have d1 : ((i + 1 : Nat) : Int).toNat = i + 1 := by omega
  have z6 : (0 : Int) ≤ (i : Int) + 1 := by omega
  have z7 : (0 : Int) ≤ (t : Int) := by omega
  have hb3 : ¬ (cap = i + 1) := by omega
  have hb4 : ¬ (cap = t) := by omega
  have hm1 : Nat.min 1 (t - i) = 1 := by simp only [Nat.min_def]; rw [if_pos (by omega)]
  clear o1 o2 o3 o4 b0 b1 b2 b3 hclr h0 v0 hA1 hA1l hW1 hW2 hW3 hA hti
  go_wp2_with (first | (at_builtin; refine wpList_copy_runI _ rfl _ _ 64 64 rfl _ _ rfl rfl (hcp1 _ _) ?_) | fail)
  have mixed : Tryz.prog.follows .mixedOrders = true := by kernel_rfl
  go_region_law_o (refine step_copy_runI rfl _ _ 64 64 rfl _ _ (by simp [Act.eval, Act.put]) (by simp [Act.eval, Act.put]) (hcp2 _ _ _) ?_)
  go_wp2
  go_ret
  exact ⟨_, rfl, HO4.out, HB4.out⟩
end Go.Proofs.YtohhokjlgihbgaaGreatDoor
/- The contract of slices.Replace at ranges, one laid in the place of one ahead of others. -/
namespace Go.Proofs.YtohhokjlgihbgaaGreatDoor
open Go.RowKit Go.Lib

theorem clear_none (w : World) (ty : TypeId) (a : Option Addr) (c : Nat) : (Builtin.clear_ #[64] ty #[.slice a 0 c]).run Tryz.prog w = .ok (.tuple #[]) w := by
  cases a <;> simp [Builtin.clear_, run_underlying Tryz.underlying64]
set_option maxHeartbeats 2000000 in
set_option maxRecDepth 100000 in
theorem repl_one (B vb q n cap i j : Nat) (A : List Tr) (g : Tr) (w : World) (h : w.ownsRow B 86 3 (.slice (some ⟨q, 0, none⟩) n cap) n (rks A)) (hA : n = A.length) (hl : n ≤ 100000000) (hij : i + 1 = j) (hjn : j < n)
    (hv : w.heap[vb]? = some (.cells (rkc (rkT g)).toArray 86 (0, 0))) :
    Calls Tryz.prog 101 #[.slice (some ⟨q, 0, none⟩) n cap, .int .i64 (i : Int), .int .i64 (j : Int), .slice (some ⟨vb, 0, none⟩) 1 1] w fun e w' => ∃ v', e = .returned v' ∧ w'.ownsRow B 86 3 v' (i + 1 + (n - j)) (rks (A.take i ++ g :: A.drop j)) ∧ Blw B (some q) w w' := by
  obtain ⟨hnc, hcm, cur, hcur, hcs⟩ := own_cap h
  have hc63 : cap ≤ 9223372036854775807 := by unfold maxLen at hcm; omega
  have HO := hid h
  have HV := hid hv
  have HA := hid hA
  obtain ⟨t, ht⟩ : ∃ t, t = i + 1 + (n - j) := ⟨_, rfl⟩
  have HTT := hid ht
  have n1 : ((i : Int) == (j : Int)) = false := beq_eq_false_iff_ne.2 (by omega)
  have n2 : ((j : Int) == (n : Int)) = false := beq_eq_false_iff_ne.2 (by omega)
  have z0 : (0 : Int) ≤ (i : Int) := by omega
  have z1 : (i : Int) ≤ (j : Int) := by omega
  have z2 : (j : Int) ≤ (cap : Int) := by omega
  have z3 : (j : Int) ≤ (n : Int) := by omega
  have z4 : (i : Int) ≤ (n : Int) := by omega
  have z5 : (i : Int) ≤ (cap : Int) := by omega
  have m1 : i ≤ j := by omega
  have m2 : j ≤ cap := by omega
  have m3 : j ≤ n := by omega
  have m4 : i ≤ cap := by omega
  have hb1 : ¬ (cap = i) := by omega
  have hb2 : ¬ (cap = j) := by omega
  rw [← ht]
  clear h hv hcur hcs hcm hA
  go_enter Tryz.func101, Tryz.ntmps101
  have e1 : IntKind.i64.wrap ((i : Int) + 1) = ((i + 1 : Nat) : Int) := by rw [IntKind.wrap_i64]; omega
  have e2 : (n : Int) - (j : Int) = ((n - j : Nat) : Int) := by omega
  have e3 : ((i + 1 : Nat) : Int) + ((n - j : Nat) : Int) = (t : Int) := by omega
  have e3' : (i : Int) + 1 + ((n - j : Nat) : Int) = (t : Int) := by omega
  have e4 : IntKind.i64.wrap (t : Int) = (t : Int) := by rw [IntKind.wrap_i64]; omega
  have e5 : i + 1 + (n - j) = t := ht.symm
  have HIJ := hid hij
  clear ht hij
  go_wp2
  go_quiet (fail)
  have hij := HIJ.out
  have h0 : (w.drewN nq).ownsRow B 86 3 (.slice (some ⟨q, 0, none⟩) n cap) n (rks A) := HO.out
  have v0 : (w.drewN nq).heap[vb]? = some (.cells (rkc (rkT g)).toArray 86 (0, 0)) := HV.out
  have b0 : Blw B (some q) w (w.drewN nq) := Blw.drewN B (some q) w nq
  obtain ⟨W0, hW0⟩ : ∃ W0, W0 = w.drewN nq := ⟨_, rfl⟩
  rw [← hW0] at h0 v0 b0 ⊢
  clear hW0
  have hA := HA.out
  have hti : 1 ≤ t - i := by omega
  have hcp1 : ∀ ty dc, (Builtin.copy_ #[64, 64] ty #[.slice (some ⟨q, i * 3, none⟩) (t - i) dc, .slice (some ⟨vb, 0, none⟩) 1 1]).run Tryz.prog W0 = .ok (goInt (Nat.min 1 (t - i))) (W0.setCells q (i * 3) (rkc (rkT g))) := fun ty dc =>
    run_copy3 W0 _ _ ty 86 q (i * 3) (t - i) dc ⟨vb, 0, none⟩ 1 1 (rkc (rkT g)) Tryz.underlying64 size36 (by simp only [Nat.min_def]; rw [if_pos (by omega)]; rfl)
      (fun k u hk => by
        rw [Addr.add_lit]
        show W0.cell? ⟨vb, 0 + k, none⟩ = _
        rw [cell_of_row W0 vb _ _ 86 (0, 0) v0, Nat.zero_add]
        simpa using hk)
      (fun k hk => by
        have hk' : k < 3 := hk
        rw [h0.cellAt _ (by omega), List.getElem?_eq_getElem (by rw [rks_len]; omega)]
        rfl)
      (fun k hk => h0.frozenAt _) (rkc_one _)
  obtain ⟨o1, b1⟩ := own_sets (rkc (rkT g)) (i * 3) _ W0 h0
  rw [rep_one A g i (by omega)] at o1
  obtain ⟨W1, hW1⟩ : ∃ W1, W1 = W0.setCells q (i * 3) (rkc (rkT g)) := ⟨_, rfl⟩
  rw [← hW1] at hcp1 o1 b1
  have hA1 : (A.take i ++ g :: A.drop (i + 1)).drop j = A.drop j := by
    rw [List.drop_append, List.drop_of_length_le (by rw [List.length_take]; omega), List.nil_append, List.length_take, Nat.min_eq_left (by omega), show j - i = (j - i - 1) + 1 by omega, List.drop_succ_cons, List.drop_drop, show i + 1 + (j - i - 1) = j by omega]
  have hA1l : (A.take i ++ g :: A.drop (i + 1)).length = n := by rw [List.length_append, List.length_take, List.length_cons, List.length_drop]; omega
  have hcp2 : ∀ ty dc sc, (Builtin.copy_ #[64, 64] ty #[.slice (some ⟨q, (i + 1) * 3, none⟩) (t - (i + 1)) dc, .slice (some ⟨q, j * 3, none⟩) (n - j) sc]).run Tryz.prog W1.drew = .ok (goInt (Nat.min (n - j) (t - (i + 1)))) (W1.drew.setCells q ((i + 1) * 3) (rks (A.drop j))) := fun ty dc sc =>
    run_copy3 W1.drew _ _ ty 86 q ((i + 1) * 3) (t - (i + 1)) dc ⟨q, j * 3, none⟩ (n - j) sc (rks (A.drop j)) Tryz.underlying64 size36 (by rw [rks_len, List.length_drop, ← hA]; simp only [Nat.min_def]; split <;> omega)
      (fun k u hk => by
        have hkl := (List.getElem?_eq_some_iff.1 hk).1
        rw [rks_len, List.length_drop, ← hA] at hkl
        rw [Addr.add_lit]
        show W1.cell? ⟨q, j * 3 + k, none⟩ = _
        rw [o1.cellAt _ (by omega), ← List.getElem?_drop, rks_drop _ j (by omega), hA1]
        exact hk)
      (fun k hk => by
        rw [rks_len, List.length_drop, ← hA] at hk
        show (W1.cell? ⟨q, (i + 1) * 3 + k, none⟩).isSome = true
        rw [o1.cellAt _ (by omega), List.getElem?_eq_getElem (by rw [rks_len]; omega)]
        rfl)
      (fun k hk => o1.frozenAt _) (rks_one _)
  obtain ⟨o2, b2⟩ := own_sets (rks (A.drop j)) ((i + 1) * 3) _ W1.drew o1.drew
  obtain ⟨W2, hW2⟩ : ∃ W2, W2 = W1.drew.setCells q ((i + 1) * 3) (rks (A.drop j)) := ⟨_, rfl⟩
  rw [← hW2] at hcp2 o2 b2
  have o4 := o2
  rw [show n = t by have h5 := HTT.out; omega] at o4
  have o5 := own_less o4 (Nat.le_refl t)
  rw [show t * 3 = (i + 1 + (A.length - j)) * 3 by have h5 := HTT.out; omega, rep_tail A g i j (by omega) (by omega)] at o5
  have HO4 := hid o5
  have hclr' := fun ty a c => clear_none W2 ty a c
  have htn : n - t = 0 := by have h5 := HTT.out; omega
  have HB4 := hid (b0.trans (b1.trans ((Blw.drew B (some q) W1).trans b2)))
  have t1 : (t : Int) ≤ (cap : Int) := by omega
  have t2 : t ≤ cap := by omega
  have t3 : ¬ (cap : Int) < (t : Int) := by omega
  have t4 : (t : Int) ≤ (n : Int) := by omega
  have t5 : t ≤ n := by omega
  have t6 : (i : Int) ≤ (t : Int) := by omega
  have t7 : i ≤ t := by omega
  have t8 : ((i + 1 : Nat) : Int) ≤ (j : Int) := by omega
  have t8' : (i : Int) + 1 ≤ (j : Int) := by omega
  have t9 : ((i + 1 : Nat) : Int) ≤ (t : Int) := by omega
  have t9' : (i : Int) + 1 ≤ (t : Int) := by omega
  have t10 : i + 1 ≤ t := by omega
  have d1 : ((i + 1 : Nat) : Int).toNat = i + 1 := by omega
  have z6 : (0 : Int) ≤ (i : Int) + 1 := by omega
  have z7 : (0 : Int) ≤ (t : Int) := by omega
  have hb3 : ¬ (cap = i + 1) := by omega
  have hm1 : Nat.min 1 (t - i) = 1 := by simp only [Nat.min_def]; rw [if_pos (by omega)]
  clear o1 o2 o4 o5 b0 b1 b2 h0 v0 hA1 hA1l hW1 hW2 hA hti hij
  go_wp2_with (first | (at_builtin; refine wpList_copy_runI _ rfl _ _ 64 64 rfl _ _ rfl rfl (hcp1 _ _) ?_) | fail)
  have mixed : Tryz.prog.follows .mixedOrders = true := by kernel_rfl
  go_region_law_o (refine step_copy_runI rfl _ _ 64 64 rfl _ _ (by simp [Act.eval, Act.put]) (by simp [Act.eval, Act.put]) (hcp2 _ _ _) ?_)
  by_cases hb4 : cap = t
  · go_wp2
    go_ret
    exact ⟨_, rfl, HO4.out, HB4.out⟩
  · go_wp2
    go_ret
    exact ⟨_, rfl, HO4.out, HB4.out⟩
end Go.Proofs.YtohhokjlgihbgaaGreatDoor
/- The contract of slices.Replace at ranges, one laid in the place of the last ones; and as a whole. -/
namespace Go.Proofs.YtohhokjlgihbgaaGreatDoor
open Go.RowKit Go.Lib

theorem lset_out : ∀ (vs xs : List Value) (o : Nat), xs.length ≤ o → lset xs o vs = xs
  | [], _, _, _ => rfl
  | v :: r, xs, o, h => by
    show lset (xs.set o v) (o + 1) r = xs
    rw [List.set_eq_of_length_le h]
    exact lset_out r xs (o + 1) (by omega)
set_option maxHeartbeats 2000000 in
set_option maxRecDepth 100000 in
theorem repl_end (B vb q n cap i : Nat) (A : List Tr) (g : Tr) (w : World) (h : w.ownsRow B 86 3 (.slice (some ⟨q, 0, none⟩) n cap) n (rks A)) (hB : B ≤ w.heap.size) (hA : n = A.length) (hl : n ≤ 100000000) (hin : i < n)
    (hv : w.heap[vb]? = some (.cells (rkc (rkT g)).toArray 86 (0, 0))) :
    Calls Tryz.prog 101 #[.slice (some ⟨q, 0, none⟩) n cap, .int .i64 (i : Int), .int .i64 (n : Int), .slice (some ⟨vb, 0, none⟩) 1 1] w fun e w' => ∃ v', e = .returned v' ∧ w'.ownsRow B 86 3 v' (i + 1) (rks (A.take i ++ [g])) ∧ Blw B (some q) w w' := by
  obtain ⟨i0, hi86, hz0, hz1, hz2⟩ := info_parts Tryz.info86
  obtain ⟨hnc, hcm, cur, hcur, hcs⟩ := own_cap h
  have hc63 : cap ≤ 9223372036854775807 := by unfold maxLen at hcm; omega
  have h0 := own_less h (show i ≤ n by omega)
  rw [rks_take] at h0
  have HO := hid h0
  have hq := (h.lt q rfl).1
  have HNW := hid (show ∀ k u, (rkc (rkT g))[k]? = some u → w.cell? ((⟨vb, 0, none⟩ : Addr).add k) = some u from fun k u hk => by
    rw [Addr.add_lit, cell_of_row w vb _ _ 86 (0, 0) hv, Nat.zero_add]
    simpa using hk)
  have n1 : ((i : Int) == (n : Int)) = false := beq_eq_false_iff_ne.2 (by omega)
  have z0 : (0 : Int) ≤ (i : Int) := by omega
  have z1 : (i : Int) ≤ (n : Int) := by omega
  have z2 : (n : Int) ≤ (cap : Int) := by omega
  have z5 : (i : Int) ≤ (cap : Int) := by omega
  have m1 : i ≤ n := by omega
  have m4 : i ≤ cap := by omega
  have hb1 : ¬ (cap = i) := by omega
  have HW := hid (show ∀ w2 : World, w2.ownsRow B 86 3 (.slice (some ⟨q, 0, none⟩) (i + 1) cap) (i + 1) (rks (A.take i) ++ rkc (rkT g)) → w.grownBy w2 (some q) → w2.ownsRow B 86 3 (.slice (some ⟨q, 0, none⟩) (i + 1) cap) (i + 1) (rks (A.take i ++ [g])) ∧ Blw B (some q) w w2 from fun w2 o2 gr2 => by
    rw [rks_snoc]
    exact ⟨o2, Blw.grown gr2 hB (fun k hk => by injection hk with hk; rw [← hk]; exact hq)⟩)
  by_cases hlast : i + 1 = n
  · have l1 : ¬ ((i : Int) + 1 < (n : Int)) := by omega
    have l2 : ¬ (((i + 1 : Nat) : Int) < (n : Int)) := by omega
    have HL := hid hlast
    clear h h0 hv hcur hcs hcm hA hlast
    go_enter Tryz.func101, Tryz.ntmps101
    go_wp2_with (at_builtin; refine wpList_append_fits _ rfl _ _ 64 rfl B 86 i0 3 Tryz.underlying64 hi86 hz1 q i cap (rks (A.take i)) rfl HO.out ⟨vb, 0, none⟩ 1 1 (rkc (rkT g)) rfl rfl HNW.out (rkc_one _) (by omega) ?_; intro w2 o2 gr2)
    obtain ⟨p1, p2⟩ := HW.out w2 o2 gr2
    have HP1 := hid p1
    have HP2 := hid p2
    clear p1 p2 o2 gr2
    go_ret
    exact ⟨_, rfl, HP1.out, HP2.out⟩
  · have l1 : (i : Int) + 1 < (n : Int) := by omega
    have l2 : ((i + 1 : Nat) : Int) < (n : Int) := by omega
    have l3 : (i : Int) + 1 ≤ (n : Int) := by omega
    have l4 : ((i + 1 : Nat) : Int) ≤ (n : Int) := by omega
    have l5 : (0 : Int) ≤ (i : Int) + 1 := by omega
    have l6 : i + 1 ≤ n := by omega
    have hb2 : ¬ (cap = i + 1) := by omega
    have d1 : ((i + 1 : Nat) : Int).toNat = i + 1 := by omega
    have HCL := hid (show ∀ w2 : World, w2.ownsRow B 86 3 (.slice (some ⟨q, 0, none⟩) (i + 1) cap) (i + 1) (rks (A.take i ++ [g])) → ∃ w3, (∀ ty, (Builtin.clear_ #[64] ty #[.slice (some ⟨q, (i + 1) * 3, none⟩) (n - (i + 1)) (cap - (i + 1))]).run Tryz.prog w2 = .ok (.tuple #[]) w3) ∧ w3.ownsRow B 86 3 (.slice (some ⟨q, 0, none⟩) (i + 1) cap) (i + 1) (rks (A.take i ++ [g])) ∧ Blw B (some q) w2 w3 from fun w2 o2 => by
      obtain ⟨_, _, cur2, hcur2, hcs2⟩ := own_cap o2
      obtain ⟨o3, b3⟩ := own_sets (Builtin.zeroCells (Value.agg #[.int .i32 0, .int .i32 0, .int .i64 0]).cells (n - (i + 1))).toList ((i + 1) * 3) _ w2 o2
      rw [lset_out _ _ _ (by rw [o2.1]; exact Nat.le_refl _)] at o3
      refine ⟨_, fun ty => run_clear86 w2 ty q ((i + 1) * 3) (n - (i + 1)) (cap - (i + 1)) (by omega) (fun k hk => ?_) (fun k hk => o2.frozenAt _), o3, b3⟩
      rw [cell_of_row w2 q _ cur2 86 (0, 0) hcur2, Array.getElem?_eq_getElem (by rw [hcs2]; omega)]
      rfl)
    clear h h0 hv hcur hcs hcm hA hlast
    go_enter Tryz.func101, Tryz.ntmps101
    go_wp2_with (at_builtin; refine wpList_append_fits _ rfl _ _ 64 rfl B 86 i0 3 Tryz.underlying64 hi86 hz1 q i cap (rks (A.take i)) rfl HO.out ⟨vb, 0, none⟩ 1 1 (rkc (rkT g)) rfl rfl HNW.out (rkc_one _) (by omega) ?_; intro w2 o2 gr2; obtain ⟨p1, p2⟩ := HW.out w2 o2 gr2; obtain ⟨w3, hclr, p3, p4⟩ := HCL.out w2 p1; have HP3 := hid p3; have HP4 := hid (p2.trans p4); clear p1 p2 p3 p4 o2 gr2)
    go_ret
    exact ⟨_, rfl, HP3.out, HP4.out⟩
theorem own_cap' {w : World} {B e s n c : Nat} {ao : Option Addr} {xs : List Value} (h : w.ownsRow B e s (.slice ao n c) n xs) : n ≤ c := by
  rcases h.2 with ⟨h0, h1⟩ | ⟨q, cap, cur, hv, _, _, hc, _⟩
  · omega
  · simp only [Value.slice.injEq] at hv
    omega
set_option maxHeartbeats 1000000 in
set_option maxRecDepth 100000 in
theorem repl_ins (B vb i : Nat) (A : List Tr) (g : Tr) (vo : Option Addr) (vc : Nat) (w : World) (h : w.ownsRow B 86 3 (.slice vo A.length vc) A.length (rks A)) (hB : B ≤ w.heap.size) (hl : A.length ≤ 100000000) (hi : i ≤ A.length) (hq : (Value.slice vo A.length vc).ownBlock ≠ some vb)
    (hv : w.heap[vb]? = some (.cells (rkc (rkT g)).toArray 86 (0, 0))) :
    Calls Tryz.prog 101 #[.slice vo A.length vc, .int .i64 (i : Int), .int .i64 (i : Int), .slice (some ⟨vb, 0, none⟩) 1 1] w fun e w' => ∃ v', e = .returned v' ∧ w'.ownsRow B 86 3 v' (A.length + 1) (rks (A.take i ++ g :: A.drop i)) ∧ Blw B (Value.slice vo A.length vc).ownBlock w w' := by
  have HI := hid (insert_any B vb i A g (.slice vo A.length vc) w h hB hl hi hq hv)
  have hcap := own_cap' h
  obtain ⟨n, hn⟩ : ∃ n, n = A.length := ⟨_, rfl⟩
  rw [← hn] at HI hi hcap hl ⊢
  have z0 : (0 : Int) ≤ (i : Int) := by omega
  have z2 : (i : Int) ≤ (vc : Int) := by omega
  have m2 : i ≤ vc := by omega
  clear h hn hq hv
  rcases vo with _ | a
  · go_enter Tryz.func101, Tryz.ntmps101
    go_wp2_with fail
    refine HI.out.mono ?_
    rintro e w1 ⟨v1, rfl, o1, b1⟩
    have HO := hid o1
    have HB := hid b1
    clear o1 b1 HI
    go_wp2
    go_ret
    exact ⟨_, rfl, HO.out, HB.out⟩
  · by_cases hb : vc = i
    · subst hb
      have hin : n = vc := by omega
      subst hin
      clear hcap hi z2 m2
      go_enter Tryz.func101, Tryz.ntmps101
      go_wp2_with fail
      refine HI.out.mono ?_
      rintro e w1 ⟨v1, rfl, o1, b1⟩
      have HO := hid o1
      have HB := hid b1
      clear o1 b1 HI
      go_wp2
      go_ret
      exact ⟨_, rfl, HO.out, HB.out⟩
    · go_enter Tryz.func101, Tryz.ntmps101
      go_wp2_with fail
      refine HI.out.mono ?_
      rintro e w1 ⟨v1, rfl, o1, b1⟩
      have HO := hid o1
      have HB := hid b1
      clear o1 b1 HI
      go_wp2
      go_ret
      exact ⟨_, rfl, HO.out, HB.out⟩
theorem replace_any (B vb i j : Nat) (A : List Tr) (g : Tr) (v : Value) (w : World) (h : w.ownsRow B 86 3 v A.length (rks A)) (hB : B ≤ w.heap.size) (hl : A.length ≤ 100000000) (hij : i ≤ j) (hj : j ≤ A.length) (hq : v.ownBlock ≠ some vb)
    (hv : w.heap[vb]? = some (.cells (rkc (rkT g)).toArray 86 (0, 0))) :
    Calls Tryz.prog 101 #[v, .int .i64 (i : Int), .int .i64 (j : Int), .slice (some ⟨vb, 0, none⟩) 1 1] w fun e w' => ∃ v', e = .returned v' ∧ w'.ownsRow B 86 3 v' (i + 1 + (A.length - j)) (rks (A.take i ++ g :: A.drop j)) ∧ Blw B v.ownBlock w w' := by
  obtain ⟨vo, vc, rfl⟩ := own_form h
  by_cases h1 : i = j
  · subst h1
    have h5 := repl_ins B vb i A g vo vc w h hB hl hj hq hv
    rw [show i + 1 + (A.length - i) = A.length + 1 by omega]
    exact h5
  · obtain ⟨q, cap', hve, hqB, hqw⟩ := h.form (by omega)
    cases hve
    by_cases h2 : j = A.length
    · subst h2
      have h5 := repl_end B vb q A.length vc i A g w h hB rfl hl (by omega) hv
      rw [show i + 1 + (A.length - A.length) = i + 1 by omega, List.drop_of_length_le (Nat.le_refl _)]
      exact h5
    · by_cases h3 : i + 1 = j
      · exact repl_one B vb q A.length vc i j A g w h rfl hl h3 (by omega) hv
      · exact repl_mid B vb q A.length vc i j A g w h rfl hl (by omega) (by omega) hv
end Go.Proofs.YtohhokjlgihbgaaGreatDoor
