/- Letters from a text's end: what stands between two sure bounds, the last first. Mathematics alone. -/
import Derived.Test.YtlfegdpclappiaaDoorGrBndJoint
import Derived.Test.YtlfegdpclappiaaDoorGrLaw
import Derived.Stop.RegionWithIn
import Derived.Test.YtlfegdpclappiaaDoorMixW
import Derived.Test.YtlfegdpclappiaaDoorWtTxtJoint
namespace Go.Proofs.YtlfegdpclappiaaDoor

/-- The letters of a text's first k runes, the last first. -/
def bkR (l : List UInt8) (k : Nat) : List (Nat × Nat) := (plc 0 (pcl gc ((rl l).take k))).reverse
theorem bkR_0 (l : List UInt8) : bkR l 0 = [] := rfl
theorem bkR_all (l : List UInt8) : bkR l (rl l).length = (gpF l 0).reverse := by
  unfold bkR
  rw [List.take_length]; rfl
theorem bk_step (l : List UInt8) (k : Nat) (h : k < (rl l).length) :
    bkR l (k + 1) = ((gpF ((l.take (pos l (k + 1))).drop (pos l (gsu l k))) 0).map fun x => (pos l (gsu l k) + x.1, pos l (gsu l k) + x.2)).reverse ++ bkR l (gsu l k) := by
  have hle := gsu_le l k
  have hlt : gsu l k < (rl l).length := by omega
  have hT : ((rl l).take (k + 1)).take (gsu l k) = (rl l).take (gsu l k) := by rw [List.take_take, Nat.min_eq_left (by omega)]
  have hp : pcl gc ((rl l).take (k + 1)) = pcl gc ((rl l).take (gsu l k)) ++ pcl gc (((rl l).take (k + 1)).drop (gsu l k)) := by
    rcases Nat.eq_zero_or_pos (gsu l k) with hz | hz
    · rw [hz]; rfl
    · have hs : gbt (((gcs l).take (gsu l k)).getLastD 0) (((gcs l).drop (gsu l k)).headD 3) = 0 := by
        rcases gsu_sure l k (Nat.le_of_lt h) with h0 | h0
        · omega
        · exact h0
      have hlt2 : gsu l k < (gcs l).length := by rw [gcs_len]; exact hlt
      have hlt3 : gsu l k < ((rl l).take (k + 1)).length := by rw [List.length_take]; omega
      rw [List.drop_eq_getElem_cons hlt2, List.headD_cons] at hs
      have e : (gcs l)[gsu l k] = gc (((rl l).take (k + 1))[gsu l k]) := by simp [gcs]
      rw [e] at hs
      have hq := pcl_sure gc gc_cl _ ((rl l).take (gsu l k)) (((rl l).take (k + 1))[gsu l k]) (((rl l).take (k + 1)).drop (gsu l k + 1)) (Nat.le_refl _) (fun e0 => by
        have := congrArg List.length e0
        rw [List.length_take] at this
        simp only [List.length_nil] at this
        omega) (by rw [List.map_take]; exact hs)
      rw [← List.drop_eq_getElem_cons hlt3, ← hT, List.take_append_drop, hT] at hq
      exact hq
  have hr : rl ((l.take (pos l (k + 1))).drop (pos l (gsu l k))) = ((rl l).take (k + 1)).drop (gsu l k) := rl_piece l _ _ (by omega) h
  unfold bkR
  rw [hp, plc_app, pcl_all gc _ _ (Nat.le_refl _), Nat.zero_add, List.reverse_append, gpF_0, hr]
  have e : psm ((rl l).take (gsu l k)) = pos l (gsu l k) := rfl
  rw [e, ← plc_shift (pcl gc (((rl l).take (k + 1)).drop (gsu l k))) 0 (pos l (gsu l k)), Nat.add_zero]; rfl
/-- A letter begins where the one ahead of it ends. -/
theorem plc_chain : ∀ (M : List (List (Nat × Nat))) (q i : Nat) (h : i < (plc q M).length), ((plc q M)[i]).1 = (q :: (plc q M).map (·.2))[i]'(by rw [List.length_cons, List.length_map]; omega)
  | [], q, i, h => by simp [plc] at h
  | x :: M, q, 0, h => rfl
  | x :: M, q, i + 1, h => by
    have ih := plc_chain M (q + psm x) i (by rw [plc, List.length_cons] at h; omega)
    simp only [plc, List.getElem_cons_succ, List.map_cons]
    exact ih
theorem seg_pos (l : List UInt8) (k : Nat) (h : k < (rl l).length) : pos l (gsu l k) < pos l (k + 1) := by
  have h1 := pos_leq l (gsu l k) k (gsu_le l k) (Nat.le_of_lt h)
  have h2 := pos_lt l k h
  omega
end Go.Proofs.YtlfegdpclappiaaDoor
/- The contract of Bounds (package grapheme). -/
namespace Go.Proofs.YtlfegdpclappiaaDoor
open Go.RowKit Go.Shelf
attribute [local go_sem] Oper.semAt_some

/-- The bounds that the letters tell. -/
def gtos {l : List UInt8} (xs : List (Pl l)) : List Int := 0 :: xs.map fun x => (x.v.2 : Int)
theorem gtos_snoc {l : List UInt8} (xs : List (Pl l)) (x : Pl l) : gtos (xs ++ [x]) = gtos xs ++ [(x.v.2 : Int)] := by simp [gtos]
set_option maxHeartbeats 4000000 in
theorem gbounds_in (l : List UInt8) (L : List (Pl l)) (hL : L.map Pl.v = gpF l 0) (w : World) (ht : TbW w) (hl : l.length ≤ 100000000) (hne : l ≠ []) :
    CallsIn Fence.wide 3 Tryd.prog 25 #[.string ⟨l.toArray⟩] w fun e W' => ∃ v, e = .returned v ∧ W'.ownsRow w.heap.size 3 1 v (gtos L).length (i64s (gtos L)) ∧ Below w.heap.size w W' := by
  obtain ⟨i0, hi, hz0, hz1, hz2⟩ := info_parts Tryd.info3
  have HT := hid ht
  have HLL := hid hL
  have hpl : L.length ≤ l.length := by
    obtain ⟨L2, h1, h2⟩ := gp_all l _ 0 (Nat.le_refl _)
    have e := congrArg List.length (hL.trans h1.symm)
    rw [List.length_map, List.length_map] at e
    omega
  have he : l.isEmpty = false := by simpa using hne
  clear ht hne hL
  refine callsIn_of_wp_marks Tryd.func25 rfl trivial ?_ rfl
  simp only [Tryd.ntmps25, List.size_toArray, List.length_cons, List.length_nil, Nat.reduceAdd, Nat.reduceSub, Array.replicate_succ, Array.replicate_zero, List.push_toArray, List.append_toArray, List.nil_append, List.cons_append]
  gi_wp2_with (refine ⟨trivial, ?_⟩; gi_at_call 23; refine (callsIn_wide.2 (geach_any l _)).mono ?_; rintro e w' ⟨rfl, rfl⟩)
  have hr0 : (w.alloc (.cells #[.int .i64 0] 3)).ownsRow w.heap.size 3 1 (.slice (some ⟨w.heap.size, 0, none⟩) 1 1) 1 (i64s (gtos ([] : List (Pl l)))) := World.ownsRow_lit w #[.int .i64 0] 1 (Nat.le_refl _) (by decide) (by simp)
  have bL := Boxed.new (w.alloc (.cells #[.int .i64 0] 3)) 50 (.slice (some ⟨w.heap.size, 0, none⟩) 1 1)
  rw [World.size_alloc] at bL
  have bS := Boxed.new ((w.alloc (.cells #[.int .i64 0] 3)).alloc (.cells #[.slice (some ⟨w.heap.size, 0, none⟩) 1 1] 50)) 9 (.string ⟨l.toArray⟩)
  rw [World.size_alloc, World.size_alloc] at bS
  have hB0 : Below w.heap.size w (((w.alloc (.cells #[.int .i64 0] 3)).alloc (.cells #[.slice (some ⟨w.heap.size, 0, none⟩) 1 1] 50)).alloc (.cells #[.string ⟨l.toArray⟩] 9)) := (((Below.refl _ _).alloc (Nat.le_refl _) _).alloc (by simp) _).alloc (by simp; omega) _
  have hEa : WaAt (w.heap.size + 1 + 1) l (((w.alloc (.cells #[.int .i64 0] 3)).alloc (.cells #[.slice (some ⟨w.heap.size, 0, none⟩) 1 1] 50)).alloc (.cells #[.string ⟨l.toArray⟩] 9)) := ⟨bS, HT.out.below hB0⟩
  have h2 := HT.out.two
  refine wpIn_rangeFunc_ownG rfl (by omega) (gf := 51) (lb := #[.pointer (some ⟨w.heap.size + 1 + 1, 0, none⟩)]) rfl trivial (enters_of Tryd.func51 (by kernel_rfl) rfl)
    (geach_stops (3 - 1) (by omega) (w.heap.size + 1 + 1) l L HLL.out _ hEa (by omega)) KrW_t (KrW_b hEa.lt) (Below.refl _ _) (fun _ => rfl)
    (fun pre W => ((∃ v, Boxed W (w.heap.size + 1) 50 v ∧ W.ownsRow w.heap.size 3 1 v (gtos pre).length (i64s (gtos pre)) ∧ True) ∧ Below w.heap.size w W) ∧ WaAt (w.heap.size + 1 + 1) l W)
    (fun _ _ _ => False)
    (OwnFrom.and (OwnFrom.and (Own.from (holdsRow_own w.heap.size (w.heap.size + 1) 50 3 1 (fun pre : List (Pl l) => (gtos pre).length) (fun pre => i64s (gtos pre)) (fun _ _ => True)) _) (ownFrom_below (Nat.le_refl _) (by simp; omega))) (waAt_from _ _ l (by simp)))
    (fun _ _ _ _ _ hs _ _ => hs)
    ⟨⟨⟨_, bL.alloc _, (hr0.alloc _).alloc _, trivial⟩, hB0⟩, hEa⟩
    (fun x => { tmps := #[.string ⟨l.toArray⟩, undef, .slice none 0 0, .pointer (some ⟨w.heap.size + 1, 0, none⟩), undef, .int .i64 (x.v.2 : Nat), .string ⟨l.toArray⟩, .bool false, .slice (some ⟨w.heap.size, 0, none⟩) 1 1, .string ⟨l.toArray⟩, .func (.func 51) #[] #[.pointer (some ⟨w.heap.size + 1 + 1, 0, none⟩)], .int .i64 (x.v.1 : Nat), .int .i64 (x.v.2 : Nat), undef, undef, undef, undef, undef], defers := [] }) ?assign ?body ?done ?stop
  case assign =>
    intro lp x W K hK
    dsimp only [encP]
    gi_wp2
    exact hK
  case body =>
    rintro lp pre x W ⟨⟨⟨v, hv, hrow, _⟩, hB⟩, hE⟩ hlt
    have hc := hv.cell
    have hBs := hB.size
    have hwl : (gtos pre).length ≤ 100000001 := by have h : (gtos pre).length = pre.length + 1 := by simp [gtos]
                                                   omega
    gi_wp2_with (gi_at_builtin; refine wpListIn_append_own _ rfl _ _ 50 rfl w.heap.size 3 i0 (.int .i64 0) 1 8 Tryd.underlying50 hi hz0 hz1 hz2 rfl (by decide) _ _ _ rfl (hrow.alloc _) ⟨W.heap.size, 0, none⟩ 1 1 [.int .i64 (x.v.2 : Nat)] rfl rfl (cell_one_new _ _ _) (by simp [Value.oneCell']) (by unfold maxLen; omega) (by omega) (by simp; omega) ?_; intro v' w3 hown' hgrow _; obtain ⟨g', cap', rfl⟩ := ownsRow_succ hown'; obtain ⟨hv1, hv2, hr2, hk2, hb2⟩ := hv.appended (by decide) hrow hB.size (by omega) hown' hgrow; have hc1 := hv1.cell; have hf1 := hv1.frozen)
    have hS1 : Boxed w3 (w.heap.size + 1 + 1) 9 (.string ⟨l.toArray⟩) := (hE.bs.alloc _).kept hgrow (hE.bs.not_row (by decide) hrow)
    have hKK : ∀ k, KW (w.heap.size + 1 + 1) k → (w3.setCell ⟨w.heap.size + 1, 0, none⟩ (.slice (some ⟨g', 0, none⟩) ((gtos pre).length + 1) cap')).heap[k]? = W.heap[k]? := by
      rintro k (rfl | hk)
      · exact ((grownBy_setCell' w3 (w.heap.size + 1) _).block _ hS1.lt (by simp)).trans (Eq.trans hS1 hE.bs.symm)
      · exact hb2.block k (by omega)
    exact ⟨hk2.from _, ⟨⟨hk2.size, fun k o h hw => hk2.same k o h (Obj.not_cells_of_walk hw)⟩, hKK⟩, ⟨⟨_, hv2, by rw [gtos_snoc, i64s_snoc, List.length_append]; exact hr2, trivial⟩, hB.trans hb2⟩, hE.keeps hb2.size hKK⟩
  case done =>
    rintro D ys W hD rfl ⟨⟨⟨v, hv, hrow, _⟩, hB⟩, _⟩ hK
    have hc := hv.cell
    gi_wp2
    refine ⟨by simp, .inl ⟨_, _, rfl, run_takeDeferred hK, ?_⟩⟩
    exact ⟨_, results_tmp rfl _ _ _, v, rfl, ownsRow_putObj hrow _ hK rfl, hB.trans (belowK_b (w := w) (Nat.le_refl _) W D _ _ (by simp at hD; omega) hK rfl rfl)⟩
  case stop =>
    rintro D c pre W _ _ h _
    exact h.elim
theorem gbounds_any (l : List UInt8) (L : List (Pl l)) (hL : L.map Pl.v = gpF l 0) (w : World) (ht : TbW w) (hl : l.length ≤ 100000000) (hne : l ≠ []) :
    Calls Tryd.prog 25 #[.string ⟨l.toArray⟩] w fun e W' => ∃ v, e = .returned v ∧ W'.ownsRow w.heap.size 3 1 v (gtos L).length (i64s (gtos L)) ∧ Below w.heap.size w W' := callsIn_wide.1 (gbounds_in l L hL w ht hl hne)
end Go.Proofs.YtlfegdpclappiaaDoor
/- The iterator of Back (package grapheme): it hands on the letters of a text, the last first. -/
namespace Go.Proofs.YtlfegdpclappiaaDoor
open Go.RowKit Go.Shelf
attribute [local go_sem] Oper.semAt_some

/-- What a body must leave as it was: the walks, some blocks, and rows of numbers from B on. -/
def KrB (K : Nat → Prop) (B : Nat) (W W' : World) : Prop := KrW K W W' ∧ ∀ k c fz, B ≤ k → W.heap[k]? = some (.cells c 3 fz) → W'.heap[k]? = some (.cells c 3 fz)
theorem KrB_t {K : Nat → Prop} {B : Nat} {X Y Z : World} (h : KrB K B X Y) (k : KrB K B Y Z) : KrB K B X Z := ⟨KrW_t h.1 k.1, fun i c fz hi h1 => k.2 i c fz hi (h.2 i c fz hi h1)⟩
theorem KrB_b {K : Nat → Prop} {B : Nat} {w : World} (hw : ∀ k, K k → k < w.heap.size) (W : World) (l : Nat) (o o' : Obj) (hl : w.heap.size ≤ l) (h : W.heap[l]? = some o) (hc : o.isCells = false) (hk : o.isWalk = false) : KrB K B W (W.putObj l o') :=
  ⟨KrW_b hw W l o o' hl h hc hk, fun k c fz _ h1 => (World.putObj_heap_other (fun e => by
    subst e
    rw [h] at h1
    cases h1
    cases hc)).trans h1⟩
/-- A row of bounds in memory. -/
def RwB (W : World) (g : Nat) (xs : List Int) : Prop := (∃ c fz, W.heap[g]? = some (.cells c 3 fz)) ∧ ∀ (i : Nat) (z : Int), xs[i]? = some z → W.cell? ⟨g, i, none⟩ = some (.int .i64 z)
theorem RwB.keeps {W W' : World} {g : Nat} {xs : List Int} (h : RwB W g xs) (hk : ∀ c fz, W.heap[g]? = some (.cells c 3 fz) → W'.heap[g]? = some (.cells c 3 fz)) : RwB W' g xs := by
  obtain ⟨⟨c, fz, h1⟩, h2⟩ := h
  have h3 := hk c fz h1
  exact ⟨⟨c, fz, h3⟩, fun i z hz => (World.cell?_of_block (w := W) (a := ⟨g, i, none⟩) (h3.trans h1.symm)).trans (h2 i z hz)⟩
theorem rwb_own {B n cap g : Nat} {xs : List Int} {w : World} (h : w.ownsRow B 3 1 (.slice (some ⟨g, 0, none⟩) n cap) n (i64s xs)) (hn : n = xs.length) : RwB w g xs ∧ B ≤ g := by
  rcases h.2 with ⟨h', _⟩ | ⟨q, cap', cur, h', hb, hg, hnc, hcm, hcs, htk⟩
  · cases h'
  · simp only [Value.slice.injEq, Option.some.injEq, Addr.mk.injEq, true_and, and_true] at h'
    obtain ⟨rfl, rfl⟩ := h'
    refine ⟨⟨⟨cur, _, hg⟩, fun i z hz => ?_⟩, hb⟩
    have hi := (List.getElem?_eq_some_iff.1 hz).1
    have h3 := h.cellAt i (by omega)
    rw [h3]
    unfold i64s
    rw [List.getElem?_map, hz]; rfl
theorem gtos_at {sg : List UInt8} (M : List (Pl sg)) (hM : M.map Pl.v = gpF sg 0) (i : Nat) (hi : i < M.length) : (gtos M)[i]? = some ((M[i]).v.1 : Int) ∧ (gtos M)[i + 1]? = some ((M[i]).v.2 : Int) := by
  have hp : gpF sg 0 = plc 0 (pcl gc (rl sg)) := gpF_0 sg
  have hil : i < (plc 0 (pcl gc (rl sg))).length := by rw [← hp, ← hM, List.length_map]; exact hi
  have h1 := plc_chain _ 0 i hil
  have e1 : (plc 0 (pcl gc (rl sg)))[i] = (M[i]).v := by
    have : (plc 0 (pcl gc (rl sg))) = M.map Pl.v := by rw [hM, hp]
    simp only [this, List.getElem_map]
  have e2 : (0 :: (plc 0 (pcl gc (rl sg))).map (·.2)) = 0 :: M.map (fun x => x.v.2) := by rw [← hp, ← hM, List.map_map]; rfl
  rw [e1] at h1
  refine ⟨?_, ?_⟩
  · have h2 : (0 :: M.map (fun x => x.v.2))[i]? = some ((M[i]).v.1) := by
      rw [← e2, List.getElem?_eq_getElem (by rw [List.length_cons, List.length_map]; omega), ← h1]
    have h3 : gtos M = (0 :: M.map (fun x => x.v.2)).map (fun (z : Nat) => (z : Int)) := by simp [gtos]
    rw [h3, List.getElem?_map, h2]; rfl
  · simp [gtos, hi]
theorem rest_step {l sg : List UInt8} (b : Nat) (M : List (Pl sg)) (r2 : List (Pl l)) (i : Nat) (hi : i < M.length) (h : r2.map Pl.v = ((M.take (i + 1)).map fun x => (b + x.v.1, b + x.v.2)).reverse) :
    ∃ x r', r2 = x :: r' ∧ x.v = (b + (M[i]).v.1, b + (M[i]).v.2) ∧ r'.map Pl.v = ((M.take i).map fun x => (b + x.v.1, b + x.v.2)).reverse := by
  rw [List.take_succ_eq_append_getElem hi, List.map_append, List.reverse_append] at h
  cases r2 with
  | nil => cases h
  | cons x r' =>
    have h' : x.v :: r'.map Pl.v = (b + (M[i]).v.1, b + (M[i]).v.2) :: ((M.take i).map fun x => (b + x.v.1, b + x.v.2)).reverse := h
    obtain ⟨h1, h2⟩ := List.cons.inj h'
    exact ⟨x, r', rfl, h1, h2⟩
set_option maxHeartbeats 8000000 in
set_option maxRecDepth 100000 in
theorem gback_stops (n : Nat) (hn : 3 ≤ n) (Bs B0 : Nat) (l : List UInt8) (L : List (Pl l)) (hL : L.map Pl.v = bkR l (rl l).length) (w : World) (hB0 : B0 ≤ w.heap.size) (hR : WaAt Bs l w) (hl : l.length ≤ 100000000) :
    SeqStopsK Fence.wide n Tryd.prog 62 #[.pointer (some ⟨Bs, 0, none⟩)] encP (KrB (KW Bs) B0) (fun xs => xs = L) (fun pre => pre <+: L) L.length w := fun lp J Jx W hbW hJ hJx hY h0 => by
  have HRW := hid (hR.below hbW)
  have hcW := HRW.out.bs.cell
  have HLL := hid hL
  have hBW : B0 ≤ W.heap.size := Nat.le_trans hB0 hbW.size
  clear hR hbW hL
  refine callsIn_of_wp Tryd.func62 rfl trivial ?_ rfl
  simp only [Tryd.ntmps62, List.size_toArray, List.length_cons, List.length_nil, Nat.reduceAdd, Nat.reduceSub, Array.replicate_succ, Array.replicate_zero, List.push_toArray, List.append_toArray, List.nil_append, List.cons_append]
  gi_wp2
  gi_loopw [3] (fun v wr => ∃ (p k : Nat) (pre rest : List (Pl l)), v = .int .i64 p ∧ p ≤ l.length ∧ Hid (p = pos l k) ∧ Hid (k ≤ (rl l).length) ∧ Hid (rest.map Pl.v = bkR l k) ∧ Hid (L = pre ++ rest) ∧ Hid (J pre wr) ∧ Hid (WaAt Bs l wr) ∧ B0 ≤ wr.heap.size) (fun v _ => (intOf v).toNat)
  case atStart => exact ⟨l.length, (rl l).length, [], L, rfl, Nat.le_refl _, (pos_all l _ (Nat.le_refl _)).symm, Nat.le_refl _, HLL, rfl, h0, HRW, hBW⟩
  case round =>
    obtain ⟨p, k, pre, rest, rfl, hp, HPK, HKN, HC, HP, HJ, HR, hBr⟩ := hrel
    clear hcW
    have hc := HR.out.bs.cell
    by_cases hlt : 0 < p
    · have hlti : (0 : Int) < (p : Int) := by omega
      obtain ⟨k', hk'⟩ : ∃ k', k = k' + 1 := ⟨k - 1, by
        rcases Nat.eq_zero_or_pos k with h | h
        · have h1 := HPK.out; rw [h, pos_0] at h1; omega
        · omega⟩
      subst hk'
      have hkn : k' < (rl l).length := HKN.out
      have HBK := hid (show backE l (p : Int) = (pos l k' : Nat) by rw [HPK.out]; exact back_pos l k' hkn)
      have HST := hid (bk_step l k' hkn)
      rw [← HPK.out] at HST
      have hBp : pos l (gsu l k') < p := by rw [HPK.out]; exact seg_pos l k' hkn
      have HGL := hid (gsu_le l k')
      obtain ⟨b, hb⟩ : ∃ b, b = pos l (gsu l k') := ⟨_, rfl⟩
      obtain ⟨q, hq⟩ : ∃ q, q = pos l k' := ⟨_, rfl⟩
      rw [← hb] at HST hBp
      rw [← hq] at HBK
      have HBE := hid hb
      have HQ := hid hq
      have HKL := hid hkn
      clear hb hq hkn
      obtain ⟨sg, hsg⟩ : ∃ sg, sg = (l.take p).drop b := ⟨_, rfl⟩
      rw [← hsg] at HST
      have HEX := hid (show (⟨l.toArray⟩ : ByteArray).extract b p = ⟨sg.toArray⟩ by rw [hsg]; exact ext_piece l b p (by omega))
      have hsl : sg.length = p - b := by rw [hsg, List.length_drop, List.length_take]; omega
      have HSL := hid hsl
      have HSN := hid (show sg ≠ [] from fun e => by rw [e] at hsl; simp only [List.length_nil] at hsl; omega)
      clear hsg hsl
      obtain ⟨M, hM, hMl⟩ := gp_all sg _ 0 (Nat.le_refl _)
      have HM := hid hM
      have hml : M.length ≤ 100000000 := by have := HSL.out; omega
      clear hM hMl
      gi_wp2
      refine wpIn_region_mixW _ [(0, true), (1, true), (2, true), (3, false), (4, false), (5, false)] (fun w' => w'.cell? ⟨Bs, 0, none⟩ = some (.string ⟨l.toArray⟩)) (fun j => j == 5) (by kernel_rfl) (by kernel_rfl) (by kernel_rfl) ?hs rfl (by kernel_rfl) hc ?hm
      case hs =>
        intro j hj
        have e : j = 5 := by simpa using hj
        subst e
        decide
      iterate 3 (refine mix_free ?_ rfl (by kernel_rfl) (fun w' hS => ?_) ?_; (rotate_left; (go_simp; with_reducible rfl); rotate_left))
      refine mix_go rfl (by kernel_rfl) fun KK hKK => ?_
      go_simp
      have HRd := hid (HR.out.below ((Below.refl _ _).drew))
      refine (back_any l (p : Int) wr.drew (by omega) HRd.out.tb.tabs HRd.out.tb.two).mono ?_
      rintro e w1 ⟨rfl, be1⟩
      rw [HBK.out]
      have HE1 := hid (show Below wr.heap.size wr w1 from ((Below.refl _ _).drew).trans be1)
      have HR1 := hid (HRd.out.below be1)
      refine hKK _ _ (fun _ => HR1.out.bs.cell) ?_
      clear hKK KK be1
      refine mix_go rfl (by kernel_rfl) fun KK hKK => ?_
      go_simp
      refine (gsure_any l k' q w1 HR1.out.tb (by omega) (Nat.le_of_lt HKL.out) HQ.out).mono ?_
      rintro e w2 ⟨rfl, be2⟩
      rw [← HBE.out]
      have HE2 := hid (HE1.out.trans (be2.mono HE1.out.size))
      have HR2 := hid (HR1.out.below be2)
      refine hKK _ _ (fun _ => HR2.out.bs.cell) ?_
      clear hKK KK be2
      refine mix_go rfl (by kernel_rfl) fun KK hKK => ?_
      go_simp
      refine hKK _ _ (fun h => by cases h) ?_
      clear hKK KK
      refine mix_end (OnlyN.in ?_)
      have hc2 := HR2.out.bs.cell
      clear hc
      gi_wp2_with fail
      rw [HEX.out]
      refine ⟨trivial, fun _ => by omega, (callsIn_wide.2 (gbounds_any sg M HM.out w2 HR2.out.tb (by have := HSL.out; omega) HSN.out)).mono ?_⟩
      rintro e w3 ⟨v, rfl, hown, be3⟩
      have hgl : (gtos M).length = M.length + 1 := by simp [gtos]
      rw [hgl] at hown
      obtain ⟨g, cap, rfl⟩ := ownsRow_succ hown
      obtain ⟨hrw, hg⟩ := rwb_own hown (by rw [hgl])
      have HE3 := hid (HE2.out.trans (be3.mono HE2.out.size))
      have HRW3 := hid hrw
      have HR3 := hid (HR2.out.below be3)
      have hgB : B0 ≤ g := by have := HE2.out.size; omega
      have HJ3 := hid (hJ pre wr w3 none HJ.out (wgrown HE3.out) (fun r e => by cases e))
      have hB3 : B0 ≤ w3.heap.size := by have := HE3.out.size; omega
      clear hown be3 hrw hg hgl hc2 HR HR1 HR2 HRd HJ HE1 HE2 HE3
      obtain ⟨R1, R2, rfl, hR1, hR2⟩ : ∃ R1 R2, rest = R1 ++ R2 ∧ R1.map Pl.v = ((M.take M.length).map fun x => (b + x.v.1, b + x.v.2)).reverse ∧ R2.map Pl.v = bkR l (gsu l k') := by
        have h := HC.out
        rw [HST.out, ← HM.out, List.map_map] at h
        obtain ⟨R1, R2, e1, e2, e3⟩ := List.map_eq_append_iff.1 h
        exact ⟨R1, R2, e1, by rw [List.take_length]; exact e2, e3⟩
      have HR2L := hid hR2
      have HR1L := hid hR1
      have HGT := hid (gtos_at M HM.out)
      have HRS := hid (fun r2 i hi h => rest_step (l := l) b M r2 i hi h)
      have HPM := hid (show ∀ i (hi : i < M.length), (M[i]).v.1 ≤ 100000000 ∧ (M[i]).v.2 ≤ 100000000 from fun i hi => by
        have h1 := (M[i]).lt
        have h2 := (M[i]).le
        have h3 := HSL.out
        omega)
      clear hR1 hR2 HC HST
      have hw3 : W.heap.size ≤ W.heap.size := Nat.le_refl _
      gi_wp2
      gi_loopw [6] (fun v wr2 => ∃ (i : Nat) (pre2 r2 : List (Pl l)), v = .int .i64 i ∧ i ≤ M.length ∧ Hid (r2.map Pl.v = ((M.take i).map fun x => (b + x.v.1, b + x.v.2)).reverse) ∧ Hid (L = pre2 ++ (r2 ++ R2)) ∧ Hid (J pre2 wr2) ∧ Hid (WaAt Bs l wr2) ∧ Hid (RwB wr2 g (gtos M)) ∧ B0 ≤ wr2.heap.size) (fun v _ => (intOf v).toNat)
      case atStart => exact ⟨M.length, pre, R1, by go_num, Nat.le_refl _, HR1L, HP, HJ3, HR3, HRW3, hB3⟩
      case round =>
        obtain ⟨i, pre2, r2, rfl, hiM, HR2M, HP2, HJ2, HRa, HRb, hB2⟩ := hrel
        clear HJ3 HR3 HRW3 HP HR1L
        by_cases hi0 : 0 < i
        · have hi0i : (0 : Int) < (i : Int) := by omega
          obtain ⟨i', hi'⟩ : ∃ i', i = i' + 1 := ⟨i - 1, by omega⟩
          subst hi'
          have him : i' < M.length := by omega
          obtain ⟨x, r', hr2, hxv, hr'⟩ := HRS.out r2 i' him HR2M.out
          subst hr2
          obtain ⟨t1, t2⟩ := HGT.out i' him
          obtain ⟨m1, m2⟩ := HPM.out i' him
          obtain ⟨f, hf⟩ : ∃ f, f = (M[i']).v.1 := ⟨_, rfl⟩
          obtain ⟨y, hy⟩ : ∃ y, y = (M[i']).v.2 := ⟨_, rfl⟩
          rw [← hf] at t1 m1 hxv
          rw [← hy] at t2 m2 hxv
          have q1 : wr.drew.cell? ⟨g, i', none⟩ = some (.int .i64 f) := HRb.out.2 i' _ t1
          have q2 : wr.drew.cell? ⟨g, i' + 1, none⟩ = some (.int .i64 y) := HRb.out.2 (i' + 1) _ t2
          have HJd := hid (hJ pre2 wr wr.drew none HJ2.out (wgrown ((Below.refl _ _).drew)) (fun r e => by cases e))
          have HXV := hid hxv
          have HR' := hid hr'
          have HPX := hid (show L = (pre2 ++ [x]) ++ (r' ++ R2) by rw [HP2.out]; simp)
          obtain ⟨fn, tmps, assign, body, hyy, hRR⟩ := hY pre2 x wr.drew HJd.out (by rw [HPX.out]; simp)
          dsimp only [encP] at hyy
          rw [hxv] at hyy
          simp only [Int.natCast_add] at hyy
          have wi : IntKind.i64.wrap (i' : Int) = (i' : Int) := by rw [IntKind.wrap_i64]; omega
          have wi2 : IntKind.i64.wrap ((i' : Int) + 1 - 1) = (i' : Int) := by rw [IntKind.wrap_i64]; omega
          have wf : IntKind.i64.wrap ((b : Int) + f) = (b : Int) + f := by rw [IntKind.wrap_i64]; omega
          have wy : IntKind.i64.wrap ((b : Int) + y) = (b : Int) + y := by rw [IntKind.wrap_i64]; omega
          have z1 : (0 : Int) ≤ (i' : Int) + 1 := by omega
          have z2 : (0 : Int) ≤ (i' : Int) := by omega
          have z3 : (i' : Int) < (M.length : Int) + 1 := by omega
          have z4 : (i' : Int) + 1 < (M.length : Int) + 1 := by omega
          clear hf hy hxv hr' t1 t2
          gi_wp2
          refine wpIn_region_any (by kernel_rfl) ?_
          change wpAnyIn _ _ _ _ _ _ _ _ _ (World.drew _)
          refine wpAnyIn_take (i := 0) (v := ?_) rfl rfl (by kernel_rfl) (by kernel_rfl) (by kernel_rfl) (fun _ _ _ h => h) ⟨Or.inl ⟨by rfl, ?_⟩, fun _ => rfl⟩ ?_
          rotate_left
          · intro w
            go_simp
            with_reducible rfl
          refine wpAnyIn_take (i := 1) (v := ?_) rfl rfl (by kernel_rfl) (by kernel_rfl) (by kernel_rfl) (fun _ _ _ h => h) ⟨Or.inl ⟨by rfl, ?_⟩, fun _ => rfl⟩ ?_
          rotate_left
          · intro w
            go_simp
            with_reducible rfl
          refine wpAnyIn_take (i := 2) (v := ?_) rfl rfl (by kernel_rfl) (by kernel_rfl) (by kernel_rfl) (fun _ _ _ h => h) ⟨Or.inl ⟨by rfl, ?_⟩, fun _ => rfl⟩ ?_
          rotate_left
          · intro w
            go_simp
            with_reducible rfl
          refine wpAnyIn_take (i := 3) (v := ?_) rfl rfl (by kernel_rfl) (by kernel_rfl) (by kernel_rfl) (fun _ _ _ h => h) ⟨Or.inl ⟨by rfl, ?_⟩, fun _ => rfl⟩ ?_
          rotate_left
          · intro w
            go_simp
            with_reducible rfl
          refine wpAnyIn_take (i := 4) (v := ?_) rfl rfl (by kernel_rfl) (by kernel_rfl) (by kernel_rfl) (fun _ _ _ h => h) ⟨Or.inl ⟨by rfl, ?_⟩, fun _ => rfl⟩ ?_
          rotate_left
          · intro w
            go_simp
            with_reducible rfl
          refine wpAnyIn_take (i := 5) (v := ?_) rfl rfl (by kernel_rfl) (by kernel_rfl) (by kernel_rfl) (fun _ _ _ h => h) ⟨Or.inl ⟨by rfl, ?_⟩, fun _ => rfl⟩ ?_
          rotate_left
          · intro w
            go_simp
            with_reducible rfl
          refine wpAnyIn_take (i := 8) (v := ?_) rfl rfl (by kernel_rfl) (by kernel_rfl) (by kernel_rfl) (fun _ _ _ h => h) ⟨Or.inl ⟨by rfl, ?_⟩, fun _ => rfl⟩ ?_
          rotate_left
          · intro w
            go_simp
            with_reducible rfl
          refine wpAnyIn_take (i := 9) (v := ?_) rfl rfl (by kernel_rfl) (by kernel_rfl) (by kernel_rfl) (fun _ _ _ h => h) ⟨Or.inl ⟨by rfl, ?_⟩, fun _ => rfl⟩ ?_
          rotate_left
          · intro w
            go_simp
            with_reducible rfl
          refine wpAnyIn_take (i := 10) (v := ?_) rfl rfl (by kernel_rfl) (by kernel_rfl) (by kernel_rfl) (fun _ _ _ h => h) ⟨Or.inl ⟨by rfl, ?_⟩, fun _ => rfl⟩ ?_
          rotate_left
          · intro w
            go_simp
            with_reducible rfl
          refine wpAnyIn_take (i := 11) (v := ?_) rfl rfl (by kernel_rfl) (by kernel_rfl) (by kernel_rfl) (fun _ _ _ h => h) ⟨Or.inl ⟨by rfl, ?_⟩, fun _ => rfl⟩ ?_
          rotate_left
          · intro w
            go_simp
            with_reducible rfl
          refine wpAnyIn_ready (rs := [6, 12]) (by kernel_rfl) (by simp) ?_
          refine AllReadyIn.cons rfl (fun KA hKA => ?_) ?_
          · go_simp
            refine hKA _ _ ?_
            clear hKA KA
            refine wpAnyIn_take (i := 7) (v := ?_) rfl rfl (by kernel_rfl) (by kernel_rfl) (by kernel_rfl) (fun _ _ _ h => h) ⟨Or.inl ⟨by rfl, ?_⟩, fun _ => rfl⟩ ?_
            rotate_left
            · intro w
              go_simp
              with_reducible rfl
            refine wpAnyIn_ready (rs := [12]) (by kernel_rfl) (by simp) ?_
            refine AllReadyIn.cons rfl (fun KB hKB => ?_) ?_
            · go_simp
              refine hKB _ _ ?_
              clear hKB KB
              refine wpAnyIn_take (i := 13) (v := ?_) rfl rfl (by kernel_rfl) (by kernel_rfl) (by kernel_rfl) (fun _ _ _ h => h) ⟨Or.inl ⟨by rfl, ?_⟩, fun _ => rfl⟩ ?_
              rotate_left
              · intro w
                go_simp
                with_reducible rfl
              refine wpAnyIn_ready (rs := [14]) (by kernel_rfl) (by simp) ?_
              refine AllReadyIn.cons rfl (fun KY hKY => ?_) AllReadyIn.nil
              go_simp
              refine ⟨fun _ => by omega, hRR.mono ?_⟩
              rintro e W3 (⟨rfl, hJ3, hk3⟩ | ⟨rfl, hJx3⟩)
              · have HJ3 := hid hJ3
                have HR3 := hid (HRa.out.keeps (w' := W3) hk3.1.1.size (fun k hk => hk3.1.2 k hk))
                have HB3 := hid (HRb.out.keeps (W' := W3) (fun c fz h => hk3.2 g c fz hgB h))
                have hB4 : B0 ≤ W3.heap.size := Nat.le_trans hB2 hk3.1.1.size
                refine hKY _ _ ?_
                clear hKY KY hJ3 hk3
                refine wpAnyIn_take (i := 15) (v := ?_) rfl rfl (by kernel_rfl) (by kernel_rfl) (by kernel_rfl) (fun _ _ _ h => h) ⟨Or.inl ⟨by rfl, ?_⟩, fun _ => rfl⟩ ?_
                rotate_left
                · intro w
                  go_simp
                  with_reducible rfl
                refine wpAnyIn_done (by kernel_rfl) ?_ _
                gi_wp2
                go_roundw
                case rel => exact ⟨i', pre2 ++ [x], r', by go_num, by omega, HR', HPX, HJ3, HR3, HB3, hB4⟩
                case measure => simp [intOf]
              · have HJX := hid hJx3
                refine hKY _ _ ?_
                clear hKY KY hJx3
                refine wpAnyIn_take (i := 15) (v := ?_) rfl rfl (by kernel_rfl) (by kernel_rfl) (by kernel_rfl) (fun _ _ _ h => h) ⟨Or.inl ⟨by rfl, ?_⟩, fun _ => rfl⟩ ?_
                rotate_left
                · intro w
                  go_simp
                  with_reducible rfl
                refine wpAnyIn_done (by kernel_rfl) ?_ _
                gi_wp2
                refine bodyPost_ret (results_none rfl _ _ _) rfl ?_
                exact ⟨⟨_, rfl⟩, .inr ⟨pre2 ++ [x], ⟨r' ++ R2, HPX.out.symm⟩, HJX.out⟩⟩
            · exact AllReadyIn.nil
          · refine AllReadyIn.cons rfl (fun KA hKA => ?_) ?_
            · go_simp
              refine hKA _ _ ?_
              clear hKA KA
              refine wpAnyIn_take (i := 13) (v := ?_) rfl rfl (by kernel_rfl) (by kernel_rfl) (by kernel_rfl) (fun _ _ _ h => h) ⟨Or.inl ⟨by rfl, ?_⟩, fun _ => rfl⟩ ?_
              rotate_left
              · intro w
                go_simp
                with_reducible rfl
              refine wpAnyIn_ready (rs := [6]) (by kernel_rfl) (by simp) ?_
              refine AllReadyIn.cons rfl (fun KB hKB => ?_) ?_
              · go_simp
                refine hKB _ _ ?_
                clear hKB KB
                refine wpAnyIn_take (i := 7) (v := ?_) rfl rfl (by kernel_rfl) (by kernel_rfl) (by kernel_rfl) (fun _ _ _ h => h) ⟨Or.inl ⟨by rfl, ?_⟩, fun _ => rfl⟩ ?_
                rotate_left
                · intro w
                  go_simp
                  with_reducible rfl
                refine wpAnyIn_ready (rs := [14]) (by kernel_rfl) (by simp) ?_
                refine AllReadyIn.cons rfl (fun KY hKY => ?_) AllReadyIn.nil
                go_simp
                refine ⟨fun _ => by omega, hRR.mono ?_⟩
                rintro e W3 (⟨rfl, hJ3, hk3⟩ | ⟨rfl, hJx3⟩)
                · have HJ3 := hid hJ3
                  have HR3 := hid (HRa.out.keeps (w' := W3) hk3.1.1.size (fun k hk => hk3.1.2 k hk))
                  have HB3 := hid (HRb.out.keeps (W' := W3) (fun c fz h => hk3.2 g c fz hgB h))
                  have hB4 : B0 ≤ W3.heap.size := Nat.le_trans hB2 hk3.1.1.size
                  refine hKY _ _ ?_
                  clear hKY KY hJ3 hk3
                  refine wpAnyIn_take (i := 15) (v := ?_) rfl rfl (by kernel_rfl) (by kernel_rfl) (by kernel_rfl) (fun _ _ _ h => h) ⟨Or.inl ⟨by rfl, ?_⟩, fun _ => rfl⟩ ?_
                  rotate_left
                  · intro w
                    go_simp
                    with_reducible rfl
                  refine wpAnyIn_done (by kernel_rfl) ?_ _
                  gi_wp2
                  go_roundw
                  case rel => exact ⟨i', pre2 ++ [x], r', by go_num, by omega, HR', HPX, HJ3, HR3, HB3, hB4⟩
                  case measure => simp [intOf]
                · have HJX := hid hJx3
                  refine hKY _ _ ?_
                  clear hKY KY hJx3
                  refine wpAnyIn_take (i := 15) (v := ?_) rfl rfl (by kernel_rfl) (by kernel_rfl) (by kernel_rfl) (fun _ _ _ h => h) ⟨Or.inl ⟨by rfl, ?_⟩, fun _ => rfl⟩ ?_
                  rotate_left
                  · intro w
                    go_simp
                    with_reducible rfl
                  refine wpAnyIn_done (by kernel_rfl) ?_ _
                  gi_wp2
                  refine bodyPost_ret (results_none rfl _ _ _) rfl ?_
                  exact ⟨⟨_, rfl⟩, .inr ⟨pre2 ++ [x], ⟨r' ++ R2, HPX.out.symm⟩, HJX.out⟩⟩
              · exact AllReadyIn.nil
            · exact AllReadyIn.nil
        · have hi0i : ¬ (0 : Int) < (i : Int) := by omega
          obtain rfl : i = 0 := by omega
          obtain rfl : r2 = [] := List.map_eq_nil_iff.1 HR2M.out
          have HPE := hid (show L = pre2 ++ R2 from HP2.out)
          gi_wp2
          go_roundw
          case rel => exact ⟨b, gsu l k', pre2, R2, rfl, by omega, HBE, by show gsu l k' ≤ _; have := HGL.out; have := HKL.out; omega, HR2L, HPE, HJ2, HRa, hB2⟩
          case measure => simp [intOf]; omega
    · have hlti : ¬ (0 : Int) < (p : Int) := by omega
      have HE := hid (show L = pre by
        have hk0 : k = 0 := by
          rcases Nat.eq_zero_or_pos k with h | h
          · exact h
          · obtain ⟨k', rfl⟩ : ∃ k', k = k' + 1 := ⟨k - 1, by omega⟩
            have h1 := pos_lt l k' HKN.out
            have h2 := HPK.out
            omega
        have h := HC.out
        rw [hk0, bkR_0] at h
        rw [HP.out, List.map_eq_nil_iff.1 h, List.append_nil])
      gi_wp2
      go_end0
      exact ⟨⟨_, rfl⟩, .inl (by rw [HE.out]; exact HJ.out)⟩
end Go.Proofs.YtlfegdpclappiaaDoor
