/- The mathematics of GraphemeWhole: what is never cut, flags by twos, cut and joined again, turned. -/
import Derived.Test.YtlfegdpclappiaaDoorGrPlcJoint
import Derived.Test.YtlfegdpclappiaaDoorGrTurnJoint
import Derived.Test.YtlfegdpclappiaaDoorGrBndJoint
import Derived.Test.YtlfegdpclappiaaDoorGrLaw
import Derived.Test.YtlfegdpclappiaaDoorMixIn
import Derived.Test.YtlfegdpclappiaaDoorGrLivJoint
namespace Go.Proofs.YtlfegdpclappiaaDoor
open Go.RowKit

theorem take_last (l : List UInt8) (i : Nat) (h0 : 0 < i) (h : i < (rl l).length) : (((rl l).take i).map gc).getLastD 0 = gc (rl l)[i - 1] := by
  obtain ⟨j, rfl⟩ : ∃ j, i = j + 1 := ⟨i - 1, by omega⟩
  rw [List.take_succ_eq_append_getElem (by omega), List.map_append]
  simp
theorem joined_no (l : List UInt8) (i : Nat) (h0 : 0 < i) (h : i < (rl l).length) (hg : gbt (gc (rl l)[i - 1]) (gc (rl l)[i]) = 1) : ¬ Gis l (pos l i) := by
  intro hG
  obtain ⟨h1, h2⟩ := gis_cut _ _ hG
  rw [rl_take l i (by omega), rl_drop l i (by omega)] at h2
  have hd : (rl l).drop i = (rl l)[i] :: (rl l).drop (i + 1) := List.drop_eq_getElem_cons h
  rw [hd] at h2
  have h3 : rl l = (rl l).take i ++ (rl l)[i] :: (rl l).drop (i + 1) := by rw [← hd, List.take_append_drop]
  refine pcl_keep gc gc_cl (pcl gc ((rl l).take i)) (pcl gc ((rl l)[i] :: (rl l).drop (i + 1))) ((rl l).take i) (rl l)[i] ((rl l).drop (i + 1)) ?_ ?_ ?_ ?_
  · intro e
    have := congrArg List.length e
    rw [List.length_take, List.length_nil, Nat.min_eq_left (by omega)] at this
    omega
  · rw [take_last l i h0 h]; exact hg
  · rw [← h2, ← h3]
  · exact pcl_all gc _ _ (Nat.le_refl _)
theorem pcl_head (b : Nat × Nat) (B : List (Nat × Nat)) : ∃ x M, pcl gc (b :: B) = x :: M := ⟨_, _, pcl_cons gc (b :: B) (by simp)⟩
theorem cut_yes (l : List UInt8) (i : Nat) (h0 : 0 < i) (h : i < (rl l).length) (hg : gbt (gc (rl l)[i - 1]) (gc (rl l)[i]) = 0) : Gis l (pos l i) := by
  have hd : (rl l).drop i = (rl l)[i] :: (rl l).drop (i + 1) := List.drop_eq_getElem_cons h
  have h3 : rl l = (rl l).take i ++ (rl l)[i] :: (rl l).drop (i + 1) := by rw [← hd, List.take_append_drop]
  have hne : (rl l).take i ≠ [] := by
    intro e
    have := congrArg List.length e
    rw [List.length_take, List.length_nil, Nat.min_eq_left (by omega)] at this
    omega
  have h4 := pcl_sure gc gc_cl _ ((rl l).take i) (rl l)[i] ((rl l).drop (i + 1)) (Nat.le_refl _) hne (by rw [take_last l i h0 h]; exact hg)
  rw [← h3] at h4
  obtain ⟨x, M, hM⟩ := pcl_head ((rl l)[i]) ((rl l).drop (i + 1))
  rw [hM] at h4
  unfold Gis
  rw [gpF_0, h4, plc_app, pcl_all gc _ _ (Nat.le_refl _)]
  refine ⟨(0 + psm ((rl l).take i), 0 + psm ((rl l).take i) + psm x), List.mem_append_right _ (List.mem_cons_self ..), ?_⟩
  show 0 + psm ((rl l).take i) = pos l i
  rw [Nat.zero_add]; rfl
/-- What the law calls joined, and cut. -/
def jnd (p c : Int) : Prop := (p = 1 ∧ c = 2) ∨ (p ≠ 1 ∧ p ≠ 2 ∧ p ≠ 3 ∧ (c = 4 ∨ c = 5 ∨ c = 6))
theorem gbt_jnd (p c : Int) (h : jnd p c) : gbt p c = 1 := by
  unfold gbt galone
  rcases h with ⟨rfl, rfl⟩ | ⟨h1, h2, h3, h4⟩
  · rfl
  · rw [if_neg (by omega)]
    rcases h4 with rfl | rfl | rfl <;> simp [h1, h2, h3]
theorem gbt_cut (p c : Int) (h : ¬ jnd p c) (hc : p = 1 ∨ p = 2 ∨ p = 3 ∨ c = 1 ∨ c = 2 ∨ c = 3) : gbt p c = 0 := by
  unfold gbt galone
  have h0 : ¬ (p = 1 ∧ c = 2) := fun h1 => h (.inl h1)
  rw [if_neg h0, if_pos]
  simp
  omega
/-- x and so many flags. -/
def flg (k : Nat) : List UInt8 := 120 :: (List.replicate k [240, 159, 135, 166]).flatten
theorem flg_succ (k : Nat) : flg (k + 1) = flg k ++ [240, 159, 135, 166] := by
  unfold flg
  rw [List.replicate_succ', List.flatten_append]; simp
theorem flg_len (k : Nat) : (flg k).length = 4 * k + 1 := by
  induction k with
  | zero => rfl
  | succ k ih => rw [flg_succ, List.length_append, ih]; simp; omega
theorem flg_cnt' : ∀ k : Fin 21, gcnt (flg k) = 1 + (k.1 + 1) / 2 := by decide +kernel
theorem flg_cnt (k : Nat) (h : k ≤ 20) : gcnt (flg k) = 1 + (k + 1) / 2 := flg_cnt' ⟨k, by omega⟩
theorem trP_sum (l : List UInt8) : ∀ xs : List (Nat × Nat), (trP l xs).length = (xs.map fun x => min x.2 l.length - x.1).sum
  | [] => rfl
  | x :: xs => by
    have e : trP l (x :: xs) = (l.take x.2).drop x.1 ++ trP l xs := rfl
    rw [e, List.length_append, trP_sum l xs, List.length_drop, List.length_take]; simp
theorem plc_sum (n : Nat) : ∀ (M : List (List (Nat × Nat))) (q : Nat), q + psm M.flatten ≤ n → ((plc q M).map fun x => min x.2 n - x.1).sum = psm M.flatten
  | [], _, _ => rfl
  | x :: M, q, h => by
    rw [List.flatten_cons, psm_app] at h
    rw [plc, List.map_cons, List.sum_cons, plc_sum n M _ (by omega), List.flatten_cons, psm_app]
    show min (q + psm x) n - q + _ = _
    omega
theorem trn_len (l : List UInt8) : (trn l).length = l.length := by
  unfold trn
  rw [trP_sum, List.map_reverse, List.sum_reverse, gpF_0, plc_sum]
  · rw [pcl_all gc _ _ (Nat.le_refl _)]; exact rl_sum _ l (Nat.le_refl _)
  · rw [pcl_all gc _ _ (Nat.le_refl _), rl_sum _ l (Nat.le_refl _)]; omega
theorem plq_cnt (l : List UInt8) (n : Int) (p : Nat) (h : PlQ l n p) (h0 : 0 ≤ n) (h1 : n ≤ gcnt l) : (gcnt (l.take p) : Int) = n := by
  obtain ⟨P, Q, e1, rfl, e3⟩ := h
  have h3 := pcl_all gc _ (rl l) (Nat.le_refl _)
  rw [e1, List.flatten_append] at h3
  obtain ⟨k1, _⟩ := cut_at l _ _ h3.symm
  obtain ⟨k2, _⟩ := pcl_cut gc P Q _ e1
  unfold gcnt
  rw [k1, k2]
  exact e3 h0 h1
end Go.Proofs.YtlfegdpclappiaaDoor
/- The contracts of Around and Is (package grapheme). -/
namespace Go.Proofs.YtlfegdpclappiaaDoor
open Go.RowKit Go.Shelf
attribute [local go_sem] Oper.semAt_some

set_option maxHeartbeats 4000000 in
set_option maxRecDepth 100000 in
theorem garound_in (l : List UInt8) (p : Nat) (w : World) (ht : TbW w) (hl : l.length ≤ 100000000) (hp : p < l.length) :
    CallsIn Fence.wide 3 Tryd.prog 35 #[.string ⟨l.toArray⟩, .int .i64 p] w fun e W' => ∃ f t : Nat, e = .returned (.tuple #[.int .i64 f, .int .i64 t]) ∧ (Gis l p ↔ f = p) ∧ Below w.heap.size w W' := by
  have HT := hid ht
  clear ht
  obtain ⟨k, hk, hk1, hk2⟩ := rune_at l p hp
  have HBK := hid (back_rune l p k hk hk1 hk2)
  have HK := hid hk
  have HK1 := hid hk1
  obtain ⟨B, hB⟩ : ∃ B, B = pos l (gsu l k) := ⟨_, rfl⟩
  have hBl : B ≤ l.length := by rw [hB]; exact pos_le l _ (by have := gsu_le l k; omega)
  have hBp : B ≤ p := by
    have := pos_leq l (gsu l k) k (gsu_le l k) (Nat.le_of_lt hk)
    omega
  have HBE := hid hB
  obtain ⟨q, hq⟩ : ∃ q, q = pos l k := ⟨_, rfl⟩
  have hql : q ≤ l.length := by rw [hq]; exact pos_le l k (Nat.le_of_lt hk)
  have HQ := hid hq
  rw [← hq] at HBK
  clear hk hk1 hk2 hB hq
  obtain ⟨L, hL, hLl⟩ := gp_all (l.drop B) _ 0 (Nat.le_refl _)
  have HL := hid hL
  have HDL := hid (show (l.drop B).length ≤ 1000000000 by rw [List.length_drop]; omega)
  have HAR := hid (around_is l p k B HK.out HK1.out HBE.out L)
  have HLA := hid (gp_last (l.drop B) (drop_ne l B (by omega)))
  clear hL hLl
  have hpi : (p : Int) < (l.length : Int) := by omega
  refine callsIn_of_wp_marks Tryd.func35 rfl trivial ?_ rfl
  simp only [Tryd.ntmps35, List.size_toArray, List.length_cons, List.length_nil, Nat.reduceAdd, Nat.reduceSub, Array.replicate_succ, Array.replicate_zero, List.push_toArray, List.append_toArray, List.nil_append, List.cons_append]
  gi_wp2_with fail
  have hsz3 : (((w.alloc (.cells #[.int .i64 p] 3)).alloc (.cells #[.int .i64 0] 3)).alloc (.cells #[.int .i64 0] 3)).heap.size = w.heap.size + 3 := by simp
  have b0 := ((Boxed.new w 3 (.int .i64 p)).alloc (.cells #[.int .i64 0] 3)).alloc (.cells #[.int .i64 0] 3)
  have b1 := (Boxed.new (w.alloc (.cells #[.int .i64 p] 3)) 3 (.int .i64 0)).alloc (.cells #[.int .i64 0] 3)
  have b2 := Boxed.new ((w.alloc (.cells #[.int .i64 p] 3)).alloc (.cells #[.int .i64 0] 3)) 3 (.int .i64 0)
  rw [World.size_alloc] at b1
  rw [World.size_alloc, World.size_alloc] at b2
  have hB0 : Below w.heap.size w (((w.alloc (.cells #[.int .i64 p] 3)).alloc (.cells #[.int .i64 0] 3)).alloc (.cells #[.int .i64 0] 3)) := (((Below.refl _ _).alloc (Nat.le_refl _) _).alloc (by simp) _).alloc (by simp; omega) _
  obtain ⟨w0, hw0⟩ : ∃ w0, w0 = ((w.alloc (.cells #[.int .i64 p] 3)).alloc (.cells #[.int .i64 0] 3)).alloc (.cells #[.int .i64 0] 3) := ⟨_, rfl⟩
  rw [← hw0] at b0 b1 b2 hsz3 hB0 ⊢
  have HW0 := hid hw0
  have HT0 := hid (HT.out.below hB0)
  clear hw0
  refine ⟨trivial, (callsIn_wide.2 (back_any l ((p : Int) + 1) w0 (by omega) HT0.out.tabs HT0.out.two)).mono ?_⟩
  rintro e w1 ⟨rfl, be1⟩
  rw [HBK.out]
  have HT1 := hid (HT0.out.below be1)
  gi_wp2_with fail
  refine ⟨trivial, (callsIn_wide.2 (gsure_any l k q w1 HT1.out (by omega) (Nat.le_of_lt HK.out) HQ.out)).mono ?_⟩
  rintro e w2 ⟨rfl, be2⟩
  rw [← HBE.out]
  have hB02 := be1.trans (be2.mono be1.size)
  have hs02 := hB02.size
  have HT2 := hid (HT0.out.below hB02)
  have b02 : Boxed w2 w.heap.size 3 (.int .i64 p) := (hB02.block _ b0.lt).trans b0
  have b12 : Boxed w2 (w.heap.size + 1) 3 (.int .i64 0) := (hB02.block _ b1.lt).trans b1
  have b22 : Boxed w2 (w.heap.size + 1 + 1) 3 (.int .i64 0) := (hB02.block _ b2.lt).trans b2
  have HBw2 := hid (hB0.trans (hB02.mono hB0.size))
  clear be1 be2 hB02 b0 b1 b2 HT1 HT0 HBK hB0
  gi_wp2_with fail
  rw [ext_drop]
  refine ⟨trivial, (callsIn_wide.2 (geach_any (l.drop B) _)).mono ?_⟩
  rintro e w' ⟨rfl, rfl⟩
  have b3 := (Boxed.new w2 3 (.int .i64 B)).alloc (.cells #[.string ⟨(l.drop B).toArray⟩] 9)
  have b4 := Boxed.new (w2.alloc (.cells #[.int .i64 B] 3)) 9 (.string ⟨(l.drop B).toArray⟩)
  have hB3 : Below w2.heap.size w2 ((w2.alloc (.cells #[.int .i64 B] 3)).alloc (.cells #[.string ⟨(l.drop B).toArray⟩] 9)) := ((Below.refl _ _).alloc (Nat.le_refl _) _).alloc (by simp) _
  have hs3 : ((w2.alloc (.cells #[.int .i64 B] 3)).alloc (.cells #[.string ⟨(l.drop B).toArray⟩] 9)).heap.size = w2.heap.size + 2 := by simp
  rw [World.size_alloc] at b4 ⊢
  obtain ⟨w3, hw3⟩ : ∃ w3, w3 = (w2.alloc (.cells #[.int .i64 B] 3)).alloc (.cells #[.string ⟨(l.drop B).toArray⟩] 9) := ⟨_, rfl⟩
  rw [← hw3] at b3 b4 hB3 hs3 ⊢
  clear hw3
  obtain ⟨N, hN⟩ : ∃ N, N = w.heap.size := ⟨_, rfl⟩
  obtain ⟨M, hM⟩ : ∃ M, M = w2.heap.size := ⟨_, rfl⟩
  rw [hsz3] at hs02
  rw [← hM] at b3 b4 hB3 hs3 hs02 ⊢
  rw [← hN] at b02 b12 b22 HBw2 hs02 ⊢
  have hNM : N + 3 ≤ M := hs02
  have HEa := hid (show WaAt (M + 1) (l.drop B) w3 from ⟨b4, HT2.out.below (by rw [← hM]; exact hB3)⟩)
  have HB0 := hid (show Boxed w3 N 3 (.int .i64 p) from (hB3.block _ (by omega)).trans b02)
  have HB1 := hid (show Boxed w3 (N + 1) 3 (.int .i64 0) from (hB3.block _ (by omega)).trans b12)
  have HB2 := hid (show Boxed w3 (N + 1 + 1) 3 (.int .i64 0) from (hB3.block _ (by omega)).trans b22)
  have HB3 := hid b3
  have HBw := hid (show Below N w w3 from HBw2.out.trans (hB3.mono (by omega)))
  have h2 : 2 ≤ N := by rw [hN]; exact HT.out.two
  have HS3 := hid hs3
  have HN := hid hN
  clear b02 b12 b22 b3 b4 hB3 HT2 HBw2 HW0 hsz3 hs02 hs3 hN hM
  gi_wp2
  refine rfF (M + 1) (fun k => k = N + 1 ∨ k = N + 1 + 1) L (by omega) rfl HL.out HEa.out HDL.out rfl (fun k hk => by rintro (h | h) <;> omega)
    (fun pre W => (((∀ y ∈ pre, B + y.v.2 ≤ p) ∧ Boxed W N 3 (.int .i64 p)) ∧ Boxed W (N + 1) 3 (.int .i64 0)) ∧ Boxed W (N + 1 + 1) 3 (.int .i64 0) ∧ Boxed W M 3 (.int .i64 B))
    (fun c pre W => c = .ret ∧ ∃ (pr : List (Pl (l.drop B))) (x : Pl (l.drop B)), pre = pr ++ [x] ∧ (∀ y ∈ pr, B + y.v.2 ≤ p) ∧ p < B + x.v.2 ∧ Boxed W (N + 1) 3 (.int .i64 (B + x.v.1 : Nat)) ∧ Boxed W (N + 1 + 1) 3 (.int .i64 (B + x.v.2 : Nat)))
    (OwnFrom.and (OwnFrom.and (OwnFrom.and (ownFrom_pure _ _) (Own.from (boxed_own _ _ _) _)) (Own.from (boxed_own _ _ _) _)) (OwnFrom.and (Own.from (boxed_own _ _ _) _) (Own.from (boxed_own _ _ _) _)))
    (fun c _ A C row hs hg hr => by
      obtain ⟨e, pr, x, e1, e2, e3, e4, e5⟩ := hs
      exact ⟨e, pr, x, e1, e2, e3, boxed_keep e4 hg hr, boxed_keep e5 hg hr⟩)
    ⟨⟨⟨by simp, HB0.out⟩, HB1.out⟩, HB2.out, HB3.out⟩ 7 8 ?assign ?body ?done ?stop
  case assign =>
    intro lp x W K hK
    dsimp only [encP]
    gi_wp2
    simpa [fr, encP] using hK
  case body =>
    rintro lp pre x W ⟨⟨⟨hpre, v0⟩, v1⟩, v2, v3⟩ hb he hlt
    have hx1 := x.lt
    have hx2 := x.le
    rw [List.length_drop] at hx2
    obtain ⟨f, hf⟩ : ∃ f, f = x.v.1 := ⟨_, rfl⟩
    obtain ⟨t, hx⟩ : ∃ t, t = x.v.2 := ⟨_, rfl⟩
    dsimp only [fr, encP]
    rw [← hf, ← hx] at hx1 ⊢
    rw [← hx] at hx2
    have HF := hid hf
    have HX := hid hx
    clear hf hx
    have c0 := v0.cell
    have c3 := v3.cell
    have HV := hid (And.intro v0 (And.intro v1 (And.intro v2 v3)))
    have HPRE := hid hpre
    clear hpre
    by_cases hgt : p < B + t
    · have hgi : (p : Int) < (B : Int) + t := by omega
      have f1 := v1.frozen
      have f2 := v2.frozen
      have e1 := v1.cell
      have e2 := v2.cell
      have hKV := HV.out
      have wf : IntKind.i64.wrap ((B : Int) + f) = (B : Int) + f := by rw [IntKind.wrap_i64]; omega
      have wt : IntKind.i64.wrap ((B : Int) + t) = (B : Int) + t := by rw [IntKind.wrap_i64]; omega
      clear v0 v1 v2 v3
      gi_wp2
      refine wpIn_region_mix lp _ [(0, true), (1, true), (2, true), (3, true), (4, true), (5, true), (6, false), (7, false)] (fun w' => w'.cell? ⟨M, 0, none⟩ = some (.int .i64 B)) (fun _ => false) (by kernel_rfl) (by kernel_rfl) (by kernel_rfl) (fun j hj => by cases hj) rfl (by kernel_rfl) c3 ?hm
      iterate 6 (refine mix_free ?_ rfl (by kernel_rfl) (fun w' hS => ?_) ?_; (rotate_left; (go_simp; with_reducible rfl); rotate_left))
      refine mix_go rfl (by kernel_rfl) fun KK hKK => ?_
      have f1d : W.drew.frozen? ⟨N + 1, 0, none⟩ = false := f1
      have e1d : W.drew.cell? ⟨N + 1, 0, none⟩ = some (.int .i64 0) := e1
      go_simp
      refine hKK _ _ (fun _ => ?_) ?_
      · exact (bdrew (hKV.2.2.2.other (B' := N + 1) (by omega) _)).cell
      clear hKK KK
      have v1' := bdrew (hKV.2.1.set (.int .i64 ((B : Int) + f)))
      have v2' := bdrew (hKV.2.2.1.other (B' := N + 1) (by omega) (.int .i64 ((B : Int) + f)))
      obtain ⟨W1, hW1⟩ : ∃ W1, W1 = (W.setCell ⟨N + 1, 0, none⟩ (.int .i64 ((B : Int) + f))).drew := ⟨_, rfl⟩
      have HBS := hid (show BS (fun k => k = N + 1 ∨ k = N + 1 + 1) W W1 by rw [hW1]; exact (BS.set W (N + 1) _ (.inl rfl)).trans (BS.drew _))
      rw [← hW1] at v1' v2' ⊢
      clear hW1
      refine mix_go rfl (by kernel_rfl) fun KK hKK => ?_
      have f2d := v2'.frozen
      have e2d := v2'.cell
      go_simp
      refine hKK _ _ (fun _ => ?_) ?_
      · have hM1 : Boxed W1 M 3 (.int .i64 B) := HBS.out.boxed hKV.2.2.2 (fun h => by omega)
        exact (hM1.other (B' := N + 1 + 1) (by omega) _).cell
      clear hKK KK
      refine mix_end (OnlyN.in ?_)
      gi_wp2
      refine ⟨HBS.out.trans (BS.set W1 (N + 1 + 1) _ (.inr rfl)), rfl, pre, x, rfl, HPRE.out, by rw [← HX.out]; exact hgt, ?_, ?_⟩
      · rw [← HF.out]
        exact v1'.other (B' := N + 1 + 1) (by omega) _
      · rw [← HX.out]
        exact v2'.set _
    · have hgi : ¬ (p : Int) < (B : Int) + t := by omega
      have hKV := HV.out
      clear v0 v1 v2 v3
      gi_wp2
      refine ⟨BS.refl _ _, ⟨⟨fun y hy => ?_, hKV.1⟩, hKV.2.1⟩, hKV.2.2⟩
      rcases List.mem_append.1 hy with hy | hy
      · exact HPRE.out y hy
      · rw [List.mem_singleton.1 hy, ← HX.out]
        omega
  case done =>
    rintro D W hD ⟨⟨⟨hall, _⟩, _⟩, _, _⟩ _ _
    exfalso
    obtain ⟨y, hy, hye⟩ := HLA.out
    rw [← HL.out] at hy
    obtain ⟨x, hx, rfl⟩ := List.mem_map.1 hy
    have := hall x hx
    rw [hye, List.length_drop] at this
    omega
  case stop =>
    rintro D c pre W hD hp' ⟨rfl, pr, x, rfl, e2, e3, e4, e5⟩ hb hK
    gi_wp2
    refine ⟨by simp, .inl ⟨_, _, rfl, run_takeDeferred hK, ?_⟩⟩
    have c4 := cell_kept e4.cell (grownBy_putObj' _ D (.deferred none)) (fun r e => by cases e; exact ⟨_, hK, rfl⟩)
    have c5 := cell_kept e5.cell (grownBy_putObj' _ D (.deferred none)) (fun r e => by cases e; exact ⟨_, hK, rfl⟩)
    refine ⟨_, ?_, B + x.v.1, B + x.v.2, rfl, HAR.out pr HL.out x hp' e2 e3, ?_⟩
    · simp [results, Tryd.f35, go_sem, c4, c5]
    · have hs3 := HS3.out
      have hn := HN.out
      rw [← hn]
      exact (HBw.out.trans (hb.lower N (fun k hk => by omega) (by omega))).trans (belowK_b (w := w) (by omega) W D _ _ (by omega) hK rfl rfl)
theorem garound_any (l : List UInt8) (p : Nat) (w : World) (ht : TbW w) (hl : l.length ≤ 100000000) (hp : p < l.length) :
    Calls Tryd.prog 35 #[.string ⟨l.toArray⟩, .int .i64 p] w fun e W' => ∃ f t : Nat, e = .returned (.tuple #[.int .i64 f, .int .i64 t]) ∧ (Gis l p ↔ f = p) ∧ Below w.heap.size w W' := callsIn_wide.1 (garound_in l p w ht hl hp)
/-- Is at a place within a text. -/
theorem gis_any (l : List UInt8) (p : Nat) (w : World) (ht : TbW w) (hl : l.length ≤ 100000000) (hp : p < l.length) :
    Calls Tryd.prog 11 #[.string ⟨l.toArray⟩, .int .i64 p] w fun e W' => ∃ v : Bool, e = .returned (.bool v) ∧ (v = true ↔ Gis l p) ∧ Below w.heap.size w W' := by
  have hpi : (p : Int) < (l.length : Int) := by omega
  have HT := hid ht
  clear ht
  go_enter Tryd.func11, Tryd.ntmps11
  go_wp2_with fail
  refine (garound_any l p w HT.out hl hp).mono ?_
  rintro e w1 ⟨f, t, rfl, hG, hb⟩
  have HG := hid hG
  have HB := hid hb
  clear hG hb
  go_wp2
  go_ret
  exact ⟨_, rfl, by rw [HG.out, beq_iff_eq]; omega, HB.out⟩
end Go.Proofs.YtlfegdpclappiaaDoor
/- The walk of GraphemeWhole. -/
namespace Go.Proofs.YtlfegdpclappiaaDoor
open Go.RowKit Go.Shelf

theorem wcat2 (a b : List UInt8) : (⟨a.toArray⟩ ++ ⟨b.toArray⟩ : ByteArray) = ⟨(a ++ b).toArray⟩ := by
  apply ByteArray.ext
  simp
set_option maxHeartbeats 8000000 in
set_option maxRecDepth 100000 in
theorem whole_main (l : List UInt8) (g : Nat) (n : Int) (w : World) (hl : l.length ≤ 120) (hg : g ≤ 20) (hn : n ≤ 9223372036854775807) (htb : Ev.Tbs tabs w) (ht : TbW w) :
    Calls Tryd.prog 3 #[.string ⟨l.toArray⟩, .int .i64 g, .int .i64 n] w fun e w' => e = .returned (.bool true) ∧ Below w.heap.size w w' := by
  have HT := hid ht
  have HTB := hid htb
  obtain ⟨N, hN⟩ : ∃ N, N = w.heap.size := ⟨_, rfl⟩
  have HLV := hid (fun W (h : Below N w W) => lives11 W (HT.out.below (by rw [← hN]; exact h)) (tbs_below HTB.out (by rw [← hN]; exact h)))
  have HTT := hid (fun W (h : Below N w W) => HT.out.below (by rw [← hN]; exact h))
  have hli : ¬ (120 : Int) < (l.length : Int) := by omega
  have hg0 : ¬ (g : Int) < 0 := by omega
  have hg1 : ¬ (20 : Int) < (g : Int) := by omega
  have HN := hid hN
  clear ht htb hN
  go_enter Tryd.func3, Tryd.ntmps3
  go_wp2
  go_loopw [7, 8] (fun f i wr => ∃ k : Nat, k ≤ g ∧ i = .int .i64 k ∧ f = .string ⟨(flg k).toArray⟩ ∧ wr = w) (fun _ i _ => g - (intOf i).toNat)
  case atStart => exact ⟨0, by omega, rfl, rfl, rfl⟩
  case round =>
    obtain ⟨k, hk, rfl, rfl, hwr⟩ := hrel
    obtain rfl := hwr.symm
    clear hwr
    by_cases hlt : k < g
    · have i3 : (k : Int) < (g : Int) := by omega
      have hfl : (flg k).length ≤ 100 := by rw [flg_len]; omega
      go_wp2
      rw [wcat2, ← flg_succ]
      go_roundw
      case rel => exact ⟨k + 1, by omega, by go_num, rfl, trivial⟩
      case measure => simp [intOf]; omega
    · obtain rfl : k = g := by omega
      have i3 : ¬ (k : Int) < (k : Int) := by omega
      go_wp2_with fail
      refine (gcount_any (flg k) w (HTT.out _ (Below.refl _ _)) (by rw [flg_len]; omega)).mono ?_
      rintro e w1 ⟨rfl, be1⟩
      rw [flg_cnt k hg]
      have HB1 := hid (show Below N w w1 by rw [HN.out]; exact be1)
      clear be1
      go_wp2_with fail
      refine (runes_any l w1 (by omega)).mono ?_
      rintro e w2 ⟨v, rfl, hown, be2⟩
      have hpn := prs_len2 l
      rw [hpn] at hown
      obtain ⟨vo, vc, rfl⟩ := wown_slice hown
      have HQ2 := hid (rdq_own hown rfl)
      have HB2 := hid (HB1.out.trans (be2.mono (by have := HB1.out.size; have := HN.out; omega)))
      obtain ⟨m, hm⟩ : ∃ m, m = (rl l).length := ⟨_, rfl⟩
      rw [← hm]
      have hml : m ≤ 120 := by rw [hm, ← hpn]; exact Nat.le_trans (prs_len l) hl
      have HM := hid hm
      have hs2 := HB2.out.size
      clear hown hpn be2 hm HB1
      go_wp2
      go_loopw [10, 11] (fun a i wx => ∃ k : Nat, k ≤ m ∧ i = .int .i64 k ∧ a = .int .i64 (pos l k : Nat) ∧ Hid (Below w2.heap.size w2 wx)) (fun _ i _ => m - (intOf i).toNat)
      case atStart => exact ⟨0, by omega, rfl, rfl, Below.refl _ _⟩
      case round =>
        obtain ⟨i, him, rfl, rfl, HX⟩ := hrel
        by_cases hlt : i < m
        · have hlti : (i : Int) < (m : Int) := by omega
          have hil : i < (rl l).length := by rw [← HM.out]; exact hlt
          obtain ⟨ad, rfl, _, hcell⟩ := HQ2.out.below HX.out i ((rl l)[i]) (List.getElem?_eq_getElem hil)
          obtain ⟨r, hr⟩ : ∃ r : Int, r = (((rl l)[i]).1 : Int) := ⟨_, rfl⟩
          have HR := hid (show gpcls r = gc (rl l)[i] by rw [hr]; rfl)
          rw [← hr] at hcell
          clear hr
          go_wp2_with fail
          refine (gpcls_any r _).mono ?_
          rintro e W2 ⟨rfl, hW2⟩
          obtain rfl := hW2.symm
          clear hW2 hcell
          obtain ⟨c, hc⟩ : ∃ k, k = gpcls r := ⟨_, rfl⟩
          rw [← hc] at HR ⊢
          clear hc
          have HXN := hid HX.out
          have HTN := hid (HTT.out _ (HB2.out.trans (HX.out.mono (by have := HN.out; omega))))
          by_cases hi0 : i = 0
          · have hip : ¬ (0 : Int) < (i : Int) := by omega
            clear HX hi0
            go_wp2_with fail
            refine (on_any l (pos l i : Nat) _ (by omega) HTN.out.tabs HTN.out.two).mono ?_
            rintro e W9 ⟨rfl, be9⟩
            rw [on_pos l i hil]
            have HX9 := hid (HXN.out.trans (be9.mono HXN.out.size))
            clear be9 HXN HTN
            go_wp2
            go_roundw
            case rel => exact ⟨i + 1, by omega, by go_num, rfl, HX9⟩
            case measure => simp [intOf]; omega
          · have hip : (0 : Int) < (i : Int) := by omega
            obtain ⟨ad2, had2, _, hcell⟩ := HQ2.out.below HX.out (i - 1) ((rl l)[i - 1]) (List.getElem?_eq_getElem (by omega))
            obtain rfl := Option.some.inj had2
            obtain ⟨r2, hr2⟩ : ∃ r : Int, r = (((rl l)[i - 1]).1 : Int) := ⟨_, rfl⟩
            have HR2 := hid (show gpcls r2 = gc (rl l)[i - 1] by rw [hr2]; rfl)
            rw [← hr2] at hcell
            clear hr2 had2 HX
            go_wp2_with fail
            refine (gpcls_any r2 _).mono ?_
            rintro e W2 ⟨rfl, hW2⟩
            obtain rfl := hW2.symm
            clear hW2 hcell
            obtain ⟨p, hp⟩ : ∃ k, k = gpcls r2 := ⟨_, rfl⟩
            rw [← hp] at HR2 ⊢
            clear hp
            by_cases hp1 : p = 1
            · subst hp1
              by_cases hc2 : c = 2
              · subst hc2
                go_wp2_with fail
                refine (gis_any l (pos l i) _ HTN.out (by omega) (pos_end l i hil)).mono ?_
                rintro e W8 ⟨v, rfl, hv, be8⟩
                have HXN2 := hid (HXN.out.trans (be8.mono HXN.out.size))
                have HTN2 := hid (HTN.out.below be8)
                clear be8 HXN HTN
                have HXN := HXN2
                have HTN := HTN2
                clear HXN2 HTN2
                obtain rfl : v = false := by
                  cases v with
                  | false => rfl
                  | true => exact absurd (hv.1 rfl) (joined_no l i (by omega) hil (by rw [← HR.out, ← HR2.out]; exact gbt_jnd _ _ (.inl ⟨rfl, rfl⟩)))
                clear hv
                go_wp2_with fail
                refine (on_any l (pos l i : Nat) _ (by omega) HTN.out.tabs HTN.out.two).mono ?_
                rintro e W9 ⟨rfl, be9⟩
                rw [on_pos l i hil]
                have HX9 := hid (HXN.out.trans (be9.mono HXN.out.size))
                clear be9 HXN HTN
                go_wp2
                go_roundw
                case rel => exact ⟨i + 1, by omega, by go_num, rfl, HX9⟩
                case measure => simp [intOf]; omega
              · have bc2 : (c == 2) = false := beq_eq_false_iff_ne.2 hc2
                have nc2 : (c != 2) = true := bne_iff_ne.2 hc2
                go_wp2_with fail
                refine (gis_any l (pos l i) _ HTN.out (by omega) (pos_end l i hil)).mono ?_
                rintro e W8 ⟨v, rfl, hv, be8⟩
                have HXN2 := hid (HXN.out.trans (be8.mono HXN.out.size))
                have HTN2 := hid (HTN.out.below be8)
                clear be8 HXN HTN
                have HXN := HXN2
                have HTN := HTN2
                clear HXN2 HTN2
                obtain rfl : v = true := hv.2 (cut_yes l i (by omega) hil (by rw [← HR.out, ← HR2.out]; exact gbt_cut _ _ (by unfold jnd; omega) (by omega)))
                clear hv
                go_wp2_with fail
                refine (on_any l (pos l i : Nat) _ (by omega) HTN.out.tabs HTN.out.two).mono ?_
                rintro e W9 ⟨rfl, be9⟩
                rw [on_pos l i hil]
                have HX9 := hid (HXN.out.trans (be9.mono HXN.out.size))
                clear be9 HXN HTN
                go_wp2
                go_roundw
                case rel => exact ⟨i + 1, by omega, by go_num, rfl, HX9⟩
                case measure => simp [intOf]; omega
            · by_cases hp2 : p = 2
              · subst hp2
                go_wp2_with fail
                refine (gis_any l (pos l i) _ HTN.out (by omega) (pos_end l i hil)).mono ?_
                rintro e W8 ⟨v, rfl, hv, be8⟩
                have HXN2 := hid (HXN.out.trans (be8.mono HXN.out.size))
                have HTN2 := hid (HTN.out.below be8)
                clear be8 HXN HTN
                have HXN := HXN2
                have HTN := HTN2
                clear HXN2 HTN2
                obtain rfl : v = true := hv.2 (cut_yes l i (by omega) hil (by rw [← HR.out, ← HR2.out]; exact gbt_cut _ _ (by unfold jnd; omega) (by omega)))
                clear hv
                go_wp2_with fail
                refine (on_any l (pos l i : Nat) _ (by omega) HTN.out.tabs HTN.out.two).mono ?_
                rintro e W9 ⟨rfl, be9⟩
                rw [on_pos l i hil]
                have HX9 := hid (HXN.out.trans (be9.mono HXN.out.size))
                clear be9 HXN HTN
                go_wp2
                go_roundw
                case rel => exact ⟨i + 1, by omega, by go_num, rfl, HX9⟩
                case measure => simp [intOf]; omega
              · by_cases hp3 : p = 3
                · subst hp3
                  go_wp2_with fail
                  refine (gis_any l (pos l i) _ HTN.out (by omega) (pos_end l i hil)).mono ?_
                  rintro e W8 ⟨v, rfl, hv, be8⟩
                  have HXN2 := hid (HXN.out.trans (be8.mono HXN.out.size))
                  have HTN2 := hid (HTN.out.below be8)
                  clear be8 HXN HTN
                  have HXN := HXN2
                  have HTN := HTN2
                  clear HXN2 HTN2
                  obtain rfl : v = true := hv.2 (cut_yes l i (by omega) hil (by rw [← HR.out, ← HR2.out]; exact gbt_cut _ _ (by unfold jnd; omega) (by omega)))
                  clear hv
                  go_wp2_with fail
                  refine (on_any l (pos l i : Nat) _ (by omega) HTN.out.tabs HTN.out.two).mono ?_
                  rintro e W9 ⟨rfl, be9⟩
                  rw [on_pos l i hil]
                  have HX9 := hid (HXN.out.trans (be9.mono HXN.out.size))
                  clear be9 HXN HTN
                  go_wp2
                  go_roundw
                  case rel => exact ⟨i + 1, by omega, by go_num, rfl, HX9⟩
                  case measure => simp [intOf]; omega
                · by_cases hc1 : c = 1
                  · subst hc1
                    have bp1 : (p == 1) = false := beq_eq_false_iff_ne.2 hp1
                    have np1 : (p != 1) = true := bne_iff_ne.2 hp1
                    have bp2 : (p == 2) = false := beq_eq_false_iff_ne.2 hp2
                    have np2 : (p != 2) = true := bne_iff_ne.2 hp2
                    have bp3 : (p == 3) = false := beq_eq_false_iff_ne.2 hp3
                    have np3 : (p != 3) = true := bne_iff_ne.2 hp3
                    go_wp2_with fail
                    refine (gis_any l (pos l i) _ HTN.out (by omega) (pos_end l i hil)).mono ?_
                    rintro e W8 ⟨v, rfl, hv, be8⟩
                    have HXN2 := hid (HXN.out.trans (be8.mono HXN.out.size))
                    have HTN2 := hid (HTN.out.below be8)
                    clear be8 HXN HTN
                    have HXN := HXN2
                    have HTN := HTN2
                    clear HXN2 HTN2
                    obtain rfl : v = true := hv.2 (cut_yes l i (by omega) hil (by rw [← HR.out, ← HR2.out]; exact gbt_cut _ _ (by unfold jnd; omega) (by omega)))
                    clear hv
                    go_wp2_with fail
                    refine (on_any l (pos l i : Nat) _ (by omega) HTN.out.tabs HTN.out.two).mono ?_
                    rintro e W9 ⟨rfl, be9⟩
                    rw [on_pos l i hil]
                    have HX9 := hid (HXN.out.trans (be9.mono HXN.out.size))
                    clear be9 HXN HTN
                    go_wp2
                    go_roundw
                    case rel => exact ⟨i + 1, by omega, by go_num, rfl, HX9⟩
                    case measure => simp [intOf]; omega
                  · by_cases hc2 : c = 2
                    · subst hc2
                      have bp1 : (p == 1) = false := beq_eq_false_iff_ne.2 hp1
                      have np1 : (p != 1) = true := bne_iff_ne.2 hp1
                      have bp2 : (p == 2) = false := beq_eq_false_iff_ne.2 hp2
                      have np2 : (p != 2) = true := bne_iff_ne.2 hp2
                      have bp3 : (p == 3) = false := beq_eq_false_iff_ne.2 hp3
                      have np3 : (p != 3) = true := bne_iff_ne.2 hp3
                      go_wp2_with fail
                      refine (gis_any l (pos l i) _ HTN.out (by omega) (pos_end l i hil)).mono ?_
                      rintro e W8 ⟨v, rfl, hv, be8⟩
                      have HXN2 := hid (HXN.out.trans (be8.mono HXN.out.size))
                      have HTN2 := hid (HTN.out.below be8)
                      clear be8 HXN HTN
                      have HXN := HXN2
                      have HTN := HTN2
                      clear HXN2 HTN2
                      obtain rfl : v = true := hv.2 (cut_yes l i (by omega) hil (by rw [← HR.out, ← HR2.out]; exact gbt_cut _ _ (by unfold jnd; omega) (by omega)))
                      clear hv
                      go_wp2_with fail
                      refine (on_any l (pos l i : Nat) _ (by omega) HTN.out.tabs HTN.out.two).mono ?_
                      rintro e W9 ⟨rfl, be9⟩
                      rw [on_pos l i hil]
                      have HX9 := hid (HXN.out.trans (be9.mono HXN.out.size))
                      clear be9 HXN HTN
                      go_wp2
                      go_roundw
                      case rel => exact ⟨i + 1, by omega, by go_num, rfl, HX9⟩
                      case measure => simp [intOf]; omega
                    · by_cases hc3 : c = 3
                      · subst hc3
                        have bp1 : (p == 1) = false := beq_eq_false_iff_ne.2 hp1
                        have np1 : (p != 1) = true := bne_iff_ne.2 hp1
                        have bp2 : (p == 2) = false := beq_eq_false_iff_ne.2 hp2
                        have np2 : (p != 2) = true := bne_iff_ne.2 hp2
                        have bp3 : (p == 3) = false := beq_eq_false_iff_ne.2 hp3
                        have np3 : (p != 3) = true := bne_iff_ne.2 hp3
                        go_wp2_with fail
                        refine (gis_any l (pos l i) _ HTN.out (by omega) (pos_end l i hil)).mono ?_
                        rintro e W8 ⟨v, rfl, hv, be8⟩
                        have HXN2 := hid (HXN.out.trans (be8.mono HXN.out.size))
                        have HTN2 := hid (HTN.out.below be8)
                        clear be8 HXN HTN
                        have HXN := HXN2
                        have HTN := HTN2
                        clear HXN2 HTN2
                        obtain rfl : v = true := hv.2 (cut_yes l i (by omega) hil (by rw [← HR.out, ← HR2.out]; exact gbt_cut _ _ (by unfold jnd; omega) (by omega)))
                        clear hv
                        go_wp2_with fail
                        refine (on_any l (pos l i : Nat) _ (by omega) HTN.out.tabs HTN.out.two).mono ?_
                        rintro e W9 ⟨rfl, be9⟩
                        rw [on_pos l i hil]
                        have HX9 := hid (HXN.out.trans (be9.mono HXN.out.size))
                        clear be9 HXN HTN
                        go_wp2
                        go_roundw
                        case rel => exact ⟨i + 1, by omega, by go_num, rfl, HX9⟩
                        case measure => simp [intOf]; omega
                      · by_cases hc4 : c = 4
                        · subst hc4
                          have bp1 : (p == 1) = false := beq_eq_false_iff_ne.2 hp1
                          have np1 : (p != 1) = true := bne_iff_ne.2 hp1
                          have bp2 : (p == 2) = false := beq_eq_false_iff_ne.2 hp2
                          have np2 : (p != 2) = true := bne_iff_ne.2 hp2
                          have bp3 : (p == 3) = false := beq_eq_false_iff_ne.2 hp3
                          have np3 : (p != 3) = true := bne_iff_ne.2 hp3
                          go_wp2_with fail
                          refine (gis_any l (pos l i) _ HTN.out (by omega) (pos_end l i hil)).mono ?_
                          rintro e W8 ⟨v, rfl, hv, be8⟩
                          have HXN2 := hid (HXN.out.trans (be8.mono HXN.out.size))
                          have HTN2 := hid (HTN.out.below be8)
                          clear be8 HXN HTN
                          have HXN := HXN2
                          have HTN := HTN2
                          clear HXN2 HTN2
                          obtain rfl : v = false := by
                            cases v with
                            | false => rfl
                            | true => exact absurd (hv.1 rfl) (joined_no l i (by omega) hil (by rw [← HR.out, ← HR2.out]; exact gbt_jnd _ _ (.inr ⟨hp1, hp2, hp3, .inl rfl⟩)))
                          clear hv
                          go_wp2_with fail
                          refine (on_any l (pos l i : Nat) _ (by omega) HTN.out.tabs HTN.out.two).mono ?_
                          rintro e W9 ⟨rfl, be9⟩
                          rw [on_pos l i hil]
                          have HX9 := hid (HXN.out.trans (be9.mono HXN.out.size))
                          clear be9 HXN HTN
                          go_wp2
                          go_roundw
                          case rel => exact ⟨i + 1, by omega, by go_num, rfl, HX9⟩
                          case measure => simp [intOf]; omega
                        · by_cases hc5 : c = 5
                          · subst hc5
                            have bp1 : (p == 1) = false := beq_eq_false_iff_ne.2 hp1
                            have np1 : (p != 1) = true := bne_iff_ne.2 hp1
                            have bp2 : (p == 2) = false := beq_eq_false_iff_ne.2 hp2
                            have np2 : (p != 2) = true := bne_iff_ne.2 hp2
                            have bp3 : (p == 3) = false := beq_eq_false_iff_ne.2 hp3
                            have np3 : (p != 3) = true := bne_iff_ne.2 hp3
                            go_wp2_with fail
                            refine (gis_any l (pos l i) _ HTN.out (by omega) (pos_end l i hil)).mono ?_
                            rintro e W8 ⟨v, rfl, hv, be8⟩
                            have HXN2 := hid (HXN.out.trans (be8.mono HXN.out.size))
                            have HTN2 := hid (HTN.out.below be8)
                            clear be8 HXN HTN
                            have HXN := HXN2
                            have HTN := HTN2
                            clear HXN2 HTN2
                            obtain rfl : v = false := by
                              cases v with
                              | false => rfl
                              | true => exact absurd (hv.1 rfl) (joined_no l i (by omega) hil (by rw [← HR.out, ← HR2.out]; exact gbt_jnd _ _ (.inr ⟨hp1, hp2, hp3, .inr (.inl rfl)⟩)))
                            clear hv
                            go_wp2_with fail
                            refine (on_any l (pos l i : Nat) _ (by omega) HTN.out.tabs HTN.out.two).mono ?_
                            rintro e W9 ⟨rfl, be9⟩
                            rw [on_pos l i hil]
                            have HX9 := hid (HXN.out.trans (be9.mono HXN.out.size))
                            clear be9 HXN HTN
                            go_wp2
                            go_roundw
                            case rel => exact ⟨i + 1, by omega, by go_num, rfl, HX9⟩
                            case measure => simp [intOf]; omega
                          · by_cases hc6 : c = 6
                            · subst hc6
                              have bp1 : (p == 1) = false := beq_eq_false_iff_ne.2 hp1
                              have np1 : (p != 1) = true := bne_iff_ne.2 hp1
                              have bp2 : (p == 2) = false := beq_eq_false_iff_ne.2 hp2
                              have np2 : (p != 2) = true := bne_iff_ne.2 hp2
                              have bp3 : (p == 3) = false := beq_eq_false_iff_ne.2 hp3
                              have np3 : (p != 3) = true := bne_iff_ne.2 hp3
                              go_wp2_with fail
                              refine (gis_any l (pos l i) _ HTN.out (by omega) (pos_end l i hil)).mono ?_
                              rintro e W8 ⟨v, rfl, hv, be8⟩
                              have HXN2 := hid (HXN.out.trans (be8.mono HXN.out.size))
                              have HTN2 := hid (HTN.out.below be8)
                              clear be8 HXN HTN
                              have HXN := HXN2
                              have HTN := HTN2
                              clear HXN2 HTN2
                              obtain rfl : v = false := by
                                cases v with
                                | false => rfl
                                | true => exact absurd (hv.1 rfl) (joined_no l i (by omega) hil (by rw [← HR.out, ← HR2.out]; exact gbt_jnd _ _ (.inr ⟨hp1, hp2, hp3, .inr (.inr rfl)⟩)))
                              clear hv
                              go_wp2_with fail
                              refine (on_any l (pos l i : Nat) _ (by omega) HTN.out.tabs HTN.out.two).mono ?_
                              rintro e W9 ⟨rfl, be9⟩
                              rw [on_pos l i hil]
                              have HX9 := hid (HXN.out.trans (be9.mono HXN.out.size))
                              clear be9 HXN HTN
                              go_wp2
                              go_roundw
                              case rel => exact ⟨i + 1, by omega, by go_num, rfl, HX9⟩
                              case measure => simp [intOf]; omega
                            · have bp1 : (p == 1) = false := beq_eq_false_iff_ne.2 hp1
                              have np1 : (p != 1) = true := bne_iff_ne.2 hp1
                              have bp2 : (p == 2) = false := beq_eq_false_iff_ne.2 hp2
                              have np2 : (p != 2) = true := bne_iff_ne.2 hp2
                              have bp3 : (p == 3) = false := beq_eq_false_iff_ne.2 hp3
                              have np3 : (p != 3) = true := bne_iff_ne.2 hp3
                              have bc1 : (c == 1) = false := beq_eq_false_iff_ne.2 hc1
                              have nc1 : (c != 1) = true := bne_iff_ne.2 hc1
                              have bc2 : (c == 2) = false := beq_eq_false_iff_ne.2 hc2
                              have nc2 : (c != 2) = true := bne_iff_ne.2 hc2
                              have bc3 : (c == 3) = false := beq_eq_false_iff_ne.2 hc3
                              have nc3 : (c != 3) = true := bne_iff_ne.2 hc3
                              have bc4 : (c == 4) = false := beq_eq_false_iff_ne.2 hc4
                              have nc4 : (c != 4) = true := bne_iff_ne.2 hc4
                              have bc5 : (c == 5) = false := beq_eq_false_iff_ne.2 hc5
                              have nc5 : (c != 5) = true := bne_iff_ne.2 hc5
                              have bc6 : (c == 6) = false := beq_eq_false_iff_ne.2 hc6
                              have nc6 : (c != 6) = true := bne_iff_ne.2 hc6
                              go_wp2_with fail
                              refine (on_any l (pos l i : Nat) _ (by omega) HTN.out.tabs HTN.out.two).mono ?_
                              rintro e W9 ⟨rfl, be9⟩
                              rw [on_pos l i hil]
                              have HX9 := hid (HXN.out.trans (be9.mono HXN.out.size))
                              clear be9 HXN HTN
                              go_wp2
                              go_roundw
                              case rel => exact ⟨i + 1, by omega, by go_num, rfl, HX9⟩
                              case measure => simp [intOf]; omega
        · have hlti : ¬ (i : Int) < (m : Int) := by omega
          have HB3 := hid (HB2.out.trans (HX.out.mono (by have := HN.out; omega)))
          clear HX
          go_wp2_with fail
          refine (gcut_any l n _ (HTT.out _ HB3.out) (by omega) hn).mono ?_
          rintro e W1 ⟨p, rfl, hp, be1⟩
          have HB4 := hid (HB3.out.trans (be1.mono (by have := HB3.out.size; have := HN.out; omega)))
          have HPQ := hid hp
          have hcat : (⟨(l.take p).toArray⟩ ++ ⟨(l.drop p).toArray⟩ : ByteArray) = ⟨l.toArray⟩ := by rw [wcat2, List.take_append_drop]
          have hx1 : (l.take p).length ≤ 120 := by rw [List.length_take]; omega
          have hx2 : (l.drop p).length ≤ 120 := by rw [List.length_drop]; omega
          have HCA := hid hcat
          clear hp be1 HB3 hcat
          go_wp2_with fail
          refine (gcount_any l _ (HTT.out _ HB4.out) (by omega)).mono ?_
          rintro e W5 ⟨rfl, be5⟩
          have HB5 := hid (HB4.out.trans (be5.mono (by have := HB4.out.size; have := HN.out; omega)))
          clear be5 HB4
          obtain ⟨q, hq⟩ : ∃ q, q = gcnt l := ⟨_, rfl⟩
          rw [← hq]
          have HQQ := hid hq
          clear hq
          have hcat := HCA.out
          by_cases hn0 : n < 0
          · go_wp2_with fail
            refine (gturn_any l _ (HTT.out _ HB5.out) (by omega)).mono ?_
            rintro e W6 ⟨rfl, be6⟩
            have HB6 := hid (HB5.out.trans (be6.mono (by have := HB5.out.size; have := HN.out; omega)))
            have heq : (((trn l).length : Int) == (l.length : Int)) = true := by rw [trn_len]; simp
            clear be6 HB5
            go_wp2_with fail
            refine (HLV.out _ HB6.out).mono ?_
            rintro e W9 ⟨rfl, be9⟩
            have HB9 := hid (HB6.out.trans (be9.mono (by have := HB6.out.size; have := HN.out; omega)))
            clear be9 HB6
            go_wp2
            go_ret
            exact ⟨rfl, by rw [← HN.out]; exact HB9.out⟩
          · by_cases hn1 : (q : Int) < n
            · go_wp2_with fail
              refine (gturn_any l _ (HTT.out _ HB5.out) (by omega)).mono ?_
              rintro e W6 ⟨rfl, be6⟩
              have HB6 := hid (HB5.out.trans (be6.mono (by have := HB5.out.size; have := HN.out; omega)))
              have heq : (((trn l).length : Int) == (l.length : Int)) = true := by rw [trn_len]; simp
              clear be6 HB5
              go_wp2_with fail
              refine (HLV.out _ HB6.out).mono ?_
              rintro e W9 ⟨rfl, be9⟩
              have HB9 := hid (HB6.out.trans (be9.mono (by have := HB6.out.size; have := HN.out; omega)))
              clear be9 HB6
              go_wp2
              go_ret
              exact ⟨rfl, by rw [← HN.out]; exact HB9.out⟩
            · go_wp2_with fail
              refine (gcount_any (l.take p) _ (HTT.out _ HB5.out) (by omega)).mono ?_
              rintro e W7 ⟨rfl, be7⟩
              rw [plq_cnt l n p HPQ.out (by omega) (by rw [← HQQ.out]; omega)]
              have HB5' := hid (HB5.out.trans (be7.mono (by have := HB5.out.size; have := HN.out; omega)))
              clear be7 HB5
              have HB5 := HB5'
              clear HB5'
              go_wp2_with fail
              refine (gturn_any l _ (HTT.out _ HB5.out) (by omega)).mono ?_
              rintro e W6 ⟨rfl, be6⟩
              have HB6 := hid (HB5.out.trans (be6.mono (by have := HB5.out.size; have := HN.out; omega)))
              have heq : (((trn l).length : Int) == (l.length : Int)) = true := by rw [trn_len]; simp
              clear be6 HB5
              go_wp2_with fail
              refine (HLV.out _ HB6.out).mono ?_
              rintro e W9 ⟨rfl, be9⟩
              have HB9 := hid (HB6.out.trans (be9.mono (by have := HB6.out.size; have := HN.out; omega)))
              clear be9 HB6
              go_wp2
              go_ret
              exact ⟨rfl, by rw [← HN.out]; exact HB9.out⟩
end Go.Proofs.YtlfegdpclappiaaDoor
/- GraphemeWhole at every text, every number of flags and every place. -/
namespace Go.Proofs.YtlfegdpclappiaaDoor
open Go.RowKit Go.Shelf

set_option maxHeartbeats 2000000 in
set_option maxRecDepth 100000 in
theorem whole_all (l : List UInt8) (z n : Int) (w : World) (hl : l.length ≤ 281474976710656) (hn : n ≤ 9223372036854775807) (htb : Ev.Tbs tabs w) (ht : TbW w) :
    Calls Tryd.prog 3 #[.string ⟨l.toArray⟩, .int .i64 z, .int .i64 n] w fun e w' => e = .returned (.bool true) ∧ Below w.heap.size w w' := by
  by_cases hbig : 120 < l.length
  · have hbi : (120 : Int) < (l.length : Int) := by omega
    have HLV := hid (lives11 w ht htb)
    clear htb ht
    go_enter Tryd.func3, Tryd.ntmps3
    go_wp2_with fail
    refine HLV.out.mono ?_
    rintro e w1 ⟨rfl, be1⟩
    have HB1 := hid be1
    clear be1
    go_wp2
    go_ret
    exact ⟨rfl, HB1.out⟩
  · have hbi : ¬ (120 : Int) < (l.length : Int) := by omega
    by_cases h0 : z < 0
    · have HLV := hid (lives11 w ht htb)
      clear htb ht
      go_enter Tryd.func3, Tryd.ntmps3
      go_wp2_with fail
      refine HLV.out.mono ?_
      rintro e w1 ⟨rfl, be1⟩
      have HB1 := hid be1
      clear be1
      go_wp2
      go_ret
      exact ⟨rfl, HB1.out⟩
    · by_cases h1 : 20 < z
      · have HLV := hid (lives11 w ht htb)
        clear htb ht
        go_enter Tryd.func3, Tryd.ntmps3
        go_wp2_with fail
        refine HLV.out.mono ?_
        rintro e w1 ⟨rfl, be1⟩
        have HB1 := hid be1
        clear be1
        go_wp2
        go_ret
        exact ⟨rfl, HB1.out⟩
      · obtain ⟨g, rfl⟩ : ∃ g : Nat, z = (g : Int) := ⟨z.toNat, by omega⟩
        exact whole_main l g n w (by omega) (by omega) hn htb ht
end Go.Proofs.YtlfegdpclappiaaDoor
