/- The contracts of Around and Is (package grapheme). -/
import Derived.Test.YtffbdnlfknomnaaDoorGrBnd
import Derived.Test.YtffbdnlfknomnaaDoorGrLaw
import Derived.Test.YtffbdnlfknomnaaDoorMixIn
namespace Go.Proofs.YtffbdnlfknomnaaDoor.Wt
open Go.RowKit Go.Shelf
attribute [local go_sem] Oper.semAt_some

theorem plc_begin : ∀ (M : List (List (Nat × Nat))) (q : Nat) (U V : List (Nat × Nat)) (x : Nat × Nat), plc q M = U ++ x :: V → x.1 = q ∨ ∃ y ∈ U, x.1 = y.2
  | [], _, U, V, x, h => by cases U <;> cases h
  | z :: M, q, [], V, x, h => by
    rw [plc, List.nil_append] at h
    left
    rw [← (List.cons.inj h).1]
  | z :: M, q, u :: U, V, x, h => by
    rw [plc, List.cons_append] at h
    obtain ⟨h1, h2⟩ := List.cons.inj h
    right
    rcases plc_begin M _ U V x h2 with e | ⟨y, hy, e⟩
    · exact ⟨u, List.mem_cons_self .., by rw [e, ← h1]⟩
    · exact ⟨y, List.mem_cons_of_mem _ hy, e⟩
/-- The letter that Around finds. -/
theorem around_at (l : List UInt8) (p k B : Nat) (hk : k < (rl l).length) (hp : pos l k ≤ p) (hB : B = pos l (gsu l k)) (L pre : List (Pl (l.drop B))) (hL : L.map Pl.v = gpF (l.drop B) 0) (x : Pl (l.drop B)) (h : pre ++ [x] <+: L) (h1 : ∀ y ∈ pre, B + y.v.2 ≤ p) :
    (B + x.v.1, B + x.v.2) ∈ gpF l 0 ∧ B + x.v.1 ≤ p := by
  have hBp : B ≤ p := by
    have := pos_leq l (gsu l k) k (gsu_le l k) (Nat.le_of_lt hk)
    omega
  obtain ⟨R, hR⟩ := h
  have hS : gpF (l.drop B) 0 = pre.map Pl.v ++ x.v :: R.map Pl.v := by
    rw [← hL, ← hR, List.append_assoc, List.map_append]; rfl
  refine ⟨?_, ?_⟩
  · rw [gp_split l k hk, ← hB, gp_shift l B, hS, List.map_append, List.map_cons]
    exact List.mem_append_right _ (List.mem_append_right _ (List.mem_cons_self ..))
  · rcases plc_begin _ _ _ _ _ hS with e | ⟨y, hy, e⟩
    · rw [e]; omega
    · obtain ⟨z, hz, rfl⟩ := List.mem_map.1 hy
      rw [e]; exact h1 z hz
set_option maxHeartbeats 4000000 in
set_option maxRecDepth 100000 in
theorem garound_in (l : List UInt8) (p : Nat) (w : World) (ht : TbW w) (hl : l.length ≤ 100000000) (hp : p < l.length) :
    CallsIn Fence.wide 3 Tryd.prog 85 #[.string ⟨l.toArray⟩, .int .i64 p] w fun e W' => ∃ f t : Nat, e = .returned (.tuple #[.int .i64 f, .int .i64 t]) ∧ ((f, t) ∈ gpF l 0 ∧ f ≤ p ∧ p < t) ∧ Below w.heap.size w W' := by
  have HT := hid ht
  clear ht
  obtain ⟨k, hk, hk1, hk2⟩ := rune_at l p hp
  have HBK := hid (back_rune l p k hk hk1 hk2)
  have HK := hid hk
  have HK1 := hid hk1
  obtain ⟨B, hB⟩ : ∃ B, B = pos l (gsu l k) := ⟨_, rfl⟩
  have hBl : B ≤ l.length := by rw [hB]; exact pos_le l _ (by have := gsu_le l k; omega)
  have hBp : B ≤ p := by
    have := pos_leq l (gsu l k) k (gsu_le l k) (Nat.le_of_lt hk)
    omega
  have HBE := hid hB
  obtain ⟨q, hq⟩ : ∃ q, q = pos l k := ⟨_, rfl⟩
  have hql : q ≤ l.length := by rw [hq]; exact pos_le l k (Nat.le_of_lt hk)
  have HQ := hid hq
  rw [← hq] at HBK
  clear hk hk1 hk2 hB hq
  obtain ⟨L, hL, hLl⟩ := gp_all (l.drop B) _ 0 (Nat.le_refl _)
  have HL := hid hL
  have HDL := hid (show (l.drop B).length ≤ 1000000000 by rw [List.length_drop]; omega)
  have HAR := hid (around_at l p k B HK.out HK1.out HBE.out L)
  have HLA := hid (gp_last (l.drop B) (drop_ne l B (by omega)))
  clear hL hLl
  have hpi : (p : Int) < (l.length : Int) := by omega
  refine callsIn_of_wp_marks Tryd.func85 rfl trivial ?_ rfl
  simp only [Tryd.ntmps85, List.size_toArray, List.length_cons, List.length_nil, Nat.reduceAdd, Nat.reduceSub, Array.replicate_succ, Array.replicate_zero, List.push_toArray, List.append_toArray, List.nil_append, List.cons_append]
  gi_wp2_with fail
  have hsz3 : (((w.alloc (.cells #[.int .i64 p] 3)).alloc (.cells #[.int .i64 0] 3)).alloc (.cells #[.int .i64 0] 3)).heap.size = w.heap.size + 3 := by simp
  have b0 := ((Boxed.new w 3 (.int .i64 p)).alloc (.cells #[.int .i64 0] 3)).alloc (.cells #[.int .i64 0] 3)
  have b1 := (Boxed.new (w.alloc (.cells #[.int .i64 p] 3)) 3 (.int .i64 0)).alloc (.cells #[.int .i64 0] 3)
  have b2 := Boxed.new ((w.alloc (.cells #[.int .i64 p] 3)).alloc (.cells #[.int .i64 0] 3)) 3 (.int .i64 0)
  rw [World.size_alloc] at b1
  rw [World.size_alloc, World.size_alloc] at b2
  have hB0 : Below w.heap.size w (((w.alloc (.cells #[.int .i64 p] 3)).alloc (.cells #[.int .i64 0] 3)).alloc (.cells #[.int .i64 0] 3)) := (((Below.refl _ _).alloc (Nat.le_refl _) _).alloc (by simp) _).alloc (by simp; omega) _
  obtain ⟨w0, hw0⟩ : ∃ w0, w0 = ((w.alloc (.cells #[.int .i64 p] 3)).alloc (.cells #[.int .i64 0] 3)).alloc (.cells #[.int .i64 0] 3) := ⟨_, rfl⟩
  rw [← hw0] at b0 b1 b2 hsz3 hB0 ⊢
  have HW0 := hid hw0
  have HT0 := hid (HT.out.below hB0)
  clear hw0
  refine ⟨trivial, (callsIn_wide.2 (back_any l ((p : Int) + 1) w0 (by omega) HT0.out.tabs HT0.out.two)).mono ?_⟩
  rintro e w1 ⟨rfl, be1⟩
  rw [HBK.out]
  have HT1 := hid (HT0.out.below be1)
  gi_wp2_with fail
  refine ⟨trivial, (callsIn_wide.2 (gsure_any l k q w1 HT1.out (by omega) (Nat.le_of_lt HK.out) HQ.out)).mono ?_⟩
  rintro e w2 ⟨rfl, be2⟩
  rw [← HBE.out]
  have hB02 := be1.trans (be2.mono be1.size)
  have hs02 := hB02.size
  have HT2 := hid (HT0.out.below hB02)
  have b02 : Boxed w2 w.heap.size 3 (.int .i64 p) := (hB02.block _ b0.lt).trans b0
  have b12 : Boxed w2 (w.heap.size + 1) 3 (.int .i64 0) := (hB02.block _ b1.lt).trans b1
  have b22 : Boxed w2 (w.heap.size + 1 + 1) 3 (.int .i64 0) := (hB02.block _ b2.lt).trans b2
  have HBw2 := hid (hB0.trans (hB02.mono hB0.size))
  clear be1 be2 hB02 b0 b1 b2 HT1 HT0 HBK hB0
  gi_wp2_with fail
  rw [ext_drop]
  refine ⟨trivial, (callsIn_wide.2 (geach_any (l.drop B) _)).mono ?_⟩
  rintro e w' ⟨rfl, rfl⟩
  have b3 := (Boxed.new w2 3 (.int .i64 B)).alloc (.cells #[.string ⟨(l.drop B).toArray⟩] 9)
  have b4 := Boxed.new (w2.alloc (.cells #[.int .i64 B] 3)) 9 (.string ⟨(l.drop B).toArray⟩)
  have hB3 : Below w2.heap.size w2 ((w2.alloc (.cells #[.int .i64 B] 3)).alloc (.cells #[.string ⟨(l.drop B).toArray⟩] 9)) := ((Below.refl _ _).alloc (Nat.le_refl _) _).alloc (by simp) _
  have hs3 : ((w2.alloc (.cells #[.int .i64 B] 3)).alloc (.cells #[.string ⟨(l.drop B).toArray⟩] 9)).heap.size = w2.heap.size + 2 := by simp
  rw [World.size_alloc] at b4 ⊢
  obtain ⟨w3, hw3⟩ : ∃ w3, w3 = (w2.alloc (.cells #[.int .i64 B] 3)).alloc (.cells #[.string ⟨(l.drop B).toArray⟩] 9) := ⟨_, rfl⟩
  rw [← hw3] at b3 b4 hB3 hs3 ⊢
  clear hw3
  obtain ⟨N, hN⟩ : ∃ N, N = w.heap.size := ⟨_, rfl⟩
  obtain ⟨M, hM⟩ : ∃ M, M = w2.heap.size := ⟨_, rfl⟩
  rw [hsz3] at hs02
  rw [← hM] at b3 b4 hB3 hs3 hs02 ⊢
  rw [← hN] at b02 b12 b22 HBw2 hs02 ⊢
  have hNM : N + 3 ≤ M := hs02
  have HEa := hid (show WaAt (M + 1) (l.drop B) w3 from ⟨b4, HT2.out.below (by rw [← hM]; exact hB3)⟩)
  have HB0 := hid (show Boxed w3 N 3 (.int .i64 p) from (hB3.block _ (by omega)).trans b02)
  have HB1 := hid (show Boxed w3 (N + 1) 3 (.int .i64 0) from (hB3.block _ (by omega)).trans b12)
  have HB2 := hid (show Boxed w3 (N + 1 + 1) 3 (.int .i64 0) from (hB3.block _ (by omega)).trans b22)
  have HB3 := hid b3
  have HBw := hid (show Below N w w3 from HBw2.out.trans (hB3.mono (by omega)))
  have h2 : 2 ≤ N := by rw [hN]; exact HT.out.two
  have HS3 := hid hs3
  have HN := hid hN
  clear b02 b12 b22 b3 b4 hB3 HT2 HBw2 HW0 hsz3 hs02 hs3 hN hM
  gi_wp2
  refine rfF (M + 1) (fun k => k = N + 1 ∨ k = N + 1 + 1) L (by omega) rfl HL.out HEa.out HDL.out rfl (fun k hk => by rintro (h | h) <;> omega)
    (fun pre W => (((∀ y ∈ pre, B + y.v.2 ≤ p) ∧ Boxed W N 3 (.int .i64 p)) ∧ Boxed W (N + 1) 3 (.int .i64 0)) ∧ Boxed W (N + 1 + 1) 3 (.int .i64 0) ∧ Boxed W M 3 (.int .i64 B))
    (fun c pre W => c = .ret ∧ ∃ (pr : List (Pl (l.drop B))) (x : Pl (l.drop B)), pre = pr ++ [x] ∧ (∀ y ∈ pr, B + y.v.2 ≤ p) ∧ p < B + x.v.2 ∧ Boxed W (N + 1) 3 (.int .i64 (B + x.v.1 : Nat)) ∧ Boxed W (N + 1 + 1) 3 (.int .i64 (B + x.v.2 : Nat)))
    (OwnFrom.and (OwnFrom.and (OwnFrom.and (ownFrom_pure _ _) (Own.from (boxed_own _ _ _) _)) (Own.from (boxed_own _ _ _) _)) (OwnFrom.and (Own.from (boxed_own _ _ _) _) (Own.from (boxed_own _ _ _) _)))
    (fun c _ A C row hs hg hr => by
      obtain ⟨e, pr, x, e1, e2, e3, e4, e5⟩ := hs
      exact ⟨e, pr, x, e1, e2, e3, boxed_keep e4 hg hr, boxed_keep e5 hg hr⟩)
    ⟨⟨⟨by simp, HB0.out⟩, HB1.out⟩, HB2.out, HB3.out⟩ 7 8 ?assign ?body ?done ?stop
  case assign =>
    intro lp x W K hK
    dsimp only [encP]
    gi_wp2
    simpa [fr, encP] using hK
  case body =>
    rintro lp pre x W ⟨⟨⟨hpre, v0⟩, v1⟩, v2, v3⟩ hb he hlt
    have hx1 := x.lt
    have hx2 := x.le
    rw [List.length_drop] at hx2
    obtain ⟨f, hf⟩ : ∃ f, f = x.v.1 := ⟨_, rfl⟩
    obtain ⟨t, hx⟩ : ∃ t, t = x.v.2 := ⟨_, rfl⟩
    dsimp only [fr, encP]
    rw [← hf, ← hx] at hx1 ⊢
    rw [← hx] at hx2
    have HF := hid hf
    have HX := hid hx
    clear hf hx
    have c0 := v0.cell
    have c3 := v3.cell
    have HV := hid (And.intro v0 (And.intro v1 (And.intro v2 v3)))
    have HPRE := hid hpre
    clear hpre
    by_cases hgt : p < B + t
    · have hgi : (p : Int) < (B : Int) + t := by omega
      have f1 := v1.frozen
      have f2 := v2.frozen
      have e1 := v1.cell
      have e2 := v2.cell
      have hKV := HV.out
      have wf : IntKind.i64.wrap ((B : Int) + f) = (B : Int) + f := by rw [IntKind.wrap_i64]; omega
      have wt : IntKind.i64.wrap ((B : Int) + t) = (B : Int) + t := by rw [IntKind.wrap_i64]; omega
      clear v0 v1 v2 v3
      gi_wp2
      refine wpIn_region_mix lp _ [(0, true), (1, true), (2, true), (3, true), (4, true), (5, true), (6, false), (7, false)] (fun w' => w'.cell? ⟨M, 0, none⟩ = some (.int .i64 B)) (fun _ => false) (by kernel_rfl) (by kernel_rfl) (by kernel_rfl) (fun j hj => by cases hj) rfl (by kernel_rfl) c3 ?hm
      iterate 6 (refine mix_free ?_ rfl (by kernel_rfl) (fun w' hS => ?_) ?_; (rotate_left; (go_simp; with_reducible rfl); rotate_left))
      refine mix_go rfl (by kernel_rfl) fun KK hKK => ?_
      have f1d : W.drew.frozen? ⟨N + 1, 0, none⟩ = false := f1
      have e1d : W.drew.cell? ⟨N + 1, 0, none⟩ = some (.int .i64 0) := e1
      go_simp
      refine hKK _ _ (fun _ => ?_) ?_
      · exact (bdrew (hKV.2.2.2.other (B' := N + 1) (by omega) _)).cell
      clear hKK KK
      have v1' := bdrew (hKV.2.1.set (.int .i64 ((B : Int) + f)))
      have v2' := bdrew (hKV.2.2.1.other (B' := N + 1) (by omega) (.int .i64 ((B : Int) + f)))
      obtain ⟨W1, hW1⟩ : ∃ W1, W1 = (W.setCell ⟨N + 1, 0, none⟩ (.int .i64 ((B : Int) + f))).drew := ⟨_, rfl⟩
      have HBS := hid (show BS (fun k => k = N + 1 ∨ k = N + 1 + 1) W W1 by rw [hW1]; exact (BS.set W (N + 1) _ (.inl rfl)).trans (BS.drew _))
      rw [← hW1] at v1' v2' ⊢
      clear hW1
      refine mix_go rfl (by kernel_rfl) fun KK hKK => ?_
      have f2d := v2'.frozen
      have e2d := v2'.cell
      go_simp
      refine hKK _ _ (fun _ => ?_) ?_
      · have hM1 : Boxed W1 M 3 (.int .i64 B) := HBS.out.boxed hKV.2.2.2 (fun h => by omega)
        exact (hM1.other (B' := N + 1 + 1) (by omega) _).cell
      clear hKK KK
      refine mix_end (OnlyN.in ?_)
      gi_wp2
      refine ⟨HBS.out.trans (BS.set W1 (N + 1 + 1) _ (.inr rfl)), rfl, pre, x, rfl, HPRE.out, by rw [← HX.out]; exact hgt, ?_, ?_⟩
      · rw [← HF.out]
        exact v1'.other (B' := N + 1 + 1) (by omega) _
      · rw [← HX.out]
        exact v2'.set _
    · have hgi : ¬ (p : Int) < (B : Int) + t := by omega
      have hKV := HV.out
      clear v0 v1 v2 v3
      gi_wp2
      refine ⟨BS.refl _ _, ⟨⟨fun y hy => ?_, hKV.1⟩, hKV.2.1⟩, hKV.2.2⟩
      rcases List.mem_append.1 hy with hy | hy
      · exact HPRE.out y hy
      · rw [List.mem_singleton.1 hy, ← HX.out]
        omega
  case done =>
    rintro D W hD ⟨⟨⟨hall, _⟩, _⟩, _, _⟩ _ _
    exfalso
    obtain ⟨y, hy, hye⟩ := HLA.out
    rw [← HL.out] at hy
    obtain ⟨x, hx, rfl⟩ := List.mem_map.1 hy
    have := hall x hx
    rw [hye, List.length_drop] at this
    omega
  case stop =>
    rintro D c pre W hD hp' ⟨rfl, pr, x, rfl, e2, e3, e4, e5⟩ hb hK
    gi_wp2
    refine ⟨by simp, .inl ⟨_, _, rfl, run_takeDeferred hK, ?_⟩⟩
    have c4 := cell_kept e4.cell (grownBy_putObj' _ D (.deferred none)) (fun r e => by cases e; exact ⟨_, hK, rfl⟩)
    have c5 := cell_kept e5.cell (grownBy_putObj' _ D (.deferred none)) (fun r e => by cases e; exact ⟨_, hK, rfl⟩)
    refine ⟨_, ?_, B + x.v.1, B + x.v.2, rfl, ⟨(HAR.out pr HL.out x hp' e2).1, (HAR.out pr HL.out x hp' e2).2, e3⟩, ?_⟩
    · simp [results, Tryd.f85, go_sem, c4, c5]
    · have hs3 := HS3.out
      have hn := HN.out
      rw [← hn]
      exact (HBw.out.trans (hb.lower N (fun k hk => by omega) (by omega))).trans (belowK_b (w := w) (by omega) W D _ _ (by omega) hK rfl rfl)
theorem garound_any (l : List UInt8) (p : Nat) (w : World) (ht : TbW w) (hl : l.length ≤ 100000000) (hp : p < l.length) :
    Calls Tryd.prog 85 #[.string ⟨l.toArray⟩, .int .i64 p] w fun e W' => ∃ f t : Nat, e = .returned (.tuple #[.int .i64 f, .int .i64 t]) ∧ ((f, t) ∈ gpF l 0 ∧ f ≤ p ∧ p < t) ∧ Below w.heap.size w W' := callsIn_wide.1 (garound_in l p w ht hl hp)
end Go.Proofs.YtffbdnlfknomnaaDoor.Wt
