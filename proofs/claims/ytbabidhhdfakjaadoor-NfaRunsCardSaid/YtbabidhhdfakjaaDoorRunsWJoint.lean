/- NfaRuns: the walk. -/
import Derived.Test.YtbabidhhdfakjaaDoorOwnJoint
namespace Go.Proofs.YtbabidhhdfakjaaDoor
open Go.RowKit

theorem wid_lens {L : List St} (h : wdb L = false) : ∀ x ∈ L, x.1.length ≤ 1000000 ∧ x.2.length ≤ 1000000 ∧ ∀ e ∈ x.1, e.1.length ≤ 1000000 := fun x hx => by
  have h1 := (wdb_small h).2
  have h2 := wS_in hx
  unfold wS at h2
  refine ⟨by omega, by omega, fun e he => ?_⟩
  rw [List.take_of_length_le (by omega)] at h2
  have := wE_in he
  omega
set_option maxHeartbeats 8000000 in
set_option maxRecDepth 100000 in
theorem runs_main (so : Option Addr) (sc n : Nat) (L : List St) (s f : Int) (lo : Option Addr) (ln lc : Nat) (l : List Int) (co : Option Addr) (cl cc : Nat) (c : List Int) (z : Int) (w : World) (hn : n = L.length) (hs : RdS w so L) (hl : n ≤ most) (hc : RdI w co c) (hcl : cl = c.length) (hll : RdI w lo l) (hln : ln = l.length) (hcm : cl ≤ most) (hlm : ln ≤ most) (ht : Tb w) :
    Calls Tryd.prog 6 #[.agg #[.slice so n sc, .int .i64 s, .int .i64 f, .slice lo ln lc, .slice co cl cc, .int .i64 z]] w fun e w' => e = .returned (.bool true) ∧ Below w.heap.size w w' := by
  have HN := hid hn
  have HS := hid hs
  have HNM := hid hl
  have HC := hid hc
  have HCL := hid hcl
  have HL := hid hll
  have HLN := hid hln
  have HTB := hid ht
  have hp := ht.pos
  unfold most at hcm hlm
  clear hn hs hl hc hcl hll hln ht
  have hr0 : (w.alloc (.cells #[.slice so n sc, .int .i64 s, .int .i64 f, .slice lo ln lc, .slice co cl cc, .int .i64 z] 50)).heap[w.heap.size]? = some (.cells #[.slice so n sc, .int .i64 s, .int .i64 f, .slice lo ln lc, .slice co cl cc, .int .i64 z] 50) := al_new _ _ rfl
  have k0 : (w.alloc (.cells #[.slice so n sc, .int .i64 s, .int .i64 f, .slice lo ln lc, .slice co cl cc, .int .i64 z] 50)).cell? ⟨w.heap.size, 0, none⟩ = some (.slice so n sc) := by rw [cell_of_row _ w.heap.size 0 _ 50 (0, 0) hr0]; rfl
  have k1 : (w.alloc (.cells #[.slice so n sc, .int .i64 s, .int .i64 f, .slice lo ln lc, .slice co cl cc, .int .i64 z] 50)).cell? ⟨w.heap.size, 1, none⟩ = some (.int .i64 s) := by rw [cell_of_row _ w.heap.size 1 _ 50 (0, 0) hr0]; rfl
  have k2 : (w.alloc (.cells #[.slice so n sc, .int .i64 s, .int .i64 f, .slice lo ln lc, .slice co cl cc, .int .i64 z] 50)).cell? ⟨w.heap.size, 2, none⟩ = some (.int .i64 f) := by rw [cell_of_row _ w.heap.size 2 _ 50 (0, 0) hr0]; rfl
  have k3 : (w.alloc (.cells #[.slice so n sc, .int .i64 s, .int .i64 f, .slice lo ln lc, .slice co cl cc, .int .i64 z] 50)).cell? ⟨w.heap.size, 3, none⟩ = some (.slice lo ln lc) := by rw [cell_of_row _ w.heap.size 3 _ 50 (0, 0) hr0]; rfl
  have k4 : (w.alloc (.cells #[.slice so n sc, .int .i64 s, .int .i64 f, .slice lo ln lc, .slice co cl cc, .int .i64 z] 50)).cell? ⟨w.heap.size, 4, none⟩ = some (.slice co cl cc) := by rw [cell_of_row _ w.heap.size 4 _ 50 (0, 0) hr0]; rfl
  have k5 : (w.alloc (.cells #[.slice so n sc, .int .i64 s, .int .i64 f, .slice lo ln lc, .slice co cl cc, .int .i64 z] 50)).cell? ⟨w.heap.size, 5, none⟩ = some (.int .i64 z) := by rw [cell_of_row _ w.heap.size 5 _ 50 (0, 0) hr0]; rfl
  clear hr0
  go_enter Tryd.func6, Tryd.ntmps6
  go_wp2_with fail
  refine wp_region_mixT (.one 0 1 (.one 1 1 (.one 2 1 (.one 3 1 (.one 4 1 (.one 5 1 (.one 6 1 (.one 7 1 (.one 8 2 (.one 9 2 (.one 10 1 (.one 11 1 (.one 12 1 .nil))))))))))))) (fun _ => True) (fun w' => w'.cell? ⟨w.heap.size, 0, none⟩ = some (.slice so n sc) ∧ w'.cell? ⟨w.heap.size, 1, none⟩ = some (.int .i64 s) ∧ w'.cell? ⟨w.heap.size, 2, none⟩ = some (.int .i64 f) ∧ w'.cell? ⟨w.heap.size, 3, none⟩ = some (.slice lo ln lc) ∧ w'.cell? ⟨w.heap.size, 4, none⟩ = some (.slice co cl cc) ∧ w'.cell? ⟨w.heap.size, 5, none⟩ = some (.int .i64 z)) (fun _ => false) (by kernel_rfl) (by kernel_rfl) (fun j hj => by cases hj) rfl (by kernel_rfl) trivial ⟨k0, k1, k2, k3, k4, k5⟩ ?_
  iterate 8 (refine mixT_t ?_ rfl (by kernel_rfl) (fun w' hS => ?_) ?_; (rotate_left; (obtain ⟨s1, s2, s3, s4, s5, s6⟩ := hS; go_simp; with_reducible rfl); rotate_left))
  refine mixT_go rfl (by kernel_rfl) fun KK hKK => ?_
  go_simp
  refine hKK _ _ (fun _ => trivial) ⟨cell_al k0, cell_al k1, cell_al k2, cell_al k3, cell_al k4, cell_al k5⟩ ?_
  clear hKK KK
  refine mixT_go rfl (by kernel_rfl) fun KK hKK => ?_
  go_simp
  refine hKK _ _ (fun _ => trivial) ⟨cell_al k0, cell_al k1, cell_al k2, cell_al k3, cell_al k4, cell_al k5⟩ ?_
  clear hKK KK
  iterate 3 (refine mixT_t ?_ rfl (by kernel_rfl) (fun w' hS => ?_) ?_; (rotate_left; (go_simp; with_reducible rfl); rotate_left))
  refine mixT_end (NoPanic.normal ?_)
  obtain ⟨_, q2, bW⟩ := alloc2 w (.cells #[.slice so n sc, .int .i64 s, .int .i64 f, .slice lo ln lc, .slice co cl cc, .int .i64 z] 50) (.cells #[.slice so n sc, .int .i64 s, .int .i64 f] 28)
  obtain ⟨w1, hw1⟩ : ∃ w1, w1 = ((w.alloc (.cells #[.slice so n sc, .int .i64 s, .int .i64 f, .slice lo ln lc, .slice co cl cc, .int .i64 z] 50)).alloc (.cells #[.slice so n sc, .int .i64 s, .int .i64 f] 28)).drew := ⟨_, rfl⟩
  rw [← hw1] at q2 bW
  rw [← hw1]
  obtain ⟨p3, hp3⟩ : ∃ p, p = w.heap.size + 1 := ⟨_, rfl⟩
  rw [← hp3] at q2
  rw [← hp3]
  have HB1 := hid bW
  have c0 : w1.cell? ⟨p3, 0, none⟩ = some (.slice so n sc) := by rw [cell_of_row w1 p3 0 _ 28 (0, 0) q2]; rfl
  have c1 : w1.cell? ⟨p3, 1, none⟩ = some (.int .i64 s) := by rw [cell_of_row w1 p3 1 _ 28 (0, 0) q2]; rfl
  have c2 : w1.cell? ⟨p3, 2, none⟩ = some (.int .i64 f) := by rw [cell_of_row w1 p3 2 _ 28 (0, 0) q2]; rfl
  have HP3 := hid (show w1.cell? ⟨p3, 0, none⟩ = some (.slice so n sc) ∧ w1.cell? ⟨p3, 1, none⟩ = some (.int .i64 s) ∧ w1.cell? ⟨p3, 2, none⟩ = some (.int .i64 f) from ⟨c0, c1, c2⟩)
  clear hw1 hp3 q2 bW k0 k1 k2 k3 k4 k5
  go_wp2_with fail
  refine (wide_any so sc n L s f w1 HN.out (HS.out.below HB1.out) HNM.out).mono ?_
  rintro e w2 ⟨rfl, be_w2⟩
  have HB_w2 := hid be_w2
  have c0 := cell_bl be_w2 HP3.out.1
  have c1 := cell_bl be_w2 HP3.out.2.1
  have c2 := cell_bl be_w2 HP3.out.2.2
  clear be_w2
  have HSW := hid (show ∀ W, Below w1.heap.size w1 W → RdS W so L from fun W h => (HS.out.below HB1.out).below h)
  rcases bool_cases (wdb L) with hW | hW
  · rw [hW]
    go_wp2_with fail
    refine (live_tb (HTB.out.keep (HB1.out.trans (HB_w2.out.mono HB1.out.size)) hp)).mono ?_
    rintro e w3 ⟨rfl, be_w3⟩
    have HB_w3 := hid (HB1.out.trans ((HB_w2.out.trans (be_w3.mono HB_w2.out.size)).mono HB1.out.size))
    clear be_w3
    go_wp2
    go_ret
    exact ⟨rfl, HB_w3.out⟩
  · rw [hW]
    by_cases h200 : ln ≤ 200
    · have i200 : ¬ (200 : Int) < (ln : Int) := by omega
      by_cases h60 : cl ≤ 60
      · have i60 : ¬ (60 : Int) < (cl : Int) := by omega
        have HLE := hid (wid_lens hW)
        have hsm := wdb_small hW
        have HE := hid (show eS L ≤ 1000000 by have := eS_wid L; omega)
        have HF := hid (show fS L ≤ 1000000 by have := fS_wid L; omega)
        have hn4 : n ≤ 120 := by have := HN.out; omega
        have HLM := hid (show ln ≤ most by unfold most; omega)
        have hc6 : cl ≤ 1000000 := by omega
        clear hsm
        go_wp2_with fail
        refine (own_any so sc n L s f w2 HN.out (HSW.out _ HB_w2.out) (by omega) HLE.out).mono ?_
        rintro e w3 ⟨to, tc, rfl, hT, be_w3⟩
        have HB_w3 := hid (HB_w2.out.trans (be_w3.mono HB_w2.out.size))
        have HT3 := hid hT
        clear be_w3 hT c0 c1 c2
        clear HSW
        by_cases h0 : 0 < cl
        · have h0' : (0 : Int) < (cl : Int) := by omega
          obtain ⟨q, eq, hqw, a0⟩ := HC.out 0 c[0] (List.getElem?_eq_getElem (by have := HCL.out; omega))
          subst eq
          obtain ⟨ck, hck⟩ : ∃ ck, ck = c[0]'(by have := HCL.out; omega) := ⟨_, rfl⟩
          rw [← hck] at a0
          have a1 : w.cell? q = some (.int .i64 ck) := by simpa [Addr.add] using a0
          clear hck a0
          have a0' := cell_al (o := .cells #[.slice to n tc, .int .i64 s, .int .i64 f] 28) (cell_bl (HB1.out.trans (HB_w3.out.mono HB1.out.size)) a1)
          go_wp2_with fail
          obtain ⟨w4, hw4⟩ : ∃ w4, w4 = w3.alloc (.cells #[.slice to n tc, .int .i64 s, .int .i64 f] 28) := ⟨_, rfl⟩
          rw [← hw4]
          obtain ⟨p7, hp7⟩ : ∃ p7, p7 = w3.heap.size := ⟨_, rfl⟩
          rw [← hp7]
          have hr7 : w4.heap[p7]? = some (.cells #[.slice to n tc, .int .i64 s, .int .i64 f] 28) := by rw [hw4, hp7]; exact al_new _ _ rfl
          have HB_w4 := hid (show Below w1.heap.size w1 w4 by rw [hw4]; exact HB_w3.out.alloc HB_w3.out.size _)
          have HT4 := hid (show RdS w4 to L from HT3.out.below (by rw [hw4]; exact (Below.refl _ _).alloc (Nat.le_refl _) _))
          have d0 : w4.cell? ⟨p7, 0, none⟩ = some (.slice to n tc) := by rw [cell_of_row w4 p7 0 _ 28 (0, 0) hr7]; rfl
          have d1 : w4.cell? ⟨p7, 1, none⟩ = some (.int .i64 s) := by rw [cell_of_row w4 p7 1 _ 28 (0, 0) hr7]; rfl
          have d2 : w4.cell? ⟨p7, 2, none⟩ = some (.int .i64 f) := by rw [cell_of_row w4 p7 2 _ 28 (0, 0) hr7]; rfl
          have HBW := hid (HB1.out.trans (HB_w4.out.mono HB1.out.size))
          have HX := hid (show ∀ W, Below w4.heap.size w4 W → W.cell? ⟨p3, 0, none⟩ = some (.slice so n sc) ∧ W.cell? ⟨p3, 1, none⟩ = some (.int .i64 s) ∧ W.cell? ⟨p3, 2, none⟩ = some (.int .i64 f) from fun W h => ⟨cell_bl h (cell_bl HB_w4.out HP3.out.1), cell_bl h (cell_bl HB_w4.out HP3.out.2.1), cell_bl h (cell_bl HB_w4.out HP3.out.2.2)⟩)
          have HY := hid (show ∀ W, Below w4.heap.size w4 W → W.cell? ⟨p7, 0, none⟩ = some (.slice to n tc) ∧ W.cell? ⟨p7, 1, none⟩ = some (.int .i64 s) ∧ W.cell? ⟨p7, 2, none⟩ = some (.int .i64 f) from fun W h => ⟨cell_bl h d0, cell_bl h d1, cell_bl h d2⟩)
          have HSW := hid (show ∀ W, Below w4.heap.size w4 W → RdS W so L from fun W h => (HS.out.below HBW.out).below h)
          have HTW := hid (show ∀ W, Below w4.heap.size w4 W → RdS W to L from fun W h => HT4.out.below h)
          have HLW := hid (show ∀ W, Below w4.heap.size w4 W → RdI W lo l from fun W h => (HL.out.below HBW.out).below h)
          have HCW := hid (show ∀ W, Below w4.heap.size w4 W → RdI W (some q) c from fun W h => (HC.out.below HBW.out).below h)
          clear hw4 hp7 hr7 HB_w4 HT3 HB_w3 HB_w2 a0'
          refine (longA_any to tc n L s f (some q) cl cc c z w4 HN.out (HTW.out _ (Below.refl _ _)) HNM.out HE.out HF.out (HCW.out _ (Below.refl _ _)) HCL.out hc6).mono ?_
          rintro e w5 ⟨E5, rfl, he5, be_w5⟩
          have HB_w5 := hid be_w5
          obtain ⟨x5, hx5⟩ : ∃ x, x = E5.getLastD 0 := ⟨_, rfl⟩
          obtain ⟨v5, hv5⟩ : ∃ v, v = (!E5.isEmpty) := ⟨_, rfl⟩
          rw [← hx5, ← hv5]
          have HX5 := hid hx5
          have HV5 := hid hv5
          clear hx5 hv5
          obtain ⟨e0, e1, e2⟩ := HX.out _ HB_w5.out
          clear be_w5 d0 d1 d2
          go_wp2_with fail
          refine (rlongA_any so sc n L s f (some q) cl cc c z w5 HN.out (HSW.out _ HB_w5.out) HNM.out (HCW.out _ HB_w5.out) HCL.out hc6).mono ?_
          rintro e w6 ⟨E6, rfl, he6, be_w6⟩
          have HB_w6 := hid (HB_w5.out.trans (be_w6.mono HB_w5.out.size))
          obtain rfl : E5 = E6 := he5.uniq he6
          rw [← HX5.out, ← HV5.out]
          clear be_w6 e0 e1 e2 he5 he6 HX5 HV5 HB_w5
          go_wp2_with fail
          refine wp_region_mix [(0, true), (1, true), (3, true), (4, true), (2, false), (5, false), (6, false), (7, true), (8, true), (9, true), (10, true), (12, true), (13, true), (14, true), (11, false), (15, false), (16, false), (17, true), (18, true), (19, true), (20, true), (22, true), (23, true), (21, false), (24, false), (25, true), (26, true), (27, true), (28, true), (29, true), (30, true), (32, true), (33, true), (34, true), (31, false), (35, false), (36, false), (37, true), (38, true), (39, true), (40, true), (41, true), (42, true), (43, true), (44, true), (45, true), (46, true), (47, true), (48, true), (49, true), (50, true), (51, false), (52, true), (53, true), (54, false), (55, true), (56, true)] (fun w' => (w'.cell? ⟨p3, 0, none⟩ = some (.slice so n sc) ∧ w'.cell? ⟨p3, 1, none⟩ = some (.int .i64 s) ∧ w'.cell? ⟨p3, 2, none⟩ = some (.int .i64 f)) ∧ w'.cell? ⟨p7, 0, none⟩ = some (.slice to n tc) ∧ w'.cell? ⟨p7, 1, none⟩ = some (.int .i64 s) ∧ w'.cell? ⟨p7, 2, none⟩ = some (.int .i64 f)) (fun _ => false) (by kernel_rfl) (by kernel_rfl) (fun j hj => by cases hj) rfl (by kernel_rfl) ⟨HX.out _ HB_w6.out.drew, HY.out _ HB_w6.out.drew⟩ ?_
          iterate 4 (refine mix_free ?_ rfl (by kernel_rfl) (fun w' hS => ?_) ?_; (rotate_left; (obtain ⟨⟨s1, s2, s3⟩, s4, s5, s6⟩ := hS; go_simp; with_reducible rfl); rotate_left))
          have HB_d := hid HB_w6.out.drew
          refine mix_go rfl (by kernel_rfl) fun KK hKK => ?_
          go_simp
          refine (closureA_any to tc n L s f lo ln lc l w6.drew HN.out (HTW.out _ HB_d.out) HNM.out HE.out HF.out (HLW.out _ HB_d.out) HLN.out HLM.out).mono ?_
          rintro e w7 ⟨T7, vo7, vc7, rfl, o7, hr7, hb7, hi7, be_w7⟩
          have HB_w7 := hid (HB_d.out.trans (be_w7.mono HB_d.out.size))
          have HR7 := hid (rdi_own o7)
          refine hKK _ _ (fun _ => ⟨HX.out _ HB_w7.out, HY.out _ HB_w7.out⟩) ?_
          clear hKK KK be_w7
          refine mix_go rfl (by kernel_rfl) fun KK hKK => ?_
          go_simp
          refine (rclosure_any so sc n L s f lo ln lc l w7 HN.out (HSW.out _ HB_w7.out) HNM.out (HLW.out _ HB_w7.out) HLN.out HLM.out).mono ?_
          rintro e w8 ⟨T8, vo8, vc8, rfl, o8, hr8, hb8, hi8, be_w8⟩
          have HB_w8 := hid (HB_w7.out.trans (be_w8.mono HB_w7.out.size))
          have HR8 := hid (rdi_own o8)
          have HR7b := hid (HR7.out.below be_w8)
          have hle8 : T8.length ≤ 1000000 := by have h := nodup_le (l := T8) (n := n) (by rw [List.nodup_iff_pairwise_ne]; exact hr8.imp fun h => by omega) hb8; omega
          obtain rfl : T7 = T8 := rising_eq hr7 hr8 (fun x => (hi7 x).trans (hi8 x).symm)
          clear hi7 hi8 hr7 hr8 hb7 hb8 o7 o8
          refine hKK _ _ (fun _ => ⟨HX.out _ HB_w8.out, HY.out _ HB_w8.out⟩) ?_
          clear hKK KK be_w8
          refine mix_go rfl (by kernel_rfl) fun KK hKK => ?_
          go_simp
          refine (ints_any vo7 vo8 vc7 vc8 T7.length T7.length T7 T7 w8 HR7b.out HR8.out rfl rfl (by unfold most; omega) (by unfold most; omega)).mono ?_
          rintro e w9 ⟨rfl, be_w9⟩
          have HB_w9 := hid (HB_w8.out.trans (be_w9.mono HB_w8.out.size))
          rw [show decide (T7 = T7) = true from decide_eq_true rfl]
          refine hKK _ _ (fun _ => ⟨HX.out _ HB_w9.out, HY.out _ HB_w9.out⟩) ?_
          clear hKK KK be_w9
          iterate 1 (refine mix_free ?_ rfl (by kernel_rfl) (fun w' hS => ?_) ?_; (rotate_left; (go_simp; with_reducible rfl); rotate_left))
          iterate 6 (refine mix_free ?_ rfl (by kernel_rfl) (fun w' hS => ?_) ?_; (rotate_left; (obtain ⟨⟨s1, s2, s3⟩, s4, s5, s6⟩ := hS; go_simp; with_reducible rfl); rotate_left))
          refine mix_go rfl (by kernel_rfl) fun KK hKK => ?_
          go_simp
          refine (stepA_any to tc n L s f lo ln lc l ck w9 HN.out (HTW.out _ HB_w9.out) HNM.out HE.out HF.out (HLW.out _ HB_w9.out) HLN.out HLM.out).mono ?_
          rintro e w10 ⟨T10, vo10, vc10, rfl, o10, hr10, hb10, hi10, be_w10⟩
          have HB_w10 := hid (HB_w9.out.trans (be_w10.mono HB_w9.out.size))
          have HR10 := hid (rdi_own o10)
          refine hKK _ _ (fun _ => ⟨HX.out _ HB_w10.out, HY.out _ HB_w10.out⟩) ?_
          clear hKK KK be_w10
          refine mix_go rfl (by kernel_rfl) fun KK hKK => ?_
          go_simp
          refine (rstepS_any so sc n L s f lo ln lc l ck w10 HN.out (HSW.out _ HB_w10.out) HNM.out (HLW.out _ HB_w10.out) HLN.out HLM.out).mono ?_
          rintro e w11 ⟨T11, vo11, vc11, rfl, o11, hr11, hb11, hi11, be_w11⟩
          have HB_w11 := hid (HB_w10.out.trans (be_w11.mono HB_w10.out.size))
          have HR11 := hid (rdi_own o11)
          have HR10b := hid (HR10.out.below be_w11)
          have hle11 : T11.length ≤ 1000000 := by have h := nodup_le (l := T11) (n := n) (by rw [List.nodup_iff_pairwise_ne]; exact hr11.imp fun h => by omega) hb11; omega
          obtain rfl : T10 = T11 := rising_eq hr10 hr11 (fun x => (hi10 x).trans (hi11 x).symm)
          clear hi10 hi11 hr10 hr11 hb10 hb11 o10 o11
          refine hKK _ _ (fun _ => ⟨HX.out _ HB_w11.out, HY.out _ HB_w11.out⟩) ?_
          clear hKK KK be_w11
          refine mix_go rfl (by kernel_rfl) fun KK hKK => ?_
          go_simp
          refine (ints_any vo10 vo11 vc10 vc11 T10.length T10.length T10 T10 w11 HR10b.out HR11.out rfl rfl (by unfold most; omega) (by unfold most; omega)).mono ?_
          rintro e w12 ⟨rfl, be_w12⟩
          have HB_w12 := hid (HB_w11.out.trans (be_w12.mono HB_w11.out.size))
          rw [show decide (T10 = T10) = true from decide_eq_true rfl]
          refine hKK _ _ (fun _ => ⟨HX.out _ HB_w12.out, HY.out _ HB_w12.out⟩) ?_
          clear hKK KK be_w12
          iterate 2 (refine mix_free ?_ rfl (by kernel_rfl) (fun w' hS => ?_) ?_; (rotate_left; (go_simp; with_reducible rfl); rotate_left))
          iterate 4 (refine mix_free ?_ rfl (by kernel_rfl) (fun w' hS => ?_) ?_; (rotate_left; (obtain ⟨⟨s1, s2, s3⟩, s4, s5, s6⟩ := hS; go_simp; with_reducible rfl); rotate_left))
          refine mix_go rfl (by kernel_rfl) fun KK hKK => ?_
          go_simp
          refine (takesA_any to tc n L s f (some q) cl cc c w12 HN.out (HTW.out _ HB_w12.out) HNM.out HE.out HF.out (HCW.out _ HB_w12.out) HCL.out hc6).mono ?_
          rintro e w13 ⟨E13, rfl, he13, be_w13⟩
          have HB_w13 := hid (HB_w12.out.trans (be_w13.mono HB_w12.out.size))
          obtain ⟨v13, hv13⟩ : ∃ v, v = (!E13.isEmpty && (E13.getLastD 0 == (c.length : Int))) := ⟨_, rfl⟩
          rw [← hv13]
          have HV13 := hid hv13
          clear hv13
          refine hKK _ _ (fun _ => ⟨HX.out _ HB_w13.out, HY.out _ HB_w13.out⟩) ?_
          clear hKK KK be_w13
          refine mix_go rfl (by kernel_rfl) fun KK hKK => ?_
          go_simp
          refine (rtakesA_any so sc n L s f (some q) cl cc c w13 HN.out (HSW.out _ HB_w13.out) HNM.out (HCW.out _ HB_w13.out) HCL.out hc6).mono ?_
          rintro e w14 ⟨E14, rfl, he14, be_w14⟩
          have HB_w14 := hid (HB_w13.out.trans (be_w14.mono HB_w13.out.size))
          obtain rfl : E13 = E14 := he13.uniq he14
          rw [← HV13.out]
          clear HV13 he13 he14
          refine hKK _ _ (fun _ => ⟨HX.out _ HB_w14.out, HY.out _ HB_w14.out⟩) ?_
          clear hKK KK be_w14
          iterate 3 (refine mix_free ?_ rfl (by kernel_rfl) (fun w' hS => ?_) ?_; (rotate_left; (go_simp; with_reducible rfl); rotate_left))
          iterate 6 (refine mix_free ?_ rfl (by kernel_rfl) (fun w' hS => ?_) ?_; (rotate_left; (obtain ⟨⟨s1, s2, s3⟩, s4, s5, s6⟩ := hS; go_simp; with_reducible rfl); rotate_left))
          refine mix_go rfl (by kernel_rfl) fun KK hKK => ?_
          go_simp
          refine (endsA_any to tc n L s f (some q) cl cc c z w14 HN.out (HTW.out _ HB_w14.out) HNM.out HE.out HF.out (HCW.out _ HB_w14.out) HCL.out hc6).mono ?_
          rintro e w15 ⟨T15, vo15, vc15, rfl, o15, he15, be_w15⟩
          have HB_w15 := hid (HB_w14.out.trans (be_w15.mono HB_w14.out.size))
          have HR15 := hid (rdi_own o15)
          refine hKK _ _ (fun _ => ⟨HX.out _ HB_w15.out, HY.out _ HB_w15.out⟩) ?_
          clear hKK KK be_w15
          refine mix_go rfl (by kernel_rfl) fun KK hKK => ?_
          go_simp
          refine (rendsA_any so sc n L s f (some q) cl cc c z w15 HN.out (HSW.out _ HB_w15.out) HNM.out (HCW.out _ HB_w15.out) HCL.out hc6).mono ?_
          rintro e w16 ⟨T16, vo16, vc16, rfl, o16, he16, be_w16⟩
          have HB_w16 := hid (HB_w15.out.trans (be_w16.mono HB_w15.out.size))
          have HR16 := hid (rdi_own o16)
          have HR15b := hid (HR15.out.below be_w16)
          have hle16 : T16.length ≤ 1000001 := by have h := he16.len; have := HCL.out; omega
          obtain rfl : T15 = T16 := he15.uniq he16
          clear he15 he16 o15 o16
          refine hKK _ _ (fun _ => ⟨HX.out _ HB_w16.out, HY.out _ HB_w16.out⟩) ?_
          clear hKK KK be_w16
          refine mix_go rfl (by kernel_rfl) fun KK hKK => ?_
          go_simp
          refine (ints_any vo15 vo16 vc15 vc16 T15.length T15.length T15 T15 w16 HR15b.out HR16.out rfl rfl (by unfold most; omega) (by unfold most; omega)).mono ?_
          rintro e w17 ⟨rfl, be_w17⟩
          have HB_w17 := hid (HB_w16.out.trans (be_w17.mono HB_w16.out.size))
          rw [show decide (T15 = T15) = true from decide_eq_true rfl]
          refine hKK _ _ (fun _ => ⟨HX.out _ HB_w17.out, HY.out _ HB_w17.out⟩) ?_
          clear hKK KK be_w17
          iterate 12 (refine mix_free ?_ rfl (by kernel_rfl) (fun w' hS => ?_) ?_; (rotate_left; (go_simp; with_reducible rfl); rotate_left))
          iterate 2 (refine mix_free ?_ rfl (by kernel_rfl) (fun w' hS => ?_) ?_; (rotate_left; (obtain ⟨⟨s1, s2, s3⟩, s4, s5, s6⟩ := hS; go_simp; with_reducible rfl); rotate_left))
          refine mix_go rfl (by kernel_rfl) fun KK hKK => ?_
          go_simp
          refine (same_any to so tc sc n L s f w17 HN.out (HTW.out _ HB_w17.out) (HSW.out _ HB_w17.out) HNM.out (fun x hx => ⟨(HLE.out x hx).1, (HLE.out x hx).2.1⟩)).mono ?_
          rintro e w18 ⟨rfl, be_w18⟩
          have HB_w18 := hid (HB_w17.out.trans (be_w18.mono HB_w17.out.size))
          refine hKK _ _ (fun _ => ⟨HX.out _ HB_w18.out, HY.out _ HB_w18.out⟩) ?_
          clear hKK KK be_w18
          iterate 2 (refine mix_free ?_ rfl (by kernel_rfl) (fun w' hS => ?_) ?_; (rotate_left; (go_simp; with_reducible rfl); rotate_left))
          refine mix_go rfl (by kernel_rfl) fun KK hKK => ?_
          go_simp
          refine (live_tb (HTB.out.keep (HBW.out.trans (HB_w18.out.mono HBW.out.size)) hp)).mono ?_
          rintro e w19 ⟨rfl, be_w19⟩
          have HB_w19 := hid (HB_w18.out.trans (be_w19.mono HB_w18.out.size))
          refine hKK _ _ (fun _ => ⟨HX.out _ HB_w19.out, HY.out _ HB_w19.out⟩) ?_
          clear hKK KK be_w19
          iterate 2 (refine mix_free ?_ rfl (by kernel_rfl) (fun w' hS => ?_) ?_; (rotate_left; (go_simp; with_reducible rfl); rotate_left))
          refine mix_end (NoPanic.normal ?_)
          go_wp2
          go_ret
          exact ⟨rfl, HBW.out.trans (HB_w19.out.mono HBW.out.size)⟩
        · have h0' : ¬ (0 : Int) < (cl : Int) := by omega
          have a0' := True.intro
          go_wp2_with fail
          obtain ⟨w4, hw4⟩ : ∃ w4, w4 = w3.alloc (.cells #[.slice to n tc, .int .i64 s, .int .i64 f] 28) := ⟨_, rfl⟩
          rw [← hw4]
          obtain ⟨p7, hp7⟩ : ∃ p7, p7 = w3.heap.size := ⟨_, rfl⟩
          rw [← hp7]
          have hr7 : w4.heap[p7]? = some (.cells #[.slice to n tc, .int .i64 s, .int .i64 f] 28) := by rw [hw4, hp7]; exact al_new _ _ rfl
          have HB_w4 := hid (show Below w1.heap.size w1 w4 by rw [hw4]; exact HB_w3.out.alloc HB_w3.out.size _)
          have HT4 := hid (show RdS w4 to L from HT3.out.below (by rw [hw4]; exact (Below.refl _ _).alloc (Nat.le_refl _) _))
          have d0 : w4.cell? ⟨p7, 0, none⟩ = some (.slice to n tc) := by rw [cell_of_row w4 p7 0 _ 28 (0, 0) hr7]; rfl
          have d1 : w4.cell? ⟨p7, 1, none⟩ = some (.int .i64 s) := by rw [cell_of_row w4 p7 1 _ 28 (0, 0) hr7]; rfl
          have d2 : w4.cell? ⟨p7, 2, none⟩ = some (.int .i64 f) := by rw [cell_of_row w4 p7 2 _ 28 (0, 0) hr7]; rfl
          have HBW := hid (HB1.out.trans (HB_w4.out.mono HB1.out.size))
          have HX := hid (show ∀ W, Below w4.heap.size w4 W → W.cell? ⟨p3, 0, none⟩ = some (.slice so n sc) ∧ W.cell? ⟨p3, 1, none⟩ = some (.int .i64 s) ∧ W.cell? ⟨p3, 2, none⟩ = some (.int .i64 f) from fun W h => ⟨cell_bl h (cell_bl HB_w4.out HP3.out.1), cell_bl h (cell_bl HB_w4.out HP3.out.2.1), cell_bl h (cell_bl HB_w4.out HP3.out.2.2)⟩)
          have HY := hid (show ∀ W, Below w4.heap.size w4 W → W.cell? ⟨p7, 0, none⟩ = some (.slice to n tc) ∧ W.cell? ⟨p7, 1, none⟩ = some (.int .i64 s) ∧ W.cell? ⟨p7, 2, none⟩ = some (.int .i64 f) from fun W h => ⟨cell_bl h d0, cell_bl h d1, cell_bl h d2⟩)
          have HSW := hid (show ∀ W, Below w4.heap.size w4 W → RdS W so L from fun W h => (HS.out.below HBW.out).below h)
          have HTW := hid (show ∀ W, Below w4.heap.size w4 W → RdS W to L from fun W h => HT4.out.below h)
          have HLW := hid (show ∀ W, Below w4.heap.size w4 W → RdI W lo l from fun W h => (HL.out.below HBW.out).below h)
          have HCW := hid (show ∀ W, Below w4.heap.size w4 W → RdI W co c from fun W h => (HC.out.below HBW.out).below h)
          clear hw4 hp7 hr7 HB_w4 HT3 HB_w3 HB_w2 a0'
          refine (longA_any to tc n L s f co cl cc c z w4 HN.out (HTW.out _ (Below.refl _ _)) HNM.out HE.out HF.out (HCW.out _ (Below.refl _ _)) HCL.out hc6).mono ?_
          rintro e w5 ⟨E5, rfl, he5, be_w5⟩
          have HB_w5 := hid be_w5
          obtain ⟨x5, hx5⟩ : ∃ x, x = E5.getLastD 0 := ⟨_, rfl⟩
          obtain ⟨v5, hv5⟩ : ∃ v, v = (!E5.isEmpty) := ⟨_, rfl⟩
          rw [← hx5, ← hv5]
          have HX5 := hid hx5
          have HV5 := hid hv5
          clear hx5 hv5
          obtain ⟨e0, e1, e2⟩ := HX.out _ HB_w5.out
          clear be_w5 d0 d1 d2
          go_wp2_with fail
          refine (rlongA_any so sc n L s f co cl cc c z w5 HN.out (HSW.out _ HB_w5.out) HNM.out (HCW.out _ HB_w5.out) HCL.out hc6).mono ?_
          rintro e w6 ⟨E6, rfl, he6, be_w6⟩
          have HB_w6 := hid (HB_w5.out.trans (be_w6.mono HB_w5.out.size))
          obtain rfl : E5 = E6 := he5.uniq he6
          rw [← HX5.out, ← HV5.out]
          clear be_w6 e0 e1 e2 he5 he6 HX5 HV5 HB_w5
          go_wp2_with fail
          refine wp_region_mix [(0, true), (1, true), (3, true), (4, true), (2, false), (5, false), (6, false), (7, true), (8, true), (9, true), (10, true), (12, true), (13, true), (14, true), (11, false), (15, false), (16, false), (17, true), (18, true), (19, true), (20, true), (22, true), (23, true), (21, false), (24, false), (25, true), (26, true), (27, true), (28, true), (29, true), (30, true), (32, true), (33, true), (34, true), (31, false), (35, false), (36, false), (37, true), (38, true), (39, true), (40, true), (41, true), (42, true), (43, true), (44, true), (45, true), (46, true), (47, true), (48, true), (49, true), (50, true), (51, false), (52, true), (53, true), (54, false), (55, true), (56, true)] (fun w' => (w'.cell? ⟨p3, 0, none⟩ = some (.slice so n sc) ∧ w'.cell? ⟨p3, 1, none⟩ = some (.int .i64 s) ∧ w'.cell? ⟨p3, 2, none⟩ = some (.int .i64 f)) ∧ w'.cell? ⟨p7, 0, none⟩ = some (.slice to n tc) ∧ w'.cell? ⟨p7, 1, none⟩ = some (.int .i64 s) ∧ w'.cell? ⟨p7, 2, none⟩ = some (.int .i64 f)) (fun _ => false) (by kernel_rfl) (by kernel_rfl) (fun j hj => by cases hj) rfl (by kernel_rfl) ⟨HX.out _ HB_w6.out.drew, HY.out _ HB_w6.out.drew⟩ ?_
          iterate 4 (refine mix_free ?_ rfl (by kernel_rfl) (fun w' hS => ?_) ?_; (rotate_left; (obtain ⟨⟨s1, s2, s3⟩, s4, s5, s6⟩ := hS; go_simp; with_reducible rfl); rotate_left))
          have HB_d := hid HB_w6.out.drew
          refine mix_go rfl (by kernel_rfl) fun KK hKK => ?_
          go_simp
          refine (closureA_any to tc n L s f lo ln lc l w6.drew HN.out (HTW.out _ HB_d.out) HNM.out HE.out HF.out (HLW.out _ HB_d.out) HLN.out HLM.out).mono ?_
          rintro e w7 ⟨T7, vo7, vc7, rfl, o7, hr7, hb7, hi7, be_w7⟩
          have HB_w7 := hid (HB_d.out.trans (be_w7.mono HB_d.out.size))
          have HR7 := hid (rdi_own o7)
          refine hKK _ _ (fun _ => ⟨HX.out _ HB_w7.out, HY.out _ HB_w7.out⟩) ?_
          clear hKK KK be_w7
          refine mix_go rfl (by kernel_rfl) fun KK hKK => ?_
          go_simp
          refine (rclosure_any so sc n L s f lo ln lc l w7 HN.out (HSW.out _ HB_w7.out) HNM.out (HLW.out _ HB_w7.out) HLN.out HLM.out).mono ?_
          rintro e w8 ⟨T8, vo8, vc8, rfl, o8, hr8, hb8, hi8, be_w8⟩
          have HB_w8 := hid (HB_w7.out.trans (be_w8.mono HB_w7.out.size))
          have HR8 := hid (rdi_own o8)
          have HR7b := hid (HR7.out.below be_w8)
          have hle8 : T8.length ≤ 1000000 := by have h := nodup_le (l := T8) (n := n) (by rw [List.nodup_iff_pairwise_ne]; exact hr8.imp fun h => by omega) hb8; omega
          obtain rfl : T7 = T8 := rising_eq hr7 hr8 (fun x => (hi7 x).trans (hi8 x).symm)
          clear hi7 hi8 hr7 hr8 hb7 hb8 o7 o8
          refine hKK _ _ (fun _ => ⟨HX.out _ HB_w8.out, HY.out _ HB_w8.out⟩) ?_
          clear hKK KK be_w8
          refine mix_go rfl (by kernel_rfl) fun KK hKK => ?_
          go_simp
          refine (ints_any vo7 vo8 vc7 vc8 T7.length T7.length T7 T7 w8 HR7b.out HR8.out rfl rfl (by unfold most; omega) (by unfold most; omega)).mono ?_
          rintro e w9 ⟨rfl, be_w9⟩
          have HB_w9 := hid (HB_w8.out.trans (be_w9.mono HB_w8.out.size))
          rw [show decide (T7 = T7) = true from decide_eq_true rfl]
          refine hKK _ _ (fun _ => ⟨HX.out _ HB_w9.out, HY.out _ HB_w9.out⟩) ?_
          clear hKK KK be_w9
          iterate 1 (refine mix_free ?_ rfl (by kernel_rfl) (fun w' hS => ?_) ?_; (rotate_left; (go_simp; with_reducible rfl); rotate_left))
          iterate 6 (refine mix_free ?_ rfl (by kernel_rfl) (fun w' hS => ?_) ?_; (rotate_left; (obtain ⟨⟨s1, s2, s3⟩, s4, s5, s6⟩ := hS; go_simp; with_reducible rfl); rotate_left))
          refine mix_go rfl (by kernel_rfl) fun KK hKK => ?_
          go_simp
          refine (stepA_any to tc n L s f lo ln lc l 0 w9 HN.out (HTW.out _ HB_w9.out) HNM.out HE.out HF.out (HLW.out _ HB_w9.out) HLN.out HLM.out).mono ?_
          rintro e w10 ⟨T10, vo10, vc10, rfl, o10, hr10, hb10, hi10, be_w10⟩
          have HB_w10 := hid (HB_w9.out.trans (be_w10.mono HB_w9.out.size))
          have HR10 := hid (rdi_own o10)
          refine hKK _ _ (fun _ => ⟨HX.out _ HB_w10.out, HY.out _ HB_w10.out⟩) ?_
          clear hKK KK be_w10
          refine mix_go rfl (by kernel_rfl) fun KK hKK => ?_
          go_simp
          refine (rstepS_any so sc n L s f lo ln lc l 0 w10 HN.out (HSW.out _ HB_w10.out) HNM.out (HLW.out _ HB_w10.out) HLN.out HLM.out).mono ?_
          rintro e w11 ⟨T11, vo11, vc11, rfl, o11, hr11, hb11, hi11, be_w11⟩
          have HB_w11 := hid (HB_w10.out.trans (be_w11.mono HB_w10.out.size))
          have HR11 := hid (rdi_own o11)
          have HR10b := hid (HR10.out.below be_w11)
          have hle11 : T11.length ≤ 1000000 := by have h := nodup_le (l := T11) (n := n) (by rw [List.nodup_iff_pairwise_ne]; exact hr11.imp fun h => by omega) hb11; omega
          obtain rfl : T10 = T11 := rising_eq hr10 hr11 (fun x => (hi10 x).trans (hi11 x).symm)
          clear hi10 hi11 hr10 hr11 hb10 hb11 o10 o11
          refine hKK _ _ (fun _ => ⟨HX.out _ HB_w11.out, HY.out _ HB_w11.out⟩) ?_
          clear hKK KK be_w11
          refine mix_go rfl (by kernel_rfl) fun KK hKK => ?_
          go_simp
          refine (ints_any vo10 vo11 vc10 vc11 T10.length T10.length T10 T10 w11 HR10b.out HR11.out rfl rfl (by unfold most; omega) (by unfold most; omega)).mono ?_
          rintro e w12 ⟨rfl, be_w12⟩
          have HB_w12 := hid (HB_w11.out.trans (be_w12.mono HB_w11.out.size))
          rw [show decide (T10 = T10) = true from decide_eq_true rfl]
          refine hKK _ _ (fun _ => ⟨HX.out _ HB_w12.out, HY.out _ HB_w12.out⟩) ?_
          clear hKK KK be_w12
          iterate 2 (refine mix_free ?_ rfl (by kernel_rfl) (fun w' hS => ?_) ?_; (rotate_left; (go_simp; with_reducible rfl); rotate_left))
          iterate 4 (refine mix_free ?_ rfl (by kernel_rfl) (fun w' hS => ?_) ?_; (rotate_left; (obtain ⟨⟨s1, s2, s3⟩, s4, s5, s6⟩ := hS; go_simp; with_reducible rfl); rotate_left))
          refine mix_go rfl (by kernel_rfl) fun KK hKK => ?_
          go_simp
          refine (takesA_any to tc n L s f co cl cc c w12 HN.out (HTW.out _ HB_w12.out) HNM.out HE.out HF.out (HCW.out _ HB_w12.out) HCL.out hc6).mono ?_
          rintro e w13 ⟨E13, rfl, he13, be_w13⟩
          have HB_w13 := hid (HB_w12.out.trans (be_w13.mono HB_w12.out.size))
          obtain ⟨v13, hv13⟩ : ∃ v, v = (!E13.isEmpty && (E13.getLastD 0 == (c.length : Int))) := ⟨_, rfl⟩
          rw [← hv13]
          have HV13 := hid hv13
          clear hv13
          refine hKK _ _ (fun _ => ⟨HX.out _ HB_w13.out, HY.out _ HB_w13.out⟩) ?_
          clear hKK KK be_w13
          refine mix_go rfl (by kernel_rfl) fun KK hKK => ?_
          go_simp
          refine (rtakesA_any so sc n L s f co cl cc c w13 HN.out (HSW.out _ HB_w13.out) HNM.out (HCW.out _ HB_w13.out) HCL.out hc6).mono ?_
          rintro e w14 ⟨E14, rfl, he14, be_w14⟩
          have HB_w14 := hid (HB_w13.out.trans (be_w14.mono HB_w13.out.size))
          obtain rfl : E13 = E14 := he13.uniq he14
          rw [← HV13.out]
          clear HV13 he13 he14
          refine hKK _ _ (fun _ => ⟨HX.out _ HB_w14.out, HY.out _ HB_w14.out⟩) ?_
          clear hKK KK be_w14
          iterate 3 (refine mix_free ?_ rfl (by kernel_rfl) (fun w' hS => ?_) ?_; (rotate_left; (go_simp; with_reducible rfl); rotate_left))
          iterate 6 (refine mix_free ?_ rfl (by kernel_rfl) (fun w' hS => ?_) ?_; (rotate_left; (obtain ⟨⟨s1, s2, s3⟩, s4, s5, s6⟩ := hS; go_simp; with_reducible rfl); rotate_left))
          refine mix_go rfl (by kernel_rfl) fun KK hKK => ?_
          go_simp
          refine (endsA_any to tc n L s f co cl cc c z w14 HN.out (HTW.out _ HB_w14.out) HNM.out HE.out HF.out (HCW.out _ HB_w14.out) HCL.out hc6).mono ?_
          rintro e w15 ⟨T15, vo15, vc15, rfl, o15, he15, be_w15⟩
          have HB_w15 := hid (HB_w14.out.trans (be_w15.mono HB_w14.out.size))
          have HR15 := hid (rdi_own o15)
          refine hKK _ _ (fun _ => ⟨HX.out _ HB_w15.out, HY.out _ HB_w15.out⟩) ?_
          clear hKK KK be_w15
          refine mix_go rfl (by kernel_rfl) fun KK hKK => ?_
          go_simp
          refine (rendsA_any so sc n L s f co cl cc c z w15 HN.out (HSW.out _ HB_w15.out) HNM.out (HCW.out _ HB_w15.out) HCL.out hc6).mono ?_
          rintro e w16 ⟨T16, vo16, vc16, rfl, o16, he16, be_w16⟩
          have HB_w16 := hid (HB_w15.out.trans (be_w16.mono HB_w15.out.size))
          have HR16 := hid (rdi_own o16)
          have HR15b := hid (HR15.out.below be_w16)
          have hle16 : T16.length ≤ 1000001 := by have h := he16.len; have := HCL.out; omega
          obtain rfl : T15 = T16 := he15.uniq he16
          clear he15 he16 o15 o16
          refine hKK _ _ (fun _ => ⟨HX.out _ HB_w16.out, HY.out _ HB_w16.out⟩) ?_
          clear hKK KK be_w16
          refine mix_go rfl (by kernel_rfl) fun KK hKK => ?_
          go_simp
          refine (ints_any vo15 vo16 vc15 vc16 T15.length T15.length T15 T15 w16 HR15b.out HR16.out rfl rfl (by unfold most; omega) (by unfold most; omega)).mono ?_
          rintro e w17 ⟨rfl, be_w17⟩
          have HB_w17 := hid (HB_w16.out.trans (be_w17.mono HB_w16.out.size))
          rw [show decide (T15 = T15) = true from decide_eq_true rfl]
          refine hKK _ _ (fun _ => ⟨HX.out _ HB_w17.out, HY.out _ HB_w17.out⟩) ?_
          clear hKK KK be_w17
          iterate 12 (refine mix_free ?_ rfl (by kernel_rfl) (fun w' hS => ?_) ?_; (rotate_left; (go_simp; with_reducible rfl); rotate_left))
          iterate 2 (refine mix_free ?_ rfl (by kernel_rfl) (fun w' hS => ?_) ?_; (rotate_left; (obtain ⟨⟨s1, s2, s3⟩, s4, s5, s6⟩ := hS; go_simp; with_reducible rfl); rotate_left))
          refine mix_go rfl (by kernel_rfl) fun KK hKK => ?_
          go_simp
          refine (same_any to so tc sc n L s f w17 HN.out (HTW.out _ HB_w17.out) (HSW.out _ HB_w17.out) HNM.out (fun x hx => ⟨(HLE.out x hx).1, (HLE.out x hx).2.1⟩)).mono ?_
          rintro e w18 ⟨rfl, be_w18⟩
          have HB_w18 := hid (HB_w17.out.trans (be_w18.mono HB_w17.out.size))
          refine hKK _ _ (fun _ => ⟨HX.out _ HB_w18.out, HY.out _ HB_w18.out⟩) ?_
          clear hKK KK be_w18
          iterate 2 (refine mix_free ?_ rfl (by kernel_rfl) (fun w' hS => ?_) ?_; (rotate_left; (go_simp; with_reducible rfl); rotate_left))
          refine mix_go rfl (by kernel_rfl) fun KK hKK => ?_
          go_simp
          refine (live_tb (HTB.out.keep (HBW.out.trans (HB_w18.out.mono HBW.out.size)) hp)).mono ?_
          rintro e w19 ⟨rfl, be_w19⟩
          have HB_w19 := hid (HB_w18.out.trans (be_w19.mono HB_w18.out.size))
          refine hKK _ _ (fun _ => ⟨HX.out _ HB_w19.out, HY.out _ HB_w19.out⟩) ?_
          clear hKK KK be_w19
          iterate 2 (refine mix_free ?_ rfl (by kernel_rfl) (fun w' hS => ?_) ?_; (rotate_left; (go_simp; with_reducible rfl); rotate_left))
          refine mix_end (NoPanic.normal ?_)
          go_wp2
          go_ret
          exact ⟨rfl, HBW.out.trans (HB_w19.out.mono HBW.out.size)⟩
      · have i60 : (60 : Int) < (cl : Int) := by omega
        go_wp2_with fail
        refine (live_tb (HTB.out.keep (HB1.out.trans (HB_w2.out.mono HB1.out.size)) hp)).mono ?_
        rintro e w3 ⟨rfl, be_w3⟩
        have HB_w3 := hid (HB1.out.trans ((HB_w2.out.trans (be_w3.mono HB_w2.out.size)).mono HB1.out.size))
        clear be_w3
        go_wp2
        go_ret
        exact ⟨rfl, HB_w3.out⟩
    · have i200 : (200 : Int) < (ln : Int) := by omega
      go_wp2_with fail
      refine (live_tb (HTB.out.keep (HB1.out.trans (HB_w2.out.mono HB1.out.size)) hp)).mono ?_
      rintro e w3 ⟨rfl, be_w3⟩
      have HB_w3 := hid (HB1.out.trans ((HB_w2.out.trans (be_w3.mono HB_w2.out.size)).mono HB1.out.size))
      clear be_w3
      go_wp2
      go_ret
      exact ⟨rfl, HB_w3.out⟩
end Go.Proofs.YtbabidhhdfakjaaDoor
