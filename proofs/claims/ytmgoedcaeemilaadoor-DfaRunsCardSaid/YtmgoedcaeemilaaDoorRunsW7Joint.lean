/- DfaRuns: the walk. -/
import Derived.Test.YtmgoedcaeemilaaDoorOwn7Joint
import Derived.Test.YtmgoedcaeemilaaDoorTbs7Joint
import Derived.Test.YtmgoedcaeemilaaDoorRCheck7
import Derived.Test.YtmgoedcaeemilaaDoorRRun7
import Derived.Test.YtmgoedcaeemilaaDoorRLong7
import Derived.Test.YtmgoedcaeemilaaDoorRLive7
import Derived.Test.YtmgoedcaeemilaaDoorRSure7
import Derived.Test.YtmgoedcaeemilaaDoorLive7
namespace Go.Proofs.YtmgoedcaeemilaaDoor
open Go.RowKit

theorem len_le {l : List Int} {n : Nat} (h : l.Pairwise (· < ·)) (hb : ∀ x ∈ l, 0 ≤ x ∧ x < (n : Int)) : l.length ≤ n := by
  have key : ∀ (l : List Int) (k : Nat), l.Pairwise (· < ·) → (∀ x ∈ l, (k : Int) ≤ x ∧ x < (n : Int)) → l.length ≤ n - k := by
    intro l
    induction l with
    | nil => intro k _ _; simp
    | cons x l ih =>
      intro k hp hx
      rw [List.pairwise_cons] at hp
      have h1 := hx x (.head _)
      have h2 := ih (k + 1) hp.2 (fun y hy => ⟨by have := hp.1 y hy; omega, (hx y (.tail _ hy)).2⟩)
      simp only [List.length_cons]
      omega
  simpa using key l 0 h (fun x hx => by simpa using hb x hx)
set_option maxHeartbeats 8000000 in
set_option maxRecDepth 100000 in
theorem runs_main (c f : Int) (no to : Option Addr) (n nc m tc : Nat) (R : Rw) (T : List Int) (lo : Option Addr) (ll lc : Nat) (l : List Int) (w : World) (hd : DRd w no n to m R T) (hl : RdI w lo l) (hll : ll = l.length) (hlm : ll ≤ most) (hlc : ll ≤ lc) (hlo : lo = none → lc = 0) (ht : Tb w) :
    Calls Tryd.prog 5 #[.agg #[.int .i64 c, .slice no n nc, .slice to m tc], .int .i64 f, .slice lo ll lc] w fun e w' => e = .returned (.bool true) ∧ Below w.heap.size w w' := by
  have HD := hid hd
  have HL := hid hl
  have HLL := hid hll
  have HLM := hid hlm
  have HLC := hid hlc
  have HLO := hid hlo
  have HTB := hid ht
  have hp := ht.pos
  unfold most at hlm
  have HB1 := hid (below_box (w := w) (o := .cells #[.int .i64 c, .slice no n nc, .slice to m tc] 32))
  have HBS := hid (box_self (w := w) (o := .cells #[.int .i64 c, .slice no n nc, .slice to m tc] 32))
  clear hd hl hll hlc hlo ht
  go_enter Tryd.func5, Tryd.ntmps5
  go_wp2_with fail
  obtain ⟨w1, hw1⟩ : ∃ w1, w1 = w.alloc (.cells #[.int .i64 c, .slice no n nc, .slice to m tc] 32) := ⟨_, rfl⟩
  obtain ⟨p3, hp3⟩ : ∃ p, p = w.heap.size := ⟨_, rfl⟩
  have c012 := box3 HBS.out
  rw [← hw1, ← hp3] at c012
  rw [← hw1]
  rw [← hw1] at HB1
  rw [← hp3]
  have HP3 := hid c012
  clear hw1 hp3 c012 HBS
  refine (long_any c no to n nc m tc R T w1 (HD.out.below HB1.out)).mono ?_
  rintro e w2 ⟨b, rfl, hb, be_w2⟩
  have HB_w2 := hid be_w2
  clear be_w2
  cases b with
  | true =>
    go_wp2_with fail
    refine (lives_tb (HTB.out.keep (HB1.out.trans (HB_w2.out.mono HB1.out.size)) hp)).mono ?_
    rintro e w3 ⟨rfl, be_w3⟩
    have HB_w3 := hid (HB1.out.trans ((HB_w2.out.trans (be_w3.mono HB_w2.out.size)).mono HB1.out.size))
    clear be_w3
    go_wp2
    go_ret
    exact ⟨rfl, HB_w3.out⟩
  | false =>
    obtain ⟨h60, h15, hrl⟩ := hb rfl
    have HRL := hid hrl
    clear hrl hb
    by_cases g60 : 60 < ll
    · have i60 : (60 : Int) < (ll : Int) := by omega
      go_wp2_with fail
      refine (lives_tb (HTB.out.keep (HB1.out.trans (HB_w2.out.mono HB1.out.size)) hp)).mono ?_
      rintro e w3 ⟨rfl, be_w3⟩
      have HB_w3 := hid (HB1.out.trans ((HB_w2.out.trans (be_w3.mono HB_w2.out.size)).mono HB1.out.size))
      clear be_w3
      go_wp2
      go_ret
      exact ⟨rfl, HB_w3.out⟩
    · have i60 : ¬ (60 : Int) < (ll : Int) := by omega
      have e0 := cell_bl HB_w2.out HP3.out.1
      have e1 := cell_bl HB_w2.out HP3.out.2.1
      have e2 := cell_bl HB_w2.out HP3.out.2.2
      go_wp2_with fail
      refine (own_any c no to n nc m tc R T w2 ((HD.out.below HB1.out).below HB_w2.out) h60 h15 HRL.out).mono ?_
      rintro e w3 ⟨qo, uo, qc, uc, rfl, hQ, be_w3⟩
      have HB_w3 := hid (HB_w2.out.trans (be_w3.mono HB_w2.out.size))
      have HQ3 := hid hQ
      clear be_w3 hQ e0 e1 e2
      have HOE := hid (show ((w3.alloc (.cells #[.int .i64 c, .slice qo n qc, .slice uo m uc] 32)).alloc (.cells #[] 3)).ownsRow (w3.heap.size + 1) 3 1 (.slice (some ⟨w3.heap.size + 1, 0, none⟩) 0 0) 0 [] from by
        have hs : (w3.alloc (.cells #[.int .i64 c, .slice qo n qc, .slice uo m uc] 32)).heap.size = w3.heap.size + 1 := by simp
        rw [← hs]
        exact World.ownsRow_lit (w3.alloc (.cells #[.int .i64 c, .slice qo n qc, .slice uo m uc] 32)) #[] 0 (Nat.le_refl _) (by decide) (by simp))
      have HBA := hid (show Below w1.heap.size w1 ((w3.alloc (.cells #[.int .i64 c, .slice qo n qc, .slice uo m uc] 32)).alloc (.cells #[] 3)) from (HB_w3.out.alloc HB_w3.out.size _).alloc (by have := HB_w3.out.size; simp; omega) _)
      have HBW1 := hid (show Below w3.heap.size w3 ((w3.alloc (.cells #[.int .i64 c, .slice qo n qc, .slice uo m uc] 32)).alloc (.cells #[] 3)) from ((Below.refl _ _).alloc (Nat.le_refl _) _).alloc (by simp) _)
      go_wp2_with (at_builtin; go_loud (refine wpList_copy rfl _ _ rfl (w3.heap.size + 1) (w3.heap.size + 1) rfl HOE.out lo ll lc l rfl ((HL.out.below HB1.out).below HBA.out) HLL.out (by omega) (by simp) ?_); intro g gcap w5 o5 gr5 hg5 hlt5)
      obtain ⟨w6, hw6⟩ : ∃ w6, w6 = w5 := ⟨_, rfl⟩
      have hsz5 : w3.heap.size + 2 ≤ w5.heap.size := by have h := gr5.size; simpa using h
      have hblk5 : ∀ b, b < w3.heap.size + 1 → w5.heap[b]? = (w3.alloc (.cells #[.int .i64 c, .slice qo n qc, .slice uo m uc] 32)).heap[b]? := fun b hb => (gr5.block b (by simp; omega) (fun e => by have := Option.some.inj e; omega)).trans (al_old _ _ (by simp; omega))
      have hr7 : w5.heap[w3.heap.size]? = some (.cells #[.int .i64 c, .slice qo n qc, .slice uo m uc] 32) := (hblk5 _ (by omega)).trans (al_new _ _ rfl)
      have be35 : Below w3.heap.size w3 w5 := ⟨gr5.os, gr5.tape, gr5.output, by omega, fun b hb => (hblk5 b (by omega)).trans (al_old _ _ hb)⟩
      obtain ⟨p7, hp7⟩ : ∃ p7, p7 = w3.heap.size := ⟨_, rfl⟩
      rw [← hp7] at hr7
      rw [← hp7]
      have d0 : w5.cell? ⟨p7, 0, none⟩ = some (.int .i64 c) := by rw [cell_of_row w5 p7 0 _ 32 (0, 0) hr7]; rfl
      have d1 : w5.cell? ⟨p7, 1, none⟩ = some (.slice qo n qc) := by rw [cell_of_row w5 p7 1 _ 32 (0, 0) hr7]; rfl
      have d2 : w5.cell? ⟨p7, 2, none⟩ = some (.slice uo m uc) := by rw [cell_of_row w5 p7 2 _ 32 (0, 0) hr7]; rfl
      have HB15 := hid (show Below w1.heap.size w1 w5 from HB_w3.out.trans (be35.mono HB_w3.out.size))
      have HBW := hid (show Below w.heap.size w w5 from HB1.out.trans (HB15.out.mono HB1.out.size))
      have HX := hid (show ∀ W, Below w5.heap.size w5 W → W.cell? ⟨p3, 0, none⟩ = some (.int .i64 c) ∧ W.cell? ⟨p3, 1, none⟩ = some (.slice no n nc) ∧ W.cell? ⟨p3, 2, none⟩ = some (.slice to m tc) from fun W h => ⟨cell_bl h (cell_bl HB15.out HP3.out.1), cell_bl h (cell_bl HB15.out HP3.out.2.1), cell_bl h (cell_bl HB15.out HP3.out.2.2)⟩)
      have HY := hid (show ∀ W, Below w5.heap.size w5 W → W.cell? ⟨p7, 0, none⟩ = some (.int .i64 c) ∧ W.cell? ⟨p7, 1, none⟩ = some (.slice qo n qc) ∧ W.cell? ⟨p7, 2, none⟩ = some (.slice uo m uc) from fun W h => ⟨cell_bl h d0, cell_bl h d1, cell_bl h d2⟩)
      have HDW := hid (show ∀ W, Below w5.heap.size w5 W → DRd W no n to m R T from fun W h => (HD.out.below HBW.out).below h)
      have HQW := hid (show ∀ W, Below w5.heap.size w5 W → DRd W qo n uo m R T from fun W h => (HQ3.out.below be35).below h)
      have HLW := hid (show ∀ W, Below w5.heap.size w5 W → RdI W lo l from fun W h => (HL.out.below HBW.out).below h)
      have HCW := hid (show ∀ W, Below w5.heap.size w5 W → RdI W (some ⟨g, 0, none⟩) l from fun W h => (rdi_own o5).below h)
      clear hw6 hsz5 hblk5 hr7 be35 hp7 d0 d1 d2 o5 gr5 hg5 hlt5 HOE HBA HBW1 HB_w3 HB_w2 HB15 HQ3
      go_wp2_with fail
      refine wp_region_mix [(0, true), (3, true), (1, false), (2, false), (4, false), (5, true), (6, true), (7, true), (8, true), (9, true), (11, true), (12, true), (13, true), (10, false), (14, false), (15, true), (16, true), (17, true), (18, true), (19, true), (21, true), (22, true), (20, false), (23, false), (24, true), (25, true), (26, true), (27, true), (28, true), (30, true), (31, true), (29, false), (32, false), (33, true), (34, true), (35, true), (36, true), (38, true), (37, false), (39, false), (40, false), (41, true), (42, true), (43, true), (45, true), (44, false), (46, false), (47, false), (48, true), (49, true), (50, true), (51, true), (52, false), (53, true), (54, true), (55, true), (56, true), (57, false), (58, true), (59, true), (60, false), (61, true), (62, true)] (fun w' => (w'.cell? ⟨p3, 0, none⟩ = some (.int .i64 c) ∧ w'.cell? ⟨p3, 1, none⟩ = some (.slice no n nc) ∧ w'.cell? ⟨p3, 2, none⟩ = some (.slice to m tc)) ∧ w'.cell? ⟨p7, 0, none⟩ = some (.int .i64 c) ∧ w'.cell? ⟨p7, 1, none⟩ = some (.slice qo n qc) ∧ w'.cell? ⟨p7, 2, none⟩ = some (.slice uo m uc)) (fun _ => false) (by kernel_rfl) (by kernel_rfl) (fun j hj => by cases hj) rfl (by kernel_rfl) ⟨HX.out _ (Below.refl _ _).drew, HY.out _ (Below.refl _ _).drew⟩ ?_
      have HB_d := hid (show Below w5.heap.size w5 w5.drew from (Below.refl _ _).drew)
      iterate 2 (refine mix_free ?_ rfl (by kernel_rfl) (fun w' hS => ?_) ?_; (rotate_left; (obtain ⟨⟨s1, s2, s3⟩, s4, s5, s6⟩ := hS; go_simp; with_reducible rfl); rotate_left))
      refine mix_go rfl (by kernel_rfl) fun KK hKK => ?_
      go_simp
      refine (check_any c qo uo n qc m uc R T w5.drew (HQW.out _ HB_d.out)).mono ?_
      rintro e w10 ⟨rfl, be⟩
      have HB_w10 := hid (HB_d.out.trans (be.mono HB_d.out.size))
      obtain ⟨v1, hv1⟩ : ∃ v, v = gdC c R T := ⟨_, rfl⟩
      rw [← hv1]
      have Hv1 := hid hv1
      clear hv1
      refine hKK _ _ (fun _ => ⟨HX.out _ HB_w10.out, HY.out _ HB_w10.out⟩) ?_
      clear hKK KK be
      refine mix_go rfl (by kernel_rfl) fun KK hKK => ?_
      go_simp
      refine (num_any v1 w10).mono ?_
      rintro e w11 ⟨rfl, hw'⟩
      have HB_w11 := hid (show Below w5.heap.size w5 w11 by rw [hw']; exact HB_w10.out)
      clear hw'
      refine hKK _ _ (fun _ => ⟨HX.out _ HB_w11.out, HY.out _ HB_w11.out⟩) ?_
      clear hKK KK
      refine mix_go rfl (by kernel_rfl) fun KK hKK => ?_
      go_simp
      refine (rcheck_any c no to n nc m tc R T w11 (HDW.out _ HB_w11.out)).mono ?_
      rintro e w12 ⟨rfl, be⟩
      have HB_w12 := hid (HB_w11.out.trans (be.mono HB_w11.out.size))
      rw [← Hv1.out]
      clear Hv1
      have vv1 : (v1 == v1) = true := beq_self_eq_true v1
      refine hKK _ _ (fun _ => ⟨HX.out _ HB_w12.out, HY.out _ HB_w12.out⟩) ?_
      clear hKK KK be
      iterate 8 (refine mix_free ?_ rfl (by kernel_rfl) (fun w' hS => ?_) ?_; (rotate_left; (obtain ⟨⟨s1, s2, s3⟩, s4, s5, s6⟩ := hS; go_simp; with_reducible rfl); rotate_left))
      refine mix_go rfl (by kernel_rfl) fun KK hKK => ?_
      go_simp
      refine (run_any c qo uo n qc m uc R T f (some ⟨g, 0, none⟩) ll gcap l w12 (HQW.out _ HB_w12.out) (HCW.out _ HB_w12.out) HLL.out HLM.out).mono ?_
      rintro e w13 ⟨rfl, be⟩
      have HB_w13 := hid (HB_w12.out.trans (be.mono HB_w12.out.size))
      obtain ⟨v2, hv2⟩ : ∃ v, v = runB c R T f l := ⟨_, rfl⟩
      rw [← hv2]
      have Hv2 := hid hv2
      clear hv2
      refine hKK _ _ (fun _ => ⟨HX.out _ HB_w13.out, HY.out _ HB_w13.out⟩) ?_
      clear hKK KK be
      refine mix_go rfl (by kernel_rfl) fun KK hKK => ?_
      go_simp
      refine (rrun_any c no to n nc m tc R T f lo ll lc l w13 (HDW.out _ HB_w13.out) (HLW.out _ HB_w13.out) HLL.out HLM.out).mono ?_
      rintro e w14 ⟨rfl, be⟩
      have HB_w14 := hid (HB_w13.out.trans (be.mono HB_w13.out.size))
      rw [← Hv2.out]
      clear Hv2
      have vv2 : (v2 == v2) = true := beq_self_eq_true v2
      refine hKK _ _ (fun _ => ⟨HX.out _ HB_w14.out, HY.out _ HB_w14.out⟩) ?_
      clear hKK KK be
      iterate 7 (refine mix_free ?_ rfl (by kernel_rfl) (fun w' hS => ?_) ?_; (rotate_left; (obtain ⟨⟨s1, s2, s3⟩, s4, s5, s6⟩ := hS; go_simp; with_reducible rfl); rotate_left))
      refine mix_go rfl (by kernel_rfl) fun KK hKK => ?_
      go_simp
      refine (takes_any c qo uo n qc m uc R T (some ⟨g, 0, none⟩) ll gcap l w14 (HQW.out _ HB_w14.out) (HCW.out _ HB_w14.out) HLL.out HLM.out).mono ?_
      rintro e w15 ⟨rfl, be⟩
      have HB_w15 := hid (HB_w14.out.trans (be.mono HB_w14.out.size))
      obtain ⟨v3, hv3⟩ : ∃ v, v = tkB c R T l := ⟨_, rfl⟩
      rw [← hv3]
      have Hv3 := hid hv3
      clear hv3
      refine hKK _ _ (fun _ => ⟨HX.out _ HB_w15.out, HY.out _ HB_w15.out⟩) ?_
      clear hKK KK be
      refine mix_go rfl (by kernel_rfl) fun KK hKK => ?_
      go_simp
      refine (rtakes_any c no to n nc m tc R T lo ll lc l w15 (HDW.out _ HB_w15.out) (HLW.out _ HB_w15.out) HLL.out HLM.out).mono ?_
      rintro e w16 ⟨rfl, be⟩
      have HB_w16 := hid (HB_w15.out.trans (be.mono HB_w15.out.size))
      rw [← Hv3.out]
      clear Hv3
      have vv3 : (v3 == v3) = true := beq_self_eq_true v3
      refine hKK _ _ (fun _ => ⟨HX.out _ HB_w16.out, HY.out _ HB_w16.out⟩) ?_
      clear hKK KK be
      iterate 7 (refine mix_free ?_ rfl (by kernel_rfl) (fun w' hS => ?_) ?_; (rotate_left; (obtain ⟨⟨s1, s2, s3⟩, s4, s5, s6⟩ := hS; go_simp; with_reducible rfl); rotate_left))
      refine mix_go rfl (by kernel_rfl) fun KK hKK => ?_
      go_simp
      refine (longest_any c qo uo n qc m uc R T (some ⟨g, 0, none⟩) ll gcap l w16 (HQW.out _ HB_w16.out) (HCW.out _ HB_w16.out) HLL.out HLM.out).mono ?_
      rintro e w17 ⟨rfl, be⟩
      have HB_w17 := hid (HB_w16.out.trans (be.mono HB_w16.out.size))
      obtain ⟨v4, hv4⟩ : ∃ v, v = lon (fun k => tkB c R T (l.take k)) ll := ⟨_, rfl⟩
      rw [← hv4]
      have Hv4 := hid hv4
      clear hv4
      refine hKK _ _ (fun _ => ⟨HX.out _ HB_w17.out, HY.out _ HB_w17.out⟩) ?_
      clear hKK KK be
      refine mix_go rfl (by kernel_rfl) fun KK hKK => ?_
      go_simp
      refine (rlongest_any c no to n nc m tc R T lo ll lc l w17 (HDW.out _ HB_w17.out) (HLW.out _ HB_w17.out) HLL.out HLM.out HLC.out HLO.out).mono ?_
      rintro e w18 ⟨rfl, be⟩
      have HB_w18 := hid (HB_w17.out.trans (be.mono HB_w17.out.size))
      rw [← Hv4.out]
      clear Hv4
      have vv4 : (v4 == v4) = true := beq_self_eq_true v4
      refine hKK _ _ (fun _ => ⟨HX.out _ HB_w18.out, HY.out _ HB_w18.out⟩) ?_
      clear hKK KK be
      iterate 5 (refine mix_free ?_ rfl (by kernel_rfl) (fun w' hS => ?_) ?_; (rotate_left; (obtain ⟨⟨s1, s2, s3⟩, s4, s5, s6⟩ := hS; go_simp; with_reducible rfl); rotate_left))
      refine mix_go rfl (by kernel_rfl) fun KK hKK => ?_
      go_simp
      refine (live_any c qo uo n qc m uc R T w18 (HQW.out _ HB_w18.out)).mono ?_
      rintro e w19 ⟨Sa, soa, sca, rfl, osa, hra, hba, hia, be⟩
      have HB_w19 := hid (HB_w18.out.trans (be.mono HB_w18.out.size))
      have HRa := hid (rdi_own osa)
      clear osa
      refine hKK _ _ (fun _ => ⟨HX.out _ HB_w19.out, HY.out _ HB_w19.out⟩) ?_
      clear hKK KK be
      refine mix_go rfl (by kernel_rfl) fun KK hKK => ?_
      go_simp
      refine (rlive_any c no to n nc m tc R T w19 (HDW.out _ HB_w19.out)).mono ?_
      rintro e w20 ⟨Ua, uoa, uca, rfl, oua, ura, uba, uia, be⟩
      have HB_w20 := hid (HB_w19.out.trans (be.mono HB_w19.out.size))
      have HUa := hid (rdi_own oua)
      have HRab := hid (HRa.out.below be)
      obtain rfl : Sa = Ua := rising_eq hra ura (fun x => (hia x).trans (uia x).symm)
      have HLEa := hid (len_le hra hba (n := n))
      clear hia uia hra ura hba uba oua HRa
      refine hKK _ _ (fun _ => ⟨HX.out _ HB_w20.out, HY.out _ HB_w20.out⟩) ?_
      clear hKK KK be
      refine mix_go rfl (by kernel_rfl) fun KK hKK => ?_
      go_simp
      refine (places_any soa uoa Sa.length sca uca Sa w20 HRab.out HUa.out rfl (by have := HLEa.out; unfold most; omega)).mono ?_
      rintro e w21 ⟨rfl, be⟩
      have HB_w21 := hid (HB_w20.out.trans (be.mono HB_w20.out.size))
      refine hKK _ _ (fun _ => ⟨HX.out _ HB_w21.out, HY.out _ HB_w21.out⟩) ?_
      clear hKK KK be
      iterate 4 (refine mix_free ?_ rfl (by kernel_rfl) (fun w' hS => ?_) ?_; (rotate_left; (obtain ⟨⟨s1, s2, s3⟩, s4, s5, s6⟩ := hS; go_simp; with_reducible rfl); rotate_left))
      refine mix_go rfl (by kernel_rfl) fun KK hKK => ?_
      go_simp
      refine (sure_any c qo uo n qc m uc R T w21 (HQW.out _ HB_w21.out)).mono ?_
      rintro e w22 ⟨Sb, sob, scb, rfl, osb, hrb, hbb, hib, be⟩
      have HB_w22 := hid (HB_w21.out.trans (be.mono HB_w21.out.size))
      have HRb := hid (rdi_own osb)
      clear osb
      refine hKK _ _ (fun _ => ⟨HX.out _ HB_w22.out, HY.out _ HB_w22.out⟩) ?_
      clear hKK KK be
      refine mix_go rfl (by kernel_rfl) fun KK hKK => ?_
      go_simp
      refine (rsure_any c no to n nc m tc R T w22 (HDW.out _ HB_w22.out)).mono ?_
      rintro e w23 ⟨Ub, uob, ucb, rfl, oub, urb, ubb, uib, be⟩
      have HB_w23 := hid (HB_w22.out.trans (be.mono HB_w22.out.size))
      have HUb := hid (rdi_own oub)
      have HRbb := hid (HRb.out.below be)
      obtain rfl : Sb = Ub := rising_eq hrb urb (fun x => (hib x).trans (uib x).symm)
      have HLEb := hid (len_le hrb hbb (n := n))
      clear hib uib hrb urb hbb ubb oub HRb
      refine hKK _ _ (fun _ => ⟨HX.out _ HB_w23.out, HY.out _ HB_w23.out⟩) ?_
      clear hKK KK be
      refine mix_go rfl (by kernel_rfl) fun KK hKK => ?_
      go_simp
      refine (places_any sob uob Sb.length scb ucb Sb w23 HRbb.out HUb.out rfl (by have := HLEb.out; unfold most; omega)).mono ?_
      rintro e w24 ⟨rfl, be⟩
      have HB_w24 := hid (HB_w23.out.trans (be.mono HB_w23.out.size))
      refine hKK _ _ (fun _ => ⟨HX.out _ HB_w24.out, HY.out _ HB_w24.out⟩) ?_
      clear hKK KK be
      iterate 4 (refine mix_free ?_ rfl (by kernel_rfl) (fun w' hS => ?_) ?_; (rotate_left; (obtain ⟨⟨s1, s2, s3⟩, s4, s5, s6⟩ := hS; go_simp; with_reducible rfl); rotate_left))
      refine mix_go rfl (by kernel_rfl) fun KK hKK => ?_
      go_simp
      refine (alike_any c qo uo no to n qc m uc nc tc R T w24 (HQW.out _ HB_w24.out) (HDW.out _ HB_w24.out)).mono ?_
      rintro e w25 ⟨rfl, be⟩
      have HB_w25 := hid (HB_w24.out.trans (be.mono HB_w24.out.size))
      refine hKK _ _ (fun _ => ⟨HX.out _ HB_w25.out, HY.out _ HB_w25.out⟩) ?_
      clear hKK KK be
      iterate 4 (refine mix_free ?_ rfl (by kernel_rfl) (fun w' hS => ?_) ?_; (rotate_left; (obtain ⟨⟨s1, s2, s3⟩, s4, s5, s6⟩ := hS; go_simp; with_reducible rfl); rotate_left))
      refine mix_go rfl (by kernel_rfl) fun KK hKK => ?_
      go_simp
      refine (places_any (some ⟨g, 0, none⟩) lo ll gcap lc l w25 (HCW.out _ HB_w25.out) (HLW.out _ HB_w25.out) HLL.out HLM.out).mono ?_
      rintro e w26 ⟨rfl, be⟩
      have HB_w26 := hid (HB_w25.out.trans (be.mono HB_w25.out.size))
      refine hKK _ _ (fun _ => ⟨HX.out _ HB_w26.out, HY.out _ HB_w26.out⟩) ?_
      clear hKK KK be
      iterate 2 (refine mix_free ?_ rfl (by kernel_rfl) (fun w' hS => ?_) ?_; (rotate_left; (obtain ⟨⟨s1, s2, s3⟩, s4, s5, s6⟩ := hS; go_simp; with_reducible rfl); rotate_left))
      refine mix_go rfl (by kernel_rfl) fun KK hKK => ?_
      go_simp
      refine (lives_tb (HTB.out.keep (HBW.out.trans (HB_w26.out.mono HBW.out.size)) hp)).mono ?_
      rintro e w27 ⟨rfl, be⟩
      have HB_w27 := hid (HB_w26.out.trans (be.mono HB_w26.out.size))
      refine hKK _ _ (fun _ => ⟨HX.out _ HB_w27.out, HY.out _ HB_w27.out⟩) ?_
      clear hKK KK be
      iterate 2 (refine mix_free ?_ rfl (by kernel_rfl) (fun w' hS => ?_) ?_; (rotate_left; (obtain ⟨⟨s1, s2, s3⟩, s4, s5, s6⟩ := hS; go_simp; with_reducible rfl); rotate_left))
      refine mix_end (NoPanic.normal ?_)
      go_wp2
      go_ret
      exact ⟨rfl, HBW.out.trans (HB_w27.out.mono HBW.out.size)⟩
end Go.Proofs.YtmgoedcaeemilaaDoor
