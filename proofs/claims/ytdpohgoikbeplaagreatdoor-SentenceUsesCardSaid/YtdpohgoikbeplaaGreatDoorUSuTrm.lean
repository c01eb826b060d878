/- SuTrm: parts of the proof, joined. -/
import Derived.Test.YtdpohgoikbeplaaGreatDoorURfIs
namespace Go.Proofs.YtdpohgoikbeplaaGreatDoor.Sn
open Go.RowKit Wt
theorem fw_rl (l : List UInt8) (k : Nat) (h : k < (rl l).length) : (fw l).getD k 0 = sncls (((rl l)[k]).1 : Nat) := by
 rw [List.getD_eq_getElem?_getD, List.getElem?_eq_getElem (by rw [fw_len]; exact h)]
 show (fw l)[k]'(by rw [fw_len]; exact h) = _
 unfold fw
 rw [List.getElem_map]
theorem bdrew {n : Nat} {w w' : World} (h : Below n w w') : Below n w w'.drew := ⟨h.os, h.tape, h.output, h.size, h.block⟩
theorem stp_s (c : List Int) (f : Int -> Bool) (k : Nat) : Pt.stp c f (k + 1) = if f (c.getD k 0) then Pt.stp c f k else k + 1 := rfl
set_option maxHeartbeats 8000000 in
set_option maxRecDepth 100000 in
theorem rtrim_any (s : List UInt8) (f t : Int) (X : Nat) (w : World) (hl : s.length <= 100) (h : Br.BrAt Dc.snU Dc.snW Pt.snRs false X w) :
  Calls Tryz.prog 49 #[.pointer (some ⟨X, 0, none⟩), .string ⟨s.toArray⟩, .int .i64 f, .int .i64 t] w fun e w' => e = .returned (.tuple #[.int .i64 (trmE s f t).1, .int .i64 (trmE s f t).2]) /\ Below w.heap.size w w' := by
 have HS := hid (rwithin_any s f t w (by omega))
 cases hw : wth s f t with
 | false =>
  have HV := hid (show trmE s f t = (0, 0) by unfold trmE; rw [hw, if_neg (by simp)])
  rw [hw] at HS
  rw [HV.out]; clear hw HV h
  go_enter Tryz.func49, Tryz.ntmps49
  go_wp2_with fail
  refine HS.out.mono ?_
  rintro e w1 ⟨rfl, be⟩; have HB1 := hid be
  clear be
  go_wp2
  go_ret2; exact ⟨rfl, HB1.out⟩
 | true =>
  obtain ⟨i, j, hij, hj, rfl, rfl⟩ := wth_pos s f t hw
  have hp2 := pos_le2 s hij hj
  have hp4 := pos_le s j hj
  obtain ⟨l, hll⟩ : ∃ l, l = mid s (pos s i) (pos s j) := ⟨_, rfl⟩
  have HL := hid hll
  have hln : l.length = pos s j - pos s i := by rw [hll]; unfold mid; rw [List.length_drop, List.length_take]; omega
  have HV := hid (show trmE s (pos s i : Nat) (pos s j : Nat) = if trA l < (rl l).length then (((pos s i : Nat) : Int) + ((pos l (trA l) : Nat) : Int), ((pos s i : Nat) : Int) + ((pos l (trZ l) : Nat) : Int)) else (((pos s j : Nat) : Int), ((pos s j : Nat) : Int)) by
   unfold trmE
   rw [hw, if_pos rfl, Int.toNat_natCast, Int.toNat_natCast, <- hll])
  rw [hw] at HS
  obtain ⟨f, hf⟩ : ∃ f, f = pos s i := ⟨_, rfl⟩
  obtain ⟨t, hte⟩ : ∃ t, t = pos s j := ⟨_, rfl⟩
  rw [<- hf] at hp2 HS HL HV hln ⊢
  rw [<- hte] at hp2 hp4 HS HL HV hln ⊢
  have hp3 : (f : Int) <= (t : Int) := by omega
  clear hf hte hij hj hll hw; obtain ⟨Q, hX, hG, _⟩ := sbr_get X w h
  have HX := hid hX
  have HG := hid hG
  have HMK := hid (fun (W : World) => Rf.marks_read l W (by omega))
  have hrn := Rf.rl_len _ l (Nat.le_refl _)
  obtain ⟨n, hn⟩ : ∃ n, n = (rl l).length := ⟨_, rfl⟩
  have HN := hid hn
  have hn9 : n <= 100 := by omega
  rw [<- hn] at HV HMK
  have HCA := hid (fw_rl l)
  have HP9 := hid (fun k (hk : k <= (rl l).length) => pos_le l k hk)
  clear hX hG h hrn hn
  go_enter Tryz.func49, Tryz.ntmps49
  go_wp2_with fail
  refine HS.out.mono ?_
  rintro e w0 ⟨rfl, be⟩; have HB0 := hid be
  clear be HS
  go_wp2_with fail
  rw [ext_mid, <- HL.out]; refine (HMK.out w0).mono ?_
  rintro e w1 ⟨⟨ao, mc, rfl, hM⟩, be1⟩
  have HM := hid hM
  have HB1 := hid (HB0.out.trans (be1.mono HB0.out.size))
  clear hM be1 HMK HB0 HL
  go_wp2
  go_loopw [11] (fun y wr => ∃ k : Nat, y = .int .i64 k /\ k <= n /\ Hid (trA l = trU l k) /\ Hid (Below w.heap.size w wr) /\ Hid (Below w1.heap.size w1 wr)) (fun y _ => n - (intOf y).toNat)
  case atStart => exact ⟨0, rfl, Nat.zero_le _, rfl, HB1.out, Below.refl _ _⟩
  case round =>
   obtain ⟨k, rfl, hkn, HA, HB, HBm⟩ := hrel
   by_cases hlt : k < n
   ·have hki : (k : Int) < (n : Int) := by omega
    have k0 : (0 : Int) <= (k : Int) := by omega
    have HK := hid (show k < (rl l).length by rw [<- HN.out]; exact hlt)
    obtain ⟨g, rfl, hg, hR⟩ := HM.out (by have := HK.out; have := HN.out; omega)
    have HR := hid (fun (W : World) (hb : Below w1.heap.size w1 W) => hR.below hb hg)
    have HCK := hid (HCA.out k HK.out)
    obtain ⟨r, hr⟩ : ∃ r, r = ((rl l)[k]'HK.out).1 := ⟨_, rfl⟩
    have HM2 := hid (fun (W : World) (hb : Below w1.heap.size w1 W) => show W.cell? ⟨g, k * 4 + 2, none⟩ = some (.int .i32 (r : Nat)) by rw [hr]; exact (HR.out W hb k HK.out).2.2)
    rw [<- hr] at HCK
    have hk4 : (k : Int) * 4 + 4 < 1000 := by omega
    clear hR hr; have HBd := hid (show Below w.heap.size w wr.drew from bdrew HB.out)
    have HBe := hid (show Below w1.heap.size w1 wr.drew from bdrew HBm.out)
    go_wp2_with fail
    refine wp_region_mix [(0, true), (1, true), (2, true), (3, true), (4, true), (5, true), (6, true), (7, true), (8, true), (9, true), (10, true), (11, true), (12, true), (13, true), (14, false), (15, false), (16, true)] (fun W => W.cell? ⟨X, 0, none⟩ = some (.pointer (some ⟨Q, 0, none⟩)) /\ W.cell? ⟨g, k * 4 + 2, none⟩ = some (.int .i32 (r : Nat))) (fun _ => false) (by kernel_rfl) (by kernel_rfl) (fun j hj => by cases hj) rfl (by kernel_rfl) ⟨HX.out _ HBd.out, HM2.out _ HBe.out⟩ ?_
    iterate 14 (refine mix_free ?_ rfl (by kernel_rfl) (fun w' hS => ?_) ?_; (rotate_left; (obtain ⟨s1, s2⟩ := hS; go_simp; with_reducible rfl); rotate_left))
    refine mix_go rfl (by kernel_rfl) fun KK hKK => ?_
    go_simp; refine (HG.out _ _ HBd.out).mono ?_
    rintro e w5 ⟨rfl, e5⟩; obtain rfl := e5.symm
    clear e5; refine hKK _ _ (fun _ => ⟨HX.out _ HBd.out, HM2.out _ HBe.out⟩) ?_
    clear hKK; refine mix_go rfl (by kernel_rfl) fun KK hKK => ?_
    go_simp; refine (rblank_any _ _).mono ?_
    rintro e w5 ⟨rfl, e5⟩; obtain rfl := e5.symm
    clear e5; refine hKK _ _ (fun _ => ⟨HX.out _ HBd.out, HM2.out _ HBe.out⟩) ?_
    clear hKK; have HBK := hid (show blk (sncls (r : Nat)) = shas 30 ((fw l).getD k 0) by rw [HCK.out]; exact blk_has _ (sn_bd _))
    obtain ⟨b, hb⟩ : ∃ b, b = blk (sncls (r : Nat)) := ⟨_, rfl⟩
    rw [<- hb] at HBK
    rw [<- hb]; clear hb; refine mix_free (.bool b) rfl (by kernel_rfl) (fun w' hS => ?_) ?_
    ·go_simp
    refine mix_end (NoPanic.normal ?_)
    obtain ⟨W2, hW2⟩ : ∃ W2, W2 = wr.drew := ⟨_, rfl⟩
    rw [<- hW2] at HBd HBe
    rw [<- hW2]; clear hW2 HB HBm HM2
    cases b with
    | true =>
     have HA2 := hid (show trA l = trU l (k + 1) from HA.out.trans (trU_yes l k HK.out HBK.out.symm))
     clear HA HBK HCK
     go_wp2
     go_roundw
     case rel => exact ⟨k + 1, by go_num, by omega, HA2, HBd, HBe⟩
     case measure => simp [intOf]; omega
    | false =>
     have hak : trA l = k := HA.out.trans (trU_no l k HK.out HBK.out.symm)
     have HV2 := hid (show trmE s (f : Nat) (t : Nat) = ((f : Int) + ((pos l k : Nat) : Int), (f : Int) + ((pos l (trZ l) : Nat) : Int)) by rw [HV.out, if_pos (by rw [hak]; exact hlt), hak])
     have HSF := hid (show shas 30 ((fw l).getD k 0) = false from HBK.out.symm)
     clear HA hak HV HBK HCK; have hpk := HP9.out k (Nat.le_of_lt HK.out)
     obtain ⟨p, hp⟩ : ∃ p, p = pos l k := ⟨_, rfl⟩
     have HM0 := hid (fun (W : World) (hb : Below w1.heap.size w1 W) => show W.cell? ⟨g, k * 4, none⟩ = some (.int .i64 (p : Nat)) by rw [hp]; exact (HR.out W hb k HK.out).1)
     rw [<- hp] at HV2 hpk
     clear hp; have hne : ((k : Int) == (n : Int)) = false := beq_eq_false_iff_ne.2 (by omega)
     have e9 : IntKind.i64.wrap ((n : Int) - 1) = (n : Int) - 1 := by rw [IntKind.wrap_i64]; omega
     go_wp2
     go_loopw [12] (fun y wr => ∃ (m : Nat) (q : Int), y = .int .i64 q /\ q = (m : Int) - 1 /\ k < m /\ m <= n /\ Hid (trZ l = Pt.stp (fw l) (shas 30) m) /\ Hid (Below w.heap.size w wr) /\ Hid (Below w1.heap.size w1 wr)) (fun y _ => (intOf y + 1).toNat)
     case atStart => exact ⟨n, _, rfl, by omega, hlt, Nat.le_refl _, hid (by unfold trZ; rw [<- HN.out]), HBd, HBe⟩
     case round =>
      obtain ⟨m, q, rfl, hq, hkm, hmn, HZ, HB, HBm⟩ := hrel
      obtain ⟨i, rfl⟩ : ∃ i : Nat, m = i + 1 := ⟨m - 1, by omega⟩
      obtain rfl : q = (i : Int) := by omega
      have hii : (i : Int) < (n : Int) := by omega
      have i0 : (0 : Int) <= (i : Int) := by omega
      have HI := hid (show i < (rl l).length by rw [<- HN.out]; omega)
      have HCI := hid (HCA.out i HI.out)
      obtain ⟨r2, hr2⟩ : ∃ r, r = ((rl l)[i]'HI.out).1 := ⟨_, rfl⟩
      have HI2 := hid (fun (W : World) (hb : Below w1.heap.size w1 W) => show W.cell? ⟨g, i * 4 + 2, none⟩ = some (.int .i32 (r2 : Nat)) by rw [hr2]; exact (HR.out W hb i HI.out).2.2)
      rw [<- hr2] at HCI
      have hi4 : (i : Int) * 4 + 4 < 1000 := by omega
      clear hr2 hq; have HBd := hid (show Below w.heap.size w wr.drew from bdrew HB.out)
      have HBe := hid (show Below w1.heap.size w1 wr.drew from bdrew HBm.out)
      go_wp2_with fail
      refine wp_region_mix [(0, true), (1, true), (2, true), (3, true), (4, true), (5, true), (6, true), (7, true), (8, true), (9, false), (10, false)] (fun W => W.cell? ⟨X, 0, none⟩ = some (.pointer (some ⟨Q, 0, none⟩)) /\ W.cell? ⟨g, i * 4 + 2, none⟩ = some (.int .i32 (r2 : Nat))) (fun _ => false) (by kernel_rfl) (by kernel_rfl) (fun j hj => by cases hj) rfl (by kernel_rfl) ⟨HX.out _ HBd.out, HI2.out _ HBe.out⟩ ?_
      iterate 9 (refine mix_free ?_ rfl (by kernel_rfl) (fun w' hS => ?_) ?_; (rotate_left; (obtain ⟨s1, s2⟩ := hS; go_simp; with_reducible rfl); rotate_left))
      refine mix_go rfl (by kernel_rfl) fun KK hKK => ?_
      go_simp; refine (HG.out _ _ HBd.out).mono ?_
      rintro e w5 ⟨rfl, e5⟩; obtain rfl := e5.symm
      clear e5; refine hKK _ _ (fun _ => ⟨HX.out _ HBd.out, HI2.out _ HBe.out⟩) ?_
      clear hKK; refine mix_go rfl (by kernel_rfl) fun KK hKK => ?_
      go_simp; refine (rblank_any _ _).mono ?_
      rintro e w5 ⟨rfl, e5⟩; obtain rfl := e5.symm
      clear e5; refine hKK _ _ (fun _ => ⟨HX.out _ HBd.out, HI2.out _ HBe.out⟩) ?_
      clear hKK; have HBK := hid (show blk (sncls (r2 : Nat)) = shas 30 ((fw l).getD i 0) by rw [HCI.out]; exact blk_has _ (sn_bd _))
      obtain ⟨b, hb⟩ : ∃ b, b = blk (sncls (r2 : Nat)) := ⟨_, rfl⟩
      rw [<- hb] at HBK
      rw [<- hb]; clear hb; refine mix_end (NoPanic.normal ?_)
      obtain ⟨W2, hW2⟩ : ∃ W2, W2 = wr.drew := ⟨_, rfl⟩
      rw [<- hW2] at HBd HBe
      rw [<- hW2]; clear hW2 HB HBm HI2
      cases b with
      | true =>
       have hik : i ≠ k := fun e => by
        have h1 := HBK.out
        rw [e, HSF.out] at h1
        cases h1
       have HZ2 := hid (show trZ l = Pt.stp (fw l) (shas 30) i by rw [HZ.out, stp_s, <- HBK.out, if_pos rfl])
       have e8 : IntKind.i64.wrap ((i : Int) - 1) = (i : Int) - 1 := by rw [IntKind.wrap_i64]; omega
       have hki2 : k < i := by omega
       clear HZ HBK HCI hik
       go_wp2
       go_roundw
       case rel => exact ⟨i, _, rfl, rfl, hki2, by omega, HZ2, HBd, HBe⟩
       case measure => simp [intOf]
      | false =>
       have hzi : trZ l = i + 1 := by rw [HZ.out, stp_s, <- HBK.out, if_neg (by simp)]
       have hps := Rf.pos_back2 l i HI.out
       have hpi := HP9.out (i + 1) HI.out
       obtain ⟨wd, hwd⟩ : ∃ wd, wd = ((rl l)[i]'HI.out).2 := ⟨_, rfl⟩
       have HI1 := hid (fun (W : World) (hb : Below w1.heap.size w1 W) => show W.cell? ⟨g, i * 4 + 1, none⟩ = some (.int .i64 (wd : Nat)) by rw [hwd]; exact (HR.out W hb i HI.out).2.1)
       rw [<- hwd] at hps
       obtain ⟨u, hu⟩ : ∃ u, u = pos l i := ⟨_, rfl⟩
       have HI0 := hid (fun (W : World) (hb : Below w1.heap.size w1 W) => show W.cell? ⟨g, i * 4, none⟩ = some (.int .i64 (u : Nat)) by rw [hu]; exact (HR.out W hb i HI.out).1)
       rw [<- hu] at hps
       have HV3 := hid (show trmE s (f : Nat) (t : Nat) = ((f : Int) + (p : Int), (f : Int) + (u : Int) + (wd : Int)) by
        rw [HV2.out, hzi, hps, Int.natCast_add, Int.add_assoc])
       rw [hps] at hpi
       clear hps hwd hu HZ HBK HCI hzi HV2 HSF HR; have q1 : IntKind.i64.wrap ((f : Int) + (p : Int)) = (f : Int) + (p : Int) := by rw [IntKind.wrap_i64]; omega
       have q2 : IntKind.i64.wrap ((f : Int) + (u : Int)) = (f : Int) + (u : Int) := by rw [IntKind.wrap_i64]; omega
       have q3 : IntKind.i64.wrap ((f : Int) + (u : Int) + (wd : Int)) = (f : Int) + (u : Int) + (wd : Int) := by rw [IntKind.wrap_i64]; omega
       have HBd2 := hid (show Below w.heap.size w W2.drew from bdrew HBd.out)
       have HBe2 := hid (show Below w1.heap.size w1 W2.drew from bdrew HBe.out)
       go_wp2_with fail
       refine wp_region_mix [(0, true), (1, true), (2, true), (3, true), (4, true), (5, true), (6, true), (7, true), (8, true), (9, true), (10, true), (11, true), (12, true), (13, true), (14, true), (15, true), (16, true), (17, true), (18, true), (19, true), (20, false), (21, false)] (fun W => W.cell? ⟨g, k * 4, none⟩ = some (.int .i64 (p : Nat)) /\ W.cell? ⟨g, i * 4, none⟩ = some (.int .i64 (u : Nat)) /\ W.cell? ⟨g, i * 4 + 1, none⟩ = some (.int .i64 (wd : Nat))) (fun _ => false) (by kernel_rfl) (by kernel_rfl) (fun j hj => by cases hj) rfl (by kernel_rfl) ⟨HM0.out _ HBe2.out, HI0.out _ HBe2.out, HI1.out _ HBe2.out⟩ ?_
       iterate 20 (refine mix_free ?_ rfl (by kernel_rfl) (fun w' hS => ?_) ?_; (rotate_left; (obtain ⟨s1, s2, s3⟩ := hS; go_simp; with_reducible rfl); rotate_left))
       iterate 2
        refine mix_go rfl (by kernel_rfl) fun KK hKK => ?_
        go_simp; refine hKK _ _ (fun _ => ⟨HM0.out _ HBe2.out, HI0.out _ HBe2.out, HI1.out _ HBe2.out⟩) ?_
        clear hKK
       refine mix_end (NoPanic.normal ?_)
       go_wp2
       go_ret2; exact ⟨by rw [HV3.out]; rfl, HBd2.out⟩
   ·have hki : ¬ (k : Int) < (n : Int) := by omega
    have hkq : ((k : Int) == (n : Int)) = true := beq_iff_eq.2 (by omega)
    have HV2 := hid (show trmE s (f : Nat) (t : Nat) = ((t : Int), (t : Int)) by rw [HV.out, if_neg (by rw [HA.out, trU_end l k (by rw [<- HN.out]; omega)]; omega)])
    have HBd := hid (show Below w.heap.size w wr.drew from bdrew HB.out)
    clear HA HV HM hkn hp2 hp4 hln
    go_wp2_with fail
    refine wp_region_mix [(0, true), (1, true), (2, true), (3, true), (4, true), (5, true), (6, true), (7, true), (8, true), (9, true), (10, true), (11, true), (12, true), (13, true), (14, false), (15, false), (16, true)] (fun _ => True) (fun _ => false) (by kernel_rfl) (by kernel_rfl) (fun j hj => by cases hj) rfl (by kernel_rfl) trivial ?_
    iterate 5 (refine mix_free ?_ rfl (by kernel_rfl) (fun w' hS => ?_) ?_; (rotate_left; (go_simp; with_reducible rfl); rotate_left))
    iterate 9 (refine mix_pass rfl (by kernel_rfl) ?_)
    iterate 2 (refine mix_skip rfl (by kernel_rfl) (fun _ => trivial) ?_)
    refine mix_free (.bool false) rfl (by kernel_rfl) (fun w' hS => ?_) ?_
    ·go_simp
    refine mix_end (NoPanic.normal ?_)
    go_simp
    go_wp2
    go_ret2; exact ⟨by rw [HV2.out]; rfl, HBd.out⟩
end Go.Proofs.YtdpohgoikbeplaaGreatDoor.Sn
