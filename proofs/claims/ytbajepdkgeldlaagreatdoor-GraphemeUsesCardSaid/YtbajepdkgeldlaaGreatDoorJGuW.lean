/- GuW: parts of the proof, joined. -/
import Derived.Test.YtbajepdkgeldlaaGreatDoorJGrB9
import Derived.Test.YtbajepdkgeldlaaGreatDoorJGrPl2
namespace Go.Proofs.YtbajepdkgeldlaaGreatDoor.Br
open Go.RowKit Wt
theorem ext_drop2 (l : List UInt8) (p : Nat) : (⟨l.toArray⟩ : ByteArray).extract p l.length = ⟨(l.drop p).toArray⟩ := ext_drop l p
theorem gr_cls_any (r : Int) : ((Dc.gtp (Dc.instd r) Dc.grW : Nat) : Int) = gpcls r := by
 by_cases h : r < 0 \/ 1114111 < r
 ·rw [show Dc.instd r = 65533 from if_pos h, <- Dc.gr_get 65533 (by omega) (by omega), show gpcls 65533 = 0 by decide]
  symm
  unfold gpcls
  rcases h with h | h
  ·rw [if_pos (by omega)]
   unfold gplatin
   rw [if_neg (by omega), if_pos h]
  ·rw [if_neg (by omega), if_neg (by omega), if_neg (by omega), if_neg (by omega), if_neg (by omega), if_neg (by omega)]
   unfold gphigh
   repeat rw [if_neg (by omega)]
 ·rw [show Dc.instd r = r from if_neg h, Dc.gr_get r (by omega) (by omega)]
theorem br_get (X : Nat) (r : Int) (w : World) (h : BrAt Dc.grU Dc.grW Pt.grRs true X w) : ∃ Q, w.cell? ⟨X, 0, none⟩ = some (.pointer (some ⟨Q, 0, none⟩)) /\ ∀ W, Below w.heap.size w W -> Calls Tryz.prog 30 #[.pointer (some ⟨Q, 0, none⟩), .int .i32 r] W fun e w' => e = .returned (.int .i64 (gpcls r)) /\ w' = W := by
 obtain ⟨Q, ro, rc, h1, h2, _⟩ := h
 refine ⟨Q, by rw [cell_of_row w X 0 _ _ _ h1]; rfl, fun W hb => ?_⟩
 obtain ⟨B, nv, sv, vs, hd⟩ := h2.below hb
 have := Dc.rget_any B Q Dc.grU.length Dc.grU Dc.grW nv sv vs r W hd Dc.gr_cov Dc.gr_cls (by decide) (by decide)
 rw [gr_cls_any] at this
 exact this
theorem ls_any2 {w w' : World} {L : List Nat} {e : Ending} (h : Pt.LsQ w L e w') : ∃ vo vc, e = .returned (.slice vo L.length vc) /\ (L.length = 0 \/ ∃ g, vo = some ⟨g, 0, none⟩) /\ Pt.RdI w' vo (L.map fun (x : Nat) => (x : Int)) /\ Below w.heap.size w w' := by
 obtain ⟨vo, vc, rfl, ho, hb⟩ := h
 refine ⟨vo, vc, rfl, ?_, Pt.rdi_own ho rfl, hb⟩
 rcases ho.2 with ⟨_, h2⟩ | ⟨g, _, _, h1, _⟩
 ·exact .inl h2
 ·cases h1
  exact .inr ⟨g, rfl⟩
set_option maxHeartbeats 8000000 in
set_option maxRecDepth 100000 in
theorem gu_main (l : List UInt8) (z r : Int) (hz : z <= 9223372036854775807) (hl : l.length <= 120) (w : World) (ht : TbW w) :
  Calls Tryz.prog 6 #[.string ⟨l.toArray⟩, .int .i64 z, .int .i32 r] w fun e w' => e = .returned (.bool true) /\ Below w.heap.size w w' := by
 have HT := hid ht
 have hD9 : (gbs l).length <= 121 := by have := gbs_len l; omega
 clear ht
 have hl1 : ¬ (120 : Int) < (l.length : Int) := by omega
 have HG3 := hid (fun (X : Nat) (W : World) (h : BrAt Dc.grU Dc.grW Pt.grRs true X W) => gbounds9 X l (by omega) W h)
 have HGt := hid (fun (X : Nat) (W : World) (h : BrAt Dc.grU Dc.grW Pt.grRs true X W) => br_get X r W h)
 have HC := hid (fun (W : World) => gpcls_any r W)
 obtain ⟨p, hp⟩ : ∃ p, p = plE (gbs l) z l.length := ⟨_, rfl⟩
 have hpl : p <= l.length := PlQ.le (n := z) hp
 have HPl := hid (fun (W : World) (h : Below w.heap.size w W) => show Calls Tryz.prog 31 #[.string ⟨l.toArray⟩, .int .i64 z] W fun e W' => e = .returned (.int .i64 p) /\ Below W.heap.size W W' from
  (gplace_any l z W (HT.out.below h) (by omega) hz).mono fun e W' ⟨q, h1, h2, h3⟩ => ⟨by rw [h1, show q = p from h2.trans hp.symm], h3⟩)
 have HCt := hid (fun (W : World) (h : Below w.heap.size w W) => show Calls Tryz.prog 27 #[.string ⟨l.toArray⟩, .int .i64 z] W fun e W' => e = .returned (.tuple #[.string ⟨(l.take p).toArray⟩, .string ⟨(l.drop p).toArray⟩]) /\ Below W.heap.size W W' from
  (gcut_any l z W (HT.out.below h) (by omega) hz).mono fun e W' ⟨q, h1, h2, h3⟩ => ⟨by rw [h1, show q = p from h2.trans hp.symm], h3⟩)
 have HTn := hid (fun (W : World) (h : Below w.heap.size w W) => gturn_any l W (HT.out.below h) (by omega))
 have HRT := hid (fun (ao : Option Addr) (ac : Nat) (W : World) (h : Pt.RdI W ao ((gbs l).map fun (x : Nat) => (x : Int))) (h0 : (gbs l).length = 0 \/ ∃ g, ao = some ⟨g, 0, none⟩) => rturn_any l (by omega) ao _ ac W h rfl h0)
 have HRP := hid (fun (ao : Option Addr) (ac : Nat) (W : World) (h : Pt.RdI W ao ((gbs l).map fun (x : Nat) => (x : Int))) => rplace_any ao _ ac (gbs l) z l.length W h rfl)
 rw [<- hp] at HRP
 obtain ⟨D, hD⟩ : ∃ D, D = gbs l := ⟨_, rfl⟩
 rw [<- hD] at hD9 HG3 HRT HRP
 clear hD hp
 obtain ⟨n, hn⟩ : ∃ n, n = D.length := ⟨_, rfl⟩
 rw [<- hn] at hD9 HRT HRP
 obtain ⟨c, hc⟩ : ∃ c, c = gpcls r := ⟨_, rfl⟩
 rw [<- hc] at HGt HC
 obtain ⟨T, hT⟩ : ∃ T, T = trn l := ⟨_, rfl⟩
 rw [<- hT] at HTn HRT
 clear hc hT
 have p0 : (0 : Int) <= (p : Int) := by omega
 have p1 : (p : Int) <= (l.length : Int) := by omega
 go_enter Tryz.func6, Tryz.ntmps6
 go_wp2_with fail
 refine (new11_any w).mono ?_
 rintro e w2 ⟨hb2, X, rfl, hX⟩
 obtain ⟨Q, cX, gX⟩ := HGt.out X w2 hX
 have HX := hid (HG3.out X w2 hX)
 have HcX := hid cX
 have HgX := hid gX
 have HB2 := hid hb2
 clear hb2 hX HG3 HGt cX gX
 go_wp2_with fail
 refine HX.out.mono ?_
 rintro e w3 h3
 obtain ⟨vo, vc, rfl, h0, hr, hb3⟩ := ls_any2 h3
 rw [<- hn] at h0 ⊢
 have H0 := hid h0
 have HR3 := hid hr
 have HW3 := hid hb3
 clear h3 h0 hr hb3 HX hn
 go_wp2_with fail
 refine (HCt.out w3 (HB2.out.trans (HW3.out.mono HB2.out.size))).mono ?_
 rintro e w4 ⟨rfl, hb4⟩
 have HR4 := hid (HR3.out.below hb4)
 have HW4 := hid (HW3.out.trans (hb4.mono HW3.out.size))
 clear hb4 HR3 HW3 HCt
 go_wp2_with fail
 refine (HRP.out vo vc w4 HR4.out).mono ?_
 rintro e w5 ⟨rfl, e5⟩
 obtain rfl := e5.symm
 clear e5 HRP
 go_wp2_with fail
 have HBX := hid (fun (W : World) (hb : Below w2.heap.size w2 W) => show W.cell? ⟨X, 0, none⟩ = some (.pointer (some ⟨Q, 0, none⟩)) from (hb.cell (p := ⟨X, 0, none⟩) (World.block_lt_of_cell? w2 _ HcX.out)).trans HcX.out)
 have HWd := hid (show Below w2.heap.size w2 w4.drew from ⟨HW4.out.os, HW4.out.tape, HW4.out.output, HW4.out.size, HW4.out.block⟩)
 have HRd := hid (show Pt.RdI w4.drew vo (D.map fun (x : Nat) => (x : Int)) from fun k z hk => HR4.out k z hk)
 have HXT := hid (ext_takeP l p)
 have HXD := hid (ext_drop2 l p)
 refine wp_region_mix [(0, true), (2, true), (3, true), (4, true), (5, true), (6, true), (1, false), (7, false), (8, true), (9, true), (10, true), (11, true), (13, true), (12, false), (14, true), (15, true), (16, true), (17, true), (18, true), (19, true), (20, true), (21, true), (22, true), (23, true), (24, true), (25, true), (26, true), (27, true), (28, true), (29, true), (30, true), (31, true), (33, true), (34, true), (32, false), (35, false), (36, true), (37, true), (38, true), (39, false), (40, true), (41, false)] (fun W => W.cell? ⟨X, 0, none⟩ = some (.pointer (some ⟨Q, 0, none⟩))) (fun _ => false) (by kernel_rfl) (by kernel_rfl) (fun j hj => by cases hj) rfl (by kernel_rfl) (HBX.out _ HWd.out) ?_
 iterate 6 (refine mix_free ?_ rfl (by kernel_rfl) (fun w' hS => ?_) ?_; (rotate_left; (have s1 := hS; go_simp; with_reducible rfl); rotate_left))
 refine mix_go rfl (by kernel_rfl) fun KK hKK => ?_
 go_simp
 refine (HC.out _).mono ?_
 rintro e w5 ⟨rfl, e5⟩
 obtain rfl := e5.symm
 clear e5
 refine hKK _ _ (fun _ => HBX.out _ HWd.out) ?_
 clear hKK
 refine mix_go rfl (by kernel_rfl) fun KK hKK => ?_
 go_simp
 refine (HgX.out _ HWd.out).mono ?_
 rintro e w5 ⟨rfl, e5⟩
 obtain rfl := e5.symm
 clear e5
 refine hKK _ _ (fun _ => HBX.out _ HWd.out) ?_
 clear hKK
 refine mix_free (.bool true) rfl (by kernel_rfl) (fun w' hS => ?_) ?_
 ·go_simp
 iterate 4 (refine mix_free ?_ rfl (by kernel_rfl) (fun w' hS => ?_) ?_; (rotate_left; (have s1 := hS; go_simp; with_reducible rfl); rotate_left))
 refine mix_go rfl (by kernel_rfl) fun KK hKK => ?_
 go_simp
 refine (HPl.out w4.drew (HB2.out.trans (HWd.out.mono HB2.out.size))).mono ?_
 rintro e w5 ⟨rfl, hb5⟩
 have HW5 := hid (HWd.out.trans (hb5.mono HWd.out.size))
 have HR5 := hid (HRd.out.below hb5)
 clear hb5 HRd HWd HR4 HW4 HPl HgX HC
 refine hKK _ _ (fun _ => HBX.out _ HW5.out) ?_
 clear hKK
 refine mix_free (.bool true) rfl (by kernel_rfl) (fun w' hS => ?_) ?_
 ·go_simp
 refine mix_free (.bool true) rfl (by kernel_rfl) (fun w' hS => ?_) ?_
 ·go_simp
 refine mix_free (.bool true) rfl (by kernel_rfl) (fun w' hS => ?_) ?_
 ·go_simp
 iterate 3 (refine mix_free ?_ rfl (by kernel_rfl) (fun w' hS => ?_) ?_; (rotate_left; (have s1 := hS; go_simp; with_reducible rfl); rotate_left))
 refine mix_free (.string ⟨(l.take p).toArray⟩) rfl (by kernel_rfl) (fun w' hS => ?_) ?_
 ·go_simp
  rw [HXT.out]
 refine mix_free (.bool true) rfl (by kernel_rfl) (fun w' hS => ?_) ?_
 ·go_simp
 refine mix_free (.bool true) rfl (by kernel_rfl) (fun w' hS => ?_) ?_
 ·go_simp
 refine mix_free (.bool true) rfl (by kernel_rfl) (fun w' hS => ?_) ?_
 ·go_simp
 iterate 3 (refine mix_free ?_ rfl (by kernel_rfl) (fun w' hS => ?_) ?_; (rotate_left; (have s1 := hS; go_simp; with_reducible rfl); rotate_left))
 refine mix_free (.string ⟨(l.drop p).toArray⟩) rfl (by kernel_rfl) (fun w' hS => ?_) ?_
 ·go_simp
  rw [HXD.out]
 refine mix_free (.bool true) rfl (by kernel_rfl) (fun w' hS => ?_) ?_
 ·go_simp
 refine mix_free (.bool true) rfl (by kernel_rfl) (fun w' hS => ?_) ?_
 ·go_simp
 refine mix_free (.bool true) rfl (by kernel_rfl) (fun w' hS => ?_) ?_
 ·go_simp
 iterate 3 (refine mix_free ?_ rfl (by kernel_rfl) (fun w' hS => ?_) ?_; (rotate_left; (have s1 := hS; go_simp; with_reducible rfl); rotate_left))
 refine mix_go rfl (by kernel_rfl) fun KK hKK => ?_
 go_simp
 refine (HTn.out w5 (HB2.out.trans (HW5.out.mono HB2.out.size))).mono ?_
 rintro e w6 ⟨rfl, hb6⟩
 have HW6 := hid (HW5.out.trans (hb6.mono HW5.out.size))
 have HR6 := hid (HR5.out.below hb6)
 clear hb6 HR5 HW5 HTn
 refine hKK _ _ (fun _ => HBX.out _ HW6.out) ?_
 clear hKK
 refine mix_go rfl (by kernel_rfl) fun KK hKK => ?_
 go_simp
 refine (HRT.out vo vc w6 HR6.out H0.out).mono ?_
 rintro e w7 ⟨rfl, hb7⟩
 have HW7 := hid (HW6.out.trans (hb7.mono HW6.out.size))
 clear hb7 HR6 HW6 HRT
 refine hKK _ _ (fun _ => HBX.out _ HW7.out) ?_
 clear hKK
 refine mix_free (.bool true) rfl (by kernel_rfl) (fun w' hS => ?_) ?_
 ·go_simp
 refine mix_free (.bool true) rfl (by kernel_rfl) (fun w' hS => ?_) ?_
 ·go_simp
 refine mix_free (.bool true) rfl (by kernel_rfl) (fun w' hS => ?_) ?_
 ·go_simp
 refine mix_go rfl (by kernel_rfl) fun KK hKK => ?_
 go_simp
 refine (lives11 w7 (HT.out.below (HB2.out.trans (HW7.out.mono HB2.out.size)))).mono ?_
 rintro e w8 ⟨rfl, hb8⟩
 have HW8 := hid (HW7.out.trans (hb8.mono HW7.out.size))
 clear hb8 HW7
 refine hKK _ _ (fun _ => HBX.out _ HW8.out) ?_
 clear hKK
 refine mix_free (.bool true) rfl (by kernel_rfl) (fun w' hS => ?_) ?_
 ·go_simp
 refine mix_go rfl (by kernel_rfl) fun KK hKK => ?_
 go_simp
 refine hKK _ _ (fun _ => HBX.out _ HW8.out) ?_
 clear hKK
 refine mix_end (NoPanic.normal ?_)
 go_wp2
 go_ret
 exact ⟨rfl, HB2.out.trans (HW8.out.mono HB2.out.size)⟩
set_option maxRecDepth 100000 in
theorem gu_walk (l : List UInt8) (z r : Int) (hz : z <= 9223372036854775807) (w : World) (ht : TbW w) :
  Calls Tryz.prog 6 #[.string ⟨l.toArray⟩, .int .i64 z, .int .i32 r] w fun e w' => e = .returned (.bool true) /\ Below w.heap.size w w' := by
 by_cases h0 : 120 < l.length
 ·have HL := hid (lives11 w ht)
  have h1 : (120 : Int) < (l.length : Int) := by omega
  clear ht
  go_enter Tryz.func6, Tryz.ntmps6
  go_wp2_with fail
  refine HL.out.mono ?_
  rintro e w1 ⟨rfl, hb⟩
  have HB := hid hb
  clear hb HL
  go_wp2
  go_ret
  exact ⟨rfl, HB.out⟩
 ·exact gu_main l z r hz (by omega) w ht
end Go.Proofs.YtbajepdkgeldlaaGreatDoor.Br
