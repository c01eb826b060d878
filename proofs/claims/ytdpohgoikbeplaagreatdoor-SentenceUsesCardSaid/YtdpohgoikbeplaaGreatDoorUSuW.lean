/- SuW: parts of the proof, joined. -/
import Derived.Test.YtdpohgoikbeplaaGreatDoorUSuTrm
import Derived.Test.YtdpohgoikbeplaaGreatDoorUSnFst
namespace Go.Proofs.YtdpohgoikbeplaaGreatDoor.Sn
open Go.RowKit Wt
theorem sls_any {w w' : World} {L : List Nat} {e : Ending} (h : Pt.LsQ w L e w') : ∃ vo vc, e = .returned (.slice vo L.length vc) /\ Pt.RdI w' vo (L.map fun (x : Nat) => (x : Int)) /\ Below w.heap.size w w' := by
 obtain ⟨vo, vc, rfl, ho, hb⟩ := h
 exact ⟨vo, vc, rfl, Pt.rdi_own ho rfl, hb⟩
theorem sbs_len9 (l : List UInt8) : (sbs l).length <= l.length + 1 := by
 unfold sbs
 split
 ·simp
 ·unfold sbd
  rw [bds_len]; have := scnt_le l
  unfold scnt at this
  omega
theorem chn_top {p e : Nat} {P : List (Nat × Nat)} (h : Br.Chn p e P) : ∀ x ∈ Br.bds p P, x <= e := by
 induction h with
 | nil => exact fun x hx => by simp [Br.bds] at hx; omega
 | @cons p t e P k1 k2 ih =>
  have := k2.le
  rw [Br.bds_cons]
  intro x hx
  rcases List.mem_cons.1 hx with h | h
  ·omega
  ·exact ih x h
theorem fsq_le (l : List UInt8) (n : Int) : plE (sbs l) n l.length <= l.length := by
 unfold plE
 split
 ·exact Nat.zero_le _
 ·rw [List.getD_eq_getElem?_getD]
  cases hk : (sbs l)[n.toNat]? with
  | none => exact Nat.le_refl _
  | some x =>
   have hm := List.mem_of_getElem? hk
   unfold sbs at hm
   split at hm
   ·cases hm
   ·exact chn_top (sp_ch0 l) x hm
set_option maxHeartbeats 8000000 in
set_option maxRecDepth 100000 in
theorem su_main (l : List UInt8) (f t z r : Int) (hz : z <= 9223372036854775807) (hl : l.length <= 100) (w : World) (ht : TbW w) :
  Calls Tryz.prog 11 #[.string ⟨l.toArray⟩, .int .i64 f, .int .i64 t, .int .i64 z, .int .i32 r] w fun e w' => e = .returned (.bool true) /\ Below w.heap.size w w' := by
 have HT := hid ht
 have hD9 : (sbs l).length <= 101 := by have := sbs_len9 l; omega
 clear ht
 have hl1 : ¬ (100 : Int) < (l.length : Int) := by omega
 have HG3 := hid (fun (X : Nat) (W : World) (h : Br.BrAt Dc.snU Dc.snW Pt.snRs false X W) => sbounds9 X l (by omega) W h)
 have HGt := hid (fun (X : Nat) (W : World) (h : Br.BrAt Dc.snU Dc.snW Pt.snRs false X W) => sbr_get X W h)
 have HC := hid (fun (W : World) => sncls_any r W)
 obtain ⟨p, hp⟩ : ∃ p, p = plE (sbs l) z l.length := ⟨_, rfl⟩
 have hpl : p <= l.length := by rw [hp]; exact fsq_le l z
 have HFs := hid (fun (W : World) (h : Below w.heap.size w W) => sfirst2_any l z W (HT.out.below h) (by omega) hz)
 have HTr := hid (fun (W : World) (h : Below w.heap.size w W) => strim_any l f t W (HT.out.below h) (by omega))
 have HKd := hid (fun (W : World) (h : Below w.heap.size w W) => skind_any l f t W (HT.out.below h) (by omega))
 have HRT := hid (fun (X : Nat) (W : World) (h : Br.BrAt Dc.snU Dc.snW Pt.snRs false X W) => rtrim_any l f t X W hl h)
 have HRK := hid (fun (X : Nat) (W : World) (h : Br.BrAt Dc.snU Dc.snW Pt.snRs false X W) => rkind_any l f t X W hl h)
 have HRP := hid (fun (ao : Option Addr) (ac : Nat) (W : World) (h : Pt.RdI W ao ((sbs l).map fun (x : Nat) => (x : Int))) => rplace_any ao _ ac (sbs l) z l.length W h rfl)
 rw [<- hp] at HRP HFs
 obtain ⟨D, hD⟩ : ∃ D, D = sbs l := ⟨_, rfl⟩
 rw [<- hD] at hD9 HG3 HRP
 clear hD hp
 obtain ⟨n, hn⟩ : ∃ n, n = D.length := ⟨_, rfl⟩
 rw [<- hn] at hD9 HRP
 obtain ⟨c, hc⟩ : ∃ c, c = sncls r := ⟨_, rfl⟩
 have HCr := hid hc
 rw [<- hc] at HC
 obtain ⟨u, hu⟩ : ∃ u, u = (trmE l f t).1 := ⟨_, rfl⟩
 obtain ⟨v, hv⟩ : ∃ v, v = (trmE l f t).2 := ⟨_, rfl⟩
 obtain ⟨kd, hkd⟩ : ∃ kd, kd = kndE l f t := ⟨_, rfl⟩
 rw [<- hu, <- hv] at HTr HRT
 rw [<- hkd] at HKd HRK
 clear hc hu hv hkd
 have p0 : (0 : Int) <= (p : Int) := by omega
 have p1 : (p : Int) <= (l.length : Int) := by omega
 go_enter Tryz.func11, Tryz.ntmps11
 go_wp2_with fail
 refine (new13_any w).mono ?_
 rintro e w2 ⟨hb2, X, rfl, hX⟩
 have HX := hid (fun (W : World) (h : Below w2.heap.size w2 W) => hX.below h)
 obtain ⟨Q, cX, gX, _⟩ := HGt.out X w2 hX
 have HcX := hid cX
 have HgX := hid (fun (W : World) (h : Below w2.heap.size w2 W) => gX r W h)
 rw [<- HCr.out] at HgX
 have HB2 := hid hb2
 clear hb2 hX HGt cX gX HCr
 go_wp2_with fail
 refine (HTr.out w2 HB2.out).mono ?_
 rintro e w3 ⟨rfl, hb3⟩
 have HW3 := hid hb3
 clear hb3 HTr
 go_wp2_with fail
 refine (HRT.out X w3 (HX.out _ HW3.out)).mono ?_
 rintro e w4 ⟨rfl, hb4⟩
 have HW4 := hid (HW3.out.trans (hb4.mono HW3.out.size))
 clear hb4 HW3 HRT
 go_wp2_with fail
 refine (HG3.out X w4 (HX.out _ HW4.out)).mono ?_
 rintro e w5 h5
 obtain ⟨vo, vc, rfl, hr, hb5⟩ := sls_any h5
 rw [<- hn] at ⊢
 have HR5 := hid hr
 have HW5 := hid (HW4.out.trans (hb5.mono HW4.out.size))
 clear h5 hr hb5 HG3 hn HW4
 go_wp2_with fail
 refine (HRP.out vo vc w5 HR5.out).mono ?_
 rintro e w6 ⟨rfl, e6⟩
 obtain rfl := e6.symm
 clear e6 HRP HR5
 go_wp2_with fail
 have HWd := hid (show Below w2.heap.size w2 w5.drew from bdrew HW5.out)
 have HXT := hid (ext_take0 l p)
 refine wp_region_mix [(0, true), (2, true), (3, true), (4, true), (5, true), (6, true), (1, false), (7, false), (8, true), (9, true), (10, true), (11, true), (12, true), (13, true), (14, true), (15, true), (16, true), (17, true), (18, true), (19, true), (20, true), (21, true), (22, true), (24, true), (25, true), (26, true), (27, true), (23, false), (28, false), (29, true), (30, true), (31, true), (32, true), (33, true), (35, true), (34, false), (36, true), (37, true), (38, true), (39, false), (40, true), (41, false)] (fun W => W.cell? ⟨X, 0, none⟩ = some (.pointer (some ⟨Q, 0, none⟩))) (fun _ => false) (by kernel_rfl) (by kernel_rfl) (fun j hj => by cases hj) rfl (by kernel_rfl) (HcX.out _ HWd.out) ?_
 iterate 6 (refine mix_free ?_ rfl (by kernel_rfl) (fun w' hS => ?_) ?_; (rotate_left; (have s1 := hS; go_simp; with_reducible rfl); rotate_left))
 refine mix_go rfl (by kernel_rfl) fun KK hKK => ?_
 go_simp
 refine (HC.out _).mono ?_
 rintro e w6 ⟨rfl, e6⟩
 obtain rfl := e6.symm
 clear e6
 refine hKK _ _ (fun _ => HcX.out _ HWd.out) ?_
 clear hKK
 refine mix_go rfl (by kernel_rfl) fun KK hKK => ?_
 go_simp
 refine (HgX.out _ HWd.out).mono ?_
 rintro e w6 ⟨rfl, e6⟩
 obtain rfl := e6.symm
 clear e6
 refine hKK _ _ (fun _ => HcX.out _ HWd.out) ?_
 clear hKK
 refine mix_free (.bool true) rfl (by kernel_rfl) (fun w' hS => ?_) ?_
 ·go_simp
 iterate 3 (refine mix_free ?_ rfl (by kernel_rfl) (fun w' hS => ?_) ?_; (rotate_left; (have s1 := hS; go_simp; with_reducible rfl); rotate_left))
 refine mix_free (.bool true) rfl (by kernel_rfl) (fun w' hS => ?_) ?_
 ·go_simp
 refine mix_free (.bool true) rfl (by kernel_rfl) (fun w' hS => ?_) ?_
 ·go_simp
 iterate 3 (refine mix_free ?_ rfl (by kernel_rfl) (fun w' hS => ?_) ?_; (rotate_left; (have s1 := hS; go_simp; with_reducible rfl); rotate_left))
 refine mix_free (.bool true) rfl (by kernel_rfl) (fun w' hS => ?_) ?_
 ·go_simp
 refine mix_free (.bool true) rfl (by kernel_rfl) (fun w' hS => ?_) ?_
 ·go_simp
 iterate 8 (refine mix_free ?_ rfl (by kernel_rfl) (fun w' hS => ?_) ?_; (rotate_left; (have s1 := hS; go_simp; with_reducible rfl); rotate_left))
 refine mix_go rfl (by kernel_rfl) fun KK hKK => ?_
 go_simp
 refine (HKd.out w5.drew (HB2.out.trans (HWd.out.mono HB2.out.size))).mono ?_
 rintro e w6 ⟨rfl, hb6⟩
 have HW6 := hid (HWd.out.trans (hb6.mono HWd.out.size))
 clear hb6 HKd HgX HC
 refine hKK _ _ (fun _ => HcX.out _ HW6.out) ?_
 clear hKK
 refine mix_go rfl (by kernel_rfl) fun KK hKK => ?_
 go_simp
 refine (HRK.out X w6 (HX.out _ HW6.out)).mono ?_
 rintro e w7 ⟨rfl, hb7⟩
 have HW7 := hid (HW6.out.trans (hb7.mono HW6.out.size))
 clear hb7 HRK HW6
 refine hKK _ _ (fun _ => HcX.out _ HW7.out) ?_
 clear hKK
 refine mix_free (.bool true) rfl (by kernel_rfl) (fun w' hS => ?_) ?_
 ·go_simp
 refine mix_free (.bool true) rfl (by kernel_rfl) (fun w' hS => ?_) ?_
 ·go_simp
 iterate 4 (refine mix_free ?_ rfl (by kernel_rfl) (fun w' hS => ?_) ?_; (rotate_left; (have s1 := hS; go_simp; with_reducible rfl); rotate_left))
 refine mix_go rfl (by kernel_rfl) fun KK hKK => ?_
 go_simp
 refine (HFs.out w7 (HB2.out.trans (HW7.out.mono HB2.out.size))).mono ?_
 rintro e w8 ⟨rfl, hb8⟩
 have HW8 := hid (HW7.out.trans (hb8.mono HW7.out.size))
 clear hb8 HFs HW7
 refine hKK _ _ (fun _ => HcX.out _ HW8.out) ?_
 clear hKK
 refine mix_free (.bool true) rfl (by kernel_rfl) (fun w' hS => ?_) ?_
 ·go_simp
  try rw [HXT.out]
  try simp
 refine mix_free (.bool true) rfl (by kernel_rfl) (fun w' hS => ?_) ?_
 ·go_simp
 refine mix_free (.bool true) rfl (by kernel_rfl) (fun w' hS => ?_) ?_
 ·go_simp
 refine mix_go rfl (by kernel_rfl) fun KK hKK => ?_
 go_simp
 refine (lives13 w8).mono ?_
 rintro e w9 ⟨rfl, hb9⟩
 have HW9 := hid (HW8.out.trans (hb9.mono HW8.out.size))
 clear hb9 HW8
 refine hKK _ _ (fun _ => HcX.out _ HW9.out) ?_
 clear hKK
 refine mix_free (.bool true) rfl (by kernel_rfl) (fun w' hS => ?_) ?_
 ·go_simp
 refine mix_go rfl (by kernel_rfl) fun KK hKK => ?_
 go_simp
 refine hKK _ _ (fun _ => HcX.out _ HW9.out) ?_
 clear hKK
 refine mix_end (NoPanic.normal ?_)
 go_wp2
 go_ret
 exact ⟨rfl, HB2.out.trans (HW9.out.mono HB2.out.size)⟩
set_option maxRecDepth 100000 in
theorem su_walk (l : List UInt8) (f t z r : Int) (hz : z <= 9223372036854775807) (w : World) (ht : TbW w) :
  Calls Tryz.prog 11 #[.string ⟨l.toArray⟩, .int .i64 f, .int .i64 t, .int .i64 z, .int .i32 r] w fun e w' => e = .returned (.bool true) /\ Below w.heap.size w w' := by
 by_cases h0 : 100 < l.length
 ·have HL := hid (lives13 w)
  have h1 : (100 : Int) < (l.length : Int) := by omega
  clear ht
  go_enter Tryz.func11, Tryz.ntmps11
  go_wp2_with fail
  refine HL.out.mono ?_
  rintro e w1 ⟨rfl, hb⟩; have HB := hid hb
  clear hb HL
  go_wp2
  go_ret; exact ⟨rfl, HB.out⟩
 ·exact su_main l f t z r hz (by omega) w ht
end Go.Proofs.YtdpohgoikbeplaaGreatDoor.Sn
