/- SnFun2: parts of the proof, joined. -/
import Derived.Test.YtdpohgoikbeplaaGreatDoorUMix
import Derived.Test.YtdpohgoikbeplaaGreatDoorUKit
namespace Go.Proofs.YtdpohgoikbeplaaGreatDoor.Sn
open Wt
open Go.RowKit
theorem mix_skip {P : Program} {ops : Array Oper} {Q : Exit -> Act -> World -> Prop} {S : World -> Prop} {fin : Nat -> Bool} {o : Oper} {k : Nat} {r : List (Nat × Bool)} {a : Act} {w : World} (h0 : ops[k]? = some o) (hw : Region.wanted o (yielded ops a.tmps) = false) (hS : fin k = false -> S w) (h2 : wpMix P ops Q S fin r (a.put o.dst undef) w) : wpMix P ops Q S fin ((k, false) :: r) a w := by
 refine ⟨o, h0, ?_⟩
 rw [if_neg (by rw [hw]; simp)]
 exact ⟨hS, h2⟩
set_option maxHeartbeats 4000000 in
theorem scut_any (s : List UInt8) (p : Nat) (w : World) (ht : TbW w) (hl : s.length <= 1000000000) (hp : p <= s.length) :
  Calls Tryz.prog 81 #[.string ⟨s.toArray⟩, .int .i64 p] w fun e w' => e = .returned (.bool (scut s p)) /\ Below w.heap.size w w' := by
 have HT := hid ht
 have HTL := hid (show (s.take p).length = p by rw [List.length_take]; omega)
 clear ht
 go_enter Tryz.func81, Tryz.ntmps81
 go_wp2_with fail
 rw [wtake]
 refine (slast_any (s.take p) w HT.out (by have := HTL.out; omega)).mono ?_
 rintro e w1 ⟨rfl, be⟩
 have HB1 := hid be
 obtain ⟨a0, a1⟩ : 0 <= slast (s.take p) /\ slast (s.take p) <= 13 := sn_bd _
 obtain ⟨a, ha⟩ : ∃ a, a = slast (s.take p) := ⟨_, rfl⟩
 obtain ⟨m, hm⟩ : ∃ m : Nat, m = (decLast (s.take p)).2 := ⟨_, rfl⟩
 have HA := hid ha
 rw [<- ha] at a0 a1
 rw [<- ha, <- hm]
 clear be ha hm
 go_wp2_with fail
 rw [ext_drop]
 refine (sfirst_any (s.drop p) w1 (HT.out.below HB1.out)).mono ?_
 rintro e w2 ⟨rfl, be⟩
 have HB2 := hid (HB1.out.trans (be.mono HB1.out.size))
 obtain ⟨b0, b1⟩ : 0 <= sfirst (s.drop p) /\ sfirst (s.drop p) <= 13 := sn_bd _
 obtain ⟨b, hb⟩ : ∃ b, b = sfirst (s.drop p) := ⟨_, rfl⟩
 have HBE := hid hb
 rw [<- hb] at b0 b1
 rw [<- hb]
 clear be hb
 have HV := hid (show scut s p = if a == 1 && b == 2 then false else if shas 14 a then true else if shas 13854 b then false else prtR (bk (s.take p)) (fw (s.drop p)) by
  rw [HA.out, HBE.out]
  unfold scut cutR
  rw [slast_hd, sfirst_hd])
 clear HA HBE HB1
 by_cases h12 : a = 1 /\ b = 2
 ·obtain ⟨rfl, rfl⟩ := h12
  go_wp2
  go_ret; exact ⟨by rw [HV.out]; rfl, HB2.out⟩
 have hf : (a == 1 && b == 2) = false := by
  rw [Bool.eq_false_iff]; intro h; rw [Bool.and_eq_true] at h; exact h12 ⟨eq_of_beq h.1, eq_of_beq h.2⟩
 rw [hf] at HV
 clear h12
 by_cases h1 : a = 1
 ·subst h1
  rw [beq_self_eq_true, Bool.true_and] at hf
  go_wp2_with fail
  refine (shas_any 14 _ 1 w2 rfl (by decide) (by decide)).mono ?_
  rintro e w3 ⟨rfl, hw3⟩; obtain rfl := hw3.symm
  clear hw3; rw [show shas 14 1 = true by decide]
  go_wp2
  go_ret; exact ⟨by rw [HV.out]; rfl, HB2.out⟩
 have n1 : (a == 1) = false := beq_eq_false_iff_ne.2 h1
 clear hf h1
 go_wp2_with fail
 refine (shas_any 14 _ a w2 rfl a0 a1).mono ?_
 rintro e w3 ⟨rfl, hw3⟩
 obtain rfl := hw3.symm
 clear hw3
 obtain ⟨q, hq⟩ : ∃ q, q = shas 14 a := ⟨_, rfl⟩
 rw [<- hq] at HV
 rw [<- hq]
 clear hq
 cases q with
 | true =>
  go_wp2
  go_ret; exact ⟨by rw [HV.out]; rfl, HB2.out⟩
 | false =>
  have HV2 := hid (show scut s p = if shas 13854 b then false else prtR (bk (s.take p)) (fw (s.drop p)) from HV.out)
  clear HV
  go_wp2_with fail
  refine wp_region_mix [(0, true), (1, false), (2, true), (3, true), (4, true), (5, true), (6, true), (7, true), (8, true), (9, true), (10, false), (11, true), (12, true)] (fun _ => True) (fun _ => false) (by kernel_rfl) (by kernel_rfl) (fun j hj => by cases hj) rfl (by kernel_rfl) trivial ?_
  iterate 1 (refine mix_free ?_ rfl (by kernel_rfl) (fun w' hS => ?_) ?_; (rotate_left; (go_simp; with_reducible rfl); rotate_left))
  refine mix_go rfl (by kernel_rfl) fun KK hKK => ?_
  go_simp; refine (shas_any 13854 _ b w2.drew rfl b0 b1).mono ?_
  rintro e w3 ⟨rfl, hw3⟩; obtain rfl := hw3.symm
  clear hw3; have HB3 := hid (show Below w.heap.size w w2.drew from HB2.out.drew)
  obtain ⟨w3, hw3⟩ : ∃ w3, w3 = w2.drew := ⟨_, rfl⟩
  rw [<- hw3] at HB3
  rw [<- hw3]; refine hKK _ _ (fun _ => trivial) ?_
  clear hKK KK hw3; obtain ⟨q, hq⟩ : ∃ q, q = shas 13854 b := ⟨_, rfl⟩
  rw [<- hq] at HV2
  rw [<- hq]; clear hq
  cases q with
  | true =>
   have HV3 := hid (show scut s p = false from HV2.out)
   clear HV2
   iterate 2 (refine mix_free ?_ rfl (by kernel_rfl) (fun w' hS => ?_) ?_; (rotate_left; (go_simp; with_reducible rfl); rotate_left))
   iterate 6 (refine mix_pass rfl (by kernel_rfl) ?_)
   refine mix_skip rfl (by kernel_rfl) (fun _ => trivial) ?_
   iterate 2 (refine mix_free ?_ rfl (by kernel_rfl) (fun w' hS => ?_) ?_; (rotate_left; (go_simp; with_reducible rfl); rotate_left))
   refine mix_end (NoPanic.normal ?_)
   go_simp
   go_wp2
   go_ret; exact ⟨by rw [HV3.out]; rfl, HB3.out⟩
  | false =>
   have HV3 := hid (show scut s p = prtR (bk (s.take p)) (fw (s.drop p)) from HV2.out)
   clear HV2
   iterate 8 (refine mix_free ?_ rfl (by kernel_rfl) (fun w' hS => ?_) ?_; (rotate_left; (go_simp; with_reducible rfl); rotate_left))
   refine mix_go rfl (by kernel_rfl) fun KK hKK => ?_
   go_simp; rw [wtake, ext_drop]; refine (sparts_any (s.take p) (s.drop p) w3 (HT.out.below HB3.out) (by have := HTL.out; omega)).mono ?_
   rintro e w4 ⟨rfl, be⟩; have HB4 := hid (HB3.out.trans (be.mono HB3.out.size))
   refine hKK _ _ (fun _ => trivial) ?_
   clear hKK KK; obtain ⟨v, hv⟩ : ∃ v, v = prtR (bk (s.take p)) (fw (s.drop p)) := ⟨_, rfl⟩
   rw [<- hv] at HV3
   rw [<- hv]; clear be hv
   iterate 2 (refine mix_free ?_ rfl (by kernel_rfl) (fun w' hS => ?_) ?_; (rotate_left; (go_simp; with_reducible rfl); rotate_left))
   refine mix_end (NoPanic.normal ?_)
   go_simp
   go_wp2
   go_ret; exact ⟨by rw [HV3.out]; rfl, HB4.out⟩
end Go.Proofs.YtdpohgoikbeplaaGreatDoor.Sn
