/- GsDoc: parts of the proof, joined. -/
import Derived.Test.YtbajepdkgeldlaaGreatDoorSGrB9
namespace Go.Proofs.YtbajepdkgeldlaaGreatDoor.Br
open Go.RowKit Wt
theorem rends_any (c : Int) (w : World) : Calls Tryz.prog 78 #[.int .i64 c] w fun e w' => e = .returned (.bool (galone c)) /\ w' = w := by
 by_cases h1 : c = 1
 ·subst h1
  go_enter Tryz.func78, Tryz.ntmps78
  go_wp2
  go_ret
  exact ⟨rfl, rfl⟩
 by_cases h2 : c = 2
 ·subst h2
  go_enter Tryz.func78, Tryz.ntmps78
  go_wp2
  go_ret
  exact ⟨rfl, rfl⟩
 go_enter Tryz.func78, Tryz.ntmps78
 go_wp2
 go_ret
 exact ⟨rfl, rfl⟩
theorem isE_egs (l : List UInt8) (z : Int) : isE l z = (Pt.egs l).any fun x => (x : Int) == z := by
 rw [is_eq, Rf.edg_pos]
 unfold isL Pt.egs
 rw [List.any_map, List.any_map]; rfl
theorem any_step {D : List Nat} {i x : Nat} {z : Int} (h : D[i]? = some x) : ((D.drop i).any fun y => (y : Int) == z) = (((x : Int) == z) || ((D.drop (i + 1)).any fun y => (y : Int) == z)) := by
 obtain ⟨h1, h2⟩ := List.getElem?_eq_some_iff.1 h
 rw [List.drop_eq_getElem_cons h1, h2, List.any_cons]
set_option maxHeartbeats 1000000 in
set_option maxRecDepth 100000 in
theorem ris_any (l : List UInt8) (z : Int) (w : World) (hl : l.length <= 1000000) :
  Calls Tryz.prog 77 #[.string ⟨l.toArray⟩, .int .i64 z] w fun e w' => e = .returned (.bool (isE l z)) /\ Below w.heap.size w w' := by
 have HE := hid (Rf.edges_any l w (by omega))
 have HV := hid (isE_egs l z)
 have HL := hid (Pt.egs_len l)
 have hrl := Rf.rl_len _ l (Nat.le_refl _)
 rw [Pt.edg_egs, Pt.edg_len2] at HE
 obtain ⟨n, hn⟩ : ∃ n, n = (rl l).length + 1 := ⟨_, rfl⟩
 have hn9 : n <= 1000001 := by omega
 rw [<- hn] at HE HL
 obtain ⟨D, hD⟩ : ∃ D, D = Pt.egs l := ⟨_, rfl⟩
 rw [<- hD] at HE HV HL
 clear hD hn hrl
 go_enter Tryz.func77, Tryz.ntmps77
 go_wp2_with fail
 refine HE.out.mono ?_
 rintro e w1 ⟨v, rfl, hO1, hb1⟩
 obtain ⟨eo, ec, rfl, _, _⟩ := Pt.own_sl hO1
 have HI := hid (Pt.rdi_own hO1 HL.out.symm)
 have HB := hid hb1
 clear hO1 hb1 HE
 go_wp2
 go_loopw [6] (fun y wr => ∃ i : Nat, y = .int .i64 i /\ i <= n /\ wr = w1 /\ Hid (isE l z = (D.drop i).any fun x => (x : Int) == z)) (fun y _ => n - (intOf y).toNat)
 case atStart => exact ⟨0, rfl, Nat.zero_le _, rfl, hid (by rw [HV.out, List.drop_zero])⟩
 case round =>
  obtain ⟨i, rfl, hi, rfl, HE⟩ := hrel
  by_cases hlt : i < n
  ·have i0 : (0 : Int) <= (i : Int) := by omega
   have i1 : (i : Int) < (n : Int) := by omega
   have hil : i < D.length := by rw [HL.out]; exact hlt
   obtain ⟨a, rfl, c1⟩ := rdi_nat HI.out hil
   obtain ⟨x, hx⟩ : ∃ x, x = D[i] := ⟨_, rfl⟩
   have HX := hid (any_step (z := z) (show D[i]? = some x by rw [hx]; exact List.getElem?_eq_getElem hil))
   rw [<- hx] at c1
   clear hx hil
   by_cases hz : (x : Int) = z
   ·have HR := hid (show isE l z = true by rw [HE.out, HX.out, beq_iff_eq.2 hz]; rfl)
    go_wp2
    go_ret
    exact ⟨by rw [HR.out]; rfl, HB.out⟩
   ·have HR := hid (HE.out.trans (HX.out.trans (by rw [beq_eq_false_iff_ne.2 hz, Bool.false_or])))
    go_wp2
    go_roundw
    case rel => exact ⟨i + 1, by go_num, by omega, trivial, HR⟩
    case measure => simp [intOf]; omega
  ·have i1 : ¬ (i : Int) < (n : Int) := by omega
   have HR := hid (show isE l z = false by rw [HE.out, List.drop_of_length_le (by rw [HL.out]; omega)]; rfl)
   go_wp2
   go_ret
   exact ⟨by rw [HR.out]; rfl, HB.out⟩
def rsfN (A B : List Int) : Bool :=
 if A = [] then B.headD 0 == 1 || B.headD 0 == 3
 else if B = [] then A.getLastD 0 == 2 || A.getLastD 0 == 3
 else if (galone (A.getLastD 0) || galone (B.headD 0)) = true then true
 else if A.getLastD 0 = 5 /\ B.headD 0 = 12 then !((A.take (A.length - 1)).all fun x => x == 4)
 else if A.getLastD 0 = 13 /\ B.headD 0 = 13 then !((A.take A.length).all fun x => x == 13)
 else true
def rsf (l : List UInt8) (z : Int) : Bool := if isE l z = false \/ l = [] then false else rsfN (gcs (l.take z.toNat)) (gcs (l.drop z.toNat))
theorem rdi_int {w : World} {ao : Option Addr} {A : List Int} (h : Pt.RdI w ao A) {i : Nat} (hi : i < A.length) : ∃ a : Addr, ao = some a /\ w.cell? (a.add i) = some (.int .i64 A[i]) := by
 obtain ⟨a, h1, _, h3⟩ := h i A[i] (List.getElem?_eq_getElem hi)
 exact ⟨a, h1, h3⟩
theorem all_back {A : List Int} {j : Nat} {x c : Int} (hx : A[j]? = some x) : ((A.take (j + 1)).all fun y => y == c) = (((A.take j).all fun y => y == c) && x == c) := by
 obtain ⟨h1, h2⟩ := List.getElem?_eq_some_iff.1 hx
 rw [List.take_add_one, hx, List.all_append]
 simp
theorem bd_pos {l : List UInt8} {z : Int} (h : isE l z = true) : ∃ k, k <= (rl l).length /\ z = (pos l k : Nat) := by
 rw [isE_egs] at h
 obtain ⟨x, hx, hz⟩ := List.any_eq_true.1 h
 unfold Pt.egs at hx
 obtain ⟨k, hk, rfl⟩ := List.mem_map.1 hx
 exact ⟨k, by have := List.mem_range.1 hk; omega, (beq_iff_eq.1 hz).symm⟩
set_option maxHeartbeats 8000000 in
set_option maxRecDepth 100000 in
theorem rsafe_any (l : List UInt8) (z : Int) (X : Nat) (w : World) (hl : l.length <= 10000) (h : BrAt Dc.grU Dc.grW Pt.grRs true X w) :
  Calls Tryz.prog 35 #[.pointer (some ⟨X, 0, none⟩), .string ⟨l.toArray⟩, .int .i64 z] w fun e w' => e = .returned (.bool (rsf l z)) /\ Below w.heap.size w w' := by
 have HI := hid (ris_any l z w (by omega))
 by_cases hi : isE l z = false
 ·have HV := hid (show rsf l z = false from if_pos (.inl hi))
  rw [HV.out]
  rw [hi] at HI
  clear hi h
  go_enter Tryz.func35, Tryz.ntmps35
  go_wp2_with fail
  refine HI.out.mono ?_
  rintro e w1 ⟨rfl, be⟩
  have HB1 := hid be
  clear be HI
  go_wp2
  go_ret
  exact ⟨rfl, HB1.out⟩
 have hi2 : isE l z = true := by simpa using hi
 by_cases hne : l = []
 ·subst hne
  have HV := hid (show rsf [] z = false from if_pos (.inr rfl))
  rw [HV.out]
  rw [hi2] at HI
  clear hi h
  go_enter Tryz.func35, Tryz.ntmps35
  go_wp2_with fail
  refine HI.out.mono ?_
  rintro e w1 ⟨rfl, be⟩
  have HB1 := hid be
  clear be HI
  go_wp2
  go_ret
  exact ⟨rfl, HB1.out⟩
 rw [hi2] at HI
 obtain ⟨k, hk, rfl⟩ := bd_pos hi2
 have HV := hid (show rsf l (pos l k : Nat) = rsfN (gcs (l.take (pos l k))) (gcs (l.drop (pos l k))) by unfold rsf; rw [if_neg (by rw [hi2]; simp [hne])]; rfl)
 have hp2 : pos l k <= l.length := pos_le l k hk
 have hl0 : 0 < l.length := List.length_pos_iff.2 hne
 obtain ⟨Q, ro, rc, hX, ⟨B, nv, sv, vs, hD⟩, hR⟩ := h
 have HX := hid (fun (W : World) (hb : Below w.heap.size w W) => show W.cell? ⟨X, 0, none⟩ = some (.pointer (some ⟨Q, 0, none⟩)) from by
  have hX2 := (hb.block X (Pt.heap_lt hX)).trans hX
  rw [cell_of_row W X 0 _ _ _ hX2]; rfl)
 have HOf := hid (fun (t : List UInt8) (ht : t.length <= 10000) (W : World) (hb : Below w.heap.size w W) => Dc.rof_any B Q Dc.grU.length Dc.grU Dc.grW nv sv vs t W (hD.below hb) Dc.gr_cov Dc.gr_cls (by decide) (by decide) (by omega))
 obtain ⟨A, hA⟩ : ∃ A, A = gcs (l.take (pos l k)) := ⟨_, rfl⟩
 obtain ⟨C, hC⟩ : ∃ C, C = gcs (l.drop (pos l k)) := ⟨_, rfl⟩
 rw [<- hA, <- hC] at HV
 have HOA := hid (HOf.out (l.take (pos l k)) (by rw [List.length_take]; omega))
 have HOC := hid (HOf.out (l.drop (pos l k)) (by rw [List.length_drop]; omega))
 rw [Pt.evs_rl, Pt.cl64_dcl] at HOA HOC
 have HDA := hid (show Pt.dcs Dc.grW (l.take (pos l k)) = A by rw [hA]; exact gr_dcs _)
 have HDC := hid (show Pt.dcs Dc.grW (l.drop (pos l k)) = C by rw [hC]; exact gr_dcs _)
 have HLA := hid (show A.length = (rl (l.take (pos l k))).length by rw [hA, gcs_len])
 have HLC := hid (show C.length = (rl (l.drop (pos l k))).length by rw [hC, gcs_len])
 have h9A : A.length <= 10000 := by have := Rf.rl_len _ (l.take (pos l k)) (Nat.le_refl _); rw [List.length_take] at this; rw [HLA.out]; omega
 have h9C : C.length <= 10000 := by have := Rf.rl_len _ (l.drop (pos l k)) (Nat.le_refl _); rw [List.length_drop] at this; rw [HLC.out]; omega
 have HAC := hid (show A = [] -> C ≠ [] from fun e e2 => by
  have h1 := congrArg List.length e
  have h2 := congrArg List.length e2
  rw [HLA.out, Wt.rl_take l k hk, List.length_take, List.length_nil] at h1
  rw [HLC.out, Wt.rl_drop l k hk, List.length_drop, List.length_nil] at h2
  have : 0 < (rl l).length := by rw [rl_cons l hne]; simp
  omega)
 rw [<- HLA.out] at HOA
 rw [<- HLC.out] at HOC
 rw [HV.out]
 have hpl : pos l k <= l.length := hp2
 obtain ⟨p, hp⟩ : ∃ p, p = pos l k := ⟨_, rfl⟩
 rw [<- hp] at HOA HOC HDA HDC HI hpl ⊢
 clear HOf hA hC HLA HLC hX hD hR hi hi2 HV hp2 hp hk
 obtain ⟨n, hn⟩ : ∃ n, n = A.length := ⟨_, rfl⟩
 obtain ⟨m, hm⟩ : ∃ m, m = C.length := ⟨_, rfl⟩
 rw [<- hn] at HOA h9A
 rw [<- hm] at HOC h9C
 have HN := hid hn
 have HM := hid hm
 clear hn hm
 have p0 : (0 : Int) <= (p : Int) := by omega
 have p1 : (p : Int) <= (l.length : Int) := by omega
 go_enter Tryz.func35, Tryz.ntmps35
 go_wp2_with fail
 refine HI.out.mono ?_
 rintro e w1 ⟨rfl, be⟩
 have HB1 := hid be
 clear be HI
 go_wp2_with fail
 refine wp_region_mix [(0, true), (1, true), (2, true), (3, true), (4, true), (5, true), (6, true), (7, false), (8, false)] (fun W => W.cell? ⟨X, 0, none⟩ = some (.pointer (some ⟨Q, 0, none⟩))) (fun _ => false) (by kernel_rfl) (by kernel_rfl) (fun j hj => by cases hj) rfl (by kernel_rfl) (HX.out _ (show Below w.heap.size w w1.drew from below_drN HB1.out 1)) ?_
 iterate 7 (refine mix_free ?_ rfl (by kernel_rfl) (fun w' s1 => ?_) ?_; (rotate_left; (go_simp; with_reducible rfl); rotate_left))
 refine mix_go rfl (by kernel_rfl) fun KK hKK => ?_
 go_simp
 rw [wtake]
 refine (HOA.out w1.drew (below_drN HB1.out 1)).mono ?_
 rintro e w4 ⟨v, rfl, hO4, hB4⟩
 obtain ⟨ao, ac, rfl, _, _⟩ := Pt.own_sl hO4
 have HIA := hid (show Pt.RdI w4 ao A by rw [<- HDA.out]; exact Pt.rdi_own hO4 (by rw [HN.out, <- HDA.out]; unfold Pt.dcs; rw [List.length_map]))
 have HB4 := hid (show Below w.heap.size w w4 from (show Below w.heap.size w w1.drew from below_drN HB1.out 1).trans (hB4.mono (below_drN HB1.out 1).size))
 clear hO4 hB4 HOA HDA HB1
 refine hKK _ _ (fun _ => HX.out _ HB4.out) ?_
 clear hKK
 refine mix_go rfl (by kernel_rfl) fun KK hKK => ?_
 go_simp
 refine hKK _ _ (fun _ => HX.out _ HB4.out) ?_
 clear hKK
 refine mix_end (NoPanic.normal ?_)
 go_wp2_with fail
 refine wp_region_mix [(0, true), (1, true), (2, true), (3, true), (4, true), (5, true), (6, true), (7, false), (8, false)] (fun W => W.cell? ⟨X, 0, none⟩ = some (.pointer (some ⟨Q, 0, none⟩))) (fun _ => false) (by kernel_rfl) (by kernel_rfl) (fun j hj => by cases hj) rfl (by kernel_rfl) (HX.out _ (show Below w.heap.size w w4.drew from below_drN HB4.out 1)) ?_
 iterate 7 (refine mix_free ?_ rfl (by kernel_rfl) (fun w' s1 => ?_) ?_; (rotate_left; (go_simp; with_reducible rfl); rotate_left))
 refine mix_go rfl (by kernel_rfl) fun KK hKK => ?_
 go_simp
 rw [ext_drop]
 refine (HOC.out w4.drew (below_drN HB4.out 1)).mono ?_
 rintro e w5 ⟨v, rfl, hO4, hB4⟩
 obtain ⟨co, cc, rfl, _, _⟩ := Pt.own_sl hO4
 have HIC := hid (show Pt.RdI w5 co C by rw [<- HDC.out]; exact Pt.rdi_own hO4 (by rw [HM.out, <- HDC.out]; unfold Pt.dcs; rw [List.length_map]))
 have HB5 := hid (show Below w.heap.size w w5 from (show Below w.heap.size w w4.drew from below_drN HB4.out 1).trans (hB4.mono (below_drN HB4.out 1).size))
 have HIA5 := hid (HIA.out.below (show Below w4.heap.size w4 w5 from (show Below w4.heap.size w4 w4.drew from below_drN (Below.refl _ _) 1).trans (hB4.mono (by exact Nat.le_refl _))))
 clear hO4 hB4 HOC HDC HB4
 refine hKK _ _ (fun _ => HX.out _ HB5.out) ?_
 clear hKK
 refine mix_go rfl (by kernel_rfl) fun KK hKK => ?_
 go_simp
 refine hKK _ _ (fun _ => HX.out _ HB5.out) ?_
 clear hKK
 refine mix_end (NoPanic.normal ?_)
 clear HIA HX
 by_cases cA : A = []
 ·have hm0 : 0 < m := by rw [HM.out]; exact List.length_pos_iff.2 (HAC.out cA)
  obtain rfl : n = 0 := by rw [HN.out, cA]; rfl
  have hm2 : 0 < C.length := by rw [<- HM.out]; exact hm0
  obtain ⟨a2, rfl, c2⟩ := rdi_int HIC.out hm2
  obtain ⟨x, hx⟩ : ∃ x, x = C[0] := ⟨_, rfl⟩
  have HV := hid (show rsfN A C = (x == 1 || x == 3) by unfold rsfN; rw [if_pos cA, hx]; cases C with | nil => simp at hm2 | cons y Y => rfl)
  rw [<- hx, show a2.add 0 = a2 by unfold Addr.add; split <;> simp_all] at c2
  have m1 : (0 : Int) < (m : Int) := by omega
  clear hx hm2 cA HAC HIC HIA5 HN
  go_wp2
  all_goals go_ret
  all_goals exact ⟨by rw [HV.out]; first | rfl | simp [*], HB5.out⟩
 have hn0 : 0 < n := by rw [HN.out]; exact List.length_pos_iff.2 cA
 have hnl : n - 1 < A.length := by rw [<- HN.out]; omega
 have e1 : IntKind.i64.wrap ((n : Int) - 1) = ((n - 1 : Nat) : Int) := by unfold IntKind.wrap IntKind.bits IntKind.signed; simp; omega
 obtain ⟨a1, rfl, c1⟩ := rdi_int HIA5.out hnl
 obtain ⟨pv, hpv⟩ : ∃ v, v = A[n - 1] := ⟨_, rfl⟩
 have HP := hid (show A.getLastD 0 = pv by rw [hpv, List.getLastD_eq_getLast?, List.getLast?_eq_getElem?, <- HN.out, List.getElem?_eq_getElem hnl]; rfl)
 rw [<- hpv] at c1
 clear hpv hnl
 have n0 : ¬ (n : Int) = 0 := by omega
 have n1 : (0 : Int) <= ((n - 1 : Nat) : Int) := by omega
 have n2 : ((n - 1 : Nat) : Int) < (n : Int) := by omega
 by_cases cC : C = []
 ·obtain rfl : m = 0 := by rw [HM.out, cC]; rfl
  have HV := hid (show rsfN A C = (pv == 2 || pv == 3) by unfold rsfN; rw [if_neg cA, if_pos cC, HP.out])
  clear cA cC HAC HIC HIA5 HM HP HN
  go_wp2
  all_goals go_ret
  all_goals exact ⟨by rw [HV.out]; first | rfl | simp [*], HB5.out⟩
 have hm0 : 0 < m := by rw [HM.out]; exact List.length_pos_iff.2 cC
 have hm2 : 0 < C.length := by rw [<- HM.out]; exact hm0
 obtain ⟨a3, rfl, c3⟩ := rdi_int HIC.out hm2
 obtain ⟨qv, hqv⟩ : ∃ v, v = C[0] := ⟨_, rfl⟩
 have HQ := hid (show C.headD 0 = qv by rw [hqv]; cases C with | nil => simp at hm2 | cons y Y => rfl)
 rw [<- hqv, show a3.add 0 = a3 by unfold Addr.add; split <;> simp_all] at c3
 have m0 : ¬ (m : Int) = 0 := by omega
 have m1 : (0 : Int) < (m : Int) := by omega
 have HG1 := hid (fun W => rends_any pv W)
 have HG2 := hid (fun W => rends_any qv W)
 have HV := hid (show rsfN A C = if (galone pv || galone qv) = true then true else if pv = 5 /\ qv = 12 then !((A.take (n - 1)).all fun x => x == 4) else if pv = 13 /\ qv = 13 then !((A.take n).all fun x => x == 13) else true by unfold rsfN; rw [if_neg cA, if_neg cC, HP.out, HQ.out, <- HN.out])
 obtain ⟨g1, hg1⟩ : ∃ g, g = galone pv := ⟨_, rfl⟩
 obtain ⟨g2, hg2⟩ : ∃ g, g = galone qv := ⟨_, rfl⟩
 rw [<- hg1] at HG1 HV
 rw [<- hg2] at HG2 HV
 clear hqv hm2 cA cC HAC HIC HM HP HQ hg1 hg2
 by_cases b1 : g1 = true
 ·subst b1
  have HR := hid (show rsfN A C = true by rw [HV.out]; rfl)
  clear HV HIA5 HN
  go_wp2_with fail
  refine (HG1.out _).mono ?_
  rintro e w6 ⟨rfl, hw6⟩
  obtain rfl := hw6.symm
  go_wp2
  go_ret
  exact ⟨by rw [HR.out]; rfl, HB5.out⟩
 obtain rfl : g1 = false := by simpa using b1
 clear b1
 by_cases b2 : g2 = true
 ·subst b2
  have HR := hid (show rsfN A C = true by rw [HV.out]; rfl)
  clear HV HIA5 HN
  go_wp2_with fail
  refine (HG1.out _).mono ?_
  rintro e w6 ⟨rfl, hw6⟩
  obtain rfl := hw6.symm
  go_wp2_with fail
  refine (HG2.out _).mono ?_
  rintro e w7 ⟨rfl, hw7⟩
  obtain rfl := hw7.symm
  go_wp2
  go_ret
  exact ⟨by rw [HR.out]; rfl, HB5.out⟩
 obtain rfl : g2 = false := by simpa using b2
 clear b2
 rw [if_neg (by simp)] at HV
 go_wp2_with fail
 refine (HG1.out _).mono ?_
 rintro e w6 ⟨rfl, hw6⟩
 obtain rfl := hw6.symm
 clear HG1 hw6
 go_wp2_with fail
 refine (HG2.out _).mono ?_
 rintro e w7 ⟨rfl, hw7⟩
 obtain rfl := hw7.symm
 clear HG2 hw7
 by_cases d1 : pv = 5
 ·subst d1
  by_cases d2 : qv = 12
  ·subst d2
   rw [if_pos ⟨rfl, rfl⟩] at HV
   have e2 : IntKind.i64.wrap ((n : Int) - 2) = (n : Int) - 2 := by unfold IntKind.wrap IntKind.bits IntKind.signed; simp; omega
   ·go_wp2_with fail
    go_loopw [12] (fun y wr => ∃ (j : Nat) (q : Int), y = .int .i64 q /\ q = (j : Int) - 1 /\ j <= n - 1 /\ wr = w5 /\ Hid (((A.take (n - 1)).all fun x => x == 4) = ((A.take j).all fun x => x == 4))) (fun y _ => (intOf y + 1).toNat)
    case atStart => exact ⟨n - 1, _, rfl, by omega, by omega, rfl, hid rfl⟩
    case round =>
     obtain ⟨j, q, rfl, hq, hj, rfl, HE⟩ := hrel
     by_cases hj0 : j = 0
     ·have q0 : ¬ (0 : Int) <= q := by omega
      have HR := hid (show rsfN A C = false by rw [HV.out, HE.out, hj0, List.take_zero]; rfl)
      go_wp2
      go_ret
      exact ⟨by rw [HR.out]; simp [*], HB5.out⟩
     ·have q0 : (0 : Int) <= q := by omega
      obtain ⟨i, rfl⟩ : ∃ i : Nat, j = i + 1 := ⟨j - 1, by omega⟩
      obtain rfl : q = (i : Int) := by omega
      have q1 : (i : Int) < (n : Int) := by omega
      have hil : i < A.length := by rw [<- HN.out]; omega
      obtain ⟨a2, ha2, c2⟩ := rdi_int HIA5.out hil
      cases ha2
      obtain ⟨x, hx⟩ : ∃ x, x = A[i] := ⟨_, rfl⟩
      have HX2 := hid (all_back (c := 4) (show A[i]? = some x by rw [hx]; exact List.getElem?_eq_getElem hil))
      rw [<- hx] at c2
      have e9 : IntKind.i64.wrap ((i : Int) - 1) = (i : Int) - 1 := by unfold IntKind.wrap IntKind.bits IntKind.signed; simp; omega
      clear hx hil hq
      by_cases hxc : x = 4
      ·subst hxc
       have HR := hid (HE.out.trans (HX2.out.trans (by rw [beq_self_eq_true, Bool.and_true])))
       go_wp2
       go_roundw
       case rel => exact ⟨i, _, rfl, by omega, by omega, trivial, HR⟩
       case measure => simp [intOf]
      ·have HR := hid (show rsfN A C = true by rw [HV.out, HE.out, HX2.out, beq_eq_false_iff_ne.2 hxc, Bool.and_false, Bool.not_false])
       go_wp2
       go_ret
       exact ⟨by rw [HR.out]; simp [*], HB5.out⟩
  ·rw [if_neg (by simp [d2]), if_neg (by simp)] at HV
   go_wp2
   go_ret
   exact ⟨by rw [HV.out]; rfl, HB5.out⟩
 ·rw [if_neg (by simp [d1])] at HV
  by_cases d3 : pv = 13
  ·subst d3
   by_cases d4 : qv = 13
   ·subst d4
    rw [if_pos ⟨rfl, rfl⟩] at HV
    go_wp2_with fail
    go_loopw [13] (fun y wr => ∃ (j : Nat) (q : Int), y = .int .i64 q /\ q = (j : Int) - 1 /\ j <= n /\ wr = w5 /\ Hid (((A.take (n)).all fun x => x == 13) = ((A.take j).all fun x => x == 13))) (fun y _ => (intOf y + 1).toNat)
    case atStart => exact ⟨n, _, rfl, by omega, by omega, rfl, hid rfl⟩
    case round =>
     obtain ⟨j, q, rfl, hq, hj, rfl, HE⟩ := hrel
     by_cases hj0 : j = 0
     ·have q0 : ¬ (0 : Int) <= q := by omega
      have HR := hid (show rsfN A C = false by rw [HV.out, HE.out, hj0, List.take_zero]; rfl)
      go_wp2
      go_ret
      exact ⟨by rw [HR.out]; simp [*], HB5.out⟩
     ·have q0 : (0 : Int) <= q := by omega
      obtain ⟨i, rfl⟩ : ∃ i : Nat, j = i + 1 := ⟨j - 1, by omega⟩
      obtain rfl : q = (i : Int) := by omega
      have q1 : (i : Int) < (n : Int) := by omega
      have hil : i < A.length := by rw [<- HN.out]; omega
      obtain ⟨a2, ha2, c2⟩ := rdi_int HIA5.out hil
      cases ha2
      obtain ⟨x, hx⟩ : ∃ x, x = A[i] := ⟨_, rfl⟩
      have HX2 := hid (all_back (c := 13) (show A[i]? = some x by rw [hx]; exact List.getElem?_eq_getElem hil))
      rw [<- hx] at c2
      have e9 : IntKind.i64.wrap ((i : Int) - 1) = (i : Int) - 1 := by unfold IntKind.wrap IntKind.bits IntKind.signed; simp; omega
      clear hx hil hq
      by_cases hxc : x = 13
      ·subst hxc
       have HR := hid (HE.out.trans (HX2.out.trans (by rw [beq_self_eq_true, Bool.and_true])))
       go_wp2
       go_roundw
       case rel => exact ⟨i, _, rfl, by omega, by omega, trivial, HR⟩
       case measure => simp [intOf]
      ·have HR := hid (show rsfN A C = true by rw [HV.out, HE.out, HX2.out, beq_eq_false_iff_ne.2 hxc, Bool.and_false, Bool.not_false])
       go_wp2
       go_ret
       exact ⟨by rw [HR.out]; simp [*], HB5.out⟩
   ·rw [if_neg (by simp [d4])] at HV
    go_wp2
    go_ret
    exact ⟨by rw [HV.out]; rfl, HB5.out⟩
  ·rw [if_neg (by simp [d3])] at HV
   go_wp2
   go_ret
   exact ⟨by rw [HV.out]; rfl, HB5.out⟩
end Go.Proofs.YtbajepdkgeldlaaGreatDoor.Br
