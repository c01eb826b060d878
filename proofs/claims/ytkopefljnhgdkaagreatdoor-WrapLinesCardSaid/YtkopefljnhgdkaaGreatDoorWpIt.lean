/- The iterator of fitting (package wrap): it hands on the lines that begin with a box and fit, the shorter ones first. -/
import Derived.Test.YtkopefljnhgdkaaGreatDoorWpIt0
namespace Go.Proofs.YtkopefljnhgdkaaGreatDoor
open Go.RowKit Go.Shelf
attribute [local go_sem] Oper.semAt_some

set_option maxHeartbeats 4000000 in
theorem fit_stops (n : Nat) (hn : 1 ≤ n) (Bs Bf : Nat) (lo : Option Addr) (ln lc : Nat) (V : Wr) (L : List Bx) (i : Nat) (F : List (Fe V L i)) (hF : FL V L i F) (w : World) (hR : WfAt Bs Bf lo ln lc V L i w) (hln : ln = L.length) (hi : i ≤ ln) (o : Okb V L) :
    SeqStopsK Fence.wide n Tryz.prog 33 #[.pointer (some ⟨Bs, 0, none⟩), .pointer (some ⟨Bf, 0, none⟩)] encF (KrF (KF Bs Bf lo L)) (fun xs => xs = F) (fun pre => pre <+: F) F.length w := fun lp J Jx W hbW hJ hJx hY h0 => by
  have HRW := hid (hR.below hbW)
  have HF := hid hF.is
  have HO := hid o
  have HN := hid hln
  have hlen : ln ≤ 4096 := hln ▸ o.len
  have hrm := o.room i
  clear hR hbW hF o hln
  obtain ⟨wd, fi, re, ho⟩ := V
  obtain ⟨c0, c1, c2, c3, c4⟩ := HRW.out.sh.cell
  have cf := HRW.out.bf.cell
  dsimp only at c0 c1 c2 c3 c4
  refine callsIn_of_wp Tryz.func33 rfl trivial ?_ rfl
  simp only [Tryz.ntmps33, List.size_toArray, List.length_cons, List.length_nil, Nat.reduceAdd, Nat.reduceSub, Array.replicate_succ, Array.replicate_zero, List.push_toArray, List.append_toArray, List.nil_append, List.cons_append]
  gi_wp2_with fail
  refine ⟨trivial, (callsIn_wide.2 (room_any lo ln lc wd fi re ho L i W HN.out HRW.out.rd hi HO.out)).mono ?_⟩
  rintro e w1 ⟨rfl, be1⟩
  have HJ1 := hid (hJ [] W w1 none h0 (wgrown be1) (fun r e => by cases e))
  have HR1 := hid (HRW.out.below be1)
  have cf1 := HR1.out.bf.cell
  obtain ⟨r, hr⟩ : ∃ r, r = rm ⟨wd, fi, re, ho⟩ L i := ⟨_, rfl⟩
  have HRM := hid hr
  rw [← hr] at hrm
  rw [← hr]
  clear be1 h0 HRW c0 c1 c2 c3 c4 cf hr
  gi_wp2
  gi_loopw [5, 6] (fun va vl wr => ∃ (j : Nat) (z : Int) (pre rest : List (Fe ⟨wd, fi, re, ho⟩ L i)), va = .int .i64 z ∧ vl = .int .i64 j ∧ j ≤ ln ∧ 0 ≤ z ∧ z ≤ 200000 * j ∧ Hid (z = sm L i (j - i)) ∧ Hid (Run L i j) ∧ Hid (rest.map Fe.j = ff ⟨wd, fi, re, ho⟩ L i j) ∧ Hid (F = pre ++ rest) ∧ Hid (J pre wr) ∧ Hid (WfAt Bs Bf lo ln lc ⟨wd, fi, re, ho⟩ L i wr)) (fun _ vl _ => ln - (intOf vl).toNat)
  case atStart => exact ⟨i, 0, [], F, rfl, rfl, hi, Int.le_refl _, by omega, by show (0 : Int) = sm L i (i - i); rw [Nat.sub_self]; rfl, Run.self L i, HF, rfl, HJ1, HR1⟩
  case round =>
    obtain ⟨j, z, pre, rest, rfl, rfl, hj, hz0, hz1, HZ, HRN, HC, HP, HJ, HR⟩ := hrel
    clear cf1 HR1 HJ1 HF
    obtain ⟨c0, c1, c2, c3, c4⟩ := HR.out.sh.cell
    have cf := HR.out.bf.cell
    dsimp only at c0 c1 c2 c3 c4
    by_cases hlt : j < ln
    · have hlti : (j : Int) < (ln : Int) := by omega
      have hjL : j < L.length := by have := HN.out; omega
      have HJL := hid hjL
      obtain ⟨a, rfl, ha, a0, a1, a2, a3⟩ := HR.out.rd.at hjL
      have hw := HO.out.w j
      have hb := HO.out.b j
      have hh := HO.out.hyp j
      have HST := hid (ff_step ⟨wd, fi, re, ho⟩ L i j hjL)
      rw [← HRM.out, ← HZ.out] at HST
      have HSZ := hid (show sz L i j = z + (bx L j).w + hy L j by rw [HZ.out]; rfl)
      have HZ2 := hid (show z + (bx L j).w + (bx L j).b = sm L i (j + 1 - i) by rw [HZ.out]; exact (sm_at L HRN.out.1).symm)
      have HBX := hid (Bxs.new wr (bx L j))
      have bA := below_box (w := wr) (o := .cells #[.int .i64 (bx L j).w, .int .i64 (bx L j).b, .int .i64 (bx L j).h, .bool (bx L j).m] 53)
      have HJA := hid (hJ pre wr _ none HJ.out (wgrown bA) (fun r e => by cases e))
      have HRA := hid (HR.out.below bA)
      have HENA := hid (fun WW (h : RdB WW (some a) L) => ends_any (some a) ln lc wd fi re ho L j WW HN.out h hlt hlen)
      have HHYA := hid (fun WW (h : RdB WW (some a) L) => hyphen_any (some a) ln lc wd fi re ho L j WW HN.out h hlt hlen)
      obtain ⟨x, hx⟩ : ∃ x, x = bx L j := ⟨_, rfl⟩
      rw [← hx] at a0 a1 a2 a3 hw hb HST HSZ HZ2 HBX HJA HRA
      obtain ⟨xw, xb, xh, xm⟩ := x
      dsimp only at a0 a1 a2 a3 hw hb HST HSZ HZ2 HBX HJA HRA
      obtain ⟨d0, d1, d2, d3⟩ := HBX.out.cell
      dsimp only at d0 d1 d2 d3
      obtain ⟨e0, e1, e2, e3, e4⟩ := HRA.out.sh.cell
      have ef := HRA.out.bf.cell
      dsimp only at e0 e1 e2 e3 e4
      obtain ⟨y, hy'⟩ : ∃ y, y = hy L j := ⟨_, rfl⟩
      rw [← hy'] at hh HSZ
      have HY' := hid hy'
      clear hx bA hjL hy'
      by_cases hs : i < j ∧ r < z + xw
      · have i1 : (i : Int) < (j : Int) := by omega
        have i2 : r < z + xw := hs.2
        have HE := hid (show F = pre by
          have h1 := HC.out
          rw [HST.out, if_pos hs] at h1
          rw [HP.out, List.map_eq_nil_iff.1 h1, List.append_nil])
        clear hs
        gi_wp2
        refine bodyPost_ret (results_none rfl _ _ _) rfl ?_
        exact ⟨⟨_, rfl⟩, .inl ⟨_, rfl, by rw [HE.out]; exact HJA.out⟩⟩
      · have HST2 := hid (show ff ⟨wd, fi, re, ho⟩ L i j = (if sz L i j ≤ r ∨ j = i then [j] else []) ++ (if en L j = true then [] else ff ⟨wd, fi, re, ho⟩ L i (j + 1)) by rw [HST.out, if_neg hs])
        have HGT : ¬ (i : Int) < (j : Int) ∨ (i : Int) < (j : Int) ∧ ¬ r < z + xw := by omega
        rcases HGT with g1 | ⟨g1, g2⟩
        all_goals
          gi_wp2_with fail
          refine ⟨trivial, (callsIn_wide.2 (HHYA.out _ HRA.out.rd)).mono ?_⟩
          rintro e w2 ⟨rfl, be2⟩
          rw [← HY'.out]
          have HJ2 := hid (hJ pre _ w2 none HJA.out (wgrown be2) (fun r e => by cases e))
          have HR2 := hid (HRA.out.below be2)
          have HB2 := hid (HBX.out.kept be2)
          obtain ⟨k0, k1, k2, k3, k4⟩ := HR2.out.sh.cell
          have kf := HR2.out.bf.cell
          dsimp only at k0 k1 k2 k3 k4
          clear be2 d0 d1 d2 d3 e0 e1 e2 e3 e4 ef HJA HBX
          have HFT : (z + xw + y ≤ r ∨ ¬ z + xw + y ≤ r ∧ ((j : Int) == (i : Int)) = true) ∨ (¬ z + xw + y ≤ r ∧ ((j : Int) == (i : Int)) = false) := by
            by_cases q1 : z + xw + y ≤ r
            · exact .inl (.inl q1)
            · cases q2 : ((j : Int) == (i : Int)) with
              | true => exact .inl (.inr ⟨q1, rfl⟩)
              | false => exact .inr ⟨q1, rfl⟩
          rcases HFT with hft | ⟨n1, n2⟩
          · have HST3 := hid (show ff ⟨wd, fi, re, ho⟩ L i j = j :: (if en L j = true then [] else ff ⟨wd, fi, re, ho⟩ L i (j + 1)) by
              rw [HST2.out, if_pos (by rw [HSZ.out]; exact hft.elim .inl (fun q => .inr (by have := beq_iff_eq.1 q.2; omega)))]; rfl)
            obtain ⟨x, R, rfl⟩ : ∃ x R, rest = x :: R := by
              cases rest with
              | nil => have h1 := HC.out; rw [HST3.out] at h1; cases h1
              | cons x R => exact ⟨x, R, rfl⟩
            have hx := HC.out
            rw [HST3.out, List.map_cons] at hx
            have HX := hid (List.cons.inj hx).1
            have HRR := hid (List.cons.inj hx).2
            clear hx HC HST HST2 HST3
            have HP2 := hid (show F = (pre ++ [x]) ++ R by rw [HP.out, List.append_assoc]; rfl)
            obtain ⟨fn, tmps, assign, body, hy', hRR⟩ := hY pre x w2 HJ2.out (by rw [HP2.out]; simp)
            dsimp only [encF] at hy'
            rw [HX.out, HSZ.out] at hy'
            clear hY
            rcases hft with q1 | ⟨q1, q2⟩
            all_goals
              gi_wp2
              refine hRR.mono ?_
              rintro e W3 (⟨rfl, hJ3, hk3⟩ | ⟨rfl, hJx3⟩)
              · have HR3 := hid (HR2.out.keeps hk3.size hk3.block)
                have HB3 := hid (show Bxs W3 _ _ from hk3.box _ _ _ HB2.out)
                have HJ3 := hid hJ3
                obtain ⟨l0, l1, l2, l3, l4⟩ := HR3.out.sh.cell
                dsimp only at l0 l1 l2 l3 l4
                clear hJ3 hk3 k0 k1 k2 k3 k4 kf HR2 HB2 HJ2
                gi_wp2_with fail
                refine ⟨trivial, (callsIn_wide.2 (HENA.out _ HR3.out.rd)).mono ?_⟩
                rintro e w4 ⟨rfl, be4⟩
                have HJ4 := hid (hJ (pre ++ [x]) _ w4 none HJ3.out (wgrown be4) (fun r e => by cases e))
                have HR4 := hid (HR3.out.below be4)
                obtain ⟨b0, b1, b2, b3⟩ := (HB3.out.kept be4).cell
                dsimp only at b0 b1 b2 b3
                clear be4 HR3 HB3 HJ3 l0 l1 l2 l3 l4
                cases hen : en L j with
                | true =>
                  have HE := hid (show F = pre ++ [x] by
                    have h1 := HRR.out
                    rw [hen] at h1
                    rw [HP2.out, List.map_eq_nil_iff.1 h1, List.append_nil])
                  gi_wp2
                  refine bodyPost_ret (results_none rfl _ _ _) rfl ?_
                  exact ⟨⟨_, rfl⟩, .inl ⟨_, rfl, by rw [HE.out]; exact HJ4.out⟩⟩
                | false =>
                  have HRR2 := hid (show R.map Fe.j = ff ⟨wd, fi, re, ho⟩ L i (j + 1) by have h1 := HRR.out; rw [hen] at h1; exact h1)
                  have HRN2 := hid (HRN.out.next hen)
                  have hz2 : z + xw + xb ≤ 200000 * ((j + 1 : Nat) : Int) := by omega
                  clear hen
                  gi_wp2
                  go_roundw
                  case rel => exact ⟨j + 1, z + xw + xb, pre ++ [x], R, by congr 1; omega, by go_num, by omega, by omega, hz2, HZ2, HRN2, HRR2, HP2, HJ4, HR4⟩
                  case measure => simp [intOf]; omega
              · have HJX := hid hJx3
                clear hJx3
                gi_wp2
                refine ⟨trivial, ?_⟩
                gi_wp2
                refine bodyPost_ret (results_none rfl _ _ _) rfl ?_
                exact ⟨⟨_, rfl⟩, .inr ⟨pre ++ [x], ⟨R, by rw [HP2.out]⟩, HJX.out⟩⟩
          · have HST3 := hid (show rest.map Fe.j = (if en L j = true then [] else ff ⟨wd, fi, re, ho⟩ L i (j + 1)) by
              rw [HC.out, HST2.out, if_neg (by rw [HSZ.out]; exact fun q => q.elim n1 (fun q => (beq_eq_false_iff_ne.1 n2) (by omega)))]; rfl)
            clear HC HST HST2
            gi_wp2_with fail
            refine ⟨fun _ h => (by cases h), ?_⟩
            gi_wp2_with fail
            refine ⟨trivial, (callsIn_wide.2 (HENA.out _ HR2.out.rd)).mono ?_⟩
            rintro e w4 ⟨rfl, be4⟩
            have HJ4 := hid (hJ pre _ w4 none HJ2.out (wgrown be4) (fun r e => by cases e))
            have HR4 := hid (HR2.out.below be4)
            obtain ⟨b0, b1, b2, b3⟩ := (HB2.out.kept be4).cell
            dsimp only at b0 b1 b2 b3
            clear be4 HR2 HB2 HJ2 k0 k1 k2 k3 k4 kf
            cases hen : en L j with
            | true =>
              have HE := hid (show F = pre by
                have h1 := HST3.out
                rw [hen] at h1
                rw [HP.out, List.map_eq_nil_iff.1 h1, List.append_nil])
              gi_wp2
              refine bodyPost_ret (results_none rfl _ _ _) rfl ?_
              exact ⟨⟨_, rfl⟩, .inl ⟨_, rfl, by rw [HE.out]; exact HJ4.out⟩⟩
            | false =>
              have HRR2 := hid (show rest.map Fe.j = ff ⟨wd, fi, re, ho⟩ L i (j + 1) by have h1 := HST3.out; rw [hen] at h1; exact h1)
              have HRN2 := hid (HRN.out.next hen)
              have hz2 : z + xw + xb ≤ 200000 * ((j + 1 : Nat) : Int) := by omega
              clear hen
              gi_wp2
              go_roundw
              case rel => exact ⟨j + 1, z + xw + xb, pre, rest, by congr 1; omega, by go_num, by omega, by omega, hz2, HZ2, HRN2, HRR2, HP, HJ4, HR4⟩
              case measure => simp [intOf]; omega
    · have hlti : ¬ (j : Int) < (ln : Int) := by omega
      have HE := hid (show F = pre by
        have h1 := HC.out
        rw [ff_end _ _ _ _ (by have := HN.out; omega)] at h1
        rw [HP.out, List.map_eq_nil_iff.1 h1, List.append_nil])
      gi_wp2
      go_end0
      exact ⟨⟨_, rfl⟩, .inl (by rw [HE.out]; exact HJ.out)⟩
end Go.Proofs.YtkopefljnhgdkaaGreatDoor
