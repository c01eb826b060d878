/- The walk of WrapWider. -/
import Derived.Test.YtkopefljnhgdkaaDoorWpFew
namespace Go.Proofs.YtkopefljnhgdkaaDoor
open Go.RowKit Go.Shelf

set_option maxHeartbeats 1000000 in
set_option maxRecDepth 100000 in
/-- Two lists that are the same. -/
theorem ints_same (ao bo : Option Addr) (n ac bc : Nat) (l : List Int) (w : World) (ha : RdI w ao l) (hb : RdI w bo l) (hn : n = l.length) (hl : n ≤ 1000000) :
    Calls Tryd.prog 14 #[.slice ao n ac, .slice bo n bc] w fun e w' => e = .returned (.bool true) ∧ Below w.heap.size w w' := by
  have HA := hid ha
  have HB := hid hb
  have HN := hid hn
  clear ha hb hn
  go_enter Tryd.func14, Tryd.ntmps14
  go_wp2
  go_loopw [5] (fun i wr => ∃ k : Nat, k ≤ n ∧ i = .int .i64 k ∧ Hid (Below w.heap.size w wr)) (fun i _ => n - (intOf i).toNat)
  case atStart => exact ⟨0, by omega, rfl, Below.refl _ _⟩
  case round =>
    obtain ⟨k, hk, rfl, HBr⟩ := hrel
    by_cases hlt : k < n
    · have hkl : k < l.length := by have := HN.out; omega
      obtain ⟨a, rfl, _, a0⟩ := HA.out.below HBr.out k l[k] (List.getElem?_eq_getElem hkl)
      obtain ⟨b, rfl, _, b0⟩ := HB.out.below HBr.out k l[k] (List.getElem?_eq_getElem hkl)
      obtain ⟨x, hx⟩ : ∃ x, l[k] = x := ⟨_, rfl⟩
      rw [hx] at a0 b0
      have i3 : (k : Int) < (n : Int) := by omega
      have i0 : (0 : Int) ≤ (k : Int) := by omega
      have xx : (x != x) = false := bne_eq_false_iff_eq.2 rfl
      clear hx hkl
      go_wp2_with fail
      go_quiet (fail)
      go_wp2
      go_roundw
      case rel => exact ⟨k + 1, by omega, by go_num, below_drN HBr.out _⟩
      case measure => simp [intOf]; omega
    · have i3 : ¬ (k : Int) < (n : Int) := by omega
      go_wp2
      go_ret
      exact ⟨rfl, HBr.out⟩
set_option maxHeartbeats 1000000 in
theorem gfits_any (lo : Option Addr) (n c : Nat) (wd fi re ho : Int) (L : List Bx) (eo : Option Addr) (el ec : Nat) (es : List Int) (w : World) (hn : n = L.length) (hr : RdB w lo L) (hel : el = es.length) (hre : RdI w eo es) (hbig : el ≤ 17592186044416) (hok : (chk ⟨wd, fi, re, ho⟩ L).1 = 0) (hb : Brk ⟨wd, fi, re, ho⟩ L 0 es) :
    Calls Tryd.prog 13 #[.slice lo n c, .agg #[.int .i64 wd, .int .i64 fi, .int .i64 re, .int .i64 ho], .slice eo el ec] w fun e w' => e = .returned (.bool (cst ⟨wd, fi, re, ho⟩ L 0 es == 0)) ∧ Below w.heap.size w w' := by
  have HS := hid (Wrs.new w wd fi re ho)
  have HB := hid (below_box (w := w) (o := .cells #[.int .i64 wd, .int .i64 fi, .int .i64 re, .int .i64 ho] 24))
  have HC := hid (costs_any lo n c wd fi re ho L eo el ec es _ hn (hr.below HB.out) hel (hre.below HB.out) hbig)
  have HBK := hid (And.intro hok hb)
  clear hn hr hel hre hok hb
  obtain ⟨c0, c1, c2, c3⟩ := HS.out.cell
  go_enter Tryd.func13, Tryd.ntmps13
  go_wp2_with fail
  refine HC.out.mono ?_
  rintro e w2 ⟨⟨y, b, rfl, hb, hy⟩, be2⟩
  have hbt : b = true := hb.2 HBK.out
  subst hbt
  rw [if_pos rfl] at hy
  have HY := hid hy
  have HB2 := hid (HB.out.trans (be2.mono HB.out.size))
  clear hb hy be2
  cases hq : (y == 0) with
  | true =>
    go_wp2
    go_ret
    exact ⟨by rw [← HY.out, hq]; rfl, HB2.out⟩
  | false =>
    go_wp2
    go_ret
    exact ⟨by rw [← HY.out, hq]; rfl, HB2.out⟩
theorem i64_low {z : Int} (h : (Lit.int .i64 z).wf = true) : -9223372036854775808 ≤ z := by
  simp only [Lit.wf, Bool.and_eq_true, decide_eq_true_eq] at h
  exact h.1
theorem Wrs.setW {W : World} {B : Nat} {wd fi re ho : Int} (h : Wrs W B wd fi re ho) (z : Int) : Wrs (W.setCell ⟨B, 0, none⟩ (.int .i64 z)) B z fi re ho := heap_setCell_same W B 0 _ _ _ h
/-- The even way has the lines of the greedy one, if that has one a paragraph and costs nothing. -/
theorem even_is {wd fi re : Int} {L : List Bx} (o : Okb ⟨wd, fi, re, 1⟩ L) {gb gc : List Int} (hb : Brk ⟨wd, fi, re, 1⟩ L 0 gb) (hl : gb.length = pars L 0 L.length) (h0 : cst ⟨wd, fi, re, 1⟩ L 0 gb = 0) {T : Nat → Way} (hT : Good ⟨wd, fi, re, 1⟩ L T 0) (hc : EvL L T 0 gc) : gc = gb := by
  obtain ⟨c1, c2, c3⟩ := evl_is hT hc
  have h1 := good_least hT gb 0 hb
  have h2 := o.cost gc 0 c1
  have h3 := brk_pars gc 0 c1
  rw [Nat.sub_zero] at h3
  refine brk_same gc gb 0 c1 hb ?_ ?_
  · rw [Nat.sub_zero]; omega
  · rw [Nat.sub_zero]; exact hl
set_option maxHeartbeats 8000000 in
theorem wider_main (lo : Option Addr) (n c : Nat) (wd fi re ho mo : Int) (L : List Bx) (w : World) (hwd : -9223372036854775808 ≤ wd) (hn : n = L.length) (hr : RdB w lo L) (htb : Ev.Tbs tabs w) :
    Calls Tryd.prog 6 #[.slice lo n c, .agg #[.int .i64 wd, .int .i64 fi, .int .i64 re, .int .i64 ho], .int .i64 mo] w fun e w' => e = .returned (.bool true) ∧ Below w.heap.size w w' := by
  have HTB := hid (fun W (h : Below w.heap.size w W) => lives W (tbs_below htb h))
  clear htb
  have hcase : 40 < n ∨ (¬ 40 < n ∧ mo < 0) ∨ (¬ 40 < n ∧ ¬ mo < 0 ∧ 100000 < mo) ∨ (¬ 40 < n ∧ ¬ mo < 0 ∧ ¬ 100000 < mo ∧ 100000 - mo < wd) ∨ (¬ 40 < n ∧ ¬ mo < 0 ∧ ¬ 100000 < mo ∧ ¬ 100000 - mo < wd) := by omega
  rcases hcase with h1 | ⟨h1, h2⟩ | ⟨h1, h2, h3⟩ | ⟨h1, h2, h3, h4⟩ | ⟨h1, h2, h3, h4⟩
  rotate_left 4
  · have j1 : ¬ (40 : Int) < (n : Int) := by omega
    have HN := hid hn
    have HR0 := hid hr
    have hn40 : n ≤ 40 := by omega
    clear hn hr h1
    go_enter Tryd.func6, Tryd.ntmps6
    go_wp2_with fail
    have HB := hid (below_box (w := w) (o := .cells #[.int .i64 wd, .int .i64 fi, .int .i64 re, .int .i64 0] 24))
    have HS := hid (Wrs.new w wd fi re 0)
    refine (lines_any lo n c wd fi re 0 L _ HN.out (HR0.out.below HB.out)).mono ?_
    rintro e w1 ⟨⟨ga, gao, gal, gac, rfl, hgl, hgo, hne, hok⟩, be1⟩
    have HGL := hid hgl
    have HOK := hid hok
    have HB1 := hid (HB.out.trans (be1.mono HB.out.size))
    have HS1 := hid (HS.out.kept be1)
    obtain ⟨d0, d1, d2, d3⟩ := HS1.out.cell
    have f0 := HS1.out.frz 0
    obtain ⟨z1, hz1⟩ : ∃ z, z = (chk ⟨wd, fi, re, 0⟩ L).1 := ⟨_, rfl⟩
    have HZ1 := hid hz1
    rw [← hz1]
    have e1 : IntKind.i64.wrap (wd + mo) = wd + mo := by rw [IntKind.wrap_i64]; omega
    have HS2 := hid (HS1.out.setW (wd + mo))
    obtain ⟨k0, k1, k2, k3⟩ := HS2.out.cell
    have HB2 := hid (show Below w.heap.size w (w1.setCell ⟨w.heap.size, 0, none⟩ (.int .i64 (wd + mo))) from HB1.out.setCell (p := ⟨w.heap.size, 0, none⟩) (by simp) (.int .i64 (wd + mo)))
    clear hgl hgo hne hok be1 hz1
    go_wp2_with fail
    refine (lines_any lo n c (wd + mo) fi re 0 L _ HN.out (HR0.out.below HB2.out)).mono ?_
    rintro e w3 ⟨⟨gb, gbo, gbl, gbc, rfl, hgbl, hgbo, _, hok2⟩, be3⟩
    have HGBL := hid hgbl
    have HOK2 := hid hok2
    have HGBO := hid (show ∀ z : Int, RdI (w3.setCell ⟨w.heap.size, 3, none⟩ (.int .i64 z)) gbo gb from fun z => rdi_own (own_same hgbo (fun k hk hkl => heap_setCell_other _ ⟨w.heap.size, 3, none⟩ k _ (fun e => by
      have e' : k = w.heap.size := e
      have h1 := (hgbo.lt k hk).1
      have h2 := HS2.out.lt
      omega))))
    have HB3 := hid (HB2.out.trans (be3.mono HB2.out.size))
    have HS3 := hid (HS2.out.kept be3)
    clear d0 d1 d2 d3 k0 k1 k2 k3 f0
    obtain ⟨d0, d1, d2, d3⟩ := HS3.out.cell
    obtain ⟨z2, hz2⟩ : ∃ z, z = (chk ⟨wd + mo, fi, re, 0⟩ L).1 := ⟨_, rfl⟩
    have HZ2 := hid hz2
    rw [← hz2]
    clear hgbl hgbo hok2 be3 hz2
    have hzc : (z1 != 0) = true ∨ (z1 = 0 ∧ (z2 != 0) = true) ∨ (z1 = 0 ∧ z2 = 0) := by
      by_cases a : z1 = 0
      · by_cases b : z2 = 0
        · exact .inr (.inr ⟨a, b⟩)
        · exact .inr (.inl ⟨a, bne_iff_ne.2 b⟩)
      · exact .inl (bne_iff_ne.2 a)
    rcases hzc with q1 | ⟨rfl, q2⟩ | ⟨rfl, rfl⟩
    · go_wp2_with fail
      refine (num_any z1 w3).mono ?_
      rintro e w3' ⟨rfl, hw3⟩
      obtain rfl := hw3.symm
      clear hw3
      go_wp2_with fail
      refine (HTB.out _ HB3.out).mono ?_
      rintro e wz ⟨rfl, bez⟩
      have HBZ := hid (HB3.out.trans (bez.mono HB3.out.size))
      clear bez
      go_wp2
      go_ret
      exact ⟨rfl, HBZ.out⟩
    · go_wp2_with fail
      refine (num_any 0 w3).mono ?_
      rintro e w3' ⟨rfl, hw3⟩
      obtain rfl := hw3.symm
      clear hw3
      go_wp2_with fail
      refine (num_any z2 w3).mono ?_
      rintro e w3' ⟨rfl, hw3⟩
      obtain rfl := hw3.symm
      clear hw3
      go_wp2_with fail
      refine (HTB.out _ HB3.out).mono ?_
      rintro e wz ⟨rfl, bez⟩
      have HBZ := hid (HB3.out.trans (bez.mono HB3.out.size))
      clear bez
      go_wp2
      go_ret
      exact ⟨rfl, HBZ.out⟩
    · have HO1 := hid (chk_ok HZ1.out.symm)
      have HO2 := hid (chk_ok HZ2.out.symm)
      have HGA := hid ((HOK.out HZ1.out.symm).gr rfl)
      have HGB := hid ((HOK2.out HZ2.out.symm).gr rfl)
      have hle : gbl ≤ gal := by
        rw [HGBL.out, HGL.out]
        exact HO2.out.fewest ga 0 (brk_wider (W := ⟨wd, fi, re, 0⟩) (V := ⟨wd + mo, fi, re, 0⟩) (by show wd ≤ wd + mo; omega) rfl rfl ga 0 HGA.out.brk) gb HGB.out
      have hlei : ¬ (gal : Int) < (gbl : Int) := by omega
      have hgb := brk_le gb 0 HGB.out.brk
      have hgb40 : gbl ≤ 40 := by have := HGBL.out; have := HN.out; omega
      clear hgb
      go_wp2_with fail
      refine (num_any 0 w3).mono ?_
      rintro e w3' ⟨rfl, hw3⟩
      obtain rfl := hw3.symm
      clear hw3
      go_wp2_with fail
      refine (num_any 0 w3).mono ?_
      rintro e w3' ⟨rfl, hw3⟩
      obtain rfl := hw3.symm
      clear hw3
      have HRW := hid (HR0.out.below HB3.out)
      clear d0 d1 d2 d3
      go_wp2
      go_loop [11, 12] (fun v11 v12 => ∃ k cn : Nat, v11 = .int .i64 cn ∧ v12 = .int .i64 k ∧ k ≤ n ∧ cn ≤ k ∧ Hid (cn = pars L 0 k)) (fun _ v12 => n - (intOf v12).toNat)
      case atStart => exact ⟨0, 0, rfl, rfl, Nat.zero_le _, Nat.le_refl _, rfl⟩
      case round =>
        obtain ⟨k, cn, rfl, rfl, hk, hcn, HCN⟩ := hrel
        by_cases hlt : k < n
        · have hkl : k < L.length := by have := HN.out; omega
          obtain ⟨a, rfl, ha, a0, a1, a2, a3⟩ := HRW.out.at hkl
          have i0 : (0 : Int) ≤ (k : Int) := by omega
          have i1 : (k : Int) < (n : Int) := by omega
          have HPS := hid (show pars L 0 (k + 1) = cn + (if en L k = true then 1 else 0) by rw [pars, ← HCN.out, Nat.zero_add])
          cases hm : (bx L k).m with
          | true =>
            have HP2 := hid (show cn + 1 = pars L 0 (k + 1) by rw [HPS.out, if_pos (by unfold en; rw [hm]; rfl)])
            rw [hm] at a3
            clear hm a0 a1 a2 hkl ha
            go_wp2
            go_round
            case rel => exact ⟨k + 1, cn + 1, by go_num, by go_num, by omega, by omega, HP2⟩
            case measure => simp [intOf]; omega
          | false =>
            by_cases hl1 : k + 1 = n
            · have HP2 := hid (show cn + 1 = pars L 0 (k + 1) by rw [HPS.out, if_pos (by unfold en; rw [hm, ← HN.out]; simp [hl1])])
              have b1 : ((k : Int) == (n : Int) - 1) = true := by rw [beq_iff_eq]; omega
              rw [hm] at a3
              clear hm a0 a1 a2 hkl ha hl1
              go_wp2
              go_round
              case rel => exact ⟨k + 1, cn + 1, by go_num, by go_num, by omega, by omega, HP2⟩
              case measure => simp [intOf]; omega
            · have HP2 := hid (show cn = pars L 0 (k + 1) by rw [HPS.out, if_neg (by unfold en; rw [hm, ← HN.out]; simp [hl1])]; rfl)
              have b1 : ((k : Int) == (n : Int) - 1) = false := by rw [beq_eq_false_iff_ne]; omega
              rw [hm] at a3
              clear hm a0 a1 a2 hkl ha hl1
              go_wp2
              go_round
              case rel => exact ⟨k + 1, cn, rfl, by go_num, by omega, by omega, HP2⟩
              case measure => simp [intOf]; omega
        · have i1 : ¬ (k : Int) < (n : Int) := by omega
          have HPN := hid (show cn = pars L 0 L.length by rw [HCN.out]; congr 1; have := HN.out; omega)
          have hpb := brk_pars gb 0 HGB.out.brk
          rw [Nat.sub_zero, ← HPN.out] at hpb
          have hpb2 : cn ≤ gbl := by have := HGBL.out; omega
          clear hpb
          by_cases hq : gbl = cn
          · have b1 : ((gbl : Int) == (cn : Int)) = true := by rw [beq_iff_eq]; omega
            have HQ := hid hq
            have f3 := HS3.out.frz 3
            have HS4 := hid (HS3.out.set 1)
            have HB4 := hid (show Below w.heap.size w (w3.setCell ⟨w.heap.size, 3, none⟩ (.int .i64 1)) from HB3.out.setCell (p := ⟨w.heap.size, 3, none⟩) (by simp) (.int .i64 1))
            obtain ⟨k0, k1, k2, k3⟩ := HS4.out.cell
            obtain ⟨d0, d1, d2, d3⟩ := HS3.out.cell
            have HO4 := hid (HO2.out.how 1 (.inr rfl))
            have HCK := hid (show (chk ⟨wd + mo, fi, re, 1⟩ L).1 = 0 by rw [chk_of HO4.out])
            clear hq
            go_wp2_with fail
            refine (lines_any lo n c (wd + mo) fi re 1 L _ HN.out (HR0.out.below HB4.out)).mono ?_
            rintro e w5 ⟨⟨gc, gco, gcl, gcc, rfl, hgcl, hgco, _, hok5⟩, be5⟩
            rw [HCK.out]
            have HEV := hid ((hok5 HCK.out).ev rfl)
            have HGCL := hid hgcl
            have HRC := hid (rdi_own hgco)
            have HB5 := hid (HB4.out.trans (be5.mono HB4.out.size))
            have HRB5 := hid ((HGBO.out 1).below be5)
            have HS5 := hid (HS4.out.kept be5)
            have HBK := hid (show Brk ⟨wd + mo, fi, re, 1⟩ L 0 gb from brk_how HGB.out.brk)
            have HSAME := hid (show cst ⟨wd + mo, fi, re, 1⟩ L 0 gb = 0 → gc = gb from fun h0 => by
              obtain ⟨T, h1, h2⟩ := HEV.out
              exact even_is HO4.out HBK.out (by rw [← HGBL.out, ← HPN.out, HQ.out]) h0 h1 h2)
            clear hgcl hgco hok5 be5 k0 k1 k2 k3 d0 d1 d2 d3 f3
            obtain ⟨k0, k1, k2, k3⟩ := HS5.out.cell
            go_wp2_with fail
            refine (num_any 0 w5).mono ?_
            rintro e w3' ⟨rfl, hw3⟩
            obtain rfl := hw3.symm
            clear hw3
            go_wp2_with fail
            refine (gfits_any lo n c (wd + mo) fi re 1 L gbo gbl gbc gb w5 HN.out (HR0.out.below HB5.out) HGBL.out HRB5.out (by omega) HCK.out HBK.out).mono ?_
            rintro e w6 ⟨rfl, be6⟩
            have HB6 := hid (HB5.out.trans (be6.mono HB5.out.size))
            have HRB6 := hid (HRB5.out.below be6)
            have HRC6 := hid (HRC.out.below be6)
            clear be6 k0 k1 k2 k3
            cases hcz : (cst ⟨wd + mo, fi, re, 1⟩ L 0 gb == 0) with
            | false =>
              go_wp2_with fail
              refine (num_any 0 w6).mono ?_
              rintro e w3' ⟨rfl, hw3⟩
              obtain rfl := hw3.symm
              clear hw3
              go_wp2_with fail
              refine (HTB.out _ HB6.out).mono ?_
              rintro e wz ⟨rfl, bez⟩
              have HBZ := hid (HB6.out.trans (bez.mono HB6.out.size))
              clear bez
              go_wp2
              go_ret
              exact ⟨rfl, HBZ.out⟩
            | true =>
              have hsm := HSAME.out (beq_iff_eq.1 hcz)
              subst hsm
              have hgcl2 : gcl = gbl := by rw [HGCL.out, HGBL.out]
              subst hgcl2
              clear hcz
              go_wp2_with fail
              refine (ints_same gco gbo gcl gcc gbc gc w6 HRC6.out HRB6.out HGCL.out (by omega)).mono ?_
              rintro e w7 ⟨rfl, be7⟩
              have HB7 := hid (HB6.out.trans (be7.mono HB6.out.size))
              clear be7
              go_wp2_with fail
              refine (HTB.out _ HB7.out).mono ?_
              rintro e wz ⟨rfl, bez⟩
              have HBZ := hid (HB7.out.trans (bez.mono HB7.out.size))
              clear bez
              go_wp2
              go_ret
              exact ⟨rfl, HBZ.out⟩
          · have b1 : ((gbl : Int) == (cn : Int)) = false := by rw [beq_eq_false_iff_ne]; omega
            have b2 : (cn : Int) < (gbl : Int) := by omega
            clear hq
            go_wp2_with fail
            refine (HTB.out _ HB3.out).mono ?_
            rintro e wz ⟨rfl, bez⟩
            have HBZ := hid (HB3.out.trans (bez.mono HB3.out.size))
            clear bez
            go_wp2
            go_ret
            exact ⟨rfl, HBZ.out⟩
  all_goals
    have HB := hid (below_box (w := w) (o := .cells #[.int .i64 wd, .int .i64 fi, .int .i64 re, .int .i64 ho] 24))
    first | (have j1 : (40 : Int) < (n : Int) := by omega) | (have j1 : ¬ (40 : Int) < (n : Int) := by omega)
    clear h1 hn hr
    go_enter Tryd.func6, Tryd.ntmps6
    go_wp2_with fail
    refine (HTB.out _ HB.out).mono ?_
    rintro e wz ⟨rfl, bez⟩
    have HBZ := hid (HB.out.trans (bez.mono HB.out.size))
    clear bez
    go_wp2
    go_ret
    exact ⟨rfl, HBZ.out⟩
end Go.Proofs.YtkopefljnhgdkaaDoor
