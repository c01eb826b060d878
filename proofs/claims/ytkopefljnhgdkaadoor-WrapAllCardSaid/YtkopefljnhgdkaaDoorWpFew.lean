/- The walks of WrapFewest and WrapLeast. -/
import Derived.Test.YtkopefljnhgdkaaDoorWpCo
import Derived.Test.YtkopefljnhgdkaaDoorLiveRun
namespace Go.Proofs.YtkopefljnhgdkaaDoor
open Go.RowKit Go.Shelf

theorem tbs_below {w w' : World} (h : Ev.Tbs tabs w) (hb : Below w.heap.size w w') : Ev.Tbs tabs w' := fun x hx => by
  obtain ⟨c, h1, h2⟩ := h x hx
  exact ⟨c, (hb.block _ (Array.getElem?_eq_some_iff.1 h1).1).trans h1, h2⟩
theorem num_any (e : Int) (w : World) : Calls Tryd.prog 11 #[.int .i64 e] w fun r w' => r = .returned (.int .i64 e) ∧ w' = w := by
  go_enter Tryd.func11, Tryd.ntmps11
  go_wp2
  go_ret
  exact ⟨rfl, rfl⟩
theorem Wrs.set {W : World} {B : Nat} {wd fi re ho : Int} (h : Wrs W B wd fi re ho) (z : Int) : Wrs (W.setCell ⟨B, 3, none⟩ (.int .i64 z)) B wd fi re z := heap_setCell_same W B 3 _ _ _ h
theorem Wrs.frz {W : World} {B : Nat} {wd fi re ho : Int} (h : Wrs W B wd fi re ho) (k : Nat) : W.frozen? ⟨B, k, none⟩ = false := by
  unfold Wrs at h
  simp [World.frozen?, h]
theorem Okb.how {wd fi re ho : Int} {L : List Bx} (o : Okb ⟨wd, fi, re, ho⟩ L) (z : Int) (hz : z = 0 ∨ z = 1) : Okb ⟨wd, fi, re, z⟩ L := ⟨o.wd, o.fi, o.re, hz, o.len, o.w, o.b, o.h⟩
theorem brk_how {wd fi re ho z : Int} {L : List Bx} {t : List Int} {i : Nat} (h : Brk ⟨wd, fi, re, ho⟩ L i t) : Brk ⟨wd, fi, re, z⟩ L i t := brk_wider (W := ⟨wd, fi, re, ho⟩) (V := ⟨wd, fi, re, z⟩) (Int.le_refl _) rfl rfl t i h
theorem cst_how {wd fi re : Int} (ho z : Int) {L : List Bx} : ∀ (t : List Int) (i : Nat), cst ⟨wd, fi, re, ho⟩ L i t = cst ⟨wd, fi, re, z⟩ L i t
  | [], _ => rfl
  | e :: t, i => by
    rw [cst, cst, cst_how ho z t]
    rfl
set_option maxHeartbeats 4000000 in
theorem fewest_main (lo : Option Addr) (n c : Nat) (wd fi re ho : Int) (L : List Bx) (eo : Option Addr) (el ec : Nat) (es : List Int) (w : World) (hn : n = L.length) (hr : RdB w lo L) (hel : el = es.length) (hre : RdI w eo es) (htb : Ev.Tbs tabs w) :
    Calls Tryd.prog 3 #[.slice lo n c, .agg #[.int .i64 wd, .int .i64 fi, .int .i64 re, .int .i64 ho], .slice eo el ec] w fun e w' => e = .returned (.bool true) ∧ Below w.heap.size w w' := by
  have HTB := hid (fun W (h : Below w.heap.size w W) => tbs_below htb h)
  clear htb
  by_cases hbig : 40 < n ∨ 100 < el
  · have HB := hid (below_box (w := w) (o := .cells #[.int .i64 wd, .int .i64 fi, .int .i64 re, .int .i64 ho] 24))
    have hc : 40 < n ∨ ¬ 40 < n ∧ 100 < el := by omega
    clear hbig hn hr hel hre
    rcases hc with h1 | ⟨h1, h2⟩
    all_goals
      have i1 : (40 : Int) < (n : Int) ∨ ¬ (40 : Int) < (n : Int) := Decidable.em _
      first | (have j1 : (40 : Int) < (n : Int) := by omega) | (have j1 : ¬ (40 : Int) < (n : Int) := by omega)
      (try have j2 : (100 : Int) < (el : Int) := by omega)
      clear i1
      go_enter Tryd.func3, Tryd.ntmps3
      go_wp2_with fail
      refine (lives _ (HTB.out _ HB.out)).mono ?_
      rintro e w2 ⟨rfl, be2⟩
      have HB2 := hid (HB.out.trans (be2.mono HB.out.size))
      clear be2
      go_wp2
      go_ret
      exact ⟨rfl, HB2.out⟩
  · have j1 : ¬ (40 : Int) < (n : Int) := by omega
    have j2 : ¬ (100 : Int) < (el : Int) := by omega
    have hel' : el ≤ 100 := by omega
    have HN := hid hn
    have HEL := hid hel
    have HR0 := hid hr
    have HRE0 := hid hre
    clear hbig hn hel hr hre
    go_enter Tryd.func3, Tryd.ntmps3
    go_wp2_with fail
    have HB := hid (below_box (w := w) (o := .cells #[.int .i64 wd, .int .i64 fi, .int .i64 re, .int .i64 0] 24))
    have HS := hid (Wrs.new w wd fi re 0)
    refine (lines_any lo n c wd fi re 0 L _ HN.out (HR0.out.below HB.out)).mono ?_
    rintro e w1 ⟨⟨ga, go, gl, gc, rfl, hgl, _, hne, hok⟩, be1⟩
    have HGL := hid hgl
    have HOK := hid hok
    have HB1 := hid (HB.out.trans (be1.mono HB.out.size))
    obtain ⟨d0, d1, d2, d3⟩ := (HS.out.kept be1).cell
    obtain ⟨z, hz⟩ : ∃ z, z = (chk ⟨wd, fi, re, 0⟩ L).1 := ⟨_, rfl⟩
    have HZ := hid hz
    rw [← hz]
    clear hgl hne hok be1 hz
    go_wp2_with fail
    refine (costs_any lo n c wd fi re 0 L eo el ec es _ HN.out (HR0.out.below HB1.out) HEL.out (HRE0.out.below HB1.out) (by omega)).mono ?_
    rintro e w2 ⟨⟨y, b, rfl, hb, _⟩, be2⟩
    have HBR := hid hb
    have HB2 := hid (HB1.out.trans (be2.mono HB1.out.size))
    clear hb be2 d0 d1 d2 d3
    cases b with
    | false =>
      go_wp2_with fail
      refine (lives _ (HTB.out _ HB2.out)).mono ?_
      rintro e w3 ⟨rfl, be3⟩
      have HB3 := hid (HB2.out.trans (be3.mono HB2.out.size))
      clear be3
      go_wp2
      go_ret
      exact ⟨rfl, HB3.out⟩
    | true =>
      have h1 := HBR.out.1 rfl
      have hz0 : z = 0 := by rw [HZ.out]; exact h1.1
      subst hz0
      have hle : gl ≤ el := by
        rw [HGL.out, HEL.out]
        exact (chk_ok h1.1).fewest es 0 h1.2 ga ((HOK.out h1.1).gr rfl)
      have hlei : (gl : Int) ≤ (el : Int) := by omega
      clear h1
      go_wp2_with fail
      refine (num_any 0 w2).mono ?_
      rintro e w3 ⟨rfl, hw3⟩
      obtain rfl := hw3.symm
      clear hw3
      go_wp2_with fail
      refine (lives _ (HTB.out _ HB2.out)).mono ?_
      rintro e w3 ⟨rfl, be3⟩
      have HB3 := hid (HB2.out.trans (be3.mono HB2.out.size))
      clear be3
      go_wp2
      go_ret
      exact ⟨rfl, HB3.out⟩
set_option maxHeartbeats 4000000 in
theorem least_main (lo : Option Addr) (n c : Nat) (wd fi re ho : Int) (L : List Bx) (eo : Option Addr) (el ec : Nat) (es : List Int) (w : World) (hn : n = L.length) (hr : RdB w lo L) (hel : el = es.length) (hre : RdI w eo es) (htb : Ev.Tbs tabs w) :
    Calls Tryd.prog 4 #[.slice lo n c, .agg #[.int .i64 wd, .int .i64 fi, .int .i64 re, .int .i64 ho], .slice eo el ec] w fun e w' => e = .returned (.bool true) ∧ Below w.heap.size w w' := by
  have HTB := hid (fun W (h : Below w.heap.size w W) => tbs_below htb h)
  clear htb
  by_cases hbig : 40 < n ∨ 100 < el
  · have HB := hid (below_box (w := w) (o := .cells #[.int .i64 wd, .int .i64 fi, .int .i64 re, .int .i64 ho] 24))
    have hc : 40 < n ∨ ¬ 40 < n ∧ 100 < el := by omega
    clear hbig hn hr hel hre
    rcases hc with h1 | ⟨h1, h2⟩
    all_goals
      have i1 : (40 : Int) < (n : Int) ∨ ¬ (40 : Int) < (n : Int) := Decidable.em _
      first | (have j1 : (40 : Int) < (n : Int) := by omega) | (have j1 : ¬ (40 : Int) < (n : Int) := by omega)
      (try have j2 : (100 : Int) < (el : Int) := by omega)
      clear i1
      go_enter Tryd.func4, Tryd.ntmps4
      go_wp2_with fail
      refine (lives _ (HTB.out _ HB.out)).mono ?_
      rintro e w2 ⟨rfl, be2⟩
      have HB2 := hid (HB.out.trans (be2.mono HB.out.size))
      clear be2
      go_wp2
      go_ret
      exact ⟨rfl, HB2.out⟩
  · have j1 : ¬ (40 : Int) < (n : Int) := by omega
    have j2 : ¬ (100 : Int) < (el : Int) := by omega
    have hel' : el ≤ 100 := by omega
    have HN := hid hn
    have HEL := hid hel
    have HR0 := hid hr
    have HRE0 := hid hre
    clear hbig hn hel hr hre
    go_enter Tryd.func4, Tryd.ntmps4
    go_wp2_with fail
    have HB := hid (below_box (w := w) (o := .cells #[.int .i64 wd, .int .i64 fi, .int .i64 re, .int .i64 1] 24))
    have HS := hid (Wrs.new w wd fi re 1)
    refine (lines_any lo n c wd fi re 1 L _ HN.out (HR0.out.below HB.out)).mono ?_
    rintro e w1 ⟨⟨ga, gao, gal, gac, rfl, hgl, hgo, hne, hok⟩, be1⟩
    have HGL := hid hgl
    have HOK := hid hok
    have HB1 := hid (HB.out.trans (be1.mono HB.out.size))
    have HS1 := hid (HS.out.kept be1)
    have HRA := hid (rdi_own hgo)
    obtain ⟨d0, d1, d2, d3⟩ := HS1.out.cell
    by_cases hz : (chk ⟨wd, fi, re, 1⟩ L).1 = 0
    · rw [hz]
      have HO := hid (chk_ok hz)
      obtain ⟨T, hGD, hEV⟩ := (HOK.out hz).ev rfl
      have HGD := hid hGD
      obtain ⟨ev1, ev2, ev3⟩ := evl_is hGD hEV
      have HE1 := hid ev1
      have HE2 := hid ev2
      have HE3 := hid ev3
      have HCK := hid hz
      have hbr := brk_le ga 0 ev1
      have hgal : gal ≤ 40 := by have := HGL.out; have := HN.out; omega
      clear hgl hgo hne hok be1 hz hGD hEV ev1 ev2 ev3 hbr
      go_wp2_with fail
      refine (num_any 0 w1).mono ?_
      rintro e w1' ⟨rfl, hw3⟩
      obtain rfl := hw3.symm
      clear hw3
      go_wp2_with fail
      refine (costs_any lo n c wd fi re 1 L gao gal gac ga _ HN.out (HR0.out.below HB1.out) HGL.out HRA.out (by omega)).mono ?_
      rintro e w2 ⟨⟨y, b, rfl, hb, hy⟩, be2⟩
      have hbt : b = true := hb.2 ⟨HCK.out, HE1.out⟩
      subst hbt
      rw [if_pos rfl, HE2.out] at hy
      have HY := hid hy
      have HB2 := hid (HB1.out.trans (be2.mono HB1.out.size))
      have HS2 := hid (HS1.out.kept be2)
      clear d0 d1 d2 d3
      obtain ⟨d0, d1, d2, d3⟩ := HS2.out.cell
      clear hb be2 hy
      go_wp2_with fail
      refine (costs_any lo n c wd fi re 1 L eo el ec es _ HN.out (HR0.out.below HB2.out) HEL.out (HRE0.out.below HB2.out) (by omega)).mono ?_
      rintro e w3 ⟨⟨y2, b2, rfl, hb2, hy2⟩, be3⟩
      have HB3 := hid (HB2.out.trans (be3.mono HB2.out.size))
      have HS3 := hid (HS2.out.kept be3)
      clear d0 d1 d2 d3
      obtain ⟨d0, d1, d2, d3⟩ := HS3.out.cell
      have HLST := hid (show b2 = true → y < y2 ∨ y = y2 ∧ gal ≤ el from fun h => by
        have h1 := hb2.1 h
        have h2 := good_least HGD.out es 0 h1.2
        rw [if_pos h] at hy2
        rw [hy2, HY.out]
        have := HE3.out
        have := HGL.out
        have := HEL.out
        omega)
      have f3 := HS3.out.frz 3
      have hB3 := HB3.out.size
      have HS4 := hid (HS3.out.set 0)
      have HB4 := hid (show Below w.heap.size w (w3.setCell ⟨w.heap.size, 3, none⟩ (.int .i64 0)) from HB3.out.setCell (p := ⟨w.heap.size, 3, none⟩) (by simp) (.int .i64 0))
      obtain ⟨x0, x1, x2, x3⟩ := HS4.out.cell
      have HFIN := hid (show ∀ W, Below w.heap.size w W → Calls Tryd.prog 8 #[] W fun e w' => e = .returned (.bool true) ∧ Below W.heap.size W w' from fun W h => lives W (HTB.out W h))
      have HO0 := hid (HO.out.how 0 (.inl rfl))
      have HCK0 := hid (show (chk ⟨wd, fi, re, 0⟩ L).1 = 0 by rw [chk_of HO0.out])
      have HGR := hid (fun gb (h : GrL ⟨wd, fi, re, 0⟩ L 0 gb) => show Brk ⟨wd, fi, re, 0⟩ L 0 gb ∧ y ≤ cst ⟨wd, fi, re, 0⟩ L 0 gb ∧ gb.length ≤ ga.length from ⟨h.brk, by
        have h2 := good_least HGD.out gb 0 (brk_how h.brk)
        rw [cst_how 0 1 gb 0, HY.out]
        omega, HO0.out.fewest ga 0 (brk_how HE1.out) gb h⟩)
      have HC : b2 = false ∨ b2 = true ∧ ¬ y2 < y ∧ ((y2 == y) = false ∨ (y2 == y) = true ∧ ¬ (el : Int) < (gal : Int)) := by
        cases b2 with
        | false => exact .inl rfl
        | true =>
          have h := HLST.out rfl
          refine .inr ⟨rfl, by omega, ?_⟩
          cases hq : (y2 == y) with
          | false => exact .inl rfl
          | true => exact .inr ⟨rfl, by have := beq_iff_eq.1 hq; omega⟩
      clear hb2 hy2 be3 HLST
      rcases HC with rfl | ⟨rfl, q1, q2 | ⟨q2, q3⟩⟩
      all_goals
        go_wp2_with fail
        refine (lines_any lo n c wd fi re 0 L _ HN.out (HR0.out.below HB4.out)).mono ?_
        rintro e w5 ⟨⟨gb, gbo, gbl, gbc, rfl, hgbl, hgbo, _, hok2⟩, be5⟩
        rw [HCK0.out]
        have HGB := hid (HGR.out gb ((hok2 HCK0.out).gr rfl))
        have HGBL := hid hgbl
        have HRB := hid (rdi_own hgbo)
        have HB5 := hid (HB4.out.trans (be5.mono HB4.out.size))
        obtain ⟨v0, v1, v2, v3⟩ := (HS4.out.kept be5).cell
        have hgb40 : gbl ≤ 40 := by have h1 := HGB.out.2.2; have := HGL.out; omega
        have hle : (gbl : Int) ≤ (gal : Int) := by have h1 := HGB.out.2.2; have := HGL.out; omega
        clear hgbl hgbo hok2 be5 d0 d1 d2 d3 x0 x1 x2 x3 f3
        go_wp2_with fail
        refine (costs_any lo n c wd fi re 0 L gbo gbl gbc gb _ HN.out (HR0.out.below HB5.out) HGBL.out HRB.out (by omega)).mono ?_
        rintro e w6 ⟨⟨y6, b6, rfl, hb6, hy6⟩, be6⟩
        have hbt6 : b6 = true := hb6.2 ⟨HCK0.out, HGB.out.1⟩
        subst hbt6
        rw [if_pos rfl] at hy6
        have hge : y ≤ y6 := by rw [hy6]; exact HGB.out.2.1
        have HB6 := hid (HB5.out.trans (be6.mono HB5.out.size))
        clear hb6 hy6 be6 v0 v1 v2 v3
        go_wp2_with fail
        refine (num_any 0 w6).mono ?_
        rintro e w6' ⟨rfl, hw3⟩
        obtain rfl := hw3.symm
        clear hw3
        go_wp2_with fail
        refine (HFIN.out _ HB6.out).mono ?_
        rintro e w7 ⟨rfl, be7⟩
        have HB7 := hid (HB6.out.trans (be7.mono HB6.out.size))
        clear be7
        go_wp2
        go_ret
        exact ⟨rfl, HB7.out⟩
    · obtain ⟨z, hz'⟩ : ∃ z, z = (chk ⟨wd, fi, re, 1⟩ L).1 := ⟨_, rfl⟩
      rw [← hz']
      have b1 : (z != 0) = true := by rw [hz']; exact bne_iff_ne.2 hz
      clear hgl hgo hne hok be1 hz hz'
      go_wp2_with fail
      refine (num_any z w1).mono ?_
      rintro e w1' ⟨rfl, hw3⟩
      obtain rfl := hw3.symm
      clear hw3
      go_wp2_with fail
      refine (lives _ (HTB.out _ HB1.out)).mono ?_
      rintro e w2 ⟨rfl, be2⟩
      have HB2 := hid (HB1.out.trans (be2.mono HB1.out.size))
      clear be2
      go_wp2
      go_ret
      exact ⟨rfl, HB2.out⟩
end Go.Proofs.YtkopefljnhgdkaaDoor
