/- The walk of WrapAll. -/
import Derived.Test.YtkopefljnhgdkaaDoorWpAl
namespace Go.Proofs.YtkopefljnhgdkaaDoor
open Go.RowKit Go.Shelf

set_option maxHeartbeats 4000000 in
theorem all_main (lo : Option Addr) (n c : Nat) (wd fi re ho : Int) (L : List Bx) (w : World) (hn : n = L.length) (hr : RdB w lo L) (htb : Ev.Tbs tabs w) :
    Calls Tryd.prog 5 #[.slice lo n c, .agg #[.int .i64 wd, .int .i64 fi, .int .i64 re, .int .i64 ho]] w fun e w' => e = .returned (.bool true) ∧ Below w.heap.size w w' := by
  have HTB := hid (fun W (h : Below w.heap.size w W) => lives W (tbs_below htb h))
  clear htb
  by_cases hbig : 9 < n
  · have HB := hid (below_box (w := w) (o := .cells #[.int .i64 wd, .int .i64 fi, .int .i64 re, .int .i64 ho] 24))
    have j1 : (9 : Int) < (n : Int) := by omega
    clear hbig hn hr
    go_enter Tryd.func5, Tryd.ntmps5
    go_wp2_with fail
    refine (HTB.out _ HB.out).mono ?_
    rintro e w2 ⟨rfl, be2⟩
    have HB2 := hid (HB.out.trans (be2.mono HB.out.size))
    clear be2
    go_wp2
    go_ret
    exact ⟨rfl, HB2.out⟩
  · have j1 : ¬ (9 : Int) < (n : Int) := by omega
    have h9 : n ≤ 9 := by omega
    have HN := hid hn
    have HR0 := hid hr
    clear hbig hn hr
    go_enter Tryd.func5, Tryd.ntmps5
    go_wp2_with fail
    have HB := hid (below_box (w := w) (o := .cells #[.int .i64 wd, .int .i64 fi, .int .i64 re, .int .i64 1] 24))
    have HS := hid (Wrs.new w wd fi re 1)
    refine (lines_any lo n c wd fi re 1 L _ HN.out (HR0.out.below HB.out)).mono ?_
    rintro e w1 ⟨⟨ga, gao, gal, gac, rfl, hgl, hgo, hne, hok⟩, be1⟩
    have HGL := hid hgl
    have HOK := hid hok
    have HB1 := hid (HB.out.trans (be1.mono HB.out.size))
    have HS1 := hid (HS.out.kept be1)
    have HRA := hid (rdi_own hgo)
    obtain ⟨d0, d1, d2, d3⟩ := HS1.out.cell
    by_cases hz : (chk ⟨wd, fi, re, 1⟩ L).1 = 0
    · rw [hz]
      have HO := hid (chk_ok hz)
      obtain ⟨T, hGD, hEV⟩ := (HOK.out hz).ev rfl
      have HGD := hid hGD
      obtain ⟨ev1, ev2, ev3⟩ := evl_is hGD hEV
      have HE1 := hid ev1
      have HE2 := hid ev2
      have HCK := hid hz
      have hbr := brk_le ga 0 ev1
      have hgal : gal ≤ 9 := by have := HGL.out; have := HN.out; omega
      clear hgl hgo hne hok be1 hz hGD hEV ev1 ev2 ev3 hbr
      go_wp2_with fail
      refine (num_any 0 w1).mono ?_
      rintro e w1' ⟨rfl, hw3⟩
      obtain rfl := hw3.symm
      clear hw3
      go_wp2_with fail
      refine (costs_any lo n c wd fi re 1 L gao gal gac ga _ HN.out (HR0.out.below HB1.out) HGL.out HRA.out (by omega)).mono ?_
      rintro e w2 ⟨⟨y, b, rfl, hb, hy⟩, be2⟩
      have hbt : b = true := hb.2 ⟨HCK.out, HE1.out⟩
      subst hbt
      rw [if_pos rfl] at hy
      have HY := hid hy
      have HB2 := hid (HB1.out.trans (be2.mono HB1.out.size))
      have HS2 := hid (HS1.out.kept be2)
      clear d0 d1 d2 d3
      obtain ⟨d0, d1, d2, d3⟩ := HS2.out.cell
      clear hb be2 hy
      go_wp2_with fail
      refine (all_any lo n c wd fi re 1 L HN.out h9 HCK.out n 0 (by omega) (by omega) none 0 0 [] (-1) w2 (HR0.out.below HB2.out) rfl (fun k z hk => by cases hk) (Nat.le_refl _) (fun t ht => ht)).mono ?_
      rintro e w3 ⟨r, rfl, hAR, be3⟩
      have hry : r = y := by
        have h1 := hAR.all ga HE1.out
        rw [List.nil_append, ← HY.out] at h1
        rcases hAR.is with e | ⟨t, h2, h3⟩
        · omega
        · rw [List.nil_append] at h2 h3
          have h4 := good_least HGD.out t 0 h2
          rw [← h3, ← HE2.out, ← HY.out] at h4
          omega
      subst hry
      have HB3 := hid (HB2.out.trans (be3.mono HB2.out.size))
      have b0 : (r == r) = true := beq_iff_eq.2 rfl
      clear hAR be3 d0 d1 d2 d3
      go_wp2_with fail
      refine (HTB.out _ HB3.out).mono ?_
      rintro e w4 ⟨rfl, be4⟩
      have HB4 := hid (HB3.out.trans (be4.mono HB3.out.size))
      clear be4
      go_wp2
      go_ret
      exact ⟨rfl, HB4.out⟩
    · obtain ⟨z, hz'⟩ : ∃ z, z = (chk ⟨wd, fi, re, 1⟩ L).1 := ⟨_, rfl⟩
      rw [← hz']
      have b1 : (z != 0) = true := by rw [hz']; exact bne_iff_ne.2 hz
      clear hgl hgo hne hok be1 hz hz'
      go_wp2_with fail
      refine (num_any z w1).mono ?_
      rintro e w1' ⟨rfl, hw3⟩
      obtain rfl := hw3.symm
      clear hw3
      go_wp2_with fail
      refine (HTB.out _ HB1.out).mono ?_
      rintro e w2 ⟨rfl, be2⟩
      have HB2 := hid (HB1.out.trans (be2.mono HB1.out.size))
      clear be2
      go_wp2
      go_ret
      exact ⟨rfl, HB2.out⟩
end Go.Proofs.YtkopefljnhgdkaaDoor
