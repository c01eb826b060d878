/- The contract of Lines (package wrap). -/
import Derived.Test.YtkopefljnhgdkaaGreatDoorWpEvn
import Derived.Test.YtkopefljnhgdkaaGreatDoorWpGr
namespace Go.Proofs.YtkopefljnhgdkaaGreatDoor
open Go.RowKit Go.Shelf

/-- What Lines answers where Check has no error. -/
structure LnP (W : Wr) (L : List Bx) (es : List Int) : Prop where
  gr : W.ho = 0 → GrL W L 0 es
  ev : W.ho = 1 → ∃ T, Good W L T 0 ∧ EvL L T 0 es
/-- Lines, at any boxes: the error of Check, or the lines in a row of their own. -/
def LnQ (w : World) (W : Wr) (L : List Bx) (e : Ending) (w' : World) : Prop :=
  (∃ (es : List Int) (eo : Option Addr) (el ec : Nat), e = .returned (.tuple #[.slice eo el ec, .int .i64 (chk W L).1]) ∧ el = es.length ∧ w'.ownsRow w.heap.size 3 1 (.slice eo el ec) el (i64s es) ∧ ((chk W L).1 ≠ 0 → es = []) ∧ ((chk W L).1 = 0 → LnP W L es)) ∧ Below w.heap.size w w'
set_option maxHeartbeats 2000000 in
theorem lines_any (lo : Option Addr) (n c : Nat) (wd fi re ho : Int) (L : List Bx) (w : World) (hn : n = L.length) (hr : RdB w lo L) :
    Calls Tryz.prog 9 #[.slice lo n c, .agg #[.int .i64 wd, .int .i64 fi, .int .i64 re, .int .i64 ho]] w fun e w' => LnQ w ⟨wd, fi, re, ho⟩ L e w' := by
  have HS := hid (Wrs.new w wd fi re ho)
  have HB := hid (below_box (w := w) (o := .cells #[.int .i64 wd, .int .i64 fi, .int .i64 re, .int .i64 ho] 24))
  have HR := hid (hr.below HB.out)
  have HN := hid hn
  clear hr hn
  obtain ⟨c0, c1, c2, c3⟩ := HS.out.cell
  by_cases he : (chk ⟨wd, fi, re, ho⟩ L).1 = 0
  · have HOK := hid (chk_ok he)
    have hho := HOK.out.ho
    dsimp only at hho
    have HE := hid he
    clear he
    rcases hho with rfl | rfl
    · go_enter Tryz.func9, Tryz.ntmps9
      go_wp2_with fail
      refine (check_any lo n c wd fi re 0 L _ HN.out HR.out).mono ?_
      rintro e w1 ⟨rfl, be1⟩
      have HS1 := hid (HS.out.kept be1)
      have HB1 := hid (HB.out.trans (be1.mono HB.out.size))
      have HR1 := hid (HR.out.below be1)
      obtain ⟨d0, d1, d2, d3⟩ := HS1.out.cell
      rw [HE.out]
      obtain ⟨k0, k1, k2, k3⟩ := (HS1.out.kept (below_box (o := .cells #[.slice lo n c, .int .i64 wd, .int .i64 fi, .int .i64 re, .int .i64 0] 56))).cell
      have HR2 := hid (HR1.out.below (below_box (o := .cells #[.slice lo n c, .int .i64 wd, .int .i64 fi, .int .i64 re, .int .i64 0] 56)))
      have HB2 := hid (HB1.out.trans ((below_box (o := .cells #[.slice lo n c, .int .i64 wd, .int .i64 fi, .int .i64 re, .int .i64 0] 56)).mono HB1.out.size))
      clear be1 c0 c1 c2 c3
      go_wp2_with fail
      refine (greedy_any lo n c wd fi re 0 L _ HN.out HR2.out HOK.out).mono ?_
      rintro e w2 ⟨es, eo, el, ec, rfl, hel, how, hgr, be2⟩
      have HEL := hid hel
      have HOW := hid how
      have HGR := hid hgr
      have HB3 := hid (HB2.out.trans (be2.mono HB2.out.size))
      have hsz := HB2.out.size
      clear hel how hgr be2 d0 d1 d2 d3 k0 k1 k2 k3
      go_wp2
      go_ret2
      exact ⟨⟨es, eo, el, ec, by rw [HE.out]; rfl, HEL.out, own_mono' HOW.out hsz, fun h => absurd HE.out h, fun _ => ⟨fun _ => HGR.out, fun h => by cases h⟩⟩, HB3.out⟩
    · go_enter Tryz.func9, Tryz.ntmps9
      go_wp2_with fail
      refine (check_any lo n c wd fi re 1 L _ HN.out HR.out).mono ?_
      rintro e w1 ⟨rfl, be1⟩
      have HS1 := hid (HS.out.kept be1)
      have HB1 := hid (HB.out.trans (be1.mono HB.out.size))
      have HR1 := hid (HR.out.below be1)
      obtain ⟨d0, d1, d2, d3⟩ := HS1.out.cell
      rw [HE.out]
      obtain ⟨k0, k1, k2, k3⟩ := (HS1.out.kept (below_box (o := .cells #[.slice lo n c, .int .i64 wd, .int .i64 fi, .int .i64 re, .int .i64 1] 56))).cell
      have HR2 := hid (HR1.out.below (below_box (o := .cells #[.slice lo n c, .int .i64 wd, .int .i64 fi, .int .i64 re, .int .i64 1] 56)))
      have HB2 := hid (HB1.out.trans ((below_box (o := .cells #[.slice lo n c, .int .i64 wd, .int .i64 fi, .int .i64 re, .int .i64 1] 56)).mono HB1.out.size))
      clear be1 c0 c1 c2 c3
      go_wp2_with fail
      refine (even_any lo n c wd fi re 1 L _ HN.out HR2.out HOK.out).mono ?_
      rintro e w2 ⟨T, es, eo, el, ec, rfl, hel, how, hgd, hev, be2⟩
      have HEL := hid hel
      have HOW := hid how
      have HGD := hid hgd
      have HEV := hid hev
      have HB3 := hid (HB2.out.trans (be2.mono HB2.out.size))
      have hsz := HB2.out.size
      clear hel how hgd hev be2 d0 d1 d2 d3 k0 k1 k2 k3
      go_wp2
      go_ret2
      exact ⟨⟨es, eo, el, ec, by rw [HE.out]; rfl, HEL.out, own_mono' HOW.out hsz, fun h => absurd HE.out h, fun _ => ⟨fun h => (by cases h), fun _ => ⟨T, HGD.out, HEV.out⟩⟩⟩, HB3.out⟩
  · have HE := hid he
    obtain ⟨z, hz⟩ : ∃ z, z = (chk ⟨wd, fi, re, ho⟩ L).1 := ⟨_, rfl⟩
    have b1 : (z != 0) = true := by rw [hz]; exact bne_iff_ne.2 he
    have HZ := hid hz
    clear he hz
    go_enter Tryz.func9, Tryz.ntmps9
    go_wp2_with fail
    refine (check_any lo n c wd fi re ho L _ HN.out HR.out).mono ?_
    rintro e w1 ⟨rfl, be1⟩
    rw [← HZ.out]
    have HB1 := hid (HB.out.trans (be1.mono HB.out.size))
    clear be1
    go_wp2
    go_ret2
    exact ⟨⟨[], none, 0, 0, by rw [← HZ.out]; rfl, rfl, own_nil _ _ _ _, fun _ => rfl, fun h => absurd h HE.out⟩, HB1.out⟩
end Go.Proofs.YtkopefljnhgdkaaGreatDoor
