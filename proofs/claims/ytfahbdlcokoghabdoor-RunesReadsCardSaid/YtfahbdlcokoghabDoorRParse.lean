/- The contract of the document's Parse. -/
import Derived.Test.YtfahbdlcokoghabDoorRSpell
import Derived.Test.YtfahbdlcokoghabDoorRNorm
namespace Go.Proofs.YtfahbdlcokoghabDoor
open Go.RowKit

theorem rspell_ok (l : List UInt8) (p : Nat) (w : World) (hp : p ≤ l.length) (hl : l.length ≤ 100000) (a : Int) (n : Nat) (h : spl l p = (a, n, 0)) :
    Calls Tryd.prog 24 #[.string ⟨l.toArray⟩, .int .i64 p] w fun e w' => e = .returned (.tuple #[.int .i32 a, .int .i64 (n : Nat), .int .i64 0, .int .i64 0]) ∧ Below w.heap.size w w' := by
  have := rspelling_any l p w hp hl
  unfold rsp at this
  rw [h, if_pos rfl] at this
  exact this
theorem rspell_no (l : List UInt8) (p : Nat) (w : World) (hp : p ≤ l.length) (hl : l.length ≤ 100000) (a : Int) (n : Nat) (er : Int) (h : spl l p = (a, n, er)) (he : er ≠ 0) :
    Calls Tryd.prog 24 #[.string ⟨l.toArray⟩, .int .i64 p] w fun e w' => e = .returned (.tuple #[.int .i32 0, .int .i64 0, .int .i64 er, .int .i64 (n : Nat)]) ∧ Below w.heap.size w w' := by
  have := rspelling_any l p w hp hl
  unfold rsp at this
  rw [h, if_neg he] at this
  exact this
theorem rspell_at (l : List UInt8) (p : Nat) (z : Int) (hz : z = (p : Int)) (w : World) (Q : Ending → World → Prop) (h : Calls Tryd.prog 24 #[.string ⟨l.toArray⟩, .int .i64 p] w Q) : Calls Tryd.prog 24 #[.string ⟨l.toArray⟩, .int .i64 z] w Q := by
  subst hz; exact h

set_option maxHeartbeats 4000000 in
set_option maxRecDepth 100000 in
theorem rparse_any (l : List UInt8) (w : World) (hl : l.length ≤ 100000) :
    Calls Tryd.prog 14 #[.string ⟨l.toArray⟩] w fun e w' => ∃ v, e = .returned (.tuple #[v, .int .i64 (par l).2.1, .int .i64 ((par l).2.2 : Nat)]) ∧ w'.ownsRow w.heap.size 46 2 v (par l).1.length (rgcs (par l).1) ∧ Below w.heap.size w w' := by
  obtain ⟨i0, hi, hz0, hz1, hz2⟩ := info_parts Tryd.info46
  have HSZ := hid (show (⟨l.toArray⟩ : ByteArray).size = l.length by show l.toArray.size = _; simp)
  go_enter Tryd.func14, Tryd.ntmps14
  go_wp2
  go_loopw [5, 6, 7, 8, 9, 10, 11, 12] (fun v x _ _ _ _ _ _ wq => ∃ (p : Nat) (acc : List Rg), p ≤ l.length ∧ x = .int .i64 p ∧ Hid (wq.ownsRow w.heap.size 46 2 v acc.length (rgcs acc)) ∧ Hid (Prs l p acc) ∧ acc.length ≤ p ∧ Hid (Below w.heap.size w wq)) (fun _ x _ _ _ _ _ _ _ => l.length + 1 - (intOf x).toNat)
  case atStart => exact ⟨0, [], by omega, rfl, World.ownsRow_nil _ _ _ _, Prs.start l, by simp, Below.refl _ _⟩
  case round =>
    obtain ⟨p, acc, hp, rfl, HO, HP, hac, HB⟩ := hrel
    obtain ⟨wo, hwo⟩ : ∃ wo, wo = wr := ⟨_, rfl⟩
    rw [← hwo] at HO HB ⊢
    clear hwo
    have hbs := HB.out.size
    go_wp2
    go_loopw [6] (fun x wq => ∃ q : Nat, p ≤ q ∧ q ≤ l.length ∧ x = .int .i64 q ∧ Hid (Prs l q acc) ∧ wq = wo) (fun x _ => l.length + 1 - (intOf x).toNat)
    case atStart => exact ⟨p, by omega, hp, rfl, HP, rfl⟩
    case round =>
      obtain ⟨q, hpq, hq, rfl, HQ, hw⟩ := hrel
      obtain rfl := hw.symm
      by_cases c1 : q = l.length
      · have HD := hid (HQ.out.done c1)
        obtain ⟨so, sc, hv, hrd⟩ := rdr_row HO.out
        subst hv
        have HN := hid (rnorm_any so sc acc wo hrd (by omega))
        subst c1
        clear hrd
        go_wp2_with fail
        refine HN.out.mono ?_
        rintro e w1 ⟨v1, rfl, o1, hb1⟩
        have HO1 := hid o1
        have HB1 := hid (HB.out.trans (hb1.mono HB.out.size))
        clear o1 hb1 HN
        go_wp2
        try rw [Exit.noGoto_ret]
        go_ret3
        refine ⟨v1, ?_, ?_, HB1.out⟩
        · rw [HD.out]; rfl
        · rw [HD.out]; exact ownsRow_base2 HO1.out HB.out.size
      · have hlt : q < l.length := by omega
        have c1' : ((q : Int) == (l.length : Int)) = false := beq_eq_false_iff_ne.2 (by omega)
        have c1'' : (q : Int) < (l.length : Int) := by omega
        have hszq : q < (⟨l.toArray⟩ : ByteArray).size := by rw [HSZ.out]; exact hlt
        have hbq : (⟨l.toArray⟩ : ByteArray)[q]'hszq = l[q] := rfl
        have hgd : l.getD q 0 = l[q] := by simp [List.getD, List.getElem?_eq_getElem hlt]
        by_cases c2 : l[q] = 32
        · have HQ2 := hid (HQ.out.blank hlt (hgd.trans c2))
          rw [c2] at hbq
          clear hgd c2
          go_wp2
          go_roundw
          case rel => exact ⟨q + 1, by omega, by omega, by go_num, HQ2, trivial⟩
          case measure => simp [intOf]; omega
        · have hg2 : l.getD q 0 ≠ 32 := by rw [hgd]; exact c2
          have hI := itm_le l q hq
          have hS := spl_le l q hq
          obtain ⟨c, hc⟩ : ∃ c, c = l[q] := ⟨_, rfl⟩
          rw [← hc] at hbq c2
          have c2' : ((c.toNat : Int) == 32) = false := beq_eq_false_iff_ne.2 (fun e => c2 (UInt8.toNat_inj.1 (by show c.toNat = 32; omega)))
          obtain ⟨lo, nx, er, hsp⟩ : ∃ a b d, spl l q = (a, b, d) := ⟨_, _, _, rfl⟩
          rw [hsp] at hS
          obtain ⟨s1, s2, s3, s4, s5, s6⟩ := hS
          dsimp only at s1 s2 s3 s4 s5 s6
          clear hc hgd c2 HP
          by_cases c3 : er = 0
          · subst c3
            have s4' := s4 rfl
            have HSP := hid (fun W => rspell_ok l q W hq hl lo nx hsp)
            clear s4
            go_wp2_with fail
            refine (HSP.out _).mono ?_
            rintro e w1 ⟨rfl, hb1⟩
            have HB1 := hid (HB.out.trans (hb1.mono hbs))
            have hbs1 := hb1.size
            have HO1 := hid (ownsRow_below HO.out hb1)
            clear hb1 HSP
            by_cases k1 : nx = l.length ∨ l.getD nx 0 ≠ 45
            · have HIT := hid (show itm l q = ((lo, lo), nx, 0) by unfold itm itmF; rw [hsp]; simp only [ne_eq, not_true, if_false]; rw [if_pos k1])
              have m1 : nx ≤ l.length := s1
              by_cases k2 : nx < l.length
              · have hszx : nx < (⟨l.toArray⟩ : ByteArray).size := by rw [HSZ.out]; exact k2
                have hbx : (⟨l.toArray⟩ : ByteArray)[nx]'hszx = l[nx] := rfl
                have hgx : l.getD nx 0 = l[nx] := by simp [List.getD, List.getElem?_eq_getElem k2]
                obtain ⟨y, hy⟩ : ∃ y, y = l[nx] := ⟨_, rfl⟩
                have k3 : y ≠ 45 := fun e => by rcases k1 with h | h; omega; exact h (hgx.trans (hy.symm.trans e))
                have k3' : ((y.toNat : Int) == 45) = false := beq_eq_false_iff_ne.2 (fun e => k3 (UInt8.toNat_inj.1 (by show y.toNat = 45; omega)))
                have k2' : (nx : Int) < (l.length : Int) := by omega
                have k9 : ¬ lo < lo := by omega
                clear k1 hgx k3 hsp hI
                rw [← hy] at hbx
                have HM := hid (HQ.out.more hlt hg2 (by rw [HIT.out]))
                have HS := hid (HQ.out.stuck hlt hg2 (by rw [HIT.out]))
                rw [HIT.out] at HM HS
                dsimp only at HM HS

                have c4' : (nx : Int) < (l.length : Int) := by omega
                have hgn : l.getD nx 0 = y := by rw [hy]; simp [List.getD, List.getElem?_eq_getElem k2]
                by_cases c5 : y = 32
                · have HM2 := hid (HM.out (fun h => h.2 (hgn.trans c5)))
                  clear HS HM hgn HIT HQ hy
                  subst c5
                  go_wp2_with (at_builtin; refine wpList_append_own _ rfl _ _ 22 rfl w.heap.size 46 i0 (.agg #[.int .i32 0, .int .i32 0]) 2 8 Tryd.underlying22 hi hz0 hz1 hz2 rfl (by decide) _ acc.length (rgcs acc) rfl (HO1.out.alloc _) ⟨w1.heap.size, 0, none⟩ 1 1 (rgc (lo, lo)) rfl rfl ?c1 ?c2 ?c3 ?c4 ?c5 ?_)
                  case c1 => exact app_news w1 (lo, lo) _ rfl
                  case c2 => exact rgc_one _
                  case c3 => unfold maxLen; omega
                  case c4 => omega
                  case c5 => simp; omega
                  intro v2 w2 o2 gr2 _
                  have HO2 := hid (show w2.ownsRow w.heap.size 46 2 v2 (acc ++ [(lo, lo)]).length (rgcs (acc ++ [(lo, lo)])) by rw [rgcs_snoc, len_snoc]; exact o2)
                  have HB2 := hid ((HB1.out.alloc (by omega) (.cells #[.int .i32 lo, .int .i32 lo] 46)).grown gr2 (by simp; omega) (fun j hj => (HO1.out.lt j hj).1))
                  clear o2 gr2
                  go_wp2
                  go_roundw
                  case rel => exact ⟨nx, acc ++ [(lo, lo)], m1, rfl, HO2, HM2, by rw [len_snoc]; omega, HB2⟩
                  case measure => simp [intOf]; omega
                · have HS2 := hid (HS.out ⟨k2, by rw [hgn]; exact c5⟩)
                  have c5' : ((y.toNat : Int) != 32) = true := bne_iff_ne.2 (fun e => c5 (UInt8.toNat_inj.1 (by show y.toNat = 32; omega)))
                  clear HS HM hgn c5 hy HIT HQ
                  go_wp2
                  try rw [Exit.noGoto_ret]
                  go_ret3
                  refine ⟨.slice none 0 0, ?_, ?_, HB1.out⟩
                  · rw [HS2.out]; rfl
                  · rw [HS2.out]; exact World.ownsRow_nil _ _ _ _
              · have k2' : ¬ (nx : Int) < (l.length : Int) := by omega
                have k9 : ¬ lo < lo := by omega
                clear k1 hsp hI
                have HM := hid (HQ.out.more hlt hg2 (by rw [HIT.out]))
                rw [HIT.out] at HM
                dsimp only at HM
                have HM2 := hid (HM.out (fun h => k2 h.1))
                clear HM HIT HQ
                go_wp2_with (at_builtin; refine wpList_append_own _ rfl _ _ 22 rfl w.heap.size 46 i0 (.agg #[.int .i32 0, .int .i32 0]) 2 8 Tryd.underlying22 hi hz0 hz1 hz2 rfl (by decide) _ acc.length (rgcs acc) rfl (HO1.out.alloc _) ⟨w1.heap.size, 0, none⟩ 1 1 (rgc (lo, lo)) rfl rfl ?c1 ?c2 ?c3 ?c4 ?c5 ?_)
                case c1 => exact app_news w1 (lo, lo) _ rfl
                case c2 => exact rgc_one _
                case c3 => unfold maxLen; omega
                case c4 => omega
                case c5 => simp; omega
                intro v2 w2 o2 gr2 _
                have HO2 := hid (show w2.ownsRow w.heap.size 46 2 v2 (acc ++ [(lo, lo)]).length (rgcs (acc ++ [(lo, lo)])) by rw [rgcs_snoc, len_snoc]; exact o2)
                have HB2 := hid ((HB1.out.alloc (by omega) (.cells #[.int .i32 lo, .int .i32 lo] 46)).grown gr2 (by simp; omega) (fun j hj => (HO1.out.lt j hj).1))
                clear o2 gr2
                go_wp2
                go_roundw
                case rel => exact ⟨nx, acc ++ [(lo, lo)], m1, rfl, HO2, HM2, by rw [len_snoc]; omega, HB2⟩
                case measure => simp [intOf]; omega
            · have hne : ¬ nx = l.length := fun e => k1 (.inl e)
              have k2 : nx < l.length := by omega
              have hszx : nx < (⟨l.toArray⟩ : ByteArray).size := by rw [HSZ.out]; exact k2
              have hgx : l.getD nx 0 = l[nx] := by simp [List.getD, List.getElem?_eq_getElem k2]
              have hbx : (⟨l.toArray⟩ : ByteArray)[nx]'hszx = 45 := hgx.symm.trans (Classical.not_not.1 fun e => k1 (.inr e))
              have k2' : (nx : Int) < (l.length : Int) := by omega
              obtain ⟨hi2, ny, e2, hsp2⟩ : ∃ a b d, spl l (nx + 1) = (a, b, d) := ⟨_, _, _, rfl⟩
              have hS2 := spl_le l (nx + 1) (by omega)
              rw [hsp2] at hS2
              obtain ⟨u1, u2, u3, u4, u5, u6⟩ := hS2
              dsimp only at u1 u2 u3 u4 u5 u6
              by_cases k4 : e2 = 0
              · subst k4
                have u4' := u4 rfl
                have HSP2 := hid (fun W => rspell_at l (nx + 1) ((nx : Int) + 1) (by omega) W _ (rspell_ok l (nx + 1) W (by omega) hl hi2 ny hsp2))
                have m1 : ny ≤ l.length := u1
                by_cases k5 : hi2 < lo
                · have HIT := hid (show itm l q = ((0, 0), q, 20) by unfold itm itmF; rw [hsp]; simp only [ne_eq, not_true, if_false]; rw [if_neg k1, hsp2, if_neg (by exact fun h => h rfl), if_pos k5])
                  have HW := hid (HQ.out.wrong hlt hg2 (by rw [HIT.out]; exact (by decide : (20 : Int) ≠ 0)))
                  rw [HIT.out] at HW
                  clear k1 hgx hsp hsp2 hI u4 HIT HQ
                  go_wp2_with fail
                  refine (HSP2.out _).mono ?_
                  rintro e w2 ⟨rfl, hb2⟩
                  have HB2 := hid (HB1.out.trans (hb2.mono (by omega)))
                  clear hb2 HSP2
                  go_wp2
                  try rw [Exit.noGoto_ret]
                  go_ret3
                  refine ⟨.slice none 0 0, ?_, ?_, HB2.out⟩
                  · rw [HW.out]; rfl
                  · rw [HW.out]; exact World.ownsRow_nil _ _ _ _
                · have HIT := hid (show itm l q = ((lo, hi2), ny, 0) by unfold itm itmF; rw [hsp]; simp only [ne_eq, not_true, if_false]; rw [if_neg k1, hsp2, if_neg (by exact fun h => h rfl), if_neg k5])
                  have s4 : q < ny := by omega
                  clear k1 hgx hsp hsp2 hI u4
                  obtain ⟨w0, hw0⟩ : ∃ w0, w0 = w1 := ⟨_, rfl⟩
                  rw [← hw0]
                  rw [← hw0] at HB1 HO1 hbs1
                  clear hw0 w1
                  have HB0 := hid HB1.out
                  have HO0 := hid HO1.out
                  have hbs0 := hbs1
                  clear HB1 HO1 hbs1
                  go_wp2_with fail
                  refine (HSP2.out _).mono ?_
                  rintro e w1 ⟨rfl, hb2⟩
                  have HB1 := hid (HB0.out.trans (hb2.mono (by omega)))
                  have hbs1 : wo.heap.size ≤ w1.heap.size := by have := hb2.size; omega
                  have HO1 := hid (ownsRow_below HO0.out hb2)
                  clear hb2 HSP2 HB0 HO0 hbs0
                  have HM := hid (HQ.out.more hlt hg2 (by rw [HIT.out]))
                  have HS := hid (HQ.out.stuck hlt hg2 (by rw [HIT.out]))
                  rw [HIT.out] at HM HS
                  dsimp only at HM HS
                  by_cases c4 : ny < l.length
                  · have hszn : ny < (⟨l.toArray⟩ : ByteArray).size := by rw [HSZ.out]; exact c4
                    have hbn : (⟨l.toArray⟩ : ByteArray)[ny]'hszn = l[ny] := rfl
                    have hgn : l.getD ny 0 = l[ny] := by simp [List.getD, List.getElem?_eq_getElem c4]
                    have c4' : (ny : Int) < (l.length : Int) := by omega
                    by_cases c5 : l[ny] = 32
                    · have HM2 := hid (HM.out (fun h => h.2 (hgn.trans c5)))
                      rw [c5] at hbn
                      clear HS HM hgn c5 HIT HQ
                      go_wp2_with (at_builtin; refine wpList_append_own _ rfl _ _ 22 rfl w.heap.size 46 i0 (.agg #[.int .i32 0, .int .i32 0]) 2 8 Tryd.underlying22 hi hz0 hz1 hz2 rfl (by decide) _ acc.length (rgcs acc) rfl (HO1.out.alloc _) ⟨w1.heap.size, 0, none⟩ 1 1 (rgc (lo, hi2)) rfl rfl ?c1 ?c2 ?c3 ?c4 ?c5 ?_)
                      case c1 => exact app_news w1 (lo, hi2) _ rfl
                      case c2 => exact rgc_one _
                      case c3 => unfold maxLen; omega
                      case c4 => omega
                      case c5 => simp; omega
                      intro v2 w2 o2 gr2 _
                      have HO2 := hid (show w2.ownsRow w.heap.size 46 2 v2 (acc ++ [(lo, hi2)]).length (rgcs (acc ++ [(lo, hi2)])) by rw [rgcs_snoc, len_snoc]; exact o2)
                      have HB2 := hid ((HB1.out.alloc (by omega) (.cells #[.int .i32 lo, .int .i32 hi2] 46)).grown gr2 (by simp; omega) (fun j hj => (HO1.out.lt j hj).1))
                      clear o2 gr2
                      go_wp2
                      go_roundw
                      case rel => exact ⟨ny, acc ++ [(lo, hi2)], m1, rfl, HO2, HM2, by rw [len_snoc]; omega, HB2⟩
                      case measure => simp [intOf]; omega
                    · have HS2 := hid (HS.out ⟨c4, by rw [hgn]; exact c5⟩)
                      obtain ⟨d, hd⟩ : ∃ d, d = l[ny] := ⟨_, rfl⟩
                      rw [← hd] at hbn c5
                      have c5' : ((d.toNat : Int) != 32) = true := bne_iff_ne.2 (fun e => c5 (UInt8.toNat_inj.1 (by show d.toNat = 32; omega)))
                      clear HS HM hgn c5 hd HIT HQ
                      go_wp2
                      try rw [Exit.noGoto_ret]
                      go_ret3
                      refine ⟨.slice none 0 0, ?_, ?_, HB1.out⟩
                      · rw [HS2.out]; rfl
                      · rw [HS2.out]; exact World.ownsRow_nil _ _ _ _
                  · have HM2 := hid (HM.out (fun h => c4 h.1))
                    have c4' : ¬ (ny : Int) < (l.length : Int) := by omega
                    clear HS HM HIT HQ
                    go_wp2_with (at_builtin; refine wpList_append_own _ rfl _ _ 22 rfl w.heap.size 46 i0 (.agg #[.int .i32 0, .int .i32 0]) 2 8 Tryd.underlying22 hi hz0 hz1 hz2 rfl (by decide) _ acc.length (rgcs acc) rfl (HO1.out.alloc _) ⟨w1.heap.size, 0, none⟩ 1 1 (rgc (lo, hi2)) rfl rfl ?c1 ?c2 ?c3 ?c4 ?c5 ?_)
                    case c1 => exact app_news w1 (lo, hi2) _ rfl
                    case c2 => exact rgc_one _
                    case c3 => unfold maxLen; omega
                    case c4 => omega
                    case c5 => simp; omega
                    intro v2 w2 o2 gr2 _
                    have HO2 := hid (show w2.ownsRow w.heap.size 46 2 v2 (acc ++ [(lo, hi2)]).length (rgcs (acc ++ [(lo, hi2)])) by rw [rgcs_snoc, len_snoc]; exact o2)
                    have HB2 := hid ((HB1.out.alloc (by omega) (.cells #[.int .i32 lo, .int .i32 hi2] 46)).grown gr2 (by simp; omega) (fun j hj => (HO1.out.lt j hj).1))
                    clear o2 gr2
                    go_wp2
                    go_roundw
                    case rel => exact ⟨ny, acc ++ [(lo, hi2)], m1, rfl, HO2, HM2, by rw [len_snoc]; omega, HB2⟩
                    case measure => simp [intOf]; omega
              · have HSP2 := hid (fun W => rspell_at l (nx + 1) ((nx : Int) + 1) (by omega) W _ (rspell_no l (nx + 1) W (by omega) hl hi2 ny e2 hsp2 k4))
                have HIT := hid (show itm l q = ((0, 0), ny, e2) by unfold itm itmF; rw [hsp]; simp only [ne_eq, not_true, if_false]; rw [if_neg k1, hsp2]; rw [if_pos k4])
                have HW := hid (HQ.out.wrong hlt hg2 (by rw [HIT.out]; exact k4))
                rw [HIT.out] at HW
                have k4' : (e2 != 0) = true := bne_iff_ne.2 k4
                clear k1 hgx hsp hsp2 hI u4 HIT HQ
                go_wp2_with fail
                refine (HSP2.out _).mono ?_
                rintro e w2 ⟨rfl, hb2⟩
                have HB2 := hid (HB1.out.trans (hb2.mono (by omega)))
                clear hb2 HSP2
                go_wp2
                try rw [Exit.noGoto_ret]
                go_ret3
                refine ⟨.slice none 0 0, ?_, ?_, HB2.out⟩
                · rw [HW.out]; rfl
                · rw [HW.out]; exact World.ownsRow_nil _ _ _ _
          · have HSP := hid (fun W => rspell_no l q W hq hl lo nx er hsp c3)
            have HIT := hid (show itm l q = ((0, 0), nx, er) by unfold itm itmF; rw [hsp]; rw [if_pos c3])
            have HW := hid (HQ.out.wrong hlt hg2 (by rw [HIT.out]; exact c3))
            rw [HIT.out] at HW
            have c3' : (er != 0) = true := bne_iff_ne.2 c3
            clear hsp hI s4 HIT HQ
            go_wp2_with fail
            refine (HSP.out _).mono ?_
            rintro e w1 ⟨rfl, hb1⟩
            have HB1 := hid (HB.out.trans (hb1.mono hbs))
            clear hb1 HSP
            go_wp2
            try rw [Exit.noGoto_ret]
            go_ret3
            refine ⟨.slice none 0 0, ?_, ?_, HB1.out⟩
            · rw [HW.out]; rfl
            · rw [HW.out]; exact World.ownsRow_nil _ _ _ _
end Go.Proofs.YtfahbdlcokoghabDoor
