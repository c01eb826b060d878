/- The contract of Parse (package runes). -/
import Derived.Test.YtfahbdlcokoghabGreatDoorItem
namespace Go.Proofs.YtfahbdlcokoghabGreatDoor
open Go.RowKit

theorem itm_le (l : List UInt8) (p : Nat) (hp : p ≤ l.length) : (itm l p).2.1 ≤ l.length ∧ ((itm l p).2.2 = 0 → p < (itm l p).2.1) ∧ 0 ≤ (itm l p).2.2 ∧ (itm l p).2.2 ≤ 33 := by
  obtain ⟨b1, b2, b3, b4, b5, b6⟩ := spl_le l p hp
  unfold itm itmF
  split
  · exact ⟨b1, fun h => b4 h, b5, b6⟩
  · rename_i h0
    have h0' : (spl l p).2.2 = 0 := Classical.not_not.1 h0
    split
    · have := b4 h0'
      refine ⟨?_, ?_, ?_, ?_⟩ <;> (dsimp only; omega)
    · rename_i h1
      have hn : ¬ (spl l p).2.1 = l.length := fun e => h1 (.inl e)
      obtain ⟨d1, d2, d3, d4, d5, d6⟩ := spl_le l ((spl l p).2.1 + 1) (by omega)
      have hb4 := b4 h0'
      split
      · exact ⟨d1, fun h => by have := d4 h; dsimp only; omega, d5, d6⟩
      · rename_i h2
        have h2' : (spl l ((spl l p).2.1 + 1)).2.2 = 0 := Classical.not_not.1 h2
        have hd4 := d4 h2'
        split
        · refine ⟨?_, ?_, ?_, ?_⟩ <;> (dsimp only; omega)
        · refine ⟨?_, ?_, ?_, ?_⟩ <;> (dsimp only; omega)

theorem ownsRow_below {w w' : World} {base : Nat} {e : TypeId} {size : Nat} {v : Value} {n : Nat} {xs : List Value} (h : w.ownsRow base e size v n xs) (hb : Below w.heap.size w w') : w'.ownsRow base e size v n xs := by
  refine ⟨h.1, ?_⟩
  rcases h.2 with h0 | ⟨g, cap, cur, hv, hbg, hg, hr⟩
  · exact .inl h0
  · exact .inr ⟨g, cap, cur, hv, hbg, (hb.block g (Array.getElem?_eq_some_iff.1 hg).1).trans hg, hr⟩
/-- What Parse answers: the list, the error and its place. -/
def parF : Nat → List UInt8 → Nat → List Rg → List Rg × Int × Nat
  | 0, _, _, _ => ([], 0, 0)
  | f + 1, l, p, acc =>
    if p = l.length then (nrm acc, 0, 0)
    else if l.getD p 0 = 32 then parF f l (p + 1) acc
    else if (itm l p).2.2 ≠ 0 then ([], (itm l p).2.2, (itm l p).2.1)
    else if (itm l p).2.1 < l.length ∧ l.getD (itm l p).2.1 0 ≠ 32 then ([], 21, (itm l p).2.1)
    else parF f l (itm l p).2.1 (acc ++ [(itm l p).1])
def par (l : List UInt8) : List Rg × Int × Nat := parF (l.length + 1) l 0 []
/-- Reading so far. -/
def Prs (l : List UInt8) (p : Nat) (acc : List Rg) : Prop := ∃ f, l.length - p < f ∧ parF f l p acc = par l
theorem Prs.start (l : List UInt8) : Prs l 0 [] := ⟨l.length + 1, by omega, rfl⟩
theorem Prs.done {l : List UInt8} {p : Nat} {acc : List Rg} (h : Prs l p acc) (hp : p = l.length) : par l = (nrm acc, 0, 0) := by
  obtain ⟨f, h1, h2⟩ := h
  obtain ⟨f, rfl⟩ : ∃ f', f = f' + 1 := ⟨f - 1, by omega⟩
  rw [← h2, parF, if_pos hp]
theorem Prs.blank {l : List UInt8} {p : Nat} {acc : List Rg} (h : Prs l p acc) (hp : p < l.length) (hb : l.getD p 0 = 32) : Prs l (p + 1) acc := by
  obtain ⟨f, h1, h2⟩ := h
  obtain ⟨f, rfl⟩ : ∃ f', f = f' + 1 := ⟨f - 1, by omega⟩
  rw [parF, if_neg (by omega), if_pos hb] at h2
  exact ⟨f, by omega, h2⟩
theorem Prs.wrong {l : List UInt8} {p : Nat} {acc : List Rg} (h : Prs l p acc) (hp : p < l.length) (hb : l.getD p 0 ≠ 32) (he : (itm l p).2.2 ≠ 0) : par l = ([], (itm l p).2.2, (itm l p).2.1) := by
  obtain ⟨f, h1, h2⟩ := h
  obtain ⟨f, rfl⟩ : ∃ f', f = f' + 1 := ⟨f - 1, by omega⟩
  rw [← h2, parF, if_neg (by omega), if_neg hb, if_pos he]
theorem Prs.stuck {l : List UInt8} {p : Nat} {acc : List Rg} (h : Prs l p acc) (hp : p < l.length) (hb : l.getD p 0 ≠ 32) (he : (itm l p).2.2 = 0) (hs : (itm l p).2.1 < l.length ∧ l.getD (itm l p).2.1 0 ≠ 32) : par l = ([], 21, (itm l p).2.1) := by
  obtain ⟨f, h1, h2⟩ := h
  obtain ⟨f, rfl⟩ : ∃ f', f = f' + 1 := ⟨f - 1, by omega⟩
  rw [← h2, parF, if_neg (by omega), if_neg hb, if_neg (fun e => e he), if_pos hs]
theorem Prs.more {l : List UInt8} {p : Nat} {acc : List Rg} (h : Prs l p acc) (hp : p < l.length) (hb : l.getD p 0 ≠ 32) (he : (itm l p).2.2 = 0) (hs : ¬ ((itm l p).2.1 < l.length ∧ l.getD (itm l p).2.1 0 ≠ 32)) : Prs l (itm l p).2.1 (acc ++ [(itm l p).1]) := by
  obtain ⟨f, h1, h2⟩ := h
  obtain ⟨f, rfl⟩ : ∃ f', f = f' + 1 := ⟨f - 1, by omega⟩
  have hm := (itm_le l p (by omega)).2.1 he
  rw [parF, if_neg (by omega), if_neg hb, if_neg (fun e => e he), if_neg hs] at h2
  exact ⟨f, by omega, h2⟩

set_option maxHeartbeats 2000000 in
set_option maxRecDepth 100000 in
theorem parse_any (l : List UInt8) (w : World) (hl : l.length ≤ 100000) (hT : Lib.Utf8Tabs 3 4 w) (h2 : 5 ≤ w.heap.size) :
    Calls Tryz.prog 7 #[.string ⟨l.toArray⟩] w fun e w' => ∃ v, e = .returned (.tuple #[v, .int .i64 (par l).2.1, .int .i64 ((par l).2.2 : Nat)]) ∧ w'.ownsRow w.heap.size 33 2 v (par l).1.length (rgcs (par l).1) ∧ Below w.heap.size w w' := by
  obtain ⟨i0, hi, hz0, hz1, hz2⟩ := info_parts Tryz.info33
  have HSZ := hid (show (⟨l.toArray⟩ : ByteArray).size = l.length by show l.toArray.size = _; simp)
  have HT := hid hT
  clear hT
  go_enter Tryz.func7, Tryz.ntmps7
  go_wp2
  go_step3
  go_wp2
  go_step3
  go_wp2
  go_loopw [5, 6] (fun v x wq => ∃ (p : Nat) (acc : List Rg), p ≤ l.length ∧ x = .int .i64 p ∧ Hid (wq.ownsRow w.heap.size 33 2 v acc.length (rgcs acc)) ∧ Hid (Prs l p acc) ∧ acc.length ≤ p ∧ Hid (Below w.heap.size w wq)) (fun _ x _ => l.length + 1 - (intOf x).toNat)
  case atStart => exact ⟨0, [], by omega, rfl, World.ownsRow_nil _ _ _ _, Prs.start l, by simp, Below.refl _ _⟩
  case round =>
    obtain ⟨p, acc, hp, rfl, HO, HP, hac, HB⟩ := hrel
    obtain ⟨wo, hwo⟩ : ∃ wo, wo = wr := ⟨_, rfl⟩
    rw [← hwo] at HO HB ⊢
    clear hwo
    go_wp2
    go_loopw [6] (fun x wq => ∃ q : Nat, p ≤ q ∧ q ≤ l.length ∧ x = .int .i64 q ∧ Hid (Prs l q acc) ∧ wq = wo) (fun x _ => l.length + 1 - (intOf x).toNat)
    case atStart => exact ⟨p, by omega, hp, rfl, HP, rfl⟩
    case round =>
      obtain ⟨q, hpq, hq, rfl, HQ, hw⟩ := hrel
      obtain rfl := hw.symm
      by_cases c1 : q = l.length
      · have HD := hid (HQ.out.done c1)
        obtain ⟨so, sc, hv, hrd⟩ := rdr_row HO.out
        subst hv
        have HN := hid (norm_any so sc acc wo hrd (by omega))
        subst c1
        clear hrd
        go_wp2_with fail
        refine HN.out.mono ?_
        rintro e w1 ⟨v1, rfl, o1, hb1⟩
        have HO1 := hid o1
        have HB1 := hid (HB.out.trans (hb1.mono HB.out.size))
        clear o1 hb1 HN
        go_wp2
        try rw [Exit.noGoto_ret]
        go_ret3
        refine ⟨v1, ?_, ?_, HB1.out⟩
        · rw [HD.out]; rfl
        · rw [HD.out]; exact ownsRow_base2 HO1.out HB.out.size
      · have hlt : q < l.length := by omega
        have c1' : ((q : Int) == (l.length : Int)) = false := beq_eq_false_iff_ne.2 (by omega)
        have hszq : q < (⟨l.toArray⟩ : ByteArray).size := by rw [HSZ.out]; exact hlt
        have hbq : (⟨l.toArray⟩ : ByteArray)[q]'hszq = l[q] := rfl
        have hgd : l.getD q 0 = l[q] := by simp [List.getD, List.getElem?_eq_getElem hlt]
        by_cases c2 : l[q] = 32
        · have HQ2 := hid (HQ.out.blank hlt (hgd.trans c2))
          rw [c2] at hbq
          clear hgd c2
          go_wp2
          go_roundw
          case rel => exact ⟨q + 1, by omega, by omega, by go_num, HQ2, trivial⟩
          case measure => simp [intOf]; omega
        · have hg2 : l.getD q 0 ≠ 32 := by rw [hgd]; exact c2
          have HW := hid (HQ.out.wrong hlt hg2)
          have HS := hid (HQ.out.stuck hlt hg2)
          have HM := hid (HQ.out.more hlt hg2)
          have hbs := HB.out.size
          obtain ⟨m1, m2, m3, m4⟩ := itm_le l q hq
          have HI := hid (item_any l q wo hq (by omega) (tabs_below HT.out h2 HB.out) (by omega))
          obtain ⟨c, hc⟩ : ∃ c, c = l[q] := ⟨_, rfl⟩
          rw [← hc] at hbq c2
          have c2' : ((c.toNat : Int) == 32) = false := beq_eq_false_iff_ne.2 (fun e => c2 (UInt8.toNat_inj.1 (by show c.toNat = 32; omega)))
          obtain ⟨y, hy⟩ : ∃ y, y = itm l q := ⟨_, rfl⟩
          rw [← hy] at HW HS HM HI m1 m2 m3 m4
          clear hy hc hgd hg2 c2
          obtain ⟨⟨g0, g1⟩, nx, er⟩ := y
          dsimp only at m1 m2 m3 m4 HW HS HM
          go_wp2_with fail
          refine HI.out.mono ?_
          rintro e w1 ⟨rfl, hb1⟩
          have HB1 := hid (HB.out.trans (hb1.mono hbs))
          have hbs1 := hb1.size
          have HO1 := hid (ownsRow_below HO.out hb1)
          clear hb1 HI
          unfold itt
          dsimp only
          by_cases c3 : er = 0
          · subst c3
            have m2' := m2 rfl
            by_cases c4 : nx < l.length
            · have hszn : nx < (⟨l.toArray⟩ : ByteArray).size := by rw [HSZ.out]; exact c4
              have hbn : (⟨l.toArray⟩ : ByteArray)[nx]'hszn = l[nx] := rfl
              have hgn : l.getD nx 0 = l[nx] := by simp [List.getD, List.getElem?_eq_getElem c4]
              by_cases c5 : l[nx] = 32
              · have HM2 := hid (HM.out rfl (fun h => h.2 (hgn.trans c5)))
                rw [c5] at hbn
                clear HW HS HM hgn c5
                have c4' : (nx : Int) < (l.length : Int) := by omega
                go_wp2_with (at_builtin; refine wpList_append_own _ rfl _ _ 22 rfl w.heap.size 33 i0 (.agg #[.int .i32 0, .int .i32 0]) 2 8 Tryz.underlying22 hi hz0 hz1 hz2 rfl (by decide) _ acc.length (rgcs acc) rfl ((HO1.out.alloc _).alloc _) ⟨w1.heap.size + 1, 0, none⟩ 1 1 (rgc (g0, g1)) rfl rfl ?c1 ?c2 ?c3 ?c4 ?c5 ?_)
                case c1 => exact fun j u h => h
                case c2 => exact rgc_one _
                case c3 => unfold maxLen; omega
                case c4 => omega
                case c5 => omega
                intro v2 w2 o2 gr2 _
                have HO2 := hid (show w2.ownsRow w.heap.size 33 2 v2 (acc ++ [(g0, g1)]).length (rgcs (acc ++ [(g0, g1)])) by rw [rgcs_snoc, len_snoc]; exact o2)
                have HB2 := hid (((HB1.out.alloc (by omega) (.cells #[.int .i32 g0, .int .i32 g1] 33)).alloc (by simp; omega) (.cells #[.int .i32 g0, .int .i32 g1] 33)).grown gr2 (by simp; omega) (fun j hj => (HO1.out.lt j hj).1))
                clear o2 gr2
                go_wp2
                go_roundw
                case rel => exact ⟨nx, acc ++ [(g0, g1)], m1, rfl, HO2, HM2, by rw [len_snoc]; omega, HB2⟩
                case measure => simp [intOf]; omega
              · have HS2 := hid (HS.out rfl ⟨c4, by rw [hgn]; exact c5⟩)
                obtain ⟨d, hd⟩ : ∃ d, d = l[nx] := ⟨_, rfl⟩
                rw [← hd] at hbn c5
                have c5' : ((d.toNat : Int) == 32) = false := beq_eq_false_iff_ne.2 (fun e => c5 (UInt8.toNat_inj.1 (by show d.toNat = 32; omega)))
                have c4' : (nx : Int) < (l.length : Int) := by omega
                clear HW HS HM hgn c5 hd
                go_wp2
                try rw [Exit.noGoto_ret]
                go_ret3
                refine ⟨.slice none 0 0, ?_, ?_, HB1.out.alloc (by omega) _⟩
                · rw [HS2.out]; rfl
                · rw [HS2.out]; exact World.ownsRow_nil _ _ _ _
            · have HM2 := hid (HM.out rfl (fun h => c4 h.1))
              clear HW HS HM
              have c4' : ¬ (nx : Int) < (l.length : Int) := by omega
              go_wp2_with (at_builtin; refine wpList_append_own _ rfl _ _ 22 rfl w.heap.size 33 i0 (.agg #[.int .i32 0, .int .i32 0]) 2 8 Tryz.underlying22 hi hz0 hz1 hz2 rfl (by decide) _ acc.length (rgcs acc) rfl ((HO1.out.alloc _).alloc _) ⟨w1.heap.size + 1, 0, none⟩ 1 1 (rgc (g0, g1)) rfl rfl ?c1 ?c2 ?c3 ?c4 ?c5 ?_)
              case c1 => exact fun j u h => h
              case c2 => exact rgc_one _
              case c3 => unfold maxLen; omega
              case c4 => omega
              case c5 => omega
              intro v2 w2 o2 gr2 _
              have HO2 := hid (show w2.ownsRow w.heap.size 33 2 v2 (acc ++ [(g0, g1)]).length (rgcs (acc ++ [(g0, g1)])) by rw [rgcs_snoc, len_snoc]; exact o2)
              have HB2 := hid (((HB1.out.alloc (by omega) (.cells #[.int .i32 g0, .int .i32 g1] 33)).alloc (by simp; omega) (.cells #[.int .i32 g0, .int .i32 g1] 33)).grown gr2 (by simp; omega) (fun j hj => (HO1.out.lt j hj).1))
              clear o2 gr2
              go_wp2
              go_roundw
              case rel => exact ⟨nx, acc ++ [(g0, g1)], m1, rfl, HO2, HM2, by rw [len_snoc]; omega, HB2⟩
              case measure => simp [intOf]; omega
          · have HW2 := hid (HW.out c3)
            have c3' : (er == 0) = false := beq_eq_false_iff_ne.2 c3
            clear HW HS HM
            go_wp2
            try rw [Exit.noGoto_ret]
            go_ret3
            refine ⟨.slice none 0 0, ?_, ?_, HB1.out.alloc (by omega) _⟩
            · rw [HW2.out]; rfl
            · rw [HW2.out]; exact World.ownsRow_nil _ _ _ _
end Go.Proofs.YtfahbdlcokoghabGreatDoor

