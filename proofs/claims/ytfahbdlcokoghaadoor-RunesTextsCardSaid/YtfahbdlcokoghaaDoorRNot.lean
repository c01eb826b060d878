/- The contract of the document's Not. -/
import Derived.Test.YtfahbdlcokoghaaDoorOpsMath
namespace Go.Proofs.YtfahbdlcokoghaaDoor
open Go.RowKit

set_option maxRecDepth 100000 in
set_option maxHeartbeats 3000000 in
theorem rnot_any (ao : Option Addr) (ac : Nat) (l : List Rg) (w : World) (ha : RdR w ao l) (hl : l.length ≤ 100000) :
    Calls Tryd.prog 26 #[.slice ao l.length ac] w fun e w' => ∃ v, e = .returned v ∧ w'.ownsRow w.heap.size 30 2 v (nt l).length (rgcs (nt l)) ∧ Below w.heap.size w w' := by
  obtain ⟨i0, hi, hz0, hz1, hz2⟩ := info_parts Tryd.info30
  have HSO := hid (rnorm_any ao ac l w ha hl)
  clear ha
  go_enter Tryd.func26, Tryd.ntmps26
  go_wp2_with fail
  refine HSO.out.mono ?_
  rintro e Wr ⟨v, rfl, o1, hB⟩
  obtain ⟨so, sc, rfl, hrd⟩ := rdr_row o1
  have HNT := hid (show ntF 0 (nrm l) = nt l from rfl)
  have hsl := nrm_len l
  have HNF := hid (nrm_nf l)
  obtain ⟨s, hs⟩ : ∃ s, nrm l = s := ⟨_, rfl⟩
  rw [hs] at HNT HNF hrd hsl ⊢
  have HRD := hid hrd
  have HB0 := hid hB
  have hws := hB.size
  have hs5 : s.length ≤ 100000 := by omega
  clear hrd hB HSO hsl o1 hs
  go_wp2
  go_loopw [4, 5, 6] (fun v x i wq => ∃ (k : Nat) (O : List Rg) (lo : Int), k ≤ s.length ∧ i = .int .i64 k ∧ x = .int .i32 lo ∧ 0 ≤ lo ∧ lo ≤ 1114112 ∧ Hid (wq.ownsRow Wr.heap.size 30 2 v O.length (rgcs O)) ∧ Hid (Ntm s O k lo) ∧ O.length ≤ k ∧ Hid (Below Wr.heap.size Wr wq)) (fun _ _ i _ => s.length - (intOf i).toNat)
  case atStart => exact ⟨0, [], 0, by omega, rfl, rfl, by omega, by omega, World.ownsRow_nil _ _ _ _, rfl, by simp, Below.refl _ _⟩
  case round =>
    obtain ⟨k, O, lo, hk, rfl, rfl, hlo0, hlo1, HO, HMi, hok, HB⟩ := hrel
    have hbs := HB.out.size
    by_cases hlt : k < s.length
    · obtain ⟨gs, rfl, hgs, y0, y1⟩ := HRD.out k s[k] (List.getElem?_eq_getElem hlt)
      obtain ⟨b1, b2, b3⟩ := nf_at HNF.out (List.getElem?_eq_getElem hlt)
      unfold top at b3
      replace y0 := (HB.out.cell (p := gs.add (k * 2)) (by rw [add_blk]; exact hgs)).trans y0
      replace y1 := (HB.out.cell (p := ⟨(gs.add (k * 2)).block, (gs.add (k * 2)).off + 1, none⟩) (show (gs.add (k * 2)).block < _ by rw [add_blk]; exact hgs)).trans y1
      have i3 : (k : Int) < (s.length : Int) := by omega
      have hgw : gs.block < wr.heap.size := by omega
      have HY := hid (fun hc => Ntm.yes hlt HMi.out hc)
      have HN := hid (fun hc => Ntm.no hlt HMi.out hc)
      generalize s[k].1 = f0 at *
      generalize s[k].2 = f1 at *
      have e1 : IntKind.i32.wrap (f0 - 1) = f0 - 1 := by rw [IntKind.wrap_i32]; omega
      have e2 : IntKind.i32.wrap (f1 + 1) = f1 + 1 := by rw [IntKind.wrap_i32]; omega
      by_cases hc : lo < f0
      · have HY2 := hid (HY.out hc)
        clear HY HN HMi
        have HY1 := hid (show ∀ W, Below Wr.heap.size Wr W → W.cell? ⟨(gs.add (k * 2)).block, (gs.add (k * 2)).off + 1, none⟩ = some (.int .i32 f1) from fun W hW => (hW.cell (p := ⟨(gs.add (k * 2)).block, (gs.add (k * 2)).off + 1, none⟩) (show (gs.add (k * 2)).block < _ by rw [add_blk]; exact hgs)).trans ((HB.out.cell (p := ⟨(gs.add (k * 2)).block, (gs.add (k * 2)).off + 1, none⟩) (show (gs.add (k * 2)).block < _ by rw [add_blk]; exact hgs)).symm.trans y1))
        go_wp2_with (at_builtin; refine wpList_append_own _ rfl _ _ 22 rfl Wr.heap.size 30 i0 (.agg #[.int .i32 0, .int .i32 0]) 2 8 Tryd.underlying22 hi hz0 hz1 hz2 rfl (by decide) _ O.length (rgcs O) rfl (HO.out.alloc _) ⟨wr.heap.size, 0, none⟩ 1 1 (rgc (lo, f0 - 1)) rfl rfl ?c1 ?c2 ?c3 ?c4 ?c5 ?_)
        case c1 => exact app_news _ (lo, f0 - 1) _ rfl
        case c2 => exact rgc_one _
        case c3 => unfold maxLen; omega
        case c4 => omega
        case c5 => simp; omega
        intro v2 w2 o2 gr2 _
        have HO2 := hid (show w2.ownsRow Wr.heap.size 30 2 v2 (O ++ [(lo, f0 - 1)]).length (rgcs (O ++ [(lo, f0 - 1)])) by rw [rgcs_snoc, len_snoc]; exact o2)
        have HB2 := hid ((HB.out.alloc hbs (.cells #[.int .i32 lo, .int .i32 (f0 - 1)] 30)).grown gr2 (by simp; omega) (fun j hj => (HO.out.lt j hj).1))
        have z1 := HY1.out w2 HB2.out
        clear o2 gr2 y0 y1
        go_wp2
        go_roundw
        case rel => exact ⟨k + 1, O ++ [(lo, f0 - 1)], f1 + 1, by omega, by go_num, by go_num, by omega, by omega, HO2, HY2, by rw [len_snoc]; omega, HB2⟩
        case measure => simp [intOf]; omega
      · have HN2 := hid (HN.out hc)
        clear HY HN HMi
        go_wp2
        go_roundw
        case rel => exact ⟨k + 1, O, f1 + 1, by omega, by go_num, by go_num, by omega, by omega, HO, HN2, by omega, HB⟩
        case measure => simp [intOf]; omega
    · obtain ⟨hd1, hd2⟩ := HMi.out.done hlt
      unfold top at hd1 hd2
      by_cases hc : lo ≤ 1114111
      · have HD := hid (hd1 hc)
        clear hd1 hd2 HMi
        go_wp2_with (at_builtin; refine wpList_append_own _ rfl _ _ 22 rfl Wr.heap.size 30 i0 (.agg #[.int .i32 0, .int .i32 0]) 2 8 Tryd.underlying22 hi hz0 hz1 hz2 rfl (by decide) _ O.length (rgcs O) rfl (HO.out.alloc _) ⟨wr.heap.size, 0, none⟩ 1 1 (rgc (lo, 1114111)) rfl rfl ?c1 ?c2 ?c3 ?c4 ?c5 ?_)
        case c1 => exact app_news _ (lo, 1114111) _ rfl
        case c2 => exact rgc_one _
        case c3 => unfold maxLen; omega
        case c4 => omega
        case c5 => simp; omega
        intro v2 w2 o2 gr2 _
        have HO2 := hid (show w2.ownsRow Wr.heap.size 30 2 v2 (O ++ [(lo, 1114111)]).length (rgcs (O ++ [(lo, 1114111)])) by rw [rgcs_snoc, len_snoc]; exact o2)
        have HB2 := hid ((HB.out.alloc hbs (.cells #[.int .i32 lo, .int .i32 1114111] 30)).grown gr2 (by simp; omega) (fun j hj => (HO.out.lt j hj).1))
        clear o2 gr2
        go_wp2
        go_ret
        exact ⟨_, rfl, by rw [← HNT.out, ← HD.out]; exact ownsRow_base2 HO2.out HB0.out.size, HB0.out.trans (HB2.out.mono HB0.out.size)⟩
      · have HD := hid (hd2 hc)
        clear hd1 hd2 HMi
        go_wp2
        go_ret
        exact ⟨_, rfl, by rw [← HNT.out, ← HD.out]; exact ownsRow_base2 HO.out HB0.out.size, HB0.out.trans (HB.out.mono HB0.out.size)⟩
end Go.Proofs.YtfahbdlcokoghaaDoor
