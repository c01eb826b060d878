/- The contracts of Count and Index (package runes), and of the document's Count, At and Index. -/
import Derived.Test.YtfahbdlcokoghaaDoorCntMath
namespace Go.Proofs.YtfahbdlcokoghaaDoor
open Go.RowKit

set_option maxRecDepth 100000 in
set_option maxHeartbeats 3000000 in
theorem count_any (ao : Option Addr) (ac : Nat) (l : List Rg) (w : World) (ha : RdR w ao l) (hl : l.length ≤ 100000) :
    Calls Tryd.prog 31 #[.slice ao l.length ac] w fun e w' => e = .returned (.int .i64 (cntF (nrm l))) ∧ Below w.heap.size w w' := by
  have HSO := hid (norm_any ao ac l w ha hl)
  clear ha
  go_enter Tryd.func31, Tryd.ntmps31
  go_wp2_with fail
  refine HSO.out.mono ?_
  rintro e Wr ⟨v, rfl, o1, hB⟩
  obtain ⟨so, sc, rfl, hrd⟩ := rdr_row o1
  have hsl := nrm_len l
  have HNF := hid (nrm_nf l)
  obtain ⟨s, hs⟩ : ∃ s, nrm l = s := ⟨_, rfl⟩
  have HNL := hid hs
  rw [hs] at HNF hrd hsl ⊢
  have HRD := hid hrd
  have HB0 := hid hB
  have hws := hB.size
  have hs5 : s.length ≤ 100000 := by omega
  clear hrd hB HSO hsl o1 hs
  go_wp2
  go_loopw [3, 9] (fun x n wq => ∃ k : Nat, k ≤ s.length ∧ n = .int .i64 k ∧ x = .int .i64 (cntF (s.take k)) ∧ Hid (Below Wr.heap.size Wr wq)) (fun _ n _ => s.length - (intOf n).toNat)
  case atStart => exact ⟨0, by omega, rfl, rfl, Below.refl _ _⟩
  case round =>
    obtain ⟨k, hk, rfl, rfl, HB⟩ := hrel
    have hbs := HB.out.size
    by_cases hlt : k < s.length
    · obtain ⟨gs, rfl, hgs, y0, y1⟩ := HRD.out k s[k] (List.getElem?_eq_getElem hlt)
      obtain ⟨b1, b2, b3⟩ := nf_at HNF.out (List.getElem?_eq_getElem hlt)
      unfold top at b3
      replace y0 := (HB.out.cell (p := gs.add (k * 2)) (by rw [add_blk]; exact hgs)).trans y0
      replace y1 := (HB.out.cell (p := ⟨(gs.add (k * 2)).block, (gs.add (k * 2)).off + 1, none⟩) (show (gs.add (k * 2)).block < _ by rw [add_blk]; exact hgs)).trans y1
      have i3 : (k : Int) < (s.length : Int) := by omega
      have hgw : gs.block < wr.heap.size := by omega
      have HCT := hid (cnt_take hlt)
      have bd := cnt_take_bd HNF.out k
      generalize s[k].1 = f0 at *
      generalize s[k].2 = f1 at *
      obtain ⟨c, hc⟩ : ∃ c, c = cntF (s.take k) := ⟨_, rfl⟩
      rw [← hc] at HCT bd ⊢
      clear hc
      have e3 : IntKind.i64.wrap (c + (f1 - f0 + 1)) = c + (f1 - f0 + 1) := by rw [IntKind.wrap_i64]; omega
      go_wp2_with fail
      refine (size_any f0 f1 _ b1 b2 b3).mono ?_
      rintro e w2 ⟨rfl, hb2⟩
      have HB2 := hid ((HB.out.alloc hbs (.cells #[.int .i32 f0, .int .i32 f1] 30)).trans (hb2.mono (by simp; omega)))
      clear hb2
      go_wp2
      go_roundw
      case rel => exact ⟨k + 1, by omega, by go_num, by rw [HCT.out], HB2⟩
      case measure => simp [intOf]; omega
    · have HZ := hid (show s.take k = s from List.take_of_length_le (by omega))
      go_wp2
      go_ret
      exact ⟨by rw [HZ.out, HNL.out]; rfl, HB0.out.trans (HB.out.mono HB0.out.size)⟩

set_option maxRecDepth 100000 in
set_option maxHeartbeats 3000000 in
theorem rcount_any (ao : Option Addr) (ac : Nat) (l : List Rg) (w : World) (ha : RdR w ao l) (hl : l.length ≤ 100000) :
    Calls Tryd.prog 32 #[.slice ao l.length ac] w fun e w' => e = .returned (.int .i64 (cntF (nrm l))) ∧ Below w.heap.size w w' := by
  have HSO := hid (rnorm_any ao ac l w ha hl)
  clear ha
  go_enter Tryd.func32, Tryd.ntmps32
  go_wp2_with fail
  refine HSO.out.mono ?_
  rintro e Wr ⟨v, rfl, o1, hB⟩
  obtain ⟨so, sc, rfl, hrd⟩ := rdr_row o1
  have hsl := nrm_len l
  have HNF := hid (nrm_nf l)
  obtain ⟨s, hs⟩ : ∃ s, nrm l = s := ⟨_, rfl⟩
  have HNL := hid hs
  rw [hs] at HNF hrd hsl ⊢
  have HRD := hid hrd
  have HB0 := hid hB
  have hws := hB.size
  have hs5 : s.length ≤ 100000 := by omega
  clear hrd hB HSO hsl o1 hs
  go_wp2
  go_loopw [4, 5] (fun x n wq => ∃ k : Nat, k ≤ s.length ∧ n = .int .i64 k ∧ x = .int .i64 (cntF (s.take k)) ∧ Hid (Below Wr.heap.size Wr wq)) (fun _ n _ => s.length - (intOf n).toNat)
  case atStart => exact ⟨0, by omega, rfl, rfl, Below.refl _ _⟩
  case round =>
    obtain ⟨k, hk, rfl, rfl, HB⟩ := hrel
    have hbs := HB.out.size
    by_cases hlt : k < s.length
    · obtain ⟨gs, rfl, hgs, y0, y1⟩ := HRD.out k s[k] (List.getElem?_eq_getElem hlt)
      obtain ⟨b1, b2, b3⟩ := nf_at HNF.out (List.getElem?_eq_getElem hlt)
      unfold top at b3
      replace y0 := (HB.out.cell (p := gs.add (k * 2)) (by rw [add_blk]; exact hgs)).trans y0
      replace y1 := (HB.out.cell (p := ⟨(gs.add (k * 2)).block, (gs.add (k * 2)).off + 1, none⟩) (show (gs.add (k * 2)).block < _ by rw [add_blk]; exact hgs)).trans y1
      have i3 : (k : Int) < (s.length : Int) := by omega
      have hgw : gs.block < wr.heap.size := by omega
      have HCT := hid (cnt_take hlt)
      have bd := cnt_take_bd HNF.out k
      generalize s[k].1 = f0 at *
      generalize s[k].2 = f1 at *
      obtain ⟨c, hc⟩ : ∃ c, c = cntF (s.take k) := ⟨_, rfl⟩
      rw [← hc] at HCT bd ⊢
      clear hc
      have e1 : IntKind.i32.wrap (f1 - f0) = f1 - f0 := by rw [IntKind.wrap_i32]; omega
      have e2 : IntKind.i64.wrap (f1 - f0) = f1 - f0 := by rw [IntKind.wrap_i64]; omega
      have e3 : IntKind.i64.wrap (c + (f1 - f0)) = c + (f1 - f0) := by rw [IntKind.wrap_i64]; omega
      have e4 : IntKind.i64.wrap (c + (f1 - f0) + 1) = c + (f1 - f0) + 1 := by rw [IntKind.wrap_i64]; omega
      go_wp2_with fail
      go_quiet (fail)
      go_wp2
      go_roundw
      case rel => exact ⟨k + 1, by omega, by go_num, by rw [HCT.out, Int.add_assoc c], below_drewN HB.out _⟩
      case measure => simp [intOf]; omega
    · have HZ := hid (show s.take k = s from List.take_of_length_le (by omega))
      go_wp2
      go_ret
      exact ⟨by rw [HZ.out, HNL.out]; rfl, HB0.out.trans (HB.out.mono HB0.out.size)⟩

set_option maxRecDepth 100000 in
set_option maxHeartbeats 3000000 in
theorem rat_any (ao : Option Addr) (ac : Nat) (l : List Rg) (i : Int) (w : World) (ha : RdR w ao l) (hl : l.length ≤ 100000) (hi0 : -9223372036854775808 ≤ i) (hi1 : i < 9223372036854775808) :
    Calls Tryd.prog 28 #[.slice ao l.length ac, .int .i64 i] w fun e w' => e = .returned (two (atN l i)) ∧ Below w.heap.size w w' := by
  have HSO := hid (rnorm_any ao ac l w ha hl)
  clear ha
  go_enter Tryd.func28, Tryd.ntmps28
  go_wp2_with fail
  refine HSO.out.mono ?_
  rintro e Wr ⟨v, rfl, o1, hB⟩
  obtain ⟨so, sc, rfl, hrd⟩ := rdr_row o1
  have hsl := nrm_len l
  have HNF := hid (nrm_nf l)
  obtain ⟨s, hs⟩ : ∃ s, nrm l = s := ⟨_, rfl⟩
  have HNL := hid hs
  rw [hs] at HNF hrd hsl ⊢
  have HRD := hid hrd
  have HB0 := hid hB
  have hws := hB.size
  have hs5 : s.length ≤ 100000 := by omega
  clear hrd hB HSO hsl o1 hs
  have HAT := hid (show atN l i = if i < 0 then none else atF (nrm l) i from rfl)
  rw [HNL.out] at HAT
  by_cases hin : i < 0
  · have HN := hid (show atN l i = none by rw [HAT.out, if_pos hin])
    go_wp2
    go_ret2
    exact ⟨by rw [HN.out]; rfl, HB0.out⟩
  · rw [if_neg hin] at HAT
    go_wp2
    go_loopw [1, 7] (fun x n wq => ∃ (k : Nat) (j : Int), k ≤ s.length ∧ n = .int .i64 k ∧ x = .int .i64 j ∧ 0 ≤ j ∧ j ≤ i ∧ Hid (atF (s.drop k) j = atF s i) ∧ Hid (Below Wr.heap.size Wr wq)) (fun _ n _ => s.length - (intOf n).toNat)
    case atStart => exact ⟨0, i, by omega, rfl, rfl, by omega, by omega, rfl, Below.refl _ _⟩
    case round =>
      obtain ⟨k, j, hk, rfl, rfl, hj0, hj1, HJ, HB⟩ := hrel
      have hbs := HB.out.size
      by_cases hlt : k < s.length
      · obtain ⟨gs, rfl, hgs, y0, y1⟩ := HRD.out k s[k] (List.getElem?_eq_getElem hlt)
        obtain ⟨b1, b2, b3⟩ := nf_at HNF.out (List.getElem?_eq_getElem hlt)
        unfold top at b3
        replace y0 := (HB.out.cell (p := gs.add (k * 2)) (by rw [add_blk]; exact hgs)).trans y0
        replace y1 := (HB.out.cell (p := ⟨(gs.add (k * 2)).block, (gs.add (k * 2)).off + 1, none⟩) (show (gs.add (k * 2)).block < _ by rw [add_blk]; exact hgs)).trans y1
        have i3 : (k : Int) < (s.length : Int) := by omega
        have hgw : gs.block < wr.heap.size := by omega
        have HY := hid (atF_yes (j := j) hlt)
        have HN := hid (atF_no (j := j) hlt)
        generalize s[k].1 = f0 at *
        generalize s[k].2 = f1 at *
        have e1 : IntKind.i32.wrap (f1 - f0) = f1 - f0 := by rw [IntKind.wrap_i32]; omega
        have e2 : IntKind.i64.wrap (f1 - f0) = f1 - f0 := by rw [IntKind.wrap_i64]; omega
        by_cases hc : j < f1 - f0 + 1
        · have HZ := hid ((HJ.out.symm.trans (HY.out hc)))
          have e5 : IntKind.i32.wrap j = j := by rw [IntKind.wrap_i32]; omega
          have e6 : IntKind.i32.wrap (f0 + j) = f0 + j := by rw [IntKind.wrap_i32]; omega
          clear HY HN
          have HY0 := hid (show ∀ n, (wr.drewN n).cell? (gs.add (k * 2)) = some (.int .i32 f0) from fun n => ((below_drewN (Below.refl wr.heap.size wr) n).cell (p := gs.add (k * 2)) (by rw [add_blk]; exact hgw)).trans y0)
          go_wp2_with fail
          go_quiet (fail)
          have z0 := HY0.out nq
          go_wp2
          go_ret2
          exact ⟨by rw [HAT.out, HZ.out]; rfl, HB0.out.trans ((below_drewN HB.out _).mono HB0.out.size)⟩
        · have HZ := hid ((HN.out (by omega)).symm.trans HJ.out)
          have e3 : IntKind.i64.wrap (j - (f1 - f0 + 1)) = j - (f1 - f0 + 1) := by rw [IntKind.wrap_i64]; omega
          clear HY HN
          go_wp2_with fail
          go_quiet (fail)
          go_wp2
          go_roundw
          case rel => exact ⟨k + 1, j - (f1 - f0 + 1), by omega, by go_num, by go_num, by omega, by omega, HZ, below_drewN HB.out _⟩
          case measure => simp [intOf]; omega
      · have HZ := hid (show atF s i = none by rw [← HJ.out, List.drop_of_length_le (by omega)]; rfl)
        go_wp2
        go_ret2
        exact ⟨by rw [HAT.out, HZ.out]; rfl, HB0.out.trans (HB.out.mono HB0.out.size)⟩

set_option maxRecDepth 100000 in
set_option maxHeartbeats 3000000 in
theorem rindex_any (ao : Option Addr) (ac : Nat) (l : List Rg) (r : Int) (w : World) (ha : RdR w ao l) (hl : l.length ≤ 100000) (hr0 : -2147483648 ≤ r) (hr1 : r ≤ 2147483647) :
    Calls Tryd.prog 30 #[.slice ao l.length ac, .int .i32 r] w fun e w' => e = .returned (twoI (idxN l r)) ∧ Below w.heap.size w w' := by
  have HSO := hid (rnorm_any ao ac l w ha hl)
  clear ha
  go_enter Tryd.func30, Tryd.ntmps30
  go_wp2_with fail
  refine HSO.out.mono ?_
  rintro e Wr ⟨v, rfl, o1, hB⟩
  obtain ⟨so, sc, rfl, hrd⟩ := rdr_row o1
  have hsl := nrm_len l
  have HNF := hid (nrm_nf l)
  obtain ⟨s, hs⟩ : ∃ s, nrm l = s := ⟨_, rfl⟩
  have HNL := hid hs
  rw [hs] at HNF hrd hsl ⊢
  have HRD := hid hrd
  have HB0 := hid hB
  have hws := hB.size
  have hs5 : s.length ≤ 100000 := by omega
  clear hrd hB HSO hsl o1 hs
  have HIX := hid (show idxN l r = idxF (nrm l) 0 r from rfl)
  rw [HNL.out] at HIX
  go_wp2
  go_loopw [7, 8] (fun x n wq => ∃ k : Nat, k ≤ s.length ∧ n = .int .i64 k ∧ x = .int .i64 (cntF (s.take k)) ∧ Hid (idxF (s.drop k) (cntF (s.take k)) r = idxF s 0 r) ∧ Hid (Below Wr.heap.size Wr wq)) (fun _ n _ => s.length - (intOf n).toNat)
  case atStart => exact ⟨0, by omega, rfl, rfl, rfl, Below.refl _ _⟩
  case round =>
    obtain ⟨k, hk, rfl, rfl, HJ, HB⟩ := hrel
    have hbs := HB.out.size
    by_cases hlt : k < s.length
    · obtain ⟨gs, rfl, hgs, y0, y1⟩ := HRD.out k s[k] (List.getElem?_eq_getElem hlt)
      obtain ⟨b1, b2, b3⟩ := nf_at HNF.out (List.getElem?_eq_getElem hlt)
      unfold top at b3
      replace y0 := (HB.out.cell (p := gs.add (k * 2)) (by rw [add_blk]; exact hgs)).trans y0
      replace y1 := (HB.out.cell (p := ⟨(gs.add (k * 2)).block, (gs.add (k * 2)).off + 1, none⟩) (show (gs.add (k * 2)).block < _ by rw [add_blk]; exact hgs)).trans y1
      have i3 : (k : Int) < (s.length : Int) := by omega
      have hgw : gs.block < wr.heap.size := by omega
      have HCT := hid (cnt_take hlt)
      have bd := cnt_take_bd HNF.out k
      have HST := hid (idx_step (r := r) (c := cntF (s.take k)) hlt)
      obtain ⟨f0, hf0⟩ : ∃ f0, f0 = s[k].1 := ⟨_, rfl⟩
      obtain ⟨f1, hf1⟩ : ∃ f1, f1 = s[k].2 := ⟨_, rfl⟩
      rw [← hf0] at y0 b1 b2 HCT HST
      rw [← hf1] at y1 b2 b3 HCT HST
      clear hf0 hf1
      rw [← HCT.out] at HST
      obtain ⟨c, hc⟩ : ∃ c, c = cntF (s.take k) := ⟨_, rfl⟩
      rw [← hc] at HCT bd HST HJ ⊢
      clear hc
      have e1 : IntKind.i32.wrap (f1 - f0) = f1 - f0 := by rw [IntKind.wrap_i32]; omega
      have e2 : IntKind.i64.wrap (f1 - f0) = f1 - f0 := by rw [IntKind.wrap_i64]; omega
      have e3 : IntKind.i64.wrap (c + (f1 - f0)) = c + (f1 - f0) := by rw [IntKind.wrap_i64]; omega
      have e4 : IntKind.i64.wrap (c + (f1 - f0) + 1) = c + (f1 - f0) + 1 := by rw [IntKind.wrap_i64]; omega
      by_cases c1 : f0 ≤ r
      · by_cases c2 : r ≤ f1
        · have HZ := hid (show idxF s 0 r = some (c + (r - f0)) by rw [← HJ.out, HST.out, if_pos ⟨c1, c2⟩])
          have e5 : IntKind.i32.wrap (r - f0) = r - f0 := by rw [IntKind.wrap_i32]; omega
          have e6 : IntKind.i64.wrap (r - f0) = r - f0 := by rw [IntKind.wrap_i64]; omega
          have e7 : IntKind.i64.wrap (c + (r - f0)) = c + (r - f0) := by rw [IntKind.wrap_i64]; omega
          clear HST HJ
          go_wp2
          go_ret2
          exact ⟨by rw [HIX.out, HZ.out]; rfl, HB0.out.trans (HB.out.mono HB0.out.size)⟩
        · have HZ := hid (show idxF (s.drop (k + 1)) (cntF (s.take (k + 1))) r = idxF s 0 r by rw [← HJ.out, HST.out, if_neg (fun h => c2 h.2)])
          clear HST HJ
          go_wp2_with fail
          go_quiet (fail)
          go_wp2
          go_roundw
          case rel => exact ⟨k + 1, by omega, by go_num, by rw [HCT.out, Int.add_assoc c], HZ, below_drewN HB.out _⟩
          case measure => simp [intOf]; omega
      · have HZ := hid (show idxF (s.drop (k + 1)) (cntF (s.take (k + 1))) r = idxF s 0 r by rw [← HJ.out, HST.out, if_neg (fun h => c1 h.1)])
        clear HST HJ
        go_wp2_with fail
        go_quiet (fail)
        go_wp2
        go_roundw
        case rel => exact ⟨k + 1, by omega, by go_num, by rw [HCT.out, Int.add_assoc c], HZ, below_drewN HB.out _⟩
        case measure => simp [intOf]; omega
    · have HZ := hid (show idxF s 0 r = none by rw [← HJ.out, List.drop_of_length_le (by omega)]; rfl)
      go_wp2
      go_ret2
      exact ⟨by rw [HIX.out, HZ.out]; rfl, HB0.out.trans (HB.out.mono HB0.out.size)⟩
end Go.Proofs.YtfahbdlcokoghaaDoor
