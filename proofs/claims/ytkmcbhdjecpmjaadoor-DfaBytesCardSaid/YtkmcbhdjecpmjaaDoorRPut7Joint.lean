/- The contract of Put (package dfa). -/
import Derived.Test.YtkmcbhdjecpmjaaDoorPutM
import Derived.Test.YtkmcbhdjecpmjaaDoorMix
namespace Go.Proofs.YtkmcbhdjecpmjaaDoor
open Go.RowKit

set_option maxHeartbeats 4000000 in
set_option maxRecDepth 100000 in
theorem put_any (c : Int) (no to : Option Addr) (n nc m tc : Nat) (R : Rw) (T : List Int) (w : World) (hd : DRd w no n to m R T) :
    Calls Tryd.prog 43 #[.agg #[.int .i64 c, .slice no n nc, .slice to m tc]] w fun e w' => PdQ w c R T e w' := by
  have HD := hid hd
  clear hd
  go_enter Tryd.func43, Tryd.ntmps43
  go_wp2_with fail
  refine (good_any c no to n nc m tc R T (w.alloc (.cells #[.int .i64 c, .slice no n nc, .slice to m tc] 32)) (HD.out.below below_box)).mono ?_
  rintro e w1 ⟨rfl, b1⟩
  have HB := hid (show Below (w.heap.size + 1) (w.alloc (.cells #[.int .i64 c, .slice no n nc, .slice to m tc] 32)) w1 by simpa using b1)
  clear b1
  rcases bool_cases (gdB c R T) with hg | hg
  rotate_left
  · have HN := hid (not_gd hg)
    rw [hg]
    clear hg
    go_wp2
    go_ret2
    exact .inr ⟨HN.out, rfl, box_trans HB.out⟩
  have HG := hid (gd_of hg)
  rw [hg]
  clear hg
  obtain ⟨cn, hcn⟩ : ∃ cn : Nat, c = (cn : Int) := ⟨c.toNat, by have := HG.out.c1; omega⟩
  have hc64 : cn ≤ 64 := by have := HG.out.c2; omega
  have HCN := hid hcn
  have hn : n ≤ 1024 := by have := HG.out.n2; have := HD.out.hn; omega
  have hmn : m = n := by have := HG.out.tl; have := HD.out.hn; have := HD.out.hm; omega
  have HMN := hid hmn
  clear hmn hcn
  obtain ⟨c0, c1, c2⟩ := box3 HB.out
  have hB1 : w.heap.size + 1 ≤ w1.heap.size := by have := HB.out.size; simpa using this
  rw [HCN.out] at c0
  go_wp2_with fail
  refine (putB_any (n := cn) (Byt.nil (w.heap.size + 1) w1 0) hB1 (by omega) (by omega)).mono ?_
  rintro e w2 ⟨vo, ul, vc, rfl, hY, b2⟩
  have HY2 := hid hY
  have HB2 := hid (HB.out.trans b2)
  have hB2 : w.heap.size + 1 ≤ w2.heap.size := by have := b2.size; omega
  clear hY b2 c0 c1 c2 hB1
  obtain ⟨c0, c1, c2⟩ := box3 HB2.out
  go_wp2_with fail
  refine (putB_any (n := n) HY2.out hB2 (by omega) (by omega)).mono ?_
  rintro e w3 ⟨vo3, ul3, vc3, rfl, hY, b3⟩
  have HY3 := hid (show Byt (w.heap.size + 1) w3 vo3 ul3 vc3 (encL (itK c R T 0)) 4 by rw [← enc_begin HCN.out HD.out.hn]; exact hY)
  have HB3 := hid (HB2.out.trans b3)
  clear hY b3 c0 c1 c2 HY2 hB2
  obtain ⟨c0, c1, c2⟩ := box3 HB3.out
  go_wp2
  go_loopw [4, 23] (fun x y wr => ∃ (k ul : Nat) (vo : Option Addr) (vc : Nat), x = .slice vo ul vc ∧ y = .int .i64 k ∧ k ≤ n ∧ Hid (Byt (w.heap.size + 1) wr vo ul vc (encL (itK c R T k)) (4 + 130 * k)) ∧ Hid (Below (w.heap.size + 1) (w.alloc (.cells #[.int .i64 c, .slice no n nc, .slice to m tc] 32)) wr)) (fun _ y _ => n - (intOf y).toNat)
  case atStart => exact ⟨0, ul3, vo3, vc3, rfl, rfl, Nat.zero_le _, HY3, HB3⟩
  case round =>
    obtain ⟨k, ul, vo, vc, rfl, rfl, hk, HY, HB⟩ := hrel
    obtain ⟨c0, c1, c2⟩ := box3 HB.out
    have hBr : w.heap.size + 1 ≤ wr.heap.size := by have := HB.out.size; simpa using this
    by_cases hlt : k < n
    · obtain ⟨row, a, co, cc, hr, rfl, ha, a0, hI, hrl⟩ := HD.out.row hlt
      have a0 := cell_bl (box_trans HB.out) a0
      obtain ⟨t, b, ht, rfl, hb, t0⟩ := (HD.out.boxed HB.out).tk (show k < m by rw [HMN.out]; exact hlt)
      have HR1 := hid hr
      have HT1 := hid ht
      have HRO := hid (HG.out.row k row t hr ht)
      obtain ⟨l, hl⟩ : ∃ l, l = row.length := ⟨_, rfl⟩
      rw [← hl] at a0
      have HL := hid hl
      have HI := hid hI
      have hlc : l = cn := by have h1 := HRO.out.2.1; have h2 := HCN.out; omega
      have HLC := hid hlc
      have hl64 : l ≤ 64 := by omega
      obtain ⟨tn, htn⟩ : ∃ tn : Nat, t = (tn : Int) := ⟨t.toNat, by have := HRO.out.1; omega⟩
      have ht1 : tn ≤ 1 := by have := HRO.out.1; omega
      have HTN := hid htn
      rw [htn] at t0
      clear hr ht hl hI hrl hlc htn ha hb
      have i0 : (0 : Int) ≤ (k : Int) := by omega
      have i3 : (k : Int) < (n : Int) := by omega
      have i4 : (k : Int) < (m : Int) := by have := HMN.out; omega
      go_wp2_with fail
      refine (putB_any (n := tn) HY.out hBr (by omega) (by omega)).mono ?_
      rintro e w4 ⟨vo4, ul4, vc4, rfl, hY, b4⟩
      have HY4 := hid (show Byt (w.heap.size + 1) w4 vo4 ul4 vc4 (encL (itK c R T k ++ itR t (row.take 0))) (4 + 130 * k + 2) by rw [← enc_one row HTN.out]; exact hY)
      have HB4 := hid (HB.out.trans b4)
      clear hY b4 c0 c1 c2 a0 t0 HY HB hBr
      go_wp2
      go_loopw [4, 37] (fun x y wr => ∃ (j ul : Nat) (vo : Option Addr) (vc : Nat), x = .slice vo ul vc ∧ y = .int .i64 j ∧ j ≤ l ∧ Hid (Byt (w.heap.size + 1) wr vo ul vc (encL (itK c R T k ++ itR t (row.take j))) (4 + 130 * k + 2 + 2 * j)) ∧ Hid (Below (w.heap.size + 1) (w.alloc (.cells #[.int .i64 c, .slice (some a) n nc, .slice (some b) m tc] 32)) wr)) (fun _ y _ => l - (intOf y).toNat)
      case atStart => exact ⟨0, ul4, vo4, vc4, rfl, rfl, Nat.zero_le _, HY4, HB4⟩
      case round =>
        clear HY4 HB4
        obtain ⟨j, ul, vo, vc, rfl, rfl, hj, HY, HB⟩ := hrel
        have hBr : w.heap.size + 1 ≤ wr.heap.size := by have := HB.out.size; simpa using this
        by_cases hjl : j < l
        · obtain ⟨z, d, hz, rfl, hd, d0⟩ := (HI.out.boxed HB.out).at (k := j) (by rw [← HL.out]; exact hjl)
          have hzb := HRO.out.2.2 z (List.mem_of_getElem? hz)
          obtain ⟨zn, hzn⟩ : ∃ zn : Nat, z + 1 = (zn : Int) := ⟨(z + 1).toNat, by omega⟩
          have hz1 : zn ≤ 1024 := by have := HD.out.hn; omega
          have ez : IntKind.i64.wrap (z + 1) = (zn : Int) := by rw [IntKind.wrap_i64]; omega
          have HZ := hid hz
          have HZN := hid hzn
          clear hz hzb hzn hd
          have i5 : (j : Int) < (l : Int) := by omega
          have i6 : (0 : Int) ≤ (j : Int) := by omega
          go_wp2_with fail
          refine (putB_any (n := zn) HY.out hBr (by omega) (by omega)).mono ?_
          rintro e w5 ⟨vo5, ul5, vc5, rfl, hY, b5⟩
          have HY5 := hid (show Byt (w.heap.size + 1) w5 vo5 ul5 vc5 (encL (itK c R T k ++ itR t (row.take (j + 1)))) (4 + 130 * k + 2 + 2 * (j + 1)) by rw [← enc_next HZ.out HZN.out]; exact hY)
          have HB5 := hid (HB.out.trans b5)
          clear hY b5 d0 HY HB hBr ez
          go_wp2
          go_roundw
          case rel => exact ⟨j + 1, ul5, vo5, vc5, rfl, by go_num, by omega, HY5, HB5⟩
          case measure => simp [intOf]; omega
        · have i5 : ¬ (j : Int) < (l : Int) := by omega
          have hjl2 : j = l := by omega
          have HY5 := hid (show Byt (w.heap.size + 1) wr vo ul vc (encL (itK c R T (k + 1))) (4 + 130 * (k + 1)) from by
            have h := HY.out
            rw [enc_row HR1.out HT1.out (by have := HL.out; omega)] at h
            exact ⟨h.own, h.len, by have := h.le; omega⟩)
          clear HY hjl2
          go_wp2
          go_roundw
          case rel => exact ⟨k + 1, ul, vo, vc, rfl, by go_num, by omega, HY5, HB⟩
          case measure => simp [intOf]; omega
    · have i3 : ¬ (k : Int) < (n : Int) := by omega
      have HKN := hid (show k = R.length by have := HD.out.hn; omega)
      have hkl : 4 + 130 * k ≤ 140000 := by omega
      go_wp2
      go_ret2
      refine .inl ⟨HG.out, vo, ul, vc, rfl, ?_, box_trans HB.out⟩
      rw [← encD_at HKN.out]
      exact ⟨own_mono' HY.out.own (by omega), HY.out.len, by have := HY.out.le; omega⟩
end Go.Proofs.YtkmcbhdjecpmjaaDoor
/- The contract of Put (the document's). -/
namespace Go.Proofs.YtkmcbhdjecpmjaaDoor
open Go.RowKit

set_option maxHeartbeats 4000000 in
set_option maxRecDepth 100000 in
theorem rputD_any (c : Int) (no to : Option Addr) (n nc m tc : Nat) (R : Rw) (T : List Int) (w : World) (hd : DRd w no n to m R T) :
    Calls Tryd.prog 44 #[.agg #[.int .i64 c, .slice no n nc, .slice to m tc]] w fun e w' => PdQ w c R T e w' := by
  have HD := hid hd
  clear hd
  go_enter Tryd.func44, Tryd.ntmps44
  go_wp2_with fail
  refine (rcheck_any c no to n nc m tc R T (w.alloc (.cells #[.int .i64 c, .slice no n nc, .slice to m tc] 32)) (HD.out.below below_box)).mono ?_
  rintro e w1 ⟨rfl, b1⟩
  have HB := hid (show Below (w.heap.size + 1) (w.alloc (.cells #[.int .i64 c, .slice no n nc, .slice to m tc] 32)) w1 by simpa using b1)
  clear b1
  rcases bool_cases (gdB c R T) with hg | hg
  rotate_left
  · have HN := hid (not_gd hg)
    rw [gdC_no (not_gd hg)]
    clear hg
    go_wp2
    go_ret2
    exact .inr ⟨HN.out, rfl, box_trans HB.out⟩
  have HG := hid (gd_of hg)
  rw [gdC_yes (gd_of hg)]
  clear hg
  obtain ⟨cn, hcn⟩ : ∃ cn : Nat, c = (cn : Int) := ⟨c.toNat, by have := HG.out.c1; omega⟩
  have hc64 : cn ≤ 64 := by have := HG.out.c2; omega
  have HCN := hid hcn
  have hn : n ≤ 1024 := by have := HG.out.n2; have := HD.out.hn; omega
  have hmn : m = n := by have := HG.out.tl; have := HD.out.hn; have := HD.out.hm; omega
  have HMN := hid hmn
  clear hmn hcn
  obtain ⟨c0, c1, c2⟩ := box3 HB.out
  have hB1 : w.heap.size + 1 ≤ w1.heap.size := by have := HB.out.size; simpa using this
  rw [HCN.out] at c0
  go_wp2_with fail
  have HX := hid (show ∀ W, Below (w.heap.size + 1) (w.alloc (.cells #[.int .i64 c, .slice no n nc, .slice to m tc] 32)) W → W.cell? ⟨w.heap.size, 0, none⟩ = some (.int .i64 (cn : Int)) ∧ W.cell? ⟨w.heap.size, 1, none⟩ = some (.slice no n nc) from fun W h => by obtain ⟨h0, h1, _⟩ := box3 h; exact ⟨by rw [h0, HCN.out], h1⟩)
  refine wp_region_mix [(0, true), (1, true), (3, true), (4, true), (5, true), (2, false), (6, false), (7, true)] (fun w' => w'.cell? ⟨w.heap.size, 0, none⟩ = some (.int .i64 (cn : Int)) ∧ w'.cell? ⟨w.heap.size, 1, none⟩ = some (.slice no n nc)) (fun _ => false) (by kernel_rfl) (by kernel_rfl) (fun j hj => by cases hj) rfl (by kernel_rfl) ⟨c0, c1⟩ ?_
  iterate 5 (refine mix_free ?_ rfl (by kernel_rfl) (fun w' hS => ?_) ?_; (rotate_left; (obtain ⟨s1, s2⟩ := hS; go_simp; with_reducible rfl); rotate_left))
  have HBd := hid HB.out.drew
  have hBd : w.heap.size + 1 ≤ w1.drew.heap.size := hB1
  refine mix_go rfl (by kernel_rfl) fun KK hKK => ?_
  go_simp
  refine (rputB_any (n := cn) (Byt.nil (w.heap.size + 1) w1.drew 0) hBd (by omega) (by omega)).mono ?_
  rintro e w2 ⟨vo, ul, vc, rfl, hY, b2⟩
  have HY2 := hid hY
  have HB2 := hid (HBd.out.trans b2)
  have hB2 : w.heap.size + 1 ≤ w2.heap.size := by have := b2.size; omega
  refine hKK _ _ (fun _ => HX.out _ HB2.out) ?_
  clear hKK KK hY b2
  refine mix_go rfl (by kernel_rfl) fun KK hKK => ?_
  go_simp
  refine (rputB_any (n := n) HY2.out hB2 (by omega) (by omega)).mono ?_
  rintro e w3 ⟨vo3, ul3, vc3, rfl, hY, b3⟩
  have HY3 := hid (show Byt (w.heap.size + 1) w3 vo3 ul3 vc3 (encL (itK c R T 0)) 4 by rw [← enc_begin HCN.out HD.out.hn]; exact hY)
  have HB3 := hid (HB2.out.trans b3)
  refine hKK _ _ (fun _ => HX.out _ HB3.out) ?_
  clear hKK KK hY b3 c0 c1 c2 HY2 hB2 hB1 hBd HBd
  iterate 1 (refine mix_free ?_ rfl (by kernel_rfl) (fun w' hS => ?_) ?_; (rotate_left; (go_simp; with_reducible rfl); rotate_left))
  refine mix_end (NoPanic.normal ?_)
  go_wp2
  go_loopw [4, 5] (fun x y wr => ∃ (k ul : Nat) (vo : Option Addr) (vc : Nat), x = .slice vo ul vc ∧ y = .int .i64 k ∧ k ≤ n ∧ Hid (Byt (w.heap.size + 1) wr vo ul vc (encL (itK c R T k)) (4 + 130 * k)) ∧ Hid (Below (w.heap.size + 1) (w.alloc (.cells #[.int .i64 c, .slice no n nc, .slice to m tc] 32)) wr)) (fun _ y _ => n - (intOf y).toNat)
  case atStart => exact ⟨0, ul3, vo3, vc3, rfl, rfl, Nat.zero_le _, HY3, HB3⟩
  case round =>
    obtain ⟨k, ul, vo, vc, rfl, rfl, hk, HY, HB⟩ := hrel
    obtain ⟨c0, c1, c2⟩ := box3 HB.out
    have hBr : w.heap.size + 1 ≤ wr.heap.size := by have := HB.out.size; simpa using this
    by_cases hlt : k < n
    · obtain ⟨row, a, co, cc, hr, rfl, ha, a0, hI, hrl⟩ := HD.out.row hlt
      have HA0 := hid a0
      have a0 := cell_bl (box_trans HB.out) a0
      obtain ⟨t, b, ht, rfl, hb, t0⟩ := (HD.out.boxed HB.out).tk (show k < m by rw [HMN.out]; exact hlt)
      have HR1 := hid hr
      have HT1 := hid ht
      have HRO := hid (HG.out.row k row t hr ht)
      obtain ⟨l, hl⟩ : ∃ l, l = row.length := ⟨_, rfl⟩
      rw [← hl] at a0
      have A0 := hid (show w.cell? (a.add k) = some (.slice co l cc) by rw [hl]; exact HA0.out)
      have HL := hid hl
      have HI := hid hI
      have hlc : l = cn := by have h1 := HRO.out.2.1; have h2 := HCN.out; omega
      have HLC := hid hlc
      have hl64 : l ≤ 64 := by omega
      obtain ⟨tn, htn⟩ : ∃ tn : Nat, t = (tn : Int) := ⟨t.toNat, by have := HRO.out.1; omega⟩
      have ht1 : tn ≤ 1 := by have := HRO.out.1; omega
      have HTN := hid htn
      rw [htn] at t0
      clear hr ht hl hI hrl hlc htn ha hb
      have i0 : (0 : Int) ≤ (k : Int) := by omega
      have i3 : (k : Int) < (n : Int) := by omega
      have i4 : (k : Int) < (m : Int) := by have := HMN.out; omega
      go_wp2_with fail
      refine (rputB_any (n := tn) HY.out hBr (by omega) (by omega)).mono ?_
      rintro e w4 ⟨vo4, ul4, vc4, rfl, hY, b4⟩
      have HY4 := hid (show Byt (w.heap.size + 1) w4 vo4 ul4 vc4 (encL (itK c R T k ++ itR t (row.take 0))) (4 + 130 * k + 2) by rw [← enc_one row HTN.out]; exact hY)
      have HB4 := hid (HB.out.trans b4)
      clear hY b4 c0 c1 c2 a0 t0 HY HB hBr
      go_wp2
      go_loopw [4, 6] (fun x y wr => ∃ (j ul : Nat) (vo : Option Addr) (vc : Nat), x = .slice vo ul vc ∧ y = .int .i64 j ∧ j ≤ l ∧ Hid (Byt (w.heap.size + 1) wr vo ul vc (encL (itK c R T k ++ itR t (row.take j))) (4 + 130 * k + 2 + 2 * j)) ∧ Hid (Below (w.heap.size + 1) (w.alloc (.cells #[.int .i64 c, .slice (some a) n nc, .slice (some b) m tc] 32)) wr)) (fun _ y _ => l - (intOf y).toNat)
      case atStart => exact ⟨0, ul4, vo4, vc4, rfl, rfl, Nat.zero_le _, HY4, HB4⟩
      case round =>
        clear HY4 HB4
        obtain ⟨j, ul, vo, vc, rfl, rfl, hj, HY, HB⟩ := hrel
        have hBr : w.heap.size + 1 ≤ wr.heap.size := by have := HB.out.size; simpa using this
        obtain ⟨c0, c1, c2⟩ := box3 HB.out
        have a0 := cell_bl (box_trans HB.out) A0.out
        rw [HCN.out] at c0
        by_cases hjl : j < l
        · obtain ⟨z, d, hz, rfl, hd, d0⟩ := (HI.out.boxed HB.out).at (k := j) (by rw [← HL.out]; exact hjl)
          have hzb := HRO.out.2.2 z (List.mem_of_getElem? hz)
          obtain ⟨zn, hzn⟩ : ∃ zn : Nat, z + 1 = (zn : Int) := ⟨(z + 1).toNat, by omega⟩
          have hz1 : zn ≤ 1024 := by have := HD.out.hn; omega
          have ez : IntKind.i64.wrap (z + 1) = (zn : Int) := by rw [IntKind.wrap_i64]; omega
          have HZ := hid hz
          have HZN := hid hzn
          clear hz hzb hzn hd
          have i5 : (j : Int) < (l : Int) := by omega
          have i7 : (j : Int) < (cn : Int) := by have := HLC.out; omega
          have i6 : (0 : Int) ≤ (j : Int) := by omega
          go_wp2_with fail
          refine (rputB_any (n := zn) HY.out hBr (by omega) (by omega)).mono ?_
          rintro e w5 ⟨vo5, ul5, vc5, rfl, hY, b5⟩
          have HY5 := hid (show Byt (w.heap.size + 1) w5 vo5 ul5 vc5 (encL (itK c R T k ++ itR t (row.take (j + 1)))) (4 + 130 * k + 2 + 2 * (j + 1)) by rw [← enc_next HZ.out HZN.out]; exact hY)
          have HB5 := hid (HB.out.trans b5)
          clear hY b5 d0 a0 c0 c1 c2 HY HB hBr ez
          go_wp2
          go_roundw
          case rel => exact ⟨j + 1, ul5, vo5, vc5, rfl, by go_num, by omega, HY5, HB5⟩
          case measure => simp [intOf]; omega
        · have i5 : ¬ (j : Int) < (cn : Int) := by have := HLC.out; omega
          have hjl2 : j = l := by omega
          have HY5 := hid (show Byt (w.heap.size + 1) wr vo ul vc (encL (itK c R T (k + 1))) (4 + 130 * (k + 1)) from by
            have h := HY.out
            rw [enc_row HR1.out HT1.out (by have := HL.out; omega)] at h
            exact ⟨h.own, h.len, by have := h.le; omega⟩)
          clear HY hjl2
          go_wp2
          go_roundw
          case rel => exact ⟨k + 1, ul, vo, vc, rfl, by go_num, by omega, HY5, HB⟩
          case measure => simp [intOf]; omega
    · have i3 : ¬ (k : Int) < (n : Int) := by omega
      have HKN := hid (show k = R.length by have := HD.out.hn; omega)
      have hkl : 4 + 130 * k ≤ 140000 := by omega
      go_wp2
      go_ret2
      refine .inl ⟨HG.out, vo, ul, vc, rfl, ?_, box_trans HB.out⟩
      rw [← encD_at HKN.out]
      exact ⟨own_mono' HY.out.own (by omega), HY.out.len, by have := HY.out.le; omega⟩
end Go.Proofs.YtkmcbhdjecpmjaaDoor
