/- The walk of RunesNorm. -/
import Derived.Test.YtfahbdlcokoghaaDoorOwn
import Derived.Deep.RegionHeld3
namespace Go.Proofs.YtfahbdlcokoghaaDoor
open Go.RowKit

/-- A slice of runes, nil or not, reads as a list. -/
def RdI (w : World) (ao : Option Addr) (E : List Int) : Prop := ∀ (k : Nat) (z : Int), E[k]? = some z → ∃ a : Addr, ao = some a ∧ a.block < w.heap.size ∧ w.cell? (a.add k) = some (.int .i32 z)
theorem RdI.below {w w' : World} {ao : Option Addr} {E : List Int} (h : RdI w ao E) (hb : Below w.heap.size w w') : RdI w' ao E := fun k z hk => by
  obtain ⟨a, h1, h2, h3⟩ := h k z hk
  exact ⟨a, h1, Nat.lt_of_lt_of_le h2 hb.size, (hb.cell (p := a.add k) (by rw [add_blk]; exact h2)).trans h3⟩
theorem is_eq (ao : Option Addr) (ac : Nat) (l : List Rg) (b : Bool) (hb : nfB 0 l = b) (w : World) (ha : RdR w ao l) (hl : l.length ≤ 1000000) :
    Calls Tryd.prog 14 #[.slice ao l.length ac] w fun e w' => e = .returned (.bool b) ∧ Below w.heap.size w w' := by
  subst hb; exact is_any ao ac l w ha (by omega)
theorem ris_eq (ao : Option Addr) (ac : Nat) (l : List Rg) (b : Bool) (hb : nfB 0 l = b) (w : World) (ha : RdR w ao l) (hl : l.length ≤ 100000) :
    Calls Tryd.prog 15 #[.slice ao l.length ac] w fun e w' => e = .returned (.bool b) ∧ Below w.heap.size w w' := by
  subst hb; exact ris_any ao ac l w ha hl
theorem has_eq (ao : Option Addr) (ac : Nat) (l : List Rg) (r : Int) (b : Bool) (hb : hasR r l = b) (w : World) (ha : RdR w ao l) (hl : l.length ≤ 1000000) :
    Calls Tryd.prog 17 #[.slice ao l.length ac, .int .i32 r] w fun e w' => e = .returned (.bool b) ∧ Below w.heap.size w w' := by
  subst hb; exact has_any ao ac l r w ha (by omega)
theorem rhas_eq (ao : Option Addr) (ac : Nat) (l : List Rg) (r : Int) (b : Bool) (hb : hasR r l = b) (w : World) (ha : RdR w ao l) (hl : l.length ≤ 1000000) :
    Calls Tryd.prog 18 #[.slice ao l.length ac, .int .i32 r] w fun e w' => e = .returned (.bool b) ∧ w' = w := by
  subst hb; exact rhas_any ao ac l r w ha (by omega)
theorem hasR_nrm (r : Int) (l : List Rg) : hasR r (nrm l) = hasR r l := by
  have h1 : hasR r (nrm l) = true ↔ hasR r l = true := by
    rw [hasR_iff, hasR_iff]
    constructor
    · rintro ⟨_, _, h3⟩; exact (nrm_in l r).1 h3
    · intro h; exact ⟨h.1, h.2.1, (nrm_in l r).2 h⟩
  exact Bool.eq_iff_iff.2 h1
theorem nrm_nfB (l : List Rg) : nfB 0 (nrm l) = true := (nfB_iff (nrm l) 0).2 (nrm_nf l)

set_option maxHeartbeats 2000000 in
set_option maxRecDepth 100000 in
theorem norm_walk (lo eo : Option Addr) (lc ec : Nat) (l : List Rg) (E : List Int) (w : World) (hT : Lib.Utf8Tabs 0 1 w) (h2 : 2 ≤ w.heap.size) (hcap : lo = none → lc = 0) (hl : RdR w lo l) (hE : RdI w eo E) :
    Calls Tryd.prog 3 #[.slice lo l.length lc, .slice eo E.length ec] w fun e w' => e = .returned (.bool true) ∧ Below w.heap.size w w' := by
  have HT := hid hT
  have HL := hid hl
  have HE := hid hE
  clear hT hl hE
  by_cases h15 : (1500 : Int) < l.length
  · go_enter Tryd.func3, Tryd.ntmps3
    go_wp2_with (go_at_call 9; refine (live_any _ (by exact HT.out) (by exact h2)).mono ?_; rintro e w1 ⟨rfl, hb⟩)
    go_ret
    exact ⟨rfl, hb⟩
  by_cases h5 : (500 : Int) < E.length
  · go_enter Tryd.func3, Tryd.ntmps3
    go_wp2_with (go_at_call 9; refine (live_any _ (by exact HT.out) (by exact h2)).mono ?_; rintro e w1 ⟨rfl, hb⟩)
    go_ret
    exact ⟨rfl, hb⟩
  have HOW := hid (own_any lo lc l w HL.out hcap (by omega))
  clear hcap
  go_enter Tryd.func3, Tryd.ntmps3
  go_wp2_with fail
  refine HOW.out.mono ?_
  rintro e w1 ⟨g, cap, rfl, ho1, hwg, hb1⟩
  have HO1 := hid ho1
  have HB1 := hid hb1
  have hs1 := hb1.size
  have hg1 := ho1.lt
  obtain ⟨s, hs⟩ : ∃ s, s = nrm l := ⟨_, rfl⟩
  have HNR := hid hs
  have HN := hid (norm_any (some ⟨g, 0, none⟩) cap l w1 ho1.reads.left (by omega))
  rw [← hs] at HN
  clear ho1 hb1 HOW hs
  go_wp2_with fail
  refine HN.out.mono ?_
  rintro e w2 ⟨vn, rfl, on, hb2⟩
  obtain ⟨no, nc, rfl, hrn⟩ := rdr_row on
  have HNC := hid (show no = none → nc = 0 from fun h => by
    rcases on.2 with ⟨h1, _⟩ | ⟨gg, cc, cur, h1, _⟩
    · injection h1
    · rw [h] at h1; cases h1)
  have HON := hid on
  have HRN := hid hrn
  have HB12 := hid hb2
  have HB2 := hid (HB1.out.trans (hb2.mono hs1))
  have hs2 := hb2.size
  have hnl : s.length ≤ l.length := by rw [HNR.out]; exact nrm_len l
  have HL2 := hid (HL.out.below HB2.out)
  have HX2 := hid (HO1.out.below hb2)
  have HRNO := hid (rnorm_any lo lc l w2 HL2.out (by omega))
  rw [← HNR.out] at HRNO
  clear on hrn hb2 HN
  go_wp2_with fail
  refine HRNO.out.mono ?_
  rintro e w3 ⟨vr, rfl, or, hb3⟩
  obtain ⟨ro, rc, rfl, hrr⟩ := rdr_row or
  have HSA := hid (same_eq no ro nc rc s s true (decide_eq_true rfl) w3 (HRN.out.below hb3) hrr (by omega))
  have HB23 := hid hb3
  have hs3 := hb3.size
  clear or hrr hb3 HRNO
  go_wp2_with fail
  refine HSA.out.mono ?_
  rintro e w4 ⟨rfl, hb4⟩
  have HB24 := hid (HB23.out.trans (hb4.mono hs3))
  have hs4 := hb4.size
  clear hb4 HSA HB23
  obtain ⟨q, hq⟩ : ∃ q, nfB 0 l = q := ⟨_, rfl⟩
  have HIS := hid (is_eq (some ⟨g, 0, none⟩) cap l q hq w4 (HX2.out.below HB24.out).reads.left (by omega))
  have HQ := hid hq
  clear hq
  go_wp2_with fail
  refine HIS.out.mono ?_
  rintro e w5 ⟨rfl, hb5⟩
  have HB25 := hid (HB24.out.trans (hb5.mono (by omega)))
  have hs5 := hb5.size
  have HRI := hid (ris_eq lo lc l q HQ.out w5 (HL2.out.below HB25.out) (by omega))
  clear hb5 HIS HB24
  go_wp2_with fail
  refine HRI.out.mono ?_
  rintro e w6 ⟨rfl, hb6⟩
  have HB26 := hid (HB25.out.trans (hb6.mono (by omega)))
  have hs6 := hb6.size
  have HOW := hid (own_any no nc s w6 (HRN.out.below HB26.out) HNC.out (by omega))
  clear hb6 HRI HB25
  have eqq : (q != q) = false := by cases q <;> rfl
  go_wp2_with fail
  refine HOW.out.mono ?_
  rintro e w7 ⟨g7, cap7, rfl, ho7, _, hb7⟩
  have HB27 := hid (HB26.out.trans (hb7.mono (by omega)))
  have hs7 := hb7.size
  have HIS := hid (is_eq (some ⟨g7, 0, none⟩) cap7 s true (by rw [HNR.out]; exact nrm_nfB l) w7 ho7.reads.left (by omega))
  clear hb7 ho7 HOW HB26
  go_wp2_with fail
  refine HIS.out.mono ?_
  rintro e w8 ⟨rfl, hb8⟩
  have HB28 := hid (HB27.out.trans (hb8.mono (by omega)))
  have hs8 := hb8.size
  have HKE := hid (kept_any _ g cap lo lc l w8 (HX2.out.below HB28.out) (HL2.out.below HB28.out) (by omega))
  clear hb8 HIS HB27
  go_wp2_with fail
  refine HKE.out.mono ?_
  rintro e w9 ⟨rfl, hb9⟩
  have HB29 := hid (HB28.out.trans (hb9.mono (by omega)))
  have hs9 := hb9.size
  clear hb9 HKE HB28 HQ eqq
  have HE2 := hid (HE.out.below HB2.out)
  go_wp2
  go_loopw [7] (fun i wr => ∃ k : Nat, i = .int .i64 k ∧ k ≤ E.length ∧ Hid (Below w2.heap.size w2 wr)) (fun i _ => E.length - (intOf i).toNat)
  case atStart => exact ⟨0, rfl, by omega, HB29⟩
  case round =>
    obtain ⟨k, rfl, hk, HBr⟩ := hrel
    have hsr := HBr.out.size
    by_cases hlt : k < E.length
    · obtain ⟨a, rfl, hab, hac⟩ := (HE2.out.below HBr.out) k E[k] (List.getElem?_eq_getElem hlt)
      obtain ⟨z, hz⟩ : ∃ z, z = E[k] := ⟨_, rfl⟩
      have HZ := hid (show E[k]? = some z by rw [hz]; exact List.getElem?_eq_getElem hlt)
      rw [← hz] at hac
      clear hz
      obtain ⟨b, hb⟩ : ∃ b, hasR z l = b := ⟨_, rfl⟩
      have HXN := hid (fun v W (hv : v = .slice (some ⟨g, 0, none⟩) l.length cap ∨ v = .slice no s.length nc) (hW : Below w2.heap.size w2 W) => show Calls Tryd.prog 17 #[v, .int .i32 z] W (fun e w' => e = .returned (.bool b) ∧ Below W.heap.size W w') from (by
        rcases hv with rfl | rfl
        · exact has_eq (some ⟨g, 0, none⟩) cap l z b hb W (HX2.out.below hW).reads.left (by omega)
        · exact has_eq no nc s z b ((by rw [HNR.out]; exact hasR_nrm z l : hasR z s = hasR z l).trans hb) W (HRN.out.below hW) (by omega)))
      have HLH := hid (fun W (hW : Below w2.heap.size w2 W) => rhas_eq lo lc l z b hb W (HL2.out.below hW) (by omega))
      have HAC := hid (fun W (hW : Below w2.heap.size w2 W) => show W.cell? (a.add k) = some (.int .i32 z) from (by
        obtain ⟨a', e, _, h⟩ := (HE2.out.below hW) k z HZ.out
        injection e with e
        subst e
        exact h))
      clear hb
      have eqb : (b != b) = false := by cases b <;> rfl
      go_wp2_with fail
      go_region_held3 (fun W => W.cell? (a.add k) = some (.int .i32 z))
        (first | (exact HAC.out _ hyB2.out) | (exact HAC.out _ hyB1.out) | (exact HAC.out _ HBr.out.drew) | go_keep)
        ((first | (go_at_call 17; refine (HXN.out _ _ (by first | exact .inl rfl | exact .inr rfl) (by exact hyB1.out)).mono ?_; rintro e y2 ⟨rfl, hy'⟩; have hyB2 := hid (hyB1.out.trans (hy'.mono hyB1.out.size)); clear hy') | (go_at_call 17; refine (HXN.out _ _ (by first | exact .inl rfl | exact .inr rfl) (by exact HBr.out.drew)).mono ?_; rintro e y1 ⟨rfl, hy'⟩; have hyB1 := hid (HBr.out.drew.trans (hy'.mono (by show w2.heap.size ≤ wr.heap.size; omega))); clear hy') | (go_at_call 18; refine (HLH.out _ (by first | exact hyB2.out | exact hyB1.out)).mono ?_; rintro e y ⟨rfl, hw⟩; obtain rfl := hw.symm; clear hw)))
      have HY2 := hyB2
      go_wp2
      go_roundw
      case rel => exact ⟨k + 1, by go_num, by omega, HY2⟩
      case measure => simp [intOf]; omega
    · have HONr := hid (ownsRow_below HON.out HBr.out)
      have HK0 := hid (show ∀ k : Nat, k < s.length → ∃ gn cur, no = some ⟨gn, 0, none⟩ ∧ w1.heap.size ≤ gn ∧ wr.heap[gn]? = some (.cells cur 30 (0, 0)) ∧ s.length * 2 ≤ cur.size from fun k hk => by
        rcases HONr.out.2 with ⟨_, h0⟩ | ⟨gn, cc, cur, hv, hB, hg, h4, _, h6, _⟩
        · omega
        · injection hv with hv1 hv2 hv3
          exact ⟨gn, cur, hv1, hB, hg, by rw [h6]; omega⟩)
      have HBx := hid (HB12.out.trans (HBr.out.mono hs2))
      clear HONr HE HE2 HBr
      obtain ⟨wo, hwo⟩ : ∃ wo, wo = wr := ⟨_, rfl⟩
      rw [← hwo] at HK0 HBx ⊢
      clear hwo
      have hnl9 : s.length ≤ 100000 := by omega
      go_wp2
      go_loopw [8] (fun i wq => ∃ j : Nat, i = .int .i64 j ∧ j ≤ s.length ∧ Hid (Below w1.heap.size w1 wq) ∧ Hid (∀ k : Nat, k < s.length → ∃ gn cur, no = some ⟨gn, 0, none⟩ ∧ w1.heap.size ≤ gn ∧ wq.heap[gn]? = some (.cells cur 30 (0, 0)) ∧ s.length * 2 ≤ cur.size)) (fun i _ => s.length - (intOf i).toNat)
      case atStart => exact ⟨0, rfl, by omega, HBx, HK0⟩
      case round =>
        obtain ⟨j, rfl, hj, HBq, HKq⟩ := hrel
        by_cases hjl : j < s.length
        · obtain ⟨gn, cur, rfl, hgn, hgc, hcs⟩ := HKq.out j hjl
          have q0 : wr.cell? ⟨gn, j * 2, none⟩ = some (cur[j * 2]'(by omega)) := by rw [cell_of_row wr gn (j * 2) _ 30 (0, 0) hgc]; exact Array.getElem?_eq_getElem _
          have q1 : wr.cell? ⟨gn, j * 2 + 1, none⟩ = some (cur[j * 2 + 1]'(by omega)) := by rw [cell_of_row wr gn (j * 2 + 1) _ 30 (0, 0) hgc]; exact Array.getElem?_eq_getElem _
          have f0 := frozen_of_row wr gn (j * 2) _ 30 hgc
          have f1 := frozen_of_row wr gn (j * 2 + 1) _ 30 hgc
          generalize cur[j * 2]'(by omega) = c0 at q0
          generalize cur[j * 2 + 1]'(by omega) = c1 at q1
          have HGC := hid hgc
          have HK2 := hid (show ∀ k : Nat, k < s.length → ∃ gn' cur', (some (⟨gn, 0, none⟩ : Addr)) = some ⟨gn', 0, none⟩ ∧ w1.heap.size ≤ gn' ∧ ((wr.setCell ⟨gn, j * 2, none⟩ (.int .i32 (-1))).setCell ⟨gn, j * 2 + 1, none⟩ (.int .i32 (-1))).heap[gn']? = some (.cells cur' 30 (0, 0)) ∧ s.length * 2 ≤ cur'.size from fun k _ =>
            ⟨gn, _, rfl, hgn, Lib.heap_setCell_same (i := j * 2 + 1) (Lib.heap_setCell_same (i := j * 2) HGC.out (.int .i32 (-1))) (.int .i32 (-1)), by simpa using hcs⟩)
          have HB2' := hid ((HBq.out.setCell (p := ⟨gn, j * 2, none⟩) hgn (.int .i32 (-1))).setCell (p := ⟨gn, j * 2 + 1, none⟩) hgn (.int .i32 (-1)))
          clear hgc HKq HBq HK0
          go_wp2
          go_roundw
          case rel => exact ⟨j + 1, by go_num, by omega, HB2', HK2⟩
          case measure => simp [intOf]; omega
        · have HLw := hid (HL.out.below (HB1.out.trans (HBq.out.mono hs1)))
          have HBw := hid (HB1.out.trans (HBq.out.mono hs1))
          have HKE := hid (kept_any _ g cap lo lc l wr (HO1.out.below HBq.out) HLw.out (by omega))
          clear HKq HK0
          go_wp2_with fail
          refine HKE.out.mono ?_
          rintro e z1 ⟨rfl, hz1⟩
          have HZ1 := hid (HBw.out.trans (hz1.mono HBw.out.size))
          clear hz1 HKE
          go_wp2_with fail
          refine (live_any _ (tabs_below HT.out h2 HZ1.out) (by have := HZ1.out.size; omega)).mono ?_
          rintro e z2 ⟨rfl, hz2⟩
          have HZ2 := hid (HZ1.out.trans (hz2.mono HZ1.out.size))
          clear hz2
          go_wp2
          go_ret
          exact ⟨rfl, HZ2.out⟩
end Go.Proofs.YtfahbdlcokoghaaDoor
