/- The contract of step (package nfa), at every. -/
import Derived.Test.YteacehfihogmpaaDoorBegin
import Derived.Laws.BitsAllLaws
namespace Go.Proofs.YteacehfihogmpaaDoor
open Go.RowKit

section
variable {B : Nat} {w : World} {P wt ft ib n : Nat} {ws fs : Nat → Option Addr × Nat} {WL : List (List Wy)} {FL : List (List Int)} {I : List Int} {sets : Int}
theorem Fr.ne {w : World} {r0 r1 : Option Nat} {a : Addr} (h : Fr w r0 r1) (h0 : some a.block ≠ r0) (ha : a.block < w.heap.size) : some a.block ≠ r1 := by
  rcases h with e | e | ⟨k, e, hk⟩
  · rw [e]; simp
  · rw [e]; exact h0
  · rw [e]; intro e'; cases e'; omega
theorem let_box {wr w2 : World} {xm t k2 ib : Nat} {z : Int} (hi : ib < wr.heap.size) (hw2 : w2 = ((wr.alloc (.cells #[.int .u64 (xm : Int), .int .i64 (t : Int)] 135)).drewN k2).setCell ⟨ib, t, none⟩ (.int .i64 z)) : w2.cell? ⟨wr.heap.size, 1, none⟩ = some (.int .i64 (t : Int)) := by
  subst hw2
  exact (World.cell?_of_block (heap_setCell_other _ _ wr.heap.size _ (by show wr.heap.size ≠ ib; omega))).trans (show (wr.alloc (.cells #[.int .u64 (xm : Int), .int .i64 (t : Int)] 135)).cell? ⟨wr.heap.size, 1, none⟩ = _ by simp [go_sem])
set_option maxHeartbeats 4000000 in
set_option maxRecDepth 100000 in
theorem step_any (N : List Int) (so no : Option Addr) (sc m nc bm : Nat) (S1 : List Int) (h : MAt B w P wt ft ib n ws fs WL FL I sets) (ho : w.ownsRow B 3 1 (.slice so 0 sc) 0 []) (hN : RdJ P ib w no N) (hNr : ∀ a : Addr, no = some a → some a.block ≠ (Value.slice so 0 sc).ownBlock) (hmn : m = N.length) (hml : m ≤ most) (hNb : ∀ x ∈ N, 0 ≤ x ∧ x < (n : Int)) (hm : Mk I sets n S1) (hs : 0 ≤ sets) (hs2 : sets ≤ 1152921504606846976)
    (hWL : ∀ l ∈ WL, ∀ x ∈ l, x.1 < 18446744073709551616 ∧ 0 ≤ x.2 ∧ x.2 < (n : Int)) (hbm : bm < 18446744073709551616) (hFL : ∀ l ∈ FL, ∀ t ∈ l, 0 ≤ t ∧ t < (n : Int)) (hn : n ≤ 4096) :
    Calls Tryd.prog 67 #[.pointer (some ⟨P, 0, none⟩), .slice so 0 sc, .slice no m nc, .int .u64 bm, .func (.func 69) #[] #[]] w fun e w' => ∃ v, e = .returned v ∧ ClQ B w P wt ft ib n ws fs WL FL (sets + 1) (Value.slice so 0 sc).ownBlock (Stp WL N bm) v w' := by
  obtain ⟨i0, hi3, hz0, hz1, hz2⟩ := info_parts Tryd.info3
  unfold most at hml
  have hPB := h.hPB
  have hIB := h.hIB
  have c3 := h.c3
  have fz := h.fzP 3
  obtain ⟨r0, hr0⟩ : ∃ r, r = (Value.slice so 0 sc).ownBlock := ⟨_, rfl⟩
  have HST := hid (Sps.start (WL := WL) (N := N) (by_ := bm) hm)
  have HM0 := hid (h.setS (sets + 1))
  have HC0 := hid (show Ch P ib r0 w (w.setCell ⟨P, 3, none⟩ (.int .i64 (sets + 1))) from Ch.setCell P ib r0 w ⟨P, 3, none⟩ (.int .i64 (sets + 1)) (.inl rfl))
  have HO0 := hid (own_keepCh ho hPB hIB (Ch.setCell P ib none w ⟨P, 3, none⟩ (.int .i64 (sets + 1)) (.inl rfl)))
  have HFR0 := hid (show Fr w r0 (Value.slice so 0 sc).ownBlock by rw [← hr0]; exact Fr.self w _)
  have HN := hid hN
  have HNR := hid (show ∀ a : Addr, no = some a → some a.block ≠ r0 by rw [hr0]; exact hNr)
  have HMN := hid hmn
  have HNB := hid hNb
  have HWL := hid hWL
  have HFL := hid hFL
  rw [← hr0]
  clear h ho hN hNr hmn hNb hm hWL hFL hr0
  go_enter Tryd.func67, Tryd.ntmps67
  go_wp2
  go_loopw [24, 1] (fun x y wr => ∃ (i m' : Nat) (S I' : List Int) (vo : Option Addr) (vc : Nat), x = .int .i64 i ∧ y = .slice vo m' vc ∧ i ≤ m ∧ m' ≤ n ∧ Hid (S.length = m') ∧ Hid (wr.ownsRow B 3 1 (.slice vo m' vc) m' (i64s S)) ∧ Hid (MAt B wr P wt ft ib n ws fs WL FL I' (sets + 1)) ∧ Hid (Sps WL N bm n (sets + 1) i 0 S I') ∧ Hid (Ch P ib r0 w wr) ∧ Hid (Fr w r0 (Value.slice vo m' vc).ownBlock)) (fun x _ _ => m - (intOf x).toNat)
  case atStart => exact ⟨0, 0, [], I, so, sc, rfl, rfl, Nat.zero_le _, Nat.zero_le _, rfl, HO0, HM0, HST, HC0, HFR0⟩
  case round =>
    clear HM0 HC0 HST HO0 HFR0 c3 fz
    obtain ⟨i, m', S, I', vo, vc, rfl, rfl, hi, hm'n, HSL, HO, HM, HC, HCh, HFr⟩ := hrel
    by_cases hlt : i < m
    · have hiN : i < N.length := by have := HMN.out; omega
      have HNI := hid (List.getElem?_eq_getElem hiN)
      obtain ⟨x, hx⟩ : ∃ x, x = N[i] := ⟨_, rfl⟩
      rw [← hx] at HNI
      clear hx hiN
      have hxb := HNB.out x (List.mem_of_getElem? HNI.out)
      obtain ⟨s, rfl⟩ : ∃ s : Nat, x = (s : Int) := ⟨x.toNat, by omega⟩
      obtain ⟨a, rfl, ha, _, _, a0⟩ := HN.out.keep HCh.out HNR.out i s HNI.out
      have c0 := HM.out.c0
      have hsl : s < WL.length := by have := HM.out.wl; omega
      have HL := hid (List.getElem?_eq_getElem hsl)
      obtain ⟨l, hl⟩ : ∃ l, l = WL[s] := ⟨_, rfl⟩
      rw [← hl] at HL
      clear hl hsl
      obtain ⟨f0, hlm, _⟩ := HM.out.hW s l HL.out
      obtain ⟨ln, hln⟩ : ∃ ln, ln = l.length := ⟨_, rfl⟩
      rw [← hln] at f0 hlm
      unfold most at hlm
      obtain ⟨fo, fc, hfs⟩ : ∃ fo fc, ws s = (fo, fc) := ⟨_, _, rfl⟩
      rw [hfs] at f0
      have HFS := hid hfs
      have HLN := hid hln
      clear hfs hln
      dsimp only at f0
      have hs3 : (s : Int) < (n : Int) := by omega
      have hs0 : (0 : Int) ≤ (s : Int) := by omega
      have hi3' : (i : Int) < (m : Int) := by omega
      have hi0' : (0 : Int) ≤ (i : Int) := by omega
      clear hxb
      go_wp2
      go_loopw [36, 1] (fun x y wr => ∃ (j m2 : Nat) (S2 I2 : List Int) (vo : Option Addr) (vc : Nat), x = .int .i64 j ∧ y = .slice vo m2 vc ∧ j ≤ ln ∧ m2 ≤ n ∧ Hid (S2.length = m2) ∧ Hid (wr.ownsRow B 3 1 (.slice vo m2 vc) m2 (i64s S2)) ∧ Hid (MAt B wr P wt ft ib n ws fs WL FL I2 (sets + 1)) ∧ Hid (Sps WL N bm n (sets + 1) i j S2 I2) ∧ Hid (Ch P ib r0 w wr) ∧ Hid (Fr w r0 (Value.slice vo m2 vc).ownBlock)) (fun x _ _ => ln - (intOf x).toNat)
      case atStart => exact ⟨0, m', S, I', vo, vc, rfl, rfl, Nat.zero_le _, hm'n, HSL, HO, HM, HC, HCh, HFr⟩
      case round =>
        clear HO HM HC HCh HFr HSL hi hm'n hi3' c0 f0 a0 ha
        obtain ⟨j, m2, S2, I2, vo, vc2, rfl, rfl, hj, hm2n, HSL, HO, HM, HC, HCh, HFr⟩ := hrel
        by_cases hjl : j < ln
        · have hjl' : j < l.length := by have := HLN.out; omega
          have HLJ := hid (List.getElem?_eq_getElem hjl')
          obtain ⟨y, hy⟩ : ∃ y, y = l[j] := ⟨_, rfl⟩
          rw [← hy] at HLJ
          clear hy hjl'
          have hyb := HWL.out l (List.mem_of_getElem? HL.out) y (List.mem_of_getElem? HLJ.out)
          obtain ⟨_, _, hF0⟩ := HM.out.hW s l HL.out
          obtain ⟨b, eb, hb1, hb2, hbB, b0, b1⟩ := hF0 j y HLJ.out
          rw [HFS.out] at eb
          dsimp only at eb
          subst eb
          obtain ⟨xm, xt⟩ := y
          dsimp only at hyb b0 b1
          obtain ⟨t, rfl⟩ : ∃ t : Nat, xt = (t : Int) := ⟨xt.toNat, by omega⟩
          have htn : t < n := by omega
          have j3 : (j : Int) < (ln : Int) := by omega
          have j0 : (0 : Int) ≤ (j : Int) := by omega
          have hwB := HM.out.hB
          obtain ⟨q, hq⟩ : ∃ q, q = xm &&& bm := ⟨_, rfl⟩
          have hbit : bits .and .u64 (xm : Int) (bm : Int) = (q : Int) := by rw [hq]; exact u64_and_nat xm bm hyb.1 hbm
          have HQ := hid hq
          have HM2a := hid (HM.out.alloc (.cells #[.int .u64 (xm : Int), .int .i64 (t : Int)] 135))
          have HO2a := hid (HO.out.alloc (.cells #[.int .u64 (xm : Int), .int .i64 (t : Int)] 135))
          have HCh2a := hid (HCh.out.trans (Fr.none _ _) (Ch.alloc P ib none wr (.cells #[.int .u64 (xm : Int), .int .i64 (t : Int)] 135)))
          have hib : ib < wr.heap.size := by omega
          clear hyb hF0 hq
          by_cases hq0 : q = 0
          · have HC2 := hid (HC.out.pass HNI.out HL.out HLJ.out (.inl (by have := HQ.out; show xm &&& bm = 0; omega)))
            have n1 : ((q : Int) != 0) = false := by simp [hq0]
            clear hq0
            go_wp2
            go_roundw
            case rel => exact ⟨j + 1, m2, S2, I2, vo, vc2, by go_num, rfl, by omega, hm2n, HSL, HO2a, HM2a, HC2, HCh2a, HFr⟩
            case measure => simp [intOf]; omega
          · have n1 : ((q : Int) != 0) = true := by simp; omega
            by_cases hI : I2[t]? = some (sets + 1)
            · have HC2 := hid (HC.out.pass HNI.out HL.out HLJ.out (.inr ((HC.out.mks.mrk t htn).1 hI)))
              have HI := hid hI
              clear hI hq0
              go_wp2_with (first | (go_at_call 69; refine (every_any _ _).mono ?_; rintro e w2 ⟨rfl, hw⟩; obtain rfl := hw.symm) | (go_at_call 104; refine (let_no t HM2a.out htn HI.out).mono ?_; rintro e w2 ⟨rfl, k2, hw2⟩; have HM2 := hid (show MAt B w2 P wt ft ib n ws fs WL FL I2 (sets + 1) by rw [hw2]; exact HM2a.out.drew k2); have HO2 := hid (show w2.ownsRow B 3 1 (.slice vo m2 vc2) m2 (i64s S2) by rw [hw2]; exact own_keepCh HO2a.out hPB hIB (Ch.drew P ib none _ k2)); have HCh2 := hid (show Ch P ib r0 w w2 by rw [hw2]; exact HCh2a.out.trans (Fr.none _ _) (Ch.drew P ib none _ k2)); clear hw2))
              go_roundw
              case rel => exact ⟨j + 1, m2, S2, I2, vo, vc2, by go_num, rfl, by omega, hm2n, HSL, HO2, HM2, HC2, HCh2, HFr⟩
              case measure => simp [intOf]; omega
            · have HC2 := hid (HC.out.new HNI.out HL.out HLJ.out (by have := HQ.out; omega) htn hI)
              have HI := hid hI
              clear hI hq0
              have hm3 : m2 + 1 ≤ n := by have h1 := HC2.out.mks.le; rw [List.length_append, HSL.out] at h1; simpa using h1
              go_wp2_with (first | (go_at_call 69; refine (every_any _ _).mono ?_; rintro e w2 ⟨rfl, hw⟩; obtain rfl := hw.symm) | (go_at_call 104; refine (let_yes t HM2a.out htn HI.out).mono ?_; rintro e w2 ⟨rfl, k2, hw2⟩; have HM2 := hid (show MAt B w2 P wt ft ib n ws fs WL FL (I2.set t (sets + 1)) (sets + 1) by rw [hw2]; exact (HM2a.out.drew k2).setI t (sets + 1)); have HO2 := hid (show w2.ownsRow B 3 1 (.slice vo m2 vc2) m2 (i64s S2) by rw [hw2]; exact own_keepCh (own_keepCh HO2a.out hPB hIB (Ch.drew P ib none _ k2)) hPB hIB (Ch.setCell P ib none _ _ _ (.inr rfl))); have HCh2 := hid (show Ch P ib r0 w w2 by rw [hw2]; exact (HCh2a.out.trans (Fr.none _ _) (Ch.drew P ib none _ k2)).trans (Fr.none _ _) (Ch.setCell P ib none _ _ _ (.inr rfl))); have hB2 := HM2.out.hB; have e1 := let_box hib hw2; clear hw2) | (at_builtin; refine wpList_append_lies _ rfl _ _ 22 rfl B 3 i0 (.int .i64 0) 1 8 Tryd.underlying22 hi3 hz0 hz1 hz2 rfl (by decide) (.slice vo m2 vc2) m2 (i64s S2) rfl (HO2.out.alloc _) ⟨w2.heap.size, 0, none⟩ 1 1 [.int .i64 (t : Int)] rfl rfl (news_one w2 _ 3) (i64s_one [(t : Int)]) (by decide) (by unfold maxLen; omega) (by omega) (by simp; omega) (w2.heap.size + 1) (by simp) ?_; intro q3 c3 w3 o3 gr3 hl3 hlt3))
              have HO3 := hid (show w3.ownsRow B 3 1 (.slice (some ⟨q3, 0, none⟩) (m2 + 1) c3) (m2 + 1) (i64s (S2 ++ [(t : Int)])) by rw [i64s_snoc]; exact o3)
              have HM3 := hid ((HM2.out.alloc (.cells #[.int .i64 (t : Int)] 3)).grown gr3 (own_row HO2.out))
              have HCh3 := hid ((HCh2.out.trans (Fr.none _ _) (Ch.alloc P ib none w2 (.cells #[.int .i64 (t : Int)] 3))).trans HFr.out (Ch.grown gr3))
              have HFr3 := hid (show Fr w r0 (Value.slice (some ⟨q3, 0, none⟩) (m2 + 1) c3).ownBlock by
                rcases hl3 with h1 | h1
                · have h2 := HFr.out; rw [show (Value.slice vo m2 vc2).ownBlock = some q3 from h1] at h2; exact h2
                · refine .inr (.inr ⟨q3, rfl, ?_⟩); have h2 := HCh2.out.size; omega)
              have HSL3 := hid (show (S2 ++ [(t : Int)]).length = m2 + 1 by rw [List.length_append, HSL.out]; rfl)
              clear o3 gr3 hl3 hlt3
              go_roundw
              case rel => exact ⟨j + 1, m2 + 1, S2 ++ [(t : Int)], I2.set t (sets + 1), some ⟨q3, 0, none⟩, c3, by go_num, rfl, by omega, hm3, HSL3, HO3, HM3, HC2, HCh3, HFr3⟩
              case measure => simp [intOf]; omega
        · have j3 : ¬ (j : Int) < (ln : Int) := by omega
          have HC2 := hid (HC.out.next HNI.out HL.out (by have := HLN.out; omega))
          go_wp2
          go_roundw
          case rel => exact ⟨i + 1, m2, S2, I2, vo, vc2, by go_num, rfl, by omega, hm2n, HSL, HO, HM, HC2, HCh, HFr⟩
          case measure => simp [intOf]; omega
    · have k3 : ¬ (i : Int) < (m : Int) := by omega
      have HD := hid (HC.out.done (by have := HMN.out; omega))
      go_wp2_with (first | (go_at_call 105; refine (closed_any S vo m' vc HM.out HO.out HD.out.1 HFL.out hn).mono ?_; rintro e w2 ⟨v2, rfl, q2⟩; have HQ := hid q2; clear q2))
      go_ret
      exact ⟨_, rfl, ClQ.lift HCh.out HFr.out HD.out.2 HQ.out⟩
end
end Go.Proofs.YteacehfihogmpaaDoor
