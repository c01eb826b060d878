/- The contract of begin (package nfa). -/
import Derived.Test.YteacehfihogmpaaDoorClosed
namespace Go.Proofs.YteacehfihogmpaaDoor
open Go.RowKit

/-- A slice of numbers that lies elsewhere than the machine's own. -/
def RdJ (P ib : Nat) (w : World) (ao : Option Addr) (l : List Int) : Prop :=
  ∀ (k : Nat) (z : Int), l[k]? = some z → ∃ a : Addr, ao = some a ∧ a.block < w.heap.size ∧ a.block ≠ P ∧ a.block ≠ ib ∧ w.cell? (a.add k) = some (.int .i64 z)
theorem RdJ.keep {P ib : Nat} {w w' : World} {ao : Option Addr} {l : List Int} {row : Option Nat} (h : RdJ P ib w ao l) (hc : Ch P ib row w w') (hr : ∀ a : Addr, ao = some a → some a.block ≠ row) : RdJ P ib w' ao l := fun k z hk => by
  obtain ⟨a, h1, h2, h3, h4, h5⟩ := h k z hk
  exact ⟨a, h1, Nat.lt_of_lt_of_le h2 hc.size, h3, h4, (World.cell?_of_block (hc.block (a.add k).block (by rw [add_blk]; exact h2) (by rw [add_blk]; exact h3) (by rw [add_blk]; exact h4) (by rw [add_blk]; exact hr a h1))).trans h5⟩
section
variable {B : Nat} {w : World} {P wt ft ib n : Nat} {ws fs : Nat → Option Addr × Nat} {WL : List (List Wy)} {FL : List (List Int)} {I : List Int} {sets : Int}
theorem Fr.trans {w w1 : World} {r r1 r2 : Option Nat} (h : Fr w r r1) (hs : w.heap.size ≤ w1.heap.size) (h' : Fr w1 r1 r2) : Fr w r r2 := by
  rcases h' with e | e | ⟨k, e, hk⟩
  · exact .inl e
  · rw [e]; exact h
  · exact .inr (.inr ⟨k, e, Nat.le_trans hs hk⟩)
theorem ClQ.lift {w1 w' : World} {r r1 : Option Nat} {A A' : Int → Prop} {v : Value} (hc : Ch P ib r w w1) (hf : Fr w r r1) (hA : ∀ x, A x ↔ A' x) (h : ClQ B w1 P wt ft ib n ws fs WL FL sets r1 A v w') : ClQ B w P wt ft ib n ws fs WL FL sets r A' v w' := by
  obtain ⟨S, I, vo, vc, h1, h2, h3, h4, h5, h6, h7⟩ := h
  exact ⟨S, I, vo, vc, h1, h2, h3, h4, fun x => (h5 x).trans ⟨Rch.mono fun y => (hA y).1, Rch.mono fun y => (hA y).2⟩, hc.trans hf h6, hf.trans hc.size h7⟩
set_option maxHeartbeats 2000000 in
set_option maxRecDepth 100000 in
theorem begin_any (l : List Int) (lo : Option Addr) (ln lc : Nat) (S1 : List Int) (h : MAt B w P wt ft ib n ws fs WL FL I sets) (hl : RdJ P ib w lo l) (hln : ln = l.length) (hlm : ln ≤ most) (hm : Mk I sets n S1) (hs : 0 ≤ sets) (hs2 : sets ≤ 1152921504606846976) (hFL : ∀ l ∈ FL, ∀ t ∈ l, 0 ≤ t ∧ t < (n : Int)) (hn : n ≤ 4096) :
    Calls Tryd.prog 65 #[.pointer (some ⟨P, 0, none⟩), .slice lo ln lc] w fun e w' => ∃ v, e = .returned v ∧ ClQ B w P wt ft ib n ws fs WL FL (sets + 1) none (fun x => x ∈ l ∧ 0 ≤ x ∧ x < (n : Int)) v w' := by
  obtain ⟨i0, hi3, hz0, hz1, hz2⟩ := info_parts Tryd.info3
  unfold most at hlm
  have hPB := h.hPB
  have hIB := h.hIB
  have c3 := h.c3
  have fz := h.fzP 3
  have HST := hid (Bgn.start (l := l) hm)
  have HM0 := hid (h.setS (sets + 1))
  have HC0 := hid (Ch.setCell P ib none w ⟨P, 3, none⟩ (.int .i64 (sets + 1)) (.inl rfl))
  have HL := hid hl
  have HLN := hid hln
  have HFL := hid hFL
  clear h hl hln hFL hm
  go_enter Tryd.func65, Tryd.ntmps65
  go_wp2
  go_loopw [17, 5] (fun x y wr => ∃ (k m' : Nat) (S I' : List Int) (vo : Option Addr) (vc : Nat), x = .int .i64 k ∧ y = .slice vo m' vc ∧ k ≤ ln ∧ m' ≤ n ∧ Hid (S.length = m') ∧ Hid (wr.ownsRow B 3 1 (.slice vo m' vc) m' (i64s S)) ∧ Hid (MAt B wr P wt ft ib n ws fs WL FL I' (sets + 1)) ∧ Hid (Bgn l n (sets + 1) k S I') ∧ Hid (Ch P ib none w wr) ∧ Hid (Fr w none (Value.slice vo m' vc).ownBlock)) (fun x _ _ => ln - (intOf x).toNat)
  case atStart => exact ⟨0, 0, [], I, none, 0, rfl, rfl, Nat.zero_le _, Nat.zero_le _, rfl, World.ownsRow_nil _ _ _ _, HM0, HST, HC0, .inl rfl⟩
  case round =>
    clear HM0 HC0 HST c3 fz
    obtain ⟨k, m', S, I', vo, vc, rfl, rfl, hk, hm'n, HSL, HO, HM, HC, HCh, HFr⟩ := hrel
    have hfrr : ∀ a : Addr, lo = some a → some a.block ≠ (none : Option Nat) := fun a _ => by simp
    by_cases hlt : k < ln
    · have hkl : k < l.length := by have := HLN.out; omega
      have HLK := hid (List.getElem?_eq_getElem hkl)
      obtain ⟨x, hx⟩ : ∃ x, x = l[k] := ⟨_, rfl⟩
      rw [← hx] at HLK
      clear hx hkl
      obtain ⟨a, rfl, ha, _, _, a0⟩ := HL.out.keep HCh.out hfrr k x HLK.out
      have k3 : (k : Int) < (ln : Int) := by omega
      have k0 : (0 : Int) ≤ (k : Int) := by omega
      have c2 := HM.out.c2
      clear hfrr
      rcases bool_cases (wn x n) with hW | hW
      · have hxb := wn_iff.1 hW
        obtain ⟨t, rfl⟩ : ∃ t : Nat, x = (t : Int) := ⟨x.toNat, by omega⟩
        have htn : t < n := by omega
        clear hxb
        by_cases hI : I'[t]? = some (sets + 1)
        · have HC2 := hid (HC.out.seen HLK.out htn hI)
          have HI := hid hI
          clear hI
          go_wp2_with (first | (go_at_call 73; refine (within_any _ _ _).mono ?_; rintro e w2 ⟨rfl, hw⟩; obtain rfl := hw.symm) | (go_at_call 104; refine (let_no t HM.out htn HI.out).mono ?_; rintro e w2 ⟨rfl, k2, hw2⟩; have HM2 := hid (show MAt B w2 P wt ft ib n ws fs WL FL I' (sets + 1) by rw [hw2]; exact HM.out.drew k2); have HO2 := hid (show w2.ownsRow B 3 1 (.slice vo m' vc) m' (i64s S) by rw [hw2]; exact own_keepCh HO.out hPB hIB (Ch.drew P ib none _ k2)); have HCh2 := hid (show Ch P ib none w w2 by rw [hw2]; exact HCh.out.trans (Fr.none _ _) (Ch.drew P ib none _ k2)); clear hw2))
          go_roundw
          case rel => exact ⟨k + 1, m', S, I', vo, vc, by go_num, rfl, by omega, hm'n, HSL, HO2, HM2, HC2, HCh2, HFr⟩
          case measure => simp [intOf]; omega
        · have HC2 := hid (HC.out.new HLK.out htn hI)
          have HI := hid hI
          clear hI
          have hm3 : m' + 1 ≤ n := by have h1 := HC2.out.mks.le; rw [List.length_append, HSL.out] at h1; simpa using h1
          go_wp2_with (first | (go_at_call 73; refine (within_any _ _ _).mono ?_; rintro e w2 ⟨rfl, hw⟩; obtain rfl := hw.symm) | (go_at_call 104; refine (let_yes t HM.out htn HI.out).mono ?_; rintro e w2 ⟨rfl, k2, hw2⟩; have HM2 := hid (show MAt B w2 P wt ft ib n ws fs WL FL (I'.set t (sets + 1)) (sets + 1) by rw [hw2]; exact (HM.out.drew k2).setI t (sets + 1)); have HO2 := hid (show w2.ownsRow B 3 1 (.slice vo m' vc) m' (i64s S) by rw [hw2]; exact own_keepCh (own_keepCh HO.out hPB hIB (Ch.drew P ib none _ k2)) hPB hIB (Ch.setCell P ib none _ _ _ (.inr rfl))); have HCh2 := hid (show Ch P ib none w w2 by rw [hw2]; exact (HCh.out.trans (Fr.none _ _) (Ch.drew P ib none _ k2)).trans (Fr.none _ _) (Ch.setCell P ib none _ _ _ (.inr rfl))); have hB2 := HM2.out.hB; clear hw2) | (at_builtin; refine wpList_append_lies _ rfl _ _ 22 rfl B 3 i0 (.int .i64 0) 1 8 Tryd.underlying22 hi3 hz0 hz1 hz2 rfl (by decide) (.slice vo m' vc) m' (i64s S) rfl (HO2.out.alloc _) ⟨w2.heap.size, 0, none⟩ 1 1 [.int .i64 (t : Int)] rfl rfl (news_one w2 _ 3) (i64s_one [(t : Int)]) (by decide) (by unfold maxLen; omega) (by omega) (by simp; omega) (w2.heap.size + 1) (by simp) ?_; intro q3 c3 w3 o3 gr3 hl3 hlt3))
          have HO3 := hid (show w3.ownsRow B 3 1 (.slice (some ⟨q3, 0, none⟩) (m' + 1) c3) (m' + 1) (i64s (S ++ [(t : Int)])) by rw [i64s_snoc]; exact o3)
          have HM3 := hid ((HM2.out.alloc (.cells #[.int .i64 (t : Int)] 3)).grown gr3 (own_row HO2.out))
          have HCh3 := hid ((HCh2.out.trans (Fr.none _ _) (Ch.alloc P ib none w2 (.cells #[.int .i64 (t : Int)] 3))).trans HFr.out (Ch.grown gr3))
          have HFr3 := hid (show Fr w none (Value.slice (some ⟨q3, 0, none⟩) (m' + 1) c3).ownBlock by
            rcases hl3 with h1 | h1
            · have h2 := HFr.out; rw [show (Value.slice vo m' vc).ownBlock = some q3 from h1] at h2; exact h2
            · refine .inr (.inr ⟨q3, rfl, ?_⟩); have h2 := HCh2.out.size; omega)
          have HSL3 := hid (show (S ++ [(t : Int)]).length = m' + 1 by rw [List.length_append, HSL.out]; rfl)
          clear o3 gr3 hl3 hlt3
          go_roundw
          case rel => exact ⟨k + 1, m' + 1, S ++ [(t : Int)], I'.set t (sets + 1), some ⟨q3, 0, none⟩, c3, by go_num, rfl, by omega, hm3, HSL3, HO3, HM3, HC2, HCh3, HFr3⟩
          case measure => simp [intOf]; omega
      · have hno : x < 0 ∨ (n : Int) ≤ x := by
          by_cases h0 : x < 0
          · exact .inl h0
          · by_cases h1 : (n : Int) ≤ x
            · exact .inr h1
            · rw [wn_yes (by omega) (by omega)] at hW; cases hW
        have HC2 := hid (HC.out.out HLK.out hno)
        clear hno
        go_wp2_with (first | (go_at_call 73; refine (within_any _ _ _).mono ?_; rintro e w2 ⟨rfl, hw⟩; obtain rfl := hw.symm))
        go_roundw
        case rel => exact ⟨k + 1, m', S, I', vo, vc, by go_num, rfl, by omega, hm'n, HSL, HO, HM, HC2, HCh, HFr⟩
        case measure => simp [intOf]; omega
    · have k3 : ¬ (k : Int) < (ln : Int) := by omega
      have HIF := hid (show ∀ x, x ∈ S ↔ (x ∈ l ∧ 0 ≤ x ∧ x < (n : Int)) from fun x => by
        have h1 := HC.out.iff x
        rw [List.take_of_length_le (by have := HLN.out; omega)] at h1
        exact h1)
      go_wp2_with (first | (go_at_call 105; refine (closed_any S vo m' vc HM.out HO.out HC.out.mks HFL.out hn).mono ?_; rintro e w2 ⟨v2, rfl, q2⟩; have HQ := hid q2; clear q2))
      go_ret
      exact ⟨_, rfl, ClQ.lift HCh.out HFr.out HIF.out HQ.out⟩
end
end Go.Proofs.YteacehfihogmpaaDoor
