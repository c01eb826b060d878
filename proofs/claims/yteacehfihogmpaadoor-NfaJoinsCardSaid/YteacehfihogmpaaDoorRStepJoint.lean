/- The contract of rises (the document's). -/
import Derived.Test.YteacehfihogmpaaDoorRows6
import Derived.Test.YteacehfihogmpaaDoorFormed
import Derived.Test.YteacehfihogmpaaDoorCheck
import Derived.Test.YteacehfihogmpaaDoorTakesJoint
import Derived.Deep.AppendSrc
namespace Go.Proofs.YteacehfihogmpaaDoor
open Go.RowKit

set_option maxHeartbeats 1000000 in
theorem rises_any (ao : Option Addr) (ac n : Nat) (l : List Int) (w : World) (hn : n = l.length) (ha : RdI w ao l) (hl : n ≤ most) :
    Calls Tryd.prog 113 #[.slice ao n ac] w fun e w' => e = .returned (.bool (rs (-1) l)) ∧ Below w.heap.size w w' := by
  unfold most at hl
  have HA := hid ha
  have HN := hid hn
  clear ha hn
  go_enter Tryd.func113, Tryd.ntmps113
  go_wp2
  go_loopw [3] (fun x wr => ∃ (k : Nat) (last : Int), x = .int .i64 k ∧ k ≤ n ∧ Hid (rs (-1) l = rs last (l.drop k)) ∧ (k = 0 → last = -1) ∧ (0 < k → 0 ≤ last ∧ l[k - 1]? = some last) ∧ Hid (Below w.heap.size w wr)) (fun y _ => n - (intOf y).toNat)
  case atStart => exact ⟨0, -1, rfl, Nat.zero_le _, rfl, fun _ => rfl, fun h => by omega, Below.refl _ _⟩
  case round =>
    obtain ⟨k, last, rfl, hk, HE, hl0, hl1, HB⟩ := hrel
    by_cases hlt : k < n
    · have hkl : k < l.length := by have := HN.out; omega
      obtain ⟨a, rfl, ha, a0⟩ := HA.out.below HB.out k l[k] (List.getElem?_eq_getElem hkl)
      have HD := hid (drop_at hkl)
      rw [HD.out] at HE
      have HZ := hid (List.getElem?_eq_getElem hkl)
      obtain ⟨z, hz⟩ : ∃ z, z = l[k] := ⟨_, rfl⟩
      rw [← hz] at a0 HE HZ
      have i3 : (k : Int) < (n : Int) := by omega
      clear hz HD hkl
      by_cases c0 : z < 0
      · have hlow : z ≤ last := by
          by_cases h0 : k = 0
          · have := hl0 h0; omega
          · have := (hl1 (by omega)).1; omega
        have HF := hid (HE.out.trans (rs_bad (.inl hlow)))
        clear hl0 hl1 hlow
        have d0 : decide (z < 0) = true := decide_eq_true c0
        go_wp2_with fail
        go_quiet (fail)
        go_wp2
        go_ret
        exact ⟨by rw [HF.out]; rfl, below_drN HB.out _⟩
      · have c0' : ¬ z < 0 := c0
        by_cases c2 : 64 ≤ z
        · have HF := hid (HE.out.trans (rs_bad (.inr c2)))
          clear hl0 hl1
          have d0 : decide (z < 0) = false := decide_eq_false c0
          have d1 : decide (64 ≤ z) = true := decide_eq_true c2
          go_wp2_with fail
          go_quiet (fail)
          go_wp2
          go_ret
          exact ⟨by rw [HF.out]; rfl, below_drN HB.out _⟩
        · by_cases h0 : 0 < k
          · obtain ⟨hp, hq⟩ := hl1 h0
            obtain ⟨a', ha', _, a1⟩ := HA.out.below HB.out (k - 1) last hq
            cases ha'
            have i4 : (0 : Int) < (k : Int) := by omega
            have i5 : ((k : Int) - 1) = ((k - 1 : Nat) : Int) := by omega
            clear hl0 hl1 hq
            have d0 : decide (z < 0) = false := decide_eq_false c0
            have d1 : decide (64 ≤ z) = false := decide_eq_false c2
            have d2 : decide (0 < (k : Int)) = true := decide_eq_true i4
            have ewr : IntKind.i64.wrap ((k : Int) - 1) = ((k - 1 : Nat) : Int) := by rw [IntKind.wrap_i64]; omega
            have i6 : (0 : Int) ≤ ((k - 1 : Nat) : Int) := by omega
            have i7 : ((k - 1 : Nat) : Int) < (n : Int) := by omega
            by_cases c1 : z ≤ last
            · have HF := hid (HE.out.trans (rs_bad (.inl c1)))
              have d3 : decide (z ≤ last) = true := decide_eq_true c1
              go_wp2_with fail
              go_quiet (fail)
              go_wp2
              go_ret
              exact ⟨by rw [HF.out]; rfl, below_drN HB.out _⟩
            · have HF := hid (HE.out.trans (rs_ok (by omega) (by omega)))
              have d3 : decide (z ≤ last) = false := decide_eq_false c1
              go_wp2_with fail
              go_quiet (fail)
              go_wp2
              go_roundw
              case rel => exact ⟨k + 1, z, by go_num, by omega, HF, fun h => by omega, fun _ => ⟨by omega, HZ.out⟩, below_drN HB.out _⟩
              case measure => simp [intOf]; omega
          · have hm := hl0 (by omega)
            have HF := hid (HE.out.trans (rs_ok (by omega) (by omega)))
            have d0 : decide (z < 0) = false := decide_eq_false c0
            have d1 : decide (64 ≤ z) = false := decide_eq_false c2
            have i4 : ¬ (0 : Int) < (k : Int) := by omega
            have d2 : decide (0 < (k : Int)) = false := decide_eq_false i4
            clear hl0 hl1 hm
            go_wp2_with fail
            go_quiet (fail)
            go_wp2
            go_roundw
            case rel => exact ⟨k + 1, z, by go_num, by omega, HF, fun h => by omega, fun _ => ⟨by omega, HZ.out⟩, below_drN HB.out _⟩
            case measure => simp [intOf]; omega
    · have HD := hid (drop_end (l := l) (k := k) (by have := HN.out; omega))
      rw [HD.out] at HE
      clear hl0 hl1
      go_wp2
      go_ret
      exact ⟨by rw [HE.out]; rfl, HB.out⟩
end Go.Proofs.YteacehfihogmpaaDoor
/- The contract of right (the document's). -/
namespace Go.Proofs.YteacehfihogmpaaDoor
open Go.RowKit

set_option maxHeartbeats 1000000 in
theorem right_any (eo fo : Option Addr) (ec fc en fn : Nat) (E : List Ed) (F : List Int) (c : Int) (w : World) (hen : en = E.length) (hfn : fn = F.length) (he : RdE w eo E) (hf : RdI w fo F) (hel : en ≤ most) (hfl : fn ≤ most) :
    Calls Tryd.prog 75 #[.agg #[.slice eo en ec, .slice fo fn fc], .int .i64 c] w fun e w' => e = .returned (.bool (fmd c (E, F))) ∧ Below w.heap.size w w' := by
  unfold most at hel hfl
  have HE := hid he
  have HF := hid hf
  have HEN := hid hen
  have HFN := hid hfn
  clear he hf hen hfn
  go_enter Tryd.func75, Tryd.ntmps75
  go_wp2
  go_loopw [5] (fun x wr => ∃ k : Nat, x = .int .i64 k ∧ k ≤ en ∧ Hid (edg c E = edg c (E.drop k)) ∧ Hid (Below (w.heap.size + 1) (w.alloc (.cells #[.slice eo en ec, .slice fo fn fc] 86)) wr)) (fun x _ => en - (intOf x).toNat)
  case atStart => exact ⟨0, rfl, Nat.zero_le _, rfl, box_self⟩
  case round =>
    obtain ⟨k, rfl, hk, HEK, HB⟩ := hrel
    obtain ⟨c0, c1⟩ := box2 HB.out
    by_cases hlt : k < en
    · have hkl : k < E.length := by have := HEN.out; omega
      obtain ⟨a, rfl, ha, co, cc, a0, a1, hI, hcl⟩ := HE.out.boxed HB.out k E[k] (List.getElem?_eq_getElem hkl)
      have HD := hid (drop_at hkl)
      rw [HD.out] at HEK
      obtain ⟨g, hg⟩ : ∃ g, g = E[k] := ⟨_, rfl⟩
      rw [← hg] at a0 a1 HEK hI hcl
      clear hg HD hkl
      obtain ⟨C, t⟩ := g
      dsimp only at a0 a1 hI hcl
      obtain ⟨n1, hn1⟩ : ∃ n1, n1 = C.length := ⟨_, rfl⟩
      rw [← hn1] at a0 hcl
      have HN1 := hid hn1
      have HCL := hid hcl
      have HI := hid hI
      clear hn1 hcl hI
      have i3 : (k : Int) < (en : Int) := by omega
      by_cases t0 : t < 0
      · have HF1 := hid (fmd_no1 (F := F) (HEK.out.trans (edg_no1 (wn_no (.inl t0)))))
        go_wp2
        go_ret
        exact ⟨by rw [HF1.out]; rfl, box_trans HB.out⟩
      · by_cases t1 : c ≤ t
        · have HF1 := hid (fmd_no1 (F := F) (HEK.out.trans (edg_no1 (wn_no (.inr t1)))))
          go_wp2
          go_ret
          exact ⟨by rw [HF1.out]; rfl, box_trans HB.out⟩
        · have HW := hid (wn_yes (i := t) (n := c) (by omega) (by omega))
          rcases bool_cases (rs (-1) C) with hR | hR
          · have HF1 := hid (HEK.out.trans (edg_ok HW.out hR))
            go_wp2_with (first | (go_at_call 113; refine (rises_any _ _ _ C _ HN1.out HI.out HCL.out).mono ?_; rintro e w' ⟨rfl, hb'⟩))
            have HB2 := hid (HB.out.trans (hb'.mono (by have := HB.out.size; simp at this; omega)))
            go_roundw
            case rel => exact ⟨k + 1, by go_num, by omega, HF1, HB2⟩
            case measure => simp [intOf]; omega
          · have HF1 := hid (fmd_no1 (F := F) (HEK.out.trans (edg_no2 hR)))
            go_wp2_with (first | (go_at_call 113; refine (rises_any _ _ _ C _ HN1.out HI.out HCL.out).mono ?_; rintro e w' ⟨rfl, hb'⟩))
            have HB2 := hid (HB.out.trans (hb'.mono (by have := HB.out.size; simp at this; omega)))
            go_ret
            exact ⟨by rw [HF1.out]; rfl, box_trans HB2.out⟩
    · have HD := hid (drop_end (l := E) (k := k) (by have := HEN.out; omega))
      rw [HD.out] at HEK
      have HFM := hid (fmd_go (F := F) HEK.out)
      have HFI := hid (HF.out.boxed HB.out)
      have HBB := hid (box_trans HB.out)
      clear HEK HD HE HF HB
      go_wp2
      go_loop [6] (fun x => ∃ j : Nat, x = .int .i64 j ∧ j ≤ fn ∧ Hid (fre c F = fre c (F.drop j))) (fun x => fn - (intOf x).toNat)
      case atStart => exact ⟨0, rfl, Nat.zero_le _, rfl⟩
      case round =>
        obtain ⟨j, rfl, hj, HFJ⟩ := hrel
        by_cases hjl : j < fn
        · have hkl : j < F.length := by have := HFN.out; omega
          obtain ⟨b, rfl, hb, b0⟩ := HFI.out j F[j] (List.getElem?_eq_getElem hkl)
          have HD := hid (drop_at hkl)
          rw [HD.out] at HFJ
          obtain ⟨z, hz⟩ : ∃ z, z = F[j] := ⟨_, rfl⟩
          rw [← hz] at b0 HFJ
          clear hz HD hkl
          have i4 : (j : Int) < (fn : Int) := by omega
          by_cases t0 : z < 0
          · have HF1 := hid (HFM.out.trans (HFJ.out.trans (fre_no (wn_no (.inl t0)))))
            go_wp2
            go_ret
            exact ⟨by rw [HF1.out]; rfl, HBB.out⟩
          · by_cases t1 : c ≤ z
            · have HF1 := hid (HFM.out.trans (HFJ.out.trans (fre_no (wn_no (.inr t1)))))
              go_wp2
              go_ret
              exact ⟨by rw [HF1.out]; rfl, HBB.out⟩
            · have HF1 := hid (HFJ.out.trans (fre_ok (wn_yes (by omega) (by omega))))
              go_wp2
              go_round
              case rel => exact ⟨j + 1, by go_num, by omega, HF1⟩
              case measure => simp [intOf]; omega
        · have HD := hid (drop_end (l := F) (k := j) (by have := HFN.out; omega))
          rw [HD.out] at HFJ
          have HF1 := hid (HFM.out.trans HFJ.out)
          go_wp2
          go_ret
          exact ⟨by rw [HF1.out]; rfl, HBB.out⟩
end Go.Proofs.YteacehfihogmpaaDoor
/- The contract of Check (the document's). -/
namespace Go.Proofs.YteacehfihogmpaaDoor
open Go.RowKit

set_option maxHeartbeats 1000000 in
theorem rcheck_any (so : Option Addr) (sc n : Nat) (L : List St) (s f : Int) (w : World) (hn : n = L.length) (hs : RdS w so L) (hl : n ≤ most) :
    Calls Tryd.prog 25 #[.agg #[.slice so n sc, .int .i64 s, .int .i64 f]] w fun e w' => e = .returned (.tuple #[.int .i64 (chk L s f).1, .int .i64 (chk L s f).2]) ∧ Below w.heap.size w w' := by
  unfold most at hl
  have HN := hid hn
  have HS := hid hs
  clear hn hs
  by_cases hm : 4096 < n
  · have HC := hid (chk_many (s := s) (e := f) (show 4096 < L.length by rw [← HN.out]; exact hm))
    have hm' : (4096 : Int) < (n : Int) := by omega
    go_enter Tryd.func25, Tryd.ntmps25
    go_wp2
    go_ret2
    exact ⟨by rw [HC.out]; rfl, below_box⟩
  · have hm' : ¬ (4096 : Int) < (n : Int) := by omega
    have HM := hid (show ¬ 4096 < L.length by rw [← HN.out]; exact hm)
    by_cases s0 : s < 0
    · have HC := hid (chk_start HM.out (.inl (wn_no (.inl s0))) (e := f))
      go_enter Tryd.func25, Tryd.ntmps25
      go_wp2
      go_ret2
      exact ⟨by rw [HC.out]; rfl, below_box⟩
    · by_cases s1 : (n : Int) ≤ s
      · have HC := hid (chk_start HM.out (.inl (show wn s L.length = false by rw [← HN.out]; exact wn_no (.inr s1))) (e := f))
        go_enter Tryd.func25, Tryd.ntmps25
        go_wp2
        go_ret2
        exact ⟨by rw [HC.out]; rfl, below_box⟩
      · by_cases f0 : f < 0
        · have HC := hid (chk_start HM.out (.inr (wn_no (.inl f0))) (s := s))
          go_enter Tryd.func25, Tryd.ntmps25
          go_wp2
          go_ret2
          exact ⟨by rw [HC.out]; rfl, below_box⟩
        · by_cases f1 : (n : Int) ≤ f
          · have HC := hid (chk_start HM.out (.inr (show wn f L.length = false by rw [← HN.out]; exact wn_no (.inr f1))) (s := s))
            go_enter Tryd.func25, Tryd.ntmps25
            go_wp2
            go_ret2
            exact ⟨by rw [HC.out]; rfl, below_box⟩
          · have HC := hid (chk_go HM.out (show wn s L.length = true by rw [← HN.out]; exact wn_yes (by omega) (by omega)) (show wn f L.length = true by rw [← HN.out]; exact wn_yes (by omega) (by omega)))
            rw [← HN.out] at HC
            go_enter Tryd.func25, Tryd.ntmps25
            go_wp2
            go_loopw [5] (fun x wr => ∃ k : Nat, x = .int .i64 k ∧ k ≤ n ∧ Hid (fsb n 0 L = fsb n k (L.drop k)) ∧ Hid (Below (w.heap.size + 1) (w.alloc (.cells #[.slice so n sc, .int .i64 s, .int .i64 f] 28)) wr)) (fun x _ => n - (intOf x).toNat)
            case atStart => exact ⟨0, rfl, Nat.zero_le _, rfl, box_self⟩
            case round =>
              obtain ⟨k, rfl, hk, HEK, HB⟩ := hrel
              obtain ⟨c0, _, _⟩ := box3 HB.out
              by_cases hlt : k < n
              · have hkl : k < L.length := by have := HN.out; omega
                obtain ⟨a, rfl, ha, eo, ec, fo, fc, a0, a1, hE, hF, hel, hfl⟩ := HS.out.boxed HB.out k L[k] (List.getElem?_eq_getElem hkl)
                have HD := hid (drop_at hkl)
                rw [HD.out] at HEK
                obtain ⟨g, hg⟩ : ∃ g, g = L[k] := ⟨_, rfl⟩
                rw [← hg] at a0 a1 HEK hE hF hel hfl
                clear hg HD hkl
                obtain ⟨E, F⟩ := g
                dsimp only at a0 a1 hE hF hel hfl
                obtain ⟨en, hen⟩ : ∃ n1, n1 = E.length := ⟨_, rfl⟩
                obtain ⟨fn, hfn⟩ : ∃ n1, n1 = F.length := ⟨_, rfl⟩
                rw [← hen] at a0 hel
                rw [← hfn] at a1 hfl
                have HEN := hid hen
                have HFN := hid hfn
                have HEL := hid hel
                have HFL := hid hfl
                have HE := hid hE
                have HF := hid hF
                clear hen hfn hel hfl hE hF
                have i3 : (k : Int) < (n : Int) := by omega
                rcases bool_cases (fmd n (E, F)) with hW | hW
                · have HF1 := hid (HEK.out.trans (fsb_ok hW))
                  go_wp2_with (first | (go_at_call 75; refine (right_any _ _ _ _ _ _ E F _ _ HEN.out HFN.out HE.out HF.out HEL.out HFL.out).mono ?_; rintro e w' ⟨rfl, hb'⟩))
                  have HB2 := hid (HB.out.trans (hb'.mono (by have := HB.out.size; simp at this ⊢; omega)))
                  go_roundw
                  case rel => exact ⟨k + 1, by go_num, by omega, by have h := HF1.out; rw [show ((k : Int) + 1) = ((k + 1 : Nat) : Int) by omega] at h; exact h, HB2⟩
                  case measure => simp [intOf]; omega
                · have HF1 := hid (HC.out.trans (HEK.out.trans (fsb_no hW)))
                  go_wp2_with (first | (go_at_call 75; refine (right_any _ _ _ _ _ _ E F _ _ HEN.out HFN.out HE.out HF.out HEL.out HFL.out).mono ?_; rintro e w' ⟨rfl, hb'⟩))
                  have HB2 := hid (HB.out.trans (hb'.mono (by have := HB.out.size; simp at this ⊢; omega)))
                  go_ret2
                  exact ⟨by rw [HF1.out]; rfl, box_trans HB2.out⟩
              · have HD := hid (drop_end (l := L) (k := k) (by have := HN.out; omega))
                rw [HD.out] at HEK
                have HF1 := hid (HC.out.trans HEK.out)
                go_wp2
                go_ret2
                exact ⟨by rw [HF1.out]; rfl, box_trans HB.out⟩
end Go.Proofs.YteacehfihogmpaaDoor
/- The document's sets of states as lists of bools; its Good, has, list and of. -/
namespace Go.Proofs.YteacehfihogmpaaDoor
open Go.RowKit

def bls (l : List Bool) : List Value := l.map fun b => .bool b
theorem bls_len (l : List Bool) : (bls l).length = l.length := by simp [bls]
theorem bls_at (l : List Bool) (k : Nat) : (bls l)[k]? = (l[k]?).map fun b => .bool b := by simp [bls]
theorem bls_set (l : List Bool) (k : Nat) (b : Bool) : (bls l).set k (.bool b) = bls (l.set k b) := by simp [bls, List.map_set]
theorem bls_one (l : List Bool) : ∀ u ∈ bls l, u.oneCell' = true := fun u hu => by
  obtain ⟨z, _, rfl⟩ := List.mem_map.1 hu
  rfl
theorem Tryd.info4 : (Tryd.prog.info? 4).map (fun i => (i.zero, i.size, i.bytes)) = some (some (.bool false), 1, 1) := by kernel_rfl
/-- The numbers of a list of bools. -/
def tru (bs : List Bool) (x : Int) : Prop := 0 ≤ x ∧ bs[x.toNat]? = some true
theorem tru_nat {bs : List Bool} {k : Nat} : tru bs (k : Int) ↔ bs[k]? = some true := by unfold tru; simp
theorem tru_lt {bs : List Bool} {x : Int} (h : tru bs x) : 0 ≤ x ∧ x < (bs.length : Int) := by
  have := (List.getElem?_eq_some_iff.1 h.2).1
  have := h.1
  omega
theorem tru_set {bs : List Bool} {k : Nat} (hk : k < bs.length) (x : Int) : tru (bs.set k true) x ↔ tru bs x ∨ x = (k : Int) := by
  unfold tru
  by_cases h0 : 0 ≤ x
  · by_cases hx : x.toNat = k
    · have hx' : x = (k : Int) := by omega
      subst hx'
      simp [hk]
    · rw [List.getElem?_set_ne (by omega)]
      constructor
      · exact fun h => .inl h
      · rintro (h | h)
        · exact h
        · omega
  · constructor
    · exact fun h => absurd h.1 h0
    · rintro (h | h)
      · exact absurd h.1 h0
      · omega
theorem tru_falses (n : Nat) (x : Int) : ¬ tru (List.replicate n false) x := by
  unfold tru
  rintro ⟨_, h⟩
  rw [List.getElem?_replicate] at h
  split at h <;> simp at h
theorem bls_falses (n : Nat) : (madeCells (Value.bool false).cells (n * 1)).toList = bls (List.replicate n false) := by
  rw [Nat.mul_one, show (Value.bool false).cells = #[.bool false] from rfl, toList_madeCells_one]
  simp [bls]
/-- A slice of bools, nil or not, reads as a list. -/
def RdB (w : World) (ao : Option Addr) (l : List Bool) : Prop :=
  ∀ (k : Nat) (b : Bool), l[k]? = some b → ∃ a : Addr, ao = some a ∧ a.block < w.heap.size ∧ w.cell? (a.add k) = some (.bool b)
theorem RdB.below {w w' : World} {ao : Option Addr} {l : List Bool} (h : RdB w ao l) (hb : Below w.heap.size w w') : RdB w' ao l := fun k z hk => by
  obtain ⟨a, h1, h2, h3⟩ := h k z hk
  exact ⟨a, h1, Nat.lt_of_lt_of_le h2 hb.size, (hb.cell (p := a.add k) (by rw [add_blk]; exact h2)).trans h3⟩
theorem rdb_own {B m vc : Nat} {w : World} {vo : Option Addr} {l : List Bool} (h : w.ownsRow B 4 1 (.slice vo m vc) m (bls l)) : RdB w vo l := fun i x hi => by
  have hil := (List.getElem?_eq_some_iff.1 hi).1
  have hl := h.1
  rw [bls_len] at hl
  rcases h.2 with ⟨_, h0⟩ | ⟨g, cap, cur, hv, hb, hg, _⟩
  · omega
  · simp only [Value.slice.injEq, true_and] at hv
    obtain ⟨rfl, rfl⟩ := hv
    refine ⟨_, rfl, (Array.getElem?_eq_some_iff.1 hg).1, ?_⟩
    rw [Addr.add_lit, Nat.zero_add, h.cellAt i (by omega), bls_at, hi]
    rfl
theorem ownb_at {B m vc g : Nat} {w : World} {l : List Bool} (h : w.ownsRow B 4 1 (.slice (some ⟨g, 0, none⟩) m vc) m (bls l)) {i : Nat} {b : Bool} (hi : l[i]? = some b) : w.cell? ⟨g, i, none⟩ = some (.bool b) := by
  have hil := (List.getElem?_eq_some_iff.1 hi).1
  have hl := h.1
  rw [bls_len] at hl
  rw [h.cellAt i (by omega), bls_at, hi]
  rfl
/-- What a call leaves that tells a set of states as bools. -/
def BoQ (w : World) (n : Nat) (A : Int → Prop) (e : Ending) (w' : World) : Prop :=
  ∃ (bs : List Bool) (g vc : Nat), e = .returned (.slice (some ⟨g, 0, none⟩) n vc) ∧ w'.ownsRow w.heap.size 4 1 (.slice (some ⟨g, 0, none⟩) n vc) n (bls bs) ∧ bs.length = n ∧ (∀ x, tru bs x ↔ A x) ∧ Below w.heap.size w w'
theorem rgood_any (so : Option Addr) (sc n : Nat) (L : List St) (s f : Int) (w : World) (hn : n = L.length) (hs : RdS w so L) (hl : n ≤ most) :
    Calls Tryd.prog 37 #[.agg #[.slice so n sc, .int .i64 s, .int .i64 f]] w fun e w' => e = .returned (.bool (gdB L s f)) ∧ Below w.heap.size w w' := by
  have HS := hid hs
  have HN := hid hn
  have HL := hid hl
  clear hs hn hl
  go_enter Tryd.func37, Tryd.ntmps37
  go_wp2_with fail
  refine (rcheck_any so sc n L s f _ HN.out (HS.out.below below_box) HL.out).mono ?_
  rintro e w1 ⟨rfl, b1⟩
  have HB := hid (box_trans (show Below (w.heap.size + 1) (w.alloc (.cells #[.slice so n sc, .int .i64 s, .int .i64 f] 28)) w1 by simpa using b1))
  have HG := hid (show gdB L s f = ((chk L s f).1 == 0) from rfl)
  clear b1
  go_wp2
  go_ret
  exact ⟨by rw [HG.out]; rfl, HB.out⟩
set_option maxHeartbeats 1000000 in
theorem has_any (ao : Option Addr) (ac n : Nat) (l : List Int) (c : Int) (w : World) (hn : n = l.length) (ha : RdI w ao l) (hl : n ≤ most) :
    Calls Tryd.prog 116 #[.slice ao n ac, .int .i64 c] w fun e w' => e = .returned (.bool (decide (c ∈ l))) ∧ w' = w := by
  unfold most at hl
  have HA := hid ha
  have HN := hid hn
  clear ha hn
  go_enter Tryd.func116, Tryd.ntmps116
  go_wp2
  go_loop [5] (fun y => ∃ k : Nat, y = .int .i64 k ∧ k ≤ n ∧ Hid (¬ c ∈ l.take k)) (fun y => n - (intOf y).toNat)
  case atStart => exact ⟨0, rfl, Nat.zero_le _, by simp [Hid]⟩
  case round =>
    obtain ⟨k, rfl, hk, HE⟩ := hrel
    by_cases hlt : k < n
    · have hkl : k < l.length := by have := HN.out; omega
      obtain ⟨a, rfl, ha, a0⟩ := HA.out k l[k] (List.getElem?_eq_getElem hkl)
      have HM := hid (fun x => mem_take_at (x := x) (List.getElem?_eq_getElem hkl))
      have HL := hid (List.getElem_mem hkl)
      obtain ⟨z, hz⟩ : ∃ z, z = l[k] := ⟨_, rfl⟩
      rw [← hz] at a0 HM HL
      clear hz hkl
      have i3 : (k : Int) < (n : Int) := by omega
      by_cases c1 : z = c
      · have HF := hid (show decide (c ∈ l) = true from decide_eq_true (by rw [← c1]; exact HL.out))
        have b1 : (z == c) = true := beq_iff_eq.2 c1
        clear c1
        go_wp2
        go_ret
        exact ⟨by rw [HF.out]; rfl, rfl⟩
      · have HF := hid (show ¬ c ∈ l.take (k + 1) by rw [HM.out c]; exact fun h => h.elim HE.out (fun e => c1 e.symm))
        have b1 : (z == c) = false := beq_eq_false_iff_ne.2 c1
        clear c1
        go_wp2
        go_round
        case rel => exact ⟨k + 1, by go_num, by omega, HF⟩
        case measure => simp [intOf]; omega
    · have HF := hid (show decide (c ∈ l) = false from decide_eq_false (by have h := HE.out; rw [List.take_of_length_le (by have := HN.out; omega)] at h; exact h))
      have i3 : ¬ (k : Int) < (n : Int) := by omega
      go_wp2
      go_ret
      exact ⟨by rw [HF.out]; rfl, rfl⟩
set_option maxHeartbeats 2000000 in
theorem rlist_any (ao : Option Addr) (ac n : Nat) (bs : List Bool) (w : World) (hn : bs.length = n) (ha : RdB w ao bs) (hl : n ≤ 4096) :
    Calls Tryd.prog 77 #[.slice ao n ac] w fun e w' => SetQ w n (tru bs) e w' := by
  obtain ⟨i0, hi3, hz0, hz1, hz2⟩ := info_parts Tryd.info3
  have HA := hid ha
  have HN := hid hn
  clear ha hn
  go_enter Tryd.func77, Tryd.ntmps77
  go_wp2
  go_loopw [3, 4] (fun x y wr => ∃ (i m : Nat) (T : List Int) (vo : Option Addr) (vc : Nat), x = .slice vo m vc ∧ y = .int .i64 i ∧ i ≤ n ∧ m ≤ i ∧ Hid (T.length = m) ∧ Hid (wr.ownsRow w.heap.size 3 1 (.slice vo m vc) m (i64s T)) ∧ Hid (T.Pairwise (· < ·)) ∧ Hid (∀ x, x ∈ T ↔ tru bs x ∧ x < (i : Int)) ∧ Hid (Below w.heap.size w wr)) (fun _ y _ => n - (intOf y).toNat)
  case atStart => exact ⟨0, 0, [], none, 0, rfl, rfl, Nat.zero_le _, Nat.zero_le _, rfl, World.ownsRow_nil _ _ _ _, List.Pairwise.nil, fun x => ⟨fun h => (by cases h), fun h => (by have := h.1.1; omega)⟩, Below.refl _ _⟩
  case round =>
    obtain ⟨i, m, T, vo, vc, rfl, rfl, hi, hm, HT, HO, HP, HI, HB⟩ := hrel
    by_cases hlt : i < n
    · have hib : i < bs.length := by have := HN.out; omega
      obtain ⟨a, rfl, _, a0⟩ := HA.out.below HB.out i bs[i] (List.getElem?_eq_getElem hib)
      have HBI := hid (List.getElem?_eq_getElem hib)
      obtain ⟨b, hb⟩ : ∃ b, b = bs[i] := ⟨_, rfl⟩
      rw [← hb] at a0 HBI
      clear hb hib
      have i3 : (i : Int) < (n : Int) := by omega
      have i0' : (0 : Int) ≤ (i : Int) := by omega
      have hsz := HB.out.size
      rcases bool_cases b with hb | hb
      · subst hb
        have HI2 := hid (show ∀ x, x ∈ T ++ [(i : Int)] ↔ tru bs x ∧ x < ((i + 1 : Nat) : Int) from fun x => by
          rw [List.mem_append, HI.out x, List.mem_singleton]
          constructor
          · rintro (h | h)
            · exact ⟨h.1, by omega⟩
            · subst h; exact ⟨tru_nat.2 HBI.out, by omega⟩
          · intro h
            by_cases hx : x = (i : Int)
            · exact .inr hx
            · exact .inl ⟨h.1, by have := h.2; omega⟩)
        have HP2 := hid (show (T ++ [(i : Int)]).Pairwise (· < ·) by
          rw [List.pairwise_append]
          refine ⟨HP.out, by simp, fun x hx y hy => ?_⟩
          rw [List.mem_singleton] at hy
          subst hy
          exact ((HI.out x).1 hx).2)
        go_wp2_with (at_builtin; refine wpList_append_lies _ rfl _ _ 22 rfl w.heap.size 3 i0 (.int .i64 0) 1 8 Tryd.underlying22 hi3 hz0 hz1 hz2 rfl (by decide) (.slice vo m vc) m (i64s T) rfl (HO.out.alloc _) ⟨wr.heap.size, 0, none⟩ 1 1 [.int .i64 (i : Int)] rfl rfl (news_one wr _ 3) (i64s_one [(i : Int)]) (by decide) (by unfold maxLen; omega) (by omega) (by simp; omega) (wr.heap.size + 1) (by simp) ?_; intro g5 ec5 w5 o5 gr5 hl5 hlt5; have HO5 := hid (show w5.ownsRow w.heap.size 3 1 (.slice (some ⟨g5, 0, none⟩) (m + 1) ec5) (m + 1) (i64s (T ++ [(i : Int)])) by (rw [i64s_snoc]; exact o5)); have HB5 := hid ((HB.out.alloc hsz (.cells #[.int .i64 (i : Int)] 3)).grown gr5 (by simp; omega) (fun k' hk' => (HO.out.lt k' hk').1)); clear o5 gr5 hl5 hlt5)
        go_roundw
        case rel => exact ⟨i + 1, m + 1, T ++ [(i : Int)], some ⟨g5, 0, none⟩, ec5, rfl, by go_num, by omega, by omega, by rw [List.length_append, HT.out]; rfl, HO5, HP2, HI2, HB5⟩
        case measure => simp [intOf]; omega
      · subst hb
        have HI2 := hid (show ∀ x, x ∈ T ↔ tru bs x ∧ x < ((i + 1 : Nat) : Int) from fun x => by
          rw [HI.out x]
          constructor
          · exact fun h => ⟨h.1, by have := h.2; omega⟩
          · intro h
            refine ⟨h.1, ?_⟩
            by_cases hx : x = (i : Int)
            · have h1 := h.1; rw [hx, tru_nat, HBI.out] at h1; cases h1
            · have := h.2; omega)
        go_wp2
        go_roundw
        case rel => exact ⟨i + 1, m, T, vo, vc, rfl, by go_num, by omega, by omega, HT, HO, HP, HI2, HB⟩
        case measure => simp [intOf]; omega
    · have i3 : ¬ (i : Int) < (n : Int) := by omega
      go_wp2
      go_ret
      have hq := HT.out
      subst hq
      exact ⟨T, vo, vc, rfl, HO.out, HP.out, fun x hx => by have h := tru_lt ((HI.out x).1 hx).1; have := HN.out; omega, fun x => (HI.out x).trans ⟨fun h => h.1, fun h => ⟨h, by have h' := tru_lt h; have := HN.out; omega⟩⟩, HB.out⟩
end Go.Proofs.YteacehfihogmpaaDoor
/- A queue of numbers: a slice, cut at its front, within a row of the call's own: its head, its rest, one element more behind. -/
namespace Go.Proofs.YteacehfihogmpaaDoor
open Go.RowKit

def QRow (B : Nat) (w : World) (v : Value) (q : List Int) : Prop :=
  (v = .slice none 0 0 ∧ q = []) ∨ ∃ (g o cap : Nat) (cur : Array Value), v = .slice (some ⟨g, o, none⟩) q.length cap ∧ B ≤ g ∧ w.heap[g]? = some (.cells cur 3) ∧ q.length ≤ cap ∧ o + cap ≤ cur.size ∧ ∀ k z, q[k]? = some z → cur[o + k]? = some (.int .i64 z)
theorem QRow.lt {B : Nat} {w : World} {v : Value} {q : List Int} (h : QRow B w v q) : ∀ k, v.ownBlock = some k → B ≤ k ∧ k < w.heap.size := fun k hk => by
  rcases h with ⟨rfl, _⟩ | ⟨g, o, cap, cur, rfl, hB, hg, _⟩
  · cases hk
  · cases hk; exact ⟨hB, (Array.getElem?_eq_some_iff.1 hg).1⟩
theorem QRow.same {B : Nat} {w w' : World} {v : Value} {q : List Int} (h : QRow B w v q) (hh : ∀ k, v.ownBlock = some k → k < w.heap.size → w'.heap[k]? = w.heap[k]?) : QRow B w' v q := by
  rcases h with h | ⟨g, o, cap, cur, rfl, hB, hg, rest⟩
  · exact .inl h
  · exact .inr ⟨g, o, cap, cur, rfl, hB, (hh g rfl (Array.getElem?_eq_some_iff.1 hg).1).trans hg, rest⟩
theorem QRow.kept {B : Nat} {w w' : World} {v : Value} {q : List Int} {row : Option Nat} (h : QRow B w v q) (hg : w.grownBy w' row) (hne : v.ownBlock = none ∨ v.ownBlock ≠ row) : QRow B w' v q :=
  h.same fun k hk hlt => hg.block k hlt (fun e => by
    rcases hne with h0 | h0
    · rw [hk] at h0; cases h0
    · exact h0 (hk.trans e))
theorem QRow.alloc {B : Nat} {w : World} {v : Value} {q : List Int} (h : QRow B w v q) (o : Obj) : QRow B (w.alloc o) v q := h.same fun k _ hlt => Below.heap_alloc w o k hlt
theorem QRow.drew {B : Nat} {w : World} {v : Value} {q : List Int} (h : QRow B w v q) : QRow B w.drew v q := h
theorem QRow.len {B : Nat} {w : World} {vo : Option Addr} {m c : Nat} {q : List Int} (h : QRow B w (.slice vo m c) q) : m = q.length := by
  rcases h with ⟨e, rfl⟩ | ⟨g, o, cap, cur, e, _⟩
  · cases e; rfl
  · cases e; rfl
theorem QRow.of_own {B : Nat} {w : World} {vo : Option Addr} {m c : Nat} {q : List Int} (h : w.ownsRow B 3 1 (.slice vo m c) m (i64s q)) : QRow B w (.slice vo m c) q := by
  have hl := h.1
  rw [i64s_len, Nat.mul_one] at hl
  rcases h.2 with ⟨h1, h2⟩ | ⟨g, cap, cur, hv, hb, hg, hn, hc, hs, ht⟩
  · exact .inl ⟨by rw [h1], List.eq_nil_of_length_eq_zero (by omega)⟩
  · refine .inr ⟨g, 0, cap, cur, by rw [hv, hl], hb, hg, by omega, by omega, fun k z hk => ?_⟩
    have hkl := (List.getElem?_eq_some_iff.1 hk).1
    have h3 : (i64s q)[k]? = some (.int .i64 z) := by rw [i64s_at, hk]; rfl
    rw [← ht, List.getElem?_take, if_pos (by omega)] at h3
    rw [Nat.zero_add, ← Array.getElem?_toList]
    exact h3
/-- The head. -/
theorem QRow.head {B : Nat} {w : World} {vo : Option Addr} {m c : Nat} {z : Int} {q : List Int} (h : QRow B w (.slice vo m c) (z :: q)) : ∃ g o, vo = some ⟨g, o, none⟩ ∧ w.cell? ⟨g, o, none⟩ = some (.int .i64 z) := by
  rcases h with ⟨_, e⟩ | ⟨g, o, cap, cur, e, _, hg, _, _, h1⟩
  · cases e
  · cases e
    refine ⟨g, o, rfl, ?_⟩
    rw [cell_of_row w g o cur 3 (0, 0) hg]
    exact h1 0 z rfl
/-- The rest. -/
theorem QRow.tail {B : Nat} {w : World} {vo : Option Addr} {m c : Nat} {z : Int} {q : List Int} (h : QRow B w (.slice vo m c) (z :: q)) : QRow B w (sliced vo 1 m c 1) q ∧ (sliced vo 1 m c 1).ownBlock = (Value.slice vo m c).ownBlock := by
  rcases h with ⟨_, e⟩ | ⟨g, o, cap, cur, e, hB, hg, hc, hs, h1⟩
  · cases e
  · cases e
    unfold sliced
    by_cases hc1 : c = 1
    · subst hc1
      rw [if_pos rfl]
      refine ⟨.inr ⟨g, o, 0, cur, by simp, hB, hg, ?_, by omega, fun k x hk => ?_⟩, rfl⟩
      · simp at hc; simp [hc]
      · simp at hc; subst hc; cases hk
    · rw [if_neg hc1]
      refine ⟨.inr ⟨g, o + 1, c - 1, cur, by simp [Addr.add_lit], hB, hg, by simp at hc; omega, by simp at hc; omega, fun k x hk => ?_⟩, by simp [Value.ownBlock, add_blk]⟩
      have := h1 (k + 1) x hk
      rw [show o + 1 + k = o + (k + 1) by omega]
      exact this
/-- Cutting the front off, in a walk. -/
theorem wpList_cut {w : World} {ops : Array Oper} {rest : List Oper} {o : Oper} {a : Act} {Q : Exit → Act → World → Prop} (hgd : o.guard = none) (x : Operand) (ho : o.op = .slice 22 x (some (.const (.int .i64 1))) none none)
    (B : Nat) (vo : Option Addr) (m c : Nat) (z : Int) (q : List Int) (hx : a.eval x = .slice vo m c) (hq : QRow B w (.slice vo m c) (z :: q))
    (h : ∀ vo' c', QRow B w (.slice vo' (m - 1) c') q → (Value.slice vo' (m - 1) c').ownBlock = (Value.slice vo m c).ownBlock → wpList Tryd.prog ops Q rest (a.put o.dst (.slice vo' (m - 1) c')) w) : wpList Tryd.prog ops Q (o :: rest) a w := by
  refine wpList_plain hgd fun K hK => ?_
  have hm := hq.len
  obtain ⟨t1, t2⟩ := hq.tail
  have hu : Tryd.prog.underlying 22 = some (.slice (Tryd.prog.elem 22)) := by kernel_rfl
  have he : Tryd.prog.elem 22 = 3 := by kernel_rfl
  obtain ⟨i0, hi3, hz0, hz1, hz2⟩ := info_parts Tryd.info3
  have hr := run_sliceAt_slice (P := Tryd.prog) w 22 (.slice vo m c) (some (.int .i64 1)) none none hu
  rw [run_slice_l (P := Tryd.prog) w 22 vo m c hu .i64 1 (by decide) (by rw [hm]; simp; omega), he] at hr
  have hs : (sizeOf 3).run Tryd.prog w = .ok 1 w := by simp [sizeOf, typeInfo, hi3, hz1]
  rw [hs, Result.andThen_ok] at hr
  unfold Oper.wp execOp
  have hc1 : a.eval (.const (.int .i64 1)) = .int .i64 1 := rfl
  simp only [ho, hx, hc1, Option.map_some, Option.map_none]
  simp
  rw [hr]
  exact hK _ _ (h _ _ t1 t2)
theorem blk_one {w : World} {g : Nat} {cur : Array Value} {j : Nat} (hg : w.heap[g]? = some (.cells cur 3)) (hj : j < cur.size) : (w.cell? ⟨g, j, none⟩).isSome = true := by
  rw [cell_of_row w g j cur 3 (0, 0) hg]
  simp [hj]
/-- One element more behind the queue. -/
theorem run_append_q (B : Nat) {w : World} {vo : Option Addr} {m vc : Nat} {q : List Int} (hq : QRow B w (.slice vo m vc) q) (ty : TypeId) (y : Int) (ad : Addr) (hnews : ∀ j u, [Value.int .i64 y][j]? = some u → w.cell? (ad.add j) = some u) (hl : q.length ≤ 1000000) (hB : B ≤ w.heap.size) :
    ∃ ao cap w', (Builtin.append_ #[22, 22] ty #[.slice vo m vc, .slice (some ad) 1 1]).run Tryd.prog w = .ok (.slice ao (m + 1) cap) w' ∧ QRow B w' (.slice ao (m + 1) cap) (q ++ [y]) ∧ w.grownBy w' (Value.slice vo m vc).ownBlock ∧ ((Value.slice ao (m + 1) cap).ownBlock = (Value.slice vo m vc).ownBlock ∨ (Value.slice ao (m + 1) cap).ownBlock = some w.heap.size) := by
  obtain ⟨i, hi, hz, hsize, hby⟩ := info_parts Tryd.info3
  have hm := hq.len
  have h1 : ∀ u ∈ [Value.int .i64 y], u.oneCell' = true := i64s_one [y]
  have hfin : ∀ (old : Nat) (hold : old < m + 1) (row : Option Nat), QRow B (w.drew.alloc (.cells ((i64s q).toArray ++ [Value.int .i64 y].toArray ++ Builtin.zeroCells (Value.int .i64 0).cells (grownCap w (m + 1) old 3 - (m + 1))) 3)) (.slice (some ⟨w.heap.size, 0, none⟩) (m + 1) (grownCap w (m + 1) old 3)) (q ++ [y]) ∧ w.grownBy (w.drew.alloc (.cells ((i64s q).toArray ++ [Value.int .i64 y].toArray ++ Builtin.zeroCells (Value.int .i64 0).cells (grownCap w (m + 1) old 3 - (m + 1))) 3)) row := by
    intro old hold row
    have hge := grownCap_ge w (m + 1) old 3
    refine ⟨.inr ⟨w.heap.size, 0, _, _, by rw [List.length_append, ← hm]; rfl, hB, heap_alloc_new w.drew _, by rw [List.length_append, ← hm]; exact hge, ?_, fun k z hk => ?_⟩, ⟨rfl, rfl, rfl, by simp, fun k hk _ => Below.heap_alloc w.drew _ k hk⟩⟩
    · simp only [Array.size_append, List.size_toArray, size_zeroCells, i64s_len, ← hm, List.length_cons, List.length_nil, show (Value.int .i64 0).cells.size = 1 from rfl]
      omega
    · have h2 : (i64s (q ++ [y]))[k]? = some (.int .i64 z) := by rw [i64s_at, hk]; rfl
      rw [i64s_snoc] at h2
      have hkl := (List.getElem?_eq_some_iff.1 h2).1
      rw [Nat.zero_add, ← Array.getElem?_toList, Array.toList_append, List.getElem?_append_left (by simpa using hkl)]
      simpa using h2
  rcases hq with ⟨e, rfl⟩ | ⟨g, o, cap, cur, e, hBg, hg, hle, hsz, hcur⟩
  · cases e
    have hr := run_append_nil (P := Tryd.prog) w 22 ty 3 i _ Tryd.underlying22 hi hz ad 1 1 [.int .i64 y] (by rw [hsize]; rfl) hnews (by omega) (by omega) (by rw [hby]; decide)
    obtain ⟨f1, f2⟩ := hfin 0 (by omega) (Value.slice none 0 0).ownBlock
    refine ⟨_, _, _, hr, ?_, ?_, .inr rfl⟩
    · simpa [i64s] using f1
    · simpa [i64s] using f2
  · cases e
    by_cases hroom : q.length + 1 ≤ vc
    · have hs : Src Tryd.prog i.size 22 (.slice (some ad) 1 1) 1 [.int .i64 y] w := Src.ofSlice w Tryd.underlying22 ad 1 1 [.int .i64 y] (by rw [hsize]; rfl) hnews h1
      have hr := run_append_room_src (P := Tryd.prog) (w := w) 22 22 ty 3 i Tryd.underlying22 hi g o q.length vc _ 1 [.int .i64 y] hs hroom (fun j hj => blk_one hg (by rw [hsize]; simp at hj; omega)) (fun j hj => frozen_of_row w g _ cur 3 hg)
      rw [hsize, Nat.mul_one] at hr
      refine ⟨_, _, _, hr, .inr ⟨g, o, vc, cur.setIfInBounds (o + q.length) (.int .i64 y), by rw [List.length_append]; rfl, hBg, heap_setCell_same w g (o + q.length) cur 3 _ hg, by rw [List.length_append]; exact hroom, by simpa using hsz, fun k z hk => ?_⟩, ⟨rfl, rfl, rfl, by simp [World.setCells], fun k _ hk => heap_setCell_other w ⟨g, o + q.length, none⟩ k _ (fun e => hk (by simp [Value.ownBlock, e]))⟩, .inl rfl⟩
      by_cases hkq : k < q.length
      · rw [List.getElem?_append_left hkq] at hk
        rw [Array.getElem?_setIfInBounds_ne (by omega)]
        exact hcur k z hk
      · have hkl := (List.getElem?_eq_some_iff.1 hk).1
        rw [List.length_append] at hkl
        have hke : k = q.length := by simp at hkl; omega
        subst hke
        rw [List.getElem?_append_right (Nat.le_refl _)] at hk
        simp at hk
        subst hk
        simp [Array.getElem?_setIfInBounds]
        omega
    · have hr := run_append_grow (P := Tryd.prog) w 22 ty 3 i _ Tryd.underlying22 hi hz ⟨g, o, none⟩ q.length vc (i64s q) (by rw [hsize, i64s_len, Nat.mul_one]) (fun j u hj => by
          rw [i64s_at] at hj
          obtain ⟨z, hz1, hz2⟩ := Option.map_eq_some_iff.1 hj
          rw [Addr.add_lit, cell_of_row w g _ cur 3 (0, 0) hg, hcur j z hz1, hz2]) ad 1 1 [.int .i64 y] (by rw [hsize]; rfl) hnews (by omega) (by omega) (growslice_fits (by omega) (by rw [hby]; omega))
      obtain ⟨f1, f2⟩ := hfin vc (by omega) (Value.slice (some ⟨g, o, none⟩) q.length vc).ownBlock
      exact ⟨_, _, _, hr, f1, f2, .inr rfl⟩
theorem wpList_append_q {w : World} {ops : Array Oper} {rest : List Oper} {o : Oper} {a : Act} {Q : Exit → Act → World → Prop} (hgd : o.guard = none) (s x : Operand) (ho : o.op = .call { callee := .builtin .append, args := #[s, x], argTypes := #[22, 22] })
    (B : Nat) (vo : Option Addr) (m vc : Nat) (q : List Int) (hs : a.eval s = .slice vo m vc) (hq : QRow B w (.slice vo m vc) q) (ad : Addr) (y : Int) (hx : a.eval x = .slice (some ad) 1 1) (hnews : ∀ j u, [Value.int .i64 y][j]? = some u → w.cell? (ad.add j) = some u) (hl : q.length ≤ 1000000) (hB : B ≤ w.heap.size)
    (h : ∀ ao cap w', QRow B w' (.slice ao (m + 1) cap) (q ++ [y]) → w.grownBy w' (Value.slice vo m vc).ownBlock → ((Value.slice ao (m + 1) cap).ownBlock = (Value.slice vo m vc).ownBlock ∨ (Value.slice ao (m + 1) cap).ownBlock = some w.heap.size) → wpList Tryd.prog ops Q rest (a.put o.dst (.slice ao (m + 1) cap)) w') : wpList Tryd.prog ops Q (o :: rest) a w := by
  refine wpList_plain hgd fun K hK => ?_
  obtain ⟨ao, cap, w', hr, h2, h3, h4⟩ := run_append_q B hq o.type y ad hnews hl hB
  unfold Oper.wp execOp
  simp only [ho, resolve, invoke, builtin, Sem.run_bind, Sem.run_pure, Result.andThen_ok, List.map_toArray, List.map_cons, List.map_nil, hs, hx, hr]
  exact hK _ _ (h ao cap w' h2 h3 h4)
end Go.Proofs.YteacehfihogmpaaDoor
/- The document's way to a closure: what stands between the rounds; how many bools are still false. -/
namespace Go.Proofs.YteacehfihogmpaaDoor
open Go.RowKit

def cnt (p : Nat → Bool) : Nat → Nat
  | 0 => 0
  | n + 1 => cnt p n + (p n).toNat
theorem cnt_congr {p p' : Nat → Bool} : ∀ {n : Nat}, (∀ k, k < n → p' k = p k) → cnt p' n = cnt p n
  | 0, _ => rfl
  | n + 1, h => by rw [cnt, cnt, cnt_congr (n := n) (fun k hk => h k (by omega)), h n (by omega)]
theorem cnt_off {p p' : Nat → Bool} {t : Nat} (h1 : p t = true) (h2 : p' t = false) : ∀ {n : Nat}, t < n → (∀ k, k < n → k ≠ t → p' k = p k) → cnt p' n + 1 = cnt p n
  | 0, h, _ => by omega
  | n + 1, ht, h => by
    rw [cnt, cnt]
    by_cases hn : n = t
    · subst hn
      rw [cnt_congr (fun k hk => h k (by omega) (by omega)), h1, h2]
      rfl
    · have ih := cnt_off h1 h2 (n := n) (by omega) (fun k hk hne => h k (by omega) hne)
      rw [h n (by omega) hn]
      omega
theorem cnt_le (p : Nat → Bool) : ∀ n, cnt p n ≤ n
  | 0 => Nat.le_refl _
  | n + 1 => by rw [cnt]; have := cnt_le p n; cases p n <;> simp <;> omega
def isF : Option Value → Bool
  | some (.bool false) => true
  | _ => false
/-- How many cells of a row are still false. -/
def mF (w : World) (g n : Nat) : Nat := cnt (fun k => isF (w.cell? ⟨g, k, none⟩)) n
def cF (bs : List Bool) (n : Nat) : Nat := cnt (fun k => isF ((bs[k]?).map fun b => .bool b)) n
theorem mF_own {B n vc g : Nat} {w : World} {bs : List Bool} (h : w.ownsRow B 4 1 (.slice (some ⟨g, 0, none⟩) n vc) n (bls bs)) : mF w g n = cF bs n := by
  unfold mF cF
  refine cnt_congr fun k hk => ?_
  rw [h.cellAt k (by omega), bls_at]
theorem cF_set {bs : List Bool} {n t : Nat} (ht : bs[t]? = some false) (hn : t < n) : cF (bs.set t true) n + 1 = cF bs n := by
  have htl := (List.getElem?_eq_some_iff.1 ht).1
  unfold cF
  refine cnt_off (t := t) (by rw [ht]; rfl) (by rw [List.getElem?_set_self htl]; rfl) hn (fun k _ hk => by rw [List.getElem?_set_ne (by omega)])
/-- Between the rounds: the queue holds what is true and not yet gone through. -/
structure RQ (L : List St) (A : Int → Prop) (bs : List Bool) (q : List Int) : Prop where
  base : ∀ x, A x → tru bs x
  snd : ∀ x, tru bs x → Clo L A x
  qin : ∀ x ∈ q, tru bs x
  done : ∀ y, tru bs y → y ∈ q ∨ ∀ s, L[y.toNat]? = some s → ∀ t ∈ s.2, tru bs t
/-- Within the round of x, whose free ways are F, i of them gone through. -/
structure RX (L : List St) (A : Int → Prop) (x : Int) (F : List Int) (i : Nat) (bs : List Bool) (q : List Int) : Prop where
  base : ∀ x, A x → tru bs x
  snd : ∀ x, tru bs x → Clo L A x
  qin : ∀ x ∈ q, tru bs x
  done : ∀ y, tru bs y → y ∈ q ∨ y = x ∨ ∀ s, L[y.toNat]? = some s → ∀ t ∈ s.2, tru bs t
  xt : tru bs x
  now : ∀ t ∈ F.take i, tru bs t
theorem RQ.pop {L : List St} {A : Int → Prop} {bs : List Bool} {x : Int} {q : List Int} (h : RQ L A bs (x :: q)) (F : List Int) : RX L A x F 0 bs q :=
  ⟨h.base, h.snd, fun y hy => h.qin y (List.mem_cons_of_mem _ hy), fun y hy => by
    rcases h.done y hy with h1 | h1
    · rcases List.mem_cons.1 h1 with h2 | h2
      · exact .inr (.inl h2)
      · exact .inl h2
    · exact .inr (.inr h1), h.qin x List.mem_cons_self, fun t ht => by simp at ht⟩
theorem RX.seen {L : List St} {A : Int → Prop} {bs : List Bool} {x t : Int} {F q : List Int} {i : Nat} (h : RX L A x F i bs q) (hi : F[i]? = some t) (ht : tru bs t) : RX L A x F (i + 1) bs q :=
  ⟨h.base, h.snd, h.qin, h.done, h.xt, fun y hy => by
    rcases (mem_take_at hi).1 hy with h1 | h1
    · exact h.now y h1
    · rw [h1]; exact ht⟩
theorem RX.new {L : List St} {A : Int → Prop} {bs : List Bool} {x : Int} {E : List Ed} {F q : List Int} {i t : Nat} (h : RX L A x F i bs q) (hL : L[x.toNat]? = some (E, F)) (hi : F[i]? = some (t : Int)) (ht : t < bs.length) : RX L A x F (i + 1) (bs.set t true) (q ++ [(t : Int)]) := by
  have up : ∀ y, tru bs y → tru (bs.set t true) y := fun y hy => (tru_set ht y).2 (.inl hy)
  have self : tru (bs.set t true) (t : Int) := (tru_set ht _).2 (.inr rfl)
  refine ⟨fun y hy => up y (h.base y hy), fun y hy => ?_, fun y hy => ?_, fun y hy => ?_, up x h.xt, fun y hy => ?_⟩
  · rcases (tru_set ht y).1 hy with h1 | h1
    · exact h.snd y h1
    · subst h1
      exact Rch.step (h.snd x h.xt) (fls_at hL) (List.mem_of_getElem? hi)
  · rcases List.mem_append.1 hy with h1 | h1
    · exact up y (h.qin y h1)
    · rw [List.mem_singleton] at h1; subst h1; exact self
  · rcases (tru_set ht y).1 hy with h1 | h1
    · rcases h.done y h1 with h2 | h2 | h2
      · exact .inl (List.mem_append_left _ h2)
      · exact .inr (.inl h2)
      · exact .inr (.inr fun s hs t' ht' => up t' (h2 s hs t' ht'))
    · exact .inl (List.mem_append_right _ (by rw [h1]; exact List.mem_singleton.2 rfl))
  · rcases (mem_take_at hi).1 hy with h1 | h1
    · exact up y (h.now y h1)
    · rw [h1]; exact self
theorem RX.fin {L : List St} {A : Int → Prop} {bs : List Bool} {x : Int} {E : List Ed} {F q : List Int} {i : Nat} (h : RX L A x F i bs q) (hL : L[x.toNat]? = some (E, F)) (hi : F.length ≤ i) : RQ L A bs q :=
  ⟨h.base, h.snd, h.qin, fun y hy => by
    rcases h.done y hy with h1 | h1 | h1
    · exact .inl h1
    · subst h1
      right
      intro s hs t ht
      rw [hL] at hs
      cases hs
      exact h.now t (by rw [List.take_of_length_le hi]; exact ht)
    · exact .inr h1⟩
theorem RQ.end {L : List St} {A : Int → Prop} {bs : List Bool} (h : RQ L A bs []) (x : Int) : tru bs x ↔ Clo L A x := by
  refine ⟨h.snd x, fun hx => ?_⟩
  induction hx with
  | base h1 => exact h.base _ h1
  | @step y t l _ h2 h3 ih =>
    rcases h.done y ih with h4 | h4
    · cases h4
    · unfold fls at h2
      rw [List.getElem?_map] at h2
      obtain ⟨s, hs, hl⟩ := Option.map_eq_some_iff.1 h2
      exact h4 s hs t (by rw [hl]; exact h3)
theorem RQ.start {L : List St} {bs : List Bool} {T : List Int} (h : ∀ x, x ∈ T ↔ tru bs x) : RQ L (tru bs) bs T :=
  ⟨fun _ h => h, fun _ h => .base h, fun x hx => (h x).1 hx, fun y hy => .inl ((h y).2 hy)⟩
end Go.Proofs.YteacehfihogmpaaDoor
/- The contract of closed (the document's). -/
namespace Go.Proofs.YteacehfihogmpaaDoor
open Go.RowKit

theorem cell_al {w : World} {o : Obj} {p : Addr} {v : Value} (h : w.cell? p = some v) : (w.alloc o).cell? p = some v := (World.cell?_of_block (Below.heap_alloc w o _ (World.block_lt_of_cell? w p h))).trans h
theorem fmd_free {n : Int} {s : St} (h : fmd n s = true) : fre n s.2 = true := by
  unfold fmd at h
  simp only [Bool.and_eq_true] at h
  exact h.2
def slen : Value → Nat
  | .slice _ m _ => m
  | _ => 0
set_option maxHeartbeats 4000000 in
set_option maxRecDepth 100000 in
theorem rclosed_any (so : Option Addr) (sc n : Nat) (L : List St) (s f : Int) (bo : Option Addr) (bc : Nat) (bs : List Bool) (w : World) (hn : n = L.length) (hs : RdS w so L) (hg : gdB L s f = true) (hb : RdB w bo bs) (hbl : bs.length = n) :
    Calls Tryd.prog 78 #[.agg #[.slice so n sc, .int .i64 s, .int .i64 f], .slice bo n bc] w fun e w' => BoQ w n (Clo L (tru bs)) e w' := by
  obtain ⟨i0, hi3, hz0, hz1, hz2⟩ := info_parts Tryd.info3
  obtain ⟨j0, hi4, hy0, hy1, hy2⟩ := info_parts Tryd.info4
  have hgd := gdd_of hg
  have h4 : n ≤ 4096 := by have := hgd.few; omega
  have hpos : 0 < n := by have := hgd.st; omega
  obtain ⟨ba, rfl, hba, hb0⟩ := hb 0 bs[0] (List.getElem?_eq_getElem (by omega))
  have HBN := hid (show ∀ j u, (bls bs)[j]? = some u → w.cell? (ba.add j) = some u from fun j u hj => by
    rw [bls_at] at hj
    obtain ⟨b, h1, h2⟩ := Option.map_eq_some_iff.1 hj
    obtain ⟨a, e, _, h3⟩ := hb j b h1
    cases e
    rw [h3, h2])
  have HGD := hid hgd
  have HN := hid hn
  have HS := hid hs
  have HBL := hid hbl
  have HOE := hid (show ((w.alloc (.cells #[.slice so n sc, .int .i64 s, .int .i64 f] 28)).alloc (.cells #[] 4)).ownsRow (w.heap.size + 1) 4 1 (.slice (some ⟨w.heap.size + 1, 0, none⟩) 0 0) 0 [] from by
    have h := World.ownsRow_lit (base := w.heap.size + 1) (e := 4) (size := 1) (w.alloc (.cells #[.slice so n sc, .int .i64 s, .int .i64 f] 28)) #[] 0 (by simp) (by decide) (by simp)
    simpa using h)
  have HBE := hid (show Below (w.heap.size + 1) (w.alloc (.cells #[.slice so n sc, .int .i64 s, .int .i64 f] 28)) ((w.alloc (.cells #[.slice so n sc, .int .i64 s, .int .i64 f] 28)).alloc (.cells #[] 4)) from (Below.refl _ _).alloc (by simp) _)
  have HBC := hid (show ∀ j u, (bls bs)[j]? = some u → ((w.alloc (.cells #[.slice so n sc, .int .i64 s, .int .i64 f] 28)).alloc (.cells #[] 4)).cell? (ba.add j) = some u from fun j u hj => ((box_trans HBE.out).cell (p := ba.add j) (by rw [add_blk]; exact hba)).trans (HBN.out j u hj))
  clear hb0 hn hs hg hb hbl hgd HBN
  go_enter Tryd.func78, Tryd.ntmps78
  go_wp2_with (at_builtin; refine wpList_append_lies _ rfl _ _ 107 rfl (w.heap.size + 1) 4 j0 (.bool false) 1 1 Tryd.underlying107 hi4 hy0 hy1 hy2 rfl (by decide) (.slice (some ⟨w.heap.size + 1, 0, none⟩) 0 0) 0 [] rfl HOE.out ba n bc (bls bs) rfl (by rw [bls_len, HBL.out, Nat.mul_one]) HBC.out (bls_one bs) hpos (by unfold maxLen; omega) (by omega) (by simp) (w.heap.size + 2) (by simp) ?_; intro g gc w1 o1 gr1 hl1 hlt1; have HOB := hid (show w1.ownsRow (w.heap.size + 1) 4 1 (.slice (some ⟨g, 0, none⟩) n gc) n (bls bs) by simpa using o1); have HB1 := hid (HBE.out.grown gr1 (by simp) (fun k hk => (HOE.out.lt k hk).1)); have hgb := (HOB.out.lt g rfl).1; clear o1 gr1 hl1 hlt1 HOE HBE HBC)
  go_loopw [6, 7] (fun x y wr => ∃ (i m : Nat) (T : List Int) (vo : Option Addr) (vc : Nat), x = .slice vo m vc ∧ y = .int .i64 i ∧ i ≤ n ∧ m ≤ i ∧ Hid (T.length = m) ∧ Hid (wr.ownsRow (w.heap.size + 1) 3 1 (.slice vo m vc) m (i64s T)) ∧ Hid (∀ x, x ∈ T ↔ tru bs x ∧ x < (i : Int)) ∧ Hid (wr.ownsRow (w.heap.size + 1) 4 1 (.slice (some ⟨g, 0, none⟩) n gc) n (bls bs)) ∧ Hid ((Value.slice vo m vc).ownBlock ≠ some g) ∧ Hid (Below (w.heap.size + 1) (w.alloc (.cells #[.slice so n sc, .int .i64 s, .int .i64 f] 28)) wr)) (fun _ y _ => n - (intOf y).toNat)
  case atStart => exact ⟨0, 0, [], none, 0, rfl, rfl, Nat.zero_le _, Nat.zero_le _, rfl, World.ownsRow_nil _ _ _ _, fun x => ⟨fun h => (by cases h), fun h => (by have := h.1.1; omega)⟩, HOB, fun h => (by cases h), HB1⟩
  case round =>
    clear HOB HB1
    obtain ⟨i, m, T, vo, vc, rfl, rfl, hi, hm, HT, HO, HI, HOB, HNE, HB⟩ := hrel
    by_cases hlt : i < n
    · have hib : i < bs.length := by have := HBL.out; omega
      have a0 := ownb_at HOB.out (List.getElem?_eq_getElem hib)
      have HBI := hid (List.getElem?_eq_getElem hib)
      obtain ⟨b, hb⟩ : ∃ b, b = bs[i] := ⟨_, rfl⟩
      rw [← hb] at a0 HBI
      clear hb hib
      have i3 : (i : Int) < (n : Int) := by omega
      have i0' : (0 : Int) ≤ (i : Int) := by omega
      have hsz : w.heap.size + 1 ≤ wr.heap.size := by have := HB.out.size; simpa using this
      rcases bool_cases b with hb | hb
      · subst hb
        have HI2 := hid (show ∀ x, x ∈ T ++ [(i : Int)] ↔ tru bs x ∧ x < ((i + 1 : Nat) : Int) from fun x => by
          rw [List.mem_append, HI.out x, List.mem_singleton]
          constructor
          · rintro (h | h)
            · exact ⟨h.1, by omega⟩
            · subst h; exact ⟨tru_nat.2 HBI.out, by omega⟩
          · intro h
            by_cases hx : x = (i : Int)
            · exact .inr hx
            · exact .inl ⟨h.1, by have := h.2; omega⟩)
        go_wp2_with (at_builtin; refine wpList_append_lies _ rfl _ _ 22 rfl (w.heap.size + 1) 3 i0 (.int .i64 0) 1 8 Tryd.underlying22 hi3 hz0 hz1 hz2 rfl (by decide) (.slice vo m vc) m (i64s T) rfl (HO.out.alloc _) ⟨wr.heap.size, 0, none⟩ 1 1 [.int .i64 (i : Int)] rfl rfl (news_one wr _ 3) (i64s_one [(i : Int)]) (by decide) (by unfold maxLen; omega) (by omega) (by simp; omega) (wr.heap.size + 1) (by simp) ?_; intro g5 ec5 w5 o5 gr5 hl5 hlt5; have HO5 := hid (show w5.ownsRow (w.heap.size + 1) 3 1 (.slice (some ⟨g5, 0, none⟩) (m + 1) ec5) (m + 1) (i64s (T ++ [(i : Int)])) by (rw [i64s_snoc]; exact o5)); have HB5 := hid ((HB.out.alloc hsz (.cells #[.int .i64 (i : Int)] 3)).grown gr5 (by simp; omega) (fun k' hk' => (HO.out.lt k' hk').1)); have HOB5 := hid ((HOB.out.alloc (.cells #[.int .i64 (i : Int)] 3)).kept gr5 (.inr (fun e => HNE.out e.symm))); have HNE5 := hid (show (Value.slice (some ⟨g5, 0, none⟩) (m + 1) ec5).ownBlock ≠ some g from fun e => by (have e' : g5 = g := Option.some.inj e; subst e'; exact hl5.elim HNE.out (fun h => by have := (HOB.out.lt g5 rfl).2; omega))); clear o5 gr5 hl5 hlt5)
        go_roundw
        case rel => exact ⟨i + 1, m + 1, T ++ [(i : Int)], some ⟨g5, 0, none⟩, ec5, rfl, by go_num, by omega, by omega, by rw [List.length_append, HT.out]; rfl, HO5, HI2, HOB5, HNE5, HB5⟩
        case measure => simp [intOf]; omega
      · subst hb
        have HI2 := hid (show ∀ x, x ∈ T ↔ tru bs x ∧ x < ((i + 1 : Nat) : Int) from fun x => by
          rw [HI.out x]
          constructor
          · exact fun h => ⟨h.1, by have := h.2; omega⟩
          · intro h
            refine ⟨h.1, ?_⟩
            by_cases hx : x = (i : Int)
            · have h1 := h.1; rw [hx, tru_nat, HBI.out] at h1; cases h1
            · have := h.2; omega)
        go_wp2
        go_roundw
        case rel => exact ⟨i + 1, m, T, vo, vc, rfl, by go_num, by omega, by omega, HT, HO, HI2, HOB, HNE, HB⟩
        case measure => simp [intOf]; omega
    · have i3 : ¬ (i : Int) < (n : Int) := by omega
      have HRQ := hid (show RQ L (tru bs) bs T from RQ.start fun x => (HI.out x).trans ⟨fun h => h.1, fun h => ⟨h, by have h' := tru_lt h; have := HBL.out; omega⟩⟩)
      have HQ := hid (QRow.of_own HO.out)
      have HLE := hid (show T.length + cF bs n ≤ 2 * n by have h := cnt_le (fun k => isF ((bs[k]?).map fun b => .bool b)) n; have := HT.out; unfold cF; omega)
      clear HO HI
      go_wp2
      go_loopw [6] (fun x wr => ∃ (m : Nat) (q : List Int) (vo : Option Addr) (vc : Nat) (bs' : List Bool), x = .slice vo m vc ∧ m ≤ 8192 ∧ Hid (q.length = m) ∧ Hid (QRow (w.heap.size + 1) wr (.slice vo m vc) q) ∧ Hid (wr.ownsRow (w.heap.size + 1) 4 1 (.slice (some ⟨g, 0, none⟩) n gc) n (bls bs')) ∧ Hid (bs'.length = n) ∧ Hid (RQ L (tru bs) bs' q) ∧ Hid (q.length + cF bs' n ≤ 2 * n) ∧ Hid ((Value.slice vo m vc).ownBlock ≠ some g) ∧ Hid (Below (w.heap.size + 1) (w.alloc (.cells #[.slice so n sc, .int .i64 s, .int .i64 f] 28)) wr)) (fun x wr => 2 * mF wr g n + slen x)
      case atStart => exact ⟨m, T, vo, vc, bs, rfl, by omega, HT, HQ, HOB, HBL, HRQ, HLE, HNE, HB⟩
      case round =>
        clear HT HQ HOB HRQ HLE HNE HB hm hi i3 hlt
        obtain ⟨m, q, vo, vc, bs', rfl, hm8, HT, HQ, HOB, HBL', HRQ, HLE, HNE, HB⟩ := hrel
        obtain ⟨c0, c1, c2⟩ := box3 HB.out
        have hsz : w.heap.size + 1 ≤ wr.heap.size := by have := HB.out.size; simpa using this
        cases q with
        | nil =>
          have hm0 : m = 0 := by have := HT.out; simpa using this.symm
          subst hm0
          have HF := hid (HRQ.out.end)
          go_wp2
          go_ret
          exact ⟨bs', g, gc, rfl, own_mono' HOB.out (by omega), HBL'.out, HF.out, box_trans HB.out⟩
        | cons x q =>
          have hm1 : m = q.length + 1 := by have := HT.out; simpa using this.symm
          have m3 : (0 : Int) < (m : Int) := by omega
          obtain ⟨g6, o6, e6, c6⟩ := HQ.out.head
          subst e6
          have hx := tru_lt (HRQ.out.qin x List.mem_cons_self)
          obtain ⟨t, rfl⟩ : ∃ t : Nat, x = (t : Int) := ⟨x.toNat, by omega⟩
          have htn : t < n := by have := HBL'.out; omega
          obtain ⟨E, F, hEF⟩ : ∃ E F, L[t]? = some (E, F) := ⟨L[t]'(by have := HN.out; omega) |>.1, _, List.getElem?_eq_getElem _⟩
          obtain ⟨a, ea, hab, eo, ec, fo, fc, f0w, f1w, _, hF, hel, hfl⟩ := HS.out t (E, F) hEF
          have f0 := ((box_trans HB.out).cell (p := a.add (t * 2)) (by rw [add_blk]; exact hab)).trans f0w
          have f1 := ((box_trans HB.out).cell (p := ⟨(a.add (t * 2)).block, (a.add (t * 2)).off + 1, none⟩) (show (a.add (t * 2)).block < _ by rw [add_blk]; exact hab)).trans f1w
          clear f0w f1w
          subst ea
          have HEF := hid hEF
          have HFR := hid hF
          have t3 : (t : Int) < (n : Int) := by omega
          have t0 : (0 : Int) ≤ (t : Int) := by omega
          dsimp only at f0 f1 hel hfl
          obtain ⟨fn, hfn⟩ : ∃ fn, fn = F.length := ⟨_, rfl⟩
          rw [← hfn] at f1 hfl
          have HFN := hid hfn
          obtain ⟨en, hen⟩ : ∃ en, en = E.length := ⟨_, rfl⟩
          rw [← hen] at f0
          unfold most at hfl
          clear hen hfn hEF hF hx hel hm1
          go_wp2_with fail
          refine wp_region_mix [(0, true), (1, true), (2, true), (3, true), (4, true), (5, true), (6, true), (7, false), (8, false)] (fun w' => w'.cell? ⟨w.heap.size, 0, none⟩ = some (.slice (some a) n sc) ∧ w'.cell? ⟨g6, o6, none⟩ = some (.int .i64 (t : Int)) ∧ w'.cell? (a.add (t * 2)) = some (.slice eo en ec) ∧ w'.cell? ⟨(a.add (t * 2)).block, (a.add (t * 2)).off + 1, none⟩ = some (.slice fo fn fc)) (fun j => j == 8) (by kernel_rfl) (by kernel_rfl) (fun j hj => by have := beq_iff_eq.1 hj; subst this; decide) rfl (by kernel_rfl) ⟨c0, c6, f0, f1⟩ ?_
          iterate 7 (refine mix_free ?_ rfl (by kernel_rfl) (fun w' hS => ?_) ?_; (rotate_left; (obtain ⟨s1, s2, s3, s4⟩ := hS; go_simp; with_reducible rfl); rotate_left))
          refine mix_go rfl (by kernel_rfl) fun KK hKK => ?_
          go_simp
          refine hKK _ _ (fun _ => ⟨cell_al c0, cell_al c6, cell_al f0, cell_al f1⟩) ?_
          clear hKK KK
          refine mix_go rfl (by kernel_rfl) fun KK hKK => ?_
          go_simp
          refine hKK _ _ (fun h => by cases h) ?_
          clear hKK KK
          refine mix_end (NoPanic.normal ?_)
          obtain ⟨w2, hw2⟩ : ∃ w2, w2 = (wr.alloc (.cells #[.slice eo en ec, .slice fo fn fc] 86)).drew := ⟨_, rfl⟩
          rw [← hw2]
          obtain ⟨p8, hp8⟩ : ∃ p8, p8 = wr.heap.size := ⟨_, rfl⟩
          rw [← hp8]
          have HQ2 := hid (show QRow (w.heap.size + 1) w2 (.slice (some ⟨g6, o6, none⟩) m vc) ((t : Int) :: q) by rw [hw2]; exact (HQ.out.alloc _).drew)
          have HOB2 := hid (show w2.ownsRow (w.heap.size + 1) 4 1 (.slice (some ⟨g, 0, none⟩) n gc) n (bls bs') by rw [hw2]; exact (HOB.out.alloc _).drew)
          have HB2 := hid (show Below (w.heap.size + 1) (w.alloc (.cells #[.slice (some a) n sc, .int .i64 s, .int .i64 f] 28)) w2 by rw [hw2]; exact (HB.out.alloc hsz _).drew)
          have HP2 := hid (show w2.cell? ⟨p8, 1, none⟩ = some (.slice fo fn fc) by
            rw [hw2, hp8]
            show (wr.alloc _).cell? _ = _
            rw [cell_of_row _ wr.heap.size 1 #[.slice eo en ec, .slice fo fn fc] 86 (0, 0) (show (wr.heap.push _)[wr.heap.size]? = _ by simp)]
            rfl)
          have HPL := hid (show p8 < w2.heap.size by rw [hw2, hp8]; show wr.heap.size < (wr.alloc _).heap.size; simp)
          have hN8 : (Value.slice (some ⟨g6, o6, none⟩) m vc).ownBlock ≠ some p8 := fun e => by have := (HQ.out.lt p8 e).2; omega
          have hG8 : g ≠ p8 := fun e => by have := (HOB.out.lt g rfl).2; omega
          have HN8 := hid hN8
          have HG8 := hid hG8
          obtain ⟨M, hM⟩ : ∃ M, M = 2 * mF wr g n + m := ⟨_, rfl⟩
          have HMM := hid hM
          have HML := hid (show 2 * cF bs' n + q.length < M by rw [hM, mF_own HOB.out]; have := HT.out; simp at this; omega)
          have HQL := hid (show q.length + cF bs' n ≤ 2 * n by have := HLE.out; simp at this; omega)
          have HRX := hid (HRQ.out.pop F)
          have HT2 := hid (show q.length = m - 1 by have := HT.out; simp at this; omega)
          clear hw2 hp8 hN8 hG8 hM HQ HOB HB HRQ HLE HT c0 c1 c2 c6 f0 f1 hsz hab
          go_wp2_with (refine wpList_cut rfl _ rfl (w.heap.size + 1) (some ⟨g6, o6, none⟩) m vc (t : Int) q rfl HQ2.out ?_; intro vo3 vc3 hq3 hb3; have HQ3 := hid hq3; have HN3 := hid (show (Value.slice vo3 (m - 1) vc3).ownBlock ≠ some g by rw [hb3]; exact HNE.out); have HN83 := hid (show (Value.slice vo3 (m - 1) vc3).ownBlock ≠ some p8 by rw [hb3]; exact HN8.out); clear hq3 hb3)
          obtain ⟨m1, hm1⟩ : ∃ m1, m1 = m - 1 := ⟨_, rfl⟩
          have hm8' : m1 ≤ 8192 := by omega
          rw [← hm1] at HT2 HQ3 HN3 HN83
          rw [← hm1]
          clear hm1
          go_loopw [6, 9] (fun x y wr => ∃ (j m : Nat) (q : List Int) (vo : Option Addr) (vc : Nat) (bs' : List Bool), x = .slice vo m vc ∧ y = .int .i64 j ∧ j ≤ fn ∧ m ≤ 8192 ∧ Hid (q.length = m) ∧ Hid (QRow (w.heap.size + 1) wr (.slice vo m vc) q) ∧ Hid (wr.ownsRow (w.heap.size + 1) 4 1 (.slice (some ⟨g, 0, none⟩) n gc) n (bls bs')) ∧ Hid (bs'.length = n) ∧ Hid (RX L (tru bs) (t : Int) F j bs' q) ∧ Hid (q.length + cF bs' n ≤ 2 * n) ∧ Hid (2 * cF bs' n + q.length < M) ∧ Hid ((Value.slice vo m vc).ownBlock ≠ some g) ∧ Hid ((Value.slice vo m vc).ownBlock ≠ some p8) ∧ Hid (wr.cell? ⟨p8, 1, none⟩ = some (.slice fo fn fc)) ∧ Hid (p8 < wr.heap.size) ∧ Hid (Below (w.heap.size + 1) (w.alloc (.cells #[.slice (some a) n sc, .int .i64 s, .int .i64 f] 28)) wr)) (fun _ y _ => fn - (intOf y).toNat)
          case atStart => exact ⟨0, m1, q, vo3, vc3, bs', rfl, rfl, Nat.zero_le _, hm8', HT2, HQ3, HOB2, HBL', HRX, HQL, HML, HN3, HN83, HP2, HPL, HB2⟩
          case round =>
            clear HT2 HQ3 HQ2 HOB2 HBL' HRX HQL HML HN3 HN83 HP2 HPL HB2 hm8' HN8 HNE m3
            obtain ⟨j, m2, q2, vo, vc, bs', rfl, rfl, hj, hm8, HT, HQ, HOB, HBL', HRX, HQL, HML, HNE, HN8, HP, HPL, HB⟩ := hrel
            have hsz : w.heap.size + 1 ≤ wr.heap.size := by have := HB.out.size; simpa using this
            by_cases hjl : j < fn
            · have hjF : j < F.length := by have := HFN.out; omega
              have HFJ := hid (List.getElem?_eq_getElem hjF)
              obtain ⟨y, hy⟩ : ∃ y, y = F[j] := ⟨_, rfl⟩
              rw [← hy] at HFJ
              clear hy hjF
              have hyb := wn_iff.1 (fre_all (fmd_free (HGD.out.all _ (List.mem_of_getElem? HEF.out))) y (List.mem_of_getElem? HFJ.out))
              obtain ⟨u, rfl⟩ : ∃ u : Nat, y = (u : Int) := ⟨y.toNat, by omega⟩
              have hun : u < n := by have := HN.out; omega
              obtain ⟨b, eb, _, b0⟩ := HFR.out.below (box_trans HB.out) j (u : Int) HFJ.out
              subst eb
              have p0 := HP.out
              have j3 : (j : Int) < (fn : Int) := by omega
              have j0' : (0 : Int) ≤ (j : Int) := by omega
              have u3 : (u : Int) < (n : Int) := by omega
              have u0 : (0 : Int) ≤ (u : Int) := by omega
              have hub : u < bs'.length := by have := HBL'.out; omega
              have HBU := hid (List.getElem?_eq_getElem hub)
              have o0 := ownb_at HOB.out HBU.out
              obtain ⟨v, hv⟩ : ∃ v, v = bs'[u] := ⟨_, rfl⟩
              rw [← hv] at HBU o0
              clear hv hub hyb
              rcases bool_cases v with hv | hv
              · subst hv
                have HRX2 := hid (HRX.out.seen HFJ.out (tru_nat.2 HBU.out))
                go_wp2
                go_roundw
                case rel => exact ⟨j + 1, m2, q2, vo, vc, bs', rfl, by go_num, by omega, hm8, HT, HQ, HOB, HBL', HRX2, HQL, HML, HNE, HN8, HP, HPL, HB⟩
                case measure => simp [intOf]; omega
              · subst hv
                have fz := HOB.out.frozenAt u
                have hst := HOB.out.stored u (.bool true)
                rw [bls_set] at hst
                have d1 : (wr.setCell ⟨g, u, none⟩ (.bool true)).cell? ⟨p8, 1, none⟩ = some (.slice (some b) fn fc) := hst.2.cell p0 (fun e => HG8.out (Option.some.inj e).symm)
                have d2 : (wr.setCell ⟨g, u, none⟩ (.bool true)).cell? (b.add j) = some (.int .i64 (u : Int)) := hst.2.cell b0 (fun e => by
                  have hb : b.block < w.heap.size + 1 := by
                    obtain ⟨b', e', hb', _⟩ := HFR.out j (u : Int) HFJ.out
                    cases e'; omega
                  rw [add_blk] at e
                  have := Option.some.inj e
                  omega)
                have HQ5 := hid (HQ.out.kept hst.2 (.inr HNE.out))
                have HOB5 := hid hst.1
                have HB5 := hid (HB.out.grown hst.2 hsz (fun k hk => by cases hk; exact hgb))
                have hss : (wr.setCell ⟨g, u, none⟩ (.bool true)).heap.size = wr.heap.size := by simp
                have HNW := hid (show ∀ k z, [Value.int .i64 (u : Int)][k]? = some z → ((wr.setCell ⟨g, u, none⟩ (.bool true)).alloc (.cells #[.int .i64 (u : Int)] 3)).cell? ((⟨wr.heap.size, 0, none⟩ : Addr).add k) = some z from by
                  have h := news_one (wr.setCell ⟨g, u, none⟩ (.bool true)) (.int .i64 (u : Int)) 3
                  rw [hss] at h
                  exact h)
                have HSS := hid hss
                have HRX2 := hid (HRX.out.new HEF.out HFJ.out (by have := HBL'.out; omega))
                have HCF := hid (cF_set HBU.out hun)
                have hm9 : m2 + 1 ≤ 8192 := by have h1 := HCF.out; have h2 := HQL.out; have h3 := HT.out; omega
                clear hst hss
                go_wp2_with (at_builtin; go_loud (refine wpList_append_q rfl _ _ rfl (w.heap.size + 1) vo m2 vc q2 rfl (HQ5.out.alloc _) ⟨wr.heap.size, 0, none⟩ (u : Int) rfl HNW.out (by have := HT.out; omega) (by simp; omega) ?_); intro ao5 cap5 w5 hq5 gr5 hl5; have HQ6 := hid hq5; have HOB6 := hid ((HOB5.out.alloc (.cells #[.int .i64 (u : Int)] 3)).kept gr5 (.inr (fun e => HNE.out e.symm))); have HP6 := hid (gr5.cell (cell_al d1) (fun e => HN8.out e.symm)); have hgs := gr5.size; have HB6 := hid ((HB5.out.alloc (by rw [HSS.out]; exact hsz) (.cells #[.int .i64 (u : Int)] 3)).grown gr5 (by (have h1 := HSS.out; simp; omega)) (fun k hk => (HQ.out.lt k hk).1)); have HPL6 := hid (show p8 < w5.heap.size by (have h1 := HSS.out; have h2 := HPL.out; simp at hgs; omega)); have HNE6 := hid (show (Value.slice ao5 (m2 + 1) cap5).ownBlock ≠ some g from fun e => by (rcases hl5 with h | h; exact HNE.out (h.symm.trans e); (rw [e] at h; have h1 := Option.some.inj h; have h2 := (HOB.out.lt g rfl).2; simp at h1; omega))); have HN86 := hid (show (Value.slice ao5 (m2 + 1) cap5).ownBlock ≠ some p8 from fun e => by (rcases hl5 with h | h; exact HN8.out (h.symm.trans e); (rw [e] at h; have h1 := Option.some.inj h; have h2 := HPL.out; simp at h1; omega))); clear hq5 gr5 hl5 hgs)
                go_roundw
                case rel => exact ⟨j + 1, m2 + 1, q2 ++ [(u : Int)], ao5, cap5, bs'.set u true, rfl, by go_num, by omega, hm9, by rw [List.length_append, HT.out]; rfl, HQ6, HOB6, by rw [List.length_set]; exact HBL', HRX2, by rw [List.length_append]; have h1 := HCF.out; have h2 := HQL.out; simp [Hid]; omega, by rw [List.length_append]; have h1 := HCF.out; have h2 := HML.out; simp [Hid]; omega, HNE6, HN86, HP6, HPL6, HB6⟩
                case measure => simp [intOf]; omega
            · have j3 : ¬ (j : Int) < (fn : Int) := by omega
              have HRQ := hid (HRX.out.fin HEF.out (by have := HFN.out; omega))
              have p0 := HP.out
              go_wp2
              go_roundw
              case rel => exact ⟨m2, q2, vo, vc, bs', rfl, hm8, HT, HQ, HOB, HBL', HRQ, HQL, HNE, HB⟩
              case measure =>
                have h1 := HMM.out
                have h2 := mF_own HOB.out
                have h3 := HML.out
                have h4 := HT.out
                simp only [slen]
                omega
end Go.Proofs.YteacehfihogmpaaDoor
/- The contracts of of, Closure (the document's). -/
namespace Go.Proofs.YteacehfihogmpaaDoor
open Go.RowKit

set_option maxHeartbeats 4000000 in
set_option maxRecDepth 100000 in
theorem rof_any (so : Option Addr) (sc n : Nat) (s f : Int) (lo : Option Addr) (ln lc : Nat) (l : List Int) (w : World) (h4 : n ≤ 4096) (hl : RdI w lo l) (hln : ln = l.length) (hlm : ln ≤ most) :
    Calls Tryd.prog 79 #[.agg #[.slice so n sc, .int .i64 s, .int .i64 f], .slice lo ln lc] w fun e w' => BoQ w n (fun y => y ∈ l ∧ 0 ≤ y ∧ y < (n : Int)) e w' := by
  obtain ⟨j0, hi4, hy0, hy1, hy2⟩ := info_parts Tryd.info4
  have HL := hid hl
  have HLN := hid hln
  unfold most at hlm
  clear hl hln
  go_enter Tryd.func79, Tryd.ntmps79
  go_wp2_with (at_make; go_loud (refine wpList_make_full _ rfl _ _ 107 rfl (w.heap.size + 1) 4 j0 (.bool false) 1 Tryd.underlying107 hi4 hy0 hy1 .i64 .i64 _ _ n rfl rfl rfl rfl (by rw [hy2]; omega) (by unfold maxLen; omega) (by simp) ?_); intro w1 o1 gr1; have HO := hid (show w1.ownsRow (w.heap.size + 1) 4 1 (.slice (some ⟨w.heap.size + 1, 0, none⟩) n n) n (bls (List.replicate n false)) by (rw [← bls_falses]; simpa using o1)); have HB1 := hid (show Below (w.heap.size + 1) (w.alloc (.cells #[.slice so n sc, .int .i64 s, .int .i64 f] 28)) w1 from (Below.refl _ _).grown gr1 (by simp) (fun k hk => by cases hk)); clear o1 gr1)
  go_loopw [6] (fun y wr => ∃ (i : Nat) (bs : List Bool), y = .int .i64 i ∧ i ≤ ln ∧ Hid (bs.length = n) ∧ Hid (wr.ownsRow (w.heap.size + 1) 4 1 (.slice (some ⟨w.heap.size + 1, 0, none⟩) n n) n (bls bs)) ∧ Hid (∀ x, tru bs x ↔ x ∈ l.take i ∧ 0 ≤ x ∧ x < (n : Int)) ∧ Hid (Below (w.heap.size + 1) (w.alloc (.cells #[.slice so n sc, .int .i64 s, .int .i64 f] 28)) wr)) (fun y _ => ln - (intOf y).toNat)
  case atStart => exact ⟨0, List.replicate n false, rfl, Nat.zero_le _, by simp [Hid], HO, fun x => ⟨fun h => absurd h (tru_falses n x), fun h => by simp at h⟩, HB1⟩
  case round =>
    clear HO HB1
    obtain ⟨i, bs, rfl, hi, HBL, HO, HI, HB⟩ := hrel
    have hsz : w.heap.size + 1 ≤ wr.heap.size := by have := HB.out.size; simpa using this
    by_cases hlt : i < ln
    · have hil : i < l.length := by have := HLN.out; omega
      obtain ⟨a, rfl, _, a0⟩ := HL.out.below (box_trans HB.out) i l[i] (List.getElem?_eq_getElem hil)
      have HM := hid (fun x => mem_take_at (x := x) (List.getElem?_eq_getElem hil))
      obtain ⟨z, hz⟩ : ∃ z, z = l[i] := ⟨_, rfl⟩
      rw [← hz] at a0 HM
      clear hz hil
      have i3 : (i : Int) < (ln : Int) := by omega
      have i0' : (0 : Int) ≤ (i : Int) := by omega
      by_cases z0 : 0 ≤ z
      · by_cases z1 : z < (n : Int)
        · obtain ⟨t, rfl⟩ : ∃ t : Nat, z = (t : Int) := ⟨z.toNat, by omega⟩
          have htb : t < bs.length := by have := HBL.out; omega
          have o0 := ownb_at HO.out (List.getElem?_eq_getElem htb)
          have fz := HO.out.frozenAt t
          have hst := HO.out.stored t (.bool true)
          rw [bls_set] at hst
          have HO2 := hid hst.1
          have HB2 := hid (HB.out.grown hst.2 hsz (fun k hk => by cases hk; exact Nat.le_refl _))
          have HI2 := hid (show ∀ x, tru (bs.set t true) x ↔ x ∈ l.take (i + 1) ∧ 0 ≤ x ∧ x < (n : Int) from fun x => by
            rw [tru_set htb, HM.out x, HI.out x]
            constructor
            · rintro (h | h)
              · exact ⟨.inl h.1, h.2⟩
              · exact ⟨.inr h, by omega, by omega⟩
            · rintro ⟨h | h, h2⟩
              · exact .inl ⟨h, h2⟩
              · exact .inr h)
          obtain ⟨v, hv⟩ : ∃ v, v = bs[t] := ⟨_, rfl⟩
          rw [← hv] at o0
          clear hv hst htb
          go_wp2
          go_roundw
          case rel => exact ⟨i + 1, bs.set t true, by go_num, by omega, by rw [List.length_set]; exact HBL, HO2, HI2, HB2⟩
          case measure => simp [intOf]; omega
        · have HI2 := hid (show ∀ x, tru bs x ↔ x ∈ l.take (i + 1) ∧ 0 ≤ x ∧ x < (n : Int) from fun x => by
            rw [HM.out x, HI.out x]
            exact ⟨fun h => ⟨.inl h.1, h.2⟩, fun h => ⟨h.1.elim id (fun e => by omega), h.2⟩⟩)
          go_wp2
          go_roundw
          case rel => exact ⟨i + 1, bs, by go_num, by omega, HBL, HO, HI2, HB⟩
          case measure => simp [intOf]; omega
      · have HI2 := hid (show ∀ x, tru bs x ↔ x ∈ l.take (i + 1) ∧ 0 ≤ x ∧ x < (n : Int) from fun x => by
          rw [HM.out x, HI.out x]
          exact ⟨fun h => ⟨.inl h.1, h.2⟩, fun h => ⟨h.1.elim id (fun e => by omega), h.2⟩⟩)
        go_wp2
        go_roundw
        case rel => exact ⟨i + 1, bs, by go_num, by omega, HBL, HO, HI2, HB⟩
        case measure => simp [intOf]; omega
    · have i3 : ¬ (i : Int) < (ln : Int) := by omega
      have HF := hid (show ∀ x, tru bs x ↔ x ∈ l ∧ 0 ≤ x ∧ x < (n : Int) from fun x => by
        have h := HI.out x
        rw [List.take_of_length_le (by have := HLN.out; omega)] at h
        exact h)
      go_wp2
      go_ret
      exact ⟨bs, w.heap.size + 1, n, rfl, own_mono' HO.out (by omega), HBL.out, HF.out, box_trans HB.out⟩
end Go.Proofs.YteacehfihogmpaaDoor
/- The contract of step (the document's). -/
namespace Go.Proofs.YteacehfihogmpaaDoor
open Go.RowKit

theorem fmd_edges {n : Int} {s : St} (h : fmd n s = true) : edg n s.1 = true := by
  unfold fmd at h
  simp only [Bool.and_eq_true] at h
  exact h.1
/-- Where one comes by a class from the first states of a set. -/
def SU (L : List St) (bs : List Bool) (c : Int) (i : Nat) (x : Int) : Prop := ∃ y : Nat, y < i ∧ bs[y]? = some true ∧ ∃ s, L[y]? = some s ∧ ∃ e ∈ s.1, e.2 = x ∧ c ∈ e.1
def SUE (b : Bool) (E : List Ed) (c : Int) (k : Nat) (x : Int) : Prop := b = true ∧ ∃ e ∈ E.take k, e.2 = x ∧ c ∈ e.1
theorem SU.zero {L : List St} {bs : List Bool} {c x : Int} : ¬ SU L bs c 0 x := by rintro ⟨y, h, _⟩; omega
theorem SU.next {L : List St} {bs : List Bool} {c x : Int} {i : Nat} {b : Bool} {E : List Ed} {F : List Int} (hb : bs[i]? = some b) (hL : L[i]? = some (E, F)) : SU L bs c (i + 1) x ↔ SU L bs c i x ∨ SUE b E c E.length x := by
  constructor
  · rintro ⟨y, h1, h2, s, h3, e, h4, h5⟩
    by_cases hy : y = i
    · subst hy
      rw [hb] at h2
      rw [hL] at h3
      cases h3
      cases h2
      exact .inr ⟨rfl, e, by rw [List.take_of_length_le (Nat.le_refl _)]; exact h4, h5⟩
    · exact .inl ⟨y, by omega, h2, s, h3, e, h4, h5⟩
  · rintro (⟨y, h1, h2⟩ | ⟨h1, e, h2, h3⟩)
    · exact ⟨y, by omega, h2⟩
    · rw [List.take_of_length_le (Nat.le_refl _)] at h2
      exact ⟨i, by omega, by rw [hb, h1], _, hL, e, h2, h3⟩
theorem SUE.zero {b : Bool} {E : List Ed} {c x : Int} : ¬ SUE b E c 0 x := by rintro ⟨_, e, h, _⟩; simp at h
theorem SUE.no {E : List Ed} {c x : Int} {k : Nat} : ¬ SUE false E c k x := by rintro ⟨h, _⟩; cases h
theorem SUE.step {E : List Ed} {c x t : Int} {k : Nat} {C : List Int} (hk : E[k]? = some (C, t)) : SUE true E c (k + 1) x ↔ SUE true E c k x ∨ (x = t ∧ c ∈ C) := by
  constructor
  · rintro ⟨_, e, h, h1, h2⟩
    rcases (mem_take_at hk).1 h with h3 | h3
    · exact .inl ⟨rfl, e, h3, h1, h2⟩
    · subst h3; exact .inr ⟨h1.symm, h2⟩
  · rintro (⟨_, e, h, h1⟩ | ⟨h1, h2⟩)
    · exact ⟨rfl, e, (mem_take_at hk).2 (.inl h), h1⟩
    · exact ⟨rfl, (C, t), (mem_take_at hk).2 (.inr rfl), h1.symm, h2⟩
theorem SU.all {L : List St} {bs : List Bool} {c x : Int} {n : Nat} (hn : bs.length ≤ n) : SU L bs c n x ↔ StA L (tru bs) c x := by
  constructor
  · rintro ⟨y, _, h2, h3⟩
    exact ⟨(y : Int), tru_nat.2 h2, by simpa using h3⟩
  · rintro ⟨y, h1, h2⟩
    have := (List.getElem?_eq_some_iff.1 h1.2).1
    exact ⟨y.toNat, by omega, h1.2, h2⟩
set_option maxHeartbeats 4000000 in
set_option maxRecDepth 100000 in
theorem rstep_any (so : Option Addr) (sc n : Nat) (L : List St) (s f : Int) (bo : Option Addr) (bc : Nat) (bs : List Bool) (c : Int) (w : World) (hn : n = L.length) (hs : RdS w so L) (hg : gdB L s f = true) (hb : RdB w bo bs) (hbl : bs.length = n) :
    Calls Tryd.prog 80 #[.agg #[.slice so n sc, .int .i64 s, .int .i64 f], .slice bo n bc, .int .i64 c] w fun e w' => BoQ w n (Nxt L (tru bs) c) e w' := by
  obtain ⟨j0, hi4, hy0, hy1, hy2⟩ := info_parts Tryd.info4
  have hgd := gdd_of hg
  have h4 : n ≤ 4096 := by have := hgd.few; omega
  have HGD := hid hgd
  have HG := hid hg
  have HN := hid hn
  have HS := hid hs
  have HRB := hid hb
  have HBL := hid hbl
  clear hn hs hg hb hbl hgd
  go_enter Tryd.func80, Tryd.ntmps80
  go_wp2_with (at_make; go_loud (refine wpList_make_full _ rfl _ _ 107 rfl (w.heap.size + 1) 4 j0 (.bool false) 1 Tryd.underlying107 hi4 hy0 hy1 .i64 .i64 _ _ n rfl rfl rfl rfl (by rw [hy2]; omega) (by unfold maxLen; omega) (by simp) ?_); intro w1 o1 gr1; have HO := hid (show w1.ownsRow (w.heap.size + 1) 4 1 (.slice (some ⟨w.heap.size + 1, 0, none⟩) n n) n (bls (List.replicate n false)) by (rw [← bls_falses]; simpa using o1)); have HB1 := hid (show Below (w.heap.size + 1) (w.alloc (.cells #[.slice so n sc, .int .i64 s, .int .i64 f] 28)) w1 from (Below.refl _ _).grown gr1 (by simp) (fun k hk => by cases hk)); clear o1 gr1)
  go_loopw [8] (fun y wr => ∃ (i : Nat) (ob : List Bool), y = .int .i64 i ∧ i ≤ n ∧ Hid (ob.length = n) ∧ Hid (wr.ownsRow (w.heap.size + 1) 4 1 (.slice (some ⟨w.heap.size + 1, 0, none⟩) n n) n (bls ob)) ∧ Hid (∀ x, tru ob x ↔ SU L bs c i x) ∧ Hid (Below (w.heap.size + 1) (w.alloc (.cells #[.slice so n sc, .int .i64 s, .int .i64 f] 28)) wr)) (fun y _ => n - (intOf y).toNat)
  case atStart => exact ⟨0, List.replicate n false, rfl, Nat.zero_le _, by simp [Hid], HO, fun x => ⟨fun h => absurd h (tru_falses n x), fun h => absurd h SU.zero⟩, HB1⟩
  case round =>
    clear HO HB1
    obtain ⟨i, ob, rfl, hi, HOL, HO, HI, HB⟩ := hrel
    have hsz : w.heap.size + 1 ≤ wr.heap.size := by have := HB.out.size; simpa using this
    by_cases hlt : i < n
    · have hib : i < bs.length := by have := HBL.out; omega
      obtain ⟨ba, eba, hbab, b0w⟩ := HRB.out i bs[i] (List.getElem?_eq_getElem hib)
      have HBI := hid (List.getElem?_eq_getElem hib)
      obtain ⟨b, hb⟩ : ∃ b, b = bs[i] := ⟨_, rfl⟩
      rw [← hb] at b0w HBI
      clear hb hib
      subst eba
      obtain ⟨E, F, hEF⟩ : ∃ E F, L[i]? = some (E, F) := ⟨L[i]'(by have := HN.out; omega) |>.1, _, List.getElem?_eq_getElem _⟩
      obtain ⟨a, ea, hab, eo, ec, fo, fc, f0w, _, hE, _, hel, _⟩ := HS.out i (E, F) hEF
      subst ea
      dsimp only at f0w hel
      obtain ⟨en, hen⟩ : ∃ en, en = E.length := ⟨_, rfl⟩
      rw [← hen] at f0w hel
      have HEN := hid hen
      have HEF := hid hEF
      have HER := hid hE
      have HF0 := hid f0w
      have HB0 := hid b0w
      have HAB := hid hab
      have HBB := hid hbab
      unfold most at hel
      have i3 : (i : Int) < (n : Int) := by omega
      have i0' : (0 : Int) ≤ (i : Int) := by omega
      clear hen hEF hE f0w b0w hab hbab
      go_wp2
      go_loopw [9] (fun y wr => ∃ (k : Nat) (ob : List Bool), y = .int .i64 k ∧ k ≤ en ∧ Hid (ob.length = n) ∧ Hid (wr.ownsRow (w.heap.size + 1) 4 1 (.slice (some ⟨w.heap.size + 1, 0, none⟩) n n) n (bls ob)) ∧ Hid (∀ x, tru ob x ↔ SU L bs c i x ∨ SUE b E c k x) ∧ Hid (Below (w.heap.size + 1) (w.alloc (.cells #[.slice (some a) n sc, .int .i64 s, .int .i64 f] 28)) wr)) (fun y _ => en - (intOf y).toNat)
      case atStart => exact ⟨0, ob, rfl, Nat.zero_le _, HOL, HO, fun x => (HI.out x).trans ⟨fun h => .inl h, fun h => h.elim id (fun h => absurd h SUE.zero)⟩, HB⟩
      case round =>
        clear HOL HO HI HB hsz
        obtain ⟨k, ob, rfl, hk, HOL, HO, HI, HB⟩ := hrel
        have hsz : w.heap.size + 1 ≤ wr.heap.size := by have := HB.out.size; simpa using this
        obtain ⟨c0, c1, c2⟩ := box3 HB.out
        have b0 := ((box_trans HB.out).cell (p := ba.add i) (by rw [add_blk]; exact HBB.out)).trans HB0.out
        have f0 := ((box_trans HB.out).cell (p := a.add (i * 2)) (by rw [add_blk]; exact HAB.out)).trans HF0.out
        rcases bool_cases b with hb | hb
        · subst hb
          by_cases hkl : k < en
          · have k3 : (k : Int) < (en : Int) := by omega
            have k0 : (0 : Int) ≤ (k : Int) := by omega
            have hkE : k < E.length := by have := HEN.out; omega
            obtain ⟨C, t, hCt⟩ : ∃ C t, E[k]? = some (C, t) := ⟨E[k].1, _, List.getElem?_eq_getElem hkE⟩
            have htb := wn_iff.1 (edg_all (fmd_edges (HGD.out.all _ (List.mem_of_getElem? HEF.out))) (C, t) (List.mem_of_getElem? hCt)).1
            dsimp only at htb
            obtain ⟨u, rfl⟩ : ∃ u : Nat, t = (u : Int) := ⟨t.toNat, by omega⟩
            have hun : u < n := by have := HN.out; omega
            obtain ⟨d, ed, hdb, co, cc, d0w, d1w, hC, hcl⟩ := HER.out k (C, (u : Int)) hCt
            subst ed
            dsimp only at d0w d1w hC hcl
            obtain ⟨cn, hcn⟩ : ∃ cn, cn = C.length := ⟨_, rfl⟩
            rw [← hcn] at d0w hcl
            have d0 := ((box_trans HB.out).cell (p := d.add (k * 2)) (by rw [add_blk]; exact hdb)).trans d0w
            have d1 := ((box_trans HB.out).cell (p := ⟨(d.add (k * 2)).block, (d.add (k * 2)).off + 1, none⟩) (show (d.add (k * 2)).block < _ by rw [add_blk]; exact hdb)).trans d1w
            have HCT := hid hCt
            have HCR := hid hC
            have HCN := hid hcn
            have HCL := hid hcl
            clear hCt hC hcn d0w d1w hdb hkE htb hcl
            go_wp2_with fail
            have HBA := hid (HB.out.alloc hsz (.cells #[.slice co cn cc, .int .i64 (u : Int)] 88))
            refine (has_any co cc cn C c _ HCN.out (HCR.out.below (box_trans HBA.out)) HCL.out).mono ?_
            rintro e w8 ⟨rfl, hw8⟩
            have p1 : w8.cell? ⟨wr.heap.size, 1, none⟩ = some (.int .i64 (u : Int)) := by
              rw [hw8, cell_of_row _ wr.heap.size 1 #[.slice co cn cc, .int .i64 (u : Int)] 88 (0, 0) (show (wr.heap.push _)[wr.heap.size]? = _ by simp)]
              rfl
            have HB8 := hid (show Below (w.heap.size + 1) (w.alloc (.cells #[.slice (some a) n sc, .int .i64 s, .int .i64 f] 28)) w8 by rw [hw8]; exact HBA.out)
            have HO8 := hid (show w8.ownsRow (w.heap.size + 1) 4 1 (.slice (some ⟨w.heap.size + 1, 0, none⟩) n n) n (bls ob) by rw [hw8]; exact HO.out.alloc _)
            have hs8 : w.heap.size + 1 ≤ w8.heap.size := by have := HB8.out.size; simpa using this
            clear hw8 HBA HB HO c0 c1 c2 b0 f0 d0 d1 hsz
            by_cases hc : c ∈ C
            · rw [decide_eq_true hc]
              have hub : u < ob.length := by have := HOL.out; omega
              have o0 := ownb_at HO8.out (List.getElem?_eq_getElem hub)
              have fz := HO8.out.frozenAt u
              have hst := HO8.out.stored u (.bool true)
              rw [bls_set] at hst
              have HO9 := hid hst.1
              have HB9 := hid (HB8.out.grown hst.2 hs8 (fun k hk => by cases hk; exact Nat.le_refl _))
              have HI9 := hid (show ∀ x, tru (ob.set u true) x ↔ SU L bs c i x ∨ SUE true E c (k + 1) x from fun x => by
                rw [tru_set hub, HI.out x, SUE.step HCT.out, or_assoc]
                exact or_congr Iff.rfl (or_congr Iff.rfl ⟨fun h => ⟨h, hc⟩, fun h => h.1⟩))
              obtain ⟨v, hv⟩ : ∃ v, v = ob[u] := ⟨_, rfl⟩
              rw [← hv] at o0
              have u3 : (u : Int) < (n : Int) := by omega
              have u0 : (0 : Int) ≤ (u : Int) := by omega
              clear hv hst hub hc
              go_wp2
              go_roundw
              case rel => exact ⟨k + 1, ob.set u true, by go_num, by omega, by rw [List.length_set]; exact HOL, HO9, HI9, HB9⟩
              case measure => simp [intOf]; omega
            · rw [decide_eq_false hc]
              have HI9 := hid (show ∀ x, tru ob x ↔ SU L bs c i x ∨ SUE true E c (k + 1) x from fun x => by
                rw [HI.out x, SUE.step HCT.out]
                exact or_congr Iff.rfl ⟨fun h => .inl h, fun h => h.elim id (fun h => absurd h.2 hc)⟩)
              clear hc
              go_wp2
              go_roundw
              case rel => exact ⟨k + 1, ob, by go_num, by omega, HOL, HO8, HI9, HB8⟩
              case measure => simp [intOf]; omega
          · have k3 : ¬ (k : Int) < (en : Int) := by omega
            have HI2 := hid (show ∀ x, tru ob x ↔ SU L bs c (i + 1) x from fun x => by
              rw [HI.out x, SU.next HBI.out HEF.out, show k = E.length by have := HEN.out; omega])
            go_wp2
            go_roundw
            case rel => exact ⟨i + 1, ob, by go_num, by omega, HOL, HO, HI2, HB⟩
            case measure => simp [intOf]; omega
        · subst hb
          have HI2 := hid (show ∀ x, tru ob x ↔ SU L bs c (i + 1) x from fun x => by
            rw [HI.out x, SU.next HBI.out HEF.out]
            exact or_congr Iff.rfl ⟨fun h => absurd h SUE.no, fun h => absurd h SUE.no⟩)
          go_wp2
          go_roundw
          case rel => exact ⟨i + 1, ob, by go_num, by omega, HOL, HO, HI2, HB⟩
          case measure => simp [intOf]; omega
    · have i3 : ¬ (i : Int) < (n : Int) := by omega
      obtain ⟨c0, c1, c2⟩ := box3 HB.out
      go_wp2_with fail
      refine (rclosed_any so sc n L s f (some ⟨w.heap.size + 1, 0, none⟩) n ob wr HN.out (HS.out.below (box_trans HB.out)) HG.out (rdb_own HO.out) HOL.out).mono ?_
      rintro e w5 ⟨bs5, g5, vc5, rfl, o5, hl5, hi5, b5⟩
      have HO5 := hid o5
      have HI5 := hid hi5
      have HL5 := hid hl5
      have HB5 := hid ((box_trans HB.out).trans (b5.mono (by omega)))
      clear o5 hi5 hl5 b5
      go_wp2
      go_ret
      refine ⟨bs5, g5, vc5, rfl, own_mono' HO5.out (by omega), HL5.out, fun x => (HI5.out x).trans (Clo.congr (fun y => ?_) x), HB5.out⟩
      rw [HI.out y, show i = n by omega]
      exact SU.all (by have := HBL.out; omega)
end Go.Proofs.YteacehfihogmpaaDoor
