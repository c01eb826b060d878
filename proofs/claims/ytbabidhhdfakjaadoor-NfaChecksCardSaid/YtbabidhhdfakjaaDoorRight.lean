/- The contract of right (the document's). -/
import Derived.Test.YtbabidhhdfakjaaDoorRises
import Derived.Test.YtbabidhhdfakjaaDoorFormed
namespace Go.Proofs.YtbabidhhdfakjaaDoor
open Go.RowKit

set_option maxHeartbeats 1000000 in
theorem right_any (eo fo : Option Addr) (ec fc en fn : Nat) (E : List Ed) (F : List Int) (c : Int) (w : World) (hen : en = E.length) (hfn : fn = F.length) (he : RdE w eo E) (hf : RdI w fo F) (hel : en ≤ most) (hfl : fn ≤ most) :
    Calls Tryd.prog 75 #[.agg #[.slice eo en ec, .slice fo fn fc], .int .i64 c] w fun e w' => e = .returned (.bool (fmd c (E, F))) ∧ Below w.heap.size w w' := by
  unfold most at hel hfl
  have HE := hid he
  have HF := hid hf
  have HEN := hid hen
  have HFN := hid hfn
  clear he hf hen hfn
  go_enter Tryd.func75, Tryd.ntmps75
  go_wp2
  go_loopw [5] (fun x wr => ∃ k : Nat, x = .int .i64 k ∧ k ≤ en ∧ Hid (edg c E = edg c (E.drop k)) ∧ Hid (Below (w.heap.size + 1) (w.alloc (.cells #[.slice eo en ec, .slice fo fn fc] 86)) wr)) (fun x _ => en - (intOf x).toNat)
  case atStart => exact ⟨0, rfl, Nat.zero_le _, rfl, box_self⟩
  case round =>
    obtain ⟨k, rfl, hk, HEK, HB⟩ := hrel
    obtain ⟨c0, c1⟩ := box2 HB.out
    by_cases hlt : k < en
    · have hkl : k < E.length := by have := HEN.out; omega
      obtain ⟨a, rfl, ha, co, cc, a0, a1, hI, hcl⟩ := HE.out.boxed HB.out k E[k] (List.getElem?_eq_getElem hkl)
      have HD := hid (drop_at hkl)
      rw [HD.out] at HEK
      obtain ⟨g, hg⟩ : ∃ g, g = E[k] := ⟨_, rfl⟩
      rw [← hg] at a0 a1 HEK hI hcl
      clear hg HD hkl
      obtain ⟨C, t⟩ := g
      dsimp only at a0 a1 hI hcl
      obtain ⟨n1, hn1⟩ : ∃ n1, n1 = C.length := ⟨_, rfl⟩
      rw [← hn1] at a0 hcl
      have HN1 := hid hn1
      have HCL := hid hcl
      have HI := hid hI
      clear hn1 hcl hI
      have i3 : (k : Int) < (en : Int) := by omega
      by_cases t0 : t < 0
      · have HF1 := hid (fmd_no1 (F := F) (HEK.out.trans (edg_no1 (wn_no (.inl t0)))))
        go_wp2
        go_ret
        exact ⟨by rw [HF1.out]; rfl, box_trans HB.out⟩
      · by_cases t1 : c ≤ t
        · have HF1 := hid (fmd_no1 (F := F) (HEK.out.trans (edg_no1 (wn_no (.inr t1)))))
          go_wp2
          go_ret
          exact ⟨by rw [HF1.out]; rfl, box_trans HB.out⟩
        · have HW := hid (wn_yes (i := t) (n := c) (by omega) (by omega))
          rcases bool_cases (rs (-1) C) with hR | hR
          · have HF1 := hid (HEK.out.trans (edg_ok HW.out hR))
            go_wp2_with (first | (go_at_call 113; refine (rises_any _ _ _ C _ HN1.out HI.out HCL.out).mono ?_; rintro e w' ⟨rfl, hb'⟩))
            have HB2 := hid (HB.out.trans (hb'.mono (by have := HB.out.size; simp at this; omega)))
            go_roundw
            case rel => exact ⟨k + 1, by go_num, by omega, HF1, HB2⟩
            case measure => simp [intOf]; omega
          · have HF1 := hid (fmd_no1 (F := F) (HEK.out.trans (edg_no2 hR)))
            go_wp2_with (first | (go_at_call 113; refine (rises_any _ _ _ C _ HN1.out HI.out HCL.out).mono ?_; rintro e w' ⟨rfl, hb'⟩))
            have HB2 := hid (HB.out.trans (hb'.mono (by have := HB.out.size; simp at this; omega)))
            go_ret
            exact ⟨by rw [HF1.out]; rfl, box_trans HB2.out⟩
    · have HD := hid (drop_end (l := E) (k := k) (by have := HEN.out; omega))
      rw [HD.out] at HEK
      have HFM := hid (fmd_go (F := F) HEK.out)
      have HFI := hid (HF.out.boxed HB.out)
      have HBB := hid (box_trans HB.out)
      clear HEK HD HE HF HB
      go_wp2
      go_loop [6] (fun x => ∃ j : Nat, x = .int .i64 j ∧ j ≤ fn ∧ Hid (fre c F = fre c (F.drop j))) (fun x => fn - (intOf x).toNat)
      case atStart => exact ⟨0, rfl, Nat.zero_le _, rfl⟩
      case round =>
        obtain ⟨j, rfl, hj, HFJ⟩ := hrel
        by_cases hjl : j < fn
        · have hkl : j < F.length := by have := HFN.out; omega
          obtain ⟨b, rfl, hb, b0⟩ := HFI.out j F[j] (List.getElem?_eq_getElem hkl)
          have HD := hid (drop_at hkl)
          rw [HD.out] at HFJ
          obtain ⟨z, hz⟩ : ∃ z, z = F[j] := ⟨_, rfl⟩
          rw [← hz] at b0 HFJ
          clear hz HD hkl
          have i4 : (j : Int) < (fn : Int) := by omega
          by_cases t0 : z < 0
          · have HF1 := hid (HFM.out.trans (HFJ.out.trans (fre_no (wn_no (.inl t0)))))
            go_wp2
            go_ret
            exact ⟨by rw [HF1.out]; rfl, HBB.out⟩
          · by_cases t1 : c ≤ z
            · have HF1 := hid (HFM.out.trans (HFJ.out.trans (fre_no (wn_no (.inr t1)))))
              go_wp2
              go_ret
              exact ⟨by rw [HF1.out]; rfl, HBB.out⟩
            · have HF1 := hid (HFJ.out.trans (fre_ok (wn_yes (by omega) (by omega))))
              go_wp2
              go_round
              case rel => exact ⟨j + 1, by go_num, by omega, HF1⟩
              case measure => simp [intOf]; omega
        · have HD := hid (drop_end (l := F) (k := j) (by have := HFN.out; omega))
          rw [HD.out] at HFJ
          have HF1 := hid (HFM.out.trans HFJ.out)
          go_wp2
          go_ret
          exact ⟨by rw [HF1.out]; rfl, HBB.out⟩
end Go.Proofs.YtbabidhhdfakjaaDoor
