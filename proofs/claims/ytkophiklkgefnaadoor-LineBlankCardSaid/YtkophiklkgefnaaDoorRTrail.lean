/- The contract of the document's Trail. -/
import Derived.Test.YtkophiklkgefnaaDoorTrMath
namespace Go.Proofs.YtkophiklkgefnaaDoor.Ln
open Go.RowKit

set_option maxHeartbeats 4000000 in
set_option maxRecDepth 100000 in
theorem rtrail_any (l : List UInt8) (w : World) (hl : l.length ≤ 1000000) :
    Calls Tryd.prog 26 #[.string ⟨l.toArray⟩] w fun e w' => e = .returned (.int .i64 ((trl l).length : Nat)) ∧ Below w.heap.size w w' := by
  go_enter Tryd.func26, Tryd.ntmps26
  go_wp2_with fail
  refine (Dc.db14 w).mono ?_
  rintro e w1 ⟨b1, Q, rfl, k1⟩
  have HB1 := hid b1
  have HK1 := hid k1
  clear b1 k1
  go_wp2_with fail
  refine (Dc.rrunes_rd l w1 hl).mono ?_
  rintro e w2 ⟨xo, xc, rfl, hr, b2⟩
  have HR := hid hr
  have HB2 := hid (HB1.out.trans (b2.mono HB1.out.size))
  have HK2 := hid (HK1.out.below b2)
  have HN := hid (txt_len l)
  obtain ⟨n, hn⟩ : ∃ n, n = (Dc.txt l).length := ⟨_, rfl⟩
  rw [← hn] at HN ⊢
  have n9 : n ≤ 1000000 := by
    have h1 := HN.out
    have h2 := Dc.plr_len l l.length 0 (by omega)
    have h3 := Dc.cls_len l.length (Dc.plr l 0)
    have h4 : (Dc.txt l).length = (Dc.plr l 0).length := h3
    omega
  clear hr b2 HB1 HK1 hn
  go_wp2
  go_loopw [5] (fun x wr => ∃ k : Nat, k ≤ n ∧ x = .int .i64 ((k : Int) - 1) ∧ Hid (trl l = trl (l.take (plc l k))) ∧ Hid (Below w.heap.size w wr) ∧ Hid (Dc.Bk Dc.lnU Dc.lnW Q wr) ∧ Hid (Dc.RdT wr xo (Dc.txt l))) (fun x _ => (intOf x + 1).toNat)
  case atStart => exact ⟨n, Nat.le_refl _, by simp, by rw [HN.out]; exact trl_start l, HB2.out, HK2.out, HR.out⟩
  case round =>
    obtain ⟨k, hk, rfl, HT, HB, HK, HX⟩ := hrel
    clear HB2 HK2 HR
    by_cases h0 : k = 0
    · subst h0
      have HV := hid (show (trl l).length = 0 by rw [HT.out]; rfl)
      clear HT
      go_wp2
      go_ret
      exact ⟨by rw [HV.out]; rfl, HB.out⟩
    · obtain ⟨j, rfl⟩ : ∃ j, k = j + 1 := ⟨k - 1, by omega⟩
      have hj : j < (rl l).length := by have := HN.out; omega
      have HE := hid (List.getElem?_eq_getElem hj)
      obtain ⟨x, hx⟩ : ∃ x, x = (rl l)[j] := ⟨_, rfl⟩
      rw [← hx] at HE
      obtain ⟨g, rfl, hg, z0, z1, z2⟩ := HX.out j _ (txt_at l j x HE.out)
      have HRU := hid (rl_rune l x (by rw [hx]; exact List.getElem_mem hj))
      clear hx hj h0
      have e1 : ((j + 1 : Nat) : Int) - 1 = (j : Int) := by omega
      rw [e1]
      have i0 : (0 : Int) ≤ (j : Int) := by omega
      have i1 : (j : Int) < (n : Int) := by omega
      obtain ⟨c, hc, hc2⟩ := lncls_bd x.1 HRU.out
      have HC := hid hc
      have HC2 := hid hc2
      obtain ⟨u, hu⟩ : ∃ u, u = Dc.lnN (c : Int) := ⟨_, rfl⟩
      have HU := hid hu
      have HNM := hid (fun ww (hh : Dc.Bk Dc.lnU Dc.lnW Q ww) => (show Calls Tryd.prog 29 #[.pointer (some ⟨Q, 0, none⟩), .int .i32 (x.1 : Int)] ww fun e w' => e = .returned (.string ⟨u.toArray⟩) ∧ Below ww.heap.size ww w' by
        have h5 := Dc.named_ln Q x.1 ww hh HRU.out
        rw [HC.out, ← HU.out] at h5
        exact h5))
      obtain ⟨X0, hX0⟩ : ∃ X0, X0 = (x.1 : Int) := ⟨_, rfl⟩
      rw [← hX0] at z0 HNM
      clear hc hc2 hu hX0 e1
      go_wp2_with fail
      refine (HNM.out _ HK.out).mono ?_
      rintro e w3 ⟨rfl, b3⟩
      have HB3 := hid (HB.out.trans (b3.mono HB.out.size))
      have HK3 := hid (HK.out.below b3)
      have HX3 := hid (HX.out.below b3)
      clear HB HK HX HNM b3
      by_cases hm : amg [4, 1, 2, 3, 5] (c : Int) = true
      · have HT2 := hid (show trl l = trl (l.take (plc l j)) by rw [HT.out]; exact trl_more l j x HE.out (by rw [HC.out]; exact hm))
        clear HT
        have hcs := trl_cls c HC2.out hm
        clear hm HC2 HC HE HRU
        rcases hcs with rfl | rfl | rfl | rfl | rfl
        · obtain rfl : u = [83, 112] := HU.out.trans (by decide +kernel)
          clear HU
          go_wp2
          go_roundw
          case rel => exact ⟨j, by omega, by simp, HT2.out, HB3.out, HK3.out, HX3.out⟩
          case measure => simp [intOf]
        · obtain rfl : u = [66, 107] := HU.out.trans (by decide +kernel)
          clear HU
          go_wp2
          go_roundw
          case rel => exact ⟨j, by omega, by simp, HT2.out, HB3.out, HK3.out, HX3.out⟩
          case measure => simp [intOf]
        · obtain rfl : u = [67, 114] := HU.out.trans (by decide +kernel)
          clear HU
          go_wp2
          go_roundw
          case rel => exact ⟨j, by omega, by simp, HT2.out, HB3.out, HK3.out, HX3.out⟩
          case measure => simp [intOf]
        · obtain rfl : u = [76, 102] := HU.out.trans (by decide +kernel)
          clear HU
          go_wp2
          go_roundw
          case rel => exact ⟨j, by omega, by simp, HT2.out, HB3.out, HK3.out, HX3.out⟩
          case measure => simp [intOf]
        · obtain rfl : u = [90, 119] := HU.out.trans (by decide +kernel)
          clear HU
          go_wp2
          go_roundw
          case rel => exact ⟨j, by omega, by simp, HT2.out, HB3.out, HK3.out, HX3.out⟩
          case measure => simp [intOf]
      · have HT2 := hid (show (trl l).length = plc l (j + 1) by rw [HT.out]; exact trl_stop l j x HE.out (by rw [HC.out]; simpa using hm))
        obtain ⟨q1, q2, q3, q4, q5⟩ := trl_ncls c hm
        have u1 : (u == [83, 112]) = false := by rw [HU.out]; exact lnN_ne c HC2.out 4 (by omega) q1 _ (by decide +kernel)
        have u2 : (u == [66, 107]) = false := by rw [HU.out]; exact lnN_ne c HC2.out 1 (by omega) q2 _ (by decide +kernel)
        have u3 : (u == [67, 114]) = false := by rw [HU.out]; exact lnN_ne c HC2.out 2 (by omega) q3 _ (by decide +kernel)
        have u4 : (u == [76, 102]) = false := by rw [HU.out]; exact lnN_ne c HC2.out 3 (by omega) q4 _ (by decide +kernel)
        have u5 : (u == [90, 119]) = false := by rw [HU.out]; exact lnN_ne c HC2.out 5 (by omega) q5 _ (by decide +kernel)
        obtain ⟨g', hg', _, y0, y1, y2⟩ := HX3.out j _ (txt_at l j x HE.out)
        cases hg'
        clear HT HC HC2 HU HE HRU hm q1 q2 q3 q4 q5 z0 z1 z2 y0 y1
        obtain ⟨P, hP⟩ : ∃ P, P = plc l (j + 1) := ⟨_, rfl⟩
        rw [← hP] at HT2 y2
        clear hP
        go_wp2
        go_ret
        exact ⟨by rw [HT2.out]; rfl, HB3.out⟩
end Go.Proofs.YtkophiklkgefnaaDoor.Ln
