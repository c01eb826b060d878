/- The walk of PropsBack. -/
import Derived.Test.YtohhokjlgihbgaaGreatDoorCBkMath
import Derived.Test.YtohhokjlgihbgaaGreatDoorCTexts4
import Derived.Test.YtohhokjlgihbgaaGreatDoorCLive4
namespace Go.Proofs.YtohhokjlgihbgaaGreatDoor
open Go.RowKit

set_option maxRecDepth 100000 in
set_option maxHeartbeats 4000000 in
theorem back_walk (t : List UInt8) (m : Int) (w : World) (h : Tbs m w) (ht : t.length ≤ 9223372036854775807) :
    Calls Tryz.prog 6 #[.string ⟨t.toArray⟩] w fun e w' => e = .returned (.bool true) ∧ Below w.heap.size w w' := by
  have HT := hid h
  have HLV := hid (live_any m)
  have HNU := hid num_any
  have HSZ := hid (show (⟨t.toArray⟩ : ByteArray).size = t.length by show t.toArray.size = _; simp)
  clear h
  by_cases h1 : 12000 < t.length
  · have h1' : (12000 : Int) < (t.length : Int) := by omega
    go_enter Tryz.func6, Tryz.ntmps6
    go_wp2_with fail
    refine (HLV.out w HT.out).mono ?_
    rintro e w1 ⟨rfl, b1⟩
    have HB1 := hid b1
    clear b1
    go_wp2
    go_ret
    exact ⟨rfl, HB1.out⟩
  have h1' : ¬ (12000 : Int) < (t.length : Int) := by omega
  have HNE := hid (new_any t m w HT.out)
  have HGD := hid (nw_good t)
  have HFO := hid (nw_four t)
  have HBK := hid (nw_back t (by omega))
  obtain ⟨er, her⟩ : ∃ er, er = (nw t).1.1 := ⟨_, rfl⟩
  obtain ⟨ln, hln⟩ : ∃ ln, ln = (nw t).1.2 := ⟨_, rfl⟩
  obtain ⟨U, hU⟩ : ∃ U, U = (nw t).2.1 := ⟨_, rfl⟩
  obtain ⟨S, hS⟩ : ∃ S, S = (nw t).2.2 := ⟨_, rfl⟩
  rw [← her, ← hln, ← hU, ← hS] at HNE
  rw [← her, ← hU, ← hS] at HGD HFO HBK
  clear her hln hU hS
  go_enter Tryz.func6, Tryz.ntmps6
  go_wp2_with fail
  refine HNE.out.mono ?_
  rintro e w1 ⟨b1, (⟨hne, rfl⟩ | ⟨he0, P, K, nv, po, pc, rfl, d1, o1, r1, nd1, ln1⟩)⟩
  · have HB1 := hid b1
    have hne' : (er == 0) = false := beq_eq_false_iff_ne.2 hne
    have hne'' : (er != 0) = true := bne_iff_ne.2 hne
    have HL := hid (HLV.out w1 (HT.out.below b1))
    clear b1 HNE
    go_wp2_with (first | (go_at_call 12; refine (HNU.out _ _).mono ?_; rintro e w2 ⟨rfl, hw⟩; obtain rfl := hw.symm) | fail)
    refine HL.out.mono ?_
    rintro e w2 ⟨rfl, b2⟩
    have HB2 := hid (HB1.out.trans (b2.mono HB1.out.size))
    clear b2 HB1 HL
    go_wp2
    go_ret
    exact ⟨rfl, HB2.out⟩
  obtain ⟨hg1, hg2⟩ := HGD.out he0
  obtain ⟨hf1, hf2⟩ := HFO.out he0
  obtain ⟨hk1, hk2, hk3⟩ := HBK.out he0 r1 nd1 ln1
  obtain ⟨k1, k2, k3, k4⟩ := whl_good U S hg1 r1
  obtain ⟨A, hA⟩ : ∃ A, A = whl S := ⟨_, rfl⟩
  rw [← hA] at k1 k2 k3 k4 d1 o1 hk1 hk2
  have hAl : A.length ≤ 10000 := by omega
  obtain ⟨n, hn⟩ : ∃ n, n = U.length := ⟨_, rfl⟩
  have hU0 : 0 < U.length := (List.getElem?_eq_some_iff.1 hg1.1).1
  have HUB := hid (show ∀ b ∈ U, b.length ≤ 1000 from fun b hb => by have h5 := (nam_parts b (hf1 b hb)).2.1; omega)
  have HST := hid (show ∀ c : Int, (stc c A).length ≤ 40000 from fun c => by have h5 := stc_len c A; omega)
  obtain ⟨N, hN⟩ : ∃ N, N = w1.heap.size := ⟨_, rfl⟩
  have HB1 := hid b1
  have HT1 := hid (HT.out.below b1)
  have HTW := hid (show ∀ W, Below N w1 W → Tbs m W from fun W hW => HT1.out.below (by rw [← hN]; exact hW))
  have HDB := hid (show ∀ W, Below N w1 W → DbAt w.heap.size P K U nv (.slice po A.length pc) W ∧ RdK W po (A.map rkT) from fun W hW => ⟨d1.below (by rw [← hN]; exact hW), (rd_own o1).below (by rw [← hN]; exact hW)⟩)
  obtain ⟨T, hT⟩ : ∃ T, T = tx4 A U U.length := ⟨_, rfl⟩
  rw [← hT] at hk1
  have HTX := hid (show ∀ (B' P K : Nat) (nv : Value) (po : Option Addr) (pc : Nat) W, DbAt B' P K U nv (.slice po A.length pc) W → RdK W po (A.map rkT) → Tbs m W → Calls Tryz.prog 25 #[.pointer (some ⟨P, 0, none⟩)] W fun e w' => e = .returned (.string ⟨T.toArray⟩) ∧ Below W.heap.size W w' from fun B' P K nv po pc W hd hr hb => by
    rw [hT]
    exact text_any B' P K U nv po pc A W hd hr (by omega) hU0 (by omega) HUB.out HST.out hb.z hb.s)
  have HSET := hid (show ∀ (B' P K : Nat) (nv : Value) (po : Option Addr) (pc : Nat) (i : Nat) W, DbAt B' P K U nv (.slice po A.length pc) W → RdK W po (A.map rkT) → Calls Tryz.prog 20 #[.pointer (some ⟨P, 0, none⟩), .int .i64 (i : Int)] W fun e w' => ∃ v', e = .returned v' ∧ w'.ownsRow W.heap.size 84 2 v' (stc (i : Int) A).length (rgcs (stc (i : Int) A)) ∧ Below W.heap.size W w' from fun B' P K nv po pc i W hd hr => set_any B' P K U nv po pc A (i : Int) W hd hr (by omega))
  have HNA := hid (show ∀ (B' P K : Nat) (nv pv : Value) W, DbAt B' P K U nv pv W → Calls Tryz.prog 19 #[.pointer (some ⟨P, 0, none⟩)] W fun e w' => ∃ v', e = .returned v' ∧ w'.ownsRow W.heap.size 9 1 v' n (nms U) ∧ Below W.heap.size W w' from fun B' P K nv pv W hd => by
    rw [hn]
    exact names_any B' P K U nv pv W hd hU0 (by omega))
  have hn64 : n ≤ 64 := by omega
  have HN2 := hid (show ∀ W, Below N w1 W → Calls Tryz.prog 10 #[.string ⟨T.toArray⟩] W fun e w' => Below W.heap.size W w' ∧ ∃ P K nv po pc, e = .returned (.tuple #[.pointer (some ⟨P, 0, none⟩), .int .i64 0, .int .i64 0]) ∧ DbAt W.heap.size P K U nv (.slice po A.length pc) w' ∧ RdK w' po (A.map rkT) from fun W hW => by
    have h5 := new_any T m W (HTW.out W hW)
    rw [hk1] at h5
    dsimp only at h5
    rw [hk2] at h5
    refine h5.mono ?_
    rintro e w' ⟨hb, (⟨hne, _⟩ | ⟨_, P, K, nv, po, pc, he, hd, ho, _⟩)⟩
    · exact absurd rfl hne
    · exact ⟨hb, P, K, nv, po, pc, he, hd, rd_own ho⟩)
  have HNN := hid hN
  have HUN := hid hn
  have HSL := hid (show ∀ i : Nat, (stc (i : Int) A).length ≤ 10000 from fun i => by have h5 := stc_len (i : Int) A; omega)
  clear hg1 hg2 hf1 hf2 hk1 hk2 hk3 r1 nd1 ln1 k1 k2 k3 k4 d1 o1 hA hn hU0 b1 HNE HGD HFO HBK hN hT HUB HST
  obtain rfl : er = 0 := he0
  have HX1 := hid (HTX.out w.heap.size P K nv po pc w1 (HDB.out w1 (Below.refl _ _)).1 (HDB.out w1 (Below.refl _ _)).2 HT1.out)
  go_wp2_with (first | (go_at_call 12; refine (HNU.out _ _).mono ?_; rintro e w2 ⟨rfl, hw⟩; obtain rfl := hw.symm) | fail)
  refine HX1.out.mono ?_
  rintro e w2 ⟨rfl, b2⟩
  have HB2 := hid (show Below N w1 w2 by rw [HNN.out]; exact b2)
  have HX2 := hid (HN2.out w2 HB2.out)
  have hNw2 : N ≤ w2.heap.size := by have h5 := b2.size; have h6 := HNN.out; omega
  clear b2 HX1
  go_wp2_with fail
  refine HX2.out.mono ?_
  rintro e w3 ⟨b3, P', K', nv', po', pc', rfl, d3, r3⟩
  have HB3 := hid (HB2.out.trans (b3.mono hNw2))
  obtain ⟨M, hM⟩ : ∃ M, M = w3.heap.size := ⟨_, rfl⟩
  obtain ⟨M2, hM2⟩ : ∃ M2, M2 = w2.heap.size := ⟨_, rfl⟩
  have hNM : N ≤ M := by have h5 := b3.size; omega
  have HMM := hid hM
  rw [← hM2] at d3
  have HD3 := hid (show ∀ W, Below M w3 W → DbAt M2 P' K' U nv' (.slice po' A.length pc') W ∧ RdK W po' (A.map rkT) from fun W hW => ⟨d3.below (by rw [← hM]; exact hW), r3.below (by rw [← hM]; exact hW)⟩)
  have HBM := hid (show ∀ W, Below M w3 W → Below N w1 W from fun W hW => HB3.out.trans (hW.mono hNM))
  have HX3 := hid (HNA.out M2 P' K' nv' (.slice po' A.length pc') w3 (HD3.out w3 (Below.refl _ _)).1)
  clear b3 d3 r3 hM hM2 HX2 HB2 hNw2 HN2
  go_wp2_with (first | (go_at_call 12; refine (HNU.out _ _).mono ?_; rintro e w4 ⟨rfl, hw⟩; obtain rfl := hw.symm) | fail)
  refine HX3.out.mono ?_
  rintro e w4 ⟨v4, rfl, o4, b4⟩
  have HB4 := hid (show Below M w3 w4 by rw [HMM.out]; exact b4)
  obtain ⟨ao, ac, rfl, rn4⟩ := rdn_own o4 HUN.out
  have HX4 := hid (HNA.out w.heap.size P K nv (.slice po A.length pc) w4 (HDB.out w4 (HBM.out w4 HB4.out)).1)
  have HR4 := hid rn4
  clear o4 b4 rn4 HX3
  go_wp2_with fail
  refine HX4.out.mono ?_
  rintro e w5 ⟨v5, rfl, o5, b5⟩
  have HB5 := hid (HB4.out.trans (b5.mono (by have h5 := HB4.out.size; have h6 := HMM.out; omega)))
  obtain ⟨bo, bc, rfl, rn5⟩ := rdn_own o5 HUN.out
  have HX5 := hid (texts_same ao bo ac bc n U w5 (HR4.out.below b5) rn5 HUN.out (by omega))
  clear o5 b5 rn5 HX4 HR4
  go_wp2_with fail
  refine HX5.out.mono ?_
  rintro e w6 ⟨rfl, b6⟩
  have HB6 := hid (HB5.out.trans (b6.mono (by have h5 := HB5.out.size; have h6 := HMM.out; omega)))
  have HX6 := hid (HTX.out M2 P' K' nv' po' pc' w6 (HD3.out w6 HB6.out).1 (HD3.out w6 HB6.out).2 (HTW.out w6 (HBM.out w6 HB6.out)))
  clear b6 HX5 HB4 HB5
  go_wp2_with fail
  refine HX6.out.mono ?_
  rintro e w7 ⟨rfl, b7⟩
  have HB7 := hid (HB6.out.trans (b7.mono (by have h5 := HB6.out.size; have h6 := HMM.out; omega)))
  have HX7 := hid (HTX.out w.heap.size P K nv po pc w7 (HDB.out w7 (HBM.out w7 HB7.out)).1 (HDB.out w7 (HBM.out w7 HB7.out)).2 (HTW.out w7 (HBM.out w7 HB7.out)))
  clear b7 HX6 HB6
  go_wp2_with fail
  refine HX7.out.mono ?_
  rintro e w8 ⟨rfl, b8⟩
  have HB8 := hid (HB7.out.trans (b8.mono (by have h5 := HB7.out.size; have h6 := HMM.out; omega)))
  clear b8 HX7 HB7
  go_wp2
  go_loopw [9] (fun x wr => ∃ i : Nat, x = .int .i64 (i : Int) ∧ i ≤ n ∧ Hid (Below M w3 wr)) (fun x _ => n - (intOf x).toNat)
  case atStart => exact ⟨0, rfl, by omega, HB8⟩
  case round =>
    obtain ⟨i, rfl, hi, HB⟩ := hrel
    have HX9 := hid (HNA.out w.heap.size P K nv (.slice po A.length pc) wr (HDB.out wr (HBM.out wr HB.out)).1)
    clear HB8
    go_wp2_with fail
    refine HX9.out.mono ?_
    rintro e w9 ⟨v9, rfl, o9, b9⟩
    obtain ⟨xo, xc, rfl⟩ := own_form o9
    have HB9 := hid (HB.out.trans (b9.mono (by have h5 := HB.out.size; have h6 := HMM.out; omega)))
    clear o9 b9 HX9 HB
    by_cases hlt : i < n
    · have i3 : (i : Int) < (n : Int) := by omega
      have HX10 := hid (HSET.out M2 P' K' nv' po' pc' i w9 (HD3.out w9 HB9.out).1 (HD3.out w9 HB9.out).2)
      have HSE := hid (fun B' P K nv po pc => HSET.out B' P K nv po pc i)
      have hGl := HSL.out i
      generalize stc (i : Int) A = G at HX10 HSE hGl
      go_wp2_with fail
      refine HX10.out.mono ?_
      rintro e w10 ⟨v10, rfl, o10, b10⟩
      obtain ⟨go', gc, rfl, rd10⟩ := rdr_row o10
      have HB10 := hid (HB9.out.trans (b10.mono (by have h5 := HB9.out.size; have h6 := HMM.out; omega)))
      have HX11 := hid (HSE.out w.heap.size P K nv po pc w10 (HDB.out w10 (HBM.out w10 HB10.out)).1 (HDB.out w10 (HBM.out w10 HB10.out)).2)
      have HR10 := hid rd10
      clear o10 b10 rd10 HX10 HSE
      go_wp2_with fail
      refine HX11.out.mono ?_
      rintro e w11 ⟨v11, rfl, o11, b11⟩
      obtain ⟨fo, fc, rfl, rd11⟩ := rdr_row o11
      have HB11 := hid (HB10.out.trans (b11.mono (by have h5 := HB10.out.size; have h6 := HMM.out; omega)))
      have HX12 := hid (same2_any go' fo gc fc G G w11 (HR10.out.below b11) rd11 (by omega))
      rw [decide_eq_true (rfl : G = G)] at HX12
      clear o11 b11 rd11 HX11 HR10
      go_wp2_with fail
      refine HX12.out.mono ?_
      rintro e w12 ⟨rfl, b12⟩
      have HB12 := hid (HB11.out.trans (b12.mono (by have h5 := HB11.out.size; have h6 := HMM.out; omega)))
      clear b12 HX12
      go_wp2
      go_roundw
      case rel => exact ⟨i + 1, by go_num, by omega, HB12⟩
      case measure => simp [intOf]; omega
    · have i3 : ¬ (i : Int) < (n : Int) := by omega
      have HL := hid (HLV.out w9 (HTW.out w9 (HBM.out w9 HB9.out)))
      go_wp2_with fail
      refine HL.out.mono ?_
      rintro e w10 ⟨rfl, b10⟩
      have HB10 := hid (HBM.out w10 (HB9.out.trans (b10.mono (by have h5 := HB9.out.size; have h6 := HMM.out; omega))))
      clear b10 HL
      go_wp2
      go_ret
      exact ⟨rfl, HB1.out.trans (HB10.out.mono (by have h5 := HB1.out.size; have h6 := HNN.out; omega))⟩
end Go.Proofs.YtohhokjlgihbgaaGreatDoor
