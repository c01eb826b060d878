/- The contract of wide (the laws'). -/
import Derived.Test.YteacehfihogmpaaDoorCheck
import Derived.Test.YteacehfihogmpaaDoorWideMath
namespace Go.Proofs.YteacehfihogmpaaDoor
open Go.RowKit

theorem rdS_few {w : World} {so : Option Addr} {L : List St} (h : RdS w so L) : ∀ s ∈ L, s.1.length ≤ 17592186044416 ∧ s.2.length ≤ 17592186044416 ∧ ∀ e ∈ s.1, e.1.length ≤ 17592186044416 := fun s hs => by
  obtain ⟨k, hk⟩ := List.mem_iff_getElem?.1 hs
  obtain ⟨a, _, _, eo, ec, fo, fc, _, _, hE, _, h1, h2⟩ := h k s hk
  refine ⟨h1, h2, fun e he => ?_⟩
  obtain ⟨j, hj⟩ := List.mem_iff_getElem?.1 he
  obtain ⟨_, _, _, _, _, _, _, _, h3⟩ := hE j e hj
  exact h3
set_option maxHeartbeats 2000000 in
theorem wide_any (so : Option Addr) (sc n : Nat) (L : List St) (s f : Int) (w : World) (hn : n = L.length) (hs : RdS w so L) (hl : n ≤ most) :
    Calls Tryd.prog 18 #[.agg #[.slice so n sc, .int .i64 s, .int .i64 f]] w fun e w' => e = .returned (.bool (wdb L)) ∧ Below w.heap.size w w' := by
  unfold most at hl
  have HN := hid hn
  have HS := hid hs
  clear hn hs
  by_cases hm : 120 < n
  · have hm' : (120 : Int) < (n : Int) := by omega
    have HW := hid (show wdb L = true by have := HN.out; simp [wdb]; omega)
    go_enter Tryd.func18, Tryd.ntmps18
    go_wp2
    go_ret
    exact ⟨by rw [HW.out]; rfl, below_box⟩
  · have hm' : ¬ (120 : Int) < (n : Int) := by omega
    have HT := hid (wid_few L (rdS_few HS.out) (by have := HN.out; omega))
    have HW := hid (show wdb L = decide (2500 < wid L) by have := HN.out; have h : ¬ 120 < L.length := by omega
                                                          simp [wdb, h])
    go_enter Tryd.func18, Tryd.ntmps18
    go_wp2
    go_loopw [3, 4] (fun x y wr => ∃ (z k : Nat), x = .int .i64 z ∧ y = .int .i64 k ∧ k ≤ n ∧ Hid (z = wid (L.take k)) ∧ Hid (Below (w.heap.size + 1) (w.alloc (.cells #[.slice so n sc, .int .i64 s, .int .i64 f] 28)) wr)) (fun _ y _ => n - (intOf y).toNat)
    case atStart => exact ⟨0, 0, rfl, rfl, Nat.zero_le _, rfl, box_self⟩
    case round =>
      obtain ⟨z, k, rfl, rfl, hk, HZ, HB⟩ := hrel
      obtain ⟨c0, _, _⟩ := box3 HB.out
      by_cases hlt : k < n
      · have hkl : k < L.length := by have := HN.out; omega
        obtain ⟨a, rfl, ha, eo, ec, fo, fc, a0, a1, hE, hF, hel, hfl⟩ := HS.out.boxed HB.out k L[k] (List.getElem?_eq_getElem hkl)
        have HZ1 := hid (wid_take L k hkl)
        rw [← HZ.out] at HZ1
        have HLE := hid (wid_le L (k + 1))
        rw [HZ1.out] at HLE
        obtain ⟨g, hg⟩ : ∃ g, g = L[k] := ⟨_, rfl⟩
        rw [← hg] at a0 a1 hE hF hel hfl HZ1 HLE
        clear hg hkl
        obtain ⟨E, F⟩ := g
        dsimp only at a0 a1 hE hF hel hfl
        obtain ⟨en, hen⟩ : ∃ n1, n1 = E.length := ⟨_, rfl⟩
        obtain ⟨fn, hfn⟩ : ∃ n1, n1 = F.length := ⟨_, rfl⟩
        have HWS := hid (show wS (E, F) = fn + en + wE (E.take 2501) by unfold wS; rw [hen, hfn])
        rw [HWS.out] at HZ1 HLE
        rw [← hen] at a0 hel
        rw [← hfn] at a1 hfl
        unfold most at hel hfl
        have HEN := hid hen
        have HE := hid hE
        clear hen hfn hE hF
        have hsum : z + (fn + en) ≤ 8000000000000000000 := by have h1 := HLE.out; have h2 := HT.out; omega
        have i0 : (0 : Int) ≤ (k : Int) := by omega
        have i3 : (k : Int) < (n : Int) := by omega
        have e1 : IntKind.i64.wrap ((z : Int) + (fn : Int)) = (z : Int) + (fn : Int) := by rw [IntKind.wrap_i64]; omega
        have e2 : IntKind.i64.wrap ((z : Int) + (fn : Int) + (en : Int)) = (z : Int) + (fn : Int) + (en : Int) := by rw [IntKind.wrap_i64]; omega
        go_wp2_with fail
        go_quiet (fail)
        have HB1 := hid (below_drN HB.out nq)
        have HE1 := hid (HE.out.below (below_drN (Below.refl _ _) nq))
        clear HE e1 e2
        go_wp2
        go_loop [3, 5] (fun x y => ∃ (z' j : Nat), x = .int .i64 z' ∧ y = .int .i64 j ∧ j ≤ en ∧ j ≤ 2501 ∧ Hid (z' = z + (fn + en) + wE (E.take j))) (fun _ y => en - (intOf y).toNat)
        case atStart => exact ⟨z + (fn + en), 0, by go_num, rfl, Nat.zero_le _, by omega, by simp [wE, Hid]⟩
        case round =>
          obtain ⟨z', j, rfl, rfl, hj, hj2, HZJ⟩ := hrel
          by_cases hjl : j < en
          · have hkl : j < E.length := by have := HEN.out; omega
            obtain ⟨b, rfl, hb, co, cc, b0, b1, hI, hcl⟩ := HE1.out j E[j] (List.getElem?_eq_getElem hkl)
            have HZ2 := hid (wE_take E j hkl)
            have HCE := hid (show j ≤ 2500 → wE (E.take (j + 1)) ≤ wE (E.take 2501) from fun h => wE_le E (j + 1) (by omega))
            rw [HZ2.out] at HCE
            obtain ⟨g, hg⟩ : ∃ g, g = E[j] := ⟨_, rfl⟩
            rw [← hg] at b0 b1 hcl HZ2 HCE
            clear hg hkl hI
            obtain ⟨C, t⟩ := g
            dsimp only at b0 b1 hcl HZ2 HCE
            obtain ⟨n1, hn1⟩ : ∃ n1, n1 = C.length := ⟨_, rfl⟩
            rw [← hn1] at b0 hcl HZ2 HCE
            unfold most at hcl
            clear hn1
            have j0 : (0 : Int) ≤ (j : Int) := by omega
            have j3 : (j : Int) < (en : Int) := by omega
            by_cases hj25 : j ≤ 2500
            · have j4 : (j : Int) ≤ 2500 := by omega
              have hs2 : z' + n1 ≤ 8000000000000000000 := by have h1 := HLE.out; have h2 := HT.out; have h3 := HZJ.out; have h4 := HCE.out hj25; omega
              go_wp2
              go_round
              case rel => exact ⟨z' + n1, j + 1, by go_num, by go_num, by omega, by omega, by have h3 := HZJ.out; have h4 := HZ2.out; unfold Hid; omega⟩
              case measure => simp [intOf]; omega
            · have j4 : ¬ (j : Int) ≤ 2500 := by omega
              have HZF := hid (show z' = wid (L.take (k + 1)) by have h3 := HZJ.out; have h4 := HZ1.out; rw [show j = 2501 by omega] at h3; omega)
              go_wp2
              go_roundw
              case rel => exact ⟨z', k + 1, rfl, by go_num, by omega, HZF, HB1⟩
              case measure => simp [intOf]; omega
          · have j3 : ¬ (j : Int) < (en : Int) := by omega
            have HZF := hid (show z' = wid (L.take (k + 1)) by
              have h3 := HZJ.out; have h4 := HZ1.out; have h5 := HEN.out
              rw [List.take_of_length_le (by omega : E.length ≤ j)] at h3
              rw [List.take_of_length_le (by omega : E.length ≤ 2501)] at h4; omega)
            go_wp2
            go_roundw
            case rel => exact ⟨z', k + 1, rfl, by go_num, by omega, HZF, HB1⟩
            case measure => simp [intOf]; omega
      · have i3 : ¬ (k : Int) < (n : Int) := by omega
        have HZF := hid (show z = wid L by have h3 := HZ.out; have h5 := HN.out; rw [List.take_of_length_le (by omega)] at h3; exact h3)
        rw [← HZF.out] at HW
        by_cases hz : 2500 < z
        · have hz' : (2500 : Int) < (z : Int) := by omega
          go_wp2
          go_ret
          exact ⟨by rw [HW.out]; simp [hz], box_trans HB.out⟩
        · have hz' : ¬ (2500 : Int) < (z : Int) := by omega
          go_wp2
          go_ret
          exact ⟨by rw [HW.out]; simp [hz], box_trans HB.out⟩
end Go.Proofs.YteacehfihogmpaaDoor
