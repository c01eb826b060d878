/- The contracts of without, base and withoutOne (package line). -/
import Derived.Test.YtkophiklkgefnaaDoorLnFun1
namespace Go.Proofs.YtkophiklkgefnaaDoor.Ln
open Go.RowKit

theorem ext_take (l : List UInt8) (t : Nat) : (⟨l.toArray⟩ : ByteArray).extract 0 t = ⟨(l.take t).toArray⟩ := by
  apply ByteArray.ext
  simp [ByteArray.data_extract]
def strLen : Value → Nat
  | .string s => s.size
  | _ => 0
set_option maxHeartbeats 2000000 in
theorem without_any (l : List UInt8) (ao : Option Addr) (n cap : Nat) (K : List Int) (w : World) (ht : Tb w) (hl : l.length ≤ 1000000000) (h : RdI w ao K) (hn : n = K.length) (hnl : n ≤ 1000) (hK : amg K (-1) = false) :
    Calls Tryd.prog 49 #[.string ⟨l.toArray⟩, .slice ao n cap] w fun e w' => e = .returned (.string ⟨(wthL K l).toArray⟩) ∧ Below w.heap.size w w' := by
  have HT := hid ht
  have HR := hid h
  have HN := hid hn
  have HK := hid hK
  clear ht h hn hK
  go_enter Tryd.func49, Tryd.ntmps49
  go_wp2
  go_step3
  go_wp2
  go_step3
  go_wp2
  go_loopw [0] (fun fr wr => ∃ l' : List UInt8, fr = .string ⟨l'.toArray⟩ ∧ l'.length ≤ 1000000000 ∧ Hid (wthL K l = wthL K l') ∧ Below w.heap.size w wr) (fun fr _ => strLen fr)
  case atStart => exact ⟨l, rfl, hl, rfl, Below.refl _ _⟩
  case round =>
    obtain ⟨l', rfl, hl', HW, hB⟩ := hrel
    have HB := hid hB
    clear hB
    by_cases he : l' = []
    · subst he
      have HE := hid (show wthL K l = [] by rw [HW.out]; rfl)
      go_wp2
      rw [Exit.noGoto_ret]
      go_ret
      exact ⟨by rw [HE.out]; rfl, HB.out⟩
    · have he' : l'.isEmpty = false := by simpa using he
      obtain ⟨hb1, hb2⟩ := last_bd l' he
      have HNE := hid he
      clear he
      go_wp2_with fail
      refine (last_any' l' wr (HT.out.below HB.out) hl').mono ?_
      rintro e w1 ⟨rfl, be1⟩
      have HB1 := hid (HB.out.trans (be1.mono HB.out.size))
      obtain ⟨c, hc⟩ : ∃ c : Int, c = lnlast l' := ⟨_, rfl⟩
      obtain ⟨m, hm⟩ : ∃ m : Nat, m = (decLast l').2 := ⟨_, rfl⟩
      have HC := hid hc
      have HM := hid hm
      rw [← hm] at hb1 hb2
      rw [← hc, ← hm]
      clear hc hm be1 HB
      go_wp2_with fail
      refine (isAny_any c ao n cap K w1 (HR.out.below HB1.out) HN.out hnl).mono ?_
      rintro e w2 ⟨rfl, hw2⟩
      obtain rfl := hw2.symm
      clear hw2
      obtain ⟨b, hb⟩ : ∃ b, b = amg K c := ⟨_, rfl⟩
      have HBB := hid hb
      rw [← hb]
      clear hb
      cases b with
      | true =>
        have HY := hid (show wthL K l = wthL K (ltl l') from HW.out.trans (wthL_yes K l' HNE.out (by rw [← HC.out, ← HBB.out])))
        have HLT := hid (ltl_lt l' HNE.out)
        have HLE := hid (show ltl l' = l'.take (l'.length - m) by unfold ltl; rw [HM.out])
        go_wp2
        rw [ext_take, ← HLE.out]
        exact ⟨⟨ltl l', rfl, by have := HLT.out; omega, HY.out, HB1.out⟩, by have := HLT.out; show (ltl l').toArray.size < l'.toArray.size; simpa using this⟩
      | false =>
        have HY := hid (show wthL K l = l' from HW.out.trans (wthL_no K l' (by rw [← HC.out, ← HBB.out])))
        go_wp2
        rw [Exit.noGoto_ret]
        go_ret
        exact ⟨by rw [HY.out]; rfl, HB1.out⟩
theorem without_lit (l : List UInt8) (K : List Int) (w : World) (ht : Tb w) (hl : l.length ≤ 1000000000) (hK : K.length ≤ 1000) (hn : amg K (-1) = false) :
    Calls Tryd.prog 49 #[.string ⟨l.toArray⟩, .slice (some ⟨w.heap.size, 0, none⟩) K.length K.length] (w.alloc (.cells (K.map fun z => Value.int .i64 z).toArray 3)) fun e w' => e = .returned (.string ⟨(wthL K l).toArray⟩) ∧ Below w.heap.size w w' :=
  (without_any l _ _ _ K _ (ht.below below_box) hl (rdi_lit w K 3) rfl hK hn).mono fun _ _ ⟨h1, h2⟩ => ⟨h1, below_box.trans (h2.mono below_box.size)⟩
theorem base_any (l : List UInt8) (w : World) (ht : Tb w) (hl : l.length ≤ 1000000000) :
    Calls Tryd.prog 81 #[.string ⟨l.toArray⟩] w fun e w' => e = .returned (.int .i64 (lnbase l)) ∧ Below w.heap.size w w' := by
  have HT := hid ht
  clear ht
  go_enter Tryd.func81, Tryd.ntmps81
  go_wp2_with fail
  refine (without_lit l [8] w HT.out hl (by decide) (by decide)).mono ?_
  rintro e w1 ⟨rfl, be⟩
  have HB := hid be
  have hle := wthL_le [8] _ l (Nat.le_refl _)
  obtain ⟨b, hb⟩ : ∃ b, b = wthL [8] l := ⟨_, rfl⟩
  have HV := hid (show lnbase l = lnlast b by rw [hb]; rfl)
  rw [← hb] at hle
  rw [← hb]
  clear hb be
  go_wp2_with fail
  refine (last_any' b w1 (HT.out.below HB.out) (by omega)).mono ?_
  rintro e w2 ⟨rfl, be⟩
  have HB2 := hid (HB.out.trans (be.mono HB.out.size))
  obtain ⟨c, hc⟩ : ∃ c : Int, c = lnlast b := ⟨_, rfl⟩
  have HC := hid hc
  obtain ⟨m, hm⟩ : ∃ m : Nat, m = (decLast b).2 := ⟨_, rfl⟩
  rw [← hc, ← hm]
  clear hc be hm
  go_wp2
  go_ret
  exact ⟨by rw [HV.out, ← HC.out]; rfl, HB2.out⟩
theorem withoutOne_any (l : List UInt8) (K : List Int) (w : World) (ht : Tb w) (hl : l.length ≤ 1000000000) (hK : K.length ≤ 1000) (hn : amg K (-1) = false) :
    Calls Tryd.prog 120 #[.string ⟨l.toArray⟩, .slice (some ⟨w.heap.size, 0, none⟩) K.length K.length] (w.alloc (.cells (K.map fun z => Value.int .i64 z).toArray 3)) fun e w' => e = .returned (.string ⟨(lnone K l).toArray⟩) ∧ Below w.heap.size w w' := by
  obtain ⟨W, hW⟩ : ∃ W, W = w.alloc (.cells (K.map fun z => Value.int .i64 z).toArray 3) := ⟨_, rfl⟩
  have hR := rdi_lit w K 3
  have hB0 := below_box (w := w) (o := .cells (K.map fun z => Value.int .i64 z).toArray 3)
  rw [← hW] at hR hB0
  rw [← hW]
  have HT := hid (ht.below hB0)
  have HR := hid hR
  have HB0 := hid hB0
  have HN := hid hn
  obtain ⟨ao, hao⟩ : ∃ ao : Option Addr, ao = some ⟨w.heap.size, 0, none⟩ := ⟨_, rfl⟩
  obtain ⟨n, hnn⟩ : ∃ n, n = K.length := ⟨_, rfl⟩
  have HNN := hid hnn
  rw [← hao] at HR
  rw [← hao, ← hnn]
  rw [← hnn] at hK
  clear hW hR hB0 hao hnn ht hn
  go_enter Tryd.func120, Tryd.ntmps120
  go_wp2_with fail
  refine (without_lit l [8] W HT.out hl (by decide) (by decide)).mono ?_
  rintro e w1 ⟨rfl, be⟩
  have HB := hid be
  have hle := wthL_le [8] _ l (Nat.le_refl _)
  obtain ⟨b, hb⟩ : ∃ b, b = wthL [8] l := ⟨_, rfl⟩
  have HV := hid (show lnone K l = if amg K (lnlast b) then ltl b else l by rw [hb]; rfl)
  rw [← hb] at hle
  rw [← hb]
  clear hb be
  go_wp2_with fail
  refine (last_any' b w1 (HT.out.below HB.out) (by omega)).mono ?_
  rintro e w2 ⟨rfl, be⟩
  have HB2 := hid (HB.out.trans (be.mono HB.out.size))
  obtain ⟨c, hc⟩ : ∃ c : Int, c = lnlast b := ⟨_, rfl⟩
  obtain ⟨m, hm⟩ : ∃ m : Nat, m = (decLast b).2 := ⟨_, rfl⟩
  have HC := hid hc
  have HM := hid hm
  rw [← hc, ← hm]
  clear hc hm be
  go_wp2_with fail
  refine (isAny_any c ao n n K w2 (HR.out.below HB2.out) HNN.out hK).mono ?_
  rintro e w3 ⟨rfl, hw3⟩
  obtain rfl := hw3.symm
  clear hw3
  obtain ⟨q, hq⟩ : ∃ q, q = amg K c := ⟨_, rfl⟩
  have HQ := hid hq
  have HBW := hid (HB0.out.trans (HB2.out.mono HB0.out.size))
  rw [← hq]
  clear hq
  cases q with
  | true =>
    have hne : b ≠ [] := lnlast_ne HN.out (by rw [← HC.out, ← HQ.out])
    have HLE := hid (show lnone K l = b.take (b.length - m) by rw [HV.out, ← HC.out, ← HQ.out, if_pos rfl]; unfold ltl; rw [HM.out])
    obtain ⟨hb1, hb2⟩ := last_bd b hne
    rw [← HM.out] at hb1 hb2
    clear hne
    go_wp2
    go_ret
    exact ⟨by rw [HLE.out, ← ext_take]; rfl, HBW.out⟩
  | false =>
    have HLE := hid (show lnone K l = l by rw [HV.out, ← HC.out, ← HQ.out]; rfl)
    go_wp2
    go_ret
    exact ⟨by rw [HLE.out]; rfl, HBW.out⟩
end Go.Proofs.YtkophiklkgefnaaDoor.Ln
