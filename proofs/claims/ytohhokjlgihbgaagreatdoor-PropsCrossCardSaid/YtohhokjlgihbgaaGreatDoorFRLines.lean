/- The contract of the document's Lines. -/
import Derived.Test.YtohhokjlgihbgaaGreatDoorFStrs
import Derived.Test.YtohhokjlgihbgaaGreatDoorFBare
import Derived.Test.YtohhokjlgihbgaaGreatDoorFRead
namespace Go.Proofs.YtohhokjlgihbgaaGreatDoor
open Go.RowKit

/-- What Lines has when it has come to a place: the lines ahead, and where the next begins. -/
structure LnI (t : List UInt8) (i f : Nat) (D : List (List UInt8)) : Prop where
  eq : lns t = D ++ lns (t.drop f)
  le : f ≤ i
  no : (10 : UInt8) ∉ (t.drop f).take (i - f)
theorem LnI.skip {t : List UInt8} {i f : Nat} {D : List (List UInt8)} (h : LnI t i f D) (hi : i < t.length) (hb : t[i] ≠ 10) : LnI t (i + 1) f D := by
  refine ⟨h.eq, by have := h.le; omega, ?_⟩
  have hle := h.le
  have e : i + 1 - f = (i - f) + 1 := by omega
  have hlt : i - f < (t.drop f).length := by rw [List.length_drop]; omega
  rw [e, List.take_succ_eq_append_getElem hlt]
  intro hm
  rcases List.mem_append.1 hm with h5 | h5
  · exact h.no h5
  · have h6 := List.mem_singleton.1 h5
    rw [List.getElem_drop] at h6
    have e2 : f + (i - f) = i := by omega
    simp only [e2] at h6
    exact hb h6.symm
theorem LnI.cut {t : List UInt8} {i f : Nat} {D : List (List UInt8)} (h : LnI t i f D) (hi : i < t.length) (hb : t[i] = 10) : LnI t (i + 1) (i + 1) (D ++ [(t.drop f).take (i - f)]) := by
  have hle := h.le
  have hsp : t.drop f = (t.drop f).take (i - f) ++ 10 :: t.drop (i + 1) := by
    conv => lhs; rw [← List.take_append_drop (i - f) (t.drop f)]
    rw [List.drop_drop, show f + (i - f) = i by omega, List.drop_eq_getElem_cons hi, hb]
  refine ⟨?_, Nat.le_refl _, by simp⟩
  rw [h.eq, List.append_assoc]
  conv => lhs; rw [hsp]
  rw [lns_at _ _ h.no]
  rfl
theorem LnI.done {t : List UInt8} {f : Nat} {D : List (List UInt8)} (h : LnI t t.length f D) : lns t = D ++ [t.drop f] := by
  have h5 := h.no
  rw [List.take_of_length_le (by rw [List.length_drop]; exact Nat.le_refl _)] at h5
  rw [h.eq, lns_no _ h5]
theorem LnI.len {t : List UInt8} {i f : Nat} {D : List (List UInt8)} (h : LnI t i f D) : D.length ≤ t.length + 1 := by
  have h5 := lns_len t
  rw [h.eq, List.length_append] at h5
  omega

set_option maxHeartbeats 2000000 in
set_option maxRecDepth 100000 in
theorem rlines_any (t : List UInt8) (w : World) (hl : t.length ≤ 1000000) :
    Calls Tryz.prog 38 #[.string ⟨t.toArray⟩] w fun e w' => ∃ v', e = .returned v' ∧ w'.ownsRow w.heap.size 9 1 v' (lns t).length (nms (lns t)) ∧ Below w.heap.size w w' := by
  obtain ⟨i0, hi9, hz0, hz1, hz2⟩ := info_parts Tryz.info9
  have HSZ := hid (show (⟨t.toArray⟩ : ByteArray).size = t.length by show t.toArray.size = _; simp)
  obtain ⟨N, hNE⟩ : ∃ N, N = w.heap.size := ⟨_, rfl⟩
  have HNE := hid hNE
  have HB0 := hid (show Below N w w by rw [hNE]; exact Below.refl _ _)
  rw [← hNE]
  clear hNE
  go_enter Tryz.func38, Tryz.ntmps38
  go_wp2
  go_loopw [3, 4, 5] (fun x y z wr => ∃ (i f m : Nat) (vo : Option Addr) (vc : Nat) (D : List (List UInt8)), x = .slice vo m vc ∧ y = .int .i64 (f : Int) ∧ z = .int .i64 (i : Int) ∧ i ≤ t.length ∧ f ≤ i ∧ Hid (LnI t i f D) ∧ Hid (m = D.length) ∧ Hid (wr.ownsRow N 9 1 (.slice vo m vc) m (nms D)) ∧ Hid (Below N w wr)) (fun _ _ z _ => t.length - (intOf z).toNat)
  case atStart => exact ⟨0, 0, 0, none, 0, [], rfl, rfl, rfl, by omega, by omega, ⟨rfl, by omega, by simp⟩, rfl, World.ownsRow_nil w N 9 1, HB0⟩
  case round =>
    obtain ⟨i, f, m, vo, vc, D, rfl, rfl, rfl, hi, hf, HL, HM, HO, HB⟩ := hrel
    have hwN : N ≤ wr.heap.size := by have h5 := HNE.out; have h6 := HB.out.size; omega
    have hm1 : m ≤ 1000001 := by have h5 := HL.out.len; have h6 := HM.out; omega
    by_cases hlt : i < t.length
    · have hszk : i < (⟨t.toArray⟩ : ByteArray).size := by rw [HSZ.out]; exact hlt
      have i3 : (i : Int) < (t.length : Int) := by omega
      have i4 : (i : Int) ≤ (t.length : Int) := by omega
      have i0' : (0 : Int) ≤ (i : Int) := by omega
      have f0 : (0 : Int) ≤ (f : Int) := by omega
      have f1 : (f : Int) ≤ (i : Int) := by omega
      have hq : (⟨t.toArray⟩ : ByteArray)[i]'hszk = t[i] := rfl
      by_cases hb : t[i] = 10
      · have HLC := hid (HL.out.cut hlt hb)
        have hb' : ((t[i].toNat : Int) == 10) = true := by rw [hb]; rfl
        have HX := hid (show (⟨t.toArray⟩ : ByteArray).extract f i = ⟨((t.drop f).take (i - f)).toArray⟩ by
          have h5 := ext_mid t f (i - f)
          rw [show f + (i - f) = i by omega] at h5
          exact h5)
        generalize t[i] = b at *
        clear hb
        go_wp2_with (at_builtin; refine wpList_append_lies _ rfl _ _ 45 rfl N 9 i0 (.string ⟨#[]⟩) 1 16 Tryz.underlying45 hi9 hz0 hz1 hz2 rfl (by decide) _ m (nms D) rfl (HO.out.alloc _) ⟨wr.heap.size, 0, none⟩ 1 1 [.string ((⟨t.toArray⟩ : ByteArray).extract f i)] rfl rfl (news_s wr ((⟨t.toArray⟩ : ByteArray).extract f i) 9) (str_one _) (by decide) (by unfold maxLen; omega) (by omega) (by simp; omega) (wr.heap.size + 1) (by simp) ?_; intro q2 c2 w2 o2 gr2 hl2 hlt2)
        have HB2 := hid ((HB.out.alloc hwN (.cells #[.string ((⟨t.toArray⟩ : ByteArray).extract f i)] 9)).grown gr2 (by simp; omega) (fun k hk => (HO.out.lt k hk).1))
        have HO2 := hid (show w2.ownsRow N 9 1 (.slice (some ⟨q2, 0, none⟩) (m + 1) c2) (m + 1) (nms (D ++ [(t.drop f).take (i - f)])) by rw [nms_snoc, ← HX.out]; exact o2)
        clear o2 gr2 hl2 hlt2
        go_roundw
        case rel => exact ⟨i + 1, i + 1, m + 1, some ⟨q2, 0, none⟩, c2, _, rfl, by go_num, by go_num, by omega, by omega, HLC, by show m + 1 = _; rw [List.length_append, ← HM.out]; rfl, HO2, HB2⟩
        case measure => simp [intOf]; omega
      · have HLC := hid (HL.out.skip hlt hb)
        have hb' : ((t[i].toNat : Int) == 10) = false := beq_eq_false_iff_ne.2 (fun e => hb (UInt8.toNat_inj.1 (show t[i].toNat = 10 by omega)))
        generalize t[i] = b at *
        clear hb
        go_wp2
        go_roundw
        case rel => exact ⟨i + 1, f, m, vo, vc, D, rfl, rfl, by go_num, by omega, by omega, HLC, HM, HO, HB⟩
        case measure => simp [intOf]; omega
    · have hit : i = t.length := by omega
      subst hit
      have i3 : ¬ (t.length : Int) < (t.length : Int) := by omega
      have f0 : (0 : Int) ≤ (f : Int) := by omega
      have f1 : (f : Int) ≤ (t.length : Int) := by omega
      have HLD := hid HL.out.done
      have HX := hid (show (⟨t.toArray⟩ : ByteArray).extract f t.length = ⟨(t.drop f).toArray⟩ from ext_drop t f)
      go_wp2_with (at_builtin; refine wpList_append_lies _ rfl _ _ 45 rfl N 9 i0 (.string ⟨#[]⟩) 1 16 Tryz.underlying45 hi9 hz0 hz1 hz2 rfl (by decide) _ m (nms D) rfl (HO.out.alloc _) ⟨wr.heap.size, 0, none⟩ 1 1 [.string ((⟨t.toArray⟩ : ByteArray).extract f t.length)] rfl rfl (news_s wr ((⟨t.toArray⟩ : ByteArray).extract f t.length) 9) (str_one _) (by decide) (by unfold maxLen; omega) (by omega) (by simp; omega) (wr.heap.size + 1) (by simp) ?_; intro q2 c2 w2 o2 gr2 hl2 hlt2)
      have HB2 := hid ((HB.out.alloc hwN (.cells #[.string ((⟨t.toArray⟩ : ByteArray).extract f t.length)] 9)).grown gr2 (by simp; omega) (fun k hk => (HO.out.lt k hk).1))
      have HO2 := hid (show w2.ownsRow N 9 1 (.slice (some ⟨q2, 0, none⟩) (m + 1) c2) (m + 1) (nms (D ++ [t.drop f])) by rw [nms_snoc, ← HX.out]; exact o2)
      clear o2 gr2 hl2 hlt2
      go_ret
      refine ⟨_, rfl, ?_, HB2.out⟩
      rw [HLD.out, List.length_append, ← HM.out]
      exact HO2.out
end Go.Proofs.YtohhokjlgihbgaaGreatDoor
