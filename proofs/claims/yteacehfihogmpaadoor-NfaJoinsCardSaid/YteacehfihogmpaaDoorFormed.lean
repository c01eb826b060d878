/- The contract of formed (package nfa). -/
import Derived.Test.YteacehfihogmpaaDoorSmall
namespace Go.Proofs.YteacehfihogmpaaDoor
open Go.RowKit

theorem bool_cases (b : Bool) : b = true ∨ b = false := by cases b <;> simp
theorem fmd_no1 {n : Int} {E : List Ed} {F : List Int} (h : edg n E = false) : fmd n (E, F) = false := by simp [fmd, h]
theorem fmd_go {n : Int} {E : List Ed} {F : List Int} (h : edg n E = true) : fmd n (E, F) = fre n F := by simp [fmd, h]
/-- The cells of a struct of two that was boxed stay. -/
theorem box2 {w W : World} {v0 v1 : Value} {T : TypeId} (h : Below (w.heap.size + 1) (w.alloc (.cells #[v0, v1] T)) W) : W.cell? ⟨w.heap.size, 0, none⟩ = some v0 ∧ W.cell? ⟨w.heap.size, 1, none⟩ = some v1 := by
  constructor
  · rw [h.cell (p := ⟨w.heap.size, 0, none⟩) (by simp)]; simp [go_sem]
  · rw [h.cell (p := ⟨w.heap.size, 1, none⟩) (by simp)]; simp [go_sem]
theorem below_box {w : World} {o : Obj} : Below w.heap.size w (w.alloc o) := (Below.refl _ _).alloc (Nat.le_refl _) _
theorem box_trans {w W : World} {o : Obj} (h : Below (w.heap.size + 1) (w.alloc o) W) : Below w.heap.size w W := below_box.trans (h.mono (by omega))
theorem box_self {w : World} {o : Obj} : Below (w.heap.size + 1) (w.alloc o) (w.alloc o) := Below.refl _ _
theorem RdI.boxed {w W : World} {o : Obj} {ao : Option Addr} {l : List Int} (h : RdI w ao l) (hb : Below (w.heap.size + 1) (w.alloc o) W) : RdI W ao l := h.below (box_trans hb)
theorem RdE.boxed {w W : World} {o : Obj} {ao : Option Addr} {l : List Ed} (h : RdE w ao l) (hb : Below (w.heap.size + 1) (w.alloc o) W) : RdE W ao l := h.below (box_trans hb)
theorem RdS.boxed {w W : World} {o : Obj} {ao : Option Addr} {l : List St} (h : RdS w ao l) (hb : Below (w.heap.size + 1) (w.alloc o) W) : RdS W ao l := h.below (box_trans hb)
set_option maxHeartbeats 1000000 in
theorem formed_any (eo fo : Option Addr) (ec fc en fn : Nat) (E : List Ed) (F : List Int) (c : Int) (w : World) (hen : en = E.length) (hfn : fn = F.length) (he : RdE w eo E) (hf : RdI w fo F) (hel : en ≤ most) (hfl : fn ≤ most) :
    Calls Tryd.prog 74 #[.agg #[.slice eo en ec, .slice fo fn fc], .int .i64 c] w fun e w' => e = .returned (.bool (fmd c (E, F))) ∧ Below w.heap.size w w' := by
  unfold most at hel hfl
  have HE := hid he
  have HF := hid hf
  have HEN := hid hen
  have HFN := hid hfn
  clear he hf hen hfn
  go_enter Tryd.func74, Tryd.ntmps74
  go_wp2
  go_loopw [12] (fun x wr => ∃ k : Nat, x = .int .i64 k ∧ k ≤ en ∧ Hid (edg c E = edg c (E.drop k)) ∧ Hid (Below (w.heap.size + 1) (w.alloc (.cells #[.slice eo en ec, .slice fo fn fc] 86)) wr)) (fun x _ => en - (intOf x).toNat)
  case atStart => exact ⟨0, rfl, Nat.zero_le _, rfl, box_self⟩
  case round =>
    obtain ⟨k, rfl, hk, HEK, HB⟩ := hrel
    by_cases hlt : k < en
    · have hkl : k < E.length := by have := HEN.out; omega
      obtain ⟨a, rfl, ha, co, cc, a0, a1, hI, hcl⟩ := HE.out.boxed HB.out k E[k] (List.getElem?_eq_getElem hkl)
      have HD := hid (drop_at hkl)
      rw [HD.out] at HEK
      obtain ⟨g, hg⟩ : ∃ g, g = E[k] := ⟨_, rfl⟩
      rw [← hg] at a0 a1 HEK hI hcl
      clear hg HD hkl
      obtain ⟨C, t⟩ := g
      dsimp only at a0 a1 hI hcl
      obtain ⟨n1, hn1⟩ : ∃ n1, n1 = C.length := ⟨_, rfl⟩
      rw [← hn1] at a0 hcl
      have HN1 := hid hn1
      have HCL := hid hcl
      clear hn1 hcl
      have i3 : (k : Int) < (en : Int) := by omega
      have HBA := hid (HB.out.alloc (by have := HB.out.size; simp at this; omega) (.cells #[.slice co n1 cc, .int .i64 t] 88))
      have HI := hid (hI.below (below_box (o := .cells #[.slice co n1 cc, .int .i64 t] 88)))
      clear hI
      rcases bool_cases (wn t c) with hW | hW
      · rcases bool_cases (rs (-1) C) with hR | hR
        · have HF1 := hid (HEK.out.trans (edg_ok hW hR))
          go_wp2_with (first | (go_at_call 73; refine (within_any _ _ _).mono ?_; rintro e w' ⟨rfl, rfl⟩) | (go_at_call 112; refine (rising_any _ _ _ C _ HN1.out HI.out HCL.out).mono ?_; rintro e w' ⟨rfl, rfl⟩))
          go_roundw
          case rel => exact ⟨k + 1, by go_num, by omega, HF1, HBA⟩
          case measure => simp [intOf]; omega
        · have HF1 := hid (fmd_no1 (F := F) (HEK.out.trans (edg_no2 hR)))
          go_wp2_with (first | (go_at_call 73; refine (within_any _ _ _).mono ?_; rintro e w' ⟨rfl, rfl⟩) | (go_at_call 112; refine (rising_any _ _ _ C _ HN1.out HI.out HCL.out).mono ?_; rintro e w' ⟨rfl, rfl⟩))
          go_ret
          exact ⟨by rw [HF1.out]; rfl, box_trans HBA.out⟩
      · have HF1 := hid (fmd_no1 (F := F) (HEK.out.trans (edg_no1 hW)))
        go_wp2_with (first | (go_at_call 73; refine (within_any _ _ _).mono ?_; rintro e w' ⟨rfl, rfl⟩))
        go_ret
        exact ⟨by rw [HF1.out]; rfl, box_trans HBA.out⟩
    · have HD := hid (drop_end (l := E) (k := k) (by have := HEN.out; omega))
      rw [HD.out] at HEK
      have HFM := hid (fmd_go (F := F) HEK.out)
      obtain ⟨_, c1⟩ := box2 HB.out
      have HFI := hid (HF.out.boxed HB.out)
      have HBB := hid (box_trans HB.out)
      clear HEK HD HE HF HB
      go_wp2
      go_loop [31] (fun x => ∃ j : Nat, x = .int .i64 j ∧ j ≤ fn ∧ Hid (fre c F = fre c (F.drop j))) (fun x => fn - (intOf x).toNat)
      case atStart => exact ⟨0, rfl, Nat.zero_le _, rfl⟩
      case round =>
        obtain ⟨j, rfl, hj, HFJ⟩ := hrel
        by_cases hjl : j < fn
        · have hkl : j < F.length := by have := HFN.out; omega
          obtain ⟨b, rfl, hb, b0⟩ := HFI.out j F[j] (List.getElem?_eq_getElem hkl)
          have HD := hid (drop_at hkl)
          rw [HD.out] at HFJ
          obtain ⟨z, hz⟩ : ∃ z, z = F[j] := ⟨_, rfl⟩
          rw [← hz] at b0 HFJ
          clear hz HD hkl
          have i4 : (j : Int) < (fn : Int) := by omega
          rcases bool_cases (wn z c) with hW | hW
          · have HF1 := hid (HFJ.out.trans (fre_ok hW))
            go_wp2_with (first | (go_at_call 73; refine (within_any _ _ _).mono ?_; rintro e w' ⟨rfl, rfl⟩))
            go_round
            case rel => exact ⟨j + 1, by go_num, by omega, HF1⟩
            case measure => simp [intOf]; omega
          · have HF1 := hid (HFM.out.trans (HFJ.out.trans (fre_no hW)))
            go_wp2_with (first | (go_at_call 73; refine (within_any _ _ _).mono ?_; rintro e w' ⟨rfl, rfl⟩))
            go_ret
            exact ⟨by rw [HF1.out]; rfl, HBB.out⟩
        · have HD := hid (drop_end (l := F) (k := j) (by have := HFN.out; omega))
          rw [HD.out] at HFJ
          have HF1 := hid (HFM.out.trans HFJ.out)
          go_wp2
          go_ret
          exact ⟨by rw [HF1.out]; rfl, HBB.out⟩
end Go.Proofs.YteacehfihogmpaaDoor
