/- The contract of Check (package nfa). -/
import Derived.Test.YteacehfihogmpaaDoorFormed
namespace Go.Proofs.YteacehfihogmpaaDoor
open Go.RowKit

theorem box3 {w W : World} {v0 v1 v2 : Value} {T : TypeId} (h : Below (w.heap.size + 1) (w.alloc (.cells #[v0, v1, v2] T)) W) : W.cell? ⟨w.heap.size, 0, none⟩ = some v0 ∧ W.cell? ⟨w.heap.size, 1, none⟩ = some v1 ∧ W.cell? ⟨w.heap.size, 2, none⟩ = some v2 := by
  refine ⟨?_, ?_, ?_⟩
  · rw [h.cell (p := ⟨w.heap.size, 0, none⟩) (by simp)]; simp [go_sem]
  · rw [h.cell (p := ⟨w.heap.size, 1, none⟩) (by simp)]; simp [go_sem]
  · rw [h.cell (p := ⟨w.heap.size, 2, none⟩) (by simp)]; simp [go_sem]
set_option maxHeartbeats 1000000 in
theorem check_any (so : Option Addr) (sc n : Nat) (L : List St) (s f : Int) (w : World) (hn : n = L.length) (hs : RdS w so L) (hl : n ≤ most) :
    Calls Tryd.prog 24 #[.agg #[.slice so n sc, .int .i64 s, .int .i64 f]] w fun e w' => e = .returned (.tuple #[.int .i64 (chk L s f).1, .int .i64 (chk L s f).2]) ∧ Below w.heap.size w w' := by
  unfold most at hl
  have HN := hid hn
  have HS := hid hs
  clear hn hs
  by_cases hm : 4096 < n
  · have HC := hid (chk_many (s := s) (e := f) (show 4096 < L.length by rw [← HN.out]; exact hm))
    have hm' : (4096 : Int) < (n : Int) := by omega
    go_enter Tryd.func24, Tryd.ntmps24
    go_wp2
    go_ret2
    exact ⟨by rw [HC.out]; rfl, below_box⟩
  · have hm' : ¬ (4096 : Int) < (n : Int) := by omega
    have HM := hid (show ¬ 4096 < L.length by rw [← HN.out]; exact hm)
    rcases bool_cases (wn s n) with hW | hW
    · rcases bool_cases (wn f n) with hV | hV
      · have HC := hid (chk_go HM.out (show wn s L.length = true by rw [← HN.out]; exact hW) (show wn f L.length = true by rw [← HN.out]; exact hV))
        rw [← HN.out] at HC
        go_enter Tryd.func24, Tryd.ntmps24
        go_wp2_with (first | (go_at_call 73; refine (within_any _ _ _).mono ?_; rintro e w' ⟨rfl, rfl⟩))
        clear hW hV
        go_loopw [27] (fun x wr => ∃ k : Nat, x = .int .i64 k ∧ k ≤ n ∧ Hid (fsb n 0 L = fsb n k (L.drop k)) ∧ Hid (Below (w.heap.size + 1) (w.alloc (.cells #[.slice so n sc, .int .i64 s, .int .i64 f] 28)) wr)) (fun x _ => n - (intOf x).toNat)
        case atStart => exact ⟨0, rfl, Nat.zero_le _, rfl, box_self⟩
        case round =>
          obtain ⟨k, rfl, hk, HEK, HB⟩ := hrel
          by_cases hlt : k < n
          · have hkl : k < L.length := by have := HN.out; omega
            obtain ⟨a, rfl, ha, eo, ec, fo, fc, a0, a1, hE, hF, hel, hfl⟩ := HS.out.boxed HB.out k L[k] (List.getElem?_eq_getElem hkl)
            have HD := hid (drop_at hkl)
            rw [HD.out] at HEK
            obtain ⟨g, hg⟩ : ∃ g, g = L[k] := ⟨_, rfl⟩
            rw [← hg] at a0 a1 HEK hE hF hel hfl
            clear hg HD hkl
            obtain ⟨E, F⟩ := g
            dsimp only at a0 a1 hE hF hel hfl
            obtain ⟨en, hen⟩ : ∃ n1, n1 = E.length := ⟨_, rfl⟩
            obtain ⟨fn, hfn⟩ : ∃ n1, n1 = F.length := ⟨_, rfl⟩
            rw [← hen] at a0 hel
            rw [← hfn] at a1 hfl
            have HEN := hid hen
            have HFN := hid hfn
            have HEL := hid hel
            have HFL := hid hfl
            have HE := hid (hE.below (below_box (o := .cells #[.slice eo en ec, .slice fo fn fc] 86)))
            have HF := hid (hF.below (below_box (o := .cells #[.slice eo en ec, .slice fo fn fc] 86)))
            have HBA := hid (HB.out.alloc (by have := HB.out.size; simp at this; omega) (.cells #[.slice eo en ec, .slice fo fn fc] 86))
            clear hen hfn hel hfl hE hF
            have i3 : (k : Int) < (n : Int) := by omega
            rcases bool_cases (fmd n (E, F)) with hW | hW
            · have HF1 := hid (HEK.out.trans (fsb_ok hW))
              go_wp2_with (first | (go_at_call 74; refine (formed_any _ _ _ _ _ _ E F _ _ HEN.out HFN.out HE.out HF.out HEL.out HFL.out).mono ?_; rintro e w' ⟨rfl, hb'⟩))
              have HB2 := hid (HBA.out.trans (hb'.mono (by have := HB.out.size; simp at this ⊢; omega)))
              go_roundw
              case rel => exact ⟨k + 1, by go_num, by omega, by have h := HF1.out; rw [show ((k : Int) + 1) = ((k + 1 : Nat) : Int) by omega] at h; exact h, HB2⟩
              case measure => simp [intOf]; omega
            · have HF1 := hid (HC.out.trans (HEK.out.trans (fsb_no hW)))
              go_wp2_with (first | (go_at_call 74; refine (formed_any _ _ _ _ _ _ E F _ _ HEN.out HFN.out HE.out HF.out HEL.out HFL.out).mono ?_; rintro e w' ⟨rfl, hb'⟩))
              have HB2 := hid (HBA.out.trans (hb'.mono (by have := HB.out.size; simp at this ⊢; omega)))
              go_ret2
              exact ⟨by rw [HF1.out]; rfl, box_trans HB2.out⟩
          · have HD := hid (drop_end (l := L) (k := k) (by have := HN.out; omega))
            rw [HD.out] at HEK
            have HF1 := hid (HC.out.trans HEK.out)
            go_wp2
            go_ret2
            exact ⟨by rw [HF1.out]; rfl, box_trans HB.out⟩
      · have HC := hid (chk_start HM.out (.inr (show wn f L.length = false by rw [← HN.out]; exact hV)) (s := s))
        go_enter Tryd.func24, Tryd.ntmps24
        go_wp2_with (first | (go_at_call 73; refine (within_any _ _ _).mono ?_; rintro e w' ⟨rfl, rfl⟩))
        go_ret2
        exact ⟨by rw [HC.out]; rfl, below_box⟩
    · have HC := hid (chk_start HM.out (.inl (show wn s L.length = false by rw [← HN.out]; exact hW)) (e := f))
      go_enter Tryd.func24, Tryd.ntmps24
      go_wp2_with (first | (go_at_call 73; refine (within_any _ _ _).mono ?_; rintro e w' ⟨rfl, rfl⟩))
      go_ret2
      exact ⟨by rw [HC.out]; rfl, below_box⟩
end Go.Proofs.YteacehfihogmpaaDoor
