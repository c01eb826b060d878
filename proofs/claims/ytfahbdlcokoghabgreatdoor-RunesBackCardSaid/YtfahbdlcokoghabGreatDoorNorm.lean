/- The contract of Norm (package runes): the normal form of what a list means. -/
import Derived.Test.YtfahbdlcokoghabGreatDoorSorted
namespace Go.Proofs.YtfahbdlcokoghabGreatDoor
open Go.RowKit

set_option maxRecDepth 100000 in
set_option maxHeartbeats 3000000 in
theorem norm_of (hsort : SortSays) (ao : Option Addr) (ac : Nat) (l : List Rg) (w : World) (ha : RdR w ao l) (hl : l.length ≤ 100000) :
    Calls Tryz.prog 11 #[.slice ao l.length ac] w fun e w' => ∃ v, e = .returned v ∧ w'.ownsRow w.heap.size 33 2 v (nrm l).length (rgcs (nrm l)) ∧ Below w.heap.size w w' := by
  obtain ⟨i0, hi, hz0, hz1, hz2⟩ := info_parts Tryz.info33
  have HSO := hid (sorted_of hsort ao ac l w ha hl)
  clear ha hsort
  go_enter Tryz.func11, Tryz.ntmps11
  go_wp2_with fail
  refine HSO.out.mono ?_
  rintro e Wr ⟨so, sc, s, rfl, hS, hM, hsl, hrd, hB⟩
  have HS := hid hS
  have HNR := hid (mrg_nrm hS hM)
  have HRD := hid hrd
  have HB0 := hid hB
  have hws := hB.size
  have hs5 : s.length ≤ 100000 := by omega
  clear hS hM hrd hB HSO hsl
  go_wp2
  go_loopw [3, 10] (fun v i wq => ∃ (k : Nat) (O : List Rg), k ≤ s.length ∧ i = .int .i64 k ∧ Hid (wq.ownsRow Wr.heap.size 33 2 v O.length (rgcs O)) ∧ Hid (Mid s O k) ∧ O.length ≤ k ∧ Hid (∀ g, g ∈ O → 0 ≤ g.2 ∧ g.2 ≤ 1114111) ∧ Hid (Below Wr.heap.size Wr wq)) (fun _ i _ => s.length - (intOf i).toNat)
  case atStart => exact ⟨0, [], by omega, rfl, World.ownsRow_nil _ _ _ _, Mid.start s, by simp, fun g hg => (by cases hg), Below.refl _ _⟩
  case round =>
    obtain ⟨k, O, hk, rfl, HO, HMi, hok, HBD, HB⟩ := hrel
    have hbs := HB.out.size
    by_cases hlt : k < s.length
    · obtain ⟨gs, rfl, hgs, y0, y1⟩ := HRD.out k s[k] (List.getElem?_eq_getElem hlt)
      obtain ⟨b1, b2, b3⟩ := srt_at HS.out (List.getElem?_eq_getElem hlt)
      unfold top at b3
      replace y0 := (HB.out.cell (p := gs.add (k * 2)) (by rw [add_blk]; exact hgs)).trans y0
      replace y1 := (HB.out.cell (p := ⟨(gs.add (k * 2)).block, (gs.add (k * 2)).off + 1, none⟩) (show (gs.add (k * 2)).block < _ by rw [add_blk]; exact hgs)).trans y1
      have i3 : (k : Int) < (s.length : Int) := by omega
      have hgw : gs.block < wr.heap.size := by omega
      rcases HMi.out with ⟨hk0, hO⟩ | ⟨Q, lo, hi', hO, hQ⟩
      · subst hO
        have HFI := hid (show Mid s [s[k]] (k + 1) by subst hk0; exact Mid.first hlt)
        obtain ⟨oo, oc, hu6, _, _⟩ := row_reads HO.out
        subst hu6
        obtain ⟨f0, hf0⟩ : ∃ f0, f0 = s[k].1 := ⟨_, rfl⟩
        obtain ⟨f1, hf1⟩ : ∃ f1, f1 = s[k].2 := ⟨_, rfl⟩
        have HF1 := hid (show Mid s [(f0, f1)] (k + 1) by have e : s[k] = (f0, f1) := Prod.ext hf0.symm hf1.symm; have h := HFI.out; rw [e] at h; exact h)
        rw [← hf0] at y0 b1 b2
        rw [← hf1] at y1 b2 b3
        clear hf0 hf1 HFI hk0 HMi hok HBD
        go_wp2_with fail
        go_quiet (fail)
        go_wp2_with (at_builtin; refine wpList_append_own _ rfl _ _ 22 rfl Wr.heap.size 33 i0 (.agg #[.int .i32 0, .int .i32 0]) 2 8 Tryz.underlying22 hi hz0 hz1 hz2 rfl (by decide) (.slice oo 0 oc) 0 [] rfl (((show wr.ownsRow Wr.heap.size 33 2 (.slice oo 0 oc) 0 [] from HO.out).alloc _).alloc _) ⟨wr.heap.size + 1, 0, none⟩ 1 1 (rgc (f0, f1)) rfl rfl ?c1 ?c2 ?c3 ?c4 ?c5 ?_)
        case c1 =>
          have hn := news_r ((wr.alloc (.cells #[.int .i32 f0, .int .i32 f1] 33)).drewN nq) (f0, f1) 33
          rw [show ((wr.alloc (.cells #[.int .i32 f0, .int .i32 f1] 33)).drewN nq).heap.size = wr.heap.size + 1 by simp] at hn
          exact hn
        case c2 => exact rgc_one _
        case c3 => unfold maxLen; omega
        case c4 => omega
        case c5 => simp; omega
        intro v2 w2 o2 gr2 _
        have HO2 := hid (show w2.ownsRow Wr.heap.size 33 2 v2 [(f0, f1)].length (rgcs [(f0, f1)]) from o2)
        have HB2 := hid (((below_drewN (HB.out.alloc hbs (.cells #[.int .i32 f0, .int .i32 f1] 33)) nq).alloc (by simp; omega) (.cells #[.int .i32 f0, .int .i32 f1] 33)).grown gr2 (by simp; omega) (fun j hj => (HO.out.lt j hj).1))
        clear o2 gr2
        go_wp2
        go_roundw
        case rel => exact ⟨k + 1, [(f0, f1)], by omega, by go_num, HO2, HF1, by simp, fun g hg => (by simp at hg; subst hg; exact ⟨by dsimp only; omega, b3⟩), HB2⟩
        case measure => simp [intOf]; omega
      · subst hO
        obtain ⟨oo, oc, hu6, hog, _⟩ := row_reads HO.out
        obtain ⟨g, hoo, hgB, hgl⟩ := hog (by simp)
        subst hoo
        subst hu6
        obtain ⟨p0, p1⟩ := row_cell HO.out Q.length (lo, hi') (by simp)
        have q1 := row_frozen HO.out (Q.length * 2 + 1)
        have hbd := HBD.out (lo, hi') (by simp)
        obtain ⟨n, hn⟩ : ∃ n, n = Q.length := ⟨_, rfl⟩
        have hOl : (Q ++ [(lo, hi')]).length = n + 1 := by rw [hn]; simp
        have HJ := hid (fun hc => Mid.join hlt hQ hc)
        have HMo := hid (fun hc => Mid.more hlt hQ hc)
        obtain ⟨f0, hf0⟩ : ∃ f0, f0 = s[k].1 := ⟨_, rfl⟩
        obtain ⟨f1, hf1⟩ : ∃ f1, f1 = s[k].2 := ⟨_, rfl⟩
        rw [← hf0] at y0 b1 b2
        rw [← hf1] at y1 b2 b3
        rw [← hn] at p0 p1 q1
        dsimp only at hbd p0 p1
        have es : s[k] = (f0, f1) := Prod.ext hf0.symm hf1.symm
        rw [← hf0, ← hf1] at HJ
        rw [← hf0, es] at HMo
        have HQL := hid hn
        have HOL := hid hOl
        clear hf0 hf1 es hn HMi hQ
        have HO1 := hid (show wr.ownsRow Wr.heap.size 33 2 (.slice (some ⟨g, 0, none⟩) (n + 1) oc) (Q ++ [(lo, hi')]).length (rgcs (Q ++ [(lo, hi')])) by have h := HO.out; rw [hOl] at h ⊢; exact h)
        rw [hOl] at hok ⊢
        clear hOl HO
        have t0 : decide ((n : Int) < 0) = false := decide_eq_false (by omega)
        have esub : ((n : Int) + 1) - 1 = (n : Int) := by omega
        have ewr : IntKind.i64.wrap (n : Int) = (n : Int) := by rw [IntKind.wrap_i64]; omega
        have ew32 : IntKind.i32.wrap (hi' + 1) = hi' + 1 := by rw [IntKind.wrap_i32]; omega
        have i1 : (0 : Int) ≤ (n : Int) := by omega
        have i2 : (n : Int) < (n : Int) + 1 := by omega
        by_cases hc : hi' + 1 < f0
        · have HF2 := hid (HMo.out hc)
          clear HJ HMo
          go_wp2_with fail
          go_quiet (fail)
          go_wp2_with (at_builtin; refine wpList_append_own _ rfl _ _ 22 rfl Wr.heap.size 33 i0 (.agg #[.int .i32 0, .int .i32 0]) 2 8 Tryz.underlying22 hi hz0 hz1 hz2 rfl (by decide) (.slice (some ⟨g, 0, none⟩) (n + 1) oc) (Q ++ [(lo, hi')]).length (rgcs (Q ++ [(lo, hi')])) rfl (((show wr.ownsRow Wr.heap.size 33 2 (.slice (some ⟨g, 0, none⟩) (n + 1) oc) (Q ++ [(lo, hi')]).length (rgcs (Q ++ [(lo, hi')])) from HO1.out).alloc _).alloc _) ⟨wr.heap.size + 1, 0, none⟩ 1 1 (rgc (f0, f1)) rfl rfl ?c1 ?c2 ?c3 ?c4 ?c5 ?_)
          case c1 =>
            have hn := news_r ((wr.alloc (.cells #[.int .i32 f0, .int .i32 f1] 33)).drewN nq) (f0, f1) 33
            rw [show ((wr.alloc (.cells #[.int .i32 f0, .int .i32 f1] 33)).drewN nq).heap.size = wr.heap.size + 1 by simp] at hn
            exact hn
          case c2 => exact rgc_one _
          case c3 => rw [HOL.out]; unfold maxLen; omega
          case c4 => rw [HOL.out]; omega
          case c5 => simp; omega
          intro v2 w2 o2 gr2 _
          have HO2 := hid (show w2.ownsRow Wr.heap.size 33 2 v2 (Q ++ [(lo, hi')] ++ [(f0, f1)]).length (rgcs (Q ++ [(lo, hi')] ++ [(f0, f1)])) by rw [rgcs_snoc, len_snoc, len_snoc]; exact o2)
          have HB2 := hid (((below_drewN (HB.out.alloc hbs (.cells #[.int .i32 f0, .int .i32 f1] 33)) nq).alloc (by simp; omega) (.cells #[.int .i32 f0, .int .i32 f1] 33)).grown gr2 (by simp; omega) (fun j hj => (HO1.out.lt j hj).1))
          have hl2 : (Q ++ [(lo, hi')] ++ [(f0, f1)]).length ≤ k + 1 := by rw [len_snoc (Q ++ [(lo, hi')]), HOL.out]; omega
          have HBD2 := hid (show ∀ x, x ∈ Q ++ [(lo, hi')] ++ [(f0, f1)] → 0 ≤ x.2 ∧ x.2 ≤ 1114111 from fun x hx => by
            rcases List.mem_append.1 hx with h | h
            · exact HBD.out x h
            · simp at h; subst h; exact ⟨by dsimp only; omega, b3⟩)
          clear o2 gr2
          go_wp2
          go_roundw
          case rel => exact ⟨k + 1, Q ++ [(lo, hi')] ++ [(f0, f1)], by omega, by go_num, HO2, HF2, hl2, HBD2, HB2⟩
          case measure => simp [intOf]; omega
        · have HF2 := hid (HJ.out hc)
          clear HJ HMo
          obtain ⟨mx, hmx⟩ : ∃ mx : Int, (if hi' < f1 then f1 else hi') = mx := ⟨_, rfl⟩
          have emx : max hi' f1 = mx := by rw [← hmx]; split <;> omega
          have HST := hid (show ((wr.alloc (.cells #[.int .i32 f0, .int .i32 f1] 33)).setCell ⟨g, n * 2 + 1, none⟩ (.int .i32 mx)).ownsRow Wr.heap.size 33 2 (.slice (some ⟨g, 0, none⟩) (n + 1) oc) (Q ++ [(lo, mx)]).length (rgcs (Q ++ [(lo, mx)])) by
            have h := row_set2 (HO1.out.alloc (.cells #[.int .i32 f0, .int .i32 f1] 33)) n lo mx hi' (by rw [HQL.out]; simp)
            rw [HQL.out, set_last, ← HQL.out] at h
            exact h)
          have HF3 := hid (show Mid s (Q ++ [(lo, mx)]) (k + 1) by have h := HF2.out; rw [emx] at h; exact h)
          have hl2 : (Q ++ [(lo, mx)]).length ≤ k + 1 := by have := HQL.out; simp; omega
          have HBD2 := hid (show ∀ x, x ∈ Q ++ [(lo, mx)] → 0 ≤ x.2 ∧ x.2 ≤ 1114111 from fun x hx => by
            rcases List.mem_append.1 hx with h | h
            · exact HBD.out x (List.mem_append.2 (Or.inl h))
            · simp at h; subst h; exact ⟨by dsimp only; omega, by dsimp only; omega⟩)
          clear emx HF2
          go_wp2_with fail
          go_quiet (fail)
          go_wp2_with fail
          go_region
          go_wp2
          go_roundw
          case rel => exact ⟨k + 1, Q ++ [(lo, mx)], by omega, by go_num, HST.out, HF3, hl2, HBD2, (below_drewN (HB.out.alloc hbs _) _).setCell (p := ⟨g, n * 2 + 1, none⟩) hgB _⟩
          case measure => simp [intOf]; omega
    · have HD := hid (HMi.out.done hlt)
      go_wp2
      go_ret
      exact ⟨_, rfl, by rw [← HNR.out, ← HD.out]; exact ownsRow_base2 HO.out HB0.out.size, HB0.out.trans (HB.out.mono HB0.out.size)⟩
end Go.Proofs.YtfahbdlcokoghabGreatDoor

