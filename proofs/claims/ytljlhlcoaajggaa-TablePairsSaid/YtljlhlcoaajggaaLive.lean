/- The contracts of num and live (package kerflaw03). -/
import Derived.Test.YtljlhlcoaajggaaLiveMath
namespace Go.Proofs.Ytljlhlcoaajggaa
open Go.RowKit

theorem num_any (z : Int) (w : World) : Calls Try.prog 9 #[.int .i64 z] w fun e w' => e = .returned (.int .i64 z) ∧ w' = w := by
  go_enter Try.func9, Try.ntmps9
  go_wp2
  go_ret
  exact ⟨rfl, rfl⟩
theorem below_drewN (B : Nat) (w : World) (n : Nat) : Below B w (w.drewN n) := ⟨rfl, rfl, rfl, Nat.le_refl _, fun _ _ => rfl⟩
theorem lv_rd (w : World) : RdK (w.alloc (.cells #[.int .i32 768, .int .i32 879, .int .i64 2, .int .i32 97, .int .i32 122, .int .i64 1] 36)) (some ⟨w.heap.size, 0, none⟩) lvI := fun k g hk => by
  have hN := heap_alloc_new w (.cells #[.int .i32 768, .int .i32 879, .int .i64 2, .int .i32 97, .int .i32 122, .int .i64 1] 36)
  refine ⟨_, rfl, by simp, ?_⟩
  rw [Addr.add_lit, Nat.zero_add]
  match k, hk with
  | 0, hk =>
    cases hk
    refine ⟨?_, ?_, ?_⟩ <;> (rw [cell_of_row _ w.heap.size _ _ 36 (0, 0) hN]; rfl)
  | 1, hk =>
    cases hk
    refine ⟨?_, ?_, ?_⟩ <;> (rw [cell_of_row _ w.heap.size _ _ 36 (0, 0) hN]; rfl)
  | k + 2, hk => simp [lvI] at hk

set_option maxHeartbeats 6000000 in
set_option maxRecDepth 100000 in
theorem live_any (w : World) : Calls Try.prog 10 #[] w fun e w' => e = .returned (.bool true) ∧ Below w.heap.size w w' := by
  have HB0 := hid ((Below.refl w.heap.size w).alloc (Nat.le_refl _) (.cells #[.int .i32 768, .int .i32 879, .int .i64 2, .int .i32 97, .int .i32 122, .int .i64 1] 36))
  have HBU := hid (build_any (some ⟨w.heap.size, 0, none⟩) 2 lvI 0 _ (lv_rd w) (by decide))
  have hsz : w.heap.size ≤ (w.alloc (.cells #[.int .i32 768, .int .i32 879, .int .i64 2, .int .i32 97, .int .i32 122, .int .i64 1] 36)).heap.size := by simp
  go_enter Try.func10, Try.ntmps10
  go_wp2_with fail
  refine HBU.out.mono ?_
  rintro e w1 ⟨b1, hc⟩
  rw [lv_bo, lv_srt] at hc
  rcases hc with ⟨c, k, hc, _⟩ | ⟨_, T, F, rfl, hT, hF, _, hTb⟩
  · cases hc
  change F.flatten = clA 0 lvA at hF
  change TbAt _ T F 0 w1 at hTb
  have hFG : F = lvG := by
    obtain ⟨_, _, _, _, ho, _⟩ := hTb
    exact flat_one ho lv_ok (hF.trans lv_flat.symm)
  have HB1 := hid (HB0.out.trans (b1.mono hsz))
  have HTb := hid hTb
  have HF := hid hF
  have HFG := hid hFG
  clear b1 hTb hF hFG hT HBU hsz
  have HG1 := hid (get_any _ T 0 F 98 w1 HTb.out (by decide))
  rw [HF.out, lv_98] at HG1
  go_wp2_with (go_at_call 9; refine (num_any _ _).mono ?_; rintro e w9 ⟨rfl, h9⟩; obtain rfl := h9.symm)
  refine HG1.out.mono ?_
  rintro e w2 ⟨rfl, n2, rfl⟩
  have HB2 := hid (HB1.out.trans (below_drewN w.heap.size w1 n2))
  have HT2 := hid (HTb.out.below (below_drewN w1.heap.size w1 n2))
  obtain ⟨w2, hw2⟩ : ∃ w2, w2 = w1.drewN n2 := ⟨_, rfl⟩
  rw [← hw2] at HB2 HT2 ⊢
  clear hw2 HG1
  have HG2 := hid (get_any _ T 0 F 769 w2 HT2.out (by decide))
  rw [HF.out, lv_769] at HG2
  go_wp2_with fail
  refine HG2.out.mono ?_
  rintro e w3 ⟨rfl, n3, rfl⟩
  have HB3 := hid (HB2.out.trans (below_drewN w.heap.size w2 n3))
  have HT3 := hid (HT2.out.below (below_drewN w2.heap.size w2 n3))
  obtain ⟨w3, hw3⟩ : ∃ w3, w3 = w2.drewN n3 := ⟨_, rfl⟩
  rw [← hw3] at HB3 HT3 ⊢
  clear hw3 HG2
  have HG3 := hid (get_out _ T 0 F (-1) w3 HT3.out (by decide) (.inl (by decide)))
  have HBL := hid (blocks_any _ T 0 F w3 HT3.out)
  rw [HFG.out, lv_uq] at HBL
  have HCN := hid (count_any _ T 0 F 1 w3 HT3.out)
  rw [HF.out, lv_cz] at HCN
  go_wp2_with (first
    | (go_at_call 34; refine HG3.out.mono ?_; rintro e w9 ⟨rfl, h9⟩; obtain rfl := h9.symm)
    | (go_at_call 15; refine HBL.out.mono ?_; rintro e w9 ⟨rfl, h9⟩; obtain rfl := h9.symm)
    | fail)
  refine HCN.out.mono ?_
  rintro e w4 ⟨rfl, b4⟩
  have HB4 := hid (HB3.out.trans (b4.mono HB3.out.size))
  have HT4 := hid (HT3.out.below b4)
  have HBY := hid (bytes_any _ T 0 F w4 HT4.out (by decide))
  rw [HF.out, lv_rg, lv_en] at HBY
  clear b4 HG3 HBL HCN
  go_wp2_with fail
  refine HBY.out.mono ?_
  rintro e w5 ⟨v5, rfl, o5, b5⟩
  obtain ⟨yo, yc, rfl⟩ := own_form o5
  have HB5 := hid (HB4.out.trans (b5.mono HB4.out.size))
  have HT5 := hid (HT4.out.below b5)
  have hyc : lvB.length ≤ yc ∧ (yo = none → yc = 0) := by
    rcases o5.2 with ⟨h5, h6⟩ | ⟨q, cap, cur, h5, _, _, h7, _⟩
    · cases h6
    · simp only [Value.slice.injEq, true_and] at h5
      obtain ⟨rfl, rfl⟩ := h5
      exact ⟨h7, fun h => by cases h⟩
  have HLO := hid (load_any yo yc lvB w5 (rdu_own o5) (by decide) hyc.1 (by decide) hyc.2)
  clear o5 b5 HBY hyc
  go_wp2_with fail
  refine HLO.out.mono ?_
  rintro e w6 ⟨b6, hc⟩
  rw [lv_lds] at hc
  rcases hc with ⟨hc, _⟩ | ⟨T6, F6, L6, hL, rfl, hT6, hF6, _, hTb6⟩
  · cases hc
  cases hL
  rw [lv_ldr] at hF6 hTb6
  have hFG6 : F6 = F := by
    rw [HFG.out]
    obtain ⟨_, _, _, _, ho, _⟩ := hTb6
    exact flat_one ho lv_ok (hF6.trans lv_flat.symm)
  subst hFG6
  have HB6 := hid (HB5.out.trans (b6.mono HB5.out.size))
  have HT6 := hid (HT5.out.below b6)
  have HX6 := hid hTb6
  have HEQ := hid (equal_any _ _ T T6 0 0 F6 F6 w6 HT6.out HX6.out)
  rw [decide_eq_true (show (0 : Nat) = 0 ∧ F6 = F6 from ⟨rfl, rfl⟩)] at HEQ
  clear b6 hTb6 hF6 hT6 HLO
  go_wp2_with (first | (go_at_call 9; refine (num_any _ _).mono ?_; rintro e w9 ⟨rfl, h9⟩; obtain rfl := h9.symm) | fail)
  refine HEQ.out.mono ?_
  rintro e w7 ⟨rfl, b7⟩
  have HB7 := hid (HB6.out.trans (b7.mono HB6.out.size))
  have HT7 := hid (HT6.out.below b7)
  have HX7 := hid (HX6.out.below b7)
  have HRA := hid (ranges_any _ T6 0 F6 w7 HX7.out (by decide))
  rw [HF.out, lv_rg] at HRA
  clear b7 HEQ
  go_wp2_with fail
  refine HRA.out.mono ?_
  rintro e w8 ⟨v8, rfl, o8, b8⟩
  obtain ⟨ro, rc, rfl⟩ := own_form o8
  have HB8 := hid (HB7.out.trans (b8.mono HB7.out.size))
  have HT8 := hid (HT7.out.below b8)
  have HBZ := hid (bytes_any _ T 0 F6 w8 HT8.out (by decide))
  rw [HF.out, lv_rg, lv_en] at HBZ
  rw [show lvA.length = 2 from rfl]
  clear o8 b8 HRA
  go_wp2_with fail
  refine HBZ.out.mono ?_
  rintro e w9 ⟨v9, rfl, o9, b9⟩
  obtain ⟨zo, zc, rfl⟩ := own_form o9
  have HB9 := hid (HB8.out.trans (b9.mono HB8.out.size))
  rw [show lvB.length = 9 from rfl]
  clear o9 b9 HBZ
  go_wp2
  go_ret
  exact ⟨rfl, HB9.out⟩
end Go.Proofs.Ytljlhlcoaajggaa
