/- The classes of runes to graphemes (package grapheme): in, latin, marks, jamo, punctuation, signs, high and Class. -/
import Derived.Test.YtffbdnlfknomnaaDoorBase
namespace Go.Proofs.YtffbdnlfknomnaaDoor.Wt
open Go.RowKit

theorem gpin_yes (r lo hi : Int) (w : World) (h : lo ≤ r ∧ r ≤ hi) : Calls Tryd.prog 149 #[.int .i32 r, .int .i32 lo, .int .i32 hi] w fun e w' => e = .returned (.bool true) ∧ w' = w := by
  obtain ⟨h1, h2⟩ := h
  go_enter Tryd.func149, Tryd.ntmps149
  go_wp2
  go_ret
  exact ⟨rfl, rfl⟩
theorem gpin_no (r lo hi : Int) (w : World) (h : ¬ (lo ≤ r ∧ r ≤ hi)) : Calls Tryd.prog 149 #[.int .i32 r, .int .i32 lo, .int .i32 hi] w fun e w' => e = .returned (.bool false) ∧ w' = w := by
  by_cases h1 : lo ≤ r
  · have h2 : ¬ r ≤ hi := fun h2 => h ⟨h1, h2⟩
    clear h
    go_enter Tryd.func149, Tryd.ntmps149
    go_wp2
    go_ret
    exact ⟨rfl, rfl⟩
  · clear h
    go_enter Tryd.func149, Tryd.ntmps149
    go_wp2
    go_ret
    exact ⟨rfl, rfl⟩
def gplatin (r : Int) : Int :=
  if 32 ≤ r ∧ r ≤ 126 then 0 else if r < 0 then 0 else if r = 13 then 1 else if r = 10 then 2 else if r ≤ 159 then 3 else if r = 173 then 3 else if r = 169 then 12 else if r = 174 then 12 else 0
set_option maxHeartbeats 4000000 in
theorem gplatin_any (r : Int) (w : World) : Calls Tryd.prog 135 #[.int .i32 r] w fun e w' => e = .returned (.int .i64 (gplatin r)) ∧ w' = w := by
  by_cases h0 : 32 ≤ r ∧ r ≤ 126
  · have HV := hid (show gplatin r = 0 by unfold gplatin; rw [if_pos h0])
    obtain ⟨u0, v0⟩ := h0
    go_enter Tryd.func135, Tryd.ntmps135
    go_wp2_with (first | (go_at_call 149; (first | refine (gpin_yes _ _ _ _ (by omega)).mono ?_ | refine (gpin_no _ _ _ _ (by omega)).mono ?_); rintro e w1 ⟨rfl, hw1⟩; obtain rfl := hw1.symm; clear hw1))
    go_ret
    exact ⟨by rw [HV.out]; rfl, rfl⟩
  by_cases h1 : r < 0
  · have HV := hid (show gplatin r = 0 by unfold gplatin; rw [if_neg h0, if_pos h1])
    go_enter Tryd.func135, Tryd.ntmps135
    go_wp2_with (first | (go_at_call 149; (first | refine (gpin_yes _ _ _ _ (by omega)).mono ?_ | refine (gpin_no _ _ _ _ (by omega)).mono ?_); rintro e w1 ⟨rfl, hw1⟩; obtain rfl := hw1.symm; clear hw1))
    go_ret
    exact ⟨by rw [HV.out]; rfl, rfl⟩
  by_cases h2 : r = 13
  · subst h2
    have HV := hid (show gplatin 13 = 1 by decide)
    clear h0 h1
    go_enter Tryd.func135, Tryd.ntmps135
    go_wp2_with (first | (go_at_call 149; (first | refine (gpin_yes _ _ _ _ (by omega)).mono ?_ | refine (gpin_no _ _ _ _ (by omega)).mono ?_); rintro e w1 ⟨rfl, hw1⟩; obtain rfl := hw1.symm; clear hw1))
    go_ret
    exact ⟨by rw [HV.out]; rfl, rfl⟩
  by_cases h3 : r = 10
  · subst h3
    have HV := hid (show gplatin 10 = 2 by decide)
    clear h0 h1 h2
    go_enter Tryd.func135, Tryd.ntmps135
    go_wp2_with (first | (go_at_call 149; (first | refine (gpin_yes _ _ _ _ (by omega)).mono ?_ | refine (gpin_no _ _ _ _ (by omega)).mono ?_); rintro e w1 ⟨rfl, hw1⟩; obtain rfl := hw1.symm; clear hw1))
    go_ret
    exact ⟨by rw [HV.out]; rfl, rfl⟩
  by_cases h4 : r ≤ 159
  · have HV := hid (show gplatin r = 3 by unfold gplatin; rw [if_neg h0, if_neg h1, if_neg h2, if_neg h3, if_pos h4])
    have b2 : (r == 13) = false := beq_eq_false_iff_ne.2 h2
    have b3 : (r == 10) = false := beq_eq_false_iff_ne.2 h3
    go_enter Tryd.func135, Tryd.ntmps135
    go_wp2_with (first | (go_at_call 149; (first | refine (gpin_yes _ _ _ _ (by omega)).mono ?_ | refine (gpin_no _ _ _ _ (by omega)).mono ?_); rintro e w1 ⟨rfl, hw1⟩; obtain rfl := hw1.symm; clear hw1))
    go_ret
    exact ⟨by rw [HV.out]; rfl, rfl⟩
  by_cases h5 : r = 173
  · subst h5
    have HV := hid (show gplatin 173 = 3 by decide)
    clear h0 h1 h2 h3 h4
    go_enter Tryd.func135, Tryd.ntmps135
    go_wp2_with (first | (go_at_call 149; (first | refine (gpin_yes _ _ _ _ (by omega)).mono ?_ | refine (gpin_no _ _ _ _ (by omega)).mono ?_); rintro e w1 ⟨rfl, hw1⟩; obtain rfl := hw1.symm; clear hw1))
    go_ret
    exact ⟨by rw [HV.out]; rfl, rfl⟩
  by_cases h6 : r = 169
  · subst h6
    have HV := hid (show gplatin 169 = 12 by decide)
    clear h0 h1 h2 h3 h4 h5
    go_enter Tryd.func135, Tryd.ntmps135
    go_wp2_with (first | (go_at_call 149; (first | refine (gpin_yes _ _ _ _ (by omega)).mono ?_ | refine (gpin_no _ _ _ _ (by omega)).mono ?_); rintro e w1 ⟨rfl, hw1⟩; obtain rfl := hw1.symm; clear hw1))
    go_ret
    exact ⟨by rw [HV.out]; rfl, rfl⟩
  by_cases h7 : r = 174
  · subst h7
    have HV := hid (show gplatin 174 = 12 by decide)
    clear h0 h1 h2 h3 h4 h5 h6
    go_enter Tryd.func135, Tryd.ntmps135
    go_wp2_with (first | (go_at_call 149; (first | refine (gpin_yes _ _ _ _ (by omega)).mono ?_ | refine (gpin_no _ _ _ _ (by omega)).mono ?_); rintro e w1 ⟨rfl, hw1⟩; obtain rfl := hw1.symm; clear hw1))
    go_ret
    exact ⟨by rw [HV.out]; rfl, rfl⟩
  have HV := hid (show gplatin r = 0 by unfold gplatin; rw [if_neg h0, if_neg h1, if_neg h2, if_neg h3, if_neg h4, if_neg h5, if_neg h6, if_neg h7])
  have b2 : (r == 13) = false := beq_eq_false_iff_ne.2 h2
  have b3 : (r == 10) = false := beq_eq_false_iff_ne.2 h3
  have b5 : (r == 173) = false := beq_eq_false_iff_ne.2 h5
  have b6 : (r == 169) = false := beq_eq_false_iff_ne.2 h6
  have b7 : (r == 174) = false := beq_eq_false_iff_ne.2 h7
  go_enter Tryd.func135, Tryd.ntmps135
  go_wp2_with (first | (go_at_call 149; (first | refine (gpin_yes _ _ _ _ (by omega)).mono ?_ | refine (gpin_no _ _ _ _ (by omega)).mono ?_); rintro e w1 ⟨rfl, hw1⟩; obtain rfl := hw1.symm; clear hw1))
  go_ret
  exact ⟨by rw [HV.out]; rfl, rfl⟩
def gpmarks (r : Int) : Int :=
  if r ≤ 879 then 4 else if 1155 ≤ r ∧ r ≤ 1161 then 4 else if 1425 ≤ r ∧ r ≤ 1469 then 4 else if 1611 ≤ r ∧ r ≤ 1631 then 4 else if 1536 ≤ r ∧ r ≤ 1541 then 7 else if r = 1757 then 7 else if r = 1807 then 7 else if r = 2364 then 4 else if r = 2381 then 4 else if 3636 ≤ r ∧ r ≤ 3642 then 4 else if r = 2307 then 6 else if 2366 ≤ r ∧ r ≤ 2368 then 6 else if 2377 ≤ r ∧ r ≤ 2380 then 6 else if r = 3635 then 6 else 0
set_option maxHeartbeats 4000000 in
theorem gpmarks_any (r : Int) (w : World) : Calls Tryd.prog 136 #[.int .i32 r] w fun e w' => e = .returned (.int .i64 (gpmarks r)) ∧ w' = w := by
  by_cases h0 : r ≤ 879
  · have HV := hid (show gpmarks r = 4 by unfold gpmarks; rw [if_pos h0])
    go_enter Tryd.func136, Tryd.ntmps136
    go_wp2_with (first | (go_at_call 149; (first | refine (gpin_yes _ _ _ _ (by omega)).mono ?_ | refine (gpin_no _ _ _ _ (by omega)).mono ?_); rintro e w1 ⟨rfl, hw1⟩; obtain rfl := hw1.symm; clear hw1))
    go_ret
    exact ⟨by rw [HV.out]; rfl, rfl⟩
  by_cases h1 : 1155 ≤ r ∧ r ≤ 1161
  · have HV := hid (show gpmarks r = 4 by unfold gpmarks; rw [if_neg h0, if_pos h1])
    obtain ⟨u1, v1⟩ := h1
    go_enter Tryd.func136, Tryd.ntmps136
    go_wp2_with (first | (go_at_call 149; (first | refine (gpin_yes _ _ _ _ (by omega)).mono ?_ | refine (gpin_no _ _ _ _ (by omega)).mono ?_); rintro e w1 ⟨rfl, hw1⟩; obtain rfl := hw1.symm; clear hw1))
    go_ret
    exact ⟨by rw [HV.out]; rfl, rfl⟩
  by_cases h2 : 1425 ≤ r ∧ r ≤ 1469
  · have HV := hid (show gpmarks r = 4 by unfold gpmarks; rw [if_neg h0, if_neg h1, if_pos h2])
    obtain ⟨u2, v2⟩ := h2
    go_enter Tryd.func136, Tryd.ntmps136
    go_wp2_with (first | (go_at_call 149; (first | refine (gpin_yes _ _ _ _ (by omega)).mono ?_ | refine (gpin_no _ _ _ _ (by omega)).mono ?_); rintro e w1 ⟨rfl, hw1⟩; obtain rfl := hw1.symm; clear hw1))
    go_ret
    exact ⟨by rw [HV.out]; rfl, rfl⟩
  by_cases h3 : 1611 ≤ r ∧ r ≤ 1631
  · have HV := hid (show gpmarks r = 4 by unfold gpmarks; rw [if_neg h0, if_neg h1, if_neg h2, if_pos h3])
    obtain ⟨u3, v3⟩ := h3
    go_enter Tryd.func136, Tryd.ntmps136
    go_wp2_with (first | (go_at_call 149; (first | refine (gpin_yes _ _ _ _ (by omega)).mono ?_ | refine (gpin_no _ _ _ _ (by omega)).mono ?_); rintro e w1 ⟨rfl, hw1⟩; obtain rfl := hw1.symm; clear hw1))
    go_ret
    exact ⟨by rw [HV.out]; rfl, rfl⟩
  by_cases h4 : 1536 ≤ r ∧ r ≤ 1541
  · have HV := hid (show gpmarks r = 7 by unfold gpmarks; rw [if_neg h0, if_neg h1, if_neg h2, if_neg h3, if_pos h4])
    obtain ⟨u4, v4⟩ := h4
    go_enter Tryd.func136, Tryd.ntmps136
    go_wp2_with (first | (go_at_call 149; (first | refine (gpin_yes _ _ _ _ (by omega)).mono ?_ | refine (gpin_no _ _ _ _ (by omega)).mono ?_); rintro e w1 ⟨rfl, hw1⟩; obtain rfl := hw1.symm; clear hw1))
    go_ret
    exact ⟨by rw [HV.out]; rfl, rfl⟩
  by_cases h5 : r = 1757
  · subst h5
    have HV := hid (show gpmarks 1757 = 7 by decide)
    clear h0 h1 h2 h3 h4
    go_enter Tryd.func136, Tryd.ntmps136
    go_wp2_with (first | (go_at_call 149; (first | refine (gpin_yes _ _ _ _ (by omega)).mono ?_ | refine (gpin_no _ _ _ _ (by omega)).mono ?_); rintro e w1 ⟨rfl, hw1⟩; obtain rfl := hw1.symm; clear hw1))
    go_ret
    exact ⟨by rw [HV.out]; rfl, rfl⟩
  by_cases h6 : r = 1807
  · subst h6
    have HV := hid (show gpmarks 1807 = 7 by decide)
    clear h0 h1 h2 h3 h4 h5
    go_enter Tryd.func136, Tryd.ntmps136
    go_wp2_with (first | (go_at_call 149; (first | refine (gpin_yes _ _ _ _ (by omega)).mono ?_ | refine (gpin_no _ _ _ _ (by omega)).mono ?_); rintro e w1 ⟨rfl, hw1⟩; obtain rfl := hw1.symm; clear hw1))
    go_ret
    exact ⟨by rw [HV.out]; rfl, rfl⟩
  by_cases h7 : r = 2364
  · subst h7
    have HV := hid (show gpmarks 2364 = 4 by decide)
    clear h0 h1 h2 h3 h4 h5 h6
    go_enter Tryd.func136, Tryd.ntmps136
    go_wp2_with (first | (go_at_call 149; (first | refine (gpin_yes _ _ _ _ (by omega)).mono ?_ | refine (gpin_no _ _ _ _ (by omega)).mono ?_); rintro e w1 ⟨rfl, hw1⟩; obtain rfl := hw1.symm; clear hw1))
    go_ret
    exact ⟨by rw [HV.out]; rfl, rfl⟩
  by_cases h8 : r = 2381
  · subst h8
    have HV := hid (show gpmarks 2381 = 4 by decide)
    clear h0 h1 h2 h3 h4 h5 h6 h7
    go_enter Tryd.func136, Tryd.ntmps136
    go_wp2_with (first | (go_at_call 149; (first | refine (gpin_yes _ _ _ _ (by omega)).mono ?_ | refine (gpin_no _ _ _ _ (by omega)).mono ?_); rintro e w1 ⟨rfl, hw1⟩; obtain rfl := hw1.symm; clear hw1))
    go_ret
    exact ⟨by rw [HV.out]; rfl, rfl⟩
  by_cases h9 : 3636 ≤ r ∧ r ≤ 3642
  · have HV := hid (show gpmarks r = 4 by unfold gpmarks; rw [if_neg h0, if_neg h1, if_neg h2, if_neg h3, if_neg h4, if_neg h5, if_neg h6, if_neg h7, if_neg h8, if_pos h9])
    have b5 : (r == 1757) = false := beq_eq_false_iff_ne.2 h5
    have b6 : (r == 1807) = false := beq_eq_false_iff_ne.2 h6
    have b7 : (r == 2364) = false := beq_eq_false_iff_ne.2 h7
    have b8 : (r == 2381) = false := beq_eq_false_iff_ne.2 h8
    obtain ⟨u9, v9⟩ := h9
    go_enter Tryd.func136, Tryd.ntmps136
    go_wp2_with (first | (go_at_call 149; (first | refine (gpin_yes _ _ _ _ (by omega)).mono ?_ | refine (gpin_no _ _ _ _ (by omega)).mono ?_); rintro e w1 ⟨rfl, hw1⟩; obtain rfl := hw1.symm; clear hw1))
    go_ret
    exact ⟨by rw [HV.out]; rfl, rfl⟩
  by_cases h10 : r = 2307
  · subst h10
    have HV := hid (show gpmarks 2307 = 6 by decide)
    clear h0 h1 h2 h3 h4 h5 h6 h7 h8 h9
    go_enter Tryd.func136, Tryd.ntmps136
    go_wp2_with (first | (go_at_call 149; (first | refine (gpin_yes _ _ _ _ (by omega)).mono ?_ | refine (gpin_no _ _ _ _ (by omega)).mono ?_); rintro e w1 ⟨rfl, hw1⟩; obtain rfl := hw1.symm; clear hw1))
    go_ret
    exact ⟨by rw [HV.out]; rfl, rfl⟩
  by_cases h11 : 2366 ≤ r ∧ r ≤ 2368
  · have HV := hid (show gpmarks r = 6 by unfold gpmarks; rw [if_neg h0, if_neg h1, if_neg h2, if_neg h3, if_neg h4, if_neg h5, if_neg h6, if_neg h7, if_neg h8, if_neg h9, if_neg h10, if_pos h11])
    have b5 : (r == 1757) = false := beq_eq_false_iff_ne.2 h5
    have b6 : (r == 1807) = false := beq_eq_false_iff_ne.2 h6
    have b7 : (r == 2364) = false := beq_eq_false_iff_ne.2 h7
    have b8 : (r == 2381) = false := beq_eq_false_iff_ne.2 h8
    have b10 : (r == 2307) = false := beq_eq_false_iff_ne.2 h10
    obtain ⟨u11, v11⟩ := h11
    go_enter Tryd.func136, Tryd.ntmps136
    go_wp2_with (first | (go_at_call 149; (first | refine (gpin_yes _ _ _ _ (by omega)).mono ?_ | refine (gpin_no _ _ _ _ (by omega)).mono ?_); rintro e w1 ⟨rfl, hw1⟩; obtain rfl := hw1.symm; clear hw1))
    go_ret
    exact ⟨by rw [HV.out]; rfl, rfl⟩
  by_cases h12 : 2377 ≤ r ∧ r ≤ 2380
  · have HV := hid (show gpmarks r = 6 by unfold gpmarks; rw [if_neg h0, if_neg h1, if_neg h2, if_neg h3, if_neg h4, if_neg h5, if_neg h6, if_neg h7, if_neg h8, if_neg h9, if_neg h10, if_neg h11, if_pos h12])
    have b5 : (r == 1757) = false := beq_eq_false_iff_ne.2 h5
    have b6 : (r == 1807) = false := beq_eq_false_iff_ne.2 h6
    have b7 : (r == 2364) = false := beq_eq_false_iff_ne.2 h7
    have b8 : (r == 2381) = false := beq_eq_false_iff_ne.2 h8
    have b10 : (r == 2307) = false := beq_eq_false_iff_ne.2 h10
    obtain ⟨u12, v12⟩ := h12
    go_enter Tryd.func136, Tryd.ntmps136
    go_wp2_with (first | (go_at_call 149; (first | refine (gpin_yes _ _ _ _ (by omega)).mono ?_ | refine (gpin_no _ _ _ _ (by omega)).mono ?_); rintro e w1 ⟨rfl, hw1⟩; obtain rfl := hw1.symm; clear hw1))
    go_ret
    exact ⟨by rw [HV.out]; rfl, rfl⟩
  by_cases h13 : r = 3635
  · subst h13
    have HV := hid (show gpmarks 3635 = 6 by decide)
    clear h0 h1 h2 h3 h4 h5 h6 h7 h8 h9 h10 h11 h12
    go_enter Tryd.func136, Tryd.ntmps136
    go_wp2_with (first | (go_at_call 149; (first | refine (gpin_yes _ _ _ _ (by omega)).mono ?_ | refine (gpin_no _ _ _ _ (by omega)).mono ?_); rintro e w1 ⟨rfl, hw1⟩; obtain rfl := hw1.symm; clear hw1))
    go_ret
    exact ⟨by rw [HV.out]; rfl, rfl⟩
  have HV := hid (show gpmarks r = 0 by unfold gpmarks; rw [if_neg h0, if_neg h1, if_neg h2, if_neg h3, if_neg h4, if_neg h5, if_neg h6, if_neg h7, if_neg h8, if_neg h9, if_neg h10, if_neg h11, if_neg h12, if_neg h13])
  have b5 : (r == 1757) = false := beq_eq_false_iff_ne.2 h5
  have b6 : (r == 1807) = false := beq_eq_false_iff_ne.2 h6
  have b7 : (r == 2364) = false := beq_eq_false_iff_ne.2 h7
  have b8 : (r == 2381) = false := beq_eq_false_iff_ne.2 h8
  have b10 : (r == 2307) = false := beq_eq_false_iff_ne.2 h10
  have b13 : (r == 3635) = false := beq_eq_false_iff_ne.2 h13
  go_enter Tryd.func136, Tryd.ntmps136
  go_wp2_with (first | (go_at_call 149; (first | refine (gpin_yes _ _ _ _ (by omega)).mono ?_ | refine (gpin_no _ _ _ _ (by omega)).mono ?_); rintro e w1 ⟨rfl, hw1⟩; obtain rfl := hw1.symm; clear hw1))
  go_ret
  exact ⟨by rw [HV.out]; rfl, rfl⟩
def gpjamo (r : Int) : Int :=
  if r ≤ 4447 then 8 else if r ≤ 4519 then 9 else if r ≤ 4607 then 10 else 0
set_option maxHeartbeats 4000000 in
theorem gpjamo_any (r : Int) (w : World) : Calls Tryd.prog 137 #[.int .i32 r] w fun e w' => e = .returned (.int .i64 (gpjamo r)) ∧ w' = w := by
  by_cases h0 : r ≤ 4447
  · have HV := hid (show gpjamo r = 8 by unfold gpjamo; rw [if_pos h0])
    go_enter Tryd.func137, Tryd.ntmps137
    go_wp2_with (first | (go_at_call 149; (first | refine (gpin_yes _ _ _ _ (by omega)).mono ?_ | refine (gpin_no _ _ _ _ (by omega)).mono ?_); rintro e w1 ⟨rfl, hw1⟩; obtain rfl := hw1.symm; clear hw1))
    go_ret
    exact ⟨by rw [HV.out]; rfl, rfl⟩
  by_cases h1 : r ≤ 4519
  · have HV := hid (show gpjamo r = 9 by unfold gpjamo; rw [if_neg h0, if_pos h1])
    go_enter Tryd.func137, Tryd.ntmps137
    go_wp2_with (first | (go_at_call 149; (first | refine (gpin_yes _ _ _ _ (by omega)).mono ?_ | refine (gpin_no _ _ _ _ (by omega)).mono ?_); rintro e w1 ⟨rfl, hw1⟩; obtain rfl := hw1.symm; clear hw1))
    go_ret
    exact ⟨by rw [HV.out]; rfl, rfl⟩
  by_cases h2 : r ≤ 4607
  · have HV := hid (show gpjamo r = 10 by unfold gpjamo; rw [if_neg h0, if_neg h1, if_pos h2])
    go_enter Tryd.func137, Tryd.ntmps137
    go_wp2_with (first | (go_at_call 149; (first | refine (gpin_yes _ _ _ _ (by omega)).mono ?_ | refine (gpin_no _ _ _ _ (by omega)).mono ?_); rintro e w1 ⟨rfl, hw1⟩; obtain rfl := hw1.symm; clear hw1))
    go_ret
    exact ⟨by rw [HV.out]; rfl, rfl⟩
  have HV := hid (show gpjamo r = 0 by unfold gpjamo; rw [if_neg h0, if_neg h1, if_neg h2])
  go_enter Tryd.func137, Tryd.ntmps137
  go_wp2_with (first | (go_at_call 149; (first | refine (gpin_yes _ _ _ _ (by omega)).mono ?_ | refine (gpin_no _ _ _ _ (by omega)).mono ?_); rintro e w1 ⟨rfl, hw1⟩; obtain rfl := hw1.symm; clear hw1))
  go_ret
  exact ⟨by rw [HV.out]; rfl, rfl⟩
def gppunct (r : Int) : Int :=
  if r = 8203 then 3 else if r = 8232 then 3 else if r = 8233 then 3 else if r = 8204 then 4 else if 8400 ≤ r ∧ r ≤ 8432 then 4 else if r = 8205 then 5 else if r = 8252 then 12 else if r = 8265 then 12 else 0
set_option maxHeartbeats 4000000 in
theorem gppunct_any (r : Int) (w : World) : Calls Tryd.prog 138 #[.int .i32 r] w fun e w' => e = .returned (.int .i64 (gppunct r)) ∧ w' = w := by
  by_cases h0 : r = 8203
  · subst h0
    have HV := hid (show gppunct 8203 = 3 by decide)
    skip
    go_enter Tryd.func138, Tryd.ntmps138
    go_wp2_with (first | (go_at_call 149; (first | refine (gpin_yes _ _ _ _ (by omega)).mono ?_ | refine (gpin_no _ _ _ _ (by omega)).mono ?_); rintro e w1 ⟨rfl, hw1⟩; obtain rfl := hw1.symm; clear hw1))
    go_ret
    exact ⟨by rw [HV.out]; rfl, rfl⟩
  by_cases h1 : r = 8232
  · subst h1
    have HV := hid (show gppunct 8232 = 3 by decide)
    clear h0
    go_enter Tryd.func138, Tryd.ntmps138
    go_wp2_with (first | (go_at_call 149; (first | refine (gpin_yes _ _ _ _ (by omega)).mono ?_ | refine (gpin_no _ _ _ _ (by omega)).mono ?_); rintro e w1 ⟨rfl, hw1⟩; obtain rfl := hw1.symm; clear hw1))
    go_ret
    exact ⟨by rw [HV.out]; rfl, rfl⟩
  by_cases h2 : r = 8233
  · subst h2
    have HV := hid (show gppunct 8233 = 3 by decide)
    clear h0 h1
    go_enter Tryd.func138, Tryd.ntmps138
    go_wp2_with (first | (go_at_call 149; (first | refine (gpin_yes _ _ _ _ (by omega)).mono ?_ | refine (gpin_no _ _ _ _ (by omega)).mono ?_); rintro e w1 ⟨rfl, hw1⟩; obtain rfl := hw1.symm; clear hw1))
    go_ret
    exact ⟨by rw [HV.out]; rfl, rfl⟩
  by_cases h3 : r = 8204
  · subst h3
    have HV := hid (show gppunct 8204 = 4 by decide)
    clear h0 h1 h2
    go_enter Tryd.func138, Tryd.ntmps138
    go_wp2_with (first | (go_at_call 149; (first | refine (gpin_yes _ _ _ _ (by omega)).mono ?_ | refine (gpin_no _ _ _ _ (by omega)).mono ?_); rintro e w1 ⟨rfl, hw1⟩; obtain rfl := hw1.symm; clear hw1))
    go_ret
    exact ⟨by rw [HV.out]; rfl, rfl⟩
  by_cases h4 : 8400 ≤ r ∧ r ≤ 8432
  · have HV := hid (show gppunct r = 4 by unfold gppunct; rw [if_neg h0, if_neg h1, if_neg h2, if_neg h3, if_pos h4])
    have b0 : (r == 8203) = false := beq_eq_false_iff_ne.2 h0
    have b1 : (r == 8232) = false := beq_eq_false_iff_ne.2 h1
    have b2 : (r == 8233) = false := beq_eq_false_iff_ne.2 h2
    have b3 : (r == 8204) = false := beq_eq_false_iff_ne.2 h3
    obtain ⟨u4, v4⟩ := h4
    go_enter Tryd.func138, Tryd.ntmps138
    go_wp2_with (first | (go_at_call 149; (first | refine (gpin_yes _ _ _ _ (by omega)).mono ?_ | refine (gpin_no _ _ _ _ (by omega)).mono ?_); rintro e w1 ⟨rfl, hw1⟩; obtain rfl := hw1.symm; clear hw1))
    go_ret
    exact ⟨by rw [HV.out]; rfl, rfl⟩
  by_cases h5 : r = 8205
  · subst h5
    have HV := hid (show gppunct 8205 = 5 by decide)
    clear h0 h1 h2 h3 h4
    go_enter Tryd.func138, Tryd.ntmps138
    go_wp2_with (first | (go_at_call 149; (first | refine (gpin_yes _ _ _ _ (by omega)).mono ?_ | refine (gpin_no _ _ _ _ (by omega)).mono ?_); rintro e w1 ⟨rfl, hw1⟩; obtain rfl := hw1.symm; clear hw1))
    go_ret
    exact ⟨by rw [HV.out]; rfl, rfl⟩
  by_cases h6 : r = 8252
  · subst h6
    have HV := hid (show gppunct 8252 = 12 by decide)
    clear h0 h1 h2 h3 h4 h5
    go_enter Tryd.func138, Tryd.ntmps138
    go_wp2_with (first | (go_at_call 149; (first | refine (gpin_yes _ _ _ _ (by omega)).mono ?_ | refine (gpin_no _ _ _ _ (by omega)).mono ?_); rintro e w1 ⟨rfl, hw1⟩; obtain rfl := hw1.symm; clear hw1))
    go_ret
    exact ⟨by rw [HV.out]; rfl, rfl⟩
  by_cases h7 : r = 8265
  · subst h7
    have HV := hid (show gppunct 8265 = 12 by decide)
    clear h0 h1 h2 h3 h4 h5 h6
    go_enter Tryd.func138, Tryd.ntmps138
    go_wp2_with (first | (go_at_call 149; (first | refine (gpin_yes _ _ _ _ (by omega)).mono ?_ | refine (gpin_no _ _ _ _ (by omega)).mono ?_); rintro e w1 ⟨rfl, hw1⟩; obtain rfl := hw1.symm; clear hw1))
    go_ret
    exact ⟨by rw [HV.out]; rfl, rfl⟩
  have HV := hid (show gppunct r = 0 by unfold gppunct; rw [if_neg h0, if_neg h1, if_neg h2, if_neg h3, if_neg h4, if_neg h5, if_neg h6, if_neg h7])
  have b0 : (r == 8203) = false := beq_eq_false_iff_ne.2 h0
  have b1 : (r == 8232) = false := beq_eq_false_iff_ne.2 h1
  have b2 : (r == 8233) = false := beq_eq_false_iff_ne.2 h2
  have b3 : (r == 8204) = false := beq_eq_false_iff_ne.2 h3
  have b5 : (r == 8205) = false := beq_eq_false_iff_ne.2 h5
  have b6 : (r == 8252) = false := beq_eq_false_iff_ne.2 h6
  have b7 : (r == 8265) = false := beq_eq_false_iff_ne.2 h7
  go_enter Tryd.func138, Tryd.ntmps138
  go_wp2_with (first | (go_at_call 149; (first | refine (gpin_yes _ _ _ _ (by omega)).mono ?_ | refine (gpin_no _ _ _ _ (by omega)).mono ?_); rintro e w1 ⟨rfl, hw1⟩; obtain rfl := hw1.symm; clear hw1))
  go_ret
  exact ⟨by rw [HV.out]; rfl, rfl⟩
def gpsigns (r : Int) : Int :=
  if 12953 < r then 0 else if r = 8482 then 12 else if 8592 ≤ r ∧ r ≤ 8703 then 12 else if 8960 ≤ r ∧ r ≤ 9215 then 12 else if 9632 ≤ r ∧ r ≤ 10175 then 12 else if r = 10548 then 12 else if r = 10549 then 12 else if 11013 ≤ r ∧ r ≤ 11093 then 12 else if r = 12336 then 12 else if r = 12349 then 12 else if r = 12951 then 12 else if r = 12953 then 12 else if r = 12441 then 4 else if r = 12442 then 4 else 0
set_option maxHeartbeats 4000000 in
theorem gpsigns_any (r : Int) (w : World) : Calls Tryd.prog 139 #[.int .i32 r] w fun e w' => e = .returned (.int .i64 (gpsigns r)) ∧ w' = w := by
  by_cases h0 : 12953 < r
  · have HV := hid (show gpsigns r = 0 by unfold gpsigns; rw [if_pos h0])
    go_enter Tryd.func139, Tryd.ntmps139
    go_wp2_with (first | (go_at_call 149; (first | refine (gpin_yes _ _ _ _ (by omega)).mono ?_ | refine (gpin_no _ _ _ _ (by omega)).mono ?_); rintro e w1 ⟨rfl, hw1⟩; obtain rfl := hw1.symm; clear hw1))
    go_ret
    exact ⟨by rw [HV.out]; rfl, rfl⟩
  by_cases h1 : r = 8482
  · subst h1
    have HV := hid (show gpsigns 8482 = 12 by decide)
    clear h0
    go_enter Tryd.func139, Tryd.ntmps139
    go_wp2_with (first | (go_at_call 149; (first | refine (gpin_yes _ _ _ _ (by omega)).mono ?_ | refine (gpin_no _ _ _ _ (by omega)).mono ?_); rintro e w1 ⟨rfl, hw1⟩; obtain rfl := hw1.symm; clear hw1))
    go_ret
    exact ⟨by rw [HV.out]; rfl, rfl⟩
  by_cases h2 : 8592 ≤ r ∧ r ≤ 8703
  · have HV := hid (show gpsigns r = 12 by unfold gpsigns; rw [if_neg h0, if_neg h1, if_pos h2])
    have b1 : (r == 8482) = false := beq_eq_false_iff_ne.2 h1
    obtain ⟨u2, v2⟩ := h2
    go_enter Tryd.func139, Tryd.ntmps139
    go_wp2_with (first | (go_at_call 149; (first | refine (gpin_yes _ _ _ _ (by omega)).mono ?_ | refine (gpin_no _ _ _ _ (by omega)).mono ?_); rintro e w1 ⟨rfl, hw1⟩; obtain rfl := hw1.symm; clear hw1))
    go_ret
    exact ⟨by rw [HV.out]; rfl, rfl⟩
  by_cases h3 : 8960 ≤ r ∧ r ≤ 9215
  · have HV := hid (show gpsigns r = 12 by unfold gpsigns; rw [if_neg h0, if_neg h1, if_neg h2, if_pos h3])
    have b1 : (r == 8482) = false := beq_eq_false_iff_ne.2 h1
    obtain ⟨u3, v3⟩ := h3
    go_enter Tryd.func139, Tryd.ntmps139
    go_wp2_with (first | (go_at_call 149; (first | refine (gpin_yes _ _ _ _ (by omega)).mono ?_ | refine (gpin_no _ _ _ _ (by omega)).mono ?_); rintro e w1 ⟨rfl, hw1⟩; obtain rfl := hw1.symm; clear hw1))
    go_ret
    exact ⟨by rw [HV.out]; rfl, rfl⟩
  by_cases h4 : 9632 ≤ r ∧ r ≤ 10175
  · have HV := hid (show gpsigns r = 12 by unfold gpsigns; rw [if_neg h0, if_neg h1, if_neg h2, if_neg h3, if_pos h4])
    have b1 : (r == 8482) = false := beq_eq_false_iff_ne.2 h1
    obtain ⟨u4, v4⟩ := h4
    go_enter Tryd.func139, Tryd.ntmps139
    go_wp2_with (first | (go_at_call 149; (first | refine (gpin_yes _ _ _ _ (by omega)).mono ?_ | refine (gpin_no _ _ _ _ (by omega)).mono ?_); rintro e w1 ⟨rfl, hw1⟩; obtain rfl := hw1.symm; clear hw1))
    go_ret
    exact ⟨by rw [HV.out]; rfl, rfl⟩
  by_cases h5 : r = 10548
  · subst h5
    have HV := hid (show gpsigns 10548 = 12 by decide)
    clear h0 h1 h2 h3 h4
    go_enter Tryd.func139, Tryd.ntmps139
    go_wp2_with (first | (go_at_call 149; (first | refine (gpin_yes _ _ _ _ (by omega)).mono ?_ | refine (gpin_no _ _ _ _ (by omega)).mono ?_); rintro e w1 ⟨rfl, hw1⟩; obtain rfl := hw1.symm; clear hw1))
    go_ret
    exact ⟨by rw [HV.out]; rfl, rfl⟩
  by_cases h6 : r = 10549
  · subst h6
    have HV := hid (show gpsigns 10549 = 12 by decide)
    clear h0 h1 h2 h3 h4 h5
    go_enter Tryd.func139, Tryd.ntmps139
    go_wp2_with (first | (go_at_call 149; (first | refine (gpin_yes _ _ _ _ (by omega)).mono ?_ | refine (gpin_no _ _ _ _ (by omega)).mono ?_); rintro e w1 ⟨rfl, hw1⟩; obtain rfl := hw1.symm; clear hw1))
    go_ret
    exact ⟨by rw [HV.out]; rfl, rfl⟩
  by_cases h7 : 11013 ≤ r ∧ r ≤ 11093
  · have HV := hid (show gpsigns r = 12 by unfold gpsigns; rw [if_neg h0, if_neg h1, if_neg h2, if_neg h3, if_neg h4, if_neg h5, if_neg h6, if_pos h7])
    have b1 : (r == 8482) = false := beq_eq_false_iff_ne.2 h1
    have b5 : (r == 10548) = false := beq_eq_false_iff_ne.2 h5
    have b6 : (r == 10549) = false := beq_eq_false_iff_ne.2 h6
    obtain ⟨u7, v7⟩ := h7
    go_enter Tryd.func139, Tryd.ntmps139
    go_wp2_with (first | (go_at_call 149; (first | refine (gpin_yes _ _ _ _ (by omega)).mono ?_ | refine (gpin_no _ _ _ _ (by omega)).mono ?_); rintro e w1 ⟨rfl, hw1⟩; obtain rfl := hw1.symm; clear hw1))
    go_ret
    exact ⟨by rw [HV.out]; rfl, rfl⟩
  by_cases h8 : r = 12336
  · subst h8
    have HV := hid (show gpsigns 12336 = 12 by decide)
    clear h0 h1 h2 h3 h4 h5 h6 h7
    go_enter Tryd.func139, Tryd.ntmps139
    go_wp2_with (first | (go_at_call 149; (first | refine (gpin_yes _ _ _ _ (by omega)).mono ?_ | refine (gpin_no _ _ _ _ (by omega)).mono ?_); rintro e w1 ⟨rfl, hw1⟩; obtain rfl := hw1.symm; clear hw1))
    go_ret
    exact ⟨by rw [HV.out]; rfl, rfl⟩
  by_cases h9 : r = 12349
  · subst h9
    have HV := hid (show gpsigns 12349 = 12 by decide)
    clear h0 h1 h2 h3 h4 h5 h6 h7 h8
    go_enter Tryd.func139, Tryd.ntmps139
    go_wp2_with (first | (go_at_call 149; (first | refine (gpin_yes _ _ _ _ (by omega)).mono ?_ | refine (gpin_no _ _ _ _ (by omega)).mono ?_); rintro e w1 ⟨rfl, hw1⟩; obtain rfl := hw1.symm; clear hw1))
    go_ret
    exact ⟨by rw [HV.out]; rfl, rfl⟩
  by_cases h10 : r = 12951
  · subst h10
    have HV := hid (show gpsigns 12951 = 12 by decide)
    clear h0 h1 h2 h3 h4 h5 h6 h7 h8 h9
    go_enter Tryd.func139, Tryd.ntmps139
    go_wp2_with (first | (go_at_call 149; (first | refine (gpin_yes _ _ _ _ (by omega)).mono ?_ | refine (gpin_no _ _ _ _ (by omega)).mono ?_); rintro e w1 ⟨rfl, hw1⟩; obtain rfl := hw1.symm; clear hw1))
    go_ret
    exact ⟨by rw [HV.out]; rfl, rfl⟩
  by_cases h11 : r = 12953
  · subst h11
    have HV := hid (show gpsigns 12953 = 12 by decide)
    clear h0 h1 h2 h3 h4 h5 h6 h7 h8 h9 h10
    go_enter Tryd.func139, Tryd.ntmps139
    go_wp2_with (first | (go_at_call 149; (first | refine (gpin_yes _ _ _ _ (by omega)).mono ?_ | refine (gpin_no _ _ _ _ (by omega)).mono ?_); rintro e w1 ⟨rfl, hw1⟩; obtain rfl := hw1.symm; clear hw1))
    go_ret
    exact ⟨by rw [HV.out]; rfl, rfl⟩
  by_cases h12 : r = 12441
  · subst h12
    have HV := hid (show gpsigns 12441 = 4 by decide)
    clear h0 h1 h2 h3 h4 h5 h6 h7 h8 h9 h10 h11
    go_enter Tryd.func139, Tryd.ntmps139
    go_wp2_with (first | (go_at_call 149; (first | refine (gpin_yes _ _ _ _ (by omega)).mono ?_ | refine (gpin_no _ _ _ _ (by omega)).mono ?_); rintro e w1 ⟨rfl, hw1⟩; obtain rfl := hw1.symm; clear hw1))
    go_ret
    exact ⟨by rw [HV.out]; rfl, rfl⟩
  by_cases h13 : r = 12442
  · subst h13
    have HV := hid (show gpsigns 12442 = 4 by decide)
    clear h0 h1 h2 h3 h4 h5 h6 h7 h8 h9 h10 h11 h12
    go_enter Tryd.func139, Tryd.ntmps139
    go_wp2_with (first | (go_at_call 149; (first | refine (gpin_yes _ _ _ _ (by omega)).mono ?_ | refine (gpin_no _ _ _ _ (by omega)).mono ?_); rintro e w1 ⟨rfl, hw1⟩; obtain rfl := hw1.symm; clear hw1))
    go_ret
    exact ⟨by rw [HV.out]; rfl, rfl⟩
  have HV := hid (show gpsigns r = 0 by unfold gpsigns; rw [if_neg h0, if_neg h1, if_neg h2, if_neg h3, if_neg h4, if_neg h5, if_neg h6, if_neg h7, if_neg h8, if_neg h9, if_neg h10, if_neg h11, if_neg h12, if_neg h13])
  have b1 : (r == 8482) = false := beq_eq_false_iff_ne.2 h1
  have b5 : (r == 10548) = false := beq_eq_false_iff_ne.2 h5
  have b6 : (r == 10549) = false := beq_eq_false_iff_ne.2 h6
  have b8 : (r == 12336) = false := beq_eq_false_iff_ne.2 h8
  have b9 : (r == 12349) = false := beq_eq_false_iff_ne.2 h9
  have b10 : (r == 12951) = false := beq_eq_false_iff_ne.2 h10
  have b11 : (r == 12953) = false := beq_eq_false_iff_ne.2 h11
  have b12 : (r == 12441) = false := beq_eq_false_iff_ne.2 h12
  have b13 : (r == 12442) = false := beq_eq_false_iff_ne.2 h13
  go_enter Tryd.func139, Tryd.ntmps139
  go_wp2_with (first | (go_at_call 149; (first | refine (gpin_yes _ _ _ _ (by omega)).mono ?_ | refine (gpin_no _ _ _ _ (by omega)).mono ?_); rintro e w1 ⟨rfl, hw1⟩; obtain rfl := hw1.symm; clear hw1))
  go_ret
  exact ⟨by rw [HV.out]; rfl, rfl⟩
def gphigh (r : Int) : Int :=
  if 65024 ≤ r ∧ r ≤ 65039 then 4 else if 127995 ≤ r ∧ r ≤ 127999 then 4 else if 917536 ≤ r ∧ r ≤ 917631 then 4 else if r = 65279 then 3 else if r = 69821 then 7 else if 127462 ≤ r ∧ r ≤ 127487 then 13 else if 126976 ≤ r ∧ r ≤ 127231 then 12 else if 127744 ≤ r ∧ r ≤ 127994 then 12 else if 128000 ≤ r ∧ r ≤ 129791 then 12 else 0
set_option maxHeartbeats 4000000 in
theorem gphigh_any (r : Int) (w : World) : Calls Tryd.prog 140 #[.int .i32 r] w fun e w' => e = .returned (.int .i64 (gphigh r)) ∧ w' = w := by
  by_cases h0 : 65024 ≤ r ∧ r ≤ 65039
  · have HV := hid (show gphigh r = 4 by unfold gphigh; rw [if_pos h0])
    obtain ⟨u0, v0⟩ := h0
    go_enter Tryd.func140, Tryd.ntmps140
    go_wp2_with (first | (go_at_call 149; (first | refine (gpin_yes _ _ _ _ (by omega)).mono ?_ | refine (gpin_no _ _ _ _ (by omega)).mono ?_); rintro e w1 ⟨rfl, hw1⟩; obtain rfl := hw1.symm; clear hw1))
    go_ret
    exact ⟨by rw [HV.out]; rfl, rfl⟩
  by_cases h1 : 127995 ≤ r ∧ r ≤ 127999
  · have HV := hid (show gphigh r = 4 by unfold gphigh; rw [if_neg h0, if_pos h1])
    obtain ⟨u1, v1⟩ := h1
    go_enter Tryd.func140, Tryd.ntmps140
    go_wp2_with (first | (go_at_call 149; (first | refine (gpin_yes _ _ _ _ (by omega)).mono ?_ | refine (gpin_no _ _ _ _ (by omega)).mono ?_); rintro e w1 ⟨rfl, hw1⟩; obtain rfl := hw1.symm; clear hw1))
    go_ret
    exact ⟨by rw [HV.out]; rfl, rfl⟩
  by_cases h2 : 917536 ≤ r ∧ r ≤ 917631
  · have HV := hid (show gphigh r = 4 by unfold gphigh; rw [if_neg h0, if_neg h1, if_pos h2])
    obtain ⟨u2, v2⟩ := h2
    go_enter Tryd.func140, Tryd.ntmps140
    go_wp2_with (first | (go_at_call 149; (first | refine (gpin_yes _ _ _ _ (by omega)).mono ?_ | refine (gpin_no _ _ _ _ (by omega)).mono ?_); rintro e w1 ⟨rfl, hw1⟩; obtain rfl := hw1.symm; clear hw1))
    go_ret
    exact ⟨by rw [HV.out]; rfl, rfl⟩
  by_cases h3 : r = 65279
  · subst h3
    have HV := hid (show gphigh 65279 = 3 by decide)
    clear h0 h1 h2
    go_enter Tryd.func140, Tryd.ntmps140
    go_wp2_with (first | (go_at_call 149; (first | refine (gpin_yes _ _ _ _ (by omega)).mono ?_ | refine (gpin_no _ _ _ _ (by omega)).mono ?_); rintro e w1 ⟨rfl, hw1⟩; obtain rfl := hw1.symm; clear hw1))
    go_ret
    exact ⟨by rw [HV.out]; rfl, rfl⟩
  by_cases h4 : r = 69821
  · subst h4
    have HV := hid (show gphigh 69821 = 7 by decide)
    clear h0 h1 h2 h3
    go_enter Tryd.func140, Tryd.ntmps140
    go_wp2_with (first | (go_at_call 149; (first | refine (gpin_yes _ _ _ _ (by omega)).mono ?_ | refine (gpin_no _ _ _ _ (by omega)).mono ?_); rintro e w1 ⟨rfl, hw1⟩; obtain rfl := hw1.symm; clear hw1))
    go_ret
    exact ⟨by rw [HV.out]; rfl, rfl⟩
  by_cases h5 : 127462 ≤ r ∧ r ≤ 127487
  · have HV := hid (show gphigh r = 13 by unfold gphigh; rw [if_neg h0, if_neg h1, if_neg h2, if_neg h3, if_neg h4, if_pos h5])
    have b3 : (r == 65279) = false := beq_eq_false_iff_ne.2 h3
    have b4 : (r == 69821) = false := beq_eq_false_iff_ne.2 h4
    obtain ⟨u5, v5⟩ := h5
    go_enter Tryd.func140, Tryd.ntmps140
    go_wp2_with (first | (go_at_call 149; (first | refine (gpin_yes _ _ _ _ (by omega)).mono ?_ | refine (gpin_no _ _ _ _ (by omega)).mono ?_); rintro e w1 ⟨rfl, hw1⟩; obtain rfl := hw1.symm; clear hw1))
    go_ret
    exact ⟨by rw [HV.out]; rfl, rfl⟩
  by_cases h6 : 126976 ≤ r ∧ r ≤ 127231
  · have HV := hid (show gphigh r = 12 by unfold gphigh; rw [if_neg h0, if_neg h1, if_neg h2, if_neg h3, if_neg h4, if_neg h5, if_pos h6])
    have b3 : (r == 65279) = false := beq_eq_false_iff_ne.2 h3
    have b4 : (r == 69821) = false := beq_eq_false_iff_ne.2 h4
    obtain ⟨u6, v6⟩ := h6
    go_enter Tryd.func140, Tryd.ntmps140
    go_wp2_with (first | (go_at_call 149; (first | refine (gpin_yes _ _ _ _ (by omega)).mono ?_ | refine (gpin_no _ _ _ _ (by omega)).mono ?_); rintro e w1 ⟨rfl, hw1⟩; obtain rfl := hw1.symm; clear hw1))
    go_ret
    exact ⟨by rw [HV.out]; rfl, rfl⟩
  by_cases h7 : 127744 ≤ r ∧ r ≤ 127994
  · have HV := hid (show gphigh r = 12 by unfold gphigh; rw [if_neg h0, if_neg h1, if_neg h2, if_neg h3, if_neg h4, if_neg h5, if_neg h6, if_pos h7])
    have b3 : (r == 65279) = false := beq_eq_false_iff_ne.2 h3
    have b4 : (r == 69821) = false := beq_eq_false_iff_ne.2 h4
    obtain ⟨u7, v7⟩ := h7
    go_enter Tryd.func140, Tryd.ntmps140
    go_wp2_with (first | (go_at_call 149; (first | refine (gpin_yes _ _ _ _ (by omega)).mono ?_ | refine (gpin_no _ _ _ _ (by omega)).mono ?_); rintro e w1 ⟨rfl, hw1⟩; obtain rfl := hw1.symm; clear hw1))
    go_ret
    exact ⟨by rw [HV.out]; rfl, rfl⟩
  by_cases h8 : 128000 ≤ r ∧ r ≤ 129791
  · have HV := hid (show gphigh r = 12 by unfold gphigh; rw [if_neg h0, if_neg h1, if_neg h2, if_neg h3, if_neg h4, if_neg h5, if_neg h6, if_neg h7, if_pos h8])
    have b3 : (r == 65279) = false := beq_eq_false_iff_ne.2 h3
    have b4 : (r == 69821) = false := beq_eq_false_iff_ne.2 h4
    obtain ⟨u8, v8⟩ := h8
    go_enter Tryd.func140, Tryd.ntmps140
    go_wp2_with (first | (go_at_call 149; (first | refine (gpin_yes _ _ _ _ (by omega)).mono ?_ | refine (gpin_no _ _ _ _ (by omega)).mono ?_); rintro e w1 ⟨rfl, hw1⟩; obtain rfl := hw1.symm; clear hw1))
    go_ret
    exact ⟨by rw [HV.out]; rfl, rfl⟩
  have HV := hid (show gphigh r = 0 by unfold gphigh; rw [if_neg h0, if_neg h1, if_neg h2, if_neg h3, if_neg h4, if_neg h5, if_neg h6, if_neg h7, if_neg h8])
  have b3 : (r == 65279) = false := beq_eq_false_iff_ne.2 h3
  have b4 : (r == 69821) = false := beq_eq_false_iff_ne.2 h4
  go_enter Tryd.func140, Tryd.ntmps140
  go_wp2_with (first | (go_at_call 149; (first | refine (gpin_yes _ _ _ _ (by omega)).mono ?_ | refine (gpin_no _ _ _ _ (by omega)).mono ?_); rintro e w1 ⟨rfl, hw1⟩; obtain rfl := hw1.symm; clear hw1))
  go_ret
  exact ⟨by rw [HV.out]; rfl, rfl⟩
def gpcls (r : Int) : Int :=
  if r < 768 then gplatin r else if r < 4352 then gpmarks r else if r < 8192 then gpjamo r else if r < 8448 then gppunct r else if r < 44032 then gpsigns r else if r ≤ 55203 then 11 else gphigh r
theorem gpcls_any (r : Int) (w : World) : Calls Tryd.prog 123 #[.int .i32 r] w fun e w' => e = .returned (.int .i64 (gpcls r)) ∧ w' = w := by
  by_cases h0 : r < 768
  · have HV := hid (show gpcls r = gplatin r by unfold gpcls; rw [if_pos h0])
    go_enter Tryd.func123, Tryd.ntmps123
    go_wp2_with fail
    refine (gplatin_any r w).mono ?_
    rintro e w1 ⟨rfl, hw1⟩
    obtain rfl := hw1.symm
    clear hw1
    go_wp2
    go_ret
    exact ⟨by rw [HV.out]; rfl, rfl⟩
  by_cases h1 : r < 4352
  · have HV := hid (show gpcls r = gpmarks r by unfold gpcls; rw [if_neg h0, if_pos h1])
    go_enter Tryd.func123, Tryd.ntmps123
    go_wp2_with fail
    refine (gpmarks_any r w).mono ?_
    rintro e w1 ⟨rfl, hw1⟩
    obtain rfl := hw1.symm
    clear hw1
    go_wp2
    go_ret
    exact ⟨by rw [HV.out]; rfl, rfl⟩
  by_cases h2 : r < 8192
  · have HV := hid (show gpcls r = gpjamo r by unfold gpcls; rw [if_neg h0, if_neg h1, if_pos h2])
    go_enter Tryd.func123, Tryd.ntmps123
    go_wp2_with fail
    refine (gpjamo_any r w).mono ?_
    rintro e w1 ⟨rfl, hw1⟩
    obtain rfl := hw1.symm
    clear hw1
    go_wp2
    go_ret
    exact ⟨by rw [HV.out]; rfl, rfl⟩
  by_cases h3 : r < 8448
  · have HV := hid (show gpcls r = gppunct r by unfold gpcls; rw [if_neg h0, if_neg h1, if_neg h2, if_pos h3])
    go_enter Tryd.func123, Tryd.ntmps123
    go_wp2_with fail
    refine (gppunct_any r w).mono ?_
    rintro e w1 ⟨rfl, hw1⟩
    obtain rfl := hw1.symm
    clear hw1
    go_wp2
    go_ret
    exact ⟨by rw [HV.out]; rfl, rfl⟩
  by_cases h4 : r < 44032
  · have HV := hid (show gpcls r = gpsigns r by unfold gpcls; rw [if_neg h0, if_neg h1, if_neg h2, if_neg h3, if_pos h4])
    go_enter Tryd.func123, Tryd.ntmps123
    go_wp2_with fail
    refine (gpsigns_any r w).mono ?_
    rintro e w1 ⟨rfl, hw1⟩
    obtain rfl := hw1.symm
    clear hw1
    go_wp2
    go_ret
    exact ⟨by rw [HV.out]; rfl, rfl⟩
  by_cases h5 : r ≤ 55203
  · have HV := hid (show gpcls r = 11 by unfold gpcls; rw [if_neg h0, if_neg h1, if_neg h2, if_neg h3, if_neg h4, if_pos h5])
    go_enter Tryd.func123, Tryd.ntmps123
    go_wp2
    go_ret
    exact ⟨by rw [HV.out]; rfl, rfl⟩
  have HV := hid (show gpcls r = gphigh r by unfold gpcls; rw [if_neg h0, if_neg h1, if_neg h2, if_neg h3, if_neg h4, if_neg h5])
  go_enter Tryd.func123, Tryd.ntmps123
  go_wp2_with fail
  refine (gphigh_any r w).mono ?_
  rintro e w1 ⟨rfl, hw1⟩
  obtain rfl := hw1.symm
  clear hw1
  go_wp2
  go_ret
  exact ⟨by rw [HV.out]; rfl, rfl⟩
end Go.Proofs.YtffbdnlfknomnaaDoor.Wt
