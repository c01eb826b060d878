/- The classes of runes to words (package word): in, ascii, latin, scripts, punctuation, asian, high and classOf. -/
import Derived.Test.YtkophiklkgefnaaDoorBase
namespace Go.Proofs.YtkophiklkgefnaaDoor
open Go.RowKit

theorem wdin_yes (r lo hi : Int) (w : World) (h : lo ≤ r ∧ r ≤ hi) : Calls Tryd.prog 85 #[.int .i32 r, .int .i32 lo, .int .i32 hi] w fun e w' => e = .returned (.bool true) ∧ w' = w := by
  obtain ⟨h1, h2⟩ := h
  go_enter Tryd.func85, Tryd.ntmps85
  go_wp2
  go_ret
  exact ⟨rfl, rfl⟩
theorem wdin_no (r lo hi : Int) (w : World) (h : ¬ (lo ≤ r ∧ r ≤ hi)) : Calls Tryd.prog 85 #[.int .i32 r, .int .i32 lo, .int .i32 hi] w fun e w' => e = .returned (.bool false) ∧ w' = w := by
  by_cases h1 : lo ≤ r
  · have h2 : ¬ r ≤ hi := fun h2 => h ⟨h1, h2⟩
    clear h
    go_enter Tryd.func85, Tryd.ntmps85
    go_wp2
    go_ret
    exact ⟨rfl, rfl⟩
  · clear h
    go_enter Tryd.func85, Tryd.ntmps85
    go_wp2
    go_ret
    exact ⟨rfl, rfl⟩
def wdascii (r : Int) : Int :=
  if 97 ≤ r ∧ r ≤ 122 then 10 else if 65 ≤ r ∧ r ≤ 90 then 10 else if r = 32 then 18 else if 48 ≤ r ∧ r ≤ 57 then 16 else if r = 13 then 1 else if r = 10 then 2 else if r = 11 then 3 else if r = 12 then 3 else if r = 39 then 11 else if r = 34 then 12 else if r = 46 then 13 else if r = 58 then 14 else if r = 44 then 15 else if r = 59 then 15 else if r = 95 then 17 else 0
set_option maxHeartbeats 4000000 in
theorem wdascii_any (r : Int) (w : World) : Calls Tryd.prog 57 #[.int .i32 r] w fun e w' => e = .returned (.int .i64 (wdascii r)) ∧ w' = w := by
  by_cases h0 : 97 ≤ r ∧ r ≤ 122
  · have HV := hid (show wdascii r = 10 by unfold wdascii; rw [if_pos h0])
    obtain ⟨u0, v0⟩ := h0
    go_enter Tryd.func57, Tryd.ntmps57
    go_wp2_with (first | (go_at_call 85; (first | refine (wdin_yes _ _ _ _ (by omega)).mono ?_ | refine (wdin_no _ _ _ _ (by omega)).mono ?_); rintro e w1 ⟨rfl, hw1⟩; obtain rfl := hw1.symm; clear hw1))
    go_ret
    exact ⟨by rw [HV.out]; rfl, rfl⟩
  by_cases h1 : 65 ≤ r ∧ r ≤ 90
  · have HV := hid (show wdascii r = 10 by unfold wdascii; rw [if_neg h0, if_pos h1])
    obtain ⟨u1, v1⟩ := h1
    go_enter Tryd.func57, Tryd.ntmps57
    go_wp2_with (first | (go_at_call 85; (first | refine (wdin_yes _ _ _ _ (by omega)).mono ?_ | refine (wdin_no _ _ _ _ (by omega)).mono ?_); rintro e w1 ⟨rfl, hw1⟩; obtain rfl := hw1.symm; clear hw1))
    go_ret
    exact ⟨by rw [HV.out]; rfl, rfl⟩
  by_cases h2 : r = 32
  · subst h2
    have HV := hid (show wdascii 32 = 18 by decide)
    clear h0 h1
    go_enter Tryd.func57, Tryd.ntmps57
    go_wp2_with (first | (go_at_call 85; (first | refine (wdin_yes _ _ _ _ (by omega)).mono ?_ | refine (wdin_no _ _ _ _ (by omega)).mono ?_); rintro e w1 ⟨rfl, hw1⟩; obtain rfl := hw1.symm; clear hw1))
    go_ret
    exact ⟨by rw [HV.out]; rfl, rfl⟩
  by_cases h3 : 48 ≤ r ∧ r ≤ 57
  · have HV := hid (show wdascii r = 16 by unfold wdascii; rw [if_neg h0, if_neg h1, if_neg h2, if_pos h3])
    have b2 : (r == 32) = false := beq_eq_false_iff_ne.2 h2
    obtain ⟨u3, v3⟩ := h3
    go_enter Tryd.func57, Tryd.ntmps57
    go_wp2_with (first | (go_at_call 85; (first | refine (wdin_yes _ _ _ _ (by omega)).mono ?_ | refine (wdin_no _ _ _ _ (by omega)).mono ?_); rintro e w1 ⟨rfl, hw1⟩; obtain rfl := hw1.symm; clear hw1))
    go_ret
    exact ⟨by rw [HV.out]; rfl, rfl⟩
  by_cases h4 : r = 13
  · subst h4
    have HV := hid (show wdascii 13 = 1 by decide)
    clear h0 h1 h2 h3
    go_enter Tryd.func57, Tryd.ntmps57
    go_wp2_with (first | (go_at_call 85; (first | refine (wdin_yes _ _ _ _ (by omega)).mono ?_ | refine (wdin_no _ _ _ _ (by omega)).mono ?_); rintro e w1 ⟨rfl, hw1⟩; obtain rfl := hw1.symm; clear hw1))
    go_ret
    exact ⟨by rw [HV.out]; rfl, rfl⟩
  by_cases h5 : r = 10
  · subst h5
    have HV := hid (show wdascii 10 = 2 by decide)
    clear h0 h1 h2 h3 h4
    go_enter Tryd.func57, Tryd.ntmps57
    go_wp2_with (first | (go_at_call 85; (first | refine (wdin_yes _ _ _ _ (by omega)).mono ?_ | refine (wdin_no _ _ _ _ (by omega)).mono ?_); rintro e w1 ⟨rfl, hw1⟩; obtain rfl := hw1.symm; clear hw1))
    go_ret
    exact ⟨by rw [HV.out]; rfl, rfl⟩
  by_cases h6 : r = 11
  · subst h6
    have HV := hid (show wdascii 11 = 3 by decide)
    clear h0 h1 h2 h3 h4 h5
    go_enter Tryd.func57, Tryd.ntmps57
    go_wp2_with (first | (go_at_call 85; (first | refine (wdin_yes _ _ _ _ (by omega)).mono ?_ | refine (wdin_no _ _ _ _ (by omega)).mono ?_); rintro e w1 ⟨rfl, hw1⟩; obtain rfl := hw1.symm; clear hw1))
    go_ret
    exact ⟨by rw [HV.out]; rfl, rfl⟩
  by_cases h7 : r = 12
  · subst h7
    have HV := hid (show wdascii 12 = 3 by decide)
    clear h0 h1 h2 h3 h4 h5 h6
    go_enter Tryd.func57, Tryd.ntmps57
    go_wp2_with (first | (go_at_call 85; (first | refine (wdin_yes _ _ _ _ (by omega)).mono ?_ | refine (wdin_no _ _ _ _ (by omega)).mono ?_); rintro e w1 ⟨rfl, hw1⟩; obtain rfl := hw1.symm; clear hw1))
    go_ret
    exact ⟨by rw [HV.out]; rfl, rfl⟩
  by_cases h8 : r = 39
  · subst h8
    have HV := hid (show wdascii 39 = 11 by decide)
    clear h0 h1 h2 h3 h4 h5 h6 h7
    go_enter Tryd.func57, Tryd.ntmps57
    go_wp2_with (first | (go_at_call 85; (first | refine (wdin_yes _ _ _ _ (by omega)).mono ?_ | refine (wdin_no _ _ _ _ (by omega)).mono ?_); rintro e w1 ⟨rfl, hw1⟩; obtain rfl := hw1.symm; clear hw1))
    go_ret
    exact ⟨by rw [HV.out]; rfl, rfl⟩
  by_cases h9 : r = 34
  · subst h9
    have HV := hid (show wdascii 34 = 12 by decide)
    clear h0 h1 h2 h3 h4 h5 h6 h7 h8
    go_enter Tryd.func57, Tryd.ntmps57
    go_wp2_with (first | (go_at_call 85; (first | refine (wdin_yes _ _ _ _ (by omega)).mono ?_ | refine (wdin_no _ _ _ _ (by omega)).mono ?_); rintro e w1 ⟨rfl, hw1⟩; obtain rfl := hw1.symm; clear hw1))
    go_ret
    exact ⟨by rw [HV.out]; rfl, rfl⟩
  by_cases h10 : r = 46
  · subst h10
    have HV := hid (show wdascii 46 = 13 by decide)
    clear h0 h1 h2 h3 h4 h5 h6 h7 h8 h9
    go_enter Tryd.func57, Tryd.ntmps57
    go_wp2_with (first | (go_at_call 85; (first | refine (wdin_yes _ _ _ _ (by omega)).mono ?_ | refine (wdin_no _ _ _ _ (by omega)).mono ?_); rintro e w1 ⟨rfl, hw1⟩; obtain rfl := hw1.symm; clear hw1))
    go_ret
    exact ⟨by rw [HV.out]; rfl, rfl⟩
  by_cases h11 : r = 58
  · subst h11
    have HV := hid (show wdascii 58 = 14 by decide)
    clear h0 h1 h2 h3 h4 h5 h6 h7 h8 h9 h10
    go_enter Tryd.func57, Tryd.ntmps57
    go_wp2_with (first | (go_at_call 85; (first | refine (wdin_yes _ _ _ _ (by omega)).mono ?_ | refine (wdin_no _ _ _ _ (by omega)).mono ?_); rintro e w1 ⟨rfl, hw1⟩; obtain rfl := hw1.symm; clear hw1))
    go_ret
    exact ⟨by rw [HV.out]; rfl, rfl⟩
  by_cases h12 : r = 44
  · subst h12
    have HV := hid (show wdascii 44 = 15 by decide)
    clear h0 h1 h2 h3 h4 h5 h6 h7 h8 h9 h10 h11
    go_enter Tryd.func57, Tryd.ntmps57
    go_wp2_with (first | (go_at_call 85; (first | refine (wdin_yes _ _ _ _ (by omega)).mono ?_ | refine (wdin_no _ _ _ _ (by omega)).mono ?_); rintro e w1 ⟨rfl, hw1⟩; obtain rfl := hw1.symm; clear hw1))
    go_ret
    exact ⟨by rw [HV.out]; rfl, rfl⟩
  by_cases h13 : r = 59
  · subst h13
    have HV := hid (show wdascii 59 = 15 by decide)
    clear h0 h1 h2 h3 h4 h5 h6 h7 h8 h9 h10 h11 h12
    go_enter Tryd.func57, Tryd.ntmps57
    go_wp2_with (first | (go_at_call 85; (first | refine (wdin_yes _ _ _ _ (by omega)).mono ?_ | refine (wdin_no _ _ _ _ (by omega)).mono ?_); rintro e w1 ⟨rfl, hw1⟩; obtain rfl := hw1.symm; clear hw1))
    go_ret
    exact ⟨by rw [HV.out]; rfl, rfl⟩
  by_cases h14 : r = 95
  · subst h14
    have HV := hid (show wdascii 95 = 17 by decide)
    clear h0 h1 h2 h3 h4 h5 h6 h7 h8 h9 h10 h11 h12 h13
    go_enter Tryd.func57, Tryd.ntmps57
    go_wp2_with (first | (go_at_call 85; (first | refine (wdin_yes _ _ _ _ (by omega)).mono ?_ | refine (wdin_no _ _ _ _ (by omega)).mono ?_); rintro e w1 ⟨rfl, hw1⟩; obtain rfl := hw1.symm; clear hw1))
    go_ret
    exact ⟨by rw [HV.out]; rfl, rfl⟩
  have HV := hid (show wdascii r = 0 by unfold wdascii; rw [if_neg h0, if_neg h1, if_neg h2, if_neg h3, if_neg h4, if_neg h5, if_neg h6, if_neg h7, if_neg h8, if_neg h9, if_neg h10, if_neg h11, if_neg h12, if_neg h13, if_neg h14])
  have b2 : (r == 32) = false := beq_eq_false_iff_ne.2 h2
  have b4 : (r == 13) = false := beq_eq_false_iff_ne.2 h4
  have b5 : (r == 10) = false := beq_eq_false_iff_ne.2 h5
  have b6 : (r == 11) = false := beq_eq_false_iff_ne.2 h6
  have b7 : (r == 12) = false := beq_eq_false_iff_ne.2 h7
  have b8 : (r == 39) = false := beq_eq_false_iff_ne.2 h8
  have b9 : (r == 34) = false := beq_eq_false_iff_ne.2 h9
  have b10 : (r == 46) = false := beq_eq_false_iff_ne.2 h10
  have b11 : (r == 58) = false := beq_eq_false_iff_ne.2 h11
  have b12 : (r == 44) = false := beq_eq_false_iff_ne.2 h12
  have b13 : (r == 59) = false := beq_eq_false_iff_ne.2 h13
  have b14 : (r == 95) = false := beq_eq_false_iff_ne.2 h14
  go_enter Tryd.func57, Tryd.ntmps57
  go_wp2_with (first | (go_at_call 85; (first | refine (wdin_yes _ _ _ _ (by omega)).mono ?_ | refine (wdin_no _ _ _ _ (by omega)).mono ?_); rintro e w1 ⟨rfl, hw1⟩; obtain rfl := hw1.symm; clear hw1))
  go_ret
  exact ⟨by rw [HV.out]; rfl, rfl⟩
def wdlatin (r : Int) : Int :=
  if r = 170 then 10 else if r = 181 then 10 else if 192 ≤ r ∧ r ≤ 214 then 10 else if 216 ≤ r ∧ r ≤ 246 then 10 else if 248 ≤ r ∧ r ≤ 687 then 10 else if r = 133 then 3 else if r = 169 then 19 else if r = 174 then 19 else if r = 173 then 6 else if r = 183 then 14 else 0
set_option maxHeartbeats 4000000 in
theorem wdlatin_any (r : Int) (w : World) : Calls Tryd.prog 58 #[.int .i32 r] w fun e w' => e = .returned (.int .i64 (wdlatin r)) ∧ w' = w := by
  by_cases h0 : r = 170
  · subst h0
    have HV := hid (show wdlatin 170 = 10 by decide)
    skip
    go_enter Tryd.func58, Tryd.ntmps58
    go_wp2_with (first | (go_at_call 85; (first | refine (wdin_yes _ _ _ _ (by omega)).mono ?_ | refine (wdin_no _ _ _ _ (by omega)).mono ?_); rintro e w1 ⟨rfl, hw1⟩; obtain rfl := hw1.symm; clear hw1))
    go_ret
    exact ⟨by rw [HV.out]; rfl, rfl⟩
  by_cases h1 : r = 181
  · subst h1
    have HV := hid (show wdlatin 181 = 10 by decide)
    clear h0
    go_enter Tryd.func58, Tryd.ntmps58
    go_wp2_with (first | (go_at_call 85; (first | refine (wdin_yes _ _ _ _ (by omega)).mono ?_ | refine (wdin_no _ _ _ _ (by omega)).mono ?_); rintro e w1 ⟨rfl, hw1⟩; obtain rfl := hw1.symm; clear hw1))
    go_ret
    exact ⟨by rw [HV.out]; rfl, rfl⟩
  by_cases h2 : 192 ≤ r ∧ r ≤ 214
  · have HV := hid (show wdlatin r = 10 by unfold wdlatin; rw [if_neg h0, if_neg h1, if_pos h2])
    have b0 : (r == 170) = false := beq_eq_false_iff_ne.2 h0
    have b1 : (r == 181) = false := beq_eq_false_iff_ne.2 h1
    obtain ⟨u2, v2⟩ := h2
    go_enter Tryd.func58, Tryd.ntmps58
    go_wp2_with (first | (go_at_call 85; (first | refine (wdin_yes _ _ _ _ (by omega)).mono ?_ | refine (wdin_no _ _ _ _ (by omega)).mono ?_); rintro e w1 ⟨rfl, hw1⟩; obtain rfl := hw1.symm; clear hw1))
    go_ret
    exact ⟨by rw [HV.out]; rfl, rfl⟩
  by_cases h3 : 216 ≤ r ∧ r ≤ 246
  · have HV := hid (show wdlatin r = 10 by unfold wdlatin; rw [if_neg h0, if_neg h1, if_neg h2, if_pos h3])
    have b0 : (r == 170) = false := beq_eq_false_iff_ne.2 h0
    have b1 : (r == 181) = false := beq_eq_false_iff_ne.2 h1
    obtain ⟨u3, v3⟩ := h3
    go_enter Tryd.func58, Tryd.ntmps58
    go_wp2_with (first | (go_at_call 85; (first | refine (wdin_yes _ _ _ _ (by omega)).mono ?_ | refine (wdin_no _ _ _ _ (by omega)).mono ?_); rintro e w1 ⟨rfl, hw1⟩; obtain rfl := hw1.symm; clear hw1))
    go_ret
    exact ⟨by rw [HV.out]; rfl, rfl⟩
  by_cases h4 : 248 ≤ r ∧ r ≤ 687
  · have HV := hid (show wdlatin r = 10 by unfold wdlatin; rw [if_neg h0, if_neg h1, if_neg h2, if_neg h3, if_pos h4])
    have b0 : (r == 170) = false := beq_eq_false_iff_ne.2 h0
    have b1 : (r == 181) = false := beq_eq_false_iff_ne.2 h1
    obtain ⟨u4, v4⟩ := h4
    go_enter Tryd.func58, Tryd.ntmps58
    go_wp2_with (first | (go_at_call 85; (first | refine (wdin_yes _ _ _ _ (by omega)).mono ?_ | refine (wdin_no _ _ _ _ (by omega)).mono ?_); rintro e w1 ⟨rfl, hw1⟩; obtain rfl := hw1.symm; clear hw1))
    go_ret
    exact ⟨by rw [HV.out]; rfl, rfl⟩
  by_cases h5 : r = 133
  · subst h5
    have HV := hid (show wdlatin 133 = 3 by decide)
    clear h0 h1 h2 h3 h4
    go_enter Tryd.func58, Tryd.ntmps58
    go_wp2_with (first | (go_at_call 85; (first | refine (wdin_yes _ _ _ _ (by omega)).mono ?_ | refine (wdin_no _ _ _ _ (by omega)).mono ?_); rintro e w1 ⟨rfl, hw1⟩; obtain rfl := hw1.symm; clear hw1))
    go_ret
    exact ⟨by rw [HV.out]; rfl, rfl⟩
  by_cases h6 : r = 169
  · subst h6
    have HV := hid (show wdlatin 169 = 19 by decide)
    clear h0 h1 h2 h3 h4 h5
    go_enter Tryd.func58, Tryd.ntmps58
    go_wp2_with (first | (go_at_call 85; (first | refine (wdin_yes _ _ _ _ (by omega)).mono ?_ | refine (wdin_no _ _ _ _ (by omega)).mono ?_); rintro e w1 ⟨rfl, hw1⟩; obtain rfl := hw1.symm; clear hw1))
    go_ret
    exact ⟨by rw [HV.out]; rfl, rfl⟩
  by_cases h7 : r = 174
  · subst h7
    have HV := hid (show wdlatin 174 = 19 by decide)
    clear h0 h1 h2 h3 h4 h5 h6
    go_enter Tryd.func58, Tryd.ntmps58
    go_wp2_with (first | (go_at_call 85; (first | refine (wdin_yes _ _ _ _ (by omega)).mono ?_ | refine (wdin_no _ _ _ _ (by omega)).mono ?_); rintro e w1 ⟨rfl, hw1⟩; obtain rfl := hw1.symm; clear hw1))
    go_ret
    exact ⟨by rw [HV.out]; rfl, rfl⟩
  by_cases h8 : r = 173
  · subst h8
    have HV := hid (show wdlatin 173 = 6 by decide)
    clear h0 h1 h2 h3 h4 h5 h6 h7
    go_enter Tryd.func58, Tryd.ntmps58
    go_wp2_with (first | (go_at_call 85; (first | refine (wdin_yes _ _ _ _ (by omega)).mono ?_ | refine (wdin_no _ _ _ _ (by omega)).mono ?_); rintro e w1 ⟨rfl, hw1⟩; obtain rfl := hw1.symm; clear hw1))
    go_ret
    exact ⟨by rw [HV.out]; rfl, rfl⟩
  by_cases h9 : r = 183
  · subst h9
    have HV := hid (show wdlatin 183 = 14 by decide)
    clear h0 h1 h2 h3 h4 h5 h6 h7 h8
    go_enter Tryd.func58, Tryd.ntmps58
    go_wp2_with (first | (go_at_call 85; (first | refine (wdin_yes _ _ _ _ (by omega)).mono ?_ | refine (wdin_no _ _ _ _ (by omega)).mono ?_); rintro e w1 ⟨rfl, hw1⟩; obtain rfl := hw1.symm; clear hw1))
    go_ret
    exact ⟨by rw [HV.out]; rfl, rfl⟩
  have HV := hid (show wdlatin r = 0 by unfold wdlatin; rw [if_neg h0, if_neg h1, if_neg h2, if_neg h3, if_neg h4, if_neg h5, if_neg h6, if_neg h7, if_neg h8, if_neg h9])
  have b0 : (r == 170) = false := beq_eq_false_iff_ne.2 h0
  have b1 : (r == 181) = false := beq_eq_false_iff_ne.2 h1
  have b5 : (r == 133) = false := beq_eq_false_iff_ne.2 h5
  have b6 : (r == 169) = false := beq_eq_false_iff_ne.2 h6
  have b7 : (r == 174) = false := beq_eq_false_iff_ne.2 h7
  have b8 : (r == 173) = false := beq_eq_false_iff_ne.2 h8
  have b9 : (r == 183) = false := beq_eq_false_iff_ne.2 h9
  go_enter Tryd.func58, Tryd.ntmps58
  go_wp2_with (first | (go_at_call 85; (first | refine (wdin_yes _ _ _ _ (by omega)).mono ?_ | refine (wdin_no _ _ _ _ (by omega)).mono ?_); rintro e w1 ⟨rfl, hw1⟩; obtain rfl := hw1.symm; clear hw1))
  go_ret
  exact ⟨by rw [HV.out]; rfl, rfl⟩
def wdscripts (r : Int) : Int :=
  if r ≤ 879 then 4 else if 1425 ≤ r ∧ r ≤ 1469 then 4 else if r ≤ 883 then 10 else if r = 902 then 10 else if 904 ≤ r ∧ r ≤ 1153 then 10 else if 1162 ≤ r ∧ r ≤ 1366 then 10 else if 1568 ≤ r ∧ r ≤ 1610 then 10 else if 7680 ≤ r ∧ r ≤ 8124 then 10 else if 1488 ≤ r ∧ r ≤ 1514 then 9 else if 1632 ≤ r ∧ r ≤ 1641 then 16 else if r = 1644 then 15 else 0
set_option maxHeartbeats 4000000 in
theorem wdscripts_any (r : Int) (w : World) : Calls Tryd.prog 59 #[.int .i32 r] w fun e w' => e = .returned (.int .i64 (wdscripts r)) ∧ w' = w := by
  by_cases h0 : r ≤ 879
  · have HV := hid (show wdscripts r = 4 by unfold wdscripts; rw [if_pos h0])
    go_enter Tryd.func59, Tryd.ntmps59
    go_wp2_with (first | (go_at_call 85; (first | refine (wdin_yes _ _ _ _ (by omega)).mono ?_ | refine (wdin_no _ _ _ _ (by omega)).mono ?_); rintro e w1 ⟨rfl, hw1⟩; obtain rfl := hw1.symm; clear hw1))
    go_ret
    exact ⟨by rw [HV.out]; rfl, rfl⟩
  by_cases h1 : 1425 ≤ r ∧ r ≤ 1469
  · have HV := hid (show wdscripts r = 4 by unfold wdscripts; rw [if_neg h0, if_pos h1])
    obtain ⟨u1, v1⟩ := h1
    go_enter Tryd.func59, Tryd.ntmps59
    go_wp2_with (first | (go_at_call 85; (first | refine (wdin_yes _ _ _ _ (by omega)).mono ?_ | refine (wdin_no _ _ _ _ (by omega)).mono ?_); rintro e w1 ⟨rfl, hw1⟩; obtain rfl := hw1.symm; clear hw1))
    go_ret
    exact ⟨by rw [HV.out]; rfl, rfl⟩
  by_cases h2 : r ≤ 883
  · have HV := hid (show wdscripts r = 10 by unfold wdscripts; rw [if_neg h0, if_neg h1, if_pos h2])
    go_enter Tryd.func59, Tryd.ntmps59
    go_wp2_with (first | (go_at_call 85; (first | refine (wdin_yes _ _ _ _ (by omega)).mono ?_ | refine (wdin_no _ _ _ _ (by omega)).mono ?_); rintro e w1 ⟨rfl, hw1⟩; obtain rfl := hw1.symm; clear hw1))
    go_ret
    exact ⟨by rw [HV.out]; rfl, rfl⟩
  by_cases h3 : r = 902
  · subst h3
    have HV := hid (show wdscripts 902 = 10 by decide)
    clear h0 h1 h2
    go_enter Tryd.func59, Tryd.ntmps59
    go_wp2_with (first | (go_at_call 85; (first | refine (wdin_yes _ _ _ _ (by omega)).mono ?_ | refine (wdin_no _ _ _ _ (by omega)).mono ?_); rintro e w1 ⟨rfl, hw1⟩; obtain rfl := hw1.symm; clear hw1))
    go_ret
    exact ⟨by rw [HV.out]; rfl, rfl⟩
  by_cases h4 : 904 ≤ r ∧ r ≤ 1153
  · have HV := hid (show wdscripts r = 10 by unfold wdscripts; rw [if_neg h0, if_neg h1, if_neg h2, if_neg h3, if_pos h4])
    have b3 : (r == 902) = false := beq_eq_false_iff_ne.2 h3
    obtain ⟨u4, v4⟩ := h4
    go_enter Tryd.func59, Tryd.ntmps59
    go_wp2_with (first | (go_at_call 85; (first | refine (wdin_yes _ _ _ _ (by omega)).mono ?_ | refine (wdin_no _ _ _ _ (by omega)).mono ?_); rintro e w1 ⟨rfl, hw1⟩; obtain rfl := hw1.symm; clear hw1))
    go_ret
    exact ⟨by rw [HV.out]; rfl, rfl⟩
  by_cases h5 : 1162 ≤ r ∧ r ≤ 1366
  · have HV := hid (show wdscripts r = 10 by unfold wdscripts; rw [if_neg h0, if_neg h1, if_neg h2, if_neg h3, if_neg h4, if_pos h5])
    have b3 : (r == 902) = false := beq_eq_false_iff_ne.2 h3
    obtain ⟨u5, v5⟩ := h5
    go_enter Tryd.func59, Tryd.ntmps59
    go_wp2_with (first | (go_at_call 85; (first | refine (wdin_yes _ _ _ _ (by omega)).mono ?_ | refine (wdin_no _ _ _ _ (by omega)).mono ?_); rintro e w1 ⟨rfl, hw1⟩; obtain rfl := hw1.symm; clear hw1))
    go_ret
    exact ⟨by rw [HV.out]; rfl, rfl⟩
  by_cases h6 : 1568 ≤ r ∧ r ≤ 1610
  · have HV := hid (show wdscripts r = 10 by unfold wdscripts; rw [if_neg h0, if_neg h1, if_neg h2, if_neg h3, if_neg h4, if_neg h5, if_pos h6])
    have b3 : (r == 902) = false := beq_eq_false_iff_ne.2 h3
    obtain ⟨u6, v6⟩ := h6
    go_enter Tryd.func59, Tryd.ntmps59
    go_wp2_with (first | (go_at_call 85; (first | refine (wdin_yes _ _ _ _ (by omega)).mono ?_ | refine (wdin_no _ _ _ _ (by omega)).mono ?_); rintro e w1 ⟨rfl, hw1⟩; obtain rfl := hw1.symm; clear hw1))
    go_ret
    exact ⟨by rw [HV.out]; rfl, rfl⟩
  by_cases h7 : 7680 ≤ r ∧ r ≤ 8124
  · have HV := hid (show wdscripts r = 10 by unfold wdscripts; rw [if_neg h0, if_neg h1, if_neg h2, if_neg h3, if_neg h4, if_neg h5, if_neg h6, if_pos h7])
    have b3 : (r == 902) = false := beq_eq_false_iff_ne.2 h3
    obtain ⟨u7, v7⟩ := h7
    go_enter Tryd.func59, Tryd.ntmps59
    go_wp2_with (first | (go_at_call 85; (first | refine (wdin_yes _ _ _ _ (by omega)).mono ?_ | refine (wdin_no _ _ _ _ (by omega)).mono ?_); rintro e w1 ⟨rfl, hw1⟩; obtain rfl := hw1.symm; clear hw1))
    go_ret
    exact ⟨by rw [HV.out]; rfl, rfl⟩
  by_cases h8 : 1488 ≤ r ∧ r ≤ 1514
  · have HV := hid (show wdscripts r = 9 by unfold wdscripts; rw [if_neg h0, if_neg h1, if_neg h2, if_neg h3, if_neg h4, if_neg h5, if_neg h6, if_neg h7, if_pos h8])
    have b3 : (r == 902) = false := beq_eq_false_iff_ne.2 h3
    obtain ⟨u8, v8⟩ := h8
    go_enter Tryd.func59, Tryd.ntmps59
    go_wp2_with (first | (go_at_call 85; (first | refine (wdin_yes _ _ _ _ (by omega)).mono ?_ | refine (wdin_no _ _ _ _ (by omega)).mono ?_); rintro e w1 ⟨rfl, hw1⟩; obtain rfl := hw1.symm; clear hw1))
    go_ret
    exact ⟨by rw [HV.out]; rfl, rfl⟩
  by_cases h9 : 1632 ≤ r ∧ r ≤ 1641
  · have HV := hid (show wdscripts r = 16 by unfold wdscripts; rw [if_neg h0, if_neg h1, if_neg h2, if_neg h3, if_neg h4, if_neg h5, if_neg h6, if_neg h7, if_neg h8, if_pos h9])
    have b3 : (r == 902) = false := beq_eq_false_iff_ne.2 h3
    obtain ⟨u9, v9⟩ := h9
    go_enter Tryd.func59, Tryd.ntmps59
    go_wp2_with (first | (go_at_call 85; (first | refine (wdin_yes _ _ _ _ (by omega)).mono ?_ | refine (wdin_no _ _ _ _ (by omega)).mono ?_); rintro e w1 ⟨rfl, hw1⟩; obtain rfl := hw1.symm; clear hw1))
    go_ret
    exact ⟨by rw [HV.out]; rfl, rfl⟩
  by_cases h10 : r = 1644
  · subst h10
    have HV := hid (show wdscripts 1644 = 15 by decide)
    clear h0 h1 h2 h3 h4 h5 h6 h7 h8 h9
    go_enter Tryd.func59, Tryd.ntmps59
    go_wp2_with (first | (go_at_call 85; (first | refine (wdin_yes _ _ _ _ (by omega)).mono ?_ | refine (wdin_no _ _ _ _ (by omega)).mono ?_); rintro e w1 ⟨rfl, hw1⟩; obtain rfl := hw1.symm; clear hw1))
    go_ret
    exact ⟨by rw [HV.out]; rfl, rfl⟩
  have HV := hid (show wdscripts r = 0 by unfold wdscripts; rw [if_neg h0, if_neg h1, if_neg h2, if_neg h3, if_neg h4, if_neg h5, if_neg h6, if_neg h7, if_neg h8, if_neg h9, if_neg h10])
  have b3 : (r == 902) = false := beq_eq_false_iff_ne.2 h3
  have b10 : (r == 1644) = false := beq_eq_false_iff_ne.2 h10
  go_enter Tryd.func59, Tryd.ntmps59
  go_wp2_with (first | (go_at_call 85; (first | refine (wdin_yes _ _ _ _ (by omega)).mono ?_ | refine (wdin_no _ _ _ _ (by omega)).mono ?_); rintro e w1 ⟨rfl, hw1⟩; obtain rfl := hw1.symm; clear hw1))
  go_ret
  exact ⟨by rw [HV.out]; rfl, rfl⟩
def wdpunct (r : Int) : Int :=
  if r = 8204 then 4 else if r = 8205 then 5 else if r = 8206 then 6 else if r = 8207 then 6 else if r = 8288 then 6 else if r = 8216 then 13 else if r = 8217 then 13 else if r = 8232 then 3 else if r = 8233 then 3 else if r = 8255 then 17 else if r ≤ 8198 then 18 else 0
set_option maxHeartbeats 4000000 in
theorem wdpunct_any (r : Int) (w : World) : Calls Tryd.prog 60 #[.int .i32 r] w fun e w' => e = .returned (.int .i64 (wdpunct r)) ∧ w' = w := by
  by_cases h0 : r = 8204
  · subst h0
    have HV := hid (show wdpunct 8204 = 4 by decide)
    skip
    go_enter Tryd.func60, Tryd.ntmps60
    go_wp2_with (first | (go_at_call 85; (first | refine (wdin_yes _ _ _ _ (by omega)).mono ?_ | refine (wdin_no _ _ _ _ (by omega)).mono ?_); rintro e w1 ⟨rfl, hw1⟩; obtain rfl := hw1.symm; clear hw1))
    go_ret
    exact ⟨by rw [HV.out]; rfl, rfl⟩
  by_cases h1 : r = 8205
  · subst h1
    have HV := hid (show wdpunct 8205 = 5 by decide)
    clear h0
    go_enter Tryd.func60, Tryd.ntmps60
    go_wp2_with (first | (go_at_call 85; (first | refine (wdin_yes _ _ _ _ (by omega)).mono ?_ | refine (wdin_no _ _ _ _ (by omega)).mono ?_); rintro e w1 ⟨rfl, hw1⟩; obtain rfl := hw1.symm; clear hw1))
    go_ret
    exact ⟨by rw [HV.out]; rfl, rfl⟩
  by_cases h2 : r = 8206
  · subst h2
    have HV := hid (show wdpunct 8206 = 6 by decide)
    clear h0 h1
    go_enter Tryd.func60, Tryd.ntmps60
    go_wp2_with (first | (go_at_call 85; (first | refine (wdin_yes _ _ _ _ (by omega)).mono ?_ | refine (wdin_no _ _ _ _ (by omega)).mono ?_); rintro e w1 ⟨rfl, hw1⟩; obtain rfl := hw1.symm; clear hw1))
    go_ret
    exact ⟨by rw [HV.out]; rfl, rfl⟩
  by_cases h3 : r = 8207
  · subst h3
    have HV := hid (show wdpunct 8207 = 6 by decide)
    clear h0 h1 h2
    go_enter Tryd.func60, Tryd.ntmps60
    go_wp2_with (first | (go_at_call 85; (first | refine (wdin_yes _ _ _ _ (by omega)).mono ?_ | refine (wdin_no _ _ _ _ (by omega)).mono ?_); rintro e w1 ⟨rfl, hw1⟩; obtain rfl := hw1.symm; clear hw1))
    go_ret
    exact ⟨by rw [HV.out]; rfl, rfl⟩
  by_cases h4 : r = 8288
  · subst h4
    have HV := hid (show wdpunct 8288 = 6 by decide)
    clear h0 h1 h2 h3
    go_enter Tryd.func60, Tryd.ntmps60
    go_wp2_with (first | (go_at_call 85; (first | refine (wdin_yes _ _ _ _ (by omega)).mono ?_ | refine (wdin_no _ _ _ _ (by omega)).mono ?_); rintro e w1 ⟨rfl, hw1⟩; obtain rfl := hw1.symm; clear hw1))
    go_ret
    exact ⟨by rw [HV.out]; rfl, rfl⟩
  by_cases h5 : r = 8216
  · subst h5
    have HV := hid (show wdpunct 8216 = 13 by decide)
    clear h0 h1 h2 h3 h4
    go_enter Tryd.func60, Tryd.ntmps60
    go_wp2_with (first | (go_at_call 85; (first | refine (wdin_yes _ _ _ _ (by omega)).mono ?_ | refine (wdin_no _ _ _ _ (by omega)).mono ?_); rintro e w1 ⟨rfl, hw1⟩; obtain rfl := hw1.symm; clear hw1))
    go_ret
    exact ⟨by rw [HV.out]; rfl, rfl⟩
  by_cases h6 : r = 8217
  · subst h6
    have HV := hid (show wdpunct 8217 = 13 by decide)
    clear h0 h1 h2 h3 h4 h5
    go_enter Tryd.func60, Tryd.ntmps60
    go_wp2_with (first | (go_at_call 85; (first | refine (wdin_yes _ _ _ _ (by omega)).mono ?_ | refine (wdin_no _ _ _ _ (by omega)).mono ?_); rintro e w1 ⟨rfl, hw1⟩; obtain rfl := hw1.symm; clear hw1))
    go_ret
    exact ⟨by rw [HV.out]; rfl, rfl⟩
  by_cases h7 : r = 8232
  · subst h7
    have HV := hid (show wdpunct 8232 = 3 by decide)
    clear h0 h1 h2 h3 h4 h5 h6
    go_enter Tryd.func60, Tryd.ntmps60
    go_wp2_with (first | (go_at_call 85; (first | refine (wdin_yes _ _ _ _ (by omega)).mono ?_ | refine (wdin_no _ _ _ _ (by omega)).mono ?_); rintro e w1 ⟨rfl, hw1⟩; obtain rfl := hw1.symm; clear hw1))
    go_ret
    exact ⟨by rw [HV.out]; rfl, rfl⟩
  by_cases h8 : r = 8233
  · subst h8
    have HV := hid (show wdpunct 8233 = 3 by decide)
    clear h0 h1 h2 h3 h4 h5 h6 h7
    go_enter Tryd.func60, Tryd.ntmps60
    go_wp2_with (first | (go_at_call 85; (first | refine (wdin_yes _ _ _ _ (by omega)).mono ?_ | refine (wdin_no _ _ _ _ (by omega)).mono ?_); rintro e w1 ⟨rfl, hw1⟩; obtain rfl := hw1.symm; clear hw1))
    go_ret
    exact ⟨by rw [HV.out]; rfl, rfl⟩
  by_cases h9 : r = 8255
  · subst h9
    have HV := hid (show wdpunct 8255 = 17 by decide)
    clear h0 h1 h2 h3 h4 h5 h6 h7 h8
    go_enter Tryd.func60, Tryd.ntmps60
    go_wp2_with (first | (go_at_call 85; (first | refine (wdin_yes _ _ _ _ (by omega)).mono ?_ | refine (wdin_no _ _ _ _ (by omega)).mono ?_); rintro e w1 ⟨rfl, hw1⟩; obtain rfl := hw1.symm; clear hw1))
    go_ret
    exact ⟨by rw [HV.out]; rfl, rfl⟩
  by_cases h10 : r ≤ 8198
  · have HV := hid (show wdpunct r = 18 by unfold wdpunct; rw [if_neg h0, if_neg h1, if_neg h2, if_neg h3, if_neg h4, if_neg h5, if_neg h6, if_neg h7, if_neg h8, if_neg h9, if_pos h10])
    have b0 : (r == 8204) = false := beq_eq_false_iff_ne.2 h0
    have b1 : (r == 8205) = false := beq_eq_false_iff_ne.2 h1
    have b2 : (r == 8206) = false := beq_eq_false_iff_ne.2 h2
    have b3 : (r == 8207) = false := beq_eq_false_iff_ne.2 h3
    have b4 : (r == 8288) = false := beq_eq_false_iff_ne.2 h4
    have b5 : (r == 8216) = false := beq_eq_false_iff_ne.2 h5
    have b6 : (r == 8217) = false := beq_eq_false_iff_ne.2 h6
    have b7 : (r == 8232) = false := beq_eq_false_iff_ne.2 h7
    have b8 : (r == 8233) = false := beq_eq_false_iff_ne.2 h8
    have b9 : (r == 8255) = false := beq_eq_false_iff_ne.2 h9
    go_enter Tryd.func60, Tryd.ntmps60
    go_wp2_with (first | (go_at_call 85; (first | refine (wdin_yes _ _ _ _ (by omega)).mono ?_ | refine (wdin_no _ _ _ _ (by omega)).mono ?_); rintro e w1 ⟨rfl, hw1⟩; obtain rfl := hw1.symm; clear hw1))
    go_ret
    exact ⟨by rw [HV.out]; rfl, rfl⟩
  have HV := hid (show wdpunct r = 0 by unfold wdpunct; rw [if_neg h0, if_neg h1, if_neg h2, if_neg h3, if_neg h4, if_neg h5, if_neg h6, if_neg h7, if_neg h8, if_neg h9, if_neg h10])
  have b0 : (r == 8204) = false := beq_eq_false_iff_ne.2 h0
  have b1 : (r == 8205) = false := beq_eq_false_iff_ne.2 h1
  have b2 : (r == 8206) = false := beq_eq_false_iff_ne.2 h2
  have b3 : (r == 8207) = false := beq_eq_false_iff_ne.2 h3
  have b4 : (r == 8288) = false := beq_eq_false_iff_ne.2 h4
  have b5 : (r == 8216) = false := beq_eq_false_iff_ne.2 h5
  have b6 : (r == 8217) = false := beq_eq_false_iff_ne.2 h6
  have b7 : (r == 8232) = false := beq_eq_false_iff_ne.2 h7
  have b8 : (r == 8233) = false := beq_eq_false_iff_ne.2 h8
  have b9 : (r == 8255) = false := beq_eq_false_iff_ne.2 h9
  go_enter Tryd.func60, Tryd.ntmps60
  go_wp2_with (first | (go_at_call 85; (first | refine (wdin_yes _ _ _ _ (by omega)).mono ?_ | refine (wdin_no _ _ _ _ (by omega)).mono ?_); rintro e w1 ⟨rfl, hw1⟩; obtain rfl := hw1.symm; clear hw1))
  go_ret
  exact ⟨by rw [HV.out]; rfl, rfl⟩
def wdasian (r : Int) : Int :=
  if 9728 ≤ r ∧ r ≤ 10175 then 19 else if r = 12288 then 18 else if r = 12441 then 4 else if r = 12442 then 4 else if 12449 ≤ r ∧ r ≤ 12538 then 8 else if r = 12540 then 8 else 0
set_option maxHeartbeats 4000000 in
theorem wdasian_any (r : Int) (w : World) : Calls Tryd.prog 61 #[.int .i32 r] w fun e w' => e = .returned (.int .i64 (wdasian r)) ∧ w' = w := by
  by_cases h0 : 9728 ≤ r ∧ r ≤ 10175
  · have HV := hid (show wdasian r = 19 by unfold wdasian; rw [if_pos h0])
    obtain ⟨u0, v0⟩ := h0
    go_enter Tryd.func61, Tryd.ntmps61
    go_wp2_with (first | (go_at_call 85; (first | refine (wdin_yes _ _ _ _ (by omega)).mono ?_ | refine (wdin_no _ _ _ _ (by omega)).mono ?_); rintro e w1 ⟨rfl, hw1⟩; obtain rfl := hw1.symm; clear hw1))
    go_ret
    exact ⟨by rw [HV.out]; rfl, rfl⟩
  by_cases h1 : r = 12288
  · subst h1
    have HV := hid (show wdasian 12288 = 18 by decide)
    clear h0
    go_enter Tryd.func61, Tryd.ntmps61
    go_wp2_with (first | (go_at_call 85; (first | refine (wdin_yes _ _ _ _ (by omega)).mono ?_ | refine (wdin_no _ _ _ _ (by omega)).mono ?_); rintro e w1 ⟨rfl, hw1⟩; obtain rfl := hw1.symm; clear hw1))
    go_ret
    exact ⟨by rw [HV.out]; rfl, rfl⟩
  by_cases h2 : r = 12441
  · subst h2
    have HV := hid (show wdasian 12441 = 4 by decide)
    clear h0 h1
    go_enter Tryd.func61, Tryd.ntmps61
    go_wp2_with (first | (go_at_call 85; (first | refine (wdin_yes _ _ _ _ (by omega)).mono ?_ | refine (wdin_no _ _ _ _ (by omega)).mono ?_); rintro e w1 ⟨rfl, hw1⟩; obtain rfl := hw1.symm; clear hw1))
    go_ret
    exact ⟨by rw [HV.out]; rfl, rfl⟩
  by_cases h3 : r = 12442
  · subst h3
    have HV := hid (show wdasian 12442 = 4 by decide)
    clear h0 h1 h2
    go_enter Tryd.func61, Tryd.ntmps61
    go_wp2_with (first | (go_at_call 85; (first | refine (wdin_yes _ _ _ _ (by omega)).mono ?_ | refine (wdin_no _ _ _ _ (by omega)).mono ?_); rintro e w1 ⟨rfl, hw1⟩; obtain rfl := hw1.symm; clear hw1))
    go_ret
    exact ⟨by rw [HV.out]; rfl, rfl⟩
  by_cases h4 : 12449 ≤ r ∧ r ≤ 12538
  · have HV := hid (show wdasian r = 8 by unfold wdasian; rw [if_neg h0, if_neg h1, if_neg h2, if_neg h3, if_pos h4])
    have b1 : (r == 12288) = false := beq_eq_false_iff_ne.2 h1
    have b2 : (r == 12441) = false := beq_eq_false_iff_ne.2 h2
    have b3 : (r == 12442) = false := beq_eq_false_iff_ne.2 h3
    obtain ⟨u4, v4⟩ := h4
    go_enter Tryd.func61, Tryd.ntmps61
    go_wp2_with (first | (go_at_call 85; (first | refine (wdin_yes _ _ _ _ (by omega)).mono ?_ | refine (wdin_no _ _ _ _ (by omega)).mono ?_); rintro e w1 ⟨rfl, hw1⟩; obtain rfl := hw1.symm; clear hw1))
    go_ret
    exact ⟨by rw [HV.out]; rfl, rfl⟩
  by_cases h5 : r = 12540
  · subst h5
    have HV := hid (show wdasian 12540 = 8 by decide)
    clear h0 h1 h2 h3 h4
    go_enter Tryd.func61, Tryd.ntmps61
    go_wp2_with (first | (go_at_call 85; (first | refine (wdin_yes _ _ _ _ (by omega)).mono ?_ | refine (wdin_no _ _ _ _ (by omega)).mono ?_); rintro e w1 ⟨rfl, hw1⟩; obtain rfl := hw1.symm; clear hw1))
    go_ret
    exact ⟨by rw [HV.out]; rfl, rfl⟩
  have HV := hid (show wdasian r = 0 by unfold wdasian; rw [if_neg h0, if_neg h1, if_neg h2, if_neg h3, if_neg h4, if_neg h5])
  have b1 : (r == 12288) = false := beq_eq_false_iff_ne.2 h1
  have b2 : (r == 12441) = false := beq_eq_false_iff_ne.2 h2
  have b3 : (r == 12442) = false := beq_eq_false_iff_ne.2 h3
  have b5 : (r == 12540) = false := beq_eq_false_iff_ne.2 h5
  go_enter Tryd.func61, Tryd.ntmps61
  go_wp2_with (first | (go_at_call 85; (first | refine (wdin_yes _ _ _ _ (by omega)).mono ?_ | refine (wdin_no _ _ _ _ (by omega)).mono ?_); rintro e w1 ⟨rfl, hw1⟩; obtain rfl := hw1.symm; clear hw1))
  go_ret
  exact ⟨by rw [HV.out]; rfl, rfl⟩
def wdhigh (r : Int) : Int :=
  if 64256 ≤ r ∧ r ≤ 64262 then 10 else if 65024 ≤ r ∧ r ≤ 65039 then 4 else if 127995 ≤ r ∧ r ≤ 127999 then 4 else if r = 65279 then 6 else if 65382 ≤ r ∧ r ≤ 65437 then 8 else if 127462 ≤ r ∧ r ≤ 127487 then 7 else if 127744 ≤ r ∧ r ≤ 127994 then 19 else if 128000 ≤ r ∧ r ≤ 128591 then 19 else if 128640 ≤ r ∧ r ≤ 128767 then 19 else 0
set_option maxHeartbeats 4000000 in
theorem wdhigh_any (r : Int) (w : World) : Calls Tryd.prog 62 #[.int .i32 r] w fun e w' => e = .returned (.int .i64 (wdhigh r)) ∧ w' = w := by
  by_cases h0 : 64256 ≤ r ∧ r ≤ 64262
  · have HV := hid (show wdhigh r = 10 by unfold wdhigh; rw [if_pos h0])
    obtain ⟨u0, v0⟩ := h0
    go_enter Tryd.func62, Tryd.ntmps62
    go_wp2_with (first | (go_at_call 85; (first | refine (wdin_yes _ _ _ _ (by omega)).mono ?_ | refine (wdin_no _ _ _ _ (by omega)).mono ?_); rintro e w1 ⟨rfl, hw1⟩; obtain rfl := hw1.symm; clear hw1))
    go_ret
    exact ⟨by rw [HV.out]; rfl, rfl⟩
  by_cases h1 : 65024 ≤ r ∧ r ≤ 65039
  · have HV := hid (show wdhigh r = 4 by unfold wdhigh; rw [if_neg h0, if_pos h1])
    obtain ⟨u1, v1⟩ := h1
    go_enter Tryd.func62, Tryd.ntmps62
    go_wp2_with (first | (go_at_call 85; (first | refine (wdin_yes _ _ _ _ (by omega)).mono ?_ | refine (wdin_no _ _ _ _ (by omega)).mono ?_); rintro e w1 ⟨rfl, hw1⟩; obtain rfl := hw1.symm; clear hw1))
    go_ret
    exact ⟨by rw [HV.out]; rfl, rfl⟩
  by_cases h2 : 127995 ≤ r ∧ r ≤ 127999
  · have HV := hid (show wdhigh r = 4 by unfold wdhigh; rw [if_neg h0, if_neg h1, if_pos h2])
    obtain ⟨u2, v2⟩ := h2
    go_enter Tryd.func62, Tryd.ntmps62
    go_wp2_with (first | (go_at_call 85; (first | refine (wdin_yes _ _ _ _ (by omega)).mono ?_ | refine (wdin_no _ _ _ _ (by omega)).mono ?_); rintro e w1 ⟨rfl, hw1⟩; obtain rfl := hw1.symm; clear hw1))
    go_ret
    exact ⟨by rw [HV.out]; rfl, rfl⟩
  by_cases h3 : r = 65279
  · subst h3
    have HV := hid (show wdhigh 65279 = 6 by decide)
    clear h0 h1 h2
    go_enter Tryd.func62, Tryd.ntmps62
    go_wp2_with (first | (go_at_call 85; (first | refine (wdin_yes _ _ _ _ (by omega)).mono ?_ | refine (wdin_no _ _ _ _ (by omega)).mono ?_); rintro e w1 ⟨rfl, hw1⟩; obtain rfl := hw1.symm; clear hw1))
    go_ret
    exact ⟨by rw [HV.out]; rfl, rfl⟩
  by_cases h4 : 65382 ≤ r ∧ r ≤ 65437
  · have HV := hid (show wdhigh r = 8 by unfold wdhigh; rw [if_neg h0, if_neg h1, if_neg h2, if_neg h3, if_pos h4])
    have b3 : (r == 65279) = false := beq_eq_false_iff_ne.2 h3
    obtain ⟨u4, v4⟩ := h4
    go_enter Tryd.func62, Tryd.ntmps62
    go_wp2_with (first | (go_at_call 85; (first | refine (wdin_yes _ _ _ _ (by omega)).mono ?_ | refine (wdin_no _ _ _ _ (by omega)).mono ?_); rintro e w1 ⟨rfl, hw1⟩; obtain rfl := hw1.symm; clear hw1))
    go_ret
    exact ⟨by rw [HV.out]; rfl, rfl⟩
  by_cases h5 : 127462 ≤ r ∧ r ≤ 127487
  · have HV := hid (show wdhigh r = 7 by unfold wdhigh; rw [if_neg h0, if_neg h1, if_neg h2, if_neg h3, if_neg h4, if_pos h5])
    have b3 : (r == 65279) = false := beq_eq_false_iff_ne.2 h3
    obtain ⟨u5, v5⟩ := h5
    go_enter Tryd.func62, Tryd.ntmps62
    go_wp2_with (first | (go_at_call 85; (first | refine (wdin_yes _ _ _ _ (by omega)).mono ?_ | refine (wdin_no _ _ _ _ (by omega)).mono ?_); rintro e w1 ⟨rfl, hw1⟩; obtain rfl := hw1.symm; clear hw1))
    go_ret
    exact ⟨by rw [HV.out]; rfl, rfl⟩
  by_cases h6 : 127744 ≤ r ∧ r ≤ 127994
  · have HV := hid (show wdhigh r = 19 by unfold wdhigh; rw [if_neg h0, if_neg h1, if_neg h2, if_neg h3, if_neg h4, if_neg h5, if_pos h6])
    have b3 : (r == 65279) = false := beq_eq_false_iff_ne.2 h3
    obtain ⟨u6, v6⟩ := h6
    go_enter Tryd.func62, Tryd.ntmps62
    go_wp2_with (first | (go_at_call 85; (first | refine (wdin_yes _ _ _ _ (by omega)).mono ?_ | refine (wdin_no _ _ _ _ (by omega)).mono ?_); rintro e w1 ⟨rfl, hw1⟩; obtain rfl := hw1.symm; clear hw1))
    go_ret
    exact ⟨by rw [HV.out]; rfl, rfl⟩
  by_cases h7 : 128000 ≤ r ∧ r ≤ 128591
  · have HV := hid (show wdhigh r = 19 by unfold wdhigh; rw [if_neg h0, if_neg h1, if_neg h2, if_neg h3, if_neg h4, if_neg h5, if_neg h6, if_pos h7])
    have b3 : (r == 65279) = false := beq_eq_false_iff_ne.2 h3
    obtain ⟨u7, v7⟩ := h7
    go_enter Tryd.func62, Tryd.ntmps62
    go_wp2_with (first | (go_at_call 85; (first | refine (wdin_yes _ _ _ _ (by omega)).mono ?_ | refine (wdin_no _ _ _ _ (by omega)).mono ?_); rintro e w1 ⟨rfl, hw1⟩; obtain rfl := hw1.symm; clear hw1))
    go_ret
    exact ⟨by rw [HV.out]; rfl, rfl⟩
  by_cases h8 : 128640 ≤ r ∧ r ≤ 128767
  · have HV := hid (show wdhigh r = 19 by unfold wdhigh; rw [if_neg h0, if_neg h1, if_neg h2, if_neg h3, if_neg h4, if_neg h5, if_neg h6, if_neg h7, if_pos h8])
    have b3 : (r == 65279) = false := beq_eq_false_iff_ne.2 h3
    obtain ⟨u8, v8⟩ := h8
    go_enter Tryd.func62, Tryd.ntmps62
    go_wp2_with (first | (go_at_call 85; (first | refine (wdin_yes _ _ _ _ (by omega)).mono ?_ | refine (wdin_no _ _ _ _ (by omega)).mono ?_); rintro e w1 ⟨rfl, hw1⟩; obtain rfl := hw1.symm; clear hw1))
    go_ret
    exact ⟨by rw [HV.out]; rfl, rfl⟩
  have HV := hid (show wdhigh r = 0 by unfold wdhigh; rw [if_neg h0, if_neg h1, if_neg h2, if_neg h3, if_neg h4, if_neg h5, if_neg h6, if_neg h7, if_neg h8])
  have b3 : (r == 65279) = false := beq_eq_false_iff_ne.2 h3
  go_enter Tryd.func62, Tryd.ntmps62
  go_wp2_with (first | (go_at_call 85; (first | refine (wdin_yes _ _ _ _ (by omega)).mono ?_ | refine (wdin_no _ _ _ _ (by omega)).mono ?_); rintro e w1 ⟨rfl, hw1⟩; obtain rfl := hw1.symm; clear hw1))
  go_ret
  exact ⟨by rw [HV.out]; rfl, rfl⟩
def wdcls (r : Int) : Int :=
  if r < 128 then wdascii r else if r < 768 then wdlatin r else if r < 8192 then wdscripts r else if r < 8448 then wdpunct r else if r < 44032 then wdasian r else if r ≤ 55203 then 10 else wdhigh r
theorem wdcls_any (r : Int) (w : World) : Calls Tryd.prog 35 #[.int .i32 r] w fun e w' => e = .returned (.int .i64 (wdcls r)) ∧ w' = w := by
  by_cases h0 : r < 128
  · have HV := hid (show wdcls r = wdascii r by unfold wdcls; rw [if_pos h0])
    go_enter Tryd.func35, Tryd.ntmps35
    go_wp2_with fail
    refine (wdascii_any r w).mono ?_
    rintro e w1 ⟨rfl, hw1⟩
    obtain rfl := hw1.symm
    clear hw1
    go_wp2
    go_ret
    exact ⟨by rw [HV.out]; rfl, rfl⟩
  by_cases h1 : r < 768
  · have HV := hid (show wdcls r = wdlatin r by unfold wdcls; rw [if_neg h0, if_pos h1])
    go_enter Tryd.func35, Tryd.ntmps35
    go_wp2_with fail
    refine (wdlatin_any r w).mono ?_
    rintro e w1 ⟨rfl, hw1⟩
    obtain rfl := hw1.symm
    clear hw1
    go_wp2
    go_ret
    exact ⟨by rw [HV.out]; rfl, rfl⟩
  by_cases h2 : r < 8192
  · have HV := hid (show wdcls r = wdscripts r by unfold wdcls; rw [if_neg h0, if_neg h1, if_pos h2])
    go_enter Tryd.func35, Tryd.ntmps35
    go_wp2_with fail
    refine (wdscripts_any r w).mono ?_
    rintro e w1 ⟨rfl, hw1⟩
    obtain rfl := hw1.symm
    clear hw1
    go_wp2
    go_ret
    exact ⟨by rw [HV.out]; rfl, rfl⟩
  by_cases h3 : r < 8448
  · have HV := hid (show wdcls r = wdpunct r by unfold wdcls; rw [if_neg h0, if_neg h1, if_neg h2, if_pos h3])
    go_enter Tryd.func35, Tryd.ntmps35
    go_wp2_with fail
    refine (wdpunct_any r w).mono ?_
    rintro e w1 ⟨rfl, hw1⟩
    obtain rfl := hw1.symm
    clear hw1
    go_wp2
    go_ret
    exact ⟨by rw [HV.out]; rfl, rfl⟩
  by_cases h4 : r < 44032
  · have HV := hid (show wdcls r = wdasian r by unfold wdcls; rw [if_neg h0, if_neg h1, if_neg h2, if_neg h3, if_pos h4])
    go_enter Tryd.func35, Tryd.ntmps35
    go_wp2_with fail
    refine (wdasian_any r w).mono ?_
    rintro e w1 ⟨rfl, hw1⟩
    obtain rfl := hw1.symm
    clear hw1
    go_wp2
    go_ret
    exact ⟨by rw [HV.out]; rfl, rfl⟩
  by_cases h5 : r ≤ 55203
  · have HV := hid (show wdcls r = 10 by unfold wdcls; rw [if_neg h0, if_neg h1, if_neg h2, if_neg h3, if_neg h4, if_pos h5])
    go_enter Tryd.func35, Tryd.ntmps35
    go_wp2
    go_ret
    exact ⟨by rw [HV.out]; rfl, rfl⟩
  have HV := hid (show wdcls r = wdhigh r by unfold wdcls; rw [if_neg h0, if_neg h1, if_neg h2, if_neg h3, if_neg h4, if_neg h5])
  go_enter Tryd.func35, Tryd.ntmps35
  go_wp2_with fail
  refine (wdhigh_any r w).mono ?_
  rintro e w1 ⟨rfl, hw1⟩
  obtain rfl := hw1.symm
  clear hw1
  go_wp2
  go_ret
  exact ⟨by rw [HV.out]; rfl, rfl⟩
end Go.Proofs.YtkophiklkgefnaaDoor
