/- The classes of runes to lines (package line): in, ascii, latin, scripts, punctuation, kana, high and classOf. -/
import Derived.Test.YtkophiklkgefnaaDoorBase
namespace Go.Proofs.YtkophiklkgefnaaDoor
open Go.RowKit

theorem lnin_yes (r lo hi : Int) (w : World) (h : lo ≤ r ∧ r ≤ hi) : Calls Tryd.prog 125 #[.int .i32 r, .int .i32 lo, .int .i32 hi] w fun e w' => e = .returned (.bool true) ∧ w' = w := by
  obtain ⟨h1, h2⟩ := h
  go_enter Tryd.func125, Tryd.ntmps125
  go_wp2
  go_ret
  exact ⟨rfl, rfl⟩
theorem lnin_no (r lo hi : Int) (w : World) (h : ¬ (lo ≤ r ∧ r ≤ hi)) : Calls Tryd.prog 125 #[.int .i32 r, .int .i32 lo, .int .i32 hi] w fun e w' => e = .returned (.bool false) ∧ w' = w := by
  by_cases h1 : lo ≤ r
  · have h2 : ¬ r ≤ hi := fun h2 => h ⟨h1, h2⟩
    clear h
    go_enter Tryd.func125, Tryd.ntmps125
    go_wp2
    go_ret
    exact ⟨rfl, rfl⟩
  · clear h
    go_enter Tryd.func125, Tryd.ntmps125
    go_wp2
    go_ret
    exact ⟨rfl, rfl⟩
def lnascii (r : Int) : Int :=
  if 48 ≤ r ∧ r ≤ 57 then 20 else if r = 11 then 1 else if r = 12 then 1 else if r = 13 then 2 else if r = 10 then 3 else if r = 32 then 4 else if r = 9 then 17 else if r = 40 then 9 else if r = 91 then 9 else if r = 123 then 9 else if r = 41 then 10 else if r = 93 then 10 else if r = 125 then 11 else if r = 34 then 12 else if r = 39 then 12 else if r = 33 then 13 else if r = 63 then 13 else if r = 44 then 14 else if r = 46 then 14 else if r = 58 then 14 else if r = 59 then 14 else if r = 47 then 15 else if r = 45 then 16 else if r = 37 then 21 else if r = 36 then 22 else if r = 43 then 22 else if r = 92 then 22 else 0
set_option maxHeartbeats 4000000 in
theorem lnascii_any (r : Int) (w : World) : Calls Tryd.prog 114 #[.int .i32 r] w fun e w' => e = .returned (.int .i64 (lnascii r)) ∧ w' = w := by
  by_cases h0 : 48 ≤ r ∧ r ≤ 57
  · have HV := hid (show lnascii r = 20 by unfold lnascii; rw [if_pos h0])
    obtain ⟨u0, v0⟩ := h0
    go_enter Tryd.func114, Tryd.ntmps114
    go_wp2_with (first | (go_at_call 125; (first | refine (lnin_yes _ _ _ _ (by omega)).mono ?_ | refine (lnin_no _ _ _ _ (by omega)).mono ?_); rintro e w1 ⟨rfl, hw1⟩; obtain rfl := hw1.symm; clear hw1))
    go_ret
    exact ⟨by rw [HV.out]; rfl, rfl⟩
  by_cases h1 : r = 11
  · subst h1
    have HV := hid (show lnascii 11 = 1 by decide)
    clear h0
    go_enter Tryd.func114, Tryd.ntmps114
    go_wp2_with (first | (go_at_call 125; (first | refine (lnin_yes _ _ _ _ (by omega)).mono ?_ | refine (lnin_no _ _ _ _ (by omega)).mono ?_); rintro e w1 ⟨rfl, hw1⟩; obtain rfl := hw1.symm; clear hw1))
    go_ret
    exact ⟨by rw [HV.out]; rfl, rfl⟩
  by_cases h2 : r = 12
  · subst h2
    have HV := hid (show lnascii 12 = 1 by decide)
    clear h0 h1
    go_enter Tryd.func114, Tryd.ntmps114
    go_wp2_with (first | (go_at_call 125; (first | refine (lnin_yes _ _ _ _ (by omega)).mono ?_ | refine (lnin_no _ _ _ _ (by omega)).mono ?_); rintro e w1 ⟨rfl, hw1⟩; obtain rfl := hw1.symm; clear hw1))
    go_ret
    exact ⟨by rw [HV.out]; rfl, rfl⟩
  by_cases h3 : r = 13
  · subst h3
    have HV := hid (show lnascii 13 = 2 by decide)
    clear h0 h1 h2
    go_enter Tryd.func114, Tryd.ntmps114
    go_wp2_with (first | (go_at_call 125; (first | refine (lnin_yes _ _ _ _ (by omega)).mono ?_ | refine (lnin_no _ _ _ _ (by omega)).mono ?_); rintro e w1 ⟨rfl, hw1⟩; obtain rfl := hw1.symm; clear hw1))
    go_ret
    exact ⟨by rw [HV.out]; rfl, rfl⟩
  by_cases h4 : r = 10
  · subst h4
    have HV := hid (show lnascii 10 = 3 by decide)
    clear h0 h1 h2 h3
    go_enter Tryd.func114, Tryd.ntmps114
    go_wp2_with (first | (go_at_call 125; (first | refine (lnin_yes _ _ _ _ (by omega)).mono ?_ | refine (lnin_no _ _ _ _ (by omega)).mono ?_); rintro e w1 ⟨rfl, hw1⟩; obtain rfl := hw1.symm; clear hw1))
    go_ret
    exact ⟨by rw [HV.out]; rfl, rfl⟩
  by_cases h5 : r = 32
  · subst h5
    have HV := hid (show lnascii 32 = 4 by decide)
    clear h0 h1 h2 h3 h4
    go_enter Tryd.func114, Tryd.ntmps114
    go_wp2_with (first | (go_at_call 125; (first | refine (lnin_yes _ _ _ _ (by omega)).mono ?_ | refine (lnin_no _ _ _ _ (by omega)).mono ?_); rintro e w1 ⟨rfl, hw1⟩; obtain rfl := hw1.symm; clear hw1))
    go_ret
    exact ⟨by rw [HV.out]; rfl, rfl⟩
  by_cases h6 : r = 9
  · subst h6
    have HV := hid (show lnascii 9 = 17 by decide)
    clear h0 h1 h2 h3 h4 h5
    go_enter Tryd.func114, Tryd.ntmps114
    go_wp2_with (first | (go_at_call 125; (first | refine (lnin_yes _ _ _ _ (by omega)).mono ?_ | refine (lnin_no _ _ _ _ (by omega)).mono ?_); rintro e w1 ⟨rfl, hw1⟩; obtain rfl := hw1.symm; clear hw1))
    go_ret
    exact ⟨by rw [HV.out]; rfl, rfl⟩
  by_cases h7 : r = 40
  · subst h7
    have HV := hid (show lnascii 40 = 9 by decide)
    clear h0 h1 h2 h3 h4 h5 h6
    go_enter Tryd.func114, Tryd.ntmps114
    go_wp2_with (first | (go_at_call 125; (first | refine (lnin_yes _ _ _ _ (by omega)).mono ?_ | refine (lnin_no _ _ _ _ (by omega)).mono ?_); rintro e w1 ⟨rfl, hw1⟩; obtain rfl := hw1.symm; clear hw1))
    go_ret
    exact ⟨by rw [HV.out]; rfl, rfl⟩
  by_cases h8 : r = 91
  · subst h8
    have HV := hid (show lnascii 91 = 9 by decide)
    clear h0 h1 h2 h3 h4 h5 h6 h7
    go_enter Tryd.func114, Tryd.ntmps114
    go_wp2_with (first | (go_at_call 125; (first | refine (lnin_yes _ _ _ _ (by omega)).mono ?_ | refine (lnin_no _ _ _ _ (by omega)).mono ?_); rintro e w1 ⟨rfl, hw1⟩; obtain rfl := hw1.symm; clear hw1))
    go_ret
    exact ⟨by rw [HV.out]; rfl, rfl⟩
  by_cases h9 : r = 123
  · subst h9
    have HV := hid (show lnascii 123 = 9 by decide)
    clear h0 h1 h2 h3 h4 h5 h6 h7 h8
    go_enter Tryd.func114, Tryd.ntmps114
    go_wp2_with (first | (go_at_call 125; (first | refine (lnin_yes _ _ _ _ (by omega)).mono ?_ | refine (lnin_no _ _ _ _ (by omega)).mono ?_); rintro e w1 ⟨rfl, hw1⟩; obtain rfl := hw1.symm; clear hw1))
    go_ret
    exact ⟨by rw [HV.out]; rfl, rfl⟩
  by_cases h10 : r = 41
  · subst h10
    have HV := hid (show lnascii 41 = 10 by decide)
    clear h0 h1 h2 h3 h4 h5 h6 h7 h8 h9
    go_enter Tryd.func114, Tryd.ntmps114
    go_wp2_with (first | (go_at_call 125; (first | refine (lnin_yes _ _ _ _ (by omega)).mono ?_ | refine (lnin_no _ _ _ _ (by omega)).mono ?_); rintro e w1 ⟨rfl, hw1⟩; obtain rfl := hw1.symm; clear hw1))
    go_ret
    exact ⟨by rw [HV.out]; rfl, rfl⟩
  by_cases h11 : r = 93
  · subst h11
    have HV := hid (show lnascii 93 = 10 by decide)
    clear h0 h1 h2 h3 h4 h5 h6 h7 h8 h9 h10
    go_enter Tryd.func114, Tryd.ntmps114
    go_wp2_with (first | (go_at_call 125; (first | refine (lnin_yes _ _ _ _ (by omega)).mono ?_ | refine (lnin_no _ _ _ _ (by omega)).mono ?_); rintro e w1 ⟨rfl, hw1⟩; obtain rfl := hw1.symm; clear hw1))
    go_ret
    exact ⟨by rw [HV.out]; rfl, rfl⟩
  by_cases h12 : r = 125
  · subst h12
    have HV := hid (show lnascii 125 = 11 by decide)
    clear h0 h1 h2 h3 h4 h5 h6 h7 h8 h9 h10 h11
    go_enter Tryd.func114, Tryd.ntmps114
    go_wp2_with (first | (go_at_call 125; (first | refine (lnin_yes _ _ _ _ (by omega)).mono ?_ | refine (lnin_no _ _ _ _ (by omega)).mono ?_); rintro e w1 ⟨rfl, hw1⟩; obtain rfl := hw1.symm; clear hw1))
    go_ret
    exact ⟨by rw [HV.out]; rfl, rfl⟩
  by_cases h13 : r = 34
  · subst h13
    have HV := hid (show lnascii 34 = 12 by decide)
    clear h0 h1 h2 h3 h4 h5 h6 h7 h8 h9 h10 h11 h12
    go_enter Tryd.func114, Tryd.ntmps114
    go_wp2_with (first | (go_at_call 125; (first | refine (lnin_yes _ _ _ _ (by omega)).mono ?_ | refine (lnin_no _ _ _ _ (by omega)).mono ?_); rintro e w1 ⟨rfl, hw1⟩; obtain rfl := hw1.symm; clear hw1))
    go_ret
    exact ⟨by rw [HV.out]; rfl, rfl⟩
  by_cases h14 : r = 39
  · subst h14
    have HV := hid (show lnascii 39 = 12 by decide)
    clear h0 h1 h2 h3 h4 h5 h6 h7 h8 h9 h10 h11 h12 h13
    go_enter Tryd.func114, Tryd.ntmps114
    go_wp2_with (first | (go_at_call 125; (first | refine (lnin_yes _ _ _ _ (by omega)).mono ?_ | refine (lnin_no _ _ _ _ (by omega)).mono ?_); rintro e w1 ⟨rfl, hw1⟩; obtain rfl := hw1.symm; clear hw1))
    go_ret
    exact ⟨by rw [HV.out]; rfl, rfl⟩
  by_cases h15 : r = 33
  · subst h15
    have HV := hid (show lnascii 33 = 13 by decide)
    clear h0 h1 h2 h3 h4 h5 h6 h7 h8 h9 h10 h11 h12 h13 h14
    go_enter Tryd.func114, Tryd.ntmps114
    go_wp2_with (first | (go_at_call 125; (first | refine (lnin_yes _ _ _ _ (by omega)).mono ?_ | refine (lnin_no _ _ _ _ (by omega)).mono ?_); rintro e w1 ⟨rfl, hw1⟩; obtain rfl := hw1.symm; clear hw1))
    go_ret
    exact ⟨by rw [HV.out]; rfl, rfl⟩
  by_cases h16 : r = 63
  · subst h16
    have HV := hid (show lnascii 63 = 13 by decide)
    clear h0 h1 h2 h3 h4 h5 h6 h7 h8 h9 h10 h11 h12 h13 h14 h15
    go_enter Tryd.func114, Tryd.ntmps114
    go_wp2_with (first | (go_at_call 125; (first | refine (lnin_yes _ _ _ _ (by omega)).mono ?_ | refine (lnin_no _ _ _ _ (by omega)).mono ?_); rintro e w1 ⟨rfl, hw1⟩; obtain rfl := hw1.symm; clear hw1))
    go_ret
    exact ⟨by rw [HV.out]; rfl, rfl⟩
  by_cases h17 : r = 44
  · subst h17
    have HV := hid (show lnascii 44 = 14 by decide)
    clear h0 h1 h2 h3 h4 h5 h6 h7 h8 h9 h10 h11 h12 h13 h14 h15 h16
    go_enter Tryd.func114, Tryd.ntmps114
    go_wp2_with (first | (go_at_call 125; (first | refine (lnin_yes _ _ _ _ (by omega)).mono ?_ | refine (lnin_no _ _ _ _ (by omega)).mono ?_); rintro e w1 ⟨rfl, hw1⟩; obtain rfl := hw1.symm; clear hw1))
    go_ret
    exact ⟨by rw [HV.out]; rfl, rfl⟩
  by_cases h18 : r = 46
  · subst h18
    have HV := hid (show lnascii 46 = 14 by decide)
    clear h0 h1 h2 h3 h4 h5 h6 h7 h8 h9 h10 h11 h12 h13 h14 h15 h16 h17
    go_enter Tryd.func114, Tryd.ntmps114
    go_wp2_with (first | (go_at_call 125; (first | refine (lnin_yes _ _ _ _ (by omega)).mono ?_ | refine (lnin_no _ _ _ _ (by omega)).mono ?_); rintro e w1 ⟨rfl, hw1⟩; obtain rfl := hw1.symm; clear hw1))
    go_ret
    exact ⟨by rw [HV.out]; rfl, rfl⟩
  by_cases h19 : r = 58
  · subst h19
    have HV := hid (show lnascii 58 = 14 by decide)
    clear h0 h1 h2 h3 h4 h5 h6 h7 h8 h9 h10 h11 h12 h13 h14 h15 h16 h17 h18
    go_enter Tryd.func114, Tryd.ntmps114
    go_wp2_with (first | (go_at_call 125; (first | refine (lnin_yes _ _ _ _ (by omega)).mono ?_ | refine (lnin_no _ _ _ _ (by omega)).mono ?_); rintro e w1 ⟨rfl, hw1⟩; obtain rfl := hw1.symm; clear hw1))
    go_ret
    exact ⟨by rw [HV.out]; rfl, rfl⟩
  by_cases h20 : r = 59
  · subst h20
    have HV := hid (show lnascii 59 = 14 by decide)
    clear h0 h1 h2 h3 h4 h5 h6 h7 h8 h9 h10 h11 h12 h13 h14 h15 h16 h17 h18 h19
    go_enter Tryd.func114, Tryd.ntmps114
    go_wp2_with (first | (go_at_call 125; (first | refine (lnin_yes _ _ _ _ (by omega)).mono ?_ | refine (lnin_no _ _ _ _ (by omega)).mono ?_); rintro e w1 ⟨rfl, hw1⟩; obtain rfl := hw1.symm; clear hw1))
    go_ret
    exact ⟨by rw [HV.out]; rfl, rfl⟩
  by_cases h21 : r = 47
  · subst h21
    have HV := hid (show lnascii 47 = 15 by decide)
    clear h0 h1 h2 h3 h4 h5 h6 h7 h8 h9 h10 h11 h12 h13 h14 h15 h16 h17 h18 h19 h20
    go_enter Tryd.func114, Tryd.ntmps114
    go_wp2_with (first | (go_at_call 125; (first | refine (lnin_yes _ _ _ _ (by omega)).mono ?_ | refine (lnin_no _ _ _ _ (by omega)).mono ?_); rintro e w1 ⟨rfl, hw1⟩; obtain rfl := hw1.symm; clear hw1))
    go_ret
    exact ⟨by rw [HV.out]; rfl, rfl⟩
  by_cases h22 : r = 45
  · subst h22
    have HV := hid (show lnascii 45 = 16 by decide)
    clear h0 h1 h2 h3 h4 h5 h6 h7 h8 h9 h10 h11 h12 h13 h14 h15 h16 h17 h18 h19 h20 h21
    go_enter Tryd.func114, Tryd.ntmps114
    go_wp2_with (first | (go_at_call 125; (first | refine (lnin_yes _ _ _ _ (by omega)).mono ?_ | refine (lnin_no _ _ _ _ (by omega)).mono ?_); rintro e w1 ⟨rfl, hw1⟩; obtain rfl := hw1.symm; clear hw1))
    go_ret
    exact ⟨by rw [HV.out]; rfl, rfl⟩
  by_cases h23 : r = 37
  · subst h23
    have HV := hid (show lnascii 37 = 21 by decide)
    clear h0 h1 h2 h3 h4 h5 h6 h7 h8 h9 h10 h11 h12 h13 h14 h15 h16 h17 h18 h19 h20 h21 h22
    go_enter Tryd.func114, Tryd.ntmps114
    go_wp2_with (first | (go_at_call 125; (first | refine (lnin_yes _ _ _ _ (by omega)).mono ?_ | refine (lnin_no _ _ _ _ (by omega)).mono ?_); rintro e w1 ⟨rfl, hw1⟩; obtain rfl := hw1.symm; clear hw1))
    go_ret
    exact ⟨by rw [HV.out]; rfl, rfl⟩
  by_cases h24 : r = 36
  · subst h24
    have HV := hid (show lnascii 36 = 22 by decide)
    clear h0 h1 h2 h3 h4 h5 h6 h7 h8 h9 h10 h11 h12 h13 h14 h15 h16 h17 h18 h19 h20 h21 h22 h23
    go_enter Tryd.func114, Tryd.ntmps114
    go_wp2_with (first | (go_at_call 125; (first | refine (lnin_yes _ _ _ _ (by omega)).mono ?_ | refine (lnin_no _ _ _ _ (by omega)).mono ?_); rintro e w1 ⟨rfl, hw1⟩; obtain rfl := hw1.symm; clear hw1))
    go_ret
    exact ⟨by rw [HV.out]; rfl, rfl⟩
  by_cases h25 : r = 43
  · subst h25
    have HV := hid (show lnascii 43 = 22 by decide)
    clear h0 h1 h2 h3 h4 h5 h6 h7 h8 h9 h10 h11 h12 h13 h14 h15 h16 h17 h18 h19 h20 h21 h22 h23 h24
    go_enter Tryd.func114, Tryd.ntmps114
    go_wp2_with (first | (go_at_call 125; (first | refine (lnin_yes _ _ _ _ (by omega)).mono ?_ | refine (lnin_no _ _ _ _ (by omega)).mono ?_); rintro e w1 ⟨rfl, hw1⟩; obtain rfl := hw1.symm; clear hw1))
    go_ret
    exact ⟨by rw [HV.out]; rfl, rfl⟩
  by_cases h26 : r = 92
  · subst h26
    have HV := hid (show lnascii 92 = 22 by decide)
    clear h0 h1 h2 h3 h4 h5 h6 h7 h8 h9 h10 h11 h12 h13 h14 h15 h16 h17 h18 h19 h20 h21 h22 h23 h24 h25
    go_enter Tryd.func114, Tryd.ntmps114
    go_wp2_with (first | (go_at_call 125; (first | refine (lnin_yes _ _ _ _ (by omega)).mono ?_ | refine (lnin_no _ _ _ _ (by omega)).mono ?_); rintro e w1 ⟨rfl, hw1⟩; obtain rfl := hw1.symm; clear hw1))
    go_ret
    exact ⟨by rw [HV.out]; rfl, rfl⟩
  have HV := hid (show lnascii r = 0 by unfold lnascii; rw [if_neg h0, if_neg h1, if_neg h2, if_neg h3, if_neg h4, if_neg h5, if_neg h6, if_neg h7, if_neg h8, if_neg h9, if_neg h10, if_neg h11, if_neg h12, if_neg h13, if_neg h14, if_neg h15, if_neg h16, if_neg h17, if_neg h18, if_neg h19, if_neg h20, if_neg h21, if_neg h22, if_neg h23, if_neg h24, if_neg h25, if_neg h26])
  have b1 : (r == 11) = false := beq_eq_false_iff_ne.2 h1
  have b2 : (r == 12) = false := beq_eq_false_iff_ne.2 h2
  have b3 : (r == 13) = false := beq_eq_false_iff_ne.2 h3
  have b4 : (r == 10) = false := beq_eq_false_iff_ne.2 h4
  have b5 : (r == 32) = false := beq_eq_false_iff_ne.2 h5
  have b6 : (r == 9) = false := beq_eq_false_iff_ne.2 h6
  have b7 : (r == 40) = false := beq_eq_false_iff_ne.2 h7
  have b8 : (r == 91) = false := beq_eq_false_iff_ne.2 h8
  have b9 : (r == 123) = false := beq_eq_false_iff_ne.2 h9
  have b10 : (r == 41) = false := beq_eq_false_iff_ne.2 h10
  have b11 : (r == 93) = false := beq_eq_false_iff_ne.2 h11
  have b12 : (r == 125) = false := beq_eq_false_iff_ne.2 h12
  have b13 : (r == 34) = false := beq_eq_false_iff_ne.2 h13
  have b14 : (r == 39) = false := beq_eq_false_iff_ne.2 h14
  have b15 : (r == 33) = false := beq_eq_false_iff_ne.2 h15
  have b16 : (r == 63) = false := beq_eq_false_iff_ne.2 h16
  have b17 : (r == 44) = false := beq_eq_false_iff_ne.2 h17
  have b18 : (r == 46) = false := beq_eq_false_iff_ne.2 h18
  have b19 : (r == 58) = false := beq_eq_false_iff_ne.2 h19
  have b20 : (r == 59) = false := beq_eq_false_iff_ne.2 h20
  have b21 : (r == 47) = false := beq_eq_false_iff_ne.2 h21
  have b22 : (r == 45) = false := beq_eq_false_iff_ne.2 h22
  have b23 : (r == 37) = false := beq_eq_false_iff_ne.2 h23
  have b24 : (r == 36) = false := beq_eq_false_iff_ne.2 h24
  have b25 : (r == 43) = false := beq_eq_false_iff_ne.2 h25
  have b26 : (r == 92) = false := beq_eq_false_iff_ne.2 h26
  go_enter Tryd.func114, Tryd.ntmps114
  go_wp2_with (first | (go_at_call 125; (first | refine (lnin_yes _ _ _ _ (by omega)).mono ?_ | refine (lnin_no _ _ _ _ (by omega)).mono ?_); rintro e w1 ⟨rfl, hw1⟩; obtain rfl := hw1.symm; clear hw1))
  go_ret
  exact ⟨by rw [HV.out]; rfl, rfl⟩
def lnlatin (r : Int) : Int :=
  if r = 133 then 1 else if r = 160 then 7 else if r = 161 then 9 else if r = 191 then 9 else if r = 162 then 21 else if r = 176 then 21 else if r = 163 then 22 else if r = 164 then 22 else if r = 165 then 22 else if r = 177 then 22 else if r = 171 then 12 else if r = 187 then 12 else if r = 173 then 17 else 0
set_option maxHeartbeats 4000000 in
theorem lnlatin_any (r : Int) (w : World) : Calls Tryd.prog 115 #[.int .i32 r] w fun e w' => e = .returned (.int .i64 (lnlatin r)) ∧ w' = w := by
  by_cases h0 : r = 133
  · subst h0
    have HV := hid (show lnlatin 133 = 1 by decide)
    skip
    go_enter Tryd.func115, Tryd.ntmps115
    go_wp2_with (first | (go_at_call 125; (first | refine (lnin_yes _ _ _ _ (by omega)).mono ?_ | refine (lnin_no _ _ _ _ (by omega)).mono ?_); rintro e w1 ⟨rfl, hw1⟩; obtain rfl := hw1.symm; clear hw1))
    go_ret
    exact ⟨by rw [HV.out]; rfl, rfl⟩
  by_cases h1 : r = 160
  · subst h1
    have HV := hid (show lnlatin 160 = 7 by decide)
    clear h0
    go_enter Tryd.func115, Tryd.ntmps115
    go_wp2_with (first | (go_at_call 125; (first | refine (lnin_yes _ _ _ _ (by omega)).mono ?_ | refine (lnin_no _ _ _ _ (by omega)).mono ?_); rintro e w1 ⟨rfl, hw1⟩; obtain rfl := hw1.symm; clear hw1))
    go_ret
    exact ⟨by rw [HV.out]; rfl, rfl⟩
  by_cases h2 : r = 161
  · subst h2
    have HV := hid (show lnlatin 161 = 9 by decide)
    clear h0 h1
    go_enter Tryd.func115, Tryd.ntmps115
    go_wp2_with (first | (go_at_call 125; (first | refine (lnin_yes _ _ _ _ (by omega)).mono ?_ | refine (lnin_no _ _ _ _ (by omega)).mono ?_); rintro e w1 ⟨rfl, hw1⟩; obtain rfl := hw1.symm; clear hw1))
    go_ret
    exact ⟨by rw [HV.out]; rfl, rfl⟩
  by_cases h3 : r = 191
  · subst h3
    have HV := hid (show lnlatin 191 = 9 by decide)
    clear h0 h1 h2
    go_enter Tryd.func115, Tryd.ntmps115
    go_wp2_with (first | (go_at_call 125; (first | refine (lnin_yes _ _ _ _ (by omega)).mono ?_ | refine (lnin_no _ _ _ _ (by omega)).mono ?_); rintro e w1 ⟨rfl, hw1⟩; obtain rfl := hw1.symm; clear hw1))
    go_ret
    exact ⟨by rw [HV.out]; rfl, rfl⟩
  by_cases h4 : r = 162
  · subst h4
    have HV := hid (show lnlatin 162 = 21 by decide)
    clear h0 h1 h2 h3
    go_enter Tryd.func115, Tryd.ntmps115
    go_wp2_with (first | (go_at_call 125; (first | refine (lnin_yes _ _ _ _ (by omega)).mono ?_ | refine (lnin_no _ _ _ _ (by omega)).mono ?_); rintro e w1 ⟨rfl, hw1⟩; obtain rfl := hw1.symm; clear hw1))
    go_ret
    exact ⟨by rw [HV.out]; rfl, rfl⟩
  by_cases h5 : r = 176
  · subst h5
    have HV := hid (show lnlatin 176 = 21 by decide)
    clear h0 h1 h2 h3 h4
    go_enter Tryd.func115, Tryd.ntmps115
    go_wp2_with (first | (go_at_call 125; (first | refine (lnin_yes _ _ _ _ (by omega)).mono ?_ | refine (lnin_no _ _ _ _ (by omega)).mono ?_); rintro e w1 ⟨rfl, hw1⟩; obtain rfl := hw1.symm; clear hw1))
    go_ret
    exact ⟨by rw [HV.out]; rfl, rfl⟩
  by_cases h6 : r = 163
  · subst h6
    have HV := hid (show lnlatin 163 = 22 by decide)
    clear h0 h1 h2 h3 h4 h5
    go_enter Tryd.func115, Tryd.ntmps115
    go_wp2_with (first | (go_at_call 125; (first | refine (lnin_yes _ _ _ _ (by omega)).mono ?_ | refine (lnin_no _ _ _ _ (by omega)).mono ?_); rintro e w1 ⟨rfl, hw1⟩; obtain rfl := hw1.symm; clear hw1))
    go_ret
    exact ⟨by rw [HV.out]; rfl, rfl⟩
  by_cases h7 : r = 164
  · subst h7
    have HV := hid (show lnlatin 164 = 22 by decide)
    clear h0 h1 h2 h3 h4 h5 h6
    go_enter Tryd.func115, Tryd.ntmps115
    go_wp2_with (first | (go_at_call 125; (first | refine (lnin_yes _ _ _ _ (by omega)).mono ?_ | refine (lnin_no _ _ _ _ (by omega)).mono ?_); rintro e w1 ⟨rfl, hw1⟩; obtain rfl := hw1.symm; clear hw1))
    go_ret
    exact ⟨by rw [HV.out]; rfl, rfl⟩
  by_cases h8 : r = 165
  · subst h8
    have HV := hid (show lnlatin 165 = 22 by decide)
    clear h0 h1 h2 h3 h4 h5 h6 h7
    go_enter Tryd.func115, Tryd.ntmps115
    go_wp2_with (first | (go_at_call 125; (first | refine (lnin_yes _ _ _ _ (by omega)).mono ?_ | refine (lnin_no _ _ _ _ (by omega)).mono ?_); rintro e w1 ⟨rfl, hw1⟩; obtain rfl := hw1.symm; clear hw1))
    go_ret
    exact ⟨by rw [HV.out]; rfl, rfl⟩
  by_cases h9 : r = 177
  · subst h9
    have HV := hid (show lnlatin 177 = 22 by decide)
    clear h0 h1 h2 h3 h4 h5 h6 h7 h8
    go_enter Tryd.func115, Tryd.ntmps115
    go_wp2_with (first | (go_at_call 125; (first | refine (lnin_yes _ _ _ _ (by omega)).mono ?_ | refine (lnin_no _ _ _ _ (by omega)).mono ?_); rintro e w1 ⟨rfl, hw1⟩; obtain rfl := hw1.symm; clear hw1))
    go_ret
    exact ⟨by rw [HV.out]; rfl, rfl⟩
  by_cases h10 : r = 171
  · subst h10
    have HV := hid (show lnlatin 171 = 12 by decide)
    clear h0 h1 h2 h3 h4 h5 h6 h7 h8 h9
    go_enter Tryd.func115, Tryd.ntmps115
    go_wp2_with (first | (go_at_call 125; (first | refine (lnin_yes _ _ _ _ (by omega)).mono ?_ | refine (lnin_no _ _ _ _ (by omega)).mono ?_); rintro e w1 ⟨rfl, hw1⟩; obtain rfl := hw1.symm; clear hw1))
    go_ret
    exact ⟨by rw [HV.out]; rfl, rfl⟩
  by_cases h11 : r = 187
  · subst h11
    have HV := hid (show lnlatin 187 = 12 by decide)
    clear h0 h1 h2 h3 h4 h5 h6 h7 h8 h9 h10
    go_enter Tryd.func115, Tryd.ntmps115
    go_wp2_with (first | (go_at_call 125; (first | refine (lnin_yes _ _ _ _ (by omega)).mono ?_ | refine (lnin_no _ _ _ _ (by omega)).mono ?_); rintro e w1 ⟨rfl, hw1⟩; obtain rfl := hw1.symm; clear hw1))
    go_ret
    exact ⟨by rw [HV.out]; rfl, rfl⟩
  by_cases h12 : r = 173
  · subst h12
    have HV := hid (show lnlatin 173 = 17 by decide)
    clear h0 h1 h2 h3 h4 h5 h6 h7 h8 h9 h10 h11
    go_enter Tryd.func115, Tryd.ntmps115
    go_wp2_with (first | (go_at_call 125; (first | refine (lnin_yes _ _ _ _ (by omega)).mono ?_ | refine (lnin_no _ _ _ _ (by omega)).mono ?_); rintro e w1 ⟨rfl, hw1⟩; obtain rfl := hw1.symm; clear hw1))
    go_ret
    exact ⟨by rw [HV.out]; rfl, rfl⟩
  have HV := hid (show lnlatin r = 0 by unfold lnlatin; rw [if_neg h0, if_neg h1, if_neg h2, if_neg h3, if_neg h4, if_neg h5, if_neg h6, if_neg h7, if_neg h8, if_neg h9, if_neg h10, if_neg h11, if_neg h12])
  have b0 : (r == 133) = false := beq_eq_false_iff_ne.2 h0
  have b1 : (r == 160) = false := beq_eq_false_iff_ne.2 h1
  have b2 : (r == 161) = false := beq_eq_false_iff_ne.2 h2
  have b3 : (r == 191) = false := beq_eq_false_iff_ne.2 h3
  have b4 : (r == 162) = false := beq_eq_false_iff_ne.2 h4
  have b5 : (r == 176) = false := beq_eq_false_iff_ne.2 h5
  have b6 : (r == 163) = false := beq_eq_false_iff_ne.2 h6
  have b7 : (r == 164) = false := beq_eq_false_iff_ne.2 h7
  have b8 : (r == 165) = false := beq_eq_false_iff_ne.2 h8
  have b9 : (r == 177) = false := beq_eq_false_iff_ne.2 h9
  have b10 : (r == 171) = false := beq_eq_false_iff_ne.2 h10
  have b11 : (r == 187) = false := beq_eq_false_iff_ne.2 h11
  have b12 : (r == 173) = false := beq_eq_false_iff_ne.2 h12
  go_enter Tryd.func115, Tryd.ntmps115
  go_wp2_with (first | (go_at_call 125; (first | refine (lnin_yes _ _ _ _ (by omega)).mono ?_ | refine (lnin_no _ _ _ _ (by omega)).mono ?_); rintro e w1 ⟨rfl, hw1⟩; obtain rfl := hw1.symm; clear hw1))
  go_ret
  exact ⟨by rw [HV.out]; rfl, rfl⟩
def lnscripts (r : Int) : Int :=
  if r ≤ 879 then 8 else if 1425 ≤ r ∧ r ≤ 1469 then 8 else if 1632 ≤ r ∧ r ≤ 1641 then 20 else 0
set_option maxHeartbeats 4000000 in
theorem lnscripts_any (r : Int) (w : World) : Calls Tryd.prog 116 #[.int .i32 r] w fun e w' => e = .returned (.int .i64 (lnscripts r)) ∧ w' = w := by
  by_cases h0 : r ≤ 879
  · have HV := hid (show lnscripts r = 8 by unfold lnscripts; rw [if_pos h0])
    go_enter Tryd.func116, Tryd.ntmps116
    go_wp2_with (first | (go_at_call 125; (first | refine (lnin_yes _ _ _ _ (by omega)).mono ?_ | refine (lnin_no _ _ _ _ (by omega)).mono ?_); rintro e w1 ⟨rfl, hw1⟩; obtain rfl := hw1.symm; clear hw1))
    go_ret
    exact ⟨by rw [HV.out]; rfl, rfl⟩
  by_cases h1 : 1425 ≤ r ∧ r ≤ 1469
  · have HV := hid (show lnscripts r = 8 by unfold lnscripts; rw [if_neg h0, if_pos h1])
    obtain ⟨u1, v1⟩ := h1
    go_enter Tryd.func116, Tryd.ntmps116
    go_wp2_with (first | (go_at_call 125; (first | refine (lnin_yes _ _ _ _ (by omega)).mono ?_ | refine (lnin_no _ _ _ _ (by omega)).mono ?_); rintro e w1 ⟨rfl, hw1⟩; obtain rfl := hw1.symm; clear hw1))
    go_ret
    exact ⟨by rw [HV.out]; rfl, rfl⟩
  by_cases h2 : 1632 ≤ r ∧ r ≤ 1641
  · have HV := hid (show lnscripts r = 20 by unfold lnscripts; rw [if_neg h0, if_neg h1, if_pos h2])
    obtain ⟨u2, v2⟩ := h2
    go_enter Tryd.func116, Tryd.ntmps116
    go_wp2_with (first | (go_at_call 125; (first | refine (lnin_yes _ _ _ _ (by omega)).mono ?_ | refine (lnin_no _ _ _ _ (by omega)).mono ?_); rintro e w1 ⟨rfl, hw1⟩; obtain rfl := hw1.symm; clear hw1))
    go_ret
    exact ⟨by rw [HV.out]; rfl, rfl⟩
  have HV := hid (show lnscripts r = 0 by unfold lnscripts; rw [if_neg h0, if_neg h1, if_neg h2])
  go_enter Tryd.func116, Tryd.ntmps116
  go_wp2_with (first | (go_at_call 125; (first | refine (lnin_yes _ _ _ _ (by omega)).mono ?_ | refine (lnin_no _ _ _ _ (by omega)).mono ?_); rintro e w1 ⟨rfl, hw1⟩; obtain rfl := hw1.symm; clear hw1))
  go_ret
  exact ⟨by rw [HV.out]; rfl, rfl⟩
def lnpunct (r : Int) : Int :=
  if r = 8199 then 7 else if r = 8239 then 7 else if r = 8203 then 5 else if r = 8204 then 8 else if r = 8205 then 8 else if r = 8208 then 17 else if r = 8211 then 17 else if r = 8212 then 18 else if r = 8216 then 12 else if r = 8217 then 12 else if r = 8220 then 12 else if r = 8221 then 12 else if r = 8218 then 9 else if r = 8230 then 19 else if r = 8232 then 1 else if r = 8233 then 1 else if r = 8240 then 21 else if r = 8288 then 6 else if r = 8364 then 22 else 0
set_option maxHeartbeats 4000000 in
theorem lnpunct_any (r : Int) (w : World) : Calls Tryd.prog 117 #[.int .i32 r] w fun e w' => e = .returned (.int .i64 (lnpunct r)) ∧ w' = w := by
  by_cases h0 : r = 8199
  · subst h0
    have HV := hid (show lnpunct 8199 = 7 by decide)
    skip
    go_enter Tryd.func117, Tryd.ntmps117
    go_wp2_with (first | (go_at_call 125; (first | refine (lnin_yes _ _ _ _ (by omega)).mono ?_ | refine (lnin_no _ _ _ _ (by omega)).mono ?_); rintro e w1 ⟨rfl, hw1⟩; obtain rfl := hw1.symm; clear hw1))
    go_ret
    exact ⟨by rw [HV.out]; rfl, rfl⟩
  by_cases h1 : r = 8239
  · subst h1
    have HV := hid (show lnpunct 8239 = 7 by decide)
    clear h0
    go_enter Tryd.func117, Tryd.ntmps117
    go_wp2_with (first | (go_at_call 125; (first | refine (lnin_yes _ _ _ _ (by omega)).mono ?_ | refine (lnin_no _ _ _ _ (by omega)).mono ?_); rintro e w1 ⟨rfl, hw1⟩; obtain rfl := hw1.symm; clear hw1))
    go_ret
    exact ⟨by rw [HV.out]; rfl, rfl⟩
  by_cases h2 : r = 8203
  · subst h2
    have HV := hid (show lnpunct 8203 = 5 by decide)
    clear h0 h1
    go_enter Tryd.func117, Tryd.ntmps117
    go_wp2_with (first | (go_at_call 125; (first | refine (lnin_yes _ _ _ _ (by omega)).mono ?_ | refine (lnin_no _ _ _ _ (by omega)).mono ?_); rintro e w1 ⟨rfl, hw1⟩; obtain rfl := hw1.symm; clear hw1))
    go_ret
    exact ⟨by rw [HV.out]; rfl, rfl⟩
  by_cases h3 : r = 8204
  · subst h3
    have HV := hid (show lnpunct 8204 = 8 by decide)
    clear h0 h1 h2
    go_enter Tryd.func117, Tryd.ntmps117
    go_wp2_with (first | (go_at_call 125; (first | refine (lnin_yes _ _ _ _ (by omega)).mono ?_ | refine (lnin_no _ _ _ _ (by omega)).mono ?_); rintro e w1 ⟨rfl, hw1⟩; obtain rfl := hw1.symm; clear hw1))
    go_ret
    exact ⟨by rw [HV.out]; rfl, rfl⟩
  by_cases h4 : r = 8205
  · subst h4
    have HV := hid (show lnpunct 8205 = 8 by decide)
    clear h0 h1 h2 h3
    go_enter Tryd.func117, Tryd.ntmps117
    go_wp2_with (first | (go_at_call 125; (first | refine (lnin_yes _ _ _ _ (by omega)).mono ?_ | refine (lnin_no _ _ _ _ (by omega)).mono ?_); rintro e w1 ⟨rfl, hw1⟩; obtain rfl := hw1.symm; clear hw1))
    go_ret
    exact ⟨by rw [HV.out]; rfl, rfl⟩
  by_cases h5 : r = 8208
  · subst h5
    have HV := hid (show lnpunct 8208 = 17 by decide)
    clear h0 h1 h2 h3 h4
    go_enter Tryd.func117, Tryd.ntmps117
    go_wp2_with (first | (go_at_call 125; (first | refine (lnin_yes _ _ _ _ (by omega)).mono ?_ | refine (lnin_no _ _ _ _ (by omega)).mono ?_); rintro e w1 ⟨rfl, hw1⟩; obtain rfl := hw1.symm; clear hw1))
    go_ret
    exact ⟨by rw [HV.out]; rfl, rfl⟩
  by_cases h6 : r = 8211
  · subst h6
    have HV := hid (show lnpunct 8211 = 17 by decide)
    clear h0 h1 h2 h3 h4 h5
    go_enter Tryd.func117, Tryd.ntmps117
    go_wp2_with (first | (go_at_call 125; (first | refine (lnin_yes _ _ _ _ (by omega)).mono ?_ | refine (lnin_no _ _ _ _ (by omega)).mono ?_); rintro e w1 ⟨rfl, hw1⟩; obtain rfl := hw1.symm; clear hw1))
    go_ret
    exact ⟨by rw [HV.out]; rfl, rfl⟩
  by_cases h7 : r = 8212
  · subst h7
    have HV := hid (show lnpunct 8212 = 18 by decide)
    clear h0 h1 h2 h3 h4 h5 h6
    go_enter Tryd.func117, Tryd.ntmps117
    go_wp2_with (first | (go_at_call 125; (first | refine (lnin_yes _ _ _ _ (by omega)).mono ?_ | refine (lnin_no _ _ _ _ (by omega)).mono ?_); rintro e w1 ⟨rfl, hw1⟩; obtain rfl := hw1.symm; clear hw1))
    go_ret
    exact ⟨by rw [HV.out]; rfl, rfl⟩
  by_cases h8 : r = 8216
  · subst h8
    have HV := hid (show lnpunct 8216 = 12 by decide)
    clear h0 h1 h2 h3 h4 h5 h6 h7
    go_enter Tryd.func117, Tryd.ntmps117
    go_wp2_with (first | (go_at_call 125; (first | refine (lnin_yes _ _ _ _ (by omega)).mono ?_ | refine (lnin_no _ _ _ _ (by omega)).mono ?_); rintro e w1 ⟨rfl, hw1⟩; obtain rfl := hw1.symm; clear hw1))
    go_ret
    exact ⟨by rw [HV.out]; rfl, rfl⟩
  by_cases h9 : r = 8217
  · subst h9
    have HV := hid (show lnpunct 8217 = 12 by decide)
    clear h0 h1 h2 h3 h4 h5 h6 h7 h8
    go_enter Tryd.func117, Tryd.ntmps117
    go_wp2_with (first | (go_at_call 125; (first | refine (lnin_yes _ _ _ _ (by omega)).mono ?_ | refine (lnin_no _ _ _ _ (by omega)).mono ?_); rintro e w1 ⟨rfl, hw1⟩; obtain rfl := hw1.symm; clear hw1))
    go_ret
    exact ⟨by rw [HV.out]; rfl, rfl⟩
  by_cases h10 : r = 8220
  · subst h10
    have HV := hid (show lnpunct 8220 = 12 by decide)
    clear h0 h1 h2 h3 h4 h5 h6 h7 h8 h9
    go_enter Tryd.func117, Tryd.ntmps117
    go_wp2_with (first | (go_at_call 125; (first | refine (lnin_yes _ _ _ _ (by omega)).mono ?_ | refine (lnin_no _ _ _ _ (by omega)).mono ?_); rintro e w1 ⟨rfl, hw1⟩; obtain rfl := hw1.symm; clear hw1))
    go_ret
    exact ⟨by rw [HV.out]; rfl, rfl⟩
  by_cases h11 : r = 8221
  · subst h11
    have HV := hid (show lnpunct 8221 = 12 by decide)
    clear h0 h1 h2 h3 h4 h5 h6 h7 h8 h9 h10
    go_enter Tryd.func117, Tryd.ntmps117
    go_wp2_with (first | (go_at_call 125; (first | refine (lnin_yes _ _ _ _ (by omega)).mono ?_ | refine (lnin_no _ _ _ _ (by omega)).mono ?_); rintro e w1 ⟨rfl, hw1⟩; obtain rfl := hw1.symm; clear hw1))
    go_ret
    exact ⟨by rw [HV.out]; rfl, rfl⟩
  by_cases h12 : r = 8218
  · subst h12
    have HV := hid (show lnpunct 8218 = 9 by decide)
    clear h0 h1 h2 h3 h4 h5 h6 h7 h8 h9 h10 h11
    go_enter Tryd.func117, Tryd.ntmps117
    go_wp2_with (first | (go_at_call 125; (first | refine (lnin_yes _ _ _ _ (by omega)).mono ?_ | refine (lnin_no _ _ _ _ (by omega)).mono ?_); rintro e w1 ⟨rfl, hw1⟩; obtain rfl := hw1.symm; clear hw1))
    go_ret
    exact ⟨by rw [HV.out]; rfl, rfl⟩
  by_cases h13 : r = 8230
  · subst h13
    have HV := hid (show lnpunct 8230 = 19 by decide)
    clear h0 h1 h2 h3 h4 h5 h6 h7 h8 h9 h10 h11 h12
    go_enter Tryd.func117, Tryd.ntmps117
    go_wp2_with (first | (go_at_call 125; (first | refine (lnin_yes _ _ _ _ (by omega)).mono ?_ | refine (lnin_no _ _ _ _ (by omega)).mono ?_); rintro e w1 ⟨rfl, hw1⟩; obtain rfl := hw1.symm; clear hw1))
    go_ret
    exact ⟨by rw [HV.out]; rfl, rfl⟩
  by_cases h14 : r = 8232
  · subst h14
    have HV := hid (show lnpunct 8232 = 1 by decide)
    clear h0 h1 h2 h3 h4 h5 h6 h7 h8 h9 h10 h11 h12 h13
    go_enter Tryd.func117, Tryd.ntmps117
    go_wp2_with (first | (go_at_call 125; (first | refine (lnin_yes _ _ _ _ (by omega)).mono ?_ | refine (lnin_no _ _ _ _ (by omega)).mono ?_); rintro e w1 ⟨rfl, hw1⟩; obtain rfl := hw1.symm; clear hw1))
    go_ret
    exact ⟨by rw [HV.out]; rfl, rfl⟩
  by_cases h15 : r = 8233
  · subst h15
    have HV := hid (show lnpunct 8233 = 1 by decide)
    clear h0 h1 h2 h3 h4 h5 h6 h7 h8 h9 h10 h11 h12 h13 h14
    go_enter Tryd.func117, Tryd.ntmps117
    go_wp2_with (first | (go_at_call 125; (first | refine (lnin_yes _ _ _ _ (by omega)).mono ?_ | refine (lnin_no _ _ _ _ (by omega)).mono ?_); rintro e w1 ⟨rfl, hw1⟩; obtain rfl := hw1.symm; clear hw1))
    go_ret
    exact ⟨by rw [HV.out]; rfl, rfl⟩
  by_cases h16 : r = 8240
  · subst h16
    have HV := hid (show lnpunct 8240 = 21 by decide)
    clear h0 h1 h2 h3 h4 h5 h6 h7 h8 h9 h10 h11 h12 h13 h14 h15
    go_enter Tryd.func117, Tryd.ntmps117
    go_wp2_with (first | (go_at_call 125; (first | refine (lnin_yes _ _ _ _ (by omega)).mono ?_ | refine (lnin_no _ _ _ _ (by omega)).mono ?_); rintro e w1 ⟨rfl, hw1⟩; obtain rfl := hw1.symm; clear hw1))
    go_ret
    exact ⟨by rw [HV.out]; rfl, rfl⟩
  by_cases h17 : r = 8288
  · subst h17
    have HV := hid (show lnpunct 8288 = 6 by decide)
    clear h0 h1 h2 h3 h4 h5 h6 h7 h8 h9 h10 h11 h12 h13 h14 h15 h16
    go_enter Tryd.func117, Tryd.ntmps117
    go_wp2_with (first | (go_at_call 125; (first | refine (lnin_yes _ _ _ _ (by omega)).mono ?_ | refine (lnin_no _ _ _ _ (by omega)).mono ?_); rintro e w1 ⟨rfl, hw1⟩; obtain rfl := hw1.symm; clear hw1))
    go_ret
    exact ⟨by rw [HV.out]; rfl, rfl⟩
  by_cases h18 : r = 8364
  · subst h18
    have HV := hid (show lnpunct 8364 = 22 by decide)
    clear h0 h1 h2 h3 h4 h5 h6 h7 h8 h9 h10 h11 h12 h13 h14 h15 h16 h17
    go_enter Tryd.func117, Tryd.ntmps117
    go_wp2_with (first | (go_at_call 125; (first | refine (lnin_yes _ _ _ _ (by omega)).mono ?_ | refine (lnin_no _ _ _ _ (by omega)).mono ?_); rintro e w1 ⟨rfl, hw1⟩; obtain rfl := hw1.symm; clear hw1))
    go_ret
    exact ⟨by rw [HV.out]; rfl, rfl⟩
  have HV := hid (show lnpunct r = 0 by unfold lnpunct; rw [if_neg h0, if_neg h1, if_neg h2, if_neg h3, if_neg h4, if_neg h5, if_neg h6, if_neg h7, if_neg h8, if_neg h9, if_neg h10, if_neg h11, if_neg h12, if_neg h13, if_neg h14, if_neg h15, if_neg h16, if_neg h17, if_neg h18])
  have b0 : (r == 8199) = false := beq_eq_false_iff_ne.2 h0
  have b1 : (r == 8239) = false := beq_eq_false_iff_ne.2 h1
  have b2 : (r == 8203) = false := beq_eq_false_iff_ne.2 h2
  have b3 : (r == 8204) = false := beq_eq_false_iff_ne.2 h3
  have b4 : (r == 8205) = false := beq_eq_false_iff_ne.2 h4
  have b5 : (r == 8208) = false := beq_eq_false_iff_ne.2 h5
  have b6 : (r == 8211) = false := beq_eq_false_iff_ne.2 h6
  have b7 : (r == 8212) = false := beq_eq_false_iff_ne.2 h7
  have b8 : (r == 8216) = false := beq_eq_false_iff_ne.2 h8
  have b9 : (r == 8217) = false := beq_eq_false_iff_ne.2 h9
  have b10 : (r == 8220) = false := beq_eq_false_iff_ne.2 h10
  have b11 : (r == 8221) = false := beq_eq_false_iff_ne.2 h11
  have b12 : (r == 8218) = false := beq_eq_false_iff_ne.2 h12
  have b13 : (r == 8230) = false := beq_eq_false_iff_ne.2 h13
  have b14 : (r == 8232) = false := beq_eq_false_iff_ne.2 h14
  have b15 : (r == 8233) = false := beq_eq_false_iff_ne.2 h15
  have b16 : (r == 8240) = false := beq_eq_false_iff_ne.2 h16
  have b17 : (r == 8288) = false := beq_eq_false_iff_ne.2 h17
  have b18 : (r == 8364) = false := beq_eq_false_iff_ne.2 h18
  go_enter Tryd.func117, Tryd.ntmps117
  go_wp2_with (first | (go_at_call 125; (first | refine (lnin_yes _ _ _ _ (by omega)).mono ?_ | refine (lnin_no _ _ _ _ (by omega)).mono ?_); rintro e w1 ⟨rfl, hw1⟩; obtain rfl := hw1.symm; clear hw1))
  go_ret
  exact ⟨by rw [HV.out]; rfl, rfl⟩
def lnkana (r : Int) : Int :=
  if 12353 ≤ r ∧ r ≤ 12438 then 23 else if 12449 ≤ r ∧ r ≤ 12538 then 23 else if r = 12289 then 11 else if r = 12290 then 11 else if r = 12297 then 11 else if r = 12299 then 11 else if r = 12301 then 11 else if r = 12296 then 9 else if r = 12298 then 9 else if r = 12300 then 9 else if r = 12293 then 24 else if r = 12316 then 24 else if 12443 ≤ r ∧ r ≤ 12446 then 24 else if 12539 ≤ r ∧ r ≤ 12542 then 24 else if r = 12441 then 8 else if r = 12442 then 8 else 0
set_option maxHeartbeats 4000000 in
theorem lnkana_any (r : Int) (w : World) : Calls Tryd.prog 118 #[.int .i32 r] w fun e w' => e = .returned (.int .i64 (lnkana r)) ∧ w' = w := by
  by_cases h0 : 12353 ≤ r ∧ r ≤ 12438
  · have HV := hid (show lnkana r = 23 by unfold lnkana; rw [if_pos h0])
    obtain ⟨u0, v0⟩ := h0
    go_enter Tryd.func118, Tryd.ntmps118
    go_wp2_with (first | (go_at_call 125; (first | refine (lnin_yes _ _ _ _ (by omega)).mono ?_ | refine (lnin_no _ _ _ _ (by omega)).mono ?_); rintro e w1 ⟨rfl, hw1⟩; obtain rfl := hw1.symm; clear hw1))
    go_ret
    exact ⟨by rw [HV.out]; rfl, rfl⟩
  by_cases h1 : 12449 ≤ r ∧ r ≤ 12538
  · have HV := hid (show lnkana r = 23 by unfold lnkana; rw [if_neg h0, if_pos h1])
    obtain ⟨u1, v1⟩ := h1
    go_enter Tryd.func118, Tryd.ntmps118
    go_wp2_with (first | (go_at_call 125; (first | refine (lnin_yes _ _ _ _ (by omega)).mono ?_ | refine (lnin_no _ _ _ _ (by omega)).mono ?_); rintro e w1 ⟨rfl, hw1⟩; obtain rfl := hw1.symm; clear hw1))
    go_ret
    exact ⟨by rw [HV.out]; rfl, rfl⟩
  by_cases h2 : r = 12289
  · subst h2
    have HV := hid (show lnkana 12289 = 11 by decide)
    clear h0 h1
    go_enter Tryd.func118, Tryd.ntmps118
    go_wp2_with (first | (go_at_call 125; (first | refine (lnin_yes _ _ _ _ (by omega)).mono ?_ | refine (lnin_no _ _ _ _ (by omega)).mono ?_); rintro e w1 ⟨rfl, hw1⟩; obtain rfl := hw1.symm; clear hw1))
    go_ret
    exact ⟨by rw [HV.out]; rfl, rfl⟩
  by_cases h3 : r = 12290
  · subst h3
    have HV := hid (show lnkana 12290 = 11 by decide)
    clear h0 h1 h2
    go_enter Tryd.func118, Tryd.ntmps118
    go_wp2_with (first | (go_at_call 125; (first | refine (lnin_yes _ _ _ _ (by omega)).mono ?_ | refine (lnin_no _ _ _ _ (by omega)).mono ?_); rintro e w1 ⟨rfl, hw1⟩; obtain rfl := hw1.symm; clear hw1))
    go_ret
    exact ⟨by rw [HV.out]; rfl, rfl⟩
  by_cases h4 : r = 12297
  · subst h4
    have HV := hid (show lnkana 12297 = 11 by decide)
    clear h0 h1 h2 h3
    go_enter Tryd.func118, Tryd.ntmps118
    go_wp2_with (first | (go_at_call 125; (first | refine (lnin_yes _ _ _ _ (by omega)).mono ?_ | refine (lnin_no _ _ _ _ (by omega)).mono ?_); rintro e w1 ⟨rfl, hw1⟩; obtain rfl := hw1.symm; clear hw1))
    go_ret
    exact ⟨by rw [HV.out]; rfl, rfl⟩
  by_cases h5 : r = 12299
  · subst h5
    have HV := hid (show lnkana 12299 = 11 by decide)
    clear h0 h1 h2 h3 h4
    go_enter Tryd.func118, Tryd.ntmps118
    go_wp2_with (first | (go_at_call 125; (first | refine (lnin_yes _ _ _ _ (by omega)).mono ?_ | refine (lnin_no _ _ _ _ (by omega)).mono ?_); rintro e w1 ⟨rfl, hw1⟩; obtain rfl := hw1.symm; clear hw1))
    go_ret
    exact ⟨by rw [HV.out]; rfl, rfl⟩
  by_cases h6 : r = 12301
  · subst h6
    have HV := hid (show lnkana 12301 = 11 by decide)
    clear h0 h1 h2 h3 h4 h5
    go_enter Tryd.func118, Tryd.ntmps118
    go_wp2_with (first | (go_at_call 125; (first | refine (lnin_yes _ _ _ _ (by omega)).mono ?_ | refine (lnin_no _ _ _ _ (by omega)).mono ?_); rintro e w1 ⟨rfl, hw1⟩; obtain rfl := hw1.symm; clear hw1))
    go_ret
    exact ⟨by rw [HV.out]; rfl, rfl⟩
  by_cases h7 : r = 12296
  · subst h7
    have HV := hid (show lnkana 12296 = 9 by decide)
    clear h0 h1 h2 h3 h4 h5 h6
    go_enter Tryd.func118, Tryd.ntmps118
    go_wp2_with (first | (go_at_call 125; (first | refine (lnin_yes _ _ _ _ (by omega)).mono ?_ | refine (lnin_no _ _ _ _ (by omega)).mono ?_); rintro e w1 ⟨rfl, hw1⟩; obtain rfl := hw1.symm; clear hw1))
    go_ret
    exact ⟨by rw [HV.out]; rfl, rfl⟩
  by_cases h8 : r = 12298
  · subst h8
    have HV := hid (show lnkana 12298 = 9 by decide)
    clear h0 h1 h2 h3 h4 h5 h6 h7
    go_enter Tryd.func118, Tryd.ntmps118
    go_wp2_with (first | (go_at_call 125; (first | refine (lnin_yes _ _ _ _ (by omega)).mono ?_ | refine (lnin_no _ _ _ _ (by omega)).mono ?_); rintro e w1 ⟨rfl, hw1⟩; obtain rfl := hw1.symm; clear hw1))
    go_ret
    exact ⟨by rw [HV.out]; rfl, rfl⟩
  by_cases h9 : r = 12300
  · subst h9
    have HV := hid (show lnkana 12300 = 9 by decide)
    clear h0 h1 h2 h3 h4 h5 h6 h7 h8
    go_enter Tryd.func118, Tryd.ntmps118
    go_wp2_with (first | (go_at_call 125; (first | refine (lnin_yes _ _ _ _ (by omega)).mono ?_ | refine (lnin_no _ _ _ _ (by omega)).mono ?_); rintro e w1 ⟨rfl, hw1⟩; obtain rfl := hw1.symm; clear hw1))
    go_ret
    exact ⟨by rw [HV.out]; rfl, rfl⟩
  by_cases h10 : r = 12293
  · subst h10
    have HV := hid (show lnkana 12293 = 24 by decide)
    clear h0 h1 h2 h3 h4 h5 h6 h7 h8 h9
    go_enter Tryd.func118, Tryd.ntmps118
    go_wp2_with (first | (go_at_call 125; (first | refine (lnin_yes _ _ _ _ (by omega)).mono ?_ | refine (lnin_no _ _ _ _ (by omega)).mono ?_); rintro e w1 ⟨rfl, hw1⟩; obtain rfl := hw1.symm; clear hw1))
    go_ret
    exact ⟨by rw [HV.out]; rfl, rfl⟩
  by_cases h11 : r = 12316
  · subst h11
    have HV := hid (show lnkana 12316 = 24 by decide)
    clear h0 h1 h2 h3 h4 h5 h6 h7 h8 h9 h10
    go_enter Tryd.func118, Tryd.ntmps118
    go_wp2_with (first | (go_at_call 125; (first | refine (lnin_yes _ _ _ _ (by omega)).mono ?_ | refine (lnin_no _ _ _ _ (by omega)).mono ?_); rintro e w1 ⟨rfl, hw1⟩; obtain rfl := hw1.symm; clear hw1))
    go_ret
    exact ⟨by rw [HV.out]; rfl, rfl⟩
  by_cases h12 : 12443 ≤ r ∧ r ≤ 12446
  · have HV := hid (show lnkana r = 24 by unfold lnkana; rw [if_neg h0, if_neg h1, if_neg h2, if_neg h3, if_neg h4, if_neg h5, if_neg h6, if_neg h7, if_neg h8, if_neg h9, if_neg h10, if_neg h11, if_pos h12])
    have b2 : (r == 12289) = false := beq_eq_false_iff_ne.2 h2
    have b3 : (r == 12290) = false := beq_eq_false_iff_ne.2 h3
    have b4 : (r == 12297) = false := beq_eq_false_iff_ne.2 h4
    have b5 : (r == 12299) = false := beq_eq_false_iff_ne.2 h5
    have b6 : (r == 12301) = false := beq_eq_false_iff_ne.2 h6
    have b7 : (r == 12296) = false := beq_eq_false_iff_ne.2 h7
    have b8 : (r == 12298) = false := beq_eq_false_iff_ne.2 h8
    have b9 : (r == 12300) = false := beq_eq_false_iff_ne.2 h9
    have b10 : (r == 12293) = false := beq_eq_false_iff_ne.2 h10
    have b11 : (r == 12316) = false := beq_eq_false_iff_ne.2 h11
    obtain ⟨u12, v12⟩ := h12
    go_enter Tryd.func118, Tryd.ntmps118
    go_wp2_with (first | (go_at_call 125; (first | refine (lnin_yes _ _ _ _ (by omega)).mono ?_ | refine (lnin_no _ _ _ _ (by omega)).mono ?_); rintro e w1 ⟨rfl, hw1⟩; obtain rfl := hw1.symm; clear hw1))
    go_ret
    exact ⟨by rw [HV.out]; rfl, rfl⟩
  by_cases h13 : 12539 ≤ r ∧ r ≤ 12542
  · have HV := hid (show lnkana r = 24 by unfold lnkana; rw [if_neg h0, if_neg h1, if_neg h2, if_neg h3, if_neg h4, if_neg h5, if_neg h6, if_neg h7, if_neg h8, if_neg h9, if_neg h10, if_neg h11, if_neg h12, if_pos h13])
    have b2 : (r == 12289) = false := beq_eq_false_iff_ne.2 h2
    have b3 : (r == 12290) = false := beq_eq_false_iff_ne.2 h3
    have b4 : (r == 12297) = false := beq_eq_false_iff_ne.2 h4
    have b5 : (r == 12299) = false := beq_eq_false_iff_ne.2 h5
    have b6 : (r == 12301) = false := beq_eq_false_iff_ne.2 h6
    have b7 : (r == 12296) = false := beq_eq_false_iff_ne.2 h7
    have b8 : (r == 12298) = false := beq_eq_false_iff_ne.2 h8
    have b9 : (r == 12300) = false := beq_eq_false_iff_ne.2 h9
    have b10 : (r == 12293) = false := beq_eq_false_iff_ne.2 h10
    have b11 : (r == 12316) = false := beq_eq_false_iff_ne.2 h11
    obtain ⟨u13, v13⟩ := h13
    go_enter Tryd.func118, Tryd.ntmps118
    go_wp2_with (first | (go_at_call 125; (first | refine (lnin_yes _ _ _ _ (by omega)).mono ?_ | refine (lnin_no _ _ _ _ (by omega)).mono ?_); rintro e w1 ⟨rfl, hw1⟩; obtain rfl := hw1.symm; clear hw1))
    go_ret
    exact ⟨by rw [HV.out]; rfl, rfl⟩
  by_cases h14 : r = 12441
  · subst h14
    have HV := hid (show lnkana 12441 = 8 by decide)
    clear h0 h1 h2 h3 h4 h5 h6 h7 h8 h9 h10 h11 h12 h13
    go_enter Tryd.func118, Tryd.ntmps118
    go_wp2_with (first | (go_at_call 125; (first | refine (lnin_yes _ _ _ _ (by omega)).mono ?_ | refine (lnin_no _ _ _ _ (by omega)).mono ?_); rintro e w1 ⟨rfl, hw1⟩; obtain rfl := hw1.symm; clear hw1))
    go_ret
    exact ⟨by rw [HV.out]; rfl, rfl⟩
  by_cases h15 : r = 12442
  · subst h15
    have HV := hid (show lnkana 12442 = 8 by decide)
    clear h0 h1 h2 h3 h4 h5 h6 h7 h8 h9 h10 h11 h12 h13 h14
    go_enter Tryd.func118, Tryd.ntmps118
    go_wp2_with (first | (go_at_call 125; (first | refine (lnin_yes _ _ _ _ (by omega)).mono ?_ | refine (lnin_no _ _ _ _ (by omega)).mono ?_); rintro e w1 ⟨rfl, hw1⟩; obtain rfl := hw1.symm; clear hw1))
    go_ret
    exact ⟨by rw [HV.out]; rfl, rfl⟩
  have HV := hid (show lnkana r = 0 by unfold lnkana; rw [if_neg h0, if_neg h1, if_neg h2, if_neg h3, if_neg h4, if_neg h5, if_neg h6, if_neg h7, if_neg h8, if_neg h9, if_neg h10, if_neg h11, if_neg h12, if_neg h13, if_neg h14, if_neg h15])
  have b2 : (r == 12289) = false := beq_eq_false_iff_ne.2 h2
  have b3 : (r == 12290) = false := beq_eq_false_iff_ne.2 h3
  have b4 : (r == 12297) = false := beq_eq_false_iff_ne.2 h4
  have b5 : (r == 12299) = false := beq_eq_false_iff_ne.2 h5
  have b6 : (r == 12301) = false := beq_eq_false_iff_ne.2 h6
  have b7 : (r == 12296) = false := beq_eq_false_iff_ne.2 h7
  have b8 : (r == 12298) = false := beq_eq_false_iff_ne.2 h8
  have b9 : (r == 12300) = false := beq_eq_false_iff_ne.2 h9
  have b10 : (r == 12293) = false := beq_eq_false_iff_ne.2 h10
  have b11 : (r == 12316) = false := beq_eq_false_iff_ne.2 h11
  have b14 : (r == 12441) = false := beq_eq_false_iff_ne.2 h14
  have b15 : (r == 12442) = false := beq_eq_false_iff_ne.2 h15
  go_enter Tryd.func118, Tryd.ntmps118
  go_wp2_with (first | (go_at_call 125; (first | refine (lnin_yes _ _ _ _ (by omega)).mono ?_ | refine (lnin_no _ _ _ _ (by omega)).mono ?_); rintro e w1 ⟨rfl, hw1⟩; obtain rfl := hw1.symm; clear hw1))
  go_ret
  exact ⟨by rw [HV.out]; rfl, rfl⟩
def lnhigh (r : Int) : Int :=
  if 13312 ≤ r ∧ r ≤ 19903 then 23 else if 19968 ≤ r ∧ r ≤ 40959 then 23 else if 127744 ≤ r ∧ r ≤ 127994 then 23 else if 128000 ≤ r ∧ r ≤ 128591 then 23 else if 65024 ≤ r ∧ r ≤ 65039 then 8 else if 127995 ≤ r ∧ r ≤ 127999 then 8 else if r = 65279 then 6 else if 127462 ≤ r ∧ r ≤ 127487 then 25 else 0
set_option maxHeartbeats 4000000 in
theorem lnhigh_any (r : Int) (w : World) : Calls Tryd.prog 119 #[.int .i32 r] w fun e w' => e = .returned (.int .i64 (lnhigh r)) ∧ w' = w := by
  by_cases h0 : 13312 ≤ r ∧ r ≤ 19903
  · have HV := hid (show lnhigh r = 23 by unfold lnhigh; rw [if_pos h0])
    obtain ⟨u0, v0⟩ := h0
    go_enter Tryd.func119, Tryd.ntmps119
    go_wp2_with (first | (go_at_call 125; (first | refine (lnin_yes _ _ _ _ (by omega)).mono ?_ | refine (lnin_no _ _ _ _ (by omega)).mono ?_); rintro e w1 ⟨rfl, hw1⟩; obtain rfl := hw1.symm; clear hw1))
    go_ret
    exact ⟨by rw [HV.out]; rfl, rfl⟩
  by_cases h1 : 19968 ≤ r ∧ r ≤ 40959
  · have HV := hid (show lnhigh r = 23 by unfold lnhigh; rw [if_neg h0, if_pos h1])
    obtain ⟨u1, v1⟩ := h1
    go_enter Tryd.func119, Tryd.ntmps119
    go_wp2_with (first | (go_at_call 125; (first | refine (lnin_yes _ _ _ _ (by omega)).mono ?_ | refine (lnin_no _ _ _ _ (by omega)).mono ?_); rintro e w1 ⟨rfl, hw1⟩; obtain rfl := hw1.symm; clear hw1))
    go_ret
    exact ⟨by rw [HV.out]; rfl, rfl⟩
  by_cases h2 : 127744 ≤ r ∧ r ≤ 127994
  · have HV := hid (show lnhigh r = 23 by unfold lnhigh; rw [if_neg h0, if_neg h1, if_pos h2])
    obtain ⟨u2, v2⟩ := h2
    go_enter Tryd.func119, Tryd.ntmps119
    go_wp2_with (first | (go_at_call 125; (first | refine (lnin_yes _ _ _ _ (by omega)).mono ?_ | refine (lnin_no _ _ _ _ (by omega)).mono ?_); rintro e w1 ⟨rfl, hw1⟩; obtain rfl := hw1.symm; clear hw1))
    go_ret
    exact ⟨by rw [HV.out]; rfl, rfl⟩
  by_cases h3 : 128000 ≤ r ∧ r ≤ 128591
  · have HV := hid (show lnhigh r = 23 by unfold lnhigh; rw [if_neg h0, if_neg h1, if_neg h2, if_pos h3])
    obtain ⟨u3, v3⟩ := h3
    go_enter Tryd.func119, Tryd.ntmps119
    go_wp2_with (first | (go_at_call 125; (first | refine (lnin_yes _ _ _ _ (by omega)).mono ?_ | refine (lnin_no _ _ _ _ (by omega)).mono ?_); rintro e w1 ⟨rfl, hw1⟩; obtain rfl := hw1.symm; clear hw1))
    go_ret
    exact ⟨by rw [HV.out]; rfl, rfl⟩
  by_cases h4 : 65024 ≤ r ∧ r ≤ 65039
  · have HV := hid (show lnhigh r = 8 by unfold lnhigh; rw [if_neg h0, if_neg h1, if_neg h2, if_neg h3, if_pos h4])
    obtain ⟨u4, v4⟩ := h4
    go_enter Tryd.func119, Tryd.ntmps119
    go_wp2_with (first | (go_at_call 125; (first | refine (lnin_yes _ _ _ _ (by omega)).mono ?_ | refine (lnin_no _ _ _ _ (by omega)).mono ?_); rintro e w1 ⟨rfl, hw1⟩; obtain rfl := hw1.symm; clear hw1))
    go_ret
    exact ⟨by rw [HV.out]; rfl, rfl⟩
  by_cases h5 : 127995 ≤ r ∧ r ≤ 127999
  · have HV := hid (show lnhigh r = 8 by unfold lnhigh; rw [if_neg h0, if_neg h1, if_neg h2, if_neg h3, if_neg h4, if_pos h5])
    obtain ⟨u5, v5⟩ := h5
    go_enter Tryd.func119, Tryd.ntmps119
    go_wp2_with (first | (go_at_call 125; (first | refine (lnin_yes _ _ _ _ (by omega)).mono ?_ | refine (lnin_no _ _ _ _ (by omega)).mono ?_); rintro e w1 ⟨rfl, hw1⟩; obtain rfl := hw1.symm; clear hw1))
    go_ret
    exact ⟨by rw [HV.out]; rfl, rfl⟩
  by_cases h6 : r = 65279
  · subst h6
    have HV := hid (show lnhigh 65279 = 6 by decide)
    clear h0 h1 h2 h3 h4 h5
    go_enter Tryd.func119, Tryd.ntmps119
    go_wp2_with (first | (go_at_call 125; (first | refine (lnin_yes _ _ _ _ (by omega)).mono ?_ | refine (lnin_no _ _ _ _ (by omega)).mono ?_); rintro e w1 ⟨rfl, hw1⟩; obtain rfl := hw1.symm; clear hw1))
    go_ret
    exact ⟨by rw [HV.out]; rfl, rfl⟩
  by_cases h7 : 127462 ≤ r ∧ r ≤ 127487
  · have HV := hid (show lnhigh r = 25 by unfold lnhigh; rw [if_neg h0, if_neg h1, if_neg h2, if_neg h3, if_neg h4, if_neg h5, if_neg h6, if_pos h7])
    have b6 : (r == 65279) = false := beq_eq_false_iff_ne.2 h6
    obtain ⟨u7, v7⟩ := h7
    go_enter Tryd.func119, Tryd.ntmps119
    go_wp2_with (first | (go_at_call 125; (first | refine (lnin_yes _ _ _ _ (by omega)).mono ?_ | refine (lnin_no _ _ _ _ (by omega)).mono ?_); rintro e w1 ⟨rfl, hw1⟩; obtain rfl := hw1.symm; clear hw1))
    go_ret
    exact ⟨by rw [HV.out]; rfl, rfl⟩
  have HV := hid (show lnhigh r = 0 by unfold lnhigh; rw [if_neg h0, if_neg h1, if_neg h2, if_neg h3, if_neg h4, if_neg h5, if_neg h6, if_neg h7])
  have b6 : (r == 65279) = false := beq_eq_false_iff_ne.2 h6
  go_enter Tryd.func119, Tryd.ntmps119
  go_wp2_with (first | (go_at_call 125; (first | refine (lnin_yes _ _ _ _ (by omega)).mono ?_ | refine (lnin_no _ _ _ _ (by omega)).mono ?_); rintro e w1 ⟨rfl, hw1⟩; obtain rfl := hw1.symm; clear hw1))
  go_ret
  exact ⟨by rw [HV.out]; rfl, rfl⟩
def lncls (r : Int) : Int :=
  if r < 128 then lnascii r else if r < 768 then lnlatin r else if r < 8192 then lnscripts r else if r < 8448 then lnpunct r else if r < 12544 then lnkana r else lnhigh r
theorem lncls_any (r : Int) (w : World) : Calls Tryd.prog 103 #[.int .i32 r] w fun e w' => e = .returned (.int .i64 (lncls r)) ∧ w' = w := by
  by_cases h0 : r < 128
  · have HV := hid (show lncls r = lnascii r by unfold lncls; rw [if_pos h0])
    go_enter Tryd.func103, Tryd.ntmps103
    go_wp2_with fail
    refine (lnascii_any r w).mono ?_
    rintro e w1 ⟨rfl, hw1⟩
    obtain rfl := hw1.symm
    clear hw1
    go_wp2
    go_ret
    exact ⟨by rw [HV.out]; rfl, rfl⟩
  by_cases h1 : r < 768
  · have HV := hid (show lncls r = lnlatin r by unfold lncls; rw [if_neg h0, if_pos h1])
    go_enter Tryd.func103, Tryd.ntmps103
    go_wp2_with fail
    refine (lnlatin_any r w).mono ?_
    rintro e w1 ⟨rfl, hw1⟩
    obtain rfl := hw1.symm
    clear hw1
    go_wp2
    go_ret
    exact ⟨by rw [HV.out]; rfl, rfl⟩
  by_cases h2 : r < 8192
  · have HV := hid (show lncls r = lnscripts r by unfold lncls; rw [if_neg h0, if_neg h1, if_pos h2])
    go_enter Tryd.func103, Tryd.ntmps103
    go_wp2_with fail
    refine (lnscripts_any r w).mono ?_
    rintro e w1 ⟨rfl, hw1⟩
    obtain rfl := hw1.symm
    clear hw1
    go_wp2
    go_ret
    exact ⟨by rw [HV.out]; rfl, rfl⟩
  by_cases h3 : r < 8448
  · have HV := hid (show lncls r = lnpunct r by unfold lncls; rw [if_neg h0, if_neg h1, if_neg h2, if_pos h3])
    go_enter Tryd.func103, Tryd.ntmps103
    go_wp2_with fail
    refine (lnpunct_any r w).mono ?_
    rintro e w1 ⟨rfl, hw1⟩
    obtain rfl := hw1.symm
    clear hw1
    go_wp2
    go_ret
    exact ⟨by rw [HV.out]; rfl, rfl⟩
  by_cases h4 : r < 12544
  · have HV := hid (show lncls r = lnkana r by unfold lncls; rw [if_neg h0, if_neg h1, if_neg h2, if_neg h3, if_pos h4])
    go_enter Tryd.func103, Tryd.ntmps103
    go_wp2_with fail
    refine (lnkana_any r w).mono ?_
    rintro e w1 ⟨rfl, hw1⟩
    obtain rfl := hw1.symm
    clear hw1
    go_wp2
    go_ret
    exact ⟨by rw [HV.out]; rfl, rfl⟩
  have HV := hid (show lncls r = lnhigh r by unfold lncls; rw [if_neg h0, if_neg h1, if_neg h2, if_neg h3, if_neg h4])
  go_enter Tryd.func103, Tryd.ntmps103
  go_wp2_with fail
  refine (lnhigh_any r w).mono ?_
  rintro e w1 ⟨rfl, hw1⟩
  obtain rfl := hw1.symm
  clear hw1
  go_wp2
  go_ret
  exact ⟨by rw [HV.out]; rfl, rfl⟩
end Go.Proofs.YtkophiklkgefnaaDoor
