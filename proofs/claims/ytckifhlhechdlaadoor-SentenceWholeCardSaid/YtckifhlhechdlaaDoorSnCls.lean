/- The classes of runes to sentences (package sentence). -/
import Derived.Test.YtckifhlhechdlaaDoorBase
namespace Go.Proofs.YtckifhlhechdlaaDoor
open Go.RowKit

theorem snin_yes (r lo hi : Int) (w : World) (h : lo ≤ r ∧ r ≤ hi) : Calls Tryd.prog 39 #[.int .i32 r, .int .i32 lo, .int .i32 hi] w fun e w' => e = .returned (.bool true) ∧ w' = w := by
  obtain ⟨h1, h2⟩ := h
  go_enter Tryd.func39, Tryd.ntmps39
  go_wp2
  go_ret
  exact ⟨rfl, rfl⟩
theorem snin_no (r lo hi : Int) (w : World) (h : ¬ (lo ≤ r ∧ r ≤ hi)) : Calls Tryd.prog 39 #[.int .i32 r, .int .i32 lo, .int .i32 hi] w fun e w' => e = .returned (.bool false) ∧ w' = w := by
  by_cases h1 : lo ≤ r
  · have h2 : ¬ r ≤ hi := fun h2 => h ⟨h1, h2⟩
    clear h
    go_enter Tryd.func39, Tryd.ntmps39
    go_wp2
    go_ret
    exact ⟨rfl, rfl⟩
  · clear h
    go_enter Tryd.func39, Tryd.ntmps39
    go_wp2
    go_ret
    exact ⟨rfl, rfl⟩
def snascii (r : Int) : Int :=
  if 97 ≤ r ∧ r ≤ 122 then 5 else if 65 ≤ r ∧ r ≤ 90 then 6 else if 48 ≤ r ∧ r ≤ 57 then 8 else if r = 13 then 1 else if r = 10 then 2 else if r = 32 then 4 else if r = 9 then 4 else if r = 11 then 4 else if r = 12 then 4 else if r = 46 then 9 else if r = 33 then 10 else if r = 63 then 10 else if r = 34 then 11 else if r = 39 then 11 else if r = 40 then 11 else if r = 41 then 11 else if r = 91 then 11 else if r = 93 then 11 else if r = 123 then 11 else if r = 125 then 11 else if r = 44 then 12 else if r = 45 then 12 else if r = 58 then 12 else 0
set_option maxHeartbeats 4000000 in
theorem snascii_any (r : Int) (w : World) : Calls Tryd.prog 18 #[.int .i32 r] w fun e w' => e = .returned (.int .i64 (snascii r)) ∧ w' = w := by
  by_cases h0 : 97 ≤ r ∧ r ≤ 122
  · have HV := hid (show snascii r = 5 by unfold snascii; rw [if_pos h0])
    obtain ⟨u0, v0⟩ := h0
    go_enter Tryd.func18, Tryd.ntmps18
    go_wp2_with (first | (go_at_call 39; (first | refine (snin_yes _ _ _ _ (by omega)).mono ?_ | refine (snin_no _ _ _ _ (by omega)).mono ?_); rintro e w1 ⟨rfl, hw1⟩; obtain rfl := hw1.symm; clear hw1))
    go_ret
    exact ⟨by rw [HV.out]; rfl, rfl⟩
  by_cases h1 : 65 ≤ r ∧ r ≤ 90
  · have HV := hid (show snascii r = 6 by unfold snascii; rw [if_neg h0, if_pos h1])
    obtain ⟨u1, v1⟩ := h1
    go_enter Tryd.func18, Tryd.ntmps18
    go_wp2_with (first | (go_at_call 39; (first | refine (snin_yes _ _ _ _ (by omega)).mono ?_ | refine (snin_no _ _ _ _ (by omega)).mono ?_); rintro e w1 ⟨rfl, hw1⟩; obtain rfl := hw1.symm; clear hw1))
    go_ret
    exact ⟨by rw [HV.out]; rfl, rfl⟩
  by_cases h2 : 48 ≤ r ∧ r ≤ 57
  · have HV := hid (show snascii r = 8 by unfold snascii; rw [if_neg h0, if_neg h1, if_pos h2])
    obtain ⟨u2, v2⟩ := h2
    go_enter Tryd.func18, Tryd.ntmps18
    go_wp2_with (first | (go_at_call 39; (first | refine (snin_yes _ _ _ _ (by omega)).mono ?_ | refine (snin_no _ _ _ _ (by omega)).mono ?_); rintro e w1 ⟨rfl, hw1⟩; obtain rfl := hw1.symm; clear hw1))
    go_ret
    exact ⟨by rw [HV.out]; rfl, rfl⟩
  by_cases h3 : r = 13
  · subst h3
    have HV := hid (show snascii 13 = 1 by decide)
    clear h0 h1 h2
    go_enter Tryd.func18, Tryd.ntmps18
    go_wp2_with (first | (go_at_call 39; (first | refine (snin_yes _ _ _ _ (by omega)).mono ?_ | refine (snin_no _ _ _ _ (by omega)).mono ?_); rintro e w1 ⟨rfl, hw1⟩; obtain rfl := hw1.symm; clear hw1))
    go_ret
    exact ⟨by rw [HV.out]; rfl, rfl⟩
  by_cases h4 : r = 10
  · subst h4
    have HV := hid (show snascii 10 = 2 by decide)
    clear h0 h1 h2 h3
    go_enter Tryd.func18, Tryd.ntmps18
    go_wp2_with (first | (go_at_call 39; (first | refine (snin_yes _ _ _ _ (by omega)).mono ?_ | refine (snin_no _ _ _ _ (by omega)).mono ?_); rintro e w1 ⟨rfl, hw1⟩; obtain rfl := hw1.symm; clear hw1))
    go_ret
    exact ⟨by rw [HV.out]; rfl, rfl⟩
  by_cases h5 : r = 32
  · subst h5
    have HV := hid (show snascii 32 = 4 by decide)
    clear h0 h1 h2 h3 h4
    go_enter Tryd.func18, Tryd.ntmps18
    go_wp2_with (first | (go_at_call 39; (first | refine (snin_yes _ _ _ _ (by omega)).mono ?_ | refine (snin_no _ _ _ _ (by omega)).mono ?_); rintro e w1 ⟨rfl, hw1⟩; obtain rfl := hw1.symm; clear hw1))
    go_ret
    exact ⟨by rw [HV.out]; rfl, rfl⟩
  by_cases h6 : r = 9
  · subst h6
    have HV := hid (show snascii 9 = 4 by decide)
    clear h0 h1 h2 h3 h4 h5
    go_enter Tryd.func18, Tryd.ntmps18
    go_wp2_with (first | (go_at_call 39; (first | refine (snin_yes _ _ _ _ (by omega)).mono ?_ | refine (snin_no _ _ _ _ (by omega)).mono ?_); rintro e w1 ⟨rfl, hw1⟩; obtain rfl := hw1.symm; clear hw1))
    go_ret
    exact ⟨by rw [HV.out]; rfl, rfl⟩
  by_cases h7 : r = 11
  · subst h7
    have HV := hid (show snascii 11 = 4 by decide)
    clear h0 h1 h2 h3 h4 h5 h6
    go_enter Tryd.func18, Tryd.ntmps18
    go_wp2_with (first | (go_at_call 39; (first | refine (snin_yes _ _ _ _ (by omega)).mono ?_ | refine (snin_no _ _ _ _ (by omega)).mono ?_); rintro e w1 ⟨rfl, hw1⟩; obtain rfl := hw1.symm; clear hw1))
    go_ret
    exact ⟨by rw [HV.out]; rfl, rfl⟩
  by_cases h8 : r = 12
  · subst h8
    have HV := hid (show snascii 12 = 4 by decide)
    clear h0 h1 h2 h3 h4 h5 h6 h7
    go_enter Tryd.func18, Tryd.ntmps18
    go_wp2_with (first | (go_at_call 39; (first | refine (snin_yes _ _ _ _ (by omega)).mono ?_ | refine (snin_no _ _ _ _ (by omega)).mono ?_); rintro e w1 ⟨rfl, hw1⟩; obtain rfl := hw1.symm; clear hw1))
    go_ret
    exact ⟨by rw [HV.out]; rfl, rfl⟩
  by_cases h9 : r = 46
  · subst h9
    have HV := hid (show snascii 46 = 9 by decide)
    clear h0 h1 h2 h3 h4 h5 h6 h7 h8
    go_enter Tryd.func18, Tryd.ntmps18
    go_wp2_with (first | (go_at_call 39; (first | refine (snin_yes _ _ _ _ (by omega)).mono ?_ | refine (snin_no _ _ _ _ (by omega)).mono ?_); rintro e w1 ⟨rfl, hw1⟩; obtain rfl := hw1.symm; clear hw1))
    go_ret
    exact ⟨by rw [HV.out]; rfl, rfl⟩
  by_cases h10 : r = 33
  · subst h10
    have HV := hid (show snascii 33 = 10 by decide)
    clear h0 h1 h2 h3 h4 h5 h6 h7 h8 h9
    go_enter Tryd.func18, Tryd.ntmps18
    go_wp2_with (first | (go_at_call 39; (first | refine (snin_yes _ _ _ _ (by omega)).mono ?_ | refine (snin_no _ _ _ _ (by omega)).mono ?_); rintro e w1 ⟨rfl, hw1⟩; obtain rfl := hw1.symm; clear hw1))
    go_ret
    exact ⟨by rw [HV.out]; rfl, rfl⟩
  by_cases h11 : r = 63
  · subst h11
    have HV := hid (show snascii 63 = 10 by decide)
    clear h0 h1 h2 h3 h4 h5 h6 h7 h8 h9 h10
    go_enter Tryd.func18, Tryd.ntmps18
    go_wp2_with (first | (go_at_call 39; (first | refine (snin_yes _ _ _ _ (by omega)).mono ?_ | refine (snin_no _ _ _ _ (by omega)).mono ?_); rintro e w1 ⟨rfl, hw1⟩; obtain rfl := hw1.symm; clear hw1))
    go_ret
    exact ⟨by rw [HV.out]; rfl, rfl⟩
  by_cases h12 : r = 34
  · subst h12
    have HV := hid (show snascii 34 = 11 by decide)
    clear h0 h1 h2 h3 h4 h5 h6 h7 h8 h9 h10 h11
    go_enter Tryd.func18, Tryd.ntmps18
    go_wp2_with (first | (go_at_call 39; (first | refine (snin_yes _ _ _ _ (by omega)).mono ?_ | refine (snin_no _ _ _ _ (by omega)).mono ?_); rintro e w1 ⟨rfl, hw1⟩; obtain rfl := hw1.symm; clear hw1))
    go_ret
    exact ⟨by rw [HV.out]; rfl, rfl⟩
  by_cases h13 : r = 39
  · subst h13
    have HV := hid (show snascii 39 = 11 by decide)
    clear h0 h1 h2 h3 h4 h5 h6 h7 h8 h9 h10 h11 h12
    go_enter Tryd.func18, Tryd.ntmps18
    go_wp2_with (first | (go_at_call 39; (first | refine (snin_yes _ _ _ _ (by omega)).mono ?_ | refine (snin_no _ _ _ _ (by omega)).mono ?_); rintro e w1 ⟨rfl, hw1⟩; obtain rfl := hw1.symm; clear hw1))
    go_ret
    exact ⟨by rw [HV.out]; rfl, rfl⟩
  by_cases h14 : r = 40
  · subst h14
    have HV := hid (show snascii 40 = 11 by decide)
    clear h0 h1 h2 h3 h4 h5 h6 h7 h8 h9 h10 h11 h12 h13
    go_enter Tryd.func18, Tryd.ntmps18
    go_wp2_with (first | (go_at_call 39; (first | refine (snin_yes _ _ _ _ (by omega)).mono ?_ | refine (snin_no _ _ _ _ (by omega)).mono ?_); rintro e w1 ⟨rfl, hw1⟩; obtain rfl := hw1.symm; clear hw1))
    go_ret
    exact ⟨by rw [HV.out]; rfl, rfl⟩
  by_cases h15 : r = 41
  · subst h15
    have HV := hid (show snascii 41 = 11 by decide)
    clear h0 h1 h2 h3 h4 h5 h6 h7 h8 h9 h10 h11 h12 h13 h14
    go_enter Tryd.func18, Tryd.ntmps18
    go_wp2_with (first | (go_at_call 39; (first | refine (snin_yes _ _ _ _ (by omega)).mono ?_ | refine (snin_no _ _ _ _ (by omega)).mono ?_); rintro e w1 ⟨rfl, hw1⟩; obtain rfl := hw1.symm; clear hw1))
    go_ret
    exact ⟨by rw [HV.out]; rfl, rfl⟩
  by_cases h16 : r = 91
  · subst h16
    have HV := hid (show snascii 91 = 11 by decide)
    clear h0 h1 h2 h3 h4 h5 h6 h7 h8 h9 h10 h11 h12 h13 h14 h15
    go_enter Tryd.func18, Tryd.ntmps18
    go_wp2_with (first | (go_at_call 39; (first | refine (snin_yes _ _ _ _ (by omega)).mono ?_ | refine (snin_no _ _ _ _ (by omega)).mono ?_); rintro e w1 ⟨rfl, hw1⟩; obtain rfl := hw1.symm; clear hw1))
    go_ret
    exact ⟨by rw [HV.out]; rfl, rfl⟩
  by_cases h17 : r = 93
  · subst h17
    have HV := hid (show snascii 93 = 11 by decide)
    clear h0 h1 h2 h3 h4 h5 h6 h7 h8 h9 h10 h11 h12 h13 h14 h15 h16
    go_enter Tryd.func18, Tryd.ntmps18
    go_wp2_with (first | (go_at_call 39; (first | refine (snin_yes _ _ _ _ (by omega)).mono ?_ | refine (snin_no _ _ _ _ (by omega)).mono ?_); rintro e w1 ⟨rfl, hw1⟩; obtain rfl := hw1.symm; clear hw1))
    go_ret
    exact ⟨by rw [HV.out]; rfl, rfl⟩
  by_cases h18 : r = 123
  · subst h18
    have HV := hid (show snascii 123 = 11 by decide)
    clear h0 h1 h2 h3 h4 h5 h6 h7 h8 h9 h10 h11 h12 h13 h14 h15 h16 h17
    go_enter Tryd.func18, Tryd.ntmps18
    go_wp2_with (first | (go_at_call 39; (first | refine (snin_yes _ _ _ _ (by omega)).mono ?_ | refine (snin_no _ _ _ _ (by omega)).mono ?_); rintro e w1 ⟨rfl, hw1⟩; obtain rfl := hw1.symm; clear hw1))
    go_ret
    exact ⟨by rw [HV.out]; rfl, rfl⟩
  by_cases h19 : r = 125
  · subst h19
    have HV := hid (show snascii 125 = 11 by decide)
    clear h0 h1 h2 h3 h4 h5 h6 h7 h8 h9 h10 h11 h12 h13 h14 h15 h16 h17 h18
    go_enter Tryd.func18, Tryd.ntmps18
    go_wp2_with (first | (go_at_call 39; (first | refine (snin_yes _ _ _ _ (by omega)).mono ?_ | refine (snin_no _ _ _ _ (by omega)).mono ?_); rintro e w1 ⟨rfl, hw1⟩; obtain rfl := hw1.symm; clear hw1))
    go_ret
    exact ⟨by rw [HV.out]; rfl, rfl⟩
  by_cases h20 : r = 44
  · subst h20
    have HV := hid (show snascii 44 = 12 by decide)
    clear h0 h1 h2 h3 h4 h5 h6 h7 h8 h9 h10 h11 h12 h13 h14 h15 h16 h17 h18 h19
    go_enter Tryd.func18, Tryd.ntmps18
    go_wp2_with (first | (go_at_call 39; (first | refine (snin_yes _ _ _ _ (by omega)).mono ?_ | refine (snin_no _ _ _ _ (by omega)).mono ?_); rintro e w1 ⟨rfl, hw1⟩; obtain rfl := hw1.symm; clear hw1))
    go_ret
    exact ⟨by rw [HV.out]; rfl, rfl⟩
  by_cases h21 : r = 45
  · subst h21
    have HV := hid (show snascii 45 = 12 by decide)
    clear h0 h1 h2 h3 h4 h5 h6 h7 h8 h9 h10 h11 h12 h13 h14 h15 h16 h17 h18 h19 h20
    go_enter Tryd.func18, Tryd.ntmps18
    go_wp2_with (first | (go_at_call 39; (first | refine (snin_yes _ _ _ _ (by omega)).mono ?_ | refine (snin_no _ _ _ _ (by omega)).mono ?_); rintro e w1 ⟨rfl, hw1⟩; obtain rfl := hw1.symm; clear hw1))
    go_ret
    exact ⟨by rw [HV.out]; rfl, rfl⟩
  by_cases h22 : r = 58
  · subst h22
    have HV := hid (show snascii 58 = 12 by decide)
    clear h0 h1 h2 h3 h4 h5 h6 h7 h8 h9 h10 h11 h12 h13 h14 h15 h16 h17 h18 h19 h20 h21
    go_enter Tryd.func18, Tryd.ntmps18
    go_wp2_with (first | (go_at_call 39; (first | refine (snin_yes _ _ _ _ (by omega)).mono ?_ | refine (snin_no _ _ _ _ (by omega)).mono ?_); rintro e w1 ⟨rfl, hw1⟩; obtain rfl := hw1.symm; clear hw1))
    go_ret
    exact ⟨by rw [HV.out]; rfl, rfl⟩
  have HV := hid (show snascii r = 0 by unfold snascii; rw [if_neg h0, if_neg h1, if_neg h2, if_neg h3, if_neg h4, if_neg h5, if_neg h6, if_neg h7, if_neg h8, if_neg h9, if_neg h10, if_neg h11, if_neg h12, if_neg h13, if_neg h14, if_neg h15, if_neg h16, if_neg h17, if_neg h18, if_neg h19, if_neg h20, if_neg h21, if_neg h22])
  have b3 : (r == 13) = false := beq_eq_false_iff_ne.2 h3
  have b4 : (r == 10) = false := beq_eq_false_iff_ne.2 h4
  have b5 : (r == 32) = false := beq_eq_false_iff_ne.2 h5
  have b6 : (r == 9) = false := beq_eq_false_iff_ne.2 h6
  have b7 : (r == 11) = false := beq_eq_false_iff_ne.2 h7
  have b8 : (r == 12) = false := beq_eq_false_iff_ne.2 h8
  have b9 : (r == 46) = false := beq_eq_false_iff_ne.2 h9
  have b10 : (r == 33) = false := beq_eq_false_iff_ne.2 h10
  have b11 : (r == 63) = false := beq_eq_false_iff_ne.2 h11
  have b12 : (r == 34) = false := beq_eq_false_iff_ne.2 h12
  have b13 : (r == 39) = false := beq_eq_false_iff_ne.2 h13
  have b14 : (r == 40) = false := beq_eq_false_iff_ne.2 h14
  have b15 : (r == 41) = false := beq_eq_false_iff_ne.2 h15
  have b16 : (r == 91) = false := beq_eq_false_iff_ne.2 h16
  have b17 : (r == 93) = false := beq_eq_false_iff_ne.2 h17
  have b18 : (r == 123) = false := beq_eq_false_iff_ne.2 h18
  have b19 : (r == 125) = false := beq_eq_false_iff_ne.2 h19
  have b20 : (r == 44) = false := beq_eq_false_iff_ne.2 h20
  have b21 : (r == 45) = false := beq_eq_false_iff_ne.2 h21
  have b22 : (r == 58) = false := beq_eq_false_iff_ne.2 h22
  go_enter Tryd.func18, Tryd.ntmps18
  go_wp2_with (first | (go_at_call 39; (first | refine (snin_yes _ _ _ _ (by omega)).mono ?_ | refine (snin_no _ _ _ _ (by omega)).mono ?_); rintro e w1 ⟨rfl, hw1⟩; obtain rfl := hw1.symm; clear hw1))
  go_ret
  exact ⟨by rw [HV.out]; rfl, rfl⟩
def snlatin (r : Int) : Int :=
  if r = 133 then 3 else if r = 160 then 4 else if r = 170 then 7 else if r = 186 then 7 else if r = 171 then 11 else if r = 187 then 11 else if r = 173 then 13 else if 192 ≤ r ∧ r ≤ 214 then 6 else if 216 ≤ r ∧ r ≤ 222 then 6 else if r = 181 then 5 else if 223 ≤ r ∧ r ≤ 246 then 5 else if 248 ≤ r ∧ r ≤ 255 then 5 else 0
set_option maxHeartbeats 4000000 in
theorem snlatin_any (r : Int) (w : World) : Calls Tryd.prog 19 #[.int .i32 r] w fun e w' => e = .returned (.int .i64 (snlatin r)) ∧ w' = w := by
  by_cases h0 : r = 133
  · subst h0
    have HV := hid (show snlatin 133 = 3 by decide)
    skip
    go_enter Tryd.func19, Tryd.ntmps19
    go_wp2_with (first | (go_at_call 39; (first | refine (snin_yes _ _ _ _ (by omega)).mono ?_ | refine (snin_no _ _ _ _ (by omega)).mono ?_); rintro e w1 ⟨rfl, hw1⟩; obtain rfl := hw1.symm; clear hw1))
    go_ret
    exact ⟨by rw [HV.out]; rfl, rfl⟩
  by_cases h1 : r = 160
  · subst h1
    have HV := hid (show snlatin 160 = 4 by decide)
    clear h0
    go_enter Tryd.func19, Tryd.ntmps19
    go_wp2_with (first | (go_at_call 39; (first | refine (snin_yes _ _ _ _ (by omega)).mono ?_ | refine (snin_no _ _ _ _ (by omega)).mono ?_); rintro e w1 ⟨rfl, hw1⟩; obtain rfl := hw1.symm; clear hw1))
    go_ret
    exact ⟨by rw [HV.out]; rfl, rfl⟩
  by_cases h2 : r = 170
  · subst h2
    have HV := hid (show snlatin 170 = 7 by decide)
    clear h0 h1
    go_enter Tryd.func19, Tryd.ntmps19
    go_wp2_with (first | (go_at_call 39; (first | refine (snin_yes _ _ _ _ (by omega)).mono ?_ | refine (snin_no _ _ _ _ (by omega)).mono ?_); rintro e w1 ⟨rfl, hw1⟩; obtain rfl := hw1.symm; clear hw1))
    go_ret
    exact ⟨by rw [HV.out]; rfl, rfl⟩
  by_cases h3 : r = 186
  · subst h3
    have HV := hid (show snlatin 186 = 7 by decide)
    clear h0 h1 h2
    go_enter Tryd.func19, Tryd.ntmps19
    go_wp2_with (first | (go_at_call 39; (first | refine (snin_yes _ _ _ _ (by omega)).mono ?_ | refine (snin_no _ _ _ _ (by omega)).mono ?_); rintro e w1 ⟨rfl, hw1⟩; obtain rfl := hw1.symm; clear hw1))
    go_ret
    exact ⟨by rw [HV.out]; rfl, rfl⟩
  by_cases h4 : r = 171
  · subst h4
    have HV := hid (show snlatin 171 = 11 by decide)
    clear h0 h1 h2 h3
    go_enter Tryd.func19, Tryd.ntmps19
    go_wp2_with (first | (go_at_call 39; (first | refine (snin_yes _ _ _ _ (by omega)).mono ?_ | refine (snin_no _ _ _ _ (by omega)).mono ?_); rintro e w1 ⟨rfl, hw1⟩; obtain rfl := hw1.symm; clear hw1))
    go_ret
    exact ⟨by rw [HV.out]; rfl, rfl⟩
  by_cases h5 : r = 187
  · subst h5
    have HV := hid (show snlatin 187 = 11 by decide)
    clear h0 h1 h2 h3 h4
    go_enter Tryd.func19, Tryd.ntmps19
    go_wp2_with (first | (go_at_call 39; (first | refine (snin_yes _ _ _ _ (by omega)).mono ?_ | refine (snin_no _ _ _ _ (by omega)).mono ?_); rintro e w1 ⟨rfl, hw1⟩; obtain rfl := hw1.symm; clear hw1))
    go_ret
    exact ⟨by rw [HV.out]; rfl, rfl⟩
  by_cases h6 : r = 173
  · subst h6
    have HV := hid (show snlatin 173 = 13 by decide)
    clear h0 h1 h2 h3 h4 h5
    go_enter Tryd.func19, Tryd.ntmps19
    go_wp2_with (first | (go_at_call 39; (first | refine (snin_yes _ _ _ _ (by omega)).mono ?_ | refine (snin_no _ _ _ _ (by omega)).mono ?_); rintro e w1 ⟨rfl, hw1⟩; obtain rfl := hw1.symm; clear hw1))
    go_ret
    exact ⟨by rw [HV.out]; rfl, rfl⟩
  by_cases h7 : 192 ≤ r ∧ r ≤ 214
  · have HV := hid (show snlatin r = 6 by unfold snlatin; rw [if_neg h0, if_neg h1, if_neg h2, if_neg h3, if_neg h4, if_neg h5, if_neg h6, if_pos h7])
    have b0 : (r == 133) = false := beq_eq_false_iff_ne.2 h0
    have b1 : (r == 160) = false := beq_eq_false_iff_ne.2 h1
    have b2 : (r == 170) = false := beq_eq_false_iff_ne.2 h2
    have b3 : (r == 186) = false := beq_eq_false_iff_ne.2 h3
    have b4 : (r == 171) = false := beq_eq_false_iff_ne.2 h4
    have b5 : (r == 187) = false := beq_eq_false_iff_ne.2 h5
    have b6 : (r == 173) = false := beq_eq_false_iff_ne.2 h6
    obtain ⟨u7, v7⟩ := h7
    go_enter Tryd.func19, Tryd.ntmps19
    go_wp2_with (first | (go_at_call 39; (first | refine (snin_yes _ _ _ _ (by omega)).mono ?_ | refine (snin_no _ _ _ _ (by omega)).mono ?_); rintro e w1 ⟨rfl, hw1⟩; obtain rfl := hw1.symm; clear hw1))
    go_ret
    exact ⟨by rw [HV.out]; rfl, rfl⟩
  by_cases h8 : 216 ≤ r ∧ r ≤ 222
  · have HV := hid (show snlatin r = 6 by unfold snlatin; rw [if_neg h0, if_neg h1, if_neg h2, if_neg h3, if_neg h4, if_neg h5, if_neg h6, if_neg h7, if_pos h8])
    have b0 : (r == 133) = false := beq_eq_false_iff_ne.2 h0
    have b1 : (r == 160) = false := beq_eq_false_iff_ne.2 h1
    have b2 : (r == 170) = false := beq_eq_false_iff_ne.2 h2
    have b3 : (r == 186) = false := beq_eq_false_iff_ne.2 h3
    have b4 : (r == 171) = false := beq_eq_false_iff_ne.2 h4
    have b5 : (r == 187) = false := beq_eq_false_iff_ne.2 h5
    have b6 : (r == 173) = false := beq_eq_false_iff_ne.2 h6
    obtain ⟨u8, v8⟩ := h8
    go_enter Tryd.func19, Tryd.ntmps19
    go_wp2_with (first | (go_at_call 39; (first | refine (snin_yes _ _ _ _ (by omega)).mono ?_ | refine (snin_no _ _ _ _ (by omega)).mono ?_); rintro e w1 ⟨rfl, hw1⟩; obtain rfl := hw1.symm; clear hw1))
    go_ret
    exact ⟨by rw [HV.out]; rfl, rfl⟩
  by_cases h9 : r = 181
  · subst h9
    have HV := hid (show snlatin 181 = 5 by decide)
    clear h0 h1 h2 h3 h4 h5 h6 h7 h8
    go_enter Tryd.func19, Tryd.ntmps19
    go_wp2_with (first | (go_at_call 39; (first | refine (snin_yes _ _ _ _ (by omega)).mono ?_ | refine (snin_no _ _ _ _ (by omega)).mono ?_); rintro e w1 ⟨rfl, hw1⟩; obtain rfl := hw1.symm; clear hw1))
    go_ret
    exact ⟨by rw [HV.out]; rfl, rfl⟩
  by_cases h10 : 223 ≤ r ∧ r ≤ 246
  · have HV := hid (show snlatin r = 5 by unfold snlatin; rw [if_neg h0, if_neg h1, if_neg h2, if_neg h3, if_neg h4, if_neg h5, if_neg h6, if_neg h7, if_neg h8, if_neg h9, if_pos h10])
    have b0 : (r == 133) = false := beq_eq_false_iff_ne.2 h0
    have b1 : (r == 160) = false := beq_eq_false_iff_ne.2 h1
    have b2 : (r == 170) = false := beq_eq_false_iff_ne.2 h2
    have b3 : (r == 186) = false := beq_eq_false_iff_ne.2 h3
    have b4 : (r == 171) = false := beq_eq_false_iff_ne.2 h4
    have b5 : (r == 187) = false := beq_eq_false_iff_ne.2 h5
    have b6 : (r == 173) = false := beq_eq_false_iff_ne.2 h6
    have b9 : (r == 181) = false := beq_eq_false_iff_ne.2 h9
    obtain ⟨u10, v10⟩ := h10
    go_enter Tryd.func19, Tryd.ntmps19
    go_wp2_with (first | (go_at_call 39; (first | refine (snin_yes _ _ _ _ (by omega)).mono ?_ | refine (snin_no _ _ _ _ (by omega)).mono ?_); rintro e w1 ⟨rfl, hw1⟩; obtain rfl := hw1.symm; clear hw1))
    go_ret
    exact ⟨by rw [HV.out]; rfl, rfl⟩
  by_cases h11 : 248 ≤ r ∧ r ≤ 255
  · have HV := hid (show snlatin r = 5 by unfold snlatin; rw [if_neg h0, if_neg h1, if_neg h2, if_neg h3, if_neg h4, if_neg h5, if_neg h6, if_neg h7, if_neg h8, if_neg h9, if_neg h10, if_pos h11])
    have b0 : (r == 133) = false := beq_eq_false_iff_ne.2 h0
    have b1 : (r == 160) = false := beq_eq_false_iff_ne.2 h1
    have b2 : (r == 170) = false := beq_eq_false_iff_ne.2 h2
    have b3 : (r == 186) = false := beq_eq_false_iff_ne.2 h3
    have b4 : (r == 171) = false := beq_eq_false_iff_ne.2 h4
    have b5 : (r == 187) = false := beq_eq_false_iff_ne.2 h5
    have b6 : (r == 173) = false := beq_eq_false_iff_ne.2 h6
    have b9 : (r == 181) = false := beq_eq_false_iff_ne.2 h9
    obtain ⟨u11, v11⟩ := h11
    go_enter Tryd.func19, Tryd.ntmps19
    go_wp2_with (first | (go_at_call 39; (first | refine (snin_yes _ _ _ _ (by omega)).mono ?_ | refine (snin_no _ _ _ _ (by omega)).mono ?_); rintro e w1 ⟨rfl, hw1⟩; obtain rfl := hw1.symm; clear hw1))
    go_ret
    exact ⟨by rw [HV.out]; rfl, rfl⟩
  have HV := hid (show snlatin r = 0 by unfold snlatin; rw [if_neg h0, if_neg h1, if_neg h2, if_neg h3, if_neg h4, if_neg h5, if_neg h6, if_neg h7, if_neg h8, if_neg h9, if_neg h10, if_neg h11])
  have b0 : (r == 133) = false := beq_eq_false_iff_ne.2 h0
  have b1 : (r == 160) = false := beq_eq_false_iff_ne.2 h1
  have b2 : (r == 170) = false := beq_eq_false_iff_ne.2 h2
  have b3 : (r == 186) = false := beq_eq_false_iff_ne.2 h3
  have b4 : (r == 171) = false := beq_eq_false_iff_ne.2 h4
  have b5 : (r == 187) = false := beq_eq_false_iff_ne.2 h5
  have b6 : (r == 173) = false := beq_eq_false_iff_ne.2 h6
  have b9 : (r == 181) = false := beq_eq_false_iff_ne.2 h9
  go_enter Tryd.func19, Tryd.ntmps19
  go_wp2_with (first | (go_at_call 39; (first | refine (snin_yes _ _ _ _ (by omega)).mono ?_ | refine (snin_no _ _ _ _ (by omega)).mono ?_); rintro e w1 ⟨rfl, hw1⟩; obtain rfl := hw1.symm; clear hw1))
  go_ret
  exact ⟨by rw [HV.out]; rfl, rfl⟩
def sneuropean (r : Int) : Int :=
  if r ≤ 879 then 13 else if 1155 ≤ r ∧ r ≤ 1161 then 13 else if 913 ≤ r ∧ r ≤ 929 then 6 else if 931 ≤ r ∧ r ≤ 937 then 6 else if 1024 ≤ r ∧ r ≤ 1071 then 6 else if 945 ≤ r ∧ r ≤ 969 then 5 else if 1072 ≤ r ∧ r ≤ 1119 then 5 else 0
set_option maxHeartbeats 4000000 in
theorem sneuropean_any (r : Int) (w : World) : Calls Tryd.prog 20 #[.int .i32 r] w fun e w' => e = .returned (.int .i64 (sneuropean r)) ∧ w' = w := by
  by_cases h0 : r ≤ 879
  · have HV := hid (show sneuropean r = 13 by unfold sneuropean; rw [if_pos h0])
    go_enter Tryd.func20, Tryd.ntmps20
    go_wp2_with (first | (go_at_call 39; (first | refine (snin_yes _ _ _ _ (by omega)).mono ?_ | refine (snin_no _ _ _ _ (by omega)).mono ?_); rintro e w1 ⟨rfl, hw1⟩; obtain rfl := hw1.symm; clear hw1))
    go_ret
    exact ⟨by rw [HV.out]; rfl, rfl⟩
  by_cases h1 : 1155 ≤ r ∧ r ≤ 1161
  · have HV := hid (show sneuropean r = 13 by unfold sneuropean; rw [if_neg h0, if_pos h1])
    obtain ⟨u1, v1⟩ := h1
    go_enter Tryd.func20, Tryd.ntmps20
    go_wp2_with (first | (go_at_call 39; (first | refine (snin_yes _ _ _ _ (by omega)).mono ?_ | refine (snin_no _ _ _ _ (by omega)).mono ?_); rintro e w1 ⟨rfl, hw1⟩; obtain rfl := hw1.symm; clear hw1))
    go_ret
    exact ⟨by rw [HV.out]; rfl, rfl⟩
  by_cases h2 : 913 ≤ r ∧ r ≤ 929
  · have HV := hid (show sneuropean r = 6 by unfold sneuropean; rw [if_neg h0, if_neg h1, if_pos h2])
    obtain ⟨u2, v2⟩ := h2
    go_enter Tryd.func20, Tryd.ntmps20
    go_wp2_with (first | (go_at_call 39; (first | refine (snin_yes _ _ _ _ (by omega)).mono ?_ | refine (snin_no _ _ _ _ (by omega)).mono ?_); rintro e w1 ⟨rfl, hw1⟩; obtain rfl := hw1.symm; clear hw1))
    go_ret
    exact ⟨by rw [HV.out]; rfl, rfl⟩
  by_cases h3 : 931 ≤ r ∧ r ≤ 937
  · have HV := hid (show sneuropean r = 6 by unfold sneuropean; rw [if_neg h0, if_neg h1, if_neg h2, if_pos h3])
    obtain ⟨u3, v3⟩ := h3
    go_enter Tryd.func20, Tryd.ntmps20
    go_wp2_with (first | (go_at_call 39; (first | refine (snin_yes _ _ _ _ (by omega)).mono ?_ | refine (snin_no _ _ _ _ (by omega)).mono ?_); rintro e w1 ⟨rfl, hw1⟩; obtain rfl := hw1.symm; clear hw1))
    go_ret
    exact ⟨by rw [HV.out]; rfl, rfl⟩
  by_cases h4 : 1024 ≤ r ∧ r ≤ 1071
  · have HV := hid (show sneuropean r = 6 by unfold sneuropean; rw [if_neg h0, if_neg h1, if_neg h2, if_neg h3, if_pos h4])
    obtain ⟨u4, v4⟩ := h4
    go_enter Tryd.func20, Tryd.ntmps20
    go_wp2_with (first | (go_at_call 39; (first | refine (snin_yes _ _ _ _ (by omega)).mono ?_ | refine (snin_no _ _ _ _ (by omega)).mono ?_); rintro e w1 ⟨rfl, hw1⟩; obtain rfl := hw1.symm; clear hw1))
    go_ret
    exact ⟨by rw [HV.out]; rfl, rfl⟩
  by_cases h5 : 945 ≤ r ∧ r ≤ 969
  · have HV := hid (show sneuropean r = 5 by unfold sneuropean; rw [if_neg h0, if_neg h1, if_neg h2, if_neg h3, if_neg h4, if_pos h5])
    obtain ⟨u5, v5⟩ := h5
    go_enter Tryd.func20, Tryd.ntmps20
    go_wp2_with (first | (go_at_call 39; (first | refine (snin_yes _ _ _ _ (by omega)).mono ?_ | refine (snin_no _ _ _ _ (by omega)).mono ?_); rintro e w1 ⟨rfl, hw1⟩; obtain rfl := hw1.symm; clear hw1))
    go_ret
    exact ⟨by rw [HV.out]; rfl, rfl⟩
  by_cases h6 : 1072 ≤ r ∧ r ≤ 1119
  · have HV := hid (show sneuropean r = 5 by unfold sneuropean; rw [if_neg h0, if_neg h1, if_neg h2, if_neg h3, if_neg h4, if_neg h5, if_pos h6])
    obtain ⟨u6, v6⟩ := h6
    go_enter Tryd.func20, Tryd.ntmps20
    go_wp2_with (first | (go_at_call 39; (first | refine (snin_yes _ _ _ _ (by omega)).mono ?_ | refine (snin_no _ _ _ _ (by omega)).mono ?_); rintro e w1 ⟨rfl, hw1⟩; obtain rfl := hw1.symm; clear hw1))
    go_ret
    exact ⟨by rw [HV.out]; rfl, rfl⟩
  have HV := hid (show sneuropean r = 0 by unfold sneuropean; rw [if_neg h0, if_neg h1, if_neg h2, if_neg h3, if_neg h4, if_neg h5, if_neg h6])
  go_enter Tryd.func20, Tryd.ntmps20
  go_wp2_with (first | (go_at_call 39; (first | refine (snin_yes _ _ _ _ (by omega)).mono ?_ | refine (snin_no _ _ _ _ (by omega)).mono ?_); rintro e w1 ⟨rfl, hw1⟩; obtain rfl := hw1.symm; clear hw1))
  go_ret
  exact ⟨by rw [HV.out]; rfl, rfl⟩
def snsemitic (r : Int) : Int :=
  if r = 1373 then 12 else if r = 1548 then 12 else if r = 1549 then 12 else if r = 1417 then 10 else if r = 1567 then 10 else if r = 1748 then 10 else if 1488 ≤ r ∧ r ≤ 1514 then 7 else if 1569 ≤ r ∧ r ≤ 1610 then 7 else if 1611 ≤ r ∧ r ≤ 1631 then 13 else if 1632 ≤ r ∧ r ≤ 1641 then 8 else if 1776 ≤ r ∧ r ≤ 1785 then 8 else 0
set_option maxHeartbeats 4000000 in
theorem snsemitic_any (r : Int) (w : World) : Calls Tryd.prog 21 #[.int .i32 r] w fun e w' => e = .returned (.int .i64 (snsemitic r)) ∧ w' = w := by
  by_cases h0 : r = 1373
  · subst h0
    have HV := hid (show snsemitic 1373 = 12 by decide)
    skip
    go_enter Tryd.func21, Tryd.ntmps21
    go_wp2_with (first | (go_at_call 39; (first | refine (snin_yes _ _ _ _ (by omega)).mono ?_ | refine (snin_no _ _ _ _ (by omega)).mono ?_); rintro e w1 ⟨rfl, hw1⟩; obtain rfl := hw1.symm; clear hw1))
    go_ret
    exact ⟨by rw [HV.out]; rfl, rfl⟩
  by_cases h1 : r = 1548
  · subst h1
    have HV := hid (show snsemitic 1548 = 12 by decide)
    clear h0
    go_enter Tryd.func21, Tryd.ntmps21
    go_wp2_with (first | (go_at_call 39; (first | refine (snin_yes _ _ _ _ (by omega)).mono ?_ | refine (snin_no _ _ _ _ (by omega)).mono ?_); rintro e w1 ⟨rfl, hw1⟩; obtain rfl := hw1.symm; clear hw1))
    go_ret
    exact ⟨by rw [HV.out]; rfl, rfl⟩
  by_cases h2 : r = 1549
  · subst h2
    have HV := hid (show snsemitic 1549 = 12 by decide)
    clear h0 h1
    go_enter Tryd.func21, Tryd.ntmps21
    go_wp2_with (first | (go_at_call 39; (first | refine (snin_yes _ _ _ _ (by omega)).mono ?_ | refine (snin_no _ _ _ _ (by omega)).mono ?_); rintro e w1 ⟨rfl, hw1⟩; obtain rfl := hw1.symm; clear hw1))
    go_ret
    exact ⟨by rw [HV.out]; rfl, rfl⟩
  by_cases h3 : r = 1417
  · subst h3
    have HV := hid (show snsemitic 1417 = 10 by decide)
    clear h0 h1 h2
    go_enter Tryd.func21, Tryd.ntmps21
    go_wp2_with (first | (go_at_call 39; (first | refine (snin_yes _ _ _ _ (by omega)).mono ?_ | refine (snin_no _ _ _ _ (by omega)).mono ?_); rintro e w1 ⟨rfl, hw1⟩; obtain rfl := hw1.symm; clear hw1))
    go_ret
    exact ⟨by rw [HV.out]; rfl, rfl⟩
  by_cases h4 : r = 1567
  · subst h4
    have HV := hid (show snsemitic 1567 = 10 by decide)
    clear h0 h1 h2 h3
    go_enter Tryd.func21, Tryd.ntmps21
    go_wp2_with (first | (go_at_call 39; (first | refine (snin_yes _ _ _ _ (by omega)).mono ?_ | refine (snin_no _ _ _ _ (by omega)).mono ?_); rintro e w1 ⟨rfl, hw1⟩; obtain rfl := hw1.symm; clear hw1))
    go_ret
    exact ⟨by rw [HV.out]; rfl, rfl⟩
  by_cases h5 : r = 1748
  · subst h5
    have HV := hid (show snsemitic 1748 = 10 by decide)
    clear h0 h1 h2 h3 h4
    go_enter Tryd.func21, Tryd.ntmps21
    go_wp2_with (first | (go_at_call 39; (first | refine (snin_yes _ _ _ _ (by omega)).mono ?_ | refine (snin_no _ _ _ _ (by omega)).mono ?_); rintro e w1 ⟨rfl, hw1⟩; obtain rfl := hw1.symm; clear hw1))
    go_ret
    exact ⟨by rw [HV.out]; rfl, rfl⟩
  by_cases h6 : 1488 ≤ r ∧ r ≤ 1514
  · have HV := hid (show snsemitic r = 7 by unfold snsemitic; rw [if_neg h0, if_neg h1, if_neg h2, if_neg h3, if_neg h4, if_neg h5, if_pos h6])
    have b0 : (r == 1373) = false := beq_eq_false_iff_ne.2 h0
    have b1 : (r == 1548) = false := beq_eq_false_iff_ne.2 h1
    have b2 : (r == 1549) = false := beq_eq_false_iff_ne.2 h2
    have b3 : (r == 1417) = false := beq_eq_false_iff_ne.2 h3
    have b4 : (r == 1567) = false := beq_eq_false_iff_ne.2 h4
    have b5 : (r == 1748) = false := beq_eq_false_iff_ne.2 h5
    obtain ⟨u6, v6⟩ := h6
    go_enter Tryd.func21, Tryd.ntmps21
    go_wp2_with (first | (go_at_call 39; (first | refine (snin_yes _ _ _ _ (by omega)).mono ?_ | refine (snin_no _ _ _ _ (by omega)).mono ?_); rintro e w1 ⟨rfl, hw1⟩; obtain rfl := hw1.symm; clear hw1))
    go_ret
    exact ⟨by rw [HV.out]; rfl, rfl⟩
  by_cases h7 : 1569 ≤ r ∧ r ≤ 1610
  · have HV := hid (show snsemitic r = 7 by unfold snsemitic; rw [if_neg h0, if_neg h1, if_neg h2, if_neg h3, if_neg h4, if_neg h5, if_neg h6, if_pos h7])
    have b0 : (r == 1373) = false := beq_eq_false_iff_ne.2 h0
    have b1 : (r == 1548) = false := beq_eq_false_iff_ne.2 h1
    have b2 : (r == 1549) = false := beq_eq_false_iff_ne.2 h2
    have b3 : (r == 1417) = false := beq_eq_false_iff_ne.2 h3
    have b4 : (r == 1567) = false := beq_eq_false_iff_ne.2 h4
    have b5 : (r == 1748) = false := beq_eq_false_iff_ne.2 h5
    obtain ⟨u7, v7⟩ := h7
    go_enter Tryd.func21, Tryd.ntmps21
    go_wp2_with (first | (go_at_call 39; (first | refine (snin_yes _ _ _ _ (by omega)).mono ?_ | refine (snin_no _ _ _ _ (by omega)).mono ?_); rintro e w1 ⟨rfl, hw1⟩; obtain rfl := hw1.symm; clear hw1))
    go_ret
    exact ⟨by rw [HV.out]; rfl, rfl⟩
  by_cases h8 : 1611 ≤ r ∧ r ≤ 1631
  · have HV := hid (show snsemitic r = 13 by unfold snsemitic; rw [if_neg h0, if_neg h1, if_neg h2, if_neg h3, if_neg h4, if_neg h5, if_neg h6, if_neg h7, if_pos h8])
    have b0 : (r == 1373) = false := beq_eq_false_iff_ne.2 h0
    have b1 : (r == 1548) = false := beq_eq_false_iff_ne.2 h1
    have b2 : (r == 1549) = false := beq_eq_false_iff_ne.2 h2
    have b3 : (r == 1417) = false := beq_eq_false_iff_ne.2 h3
    have b4 : (r == 1567) = false := beq_eq_false_iff_ne.2 h4
    have b5 : (r == 1748) = false := beq_eq_false_iff_ne.2 h5
    obtain ⟨u8, v8⟩ := h8
    go_enter Tryd.func21, Tryd.ntmps21
    go_wp2_with (first | (go_at_call 39; (first | refine (snin_yes _ _ _ _ (by omega)).mono ?_ | refine (snin_no _ _ _ _ (by omega)).mono ?_); rintro e w1 ⟨rfl, hw1⟩; obtain rfl := hw1.symm; clear hw1))
    go_ret
    exact ⟨by rw [HV.out]; rfl, rfl⟩
  by_cases h9 : 1632 ≤ r ∧ r ≤ 1641
  · have HV := hid (show snsemitic r = 8 by unfold snsemitic; rw [if_neg h0, if_neg h1, if_neg h2, if_neg h3, if_neg h4, if_neg h5, if_neg h6, if_neg h7, if_neg h8, if_pos h9])
    have b0 : (r == 1373) = false := beq_eq_false_iff_ne.2 h0
    have b1 : (r == 1548) = false := beq_eq_false_iff_ne.2 h1
    have b2 : (r == 1549) = false := beq_eq_false_iff_ne.2 h2
    have b3 : (r == 1417) = false := beq_eq_false_iff_ne.2 h3
    have b4 : (r == 1567) = false := beq_eq_false_iff_ne.2 h4
    have b5 : (r == 1748) = false := beq_eq_false_iff_ne.2 h5
    obtain ⟨u9, v9⟩ := h9
    go_enter Tryd.func21, Tryd.ntmps21
    go_wp2_with (first | (go_at_call 39; (first | refine (snin_yes _ _ _ _ (by omega)).mono ?_ | refine (snin_no _ _ _ _ (by omega)).mono ?_); rintro e w1 ⟨rfl, hw1⟩; obtain rfl := hw1.symm; clear hw1))
    go_ret
    exact ⟨by rw [HV.out]; rfl, rfl⟩
  by_cases h10 : 1776 ≤ r ∧ r ≤ 1785
  · have HV := hid (show snsemitic r = 8 by unfold snsemitic; rw [if_neg h0, if_neg h1, if_neg h2, if_neg h3, if_neg h4, if_neg h5, if_neg h6, if_neg h7, if_neg h8, if_neg h9, if_pos h10])
    have b0 : (r == 1373) = false := beq_eq_false_iff_ne.2 h0
    have b1 : (r == 1548) = false := beq_eq_false_iff_ne.2 h1
    have b2 : (r == 1549) = false := beq_eq_false_iff_ne.2 h2
    have b3 : (r == 1417) = false := beq_eq_false_iff_ne.2 h3
    have b4 : (r == 1567) = false := beq_eq_false_iff_ne.2 h4
    have b5 : (r == 1748) = false := beq_eq_false_iff_ne.2 h5
    obtain ⟨u10, v10⟩ := h10
    go_enter Tryd.func21, Tryd.ntmps21
    go_wp2_with (first | (go_at_call 39; (first | refine (snin_yes _ _ _ _ (by omega)).mono ?_ | refine (snin_no _ _ _ _ (by omega)).mono ?_); rintro e w1 ⟨rfl, hw1⟩; obtain rfl := hw1.symm; clear hw1))
    go_ret
    exact ⟨by rw [HV.out]; rfl, rfl⟩
  have HV := hid (show snsemitic r = 0 by unfold snsemitic; rw [if_neg h0, if_neg h1, if_neg h2, if_neg h3, if_neg h4, if_neg h5, if_neg h6, if_neg h7, if_neg h8, if_neg h9, if_neg h10])
  have b0 : (r == 1373) = false := beq_eq_false_iff_ne.2 h0
  have b1 : (r == 1548) = false := beq_eq_false_iff_ne.2 h1
  have b2 : (r == 1549) = false := beq_eq_false_iff_ne.2 h2
  have b3 : (r == 1417) = false := beq_eq_false_iff_ne.2 h3
  have b4 : (r == 1567) = false := beq_eq_false_iff_ne.2 h4
  have b5 : (r == 1748) = false := beq_eq_false_iff_ne.2 h5
  go_enter Tryd.func21, Tryd.ntmps21
  go_wp2_with (first | (go_at_call 39; (first | refine (snin_yes _ _ _ _ (by omega)).mono ?_ | refine (snin_no _ _ _ _ (by omega)).mono ?_); rintro e w1 ⟨rfl, hw1⟩; obtain rfl := hw1.symm; clear hw1))
  go_ret
  exact ⟨by rw [HV.out]; rfl, rfl⟩
def snindic (r : Int) : Int :=
  if 2308 ≤ r ∧ r ≤ 2361 then 7 else if 3585 ≤ r ∧ r ≤ 3632 then 7 else if 4352 ≤ r ∧ r ≤ 4607 then 7 else if r = 2364 then 13 else if r = 2381 then 13 else if r = 2404 then 10 else if r = 2405 then 10 else if 2406 ≤ r ∧ r ≤ 2415 then 8 else if r = 5760 then 4 else 0
set_option maxHeartbeats 4000000 in
theorem snindic_any (r : Int) (w : World) : Calls Tryd.prog 22 #[.int .i32 r] w fun e w' => e = .returned (.int .i64 (snindic r)) ∧ w' = w := by
  by_cases h0 : 2308 ≤ r ∧ r ≤ 2361
  · have HV := hid (show snindic r = 7 by unfold snindic; rw [if_pos h0])
    obtain ⟨u0, v0⟩ := h0
    go_enter Tryd.func22, Tryd.ntmps22
    go_wp2_with (first | (go_at_call 39; (first | refine (snin_yes _ _ _ _ (by omega)).mono ?_ | refine (snin_no _ _ _ _ (by omega)).mono ?_); rintro e w1 ⟨rfl, hw1⟩; obtain rfl := hw1.symm; clear hw1))
    go_ret
    exact ⟨by rw [HV.out]; rfl, rfl⟩
  by_cases h1 : 3585 ≤ r ∧ r ≤ 3632
  · have HV := hid (show snindic r = 7 by unfold snindic; rw [if_neg h0, if_pos h1])
    obtain ⟨u1, v1⟩ := h1
    go_enter Tryd.func22, Tryd.ntmps22
    go_wp2_with (first | (go_at_call 39; (first | refine (snin_yes _ _ _ _ (by omega)).mono ?_ | refine (snin_no _ _ _ _ (by omega)).mono ?_); rintro e w1 ⟨rfl, hw1⟩; obtain rfl := hw1.symm; clear hw1))
    go_ret
    exact ⟨by rw [HV.out]; rfl, rfl⟩
  by_cases h2 : 4352 ≤ r ∧ r ≤ 4607
  · have HV := hid (show snindic r = 7 by unfold snindic; rw [if_neg h0, if_neg h1, if_pos h2])
    obtain ⟨u2, v2⟩ := h2
    go_enter Tryd.func22, Tryd.ntmps22
    go_wp2_with (first | (go_at_call 39; (first | refine (snin_yes _ _ _ _ (by omega)).mono ?_ | refine (snin_no _ _ _ _ (by omega)).mono ?_); rintro e w1 ⟨rfl, hw1⟩; obtain rfl := hw1.symm; clear hw1))
    go_ret
    exact ⟨by rw [HV.out]; rfl, rfl⟩
  by_cases h3 : r = 2364
  · subst h3
    have HV := hid (show snindic 2364 = 13 by decide)
    clear h0 h1 h2
    go_enter Tryd.func22, Tryd.ntmps22
    go_wp2_with (first | (go_at_call 39; (first | refine (snin_yes _ _ _ _ (by omega)).mono ?_ | refine (snin_no _ _ _ _ (by omega)).mono ?_); rintro e w1 ⟨rfl, hw1⟩; obtain rfl := hw1.symm; clear hw1))
    go_ret
    exact ⟨by rw [HV.out]; rfl, rfl⟩
  by_cases h4 : r = 2381
  · subst h4
    have HV := hid (show snindic 2381 = 13 by decide)
    clear h0 h1 h2 h3
    go_enter Tryd.func22, Tryd.ntmps22
    go_wp2_with (first | (go_at_call 39; (first | refine (snin_yes _ _ _ _ (by omega)).mono ?_ | refine (snin_no _ _ _ _ (by omega)).mono ?_); rintro e w1 ⟨rfl, hw1⟩; obtain rfl := hw1.symm; clear hw1))
    go_ret
    exact ⟨by rw [HV.out]; rfl, rfl⟩
  by_cases h5 : r = 2404
  · subst h5
    have HV := hid (show snindic 2404 = 10 by decide)
    clear h0 h1 h2 h3 h4
    go_enter Tryd.func22, Tryd.ntmps22
    go_wp2_with (first | (go_at_call 39; (first | refine (snin_yes _ _ _ _ (by omega)).mono ?_ | refine (snin_no _ _ _ _ (by omega)).mono ?_); rintro e w1 ⟨rfl, hw1⟩; obtain rfl := hw1.symm; clear hw1))
    go_ret
    exact ⟨by rw [HV.out]; rfl, rfl⟩
  by_cases h6 : r = 2405
  · subst h6
    have HV := hid (show snindic 2405 = 10 by decide)
    clear h0 h1 h2 h3 h4 h5
    go_enter Tryd.func22, Tryd.ntmps22
    go_wp2_with (first | (go_at_call 39; (first | refine (snin_yes _ _ _ _ (by omega)).mono ?_ | refine (snin_no _ _ _ _ (by omega)).mono ?_); rintro e w1 ⟨rfl, hw1⟩; obtain rfl := hw1.symm; clear hw1))
    go_ret
    exact ⟨by rw [HV.out]; rfl, rfl⟩
  by_cases h7 : 2406 ≤ r ∧ r ≤ 2415
  · have HV := hid (show snindic r = 8 by unfold snindic; rw [if_neg h0, if_neg h1, if_neg h2, if_neg h3, if_neg h4, if_neg h5, if_neg h6, if_pos h7])
    have b3 : (r == 2364) = false := beq_eq_false_iff_ne.2 h3
    have b4 : (r == 2381) = false := beq_eq_false_iff_ne.2 h4
    have b5 : (r == 2404) = false := beq_eq_false_iff_ne.2 h5
    have b6 : (r == 2405) = false := beq_eq_false_iff_ne.2 h6
    obtain ⟨u7, v7⟩ := h7
    go_enter Tryd.func22, Tryd.ntmps22
    go_wp2_with (first | (go_at_call 39; (first | refine (snin_yes _ _ _ _ (by omega)).mono ?_ | refine (snin_no _ _ _ _ (by omega)).mono ?_); rintro e w1 ⟨rfl, hw1⟩; obtain rfl := hw1.symm; clear hw1))
    go_ret
    exact ⟨by rw [HV.out]; rfl, rfl⟩
  by_cases h8 : r = 5760
  · subst h8
    have HV := hid (show snindic 5760 = 4 by decide)
    clear h0 h1 h2 h3 h4 h5 h6 h7
    go_enter Tryd.func22, Tryd.ntmps22
    go_wp2_with (first | (go_at_call 39; (first | refine (snin_yes _ _ _ _ (by omega)).mono ?_ | refine (snin_no _ _ _ _ (by omega)).mono ?_); rintro e w1 ⟨rfl, hw1⟩; obtain rfl := hw1.symm; clear hw1))
    go_ret
    exact ⟨by rw [HV.out]; rfl, rfl⟩
  have HV := hid (show snindic r = 0 by unfold snindic; rw [if_neg h0, if_neg h1, if_neg h2, if_neg h3, if_neg h4, if_neg h5, if_neg h6, if_neg h7, if_neg h8])
  have b3 : (r == 2364) = false := beq_eq_false_iff_ne.2 h3
  have b4 : (r == 2381) = false := beq_eq_false_iff_ne.2 h4
  have b5 : (r == 2404) = false := beq_eq_false_iff_ne.2 h5
  have b6 : (r == 2405) = false := beq_eq_false_iff_ne.2 h6
  have b8 : (r == 5760) = false := beq_eq_false_iff_ne.2 h8
  go_enter Tryd.func22, Tryd.ntmps22
  go_wp2_with (first | (go_at_call 39; (first | refine (snin_yes _ _ _ _ (by omega)).mono ?_ | refine (snin_no _ _ _ _ (by omega)).mono ?_); rintro e w1 ⟨rfl, hw1⟩; obtain rfl := hw1.symm; clear hw1))
  go_ret
  exact ⟨by rw [HV.out]; rfl, rfl⟩
def snpunct (r : Int) : Int :=
  if r ≤ 8202 then 4 else if r = 8239 then 4 else if r = 8287 then 4 else if r ≤ 8207 then 13 else if 8234 ≤ r ∧ r ≤ 8238 then 13 else if 8288 ≤ r ∧ r ≤ 8292 then 13 else if 8400 ≤ r ∧ r ≤ 8432 then 13 else if r = 8211 then 12 else if r = 8212 then 12 else if 8216 ≤ r ∧ r ≤ 8223 then 11 else if r = 8249 then 11 else if r = 8250 then 11 else if r = 8261 then 11 else if r = 8262 then 11 else if r = 8228 then 9 else if r = 8232 then 3 else if r = 8233 then 3 else if r = 8252 then 10 else if r = 8253 then 10 else if 8263 ≤ r ∧ r ≤ 8265 then 10 else 0
set_option maxHeartbeats 4000000 in
theorem snpunct_any (r : Int) (w : World) : Calls Tryd.prog 23 #[.int .i32 r] w fun e w' => e = .returned (.int .i64 (snpunct r)) ∧ w' = w := by
  by_cases h0 : r ≤ 8202
  · have HV := hid (show snpunct r = 4 by unfold snpunct; rw [if_pos h0])
    go_enter Tryd.func23, Tryd.ntmps23
    go_wp2_with (first | (go_at_call 39; (first | refine (snin_yes _ _ _ _ (by omega)).mono ?_ | refine (snin_no _ _ _ _ (by omega)).mono ?_); rintro e w1 ⟨rfl, hw1⟩; obtain rfl := hw1.symm; clear hw1))
    go_ret
    exact ⟨by rw [HV.out]; rfl, rfl⟩
  by_cases h1 : r = 8239
  · subst h1
    have HV := hid (show snpunct 8239 = 4 by decide)
    clear h0
    go_enter Tryd.func23, Tryd.ntmps23
    go_wp2_with (first | (go_at_call 39; (first | refine (snin_yes _ _ _ _ (by omega)).mono ?_ | refine (snin_no _ _ _ _ (by omega)).mono ?_); rintro e w1 ⟨rfl, hw1⟩; obtain rfl := hw1.symm; clear hw1))
    go_ret
    exact ⟨by rw [HV.out]; rfl, rfl⟩
  by_cases h2 : r = 8287
  · subst h2
    have HV := hid (show snpunct 8287 = 4 by decide)
    clear h0 h1
    go_enter Tryd.func23, Tryd.ntmps23
    go_wp2_with (first | (go_at_call 39; (first | refine (snin_yes _ _ _ _ (by omega)).mono ?_ | refine (snin_no _ _ _ _ (by omega)).mono ?_); rintro e w1 ⟨rfl, hw1⟩; obtain rfl := hw1.symm; clear hw1))
    go_ret
    exact ⟨by rw [HV.out]; rfl, rfl⟩
  by_cases h3 : r ≤ 8207
  · have HV := hid (show snpunct r = 13 by unfold snpunct; rw [if_neg h0, if_neg h1, if_neg h2, if_pos h3])
    have b1 : (r == 8239) = false := beq_eq_false_iff_ne.2 h1
    have b2 : (r == 8287) = false := beq_eq_false_iff_ne.2 h2
    go_enter Tryd.func23, Tryd.ntmps23
    go_wp2_with (first | (go_at_call 39; (first | refine (snin_yes _ _ _ _ (by omega)).mono ?_ | refine (snin_no _ _ _ _ (by omega)).mono ?_); rintro e w1 ⟨rfl, hw1⟩; obtain rfl := hw1.symm; clear hw1))
    go_ret
    exact ⟨by rw [HV.out]; rfl, rfl⟩
  by_cases h4 : 8234 ≤ r ∧ r ≤ 8238
  · have HV := hid (show snpunct r = 13 by unfold snpunct; rw [if_neg h0, if_neg h1, if_neg h2, if_neg h3, if_pos h4])
    have b1 : (r == 8239) = false := beq_eq_false_iff_ne.2 h1
    have b2 : (r == 8287) = false := beq_eq_false_iff_ne.2 h2
    obtain ⟨u4, v4⟩ := h4
    go_enter Tryd.func23, Tryd.ntmps23
    go_wp2_with (first | (go_at_call 39; (first | refine (snin_yes _ _ _ _ (by omega)).mono ?_ | refine (snin_no _ _ _ _ (by omega)).mono ?_); rintro e w1 ⟨rfl, hw1⟩; obtain rfl := hw1.symm; clear hw1))
    go_ret
    exact ⟨by rw [HV.out]; rfl, rfl⟩
  by_cases h5 : 8288 ≤ r ∧ r ≤ 8292
  · have HV := hid (show snpunct r = 13 by unfold snpunct; rw [if_neg h0, if_neg h1, if_neg h2, if_neg h3, if_neg h4, if_pos h5])
    have b1 : (r == 8239) = false := beq_eq_false_iff_ne.2 h1
    have b2 : (r == 8287) = false := beq_eq_false_iff_ne.2 h2
    obtain ⟨u5, v5⟩ := h5
    go_enter Tryd.func23, Tryd.ntmps23
    go_wp2_with (first | (go_at_call 39; (first | refine (snin_yes _ _ _ _ (by omega)).mono ?_ | refine (snin_no _ _ _ _ (by omega)).mono ?_); rintro e w1 ⟨rfl, hw1⟩; obtain rfl := hw1.symm; clear hw1))
    go_ret
    exact ⟨by rw [HV.out]; rfl, rfl⟩
  by_cases h6 : 8400 ≤ r ∧ r ≤ 8432
  · have HV := hid (show snpunct r = 13 by unfold snpunct; rw [if_neg h0, if_neg h1, if_neg h2, if_neg h3, if_neg h4, if_neg h5, if_pos h6])
    have b1 : (r == 8239) = false := beq_eq_false_iff_ne.2 h1
    have b2 : (r == 8287) = false := beq_eq_false_iff_ne.2 h2
    obtain ⟨u6, v6⟩ := h6
    go_enter Tryd.func23, Tryd.ntmps23
    go_wp2_with (first | (go_at_call 39; (first | refine (snin_yes _ _ _ _ (by omega)).mono ?_ | refine (snin_no _ _ _ _ (by omega)).mono ?_); rintro e w1 ⟨rfl, hw1⟩; obtain rfl := hw1.symm; clear hw1))
    go_ret
    exact ⟨by rw [HV.out]; rfl, rfl⟩
  by_cases h7 : r = 8211
  · subst h7
    have HV := hid (show snpunct 8211 = 12 by decide)
    clear h0 h1 h2 h3 h4 h5 h6
    go_enter Tryd.func23, Tryd.ntmps23
    go_wp2_with (first | (go_at_call 39; (first | refine (snin_yes _ _ _ _ (by omega)).mono ?_ | refine (snin_no _ _ _ _ (by omega)).mono ?_); rintro e w1 ⟨rfl, hw1⟩; obtain rfl := hw1.symm; clear hw1))
    go_ret
    exact ⟨by rw [HV.out]; rfl, rfl⟩
  by_cases h8 : r = 8212
  · subst h8
    have HV := hid (show snpunct 8212 = 12 by decide)
    clear h0 h1 h2 h3 h4 h5 h6 h7
    go_enter Tryd.func23, Tryd.ntmps23
    go_wp2_with (first | (go_at_call 39; (first | refine (snin_yes _ _ _ _ (by omega)).mono ?_ | refine (snin_no _ _ _ _ (by omega)).mono ?_); rintro e w1 ⟨rfl, hw1⟩; obtain rfl := hw1.symm; clear hw1))
    go_ret
    exact ⟨by rw [HV.out]; rfl, rfl⟩
  by_cases h9 : 8216 ≤ r ∧ r ≤ 8223
  · have HV := hid (show snpunct r = 11 by unfold snpunct; rw [if_neg h0, if_neg h1, if_neg h2, if_neg h3, if_neg h4, if_neg h5, if_neg h6, if_neg h7, if_neg h8, if_pos h9])
    have b1 : (r == 8239) = false := beq_eq_false_iff_ne.2 h1
    have b2 : (r == 8287) = false := beq_eq_false_iff_ne.2 h2
    have b7 : (r == 8211) = false := beq_eq_false_iff_ne.2 h7
    have b8 : (r == 8212) = false := beq_eq_false_iff_ne.2 h8
    obtain ⟨u9, v9⟩ := h9
    go_enter Tryd.func23, Tryd.ntmps23
    go_wp2_with (first | (go_at_call 39; (first | refine (snin_yes _ _ _ _ (by omega)).mono ?_ | refine (snin_no _ _ _ _ (by omega)).mono ?_); rintro e w1 ⟨rfl, hw1⟩; obtain rfl := hw1.symm; clear hw1))
    go_ret
    exact ⟨by rw [HV.out]; rfl, rfl⟩
  by_cases h10 : r = 8249
  · subst h10
    have HV := hid (show snpunct 8249 = 11 by decide)
    clear h0 h1 h2 h3 h4 h5 h6 h7 h8 h9
    go_enter Tryd.func23, Tryd.ntmps23
    go_wp2_with (first | (go_at_call 39; (first | refine (snin_yes _ _ _ _ (by omega)).mono ?_ | refine (snin_no _ _ _ _ (by omega)).mono ?_); rintro e w1 ⟨rfl, hw1⟩; obtain rfl := hw1.symm; clear hw1))
    go_ret
    exact ⟨by rw [HV.out]; rfl, rfl⟩
  by_cases h11 : r = 8250
  · subst h11
    have HV := hid (show snpunct 8250 = 11 by decide)
    clear h0 h1 h2 h3 h4 h5 h6 h7 h8 h9 h10
    go_enter Tryd.func23, Tryd.ntmps23
    go_wp2_with (first | (go_at_call 39; (first | refine (snin_yes _ _ _ _ (by omega)).mono ?_ | refine (snin_no _ _ _ _ (by omega)).mono ?_); rintro e w1 ⟨rfl, hw1⟩; obtain rfl := hw1.symm; clear hw1))
    go_ret
    exact ⟨by rw [HV.out]; rfl, rfl⟩
  by_cases h12 : r = 8261
  · subst h12
    have HV := hid (show snpunct 8261 = 11 by decide)
    clear h0 h1 h2 h3 h4 h5 h6 h7 h8 h9 h10 h11
    go_enter Tryd.func23, Tryd.ntmps23
    go_wp2_with (first | (go_at_call 39; (first | refine (snin_yes _ _ _ _ (by omega)).mono ?_ | refine (snin_no _ _ _ _ (by omega)).mono ?_); rintro e w1 ⟨rfl, hw1⟩; obtain rfl := hw1.symm; clear hw1))
    go_ret
    exact ⟨by rw [HV.out]; rfl, rfl⟩
  by_cases h13 : r = 8262
  · subst h13
    have HV := hid (show snpunct 8262 = 11 by decide)
    clear h0 h1 h2 h3 h4 h5 h6 h7 h8 h9 h10 h11 h12
    go_enter Tryd.func23, Tryd.ntmps23
    go_wp2_with (first | (go_at_call 39; (first | refine (snin_yes _ _ _ _ (by omega)).mono ?_ | refine (snin_no _ _ _ _ (by omega)).mono ?_); rintro e w1 ⟨rfl, hw1⟩; obtain rfl := hw1.symm; clear hw1))
    go_ret
    exact ⟨by rw [HV.out]; rfl, rfl⟩
  by_cases h14 : r = 8228
  · subst h14
    have HV := hid (show snpunct 8228 = 9 by decide)
    clear h0 h1 h2 h3 h4 h5 h6 h7 h8 h9 h10 h11 h12 h13
    go_enter Tryd.func23, Tryd.ntmps23
    go_wp2_with (first | (go_at_call 39; (first | refine (snin_yes _ _ _ _ (by omega)).mono ?_ | refine (snin_no _ _ _ _ (by omega)).mono ?_); rintro e w1 ⟨rfl, hw1⟩; obtain rfl := hw1.symm; clear hw1))
    go_ret
    exact ⟨by rw [HV.out]; rfl, rfl⟩
  by_cases h15 : r = 8232
  · subst h15
    have HV := hid (show snpunct 8232 = 3 by decide)
    clear h0 h1 h2 h3 h4 h5 h6 h7 h8 h9 h10 h11 h12 h13 h14
    go_enter Tryd.func23, Tryd.ntmps23
    go_wp2_with (first | (go_at_call 39; (first | refine (snin_yes _ _ _ _ (by omega)).mono ?_ | refine (snin_no _ _ _ _ (by omega)).mono ?_); rintro e w1 ⟨rfl, hw1⟩; obtain rfl := hw1.symm; clear hw1))
    go_ret
    exact ⟨by rw [HV.out]; rfl, rfl⟩
  by_cases h16 : r = 8233
  · subst h16
    have HV := hid (show snpunct 8233 = 3 by decide)
    clear h0 h1 h2 h3 h4 h5 h6 h7 h8 h9 h10 h11 h12 h13 h14 h15
    go_enter Tryd.func23, Tryd.ntmps23
    go_wp2_with (first | (go_at_call 39; (first | refine (snin_yes _ _ _ _ (by omega)).mono ?_ | refine (snin_no _ _ _ _ (by omega)).mono ?_); rintro e w1 ⟨rfl, hw1⟩; obtain rfl := hw1.symm; clear hw1))
    go_ret
    exact ⟨by rw [HV.out]; rfl, rfl⟩
  by_cases h17 : r = 8252
  · subst h17
    have HV := hid (show snpunct 8252 = 10 by decide)
    clear h0 h1 h2 h3 h4 h5 h6 h7 h8 h9 h10 h11 h12 h13 h14 h15 h16
    go_enter Tryd.func23, Tryd.ntmps23
    go_wp2_with (first | (go_at_call 39; (first | refine (snin_yes _ _ _ _ (by omega)).mono ?_ | refine (snin_no _ _ _ _ (by omega)).mono ?_); rintro e w1 ⟨rfl, hw1⟩; obtain rfl := hw1.symm; clear hw1))
    go_ret
    exact ⟨by rw [HV.out]; rfl, rfl⟩
  by_cases h18 : r = 8253
  · subst h18
    have HV := hid (show snpunct 8253 = 10 by decide)
    clear h0 h1 h2 h3 h4 h5 h6 h7 h8 h9 h10 h11 h12 h13 h14 h15 h16 h17
    go_enter Tryd.func23, Tryd.ntmps23
    go_wp2_with (first | (go_at_call 39; (first | refine (snin_yes _ _ _ _ (by omega)).mono ?_ | refine (snin_no _ _ _ _ (by omega)).mono ?_); rintro e w1 ⟨rfl, hw1⟩; obtain rfl := hw1.symm; clear hw1))
    go_ret
    exact ⟨by rw [HV.out]; rfl, rfl⟩
  by_cases h19 : 8263 ≤ r ∧ r ≤ 8265
  · have HV := hid (show snpunct r = 10 by unfold snpunct; rw [if_neg h0, if_neg h1, if_neg h2, if_neg h3, if_neg h4, if_neg h5, if_neg h6, if_neg h7, if_neg h8, if_neg h9, if_neg h10, if_neg h11, if_neg h12, if_neg h13, if_neg h14, if_neg h15, if_neg h16, if_neg h17, if_neg h18, if_pos h19])
    have b1 : (r == 8239) = false := beq_eq_false_iff_ne.2 h1
    have b2 : (r == 8287) = false := beq_eq_false_iff_ne.2 h2
    have b7 : (r == 8211) = false := beq_eq_false_iff_ne.2 h7
    have b8 : (r == 8212) = false := beq_eq_false_iff_ne.2 h8
    have b10 : (r == 8249) = false := beq_eq_false_iff_ne.2 h10
    have b11 : (r == 8250) = false := beq_eq_false_iff_ne.2 h11
    have b12 : (r == 8261) = false := beq_eq_false_iff_ne.2 h12
    have b13 : (r == 8262) = false := beq_eq_false_iff_ne.2 h13
    have b14 : (r == 8228) = false := beq_eq_false_iff_ne.2 h14
    have b15 : (r == 8232) = false := beq_eq_false_iff_ne.2 h15
    have b16 : (r == 8233) = false := beq_eq_false_iff_ne.2 h16
    have b17 : (r == 8252) = false := beq_eq_false_iff_ne.2 h17
    have b18 : (r == 8253) = false := beq_eq_false_iff_ne.2 h18
    obtain ⟨u19, v19⟩ := h19
    go_enter Tryd.func23, Tryd.ntmps23
    go_wp2_with (first | (go_at_call 39; (first | refine (snin_yes _ _ _ _ (by omega)).mono ?_ | refine (snin_no _ _ _ _ (by omega)).mono ?_); rintro e w1 ⟨rfl, hw1⟩; obtain rfl := hw1.symm; clear hw1))
    go_ret
    exact ⟨by rw [HV.out]; rfl, rfl⟩
  have HV := hid (show snpunct r = 0 by unfold snpunct; rw [if_neg h0, if_neg h1, if_neg h2, if_neg h3, if_neg h4, if_neg h5, if_neg h6, if_neg h7, if_neg h8, if_neg h9, if_neg h10, if_neg h11, if_neg h12, if_neg h13, if_neg h14, if_neg h15, if_neg h16, if_neg h17, if_neg h18, if_neg h19])
  have b1 : (r == 8239) = false := beq_eq_false_iff_ne.2 h1
  have b2 : (r == 8287) = false := beq_eq_false_iff_ne.2 h2
  have b7 : (r == 8211) = false := beq_eq_false_iff_ne.2 h7
  have b8 : (r == 8212) = false := beq_eq_false_iff_ne.2 h8
  have b10 : (r == 8249) = false := beq_eq_false_iff_ne.2 h10
  have b11 : (r == 8250) = false := beq_eq_false_iff_ne.2 h11
  have b12 : (r == 8261) = false := beq_eq_false_iff_ne.2 h12
  have b13 : (r == 8262) = false := beq_eq_false_iff_ne.2 h13
  have b14 : (r == 8228) = false := beq_eq_false_iff_ne.2 h14
  have b15 : (r == 8232) = false := beq_eq_false_iff_ne.2 h15
  have b16 : (r == 8233) = false := beq_eq_false_iff_ne.2 h16
  have b17 : (r == 8252) = false := beq_eq_false_iff_ne.2 h17
  have b18 : (r == 8253) = false := beq_eq_false_iff_ne.2 h18
  go_enter Tryd.func23, Tryd.ntmps23
  go_wp2_with (first | (go_at_call 39; (first | refine (snin_yes _ _ _ _ (by omega)).mono ?_ | refine (snin_no _ _ _ _ (by omega)).mono ?_); rintro e w1 ⟨rfl, hw1⟩; obtain rfl := hw1.symm; clear hw1))
  go_ret
  exact ⟨by rw [HV.out]; rfl, rfl⟩
def snkana (r : Int) : Int :=
  if r = 12288 then 4 else if r = 12289 then 12 else if r = 12290 then 10 else if 12296 ≤ r ∧ r ≤ 12305 then 11 else if 12353 ≤ r ∧ r ≤ 12438 then 7 else if 12449 ≤ r ∧ r ≤ 12538 then 7 else 0
set_option maxHeartbeats 4000000 in
theorem snkana_any (r : Int) (w : World) : Calls Tryd.prog 24 #[.int .i32 r] w fun e w' => e = .returned (.int .i64 (snkana r)) ∧ w' = w := by
  by_cases h0 : r = 12288
  · subst h0
    have HV := hid (show snkana 12288 = 4 by decide)
    skip
    go_enter Tryd.func24, Tryd.ntmps24
    go_wp2_with (first | (go_at_call 39; (first | refine (snin_yes _ _ _ _ (by omega)).mono ?_ | refine (snin_no _ _ _ _ (by omega)).mono ?_); rintro e w1 ⟨rfl, hw1⟩; obtain rfl := hw1.symm; clear hw1))
    go_ret
    exact ⟨by rw [HV.out]; rfl, rfl⟩
  by_cases h1 : r = 12289
  · subst h1
    have HV := hid (show snkana 12289 = 12 by decide)
    clear h0
    go_enter Tryd.func24, Tryd.ntmps24
    go_wp2_with (first | (go_at_call 39; (first | refine (snin_yes _ _ _ _ (by omega)).mono ?_ | refine (snin_no _ _ _ _ (by omega)).mono ?_); rintro e w1 ⟨rfl, hw1⟩; obtain rfl := hw1.symm; clear hw1))
    go_ret
    exact ⟨by rw [HV.out]; rfl, rfl⟩
  by_cases h2 : r = 12290
  · subst h2
    have HV := hid (show snkana 12290 = 10 by decide)
    clear h0 h1
    go_enter Tryd.func24, Tryd.ntmps24
    go_wp2_with (first | (go_at_call 39; (first | refine (snin_yes _ _ _ _ (by omega)).mono ?_ | refine (snin_no _ _ _ _ (by omega)).mono ?_); rintro e w1 ⟨rfl, hw1⟩; obtain rfl := hw1.symm; clear hw1))
    go_ret
    exact ⟨by rw [HV.out]; rfl, rfl⟩
  by_cases h3 : 12296 ≤ r ∧ r ≤ 12305
  · have HV := hid (show snkana r = 11 by unfold snkana; rw [if_neg h0, if_neg h1, if_neg h2, if_pos h3])
    have b0 : (r == 12288) = false := beq_eq_false_iff_ne.2 h0
    have b1 : (r == 12289) = false := beq_eq_false_iff_ne.2 h1
    have b2 : (r == 12290) = false := beq_eq_false_iff_ne.2 h2
    obtain ⟨u3, v3⟩ := h3
    go_enter Tryd.func24, Tryd.ntmps24
    go_wp2_with (first | (go_at_call 39; (first | refine (snin_yes _ _ _ _ (by omega)).mono ?_ | refine (snin_no _ _ _ _ (by omega)).mono ?_); rintro e w1 ⟨rfl, hw1⟩; obtain rfl := hw1.symm; clear hw1))
    go_ret
    exact ⟨by rw [HV.out]; rfl, rfl⟩
  by_cases h4 : 12353 ≤ r ∧ r ≤ 12438
  · have HV := hid (show snkana r = 7 by unfold snkana; rw [if_neg h0, if_neg h1, if_neg h2, if_neg h3, if_pos h4])
    have b0 : (r == 12288) = false := beq_eq_false_iff_ne.2 h0
    have b1 : (r == 12289) = false := beq_eq_false_iff_ne.2 h1
    have b2 : (r == 12290) = false := beq_eq_false_iff_ne.2 h2
    obtain ⟨u4, v4⟩ := h4
    go_enter Tryd.func24, Tryd.ntmps24
    go_wp2_with (first | (go_at_call 39; (first | refine (snin_yes _ _ _ _ (by omega)).mono ?_ | refine (snin_no _ _ _ _ (by omega)).mono ?_); rintro e w1 ⟨rfl, hw1⟩; obtain rfl := hw1.symm; clear hw1))
    go_ret
    exact ⟨by rw [HV.out]; rfl, rfl⟩
  by_cases h5 : 12449 ≤ r ∧ r ≤ 12538
  · have HV := hid (show snkana r = 7 by unfold snkana; rw [if_neg h0, if_neg h1, if_neg h2, if_neg h3, if_neg h4, if_pos h5])
    have b0 : (r == 12288) = false := beq_eq_false_iff_ne.2 h0
    have b1 : (r == 12289) = false := beq_eq_false_iff_ne.2 h1
    have b2 : (r == 12290) = false := beq_eq_false_iff_ne.2 h2
    obtain ⟨u5, v5⟩ := h5
    go_enter Tryd.func24, Tryd.ntmps24
    go_wp2_with (first | (go_at_call 39; (first | refine (snin_yes _ _ _ _ (by omega)).mono ?_ | refine (snin_no _ _ _ _ (by omega)).mono ?_); rintro e w1 ⟨rfl, hw1⟩; obtain rfl := hw1.symm; clear hw1))
    go_ret
    exact ⟨by rw [HV.out]; rfl, rfl⟩
  have HV := hid (show snkana r = 0 by unfold snkana; rw [if_neg h0, if_neg h1, if_neg h2, if_neg h3, if_neg h4, if_neg h5])
  have b0 : (r == 12288) = false := beq_eq_false_iff_ne.2 h0
  have b1 : (r == 12289) = false := beq_eq_false_iff_ne.2 h1
  have b2 : (r == 12290) = false := beq_eq_false_iff_ne.2 h2
  go_enter Tryd.func24, Tryd.ntmps24
  go_wp2_with (first | (go_at_call 39; (first | refine (snin_yes _ _ _ _ (by omega)).mono ?_ | refine (snin_no _ _ _ _ (by omega)).mono ?_); rintro e w1 ⟨rfl, hw1⟩; obtain rfl := hw1.symm; clear hw1))
  go_ret
  exact ⟨by rw [HV.out]; rfl, rfl⟩
def snhigh (r : Int) : Int :=
  if 19968 ≤ r ∧ r ≤ 40959 then 7 else if 44032 ≤ r ∧ r ≤ 55203 then 7 else if 65024 ≤ r ∧ r ≤ 65039 then 13 else if r = 65279 then 13 else if 127995 ≤ r ∧ r ≤ 127999 then 13 else if r = 65106 then 9 else if r = 65294 then 9 else if r = 65281 then 10 else if r = 65311 then 10 else if r = 65377 then 10 else if r = 65292 then 12 else if r = 65293 then 12 else if r = 65306 then 12 else 0
set_option maxHeartbeats 4000000 in
theorem snhigh_any (r : Int) (w : World) : Calls Tryd.prog 25 #[.int .i32 r] w fun e w' => e = .returned (.int .i64 (snhigh r)) ∧ w' = w := by
  by_cases h0 : 19968 ≤ r ∧ r ≤ 40959
  · have HV := hid (show snhigh r = 7 by unfold snhigh; rw [if_pos h0])
    obtain ⟨u0, v0⟩ := h0
    go_enter Tryd.func25, Tryd.ntmps25
    go_wp2_with (first | (go_at_call 39; (first | refine (snin_yes _ _ _ _ (by omega)).mono ?_ | refine (snin_no _ _ _ _ (by omega)).mono ?_); rintro e w1 ⟨rfl, hw1⟩; obtain rfl := hw1.symm; clear hw1))
    go_ret
    exact ⟨by rw [HV.out]; rfl, rfl⟩
  by_cases h1 : 44032 ≤ r ∧ r ≤ 55203
  · have HV := hid (show snhigh r = 7 by unfold snhigh; rw [if_neg h0, if_pos h1])
    obtain ⟨u1, v1⟩ := h1
    go_enter Tryd.func25, Tryd.ntmps25
    go_wp2_with (first | (go_at_call 39; (first | refine (snin_yes _ _ _ _ (by omega)).mono ?_ | refine (snin_no _ _ _ _ (by omega)).mono ?_); rintro e w1 ⟨rfl, hw1⟩; obtain rfl := hw1.symm; clear hw1))
    go_ret
    exact ⟨by rw [HV.out]; rfl, rfl⟩
  by_cases h2 : 65024 ≤ r ∧ r ≤ 65039
  · have HV := hid (show snhigh r = 13 by unfold snhigh; rw [if_neg h0, if_neg h1, if_pos h2])
    obtain ⟨u2, v2⟩ := h2
    go_enter Tryd.func25, Tryd.ntmps25
    go_wp2_with (first | (go_at_call 39; (first | refine (snin_yes _ _ _ _ (by omega)).mono ?_ | refine (snin_no _ _ _ _ (by omega)).mono ?_); rintro e w1 ⟨rfl, hw1⟩; obtain rfl := hw1.symm; clear hw1))
    go_ret
    exact ⟨by rw [HV.out]; rfl, rfl⟩
  by_cases h3 : r = 65279
  · subst h3
    have HV := hid (show snhigh 65279 = 13 by decide)
    clear h0 h1 h2
    go_enter Tryd.func25, Tryd.ntmps25
    go_wp2_with (first | (go_at_call 39; (first | refine (snin_yes _ _ _ _ (by omega)).mono ?_ | refine (snin_no _ _ _ _ (by omega)).mono ?_); rintro e w1 ⟨rfl, hw1⟩; obtain rfl := hw1.symm; clear hw1))
    go_ret
    exact ⟨by rw [HV.out]; rfl, rfl⟩
  by_cases h4 : 127995 ≤ r ∧ r ≤ 127999
  · have HV := hid (show snhigh r = 13 by unfold snhigh; rw [if_neg h0, if_neg h1, if_neg h2, if_neg h3, if_pos h4])
    have b3 : (r == 65279) = false := beq_eq_false_iff_ne.2 h3
    obtain ⟨u4, v4⟩ := h4
    go_enter Tryd.func25, Tryd.ntmps25
    go_wp2_with (first | (go_at_call 39; (first | refine (snin_yes _ _ _ _ (by omega)).mono ?_ | refine (snin_no _ _ _ _ (by omega)).mono ?_); rintro e w1 ⟨rfl, hw1⟩; obtain rfl := hw1.symm; clear hw1))
    go_ret
    exact ⟨by rw [HV.out]; rfl, rfl⟩
  by_cases h5 : r = 65106
  · subst h5
    have HV := hid (show snhigh 65106 = 9 by decide)
    clear h0 h1 h2 h3 h4
    go_enter Tryd.func25, Tryd.ntmps25
    go_wp2_with (first | (go_at_call 39; (first | refine (snin_yes _ _ _ _ (by omega)).mono ?_ | refine (snin_no _ _ _ _ (by omega)).mono ?_); rintro e w1 ⟨rfl, hw1⟩; obtain rfl := hw1.symm; clear hw1))
    go_ret
    exact ⟨by rw [HV.out]; rfl, rfl⟩
  by_cases h6 : r = 65294
  · subst h6
    have HV := hid (show snhigh 65294 = 9 by decide)
    clear h0 h1 h2 h3 h4 h5
    go_enter Tryd.func25, Tryd.ntmps25
    go_wp2_with (first | (go_at_call 39; (first | refine (snin_yes _ _ _ _ (by omega)).mono ?_ | refine (snin_no _ _ _ _ (by omega)).mono ?_); rintro e w1 ⟨rfl, hw1⟩; obtain rfl := hw1.symm; clear hw1))
    go_ret
    exact ⟨by rw [HV.out]; rfl, rfl⟩
  by_cases h7 : r = 65281
  · subst h7
    have HV := hid (show snhigh 65281 = 10 by decide)
    clear h0 h1 h2 h3 h4 h5 h6
    go_enter Tryd.func25, Tryd.ntmps25
    go_wp2_with (first | (go_at_call 39; (first | refine (snin_yes _ _ _ _ (by omega)).mono ?_ | refine (snin_no _ _ _ _ (by omega)).mono ?_); rintro e w1 ⟨rfl, hw1⟩; obtain rfl := hw1.symm; clear hw1))
    go_ret
    exact ⟨by rw [HV.out]; rfl, rfl⟩
  by_cases h8 : r = 65311
  · subst h8
    have HV := hid (show snhigh 65311 = 10 by decide)
    clear h0 h1 h2 h3 h4 h5 h6 h7
    go_enter Tryd.func25, Tryd.ntmps25
    go_wp2_with (first | (go_at_call 39; (first | refine (snin_yes _ _ _ _ (by omega)).mono ?_ | refine (snin_no _ _ _ _ (by omega)).mono ?_); rintro e w1 ⟨rfl, hw1⟩; obtain rfl := hw1.symm; clear hw1))
    go_ret
    exact ⟨by rw [HV.out]; rfl, rfl⟩
  by_cases h9 : r = 65377
  · subst h9
    have HV := hid (show snhigh 65377 = 10 by decide)
    clear h0 h1 h2 h3 h4 h5 h6 h7 h8
    go_enter Tryd.func25, Tryd.ntmps25
    go_wp2_with (first | (go_at_call 39; (first | refine (snin_yes _ _ _ _ (by omega)).mono ?_ | refine (snin_no _ _ _ _ (by omega)).mono ?_); rintro e w1 ⟨rfl, hw1⟩; obtain rfl := hw1.symm; clear hw1))
    go_ret
    exact ⟨by rw [HV.out]; rfl, rfl⟩
  by_cases h10 : r = 65292
  · subst h10
    have HV := hid (show snhigh 65292 = 12 by decide)
    clear h0 h1 h2 h3 h4 h5 h6 h7 h8 h9
    go_enter Tryd.func25, Tryd.ntmps25
    go_wp2_with (first | (go_at_call 39; (first | refine (snin_yes _ _ _ _ (by omega)).mono ?_ | refine (snin_no _ _ _ _ (by omega)).mono ?_); rintro e w1 ⟨rfl, hw1⟩; obtain rfl := hw1.symm; clear hw1))
    go_ret
    exact ⟨by rw [HV.out]; rfl, rfl⟩
  by_cases h11 : r = 65293
  · subst h11
    have HV := hid (show snhigh 65293 = 12 by decide)
    clear h0 h1 h2 h3 h4 h5 h6 h7 h8 h9 h10
    go_enter Tryd.func25, Tryd.ntmps25
    go_wp2_with (first | (go_at_call 39; (first | refine (snin_yes _ _ _ _ (by omega)).mono ?_ | refine (snin_no _ _ _ _ (by omega)).mono ?_); rintro e w1 ⟨rfl, hw1⟩; obtain rfl := hw1.symm; clear hw1))
    go_ret
    exact ⟨by rw [HV.out]; rfl, rfl⟩
  by_cases h12 : r = 65306
  · subst h12
    have HV := hid (show snhigh 65306 = 12 by decide)
    clear h0 h1 h2 h3 h4 h5 h6 h7 h8 h9 h10 h11
    go_enter Tryd.func25, Tryd.ntmps25
    go_wp2_with (first | (go_at_call 39; (first | refine (snin_yes _ _ _ _ (by omega)).mono ?_ | refine (snin_no _ _ _ _ (by omega)).mono ?_); rintro e w1 ⟨rfl, hw1⟩; obtain rfl := hw1.symm; clear hw1))
    go_ret
    exact ⟨by rw [HV.out]; rfl, rfl⟩
  have HV := hid (show snhigh r = 0 by unfold snhigh; rw [if_neg h0, if_neg h1, if_neg h2, if_neg h3, if_neg h4, if_neg h5, if_neg h6, if_neg h7, if_neg h8, if_neg h9, if_neg h10, if_neg h11, if_neg h12])
  have b3 : (r == 65279) = false := beq_eq_false_iff_ne.2 h3
  have b5 : (r == 65106) = false := beq_eq_false_iff_ne.2 h5
  have b6 : (r == 65294) = false := beq_eq_false_iff_ne.2 h6
  have b7 : (r == 65281) = false := beq_eq_false_iff_ne.2 h7
  have b8 : (r == 65311) = false := beq_eq_false_iff_ne.2 h8
  have b9 : (r == 65377) = false := beq_eq_false_iff_ne.2 h9
  have b10 : (r == 65292) = false := beq_eq_false_iff_ne.2 h10
  have b11 : (r == 65293) = false := beq_eq_false_iff_ne.2 h11
  have b12 : (r == 65306) = false := beq_eq_false_iff_ne.2 h12
  go_enter Tryd.func25, Tryd.ntmps25
  go_wp2_with (first | (go_at_call 39; (first | refine (snin_yes _ _ _ _ (by omega)).mono ?_ | refine (snin_no _ _ _ _ (by omega)).mono ?_); rintro e w1 ⟨rfl, hw1⟩; obtain rfl := hw1.symm; clear hw1))
  go_ret
  exact ⟨by rw [HV.out]; rfl, rfl⟩
def sncls (r : Int) : Int :=
  if r < 128 then snascii r else if r < 768 then snlatin r else if r < 1280 then sneuropean r else if r < 2304 then snsemitic r else if r < 8192 then snindic r else if r < 8448 then snpunct r else if r < 12544 then snkana r else snhigh r
theorem sncls_any (r : Int) (w : World) : Calls Tryd.prog 6 #[.int .i32 r] w fun e w' => e = .returned (.int .i64 (sncls r)) ∧ w' = w := by
  by_cases h0 : r < 128
  · have HV := hid (show sncls r = snascii r by unfold sncls; rw [if_pos h0])
    go_enter Tryd.func6, Tryd.ntmps6
    go_wp2_with fail
    refine (snascii_any r w).mono ?_
    rintro e w1 ⟨rfl, hw1⟩
    obtain rfl := hw1.symm
    clear hw1
    go_wp2
    go_ret
    exact ⟨by rw [HV.out]; rfl, rfl⟩
  by_cases h1 : r < 768
  · have HV := hid (show sncls r = snlatin r by unfold sncls; rw [if_neg h0, if_pos h1])
    go_enter Tryd.func6, Tryd.ntmps6
    go_wp2_with fail
    refine (snlatin_any r w).mono ?_
    rintro e w1 ⟨rfl, hw1⟩
    obtain rfl := hw1.symm
    clear hw1
    go_wp2
    go_ret
    exact ⟨by rw [HV.out]; rfl, rfl⟩
  by_cases h2 : r < 1280
  · have HV := hid (show sncls r = sneuropean r by unfold sncls; rw [if_neg h0, if_neg h1, if_pos h2])
    go_enter Tryd.func6, Tryd.ntmps6
    go_wp2_with fail
    refine (sneuropean_any r w).mono ?_
    rintro e w1 ⟨rfl, hw1⟩
    obtain rfl := hw1.symm
    clear hw1
    go_wp2
    go_ret
    exact ⟨by rw [HV.out]; rfl, rfl⟩
  by_cases h3 : r < 2304
  · have HV := hid (show sncls r = snsemitic r by unfold sncls; rw [if_neg h0, if_neg h1, if_neg h2, if_pos h3])
    go_enter Tryd.func6, Tryd.ntmps6
    go_wp2_with fail
    refine (snsemitic_any r w).mono ?_
    rintro e w1 ⟨rfl, hw1⟩
    obtain rfl := hw1.symm
    clear hw1
    go_wp2
    go_ret
    exact ⟨by rw [HV.out]; rfl, rfl⟩
  by_cases h4 : r < 8192
  · have HV := hid (show sncls r = snindic r by unfold sncls; rw [if_neg h0, if_neg h1, if_neg h2, if_neg h3, if_pos h4])
    go_enter Tryd.func6, Tryd.ntmps6
    go_wp2_with fail
    refine (snindic_any r w).mono ?_
    rintro e w1 ⟨rfl, hw1⟩
    obtain rfl := hw1.symm
    clear hw1
    go_wp2
    go_ret
    exact ⟨by rw [HV.out]; rfl, rfl⟩
  by_cases h5 : r < 8448
  · have HV := hid (show sncls r = snpunct r by unfold sncls; rw [if_neg h0, if_neg h1, if_neg h2, if_neg h3, if_neg h4, if_pos h5])
    go_enter Tryd.func6, Tryd.ntmps6
    go_wp2_with fail
    refine (snpunct_any r w).mono ?_
    rintro e w1 ⟨rfl, hw1⟩
    obtain rfl := hw1.symm
    clear hw1
    go_wp2
    go_ret
    exact ⟨by rw [HV.out]; rfl, rfl⟩
  by_cases h6 : r < 12544
  · have HV := hid (show sncls r = snkana r by unfold sncls; rw [if_neg h0, if_neg h1, if_neg h2, if_neg h3, if_neg h4, if_neg h5, if_pos h6])
    go_enter Tryd.func6, Tryd.ntmps6
    go_wp2_with fail
    refine (snkana_any r w).mono ?_
    rintro e w1 ⟨rfl, hw1⟩
    obtain rfl := hw1.symm
    clear hw1
    go_wp2
    go_ret
    exact ⟨by rw [HV.out]; rfl, rfl⟩
  have HV := hid (show sncls r = snhigh r by unfold sncls; rw [if_neg h0, if_neg h1, if_neg h2, if_neg h3, if_neg h4, if_neg h5, if_neg h6])
  go_enter Tryd.func6, Tryd.ntmps6
  go_wp2_with fail
  refine (snhigh_any r w).mono ?_
  rintro e w1 ⟨rfl, hw1⟩
  obtain rfl := hw1.symm
  clear hw1
  go_wp2
  go_ret
  exact ⟨by rw [HV.out]; rfl, rfl⟩
end Go.Proofs.YtckifhlhechdlaaDoor
