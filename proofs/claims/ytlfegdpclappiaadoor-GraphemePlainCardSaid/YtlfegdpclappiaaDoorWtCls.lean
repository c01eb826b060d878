/- How many cells a rune has (package width): in, isZero, isZeroMark, isWide, isAmbiguous and runeCells. -/
import Derived.Test.YtlfegdpclappiaaDoorKit
namespace Go.Proofs.YtlfegdpclappiaaDoor
open Go.RowKit

theorem wtin_yes (r lo hi : Int) (w : World) (h : lo ≤ r ∧ r ≤ hi) : Calls Tryd.prog 87 #[.int .i32 r, .int .i32 lo, .int .i32 hi] w fun e w' => e = .returned (.bool true) ∧ w' = w := by
  obtain ⟨h1, h2⟩ := h
  go_enter Tryd.func87, Tryd.ntmps87
  go_wp2
  go_ret
  exact ⟨rfl, rfl⟩
theorem wtin_no (r lo hi : Int) (w : World) (h : ¬ (lo ≤ r ∧ r ≤ hi)) : Calls Tryd.prog 87 #[.int .i32 r, .int .i32 lo, .int .i32 hi] w fun e w' => e = .returned (.bool false) ∧ w' = w := by
  by_cases h1 : lo ≤ r
  · have h2 : ¬ r ≤ hi := fun h2 => h ⟨h1, h2⟩
    clear h
    go_enter Tryd.func87, Tryd.ntmps87
    go_wp2
    go_ret
    exact ⟨rfl, rfl⟩
  · clear h
    go_enter Tryd.func87, Tryd.ntmps87
    go_wp2
    go_ret
    exact ⟨rfl, rfl⟩
def wzmark (r : Int) : Bool :=
  if r ≤ 879 then true else if 1155 ≤ r ∧ r ≤ 1161 then true else if 1425 ≤ r ∧ r ≤ 1469 then true else if 1611 ≤ r ∧ r ≤ 1631 then true else if 1536 ≤ r ∧ r ≤ 1541 then true else if r = 1757 then true else if r = 1807 then true else if r = 2364 then true else if r = 2381 then true else if 3636 ≤ r ∧ r ≤ 3642 then true else false
set_option maxHeartbeats 4000000 in
theorem wzmark_any (r : Int) (w : World) : Calls Tryd.prog 88 #[.int .i32 r] w fun e w' => e = .returned (.bool (wzmark r)) ∧ w' = w := by
  by_cases h0 : r ≤ 879
  · skip
    have HV := hid (show wzmark r = true by unfold wzmark; rw [if_pos h0])
    go_enter Tryd.func88, Tryd.ntmps88
    go_wp2_with (first | (go_at_call 87; (first | refine (wtin_yes _ _ _ _ (by omega)).mono ?_ | refine (wtin_no _ _ _ _ (by omega)).mono ?_); rintro e w1 ⟨rfl, hw1⟩; obtain rfl := hw1.symm; clear hw1))
    go_ret
    exact ⟨by rw [HV.out]; rfl, rfl⟩
  by_cases h1 : 1155 ≤ r ∧ r ≤ 1161
  · skip
    have HV := hid (show wzmark r = true by unfold wzmark; rw [if_neg h0, if_pos h1])
    obtain ⟨uh1, vh1⟩ := h1
    go_enter Tryd.func88, Tryd.ntmps88
    go_wp2_with (first | (go_at_call 87; (first | refine (wtin_yes _ _ _ _ (by omega)).mono ?_ | refine (wtin_no _ _ _ _ (by omega)).mono ?_); rintro e w1 ⟨rfl, hw1⟩; obtain rfl := hw1.symm; clear hw1))
    go_ret
    exact ⟨by rw [HV.out]; rfl, rfl⟩
  by_cases h2 : 1425 ≤ r ∧ r ≤ 1469
  · skip
    have HV := hid (show wzmark r = true by unfold wzmark; rw [if_neg h0, if_neg h1, if_pos h2])
    obtain ⟨uh2, vh2⟩ := h2
    go_enter Tryd.func88, Tryd.ntmps88
    go_wp2_with (first | (go_at_call 87; (first | refine (wtin_yes _ _ _ _ (by omega)).mono ?_ | refine (wtin_no _ _ _ _ (by omega)).mono ?_); rintro e w1 ⟨rfl, hw1⟩; obtain rfl := hw1.symm; clear hw1))
    go_ret
    exact ⟨by rw [HV.out]; rfl, rfl⟩
  by_cases h3 : 1611 ≤ r ∧ r ≤ 1631
  · skip
    have HV := hid (show wzmark r = true by unfold wzmark; rw [if_neg h0, if_neg h1, if_neg h2, if_pos h3])
    obtain ⟨uh3, vh3⟩ := h3
    go_enter Tryd.func88, Tryd.ntmps88
    go_wp2_with (first | (go_at_call 87; (first | refine (wtin_yes _ _ _ _ (by omega)).mono ?_ | refine (wtin_no _ _ _ _ (by omega)).mono ?_); rintro e w1 ⟨rfl, hw1⟩; obtain rfl := hw1.symm; clear hw1))
    go_ret
    exact ⟨by rw [HV.out]; rfl, rfl⟩
  by_cases h4 : 1536 ≤ r ∧ r ≤ 1541
  · skip
    have HV := hid (show wzmark r = true by unfold wzmark; rw [if_neg h0, if_neg h1, if_neg h2, if_neg h3, if_pos h4])
    obtain ⟨uh4, vh4⟩ := h4
    go_enter Tryd.func88, Tryd.ntmps88
    go_wp2_with (first | (go_at_call 87; (first | refine (wtin_yes _ _ _ _ (by omega)).mono ?_ | refine (wtin_no _ _ _ _ (by omega)).mono ?_); rintro e w1 ⟨rfl, hw1⟩; obtain rfl := hw1.symm; clear hw1))
    go_ret
    exact ⟨by rw [HV.out]; rfl, rfl⟩
  by_cases h5 : r = 1757
  · skip
    subst h5
    have HV := hid (show wzmark 1757 = true by decide)
    clear h0
    clear h1
    clear h2
    clear h3
    clear h4
    go_enter Tryd.func88, Tryd.ntmps88
    go_wp2_with (first | (go_at_call 87; (first | refine (wtin_yes _ _ _ _ (by omega)).mono ?_ | refine (wtin_no _ _ _ _ (by omega)).mono ?_); rintro e w1 ⟨rfl, hw1⟩; obtain rfl := hw1.symm; clear hw1))
    go_ret
    exact ⟨by rw [HV.out]; rfl, rfl⟩
  by_cases h6 : r = 1807
  · skip
    subst h6
    have HV := hid (show wzmark 1807 = true by decide)
    clear h0
    clear h1
    clear h2
    clear h3
    clear h4
    clear h5
    go_enter Tryd.func88, Tryd.ntmps88
    go_wp2_with (first | (go_at_call 87; (first | refine (wtin_yes _ _ _ _ (by omega)).mono ?_ | refine (wtin_no _ _ _ _ (by omega)).mono ?_); rintro e w1 ⟨rfl, hw1⟩; obtain rfl := hw1.symm; clear hw1))
    go_ret
    exact ⟨by rw [HV.out]; rfl, rfl⟩
  by_cases h7 : r = 2364
  · skip
    subst h7
    have HV := hid (show wzmark 2364 = true by decide)
    clear h0
    clear h1
    clear h2
    clear h3
    clear h4
    clear h5
    clear h6
    go_enter Tryd.func88, Tryd.ntmps88
    go_wp2_with (first | (go_at_call 87; (first | refine (wtin_yes _ _ _ _ (by omega)).mono ?_ | refine (wtin_no _ _ _ _ (by omega)).mono ?_); rintro e w1 ⟨rfl, hw1⟩; obtain rfl := hw1.symm; clear hw1))
    go_ret
    exact ⟨by rw [HV.out]; rfl, rfl⟩
  by_cases h8 : r = 2381
  · skip
    subst h8
    have HV := hid (show wzmark 2381 = true by decide)
    clear h0
    clear h1
    clear h2
    clear h3
    clear h4
    clear h5
    clear h6
    clear h7
    go_enter Tryd.func88, Tryd.ntmps88
    go_wp2_with (first | (go_at_call 87; (first | refine (wtin_yes _ _ _ _ (by omega)).mono ?_ | refine (wtin_no _ _ _ _ (by omega)).mono ?_); rintro e w1 ⟨rfl, hw1⟩; obtain rfl := hw1.symm; clear hw1))
    go_ret
    exact ⟨by rw [HV.out]; rfl, rfl⟩
  by_cases h9 : 3636 ≤ r ∧ r ≤ 3642
  · skip
    have HV := hid (show wzmark r = true by unfold wzmark; rw [if_neg h0, if_neg h1, if_neg h2, if_neg h3, if_neg h4, if_neg h5, if_neg h6, if_neg h7, if_neg h8, if_pos h9])
    have bh5 : (r == 1757) = false := beq_eq_false_iff_ne.2 h5
    have nh5 : (r != 1757) = true := bne_iff_ne.2 h5
    have bh6 : (r == 1807) = false := beq_eq_false_iff_ne.2 h6
    have nh6 : (r != 1807) = true := bne_iff_ne.2 h6
    have bh7 : (r == 2364) = false := beq_eq_false_iff_ne.2 h7
    have nh7 : (r != 2364) = true := bne_iff_ne.2 h7
    have bh8 : (r == 2381) = false := beq_eq_false_iff_ne.2 h8
    have nh8 : (r != 2381) = true := bne_iff_ne.2 h8
    obtain ⟨uh9, vh9⟩ := h9
    go_enter Tryd.func88, Tryd.ntmps88
    go_wp2_with (first | (go_at_call 87; (first | refine (wtin_yes _ _ _ _ (by omega)).mono ?_ | refine (wtin_no _ _ _ _ (by omega)).mono ?_); rintro e w1 ⟨rfl, hw1⟩; obtain rfl := hw1.symm; clear hw1))
    go_ret
    exact ⟨by rw [HV.out]; rfl, rfl⟩
  have HV := hid (show wzmark r = false by unfold wzmark; rw [if_neg h0, if_neg h1, if_neg h2, if_neg h3, if_neg h4, if_neg h5, if_neg h6, if_neg h7, if_neg h8, if_neg h9])
  have bh5 : (r == 1757) = false := beq_eq_false_iff_ne.2 h5
  have nh5 : (r != 1757) = true := bne_iff_ne.2 h5
  have bh6 : (r == 1807) = false := beq_eq_false_iff_ne.2 h6
  have nh6 : (r != 1807) = true := bne_iff_ne.2 h6
  have bh7 : (r == 2364) = false := beq_eq_false_iff_ne.2 h7
  have nh7 : (r != 2364) = true := bne_iff_ne.2 h7
  have bh8 : (r == 2381) = false := beq_eq_false_iff_ne.2 h8
  have nh8 : (r != 2381) = true := bne_iff_ne.2 h8
  go_enter Tryd.func88, Tryd.ntmps88
  go_wp2_with (first | (go_at_call 87; (first | refine (wtin_yes _ _ _ _ (by omega)).mono ?_ | refine (wtin_no _ _ _ _ (by omega)).mono ?_); rintro e w1 ⟨rfl, hw1⟩; obtain rfl := hw1.symm; clear hw1))
  go_ret
  exact ⟨by rw [HV.out]; rfl, rfl⟩
def wzero (r : Int) : Bool :=
  if r < 768 then (if 0 ≤ r ∧ r ≤ 8 then true else if 10 ≤ r ∧ r ≤ 31 then true else if 127 ≤ r ∧ r ≤ 159 then true else if r = 173 then true else false) else if r < 4352 then wzmark r else if r < 8433 then (if 4448 ≤ r ∧ r ≤ 4607 then true else if 8203 ≤ r ∧ r ≤ 8207 then true else if 8232 ≤ r ∧ r ≤ 8238 then true else if 8288 ≤ r ∧ r ≤ 8292 then true else if 8400 ≤ r ∧ r ≤ 8432 then true else false) else if r < 65536 then (if 12441 ≤ r ∧ r ≤ 12442 then true else if 65024 ≤ r ∧ r ≤ 65039 then true else if r = 65279 then true else false) else if r = 69821 then true else if 127995 ≤ r ∧ r ≤ 127999 then true else if 917536 ≤ r ∧ r ≤ 917631 then true else false
set_option maxHeartbeats 4000000 in
theorem wzero_any (r : Int) (w : World) : Calls Tryd.prog 83 #[.int .i32 r] w fun e w' => e = .returned (.bool (wzero r)) ∧ w' = w := by
  by_cases h0 : r < 768
  · skip
    by_cases h1 : 0 ≤ r ∧ r ≤ 8
    · skip
      have HV := hid (show wzero r = true by unfold wzero; rw [if_pos h0, if_pos h1])
      obtain ⟨uh1, vh1⟩ := h1
      go_enter Tryd.func83, Tryd.ntmps83
      go_wp2_with (first | (go_at_call 87; (first | refine (wtin_yes _ _ _ _ (by omega)).mono ?_ | refine (wtin_no _ _ _ _ (by omega)).mono ?_); rintro e w1 ⟨rfl, hw1⟩; obtain rfl := hw1.symm; clear hw1))
      go_ret
      exact ⟨by rw [HV.out]; rfl, rfl⟩
    by_cases h2 : 10 ≤ r ∧ r ≤ 31
    · skip
      have HV := hid (show wzero r = true by unfold wzero; rw [if_pos h0, if_neg h1, if_pos h2])
      obtain ⟨uh2, vh2⟩ := h2
      go_enter Tryd.func83, Tryd.ntmps83
      go_wp2_with (first | (go_at_call 87; (first | refine (wtin_yes _ _ _ _ (by omega)).mono ?_ | refine (wtin_no _ _ _ _ (by omega)).mono ?_); rintro e w1 ⟨rfl, hw1⟩; obtain rfl := hw1.symm; clear hw1))
      go_ret
      exact ⟨by rw [HV.out]; rfl, rfl⟩
    by_cases h3 : 127 ≤ r ∧ r ≤ 159
    · skip
      have HV := hid (show wzero r = true by unfold wzero; rw [if_pos h0, if_neg h1, if_neg h2, if_pos h3])
      obtain ⟨uh3, vh3⟩ := h3
      go_enter Tryd.func83, Tryd.ntmps83
      go_wp2_with (first | (go_at_call 87; (first | refine (wtin_yes _ _ _ _ (by omega)).mono ?_ | refine (wtin_no _ _ _ _ (by omega)).mono ?_); rintro e w1 ⟨rfl, hw1⟩; obtain rfl := hw1.symm; clear hw1))
      go_ret
      exact ⟨by rw [HV.out]; rfl, rfl⟩
    by_cases h4 : r = 173
    · skip
      subst h4
      have HV := hid (show wzero 173 = true by decide)
      clear h0
      clear h1
      clear h2
      clear h3
      go_enter Tryd.func83, Tryd.ntmps83
      go_wp2_with (first | (go_at_call 87; (first | refine (wtin_yes _ _ _ _ (by omega)).mono ?_ | refine (wtin_no _ _ _ _ (by omega)).mono ?_); rintro e w1 ⟨rfl, hw1⟩; obtain rfl := hw1.symm; clear hw1))
      go_ret
      exact ⟨by rw [HV.out]; rfl, rfl⟩
    have HV := hid (show wzero r = false by unfold wzero; rw [if_pos h0, if_neg h1, if_neg h2, if_neg h3, if_neg h4])
    have bh4 : (r == 173) = false := beq_eq_false_iff_ne.2 h4
    have nh4 : (r != 173) = true := bne_iff_ne.2 h4
    go_enter Tryd.func83, Tryd.ntmps83
    go_wp2_with (first | (go_at_call 87; (first | refine (wtin_yes _ _ _ _ (by omega)).mono ?_ | refine (wtin_no _ _ _ _ (by omega)).mono ?_); rintro e w1 ⟨rfl, hw1⟩; obtain rfl := hw1.symm; clear hw1))
    go_ret
    exact ⟨by rw [HV.out]; rfl, rfl⟩
  by_cases h5 : r < 4352
  · skip
    have HV := hid (show wzero r = wzmark r by unfold wzero; rw [if_neg h0, if_pos h5])
    go_enter Tryd.func83, Tryd.ntmps83
    go_wp2_with fail
    refine (wzmark_any r w).mono ?_
    rintro e w1 ⟨rfl, hw1⟩
    obtain rfl := hw1.symm
    clear hw1
    go_wp2
    go_ret
    exact ⟨by rw [HV.out]; rfl, rfl⟩
  by_cases h6 : r < 8433
  · skip
    by_cases h7 : 4448 ≤ r ∧ r ≤ 4607
    · skip
      have HV := hid (show wzero r = true by unfold wzero; rw [if_neg h0, if_neg h5, if_pos h6, if_pos h7])
      obtain ⟨uh7, vh7⟩ := h7
      go_enter Tryd.func83, Tryd.ntmps83
      go_wp2_with (first | (go_at_call 87; (first | refine (wtin_yes _ _ _ _ (by omega)).mono ?_ | refine (wtin_no _ _ _ _ (by omega)).mono ?_); rintro e w1 ⟨rfl, hw1⟩; obtain rfl := hw1.symm; clear hw1))
      go_ret
      exact ⟨by rw [HV.out]; rfl, rfl⟩
    by_cases h8 : 8203 ≤ r ∧ r ≤ 8207
    · skip
      have HV := hid (show wzero r = true by unfold wzero; rw [if_neg h0, if_neg h5, if_pos h6, if_neg h7, if_pos h8])
      obtain ⟨uh8, vh8⟩ := h8
      go_enter Tryd.func83, Tryd.ntmps83
      go_wp2_with (first | (go_at_call 87; (first | refine (wtin_yes _ _ _ _ (by omega)).mono ?_ | refine (wtin_no _ _ _ _ (by omega)).mono ?_); rintro e w1 ⟨rfl, hw1⟩; obtain rfl := hw1.symm; clear hw1))
      go_ret
      exact ⟨by rw [HV.out]; rfl, rfl⟩
    by_cases h9 : 8232 ≤ r ∧ r ≤ 8238
    · skip
      have HV := hid (show wzero r = true by unfold wzero; rw [if_neg h0, if_neg h5, if_pos h6, if_neg h7, if_neg h8, if_pos h9])
      obtain ⟨uh9, vh9⟩ := h9
      go_enter Tryd.func83, Tryd.ntmps83
      go_wp2_with (first | (go_at_call 87; (first | refine (wtin_yes _ _ _ _ (by omega)).mono ?_ | refine (wtin_no _ _ _ _ (by omega)).mono ?_); rintro e w1 ⟨rfl, hw1⟩; obtain rfl := hw1.symm; clear hw1))
      go_ret
      exact ⟨by rw [HV.out]; rfl, rfl⟩
    by_cases h10 : 8288 ≤ r ∧ r ≤ 8292
    · skip
      have HV := hid (show wzero r = true by unfold wzero; rw [if_neg h0, if_neg h5, if_pos h6, if_neg h7, if_neg h8, if_neg h9, if_pos h10])
      obtain ⟨uh10, vh10⟩ := h10
      go_enter Tryd.func83, Tryd.ntmps83
      go_wp2_with (first | (go_at_call 87; (first | refine (wtin_yes _ _ _ _ (by omega)).mono ?_ | refine (wtin_no _ _ _ _ (by omega)).mono ?_); rintro e w1 ⟨rfl, hw1⟩; obtain rfl := hw1.symm; clear hw1))
      go_ret
      exact ⟨by rw [HV.out]; rfl, rfl⟩
    by_cases h11 : 8400 ≤ r ∧ r ≤ 8432
    · skip
      have HV := hid (show wzero r = true by unfold wzero; rw [if_neg h0, if_neg h5, if_pos h6, if_neg h7, if_neg h8, if_neg h9, if_neg h10, if_pos h11])
      obtain ⟨uh11, vh11⟩ := h11
      go_enter Tryd.func83, Tryd.ntmps83
      go_wp2_with (first | (go_at_call 87; (first | refine (wtin_yes _ _ _ _ (by omega)).mono ?_ | refine (wtin_no _ _ _ _ (by omega)).mono ?_); rintro e w1 ⟨rfl, hw1⟩; obtain rfl := hw1.symm; clear hw1))
      go_ret
      exact ⟨by rw [HV.out]; rfl, rfl⟩
    have HV := hid (show wzero r = false by unfold wzero; rw [if_neg h0, if_neg h5, if_pos h6, if_neg h7, if_neg h8, if_neg h9, if_neg h10, if_neg h11])
    go_enter Tryd.func83, Tryd.ntmps83
    go_wp2_with (first | (go_at_call 87; (first | refine (wtin_yes _ _ _ _ (by omega)).mono ?_ | refine (wtin_no _ _ _ _ (by omega)).mono ?_); rintro e w1 ⟨rfl, hw1⟩; obtain rfl := hw1.symm; clear hw1))
    go_ret
    exact ⟨by rw [HV.out]; rfl, rfl⟩
  by_cases h12 : r < 65536
  · skip
    by_cases h13 : 12441 ≤ r ∧ r ≤ 12442
    · skip
      have HV := hid (show wzero r = true by unfold wzero; rw [if_neg h0, if_neg h5, if_neg h6, if_pos h12, if_pos h13])
      obtain ⟨uh13, vh13⟩ := h13
      go_enter Tryd.func83, Tryd.ntmps83
      go_wp2_with (first | (go_at_call 87; (first | refine (wtin_yes _ _ _ _ (by omega)).mono ?_ | refine (wtin_no _ _ _ _ (by omega)).mono ?_); rintro e w1 ⟨rfl, hw1⟩; obtain rfl := hw1.symm; clear hw1))
      go_ret
      exact ⟨by rw [HV.out]; rfl, rfl⟩
    by_cases h14 : 65024 ≤ r ∧ r ≤ 65039
    · skip
      have HV := hid (show wzero r = true by unfold wzero; rw [if_neg h0, if_neg h5, if_neg h6, if_pos h12, if_neg h13, if_pos h14])
      obtain ⟨uh14, vh14⟩ := h14
      go_enter Tryd.func83, Tryd.ntmps83
      go_wp2_with (first | (go_at_call 87; (first | refine (wtin_yes _ _ _ _ (by omega)).mono ?_ | refine (wtin_no _ _ _ _ (by omega)).mono ?_); rintro e w1 ⟨rfl, hw1⟩; obtain rfl := hw1.symm; clear hw1))
      go_ret
      exact ⟨by rw [HV.out]; rfl, rfl⟩
    by_cases h15 : r = 65279
    · skip
      subst h15
      have HV := hid (show wzero 65279 = true by decide)
      clear h0
      clear h5
      clear h6
      clear h12
      clear h13
      clear h14
      go_enter Tryd.func83, Tryd.ntmps83
      go_wp2_with (first | (go_at_call 87; (first | refine (wtin_yes _ _ _ _ (by omega)).mono ?_ | refine (wtin_no _ _ _ _ (by omega)).mono ?_); rintro e w1 ⟨rfl, hw1⟩; obtain rfl := hw1.symm; clear hw1))
      go_ret
      exact ⟨by rw [HV.out]; rfl, rfl⟩
    have HV := hid (show wzero r = false by unfold wzero; rw [if_neg h0, if_neg h5, if_neg h6, if_pos h12, if_neg h13, if_neg h14, if_neg h15])
    have bh15 : (r == 65279) = false := beq_eq_false_iff_ne.2 h15
    have nh15 : (r != 65279) = true := bne_iff_ne.2 h15
    go_enter Tryd.func83, Tryd.ntmps83
    go_wp2_with (first | (go_at_call 87; (first | refine (wtin_yes _ _ _ _ (by omega)).mono ?_ | refine (wtin_no _ _ _ _ (by omega)).mono ?_); rintro e w1 ⟨rfl, hw1⟩; obtain rfl := hw1.symm; clear hw1))
    go_ret
    exact ⟨by rw [HV.out]; rfl, rfl⟩
  by_cases h16 : r = 69821
  · skip
    subst h16
    have HV := hid (show wzero 69821 = true by decide)
    clear h0
    clear h5
    clear h6
    clear h12
    go_enter Tryd.func83, Tryd.ntmps83
    go_wp2_with (first | (go_at_call 87; (first | refine (wtin_yes _ _ _ _ (by omega)).mono ?_ | refine (wtin_no _ _ _ _ (by omega)).mono ?_); rintro e w1 ⟨rfl, hw1⟩; obtain rfl := hw1.symm; clear hw1))
    go_ret
    exact ⟨by rw [HV.out]; rfl, rfl⟩
  by_cases h17 : 127995 ≤ r ∧ r ≤ 127999
  · skip
    have HV := hid (show wzero r = true by unfold wzero; rw [if_neg h0, if_neg h5, if_neg h6, if_neg h12, if_neg h16, if_pos h17])
    have bh16 : (r == 69821) = false := beq_eq_false_iff_ne.2 h16
    have nh16 : (r != 69821) = true := bne_iff_ne.2 h16
    obtain ⟨uh17, vh17⟩ := h17
    go_enter Tryd.func83, Tryd.ntmps83
    go_wp2_with (first | (go_at_call 87; (first | refine (wtin_yes _ _ _ _ (by omega)).mono ?_ | refine (wtin_no _ _ _ _ (by omega)).mono ?_); rintro e w1 ⟨rfl, hw1⟩; obtain rfl := hw1.symm; clear hw1))
    go_ret
    exact ⟨by rw [HV.out]; rfl, rfl⟩
  by_cases h18 : 917536 ≤ r ∧ r ≤ 917631
  · skip
    have HV := hid (show wzero r = true by unfold wzero; rw [if_neg h0, if_neg h5, if_neg h6, if_neg h12, if_neg h16, if_neg h17, if_pos h18])
    have bh16 : (r == 69821) = false := beq_eq_false_iff_ne.2 h16
    have nh16 : (r != 69821) = true := bne_iff_ne.2 h16
    obtain ⟨uh18, vh18⟩ := h18
    go_enter Tryd.func83, Tryd.ntmps83
    go_wp2_with (first | (go_at_call 87; (first | refine (wtin_yes _ _ _ _ (by omega)).mono ?_ | refine (wtin_no _ _ _ _ (by omega)).mono ?_); rintro e w1 ⟨rfl, hw1⟩; obtain rfl := hw1.symm; clear hw1))
    go_ret
    exact ⟨by rw [HV.out]; rfl, rfl⟩
  have HV := hid (show wzero r = false by unfold wzero; rw [if_neg h0, if_neg h5, if_neg h6, if_neg h12, if_neg h16, if_neg h17, if_neg h18])
  have bh16 : (r == 69821) = false := beq_eq_false_iff_ne.2 h16
  have nh16 : (r != 69821) = true := bne_iff_ne.2 h16
  go_enter Tryd.func83, Tryd.ntmps83
  go_wp2_with (first | (go_at_call 87; (first | refine (wtin_yes _ _ _ _ (by omega)).mono ?_ | refine (wtin_no _ _ _ _ (by omega)).mono ?_); rintro e w1 ⟨rfl, hw1⟩; obtain rfl := hw1.symm; clear hw1))
  go_ret
  exact ⟨by rw [HV.out]; rfl, rfl⟩
def wwide (r : Int) : Bool :=
  if r < 11904 then (if 4352 ≤ r ∧ r ≤ 4447 then true else false) else if r < 42192 then (if r = 12351 then false else if r = 12352 then false else if 19904 ≤ r ∧ r ≤ 19967 then false else true) else if r < 65536 then (if 44032 ≤ r ∧ r ≤ 55203 then true else if 63744 ≤ r ∧ r ≤ 64255 then true else if 65072 ≤ r ∧ r ≤ 65135 then true else if 65280 ≤ r ∧ r ≤ 65376 then true else if 65504 ≤ r ∧ r ≤ 65510 then true else false) else if r < 131072 then (if 127744 ≤ r ∧ r ≤ 127994 then true else if 128000 ≤ r ∧ r ≤ 128591 then true else if 128640 ≤ r ∧ r ≤ 128767 then true else if 129280 ≤ r ∧ r ≤ 129535 then true else false) else if r ≤ 262141 then true else false
set_option maxHeartbeats 4000000 in
theorem wwide_any (r : Int) (w : World) : Calls Tryd.prog 84 #[.int .i32 r] w fun e w' => e = .returned (.bool (wwide r)) ∧ w' = w := by
  by_cases h0 : r < 11904
  · skip
    by_cases h1 : 4352 ≤ r ∧ r ≤ 4447
    · skip
      have HV := hid (show wwide r = true by unfold wwide; rw [if_pos h0, if_pos h1])
      obtain ⟨uh1, vh1⟩ := h1
      go_enter Tryd.func84, Tryd.ntmps84
      go_wp2_with (first | (go_at_call 87; (first | refine (wtin_yes _ _ _ _ (by omega)).mono ?_ | refine (wtin_no _ _ _ _ (by omega)).mono ?_); rintro e w1 ⟨rfl, hw1⟩; obtain rfl := hw1.symm; clear hw1))
      go_ret
      exact ⟨by rw [HV.out]; rfl, rfl⟩
    have HV := hid (show wwide r = false by unfold wwide; rw [if_pos h0, if_neg h1])
    go_enter Tryd.func84, Tryd.ntmps84
    go_wp2_with (first | (go_at_call 87; (first | refine (wtin_yes _ _ _ _ (by omega)).mono ?_ | refine (wtin_no _ _ _ _ (by omega)).mono ?_); rintro e w1 ⟨rfl, hw1⟩; obtain rfl := hw1.symm; clear hw1))
    go_ret
    exact ⟨by rw [HV.out]; rfl, rfl⟩
  by_cases h2 : r < 42192
  · skip
    by_cases h3 : r = 12351
    · skip
      subst h3
      have HV := hid (show wwide 12351 = false by decide)
      clear h0
      clear h2
      go_enter Tryd.func84, Tryd.ntmps84
      go_wp2_with (first | (go_at_call 87; (first | refine (wtin_yes _ _ _ _ (by omega)).mono ?_ | refine (wtin_no _ _ _ _ (by omega)).mono ?_); rintro e w1 ⟨rfl, hw1⟩; obtain rfl := hw1.symm; clear hw1))
      go_ret
      exact ⟨by rw [HV.out]; rfl, rfl⟩
    by_cases h4 : r = 12352
    · skip
      subst h4
      have HV := hid (show wwide 12352 = false by decide)
      clear h0
      clear h2
      clear h3
      go_enter Tryd.func84, Tryd.ntmps84
      go_wp2_with (first | (go_at_call 87; (first | refine (wtin_yes _ _ _ _ (by omega)).mono ?_ | refine (wtin_no _ _ _ _ (by omega)).mono ?_); rintro e w1 ⟨rfl, hw1⟩; obtain rfl := hw1.symm; clear hw1))
      go_ret
      exact ⟨by rw [HV.out]; rfl, rfl⟩
    by_cases h5 : 19904 ≤ r ∧ r ≤ 19967
    · skip
      have HV := hid (show wwide r = false by unfold wwide; rw [if_neg h0, if_pos h2, if_neg h3, if_neg h4, if_pos h5])
      have bh3 : (r == 12351) = false := beq_eq_false_iff_ne.2 h3
      have nh3 : (r != 12351) = true := bne_iff_ne.2 h3
      have bh4 : (r == 12352) = false := beq_eq_false_iff_ne.2 h4
      have nh4 : (r != 12352) = true := bne_iff_ne.2 h4
      obtain ⟨uh5, vh5⟩ := h5
      go_enter Tryd.func84, Tryd.ntmps84
      go_wp2_with (first | (go_at_call 87; (first | refine (wtin_yes _ _ _ _ (by omega)).mono ?_ | refine (wtin_no _ _ _ _ (by omega)).mono ?_); rintro e w1 ⟨rfl, hw1⟩; obtain rfl := hw1.symm; clear hw1))
      go_ret
      exact ⟨by rw [HV.out]; rfl, rfl⟩
    have HV := hid (show wwide r = true by unfold wwide; rw [if_neg h0, if_pos h2, if_neg h3, if_neg h4, if_neg h5])
    have bh3 : (r == 12351) = false := beq_eq_false_iff_ne.2 h3
    have nh3 : (r != 12351) = true := bne_iff_ne.2 h3
    have bh4 : (r == 12352) = false := beq_eq_false_iff_ne.2 h4
    have nh4 : (r != 12352) = true := bne_iff_ne.2 h4
    go_enter Tryd.func84, Tryd.ntmps84
    go_wp2_with (first | (go_at_call 87; (first | refine (wtin_yes _ _ _ _ (by omega)).mono ?_ | refine (wtin_no _ _ _ _ (by omega)).mono ?_); rintro e w1 ⟨rfl, hw1⟩; obtain rfl := hw1.symm; clear hw1))
    go_ret
    exact ⟨by rw [HV.out]; rfl, rfl⟩
  by_cases h6 : r < 65536
  · skip
    by_cases h7 : 44032 ≤ r ∧ r ≤ 55203
    · skip
      have HV := hid (show wwide r = true by unfold wwide; rw [if_neg h0, if_neg h2, if_pos h6, if_pos h7])
      obtain ⟨uh7, vh7⟩ := h7
      go_enter Tryd.func84, Tryd.ntmps84
      go_wp2_with (first | (go_at_call 87; (first | refine (wtin_yes _ _ _ _ (by omega)).mono ?_ | refine (wtin_no _ _ _ _ (by omega)).mono ?_); rintro e w1 ⟨rfl, hw1⟩; obtain rfl := hw1.symm; clear hw1))
      go_ret
      exact ⟨by rw [HV.out]; rfl, rfl⟩
    by_cases h8 : 63744 ≤ r ∧ r ≤ 64255
    · skip
      have HV := hid (show wwide r = true by unfold wwide; rw [if_neg h0, if_neg h2, if_pos h6, if_neg h7, if_pos h8])
      obtain ⟨uh8, vh8⟩ := h8
      go_enter Tryd.func84, Tryd.ntmps84
      go_wp2_with (first | (go_at_call 87; (first | refine (wtin_yes _ _ _ _ (by omega)).mono ?_ | refine (wtin_no _ _ _ _ (by omega)).mono ?_); rintro e w1 ⟨rfl, hw1⟩; obtain rfl := hw1.symm; clear hw1))
      go_ret
      exact ⟨by rw [HV.out]; rfl, rfl⟩
    by_cases h9 : 65072 ≤ r ∧ r ≤ 65135
    · skip
      have HV := hid (show wwide r = true by unfold wwide; rw [if_neg h0, if_neg h2, if_pos h6, if_neg h7, if_neg h8, if_pos h9])
      obtain ⟨uh9, vh9⟩ := h9
      go_enter Tryd.func84, Tryd.ntmps84
      go_wp2_with (first | (go_at_call 87; (first | refine (wtin_yes _ _ _ _ (by omega)).mono ?_ | refine (wtin_no _ _ _ _ (by omega)).mono ?_); rintro e w1 ⟨rfl, hw1⟩; obtain rfl := hw1.symm; clear hw1))
      go_ret
      exact ⟨by rw [HV.out]; rfl, rfl⟩
    by_cases h10 : 65280 ≤ r ∧ r ≤ 65376
    · skip
      have HV := hid (show wwide r = true by unfold wwide; rw [if_neg h0, if_neg h2, if_pos h6, if_neg h7, if_neg h8, if_neg h9, if_pos h10])
      obtain ⟨uh10, vh10⟩ := h10
      go_enter Tryd.func84, Tryd.ntmps84
      go_wp2_with (first | (go_at_call 87; (first | refine (wtin_yes _ _ _ _ (by omega)).mono ?_ | refine (wtin_no _ _ _ _ (by omega)).mono ?_); rintro e w1 ⟨rfl, hw1⟩; obtain rfl := hw1.symm; clear hw1))
      go_ret
      exact ⟨by rw [HV.out]; rfl, rfl⟩
    by_cases h11 : 65504 ≤ r ∧ r ≤ 65510
    · skip
      have HV := hid (show wwide r = true by unfold wwide; rw [if_neg h0, if_neg h2, if_pos h6, if_neg h7, if_neg h8, if_neg h9, if_neg h10, if_pos h11])
      obtain ⟨uh11, vh11⟩ := h11
      go_enter Tryd.func84, Tryd.ntmps84
      go_wp2_with (first | (go_at_call 87; (first | refine (wtin_yes _ _ _ _ (by omega)).mono ?_ | refine (wtin_no _ _ _ _ (by omega)).mono ?_); rintro e w1 ⟨rfl, hw1⟩; obtain rfl := hw1.symm; clear hw1))
      go_ret
      exact ⟨by rw [HV.out]; rfl, rfl⟩
    have HV := hid (show wwide r = false by unfold wwide; rw [if_neg h0, if_neg h2, if_pos h6, if_neg h7, if_neg h8, if_neg h9, if_neg h10, if_neg h11])
    go_enter Tryd.func84, Tryd.ntmps84
    go_wp2_with (first | (go_at_call 87; (first | refine (wtin_yes _ _ _ _ (by omega)).mono ?_ | refine (wtin_no _ _ _ _ (by omega)).mono ?_); rintro e w1 ⟨rfl, hw1⟩; obtain rfl := hw1.symm; clear hw1))
    go_ret
    exact ⟨by rw [HV.out]; rfl, rfl⟩
  by_cases h12 : r < 131072
  · skip
    by_cases h13 : 127744 ≤ r ∧ r ≤ 127994
    · skip
      have HV := hid (show wwide r = true by unfold wwide; rw [if_neg h0, if_neg h2, if_neg h6, if_pos h12, if_pos h13])
      obtain ⟨uh13, vh13⟩ := h13
      go_enter Tryd.func84, Tryd.ntmps84
      go_wp2_with (first | (go_at_call 87; (first | refine (wtin_yes _ _ _ _ (by omega)).mono ?_ | refine (wtin_no _ _ _ _ (by omega)).mono ?_); rintro e w1 ⟨rfl, hw1⟩; obtain rfl := hw1.symm; clear hw1))
      go_ret
      exact ⟨by rw [HV.out]; rfl, rfl⟩
    by_cases h14 : 128000 ≤ r ∧ r ≤ 128591
    · skip
      have HV := hid (show wwide r = true by unfold wwide; rw [if_neg h0, if_neg h2, if_neg h6, if_pos h12, if_neg h13, if_pos h14])
      obtain ⟨uh14, vh14⟩ := h14
      go_enter Tryd.func84, Tryd.ntmps84
      go_wp2_with (first | (go_at_call 87; (first | refine (wtin_yes _ _ _ _ (by omega)).mono ?_ | refine (wtin_no _ _ _ _ (by omega)).mono ?_); rintro e w1 ⟨rfl, hw1⟩; obtain rfl := hw1.symm; clear hw1))
      go_ret
      exact ⟨by rw [HV.out]; rfl, rfl⟩
    by_cases h15 : 128640 ≤ r ∧ r ≤ 128767
    · skip
      have HV := hid (show wwide r = true by unfold wwide; rw [if_neg h0, if_neg h2, if_neg h6, if_pos h12, if_neg h13, if_neg h14, if_pos h15])
      obtain ⟨uh15, vh15⟩ := h15
      go_enter Tryd.func84, Tryd.ntmps84
      go_wp2_with (first | (go_at_call 87; (first | refine (wtin_yes _ _ _ _ (by omega)).mono ?_ | refine (wtin_no _ _ _ _ (by omega)).mono ?_); rintro e w1 ⟨rfl, hw1⟩; obtain rfl := hw1.symm; clear hw1))
      go_ret
      exact ⟨by rw [HV.out]; rfl, rfl⟩
    by_cases h16 : 129280 ≤ r ∧ r ≤ 129535
    · skip
      have HV := hid (show wwide r = true by unfold wwide; rw [if_neg h0, if_neg h2, if_neg h6, if_pos h12, if_neg h13, if_neg h14, if_neg h15, if_pos h16])
      obtain ⟨uh16, vh16⟩ := h16
      go_enter Tryd.func84, Tryd.ntmps84
      go_wp2_with (first | (go_at_call 87; (first | refine (wtin_yes _ _ _ _ (by omega)).mono ?_ | refine (wtin_no _ _ _ _ (by omega)).mono ?_); rintro e w1 ⟨rfl, hw1⟩; obtain rfl := hw1.symm; clear hw1))
      go_ret
      exact ⟨by rw [HV.out]; rfl, rfl⟩
    have HV := hid (show wwide r = false by unfold wwide; rw [if_neg h0, if_neg h2, if_neg h6, if_pos h12, if_neg h13, if_neg h14, if_neg h15, if_neg h16])
    go_enter Tryd.func84, Tryd.ntmps84
    go_wp2_with (first | (go_at_call 87; (first | refine (wtin_yes _ _ _ _ (by omega)).mono ?_ | refine (wtin_no _ _ _ _ (by omega)).mono ?_); rintro e w1 ⟨rfl, hw1⟩; obtain rfl := hw1.symm; clear hw1))
    go_ret
    exact ⟨by rw [HV.out]; rfl, rfl⟩
  by_cases h17 : r ≤ 262141
  · skip
    have HV := hid (show wwide r = true by unfold wwide; rw [if_neg h0, if_neg h2, if_neg h6, if_neg h12, if_pos h17])
    go_enter Tryd.func84, Tryd.ntmps84
    go_wp2_with (first | (go_at_call 87; (first | refine (wtin_yes _ _ _ _ (by omega)).mono ?_ | refine (wtin_no _ _ _ _ (by omega)).mono ?_); rintro e w1 ⟨rfl, hw1⟩; obtain rfl := hw1.symm; clear hw1))
    go_ret
    exact ⟨by rw [HV.out]; rfl, rfl⟩
  have HV := hid (show wwide r = false by unfold wwide; rw [if_neg h0, if_neg h2, if_neg h6, if_neg h12, if_neg h17])
  go_enter Tryd.func84, Tryd.ntmps84
  go_wp2_with (first | (go_at_call 87; (first | refine (wtin_yes _ _ _ _ (by omega)).mono ?_ | refine (wtin_no _ _ _ _ (by omega)).mono ?_); rintro e w1 ⟨rfl, hw1⟩; obtain rfl := hw1.symm; clear hw1))
  go_ret
  exact ⟨by rw [HV.out]; rfl, rfl⟩
def wambi (r : Int) : Bool :=
  if r < 913 then (if r = 161 then true else if r = 167 then true else if r = 177 then true else false) else if r < 8208 then (if 913 ≤ r ∧ r ≤ 937 then true else if 945 ≤ r ∧ r ≤ 969 then true else if 1040 ≤ r ∧ r ≤ 1103 then true else false) else if r ≤ 8231 then true else if 8592 ≤ r ∧ r ≤ 8601 then true else if 9472 ≤ r ∧ r ≤ 9599 then true else if 9632 ≤ r ∧ r ≤ 9727 then true else false
set_option maxHeartbeats 4000000 in
theorem wambi_any (r : Int) (w : World) : Calls Tryd.prog 85 #[.int .i32 r] w fun e w' => e = .returned (.bool (wambi r)) ∧ w' = w := by
  by_cases h0 : r < 913
  · skip
    by_cases h1 : r = 161
    · skip
      subst h1
      have HV := hid (show wambi 161 = true by decide)
      clear h0
      go_enter Tryd.func85, Tryd.ntmps85
      go_wp2_with (first | (go_at_call 87; (first | refine (wtin_yes _ _ _ _ (by omega)).mono ?_ | refine (wtin_no _ _ _ _ (by omega)).mono ?_); rintro e w1 ⟨rfl, hw1⟩; obtain rfl := hw1.symm; clear hw1))
      go_ret
      exact ⟨by rw [HV.out]; rfl, rfl⟩
    by_cases h2 : r = 167
    · skip
      subst h2
      have HV := hid (show wambi 167 = true by decide)
      clear h0
      clear h1
      go_enter Tryd.func85, Tryd.ntmps85
      go_wp2_with (first | (go_at_call 87; (first | refine (wtin_yes _ _ _ _ (by omega)).mono ?_ | refine (wtin_no _ _ _ _ (by omega)).mono ?_); rintro e w1 ⟨rfl, hw1⟩; obtain rfl := hw1.symm; clear hw1))
      go_ret
      exact ⟨by rw [HV.out]; rfl, rfl⟩
    by_cases h3 : r = 177
    · skip
      subst h3
      have HV := hid (show wambi 177 = true by decide)
      clear h0
      clear h1
      clear h2
      go_enter Tryd.func85, Tryd.ntmps85
      go_wp2_with (first | (go_at_call 87; (first | refine (wtin_yes _ _ _ _ (by omega)).mono ?_ | refine (wtin_no _ _ _ _ (by omega)).mono ?_); rintro e w1 ⟨rfl, hw1⟩; obtain rfl := hw1.symm; clear hw1))
      go_ret
      exact ⟨by rw [HV.out]; rfl, rfl⟩
    have HV := hid (show wambi r = false by unfold wambi; rw [if_pos h0, if_neg h1, if_neg h2, if_neg h3])
    have bh1 : (r == 161) = false := beq_eq_false_iff_ne.2 h1
    have nh1 : (r != 161) = true := bne_iff_ne.2 h1
    have bh2 : (r == 167) = false := beq_eq_false_iff_ne.2 h2
    have nh2 : (r != 167) = true := bne_iff_ne.2 h2
    have bh3 : (r == 177) = false := beq_eq_false_iff_ne.2 h3
    have nh3 : (r != 177) = true := bne_iff_ne.2 h3
    go_enter Tryd.func85, Tryd.ntmps85
    go_wp2_with (first | (go_at_call 87; (first | refine (wtin_yes _ _ _ _ (by omega)).mono ?_ | refine (wtin_no _ _ _ _ (by omega)).mono ?_); rintro e w1 ⟨rfl, hw1⟩; obtain rfl := hw1.symm; clear hw1))
    go_ret
    exact ⟨by rw [HV.out]; rfl, rfl⟩
  by_cases h4 : r < 8208
  · skip
    by_cases h5 : 913 ≤ r ∧ r ≤ 937
    · skip
      have HV := hid (show wambi r = true by unfold wambi; rw [if_neg h0, if_pos h4, if_pos h5])
      obtain ⟨uh5, vh5⟩ := h5
      go_enter Tryd.func85, Tryd.ntmps85
      go_wp2_with (first | (go_at_call 87; (first | refine (wtin_yes _ _ _ _ (by omega)).mono ?_ | refine (wtin_no _ _ _ _ (by omega)).mono ?_); rintro e w1 ⟨rfl, hw1⟩; obtain rfl := hw1.symm; clear hw1))
      go_ret
      exact ⟨by rw [HV.out]; rfl, rfl⟩
    by_cases h6 : 945 ≤ r ∧ r ≤ 969
    · skip
      have HV := hid (show wambi r = true by unfold wambi; rw [if_neg h0, if_pos h4, if_neg h5, if_pos h6])
      obtain ⟨uh6, vh6⟩ := h6
      go_enter Tryd.func85, Tryd.ntmps85
      go_wp2_with (first | (go_at_call 87; (first | refine (wtin_yes _ _ _ _ (by omega)).mono ?_ | refine (wtin_no _ _ _ _ (by omega)).mono ?_); rintro e w1 ⟨rfl, hw1⟩; obtain rfl := hw1.symm; clear hw1))
      go_ret
      exact ⟨by rw [HV.out]; rfl, rfl⟩
    by_cases h7 : 1040 ≤ r ∧ r ≤ 1103
    · skip
      have HV := hid (show wambi r = true by unfold wambi; rw [if_neg h0, if_pos h4, if_neg h5, if_neg h6, if_pos h7])
      obtain ⟨uh7, vh7⟩ := h7
      go_enter Tryd.func85, Tryd.ntmps85
      go_wp2_with (first | (go_at_call 87; (first | refine (wtin_yes _ _ _ _ (by omega)).mono ?_ | refine (wtin_no _ _ _ _ (by omega)).mono ?_); rintro e w1 ⟨rfl, hw1⟩; obtain rfl := hw1.symm; clear hw1))
      go_ret
      exact ⟨by rw [HV.out]; rfl, rfl⟩
    have HV := hid (show wambi r = false by unfold wambi; rw [if_neg h0, if_pos h4, if_neg h5, if_neg h6, if_neg h7])
    go_enter Tryd.func85, Tryd.ntmps85
    go_wp2_with (first | (go_at_call 87; (first | refine (wtin_yes _ _ _ _ (by omega)).mono ?_ | refine (wtin_no _ _ _ _ (by omega)).mono ?_); rintro e w1 ⟨rfl, hw1⟩; obtain rfl := hw1.symm; clear hw1))
    go_ret
    exact ⟨by rw [HV.out]; rfl, rfl⟩
  by_cases h8 : r ≤ 8231
  · skip
    have HV := hid (show wambi r = true by unfold wambi; rw [if_neg h0, if_neg h4, if_pos h8])
    go_enter Tryd.func85, Tryd.ntmps85
    go_wp2_with (first | (go_at_call 87; (first | refine (wtin_yes _ _ _ _ (by omega)).mono ?_ | refine (wtin_no _ _ _ _ (by omega)).mono ?_); rintro e w1 ⟨rfl, hw1⟩; obtain rfl := hw1.symm; clear hw1))
    go_ret
    exact ⟨by rw [HV.out]; rfl, rfl⟩
  by_cases h9 : 8592 ≤ r ∧ r ≤ 8601
  · skip
    have HV := hid (show wambi r = true by unfold wambi; rw [if_neg h0, if_neg h4, if_neg h8, if_pos h9])
    obtain ⟨uh9, vh9⟩ := h9
    go_enter Tryd.func85, Tryd.ntmps85
    go_wp2_with (first | (go_at_call 87; (first | refine (wtin_yes _ _ _ _ (by omega)).mono ?_ | refine (wtin_no _ _ _ _ (by omega)).mono ?_); rintro e w1 ⟨rfl, hw1⟩; obtain rfl := hw1.symm; clear hw1))
    go_ret
    exact ⟨by rw [HV.out]; rfl, rfl⟩
  by_cases h10 : 9472 ≤ r ∧ r ≤ 9599
  · skip
    have HV := hid (show wambi r = true by unfold wambi; rw [if_neg h0, if_neg h4, if_neg h8, if_neg h9, if_pos h10])
    obtain ⟨uh10, vh10⟩ := h10
    go_enter Tryd.func85, Tryd.ntmps85
    go_wp2_with (first | (go_at_call 87; (first | refine (wtin_yes _ _ _ _ (by omega)).mono ?_ | refine (wtin_no _ _ _ _ (by omega)).mono ?_); rintro e w1 ⟨rfl, hw1⟩; obtain rfl := hw1.symm; clear hw1))
    go_ret
    exact ⟨by rw [HV.out]; rfl, rfl⟩
  by_cases h11 : 9632 ≤ r ∧ r ≤ 9727
  · skip
    have HV := hid (show wambi r = true by unfold wambi; rw [if_neg h0, if_neg h4, if_neg h8, if_neg h9, if_neg h10, if_pos h11])
    obtain ⟨uh11, vh11⟩ := h11
    go_enter Tryd.func85, Tryd.ntmps85
    go_wp2_with (first | (go_at_call 87; (first | refine (wtin_yes _ _ _ _ (by omega)).mono ?_ | refine (wtin_no _ _ _ _ (by omega)).mono ?_); rintro e w1 ⟨rfl, hw1⟩; obtain rfl := hw1.symm; clear hw1))
    go_ret
    exact ⟨by rw [HV.out]; rfl, rfl⟩
  have HV := hid (show wambi r = false by unfold wambi; rw [if_neg h0, if_neg h4, if_neg h8, if_neg h9, if_neg h10, if_neg h11])
  go_enter Tryd.func85, Tryd.ntmps85
  go_wp2_with (first | (go_at_call 87; (first | refine (wtin_yes _ _ _ _ (by omega)).mono ?_ | refine (wtin_no _ _ _ _ (by omega)).mono ?_); rintro e w1 ⟨rfl, hw1⟩; obtain rfl := hw1.symm; clear hw1))
  go_ret
  exact ⟨by rw [HV.out]; rfl, rfl⟩
end Go.Proofs.YtlfegdpclappiaaDoor
