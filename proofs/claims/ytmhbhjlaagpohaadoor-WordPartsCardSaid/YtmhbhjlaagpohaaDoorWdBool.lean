/- The contracts of ends, clings, letter, makesWord, middle and together (package word). -/
import Derived.Test.YtmhbhjlaagpohaaDoorWdDef
namespace Go.Proofs.YtmhbhjlaagpohaaDoor
open Go.RowKit

set_option maxHeartbeats 4000000 in
theorem wends_any (c : Int) (w : World) : Calls Tryd.prog 99 #[.int .i64 c] w fun e w' => e = .returned (.bool (wends c)) ∧ w' = w := by
  by_cases hc1 : c = 1
  · subst hc1
    have HV := hid (show wends 1 = true by decide)
    go_enter Tryd.func99, Tryd.ntmps99
    go_wp2
    go_ret
    exact ⟨by rw [HV.out]; rfl, rfl⟩
  by_cases hc2 : c = 2
  · subst hc2
    clear hc1
    have HV := hid (show wends 2 = true by decide)
    go_enter Tryd.func99, Tryd.ntmps99
    go_wp2
    go_ret
    exact ⟨by rw [HV.out]; rfl, rfl⟩
  by_cases hc3 : c = 3
  · subst hc3
    clear hc1 hc2
    have HV := hid (show wends 3 = true by decide)
    go_enter Tryd.func99, Tryd.ntmps99
    go_wp2
    go_ret
    exact ⟨by rw [HV.out]; rfl, rfl⟩
  have bc1 : (c == 1) = false := beq_eq_false_iff_ne.2 hc1
  have nc1 : (c != 1) = true := bne_iff_ne.2 hc1
  have bc2 : (c == 2) = false := beq_eq_false_iff_ne.2 hc2
  have nc2 : (c != 2) = true := bne_iff_ne.2 hc2
  have bc3 : (c == 3) = false := beq_eq_false_iff_ne.2 hc3
  have nc3 : (c != 3) = true := bne_iff_ne.2 hc3
  clear hc1 hc2 hc3
  have HV := hid (show wends c = false by ((try unfold wends); simp [*]))
  go_enter Tryd.func99, Tryd.ntmps99
  go_wp2
  go_ret
  exact ⟨by rw [HV.out]; rfl, rfl⟩
set_option maxHeartbeats 4000000 in
theorem wclings_any (c : Int) (w : World) : Calls Tryd.prog 72 #[.int .i64 c] w fun e w' => e = .returned (.bool (wclings c)) ∧ w' = w := by
  by_cases hc4 : c = 4
  · subst hc4
    have HV := hid (show wclings 4 = true by decide)
    go_enter Tryd.func72, Tryd.ntmps72
    go_wp2
    go_ret
    exact ⟨by rw [HV.out]; rfl, rfl⟩
  by_cases hc6 : c = 6
  · subst hc6
    clear hc4
    have HV := hid (show wclings 6 = true by decide)
    go_enter Tryd.func72, Tryd.ntmps72
    go_wp2
    go_ret
    exact ⟨by rw [HV.out]; rfl, rfl⟩
  by_cases hc5 : c = 5
  · subst hc5
    clear hc4 hc6
    have HV := hid (show wclings 5 = true by decide)
    go_enter Tryd.func72, Tryd.ntmps72
    go_wp2
    go_ret
    exact ⟨by rw [HV.out]; rfl, rfl⟩
  have bc4 : (c == 4) = false := beq_eq_false_iff_ne.2 hc4
  have nc4 : (c != 4) = true := bne_iff_ne.2 hc4
  have bc6 : (c == 6) = false := beq_eq_false_iff_ne.2 hc6
  have nc6 : (c != 6) = true := bne_iff_ne.2 hc6
  have bc5 : (c == 5) = false := beq_eq_false_iff_ne.2 hc5
  have nc5 : (c != 5) = true := bne_iff_ne.2 hc5
  clear hc4 hc6 hc5
  have HV := hid (show wclings c = false by ((try unfold wclings); simp [*]))
  go_enter Tryd.func72, Tryd.ntmps72
  go_wp2
  go_ret
  exact ⟨by rw [HV.out]; rfl, rfl⟩
set_option maxHeartbeats 4000000 in
theorem wletter_any (c : Int) (w : World) : Calls Tryd.prog 87 #[.int .i64 c] w fun e w' => e = .returned (.bool (wletter c)) ∧ w' = w := by
  by_cases hc10 : c = 10
  · subst hc10
    have HV := hid (show wletter 10 = true by decide)
    go_enter Tryd.func87, Tryd.ntmps87
    go_wp2
    go_ret
    exact ⟨by rw [HV.out]; rfl, rfl⟩
  by_cases hc9 : c = 9
  · subst hc9
    clear hc10
    have HV := hid (show wletter 9 = true by decide)
    go_enter Tryd.func87, Tryd.ntmps87
    go_wp2
    go_ret
    exact ⟨by rw [HV.out]; rfl, rfl⟩
  have bc10 : (c == 10) = false := beq_eq_false_iff_ne.2 hc10
  have nc10 : (c != 10) = true := bne_iff_ne.2 hc10
  have bc9 : (c == 9) = false := beq_eq_false_iff_ne.2 hc9
  have nc9 : (c != 9) = true := bne_iff_ne.2 hc9
  clear hc10 hc9
  have HV := hid (show wletter c = false by ((try unfold wletter); simp [*]))
  go_enter Tryd.func87, Tryd.ntmps87
  go_wp2
  go_ret
  exact ⟨by rw [HV.out]; rfl, rfl⟩
theorem wletter_v (c : Int) (v : Bool) (w : World) (h : wletter c = v) : Calls Tryd.prog 87 #[.int .i64 c] w fun e w' => e = .returned (.bool v) ∧ w' = w := by
  rw [← h]; exact wletter_any c w
set_option maxHeartbeats 4000000 in
theorem wmakes_any (c : Int) (w : World) : Calls Tryd.prog 67 #[.int .i64 c] w fun e w' => e = .returned (.bool (wmakes c)) ∧ w' = w := by
  by_cases hc10 : c = 10
  · subst hc10
    have HV := hid (show wmakes 10 = true by decide)
    go_enter Tryd.func67, Tryd.ntmps67
    go_wp2_with (go_at_call 87; (first | refine (wletter_v _ true _ (by decide)).mono ?_ | refine (wletter_v _ false _ (by first | decide | assumption)).mono ?_); rintro e w1 ⟨rfl, hw1⟩; obtain rfl := hw1.symm; clear hw1)
    go_ret
    exact ⟨by rw [HV.out]; rfl, rfl⟩
  by_cases hc9 : c = 9
  · subst hc9
    clear hc10
    have HV := hid (show wmakes 9 = true by decide)
    go_enter Tryd.func67, Tryd.ntmps67
    go_wp2_with (go_at_call 87; (first | refine (wletter_v _ true _ (by decide)).mono ?_ | refine (wletter_v _ false _ (by first | decide | assumption)).mono ?_); rintro e w1 ⟨rfl, hw1⟩; obtain rfl := hw1.symm; clear hw1)
    go_ret
    exact ⟨by rw [HV.out]; rfl, rfl⟩
  by_cases hc8 : c = 8
  · subst hc8
    clear hc10 hc9
    have HV := hid (show wmakes 8 = true by decide)
    go_enter Tryd.func67, Tryd.ntmps67
    go_wp2_with (go_at_call 87; (first | refine (wletter_v _ true _ (by decide)).mono ?_ | refine (wletter_v _ false _ (by first | decide | assumption)).mono ?_); rintro e w1 ⟨rfl, hw1⟩; obtain rfl := hw1.symm; clear hw1)
    go_ret
    exact ⟨by rw [HV.out]; rfl, rfl⟩
  by_cases hc16 : c = 16
  · subst hc16
    clear hc10 hc9 hc8
    have HV := hid (show wmakes 16 = true by decide)
    go_enter Tryd.func67, Tryd.ntmps67
    go_wp2_with (go_at_call 87; (first | refine (wletter_v _ true _ (by decide)).mono ?_ | refine (wletter_v _ false _ (by first | decide | assumption)).mono ?_); rintro e w1 ⟨rfl, hw1⟩; obtain rfl := hw1.symm; clear hw1)
    go_ret
    exact ⟨by rw [HV.out]; rfl, rfl⟩
  have bc10 : (c == 10) = false := beq_eq_false_iff_ne.2 hc10
  have nc10 : (c != 10) = true := bne_iff_ne.2 hc10
  have bc9 : (c == 9) = false := beq_eq_false_iff_ne.2 hc9
  have nc9 : (c != 9) = true := bne_iff_ne.2 hc9
  have bc8 : (c == 8) = false := beq_eq_false_iff_ne.2 hc8
  have nc8 : (c != 8) = true := bne_iff_ne.2 hc8
  have bc16 : (c == 16) = false := beq_eq_false_iff_ne.2 hc16
  have nc16 : (c != 16) = true := bne_iff_ne.2 hc16
  have Lc : wletter c = false := by simp [wletter, bc9, bc10]
  clear hc10 hc9 hc8 hc16
  have HV := hid (show wmakes c = false by ((try unfold wmakes); (try unfold wletter); simp [*]))
  go_enter Tryd.func67, Tryd.ntmps67
  go_wp2_with (go_at_call 87; (first | refine (wletter_v _ true _ (by decide)).mono ?_ | refine (wletter_v _ false _ (by first | decide | assumption)).mono ?_); rintro e w1 ⟨rfl, hw1⟩; obtain rfl := hw1.symm; clear hw1)
  go_ret
  exact ⟨by rw [HV.out]; rfl, rfl⟩
theorem wmakes_v (c : Int) (v : Bool) (w : World) (h : wmakes c = v) : Calls Tryd.prog 67 #[.int .i64 c] w fun e w' => e = .returned (.bool v) ∧ w' = w := by
  rw [← h]; exact wmakes_any c w
set_option maxHeartbeats 4000000 in
theorem wmid_any (c : Int) (w : World) : Calls Tryd.prog 115 #[.int .i64 c] w fun e w' => e = .returned (.bool (wmid c)) ∧ w' = w := by
  by_cases hc14 : c = 14
  · subst hc14
    have HV := hid (show wmid 14 = true by decide)
    go_enter Tryd.func115, Tryd.ntmps115
    go_wp2
    go_ret
    exact ⟨by rw [HV.out]; rfl, rfl⟩
  by_cases hc15 : c = 15
  · subst hc15
    clear hc14
    have HV := hid (show wmid 15 = true by decide)
    go_enter Tryd.func115, Tryd.ntmps115
    go_wp2
    go_ret
    exact ⟨by rw [HV.out]; rfl, rfl⟩
  by_cases hc13 : c = 13
  · subst hc13
    clear hc14 hc15
    have HV := hid (show wmid 13 = true by decide)
    go_enter Tryd.func115, Tryd.ntmps115
    go_wp2
    go_ret
    exact ⟨by rw [HV.out]; rfl, rfl⟩
  by_cases hc11 : c = 11
  · subst hc11
    clear hc14 hc15 hc13
    have HV := hid (show wmid 11 = true by decide)
    go_enter Tryd.func115, Tryd.ntmps115
    go_wp2
    go_ret
    exact ⟨by rw [HV.out]; rfl, rfl⟩
  by_cases hc12 : c = 12
  · subst hc12
    clear hc14 hc15 hc13 hc11
    have HV := hid (show wmid 12 = true by decide)
    go_enter Tryd.func115, Tryd.ntmps115
    go_wp2
    go_ret
    exact ⟨by rw [HV.out]; rfl, rfl⟩
  have bc14 : (c == 14) = false := beq_eq_false_iff_ne.2 hc14
  have nc14 : (c != 14) = true := bne_iff_ne.2 hc14
  have bc15 : (c == 15) = false := beq_eq_false_iff_ne.2 hc15
  have nc15 : (c != 15) = true := bne_iff_ne.2 hc15
  have bc13 : (c == 13) = false := beq_eq_false_iff_ne.2 hc13
  have nc13 : (c != 13) = true := bne_iff_ne.2 hc13
  have bc11 : (c == 11) = false := beq_eq_false_iff_ne.2 hc11
  have nc11 : (c != 11) = true := bne_iff_ne.2 hc11
  have bc12 : (c == 12) = false := beq_eq_false_iff_ne.2 hc12
  have nc12 : (c != 12) = true := bne_iff_ne.2 hc12
  clear hc14 hc15 hc13 hc11 hc12
  have HV := hid (show wmid c = false by ((try unfold wmid); simp [*]))
  go_enter Tryd.func115, Tryd.ntmps115
  go_wp2
  go_ret
  exact ⟨by rw [HV.out]; rfl, rfl⟩
set_option maxHeartbeats 4000000 in
theorem wtog_any (a b : Int) (w : World) : Calls Tryd.prog 113 #[.int .i64 a, .int .i64 b] w fun e w' => e = .returned (.bool (wtog a b)) ∧ w' = w := by
  by_cases ha10 : a = 10
  · subst ha10
    by_cases hb10 : b = 10
    · subst hb10
      have HV := hid (show wtog 10 10 = true by decide)
      go_enter Tryd.func113, Tryd.ntmps113
      go_wp2_with (first | (go_at_call 87; (first | refine (wletter_v _ true _ (by decide)).mono ?_ | refine (wletter_v _ false _ (by first | decide | assumption)).mono ?_); rintro e w1 ⟨rfl, hw1⟩; obtain rfl := hw1.symm; clear hw1) | (go_at_call 67; (first | refine (wmakes_v _ true _ (by decide)).mono ?_ | refine (wmakes_v _ false _ (by first | decide | (simp [wmakes, wletter, *]))).mono ?_); rintro e w1 ⟨rfl, hw1⟩; obtain rfl := hw1.symm; clear hw1))
      go_ret
      exact ⟨by rw [HV.out]; rfl, rfl⟩
    by_cases hb9 : b = 9
    · subst hb9
      clear hb10
      have HV := hid (show wtog 10 9 = true by decide)
      go_enter Tryd.func113, Tryd.ntmps113
      go_wp2_with (first | (go_at_call 87; (first | refine (wletter_v _ true _ (by decide)).mono ?_ | refine (wletter_v _ false _ (by first | decide | assumption)).mono ?_); rintro e w1 ⟨rfl, hw1⟩; obtain rfl := hw1.symm; clear hw1) | (go_at_call 67; (first | refine (wmakes_v _ true _ (by decide)).mono ?_ | refine (wmakes_v _ false _ (by first | decide | (simp [wmakes, wletter, *]))).mono ?_); rintro e w1 ⟨rfl, hw1⟩; obtain rfl := hw1.symm; clear hw1))
      go_ret
      exact ⟨by rw [HV.out]; rfl, rfl⟩
    by_cases hb16 : b = 16
    · subst hb16
      clear hb10 hb9
      have HV := hid (show wtog 10 16 = true by decide)
      go_enter Tryd.func113, Tryd.ntmps113
      go_wp2_with (first | (go_at_call 87; (first | refine (wletter_v _ true _ (by decide)).mono ?_ | refine (wletter_v _ false _ (by first | decide | assumption)).mono ?_); rintro e w1 ⟨rfl, hw1⟩; obtain rfl := hw1.symm; clear hw1) | (go_at_call 67; (first | refine (wmakes_v _ true _ (by decide)).mono ?_ | refine (wmakes_v _ false _ (by first | decide | (simp [wmakes, wletter, *]))).mono ?_); rintro e w1 ⟨rfl, hw1⟩; obtain rfl := hw1.symm; clear hw1))
      go_ret
      exact ⟨by rw [HV.out]; rfl, rfl⟩
    by_cases hb17 : b = 17
    · subst hb17
      clear hb10 hb9 hb16
      have HV := hid (show wtog 10 17 = true by decide)
      go_enter Tryd.func113, Tryd.ntmps113
      go_wp2_with (first | (go_at_call 87; (first | refine (wletter_v _ true _ (by decide)).mono ?_ | refine (wletter_v _ false _ (by first | decide | assumption)).mono ?_); rintro e w1 ⟨rfl, hw1⟩; obtain rfl := hw1.symm; clear hw1) | (go_at_call 67; (first | refine (wmakes_v _ true _ (by decide)).mono ?_ | refine (wmakes_v _ false _ (by first | decide | (simp [wmakes, wletter, *]))).mono ?_); rintro e w1 ⟨rfl, hw1⟩; obtain rfl := hw1.symm; clear hw1))
      go_ret
      exact ⟨by rw [HV.out]; rfl, rfl⟩
    by_cases hb11 : b = 11
    · subst hb11
      clear hb10 hb9 hb16 hb17
      have HV := hid (show wtog 10 11 = false by decide)
      go_enter Tryd.func113, Tryd.ntmps113
      go_wp2_with (first | (go_at_call 87; (first | refine (wletter_v _ true _ (by decide)).mono ?_ | refine (wletter_v _ false _ (by first | decide | assumption)).mono ?_); rintro e w1 ⟨rfl, hw1⟩; obtain rfl := hw1.symm; clear hw1) | (go_at_call 67; (first | refine (wmakes_v _ true _ (by decide)).mono ?_ | refine (wmakes_v _ false _ (by first | decide | (simp [wmakes, wletter, *]))).mono ?_); rintro e w1 ⟨rfl, hw1⟩; obtain rfl := hw1.symm; clear hw1))
      go_ret
      exact ⟨by rw [HV.out]; rfl, rfl⟩
    by_cases hb8 : b = 8
    · subst hb8
      clear hb10 hb9 hb16 hb17 hb11
      have HV := hid (show wtog 10 8 = false by decide)
      go_enter Tryd.func113, Tryd.ntmps113
      go_wp2_with (first | (go_at_call 87; (first | refine (wletter_v _ true _ (by decide)).mono ?_ | refine (wletter_v _ false _ (by first | decide | assumption)).mono ?_); rintro e w1 ⟨rfl, hw1⟩; obtain rfl := hw1.symm; clear hw1) | (go_at_call 67; (first | refine (wmakes_v _ true _ (by decide)).mono ?_ | refine (wmakes_v _ false _ (by first | decide | (simp [wmakes, wletter, *]))).mono ?_); rintro e w1 ⟨rfl, hw1⟩; obtain rfl := hw1.symm; clear hw1))
      go_ret
      exact ⟨by rw [HV.out]; rfl, rfl⟩
    have bb10 : (b == 10) = false := beq_eq_false_iff_ne.2 hb10
    have nb10 : (b != 10) = true := bne_iff_ne.2 hb10
    have bb9 : (b == 9) = false := beq_eq_false_iff_ne.2 hb9
    have nb9 : (b != 9) = true := bne_iff_ne.2 hb9
    have bb16 : (b == 16) = false := beq_eq_false_iff_ne.2 hb16
    have nb16 : (b != 16) = true := bne_iff_ne.2 hb16
    have bb17 : (b == 17) = false := beq_eq_false_iff_ne.2 hb17
    have nb17 : (b != 17) = true := bne_iff_ne.2 hb17
    have bb11 : (b == 11) = false := beq_eq_false_iff_ne.2 hb11
    have nb11 : (b != 11) = true := bne_iff_ne.2 hb11
    have bb8 : (b == 8) = false := beq_eq_false_iff_ne.2 hb8
    have nb8 : (b != 8) = true := bne_iff_ne.2 hb8
    have Lb : wletter b = false := by simp [wletter, bb9, bb10]
    clear hb10 hb9 hb16 hb17 hb11 hb8
    have HV := hid (show wtog 10 b = false by ((try unfold wtog); (try unfold wletter); simp [*]))
    go_enter Tryd.func113, Tryd.ntmps113
    go_wp2_with (first | (go_at_call 87; (first | refine (wletter_v _ true _ (by decide)).mono ?_ | refine (wletter_v _ false _ (by first | decide | assumption)).mono ?_); rintro e w1 ⟨rfl, hw1⟩; obtain rfl := hw1.symm; clear hw1) | (go_at_call 67; (first | refine (wmakes_v _ true _ (by decide)).mono ?_ | refine (wmakes_v _ false _ (by first | decide | (simp [wmakes, wletter, *]))).mono ?_); rintro e w1 ⟨rfl, hw1⟩; obtain rfl := hw1.symm; clear hw1))
    go_ret
    exact ⟨by rw [HV.out]; rfl, rfl⟩
  by_cases ha16 : a = 16
  · subst ha16
    clear ha10
    by_cases hb10 : b = 10
    · subst hb10
      have HV := hid (show wtog 16 10 = true by decide)
      go_enter Tryd.func113, Tryd.ntmps113
      go_wp2_with (first | (go_at_call 87; (first | refine (wletter_v _ true _ (by decide)).mono ?_ | refine (wletter_v _ false _ (by first | decide | assumption)).mono ?_); rintro e w1 ⟨rfl, hw1⟩; obtain rfl := hw1.symm; clear hw1) | (go_at_call 67; (first | refine (wmakes_v _ true _ (by decide)).mono ?_ | refine (wmakes_v _ false _ (by first | decide | (simp [wmakes, wletter, *]))).mono ?_); rintro e w1 ⟨rfl, hw1⟩; obtain rfl := hw1.symm; clear hw1))
      go_ret
      exact ⟨by rw [HV.out]; rfl, rfl⟩
    by_cases hb9 : b = 9
    · subst hb9
      clear hb10
      have HV := hid (show wtog 16 9 = true by decide)
      go_enter Tryd.func113, Tryd.ntmps113
      go_wp2_with (first | (go_at_call 87; (first | refine (wletter_v _ true _ (by decide)).mono ?_ | refine (wletter_v _ false _ (by first | decide | assumption)).mono ?_); rintro e w1 ⟨rfl, hw1⟩; obtain rfl := hw1.symm; clear hw1) | (go_at_call 67; (first | refine (wmakes_v _ true _ (by decide)).mono ?_ | refine (wmakes_v _ false _ (by first | decide | (simp [wmakes, wletter, *]))).mono ?_); rintro e w1 ⟨rfl, hw1⟩; obtain rfl := hw1.symm; clear hw1))
      go_ret
      exact ⟨by rw [HV.out]; rfl, rfl⟩
    by_cases hb16 : b = 16
    · subst hb16
      clear hb10 hb9
      have HV := hid (show wtog 16 16 = true by decide)
      go_enter Tryd.func113, Tryd.ntmps113
      go_wp2_with (first | (go_at_call 87; (first | refine (wletter_v _ true _ (by decide)).mono ?_ | refine (wletter_v _ false _ (by first | decide | assumption)).mono ?_); rintro e w1 ⟨rfl, hw1⟩; obtain rfl := hw1.symm; clear hw1) | (go_at_call 67; (first | refine (wmakes_v _ true _ (by decide)).mono ?_ | refine (wmakes_v _ false _ (by first | decide | (simp [wmakes, wletter, *]))).mono ?_); rintro e w1 ⟨rfl, hw1⟩; obtain rfl := hw1.symm; clear hw1))
      go_ret
      exact ⟨by rw [HV.out]; rfl, rfl⟩
    by_cases hb17 : b = 17
    · subst hb17
      clear hb10 hb9 hb16
      have HV := hid (show wtog 16 17 = true by decide)
      go_enter Tryd.func113, Tryd.ntmps113
      go_wp2_with (first | (go_at_call 87; (first | refine (wletter_v _ true _ (by decide)).mono ?_ | refine (wletter_v _ false _ (by first | decide | assumption)).mono ?_); rintro e w1 ⟨rfl, hw1⟩; obtain rfl := hw1.symm; clear hw1) | (go_at_call 67; (first | refine (wmakes_v _ true _ (by decide)).mono ?_ | refine (wmakes_v _ false _ (by first | decide | (simp [wmakes, wletter, *]))).mono ?_); rintro e w1 ⟨rfl, hw1⟩; obtain rfl := hw1.symm; clear hw1))
      go_ret
      exact ⟨by rw [HV.out]; rfl, rfl⟩
    by_cases hb11 : b = 11
    · subst hb11
      clear hb10 hb9 hb16 hb17
      have HV := hid (show wtog 16 11 = false by decide)
      go_enter Tryd.func113, Tryd.ntmps113
      go_wp2_with (first | (go_at_call 87; (first | refine (wletter_v _ true _ (by decide)).mono ?_ | refine (wletter_v _ false _ (by first | decide | assumption)).mono ?_); rintro e w1 ⟨rfl, hw1⟩; obtain rfl := hw1.symm; clear hw1) | (go_at_call 67; (first | refine (wmakes_v _ true _ (by decide)).mono ?_ | refine (wmakes_v _ false _ (by first | decide | (simp [wmakes, wletter, *]))).mono ?_); rintro e w1 ⟨rfl, hw1⟩; obtain rfl := hw1.symm; clear hw1))
      go_ret
      exact ⟨by rw [HV.out]; rfl, rfl⟩
    by_cases hb8 : b = 8
    · subst hb8
      clear hb10 hb9 hb16 hb17 hb11
      have HV := hid (show wtog 16 8 = false by decide)
      go_enter Tryd.func113, Tryd.ntmps113
      go_wp2_with (first | (go_at_call 87; (first | refine (wletter_v _ true _ (by decide)).mono ?_ | refine (wletter_v _ false _ (by first | decide | assumption)).mono ?_); rintro e w1 ⟨rfl, hw1⟩; obtain rfl := hw1.symm; clear hw1) | (go_at_call 67; (first | refine (wmakes_v _ true _ (by decide)).mono ?_ | refine (wmakes_v _ false _ (by first | decide | (simp [wmakes, wletter, *]))).mono ?_); rintro e w1 ⟨rfl, hw1⟩; obtain rfl := hw1.symm; clear hw1))
      go_ret
      exact ⟨by rw [HV.out]; rfl, rfl⟩
    have bb10 : (b == 10) = false := beq_eq_false_iff_ne.2 hb10
    have nb10 : (b != 10) = true := bne_iff_ne.2 hb10
    have bb9 : (b == 9) = false := beq_eq_false_iff_ne.2 hb9
    have nb9 : (b != 9) = true := bne_iff_ne.2 hb9
    have bb16 : (b == 16) = false := beq_eq_false_iff_ne.2 hb16
    have nb16 : (b != 16) = true := bne_iff_ne.2 hb16
    have bb17 : (b == 17) = false := beq_eq_false_iff_ne.2 hb17
    have nb17 : (b != 17) = true := bne_iff_ne.2 hb17
    have bb11 : (b == 11) = false := beq_eq_false_iff_ne.2 hb11
    have nb11 : (b != 11) = true := bne_iff_ne.2 hb11
    have bb8 : (b == 8) = false := beq_eq_false_iff_ne.2 hb8
    have nb8 : (b != 8) = true := bne_iff_ne.2 hb8
    have Lb : wletter b = false := by simp [wletter, bb9, bb10]
    clear hb10 hb9 hb16 hb17 hb11 hb8
    have HV := hid (show wtog 16 b = false by ((try unfold wtog); (try unfold wletter); simp [*]))
    go_enter Tryd.func113, Tryd.ntmps113
    go_wp2_with (first | (go_at_call 87; (first | refine (wletter_v _ true _ (by decide)).mono ?_ | refine (wletter_v _ false _ (by first | decide | assumption)).mono ?_); rintro e w1 ⟨rfl, hw1⟩; obtain rfl := hw1.symm; clear hw1) | (go_at_call 67; (first | refine (wmakes_v _ true _ (by decide)).mono ?_ | refine (wmakes_v _ false _ (by first | decide | (simp [wmakes, wletter, *]))).mono ?_); rintro e w1 ⟨rfl, hw1⟩; obtain rfl := hw1.symm; clear hw1))
    go_ret
    exact ⟨by rw [HV.out]; rfl, rfl⟩
  by_cases ha9 : a = 9
  · subst ha9
    clear ha10 ha16
    by_cases hb10 : b = 10
    · subst hb10
      have HV := hid (show wtog 9 10 = true by decide)
      go_enter Tryd.func113, Tryd.ntmps113
      go_wp2_with (first | (go_at_call 87; (first | refine (wletter_v _ true _ (by decide)).mono ?_ | refine (wletter_v _ false _ (by first | decide | assumption)).mono ?_); rintro e w1 ⟨rfl, hw1⟩; obtain rfl := hw1.symm; clear hw1) | (go_at_call 67; (first | refine (wmakes_v _ true _ (by decide)).mono ?_ | refine (wmakes_v _ false _ (by first | decide | (simp [wmakes, wletter, *]))).mono ?_); rintro e w1 ⟨rfl, hw1⟩; obtain rfl := hw1.symm; clear hw1))
      go_ret
      exact ⟨by rw [HV.out]; rfl, rfl⟩
    by_cases hb9 : b = 9
    · subst hb9
      clear hb10
      have HV := hid (show wtog 9 9 = true by decide)
      go_enter Tryd.func113, Tryd.ntmps113
      go_wp2_with (first | (go_at_call 87; (first | refine (wletter_v _ true _ (by decide)).mono ?_ | refine (wletter_v _ false _ (by first | decide | assumption)).mono ?_); rintro e w1 ⟨rfl, hw1⟩; obtain rfl := hw1.symm; clear hw1) | (go_at_call 67; (first | refine (wmakes_v _ true _ (by decide)).mono ?_ | refine (wmakes_v _ false _ (by first | decide | (simp [wmakes, wletter, *]))).mono ?_); rintro e w1 ⟨rfl, hw1⟩; obtain rfl := hw1.symm; clear hw1))
      go_ret
      exact ⟨by rw [HV.out]; rfl, rfl⟩
    by_cases hb16 : b = 16
    · subst hb16
      clear hb10 hb9
      have HV := hid (show wtog 9 16 = true by decide)
      go_enter Tryd.func113, Tryd.ntmps113
      go_wp2_with (first | (go_at_call 87; (first | refine (wletter_v _ true _ (by decide)).mono ?_ | refine (wletter_v _ false _ (by first | decide | assumption)).mono ?_); rintro e w1 ⟨rfl, hw1⟩; obtain rfl := hw1.symm; clear hw1) | (go_at_call 67; (first | refine (wmakes_v _ true _ (by decide)).mono ?_ | refine (wmakes_v _ false _ (by first | decide | (simp [wmakes, wletter, *]))).mono ?_); rintro e w1 ⟨rfl, hw1⟩; obtain rfl := hw1.symm; clear hw1))
      go_ret
      exact ⟨by rw [HV.out]; rfl, rfl⟩
    by_cases hb17 : b = 17
    · subst hb17
      clear hb10 hb9 hb16
      have HV := hid (show wtog 9 17 = true by decide)
      go_enter Tryd.func113, Tryd.ntmps113
      go_wp2_with (first | (go_at_call 87; (first | refine (wletter_v _ true _ (by decide)).mono ?_ | refine (wletter_v _ false _ (by first | decide | assumption)).mono ?_); rintro e w1 ⟨rfl, hw1⟩; obtain rfl := hw1.symm; clear hw1) | (go_at_call 67; (first | refine (wmakes_v _ true _ (by decide)).mono ?_ | refine (wmakes_v _ false _ (by first | decide | (simp [wmakes, wletter, *]))).mono ?_); rintro e w1 ⟨rfl, hw1⟩; obtain rfl := hw1.symm; clear hw1))
      go_ret
      exact ⟨by rw [HV.out]; rfl, rfl⟩
    by_cases hb11 : b = 11
    · subst hb11
      clear hb10 hb9 hb16 hb17
      have HV := hid (show wtog 9 11 = true by decide)
      go_enter Tryd.func113, Tryd.ntmps113
      go_wp2_with (first | (go_at_call 87; (first | refine (wletter_v _ true _ (by decide)).mono ?_ | refine (wletter_v _ false _ (by first | decide | assumption)).mono ?_); rintro e w1 ⟨rfl, hw1⟩; obtain rfl := hw1.symm; clear hw1) | (go_at_call 67; (first | refine (wmakes_v _ true _ (by decide)).mono ?_ | refine (wmakes_v _ false _ (by first | decide | (simp [wmakes, wletter, *]))).mono ?_); rintro e w1 ⟨rfl, hw1⟩; obtain rfl := hw1.symm; clear hw1))
      go_ret
      exact ⟨by rw [HV.out]; rfl, rfl⟩
    by_cases hb8 : b = 8
    · subst hb8
      clear hb10 hb9 hb16 hb17 hb11
      have HV := hid (show wtog 9 8 = false by decide)
      go_enter Tryd.func113, Tryd.ntmps113
      go_wp2_with (first | (go_at_call 87; (first | refine (wletter_v _ true _ (by decide)).mono ?_ | refine (wletter_v _ false _ (by first | decide | assumption)).mono ?_); rintro e w1 ⟨rfl, hw1⟩; obtain rfl := hw1.symm; clear hw1) | (go_at_call 67; (first | refine (wmakes_v _ true _ (by decide)).mono ?_ | refine (wmakes_v _ false _ (by first | decide | (simp [wmakes, wletter, *]))).mono ?_); rintro e w1 ⟨rfl, hw1⟩; obtain rfl := hw1.symm; clear hw1))
      go_ret
      exact ⟨by rw [HV.out]; rfl, rfl⟩
    have bb10 : (b == 10) = false := beq_eq_false_iff_ne.2 hb10
    have nb10 : (b != 10) = true := bne_iff_ne.2 hb10
    have bb9 : (b == 9) = false := beq_eq_false_iff_ne.2 hb9
    have nb9 : (b != 9) = true := bne_iff_ne.2 hb9
    have bb16 : (b == 16) = false := beq_eq_false_iff_ne.2 hb16
    have nb16 : (b != 16) = true := bne_iff_ne.2 hb16
    have bb17 : (b == 17) = false := beq_eq_false_iff_ne.2 hb17
    have nb17 : (b != 17) = true := bne_iff_ne.2 hb17
    have bb11 : (b == 11) = false := beq_eq_false_iff_ne.2 hb11
    have nb11 : (b != 11) = true := bne_iff_ne.2 hb11
    have bb8 : (b == 8) = false := beq_eq_false_iff_ne.2 hb8
    have nb8 : (b != 8) = true := bne_iff_ne.2 hb8
    have Lb : wletter b = false := by simp [wletter, bb9, bb10]
    clear hb10 hb9 hb16 hb17 hb11 hb8
    have HV := hid (show wtog 9 b = false by ((try unfold wtog); (try unfold wletter); simp [*]))
    go_enter Tryd.func113, Tryd.ntmps113
    go_wp2_with (first | (go_at_call 87; (first | refine (wletter_v _ true _ (by decide)).mono ?_ | refine (wletter_v _ false _ (by first | decide | assumption)).mono ?_); rintro e w1 ⟨rfl, hw1⟩; obtain rfl := hw1.symm; clear hw1) | (go_at_call 67; (first | refine (wmakes_v _ true _ (by decide)).mono ?_ | refine (wmakes_v _ false _ (by first | decide | (simp [wmakes, wletter, *]))).mono ?_); rintro e w1 ⟨rfl, hw1⟩; obtain rfl := hw1.symm; clear hw1))
    go_ret
    exact ⟨by rw [HV.out]; rfl, rfl⟩
  by_cases ha8 : a = 8
  · subst ha8
    clear ha10 ha16 ha9
    by_cases hb10 : b = 10
    · subst hb10
      have HV := hid (show wtog 8 10 = false by decide)
      go_enter Tryd.func113, Tryd.ntmps113
      go_wp2_with (first | (go_at_call 87; (first | refine (wletter_v _ true _ (by decide)).mono ?_ | refine (wletter_v _ false _ (by first | decide | assumption)).mono ?_); rintro e w1 ⟨rfl, hw1⟩; obtain rfl := hw1.symm; clear hw1) | (go_at_call 67; (first | refine (wmakes_v _ true _ (by decide)).mono ?_ | refine (wmakes_v _ false _ (by first | decide | (simp [wmakes, wletter, *]))).mono ?_); rintro e w1 ⟨rfl, hw1⟩; obtain rfl := hw1.symm; clear hw1))
      go_ret
      exact ⟨by rw [HV.out]; rfl, rfl⟩
    by_cases hb9 : b = 9
    · subst hb9
      clear hb10
      have HV := hid (show wtog 8 9 = false by decide)
      go_enter Tryd.func113, Tryd.ntmps113
      go_wp2_with (first | (go_at_call 87; (first | refine (wletter_v _ true _ (by decide)).mono ?_ | refine (wletter_v _ false _ (by first | decide | assumption)).mono ?_); rintro e w1 ⟨rfl, hw1⟩; obtain rfl := hw1.symm; clear hw1) | (go_at_call 67; (first | refine (wmakes_v _ true _ (by decide)).mono ?_ | refine (wmakes_v _ false _ (by first | decide | (simp [wmakes, wletter, *]))).mono ?_); rintro e w1 ⟨rfl, hw1⟩; obtain rfl := hw1.symm; clear hw1))
      go_ret
      exact ⟨by rw [HV.out]; rfl, rfl⟩
    by_cases hb16 : b = 16
    · subst hb16
      clear hb10 hb9
      have HV := hid (show wtog 8 16 = false by decide)
      go_enter Tryd.func113, Tryd.ntmps113
      go_wp2_with (first | (go_at_call 87; (first | refine (wletter_v _ true _ (by decide)).mono ?_ | refine (wletter_v _ false _ (by first | decide | assumption)).mono ?_); rintro e w1 ⟨rfl, hw1⟩; obtain rfl := hw1.symm; clear hw1) | (go_at_call 67; (first | refine (wmakes_v _ true _ (by decide)).mono ?_ | refine (wmakes_v _ false _ (by first | decide | (simp [wmakes, wletter, *]))).mono ?_); rintro e w1 ⟨rfl, hw1⟩; obtain rfl := hw1.symm; clear hw1))
      go_ret
      exact ⟨by rw [HV.out]; rfl, rfl⟩
    by_cases hb17 : b = 17
    · subst hb17
      clear hb10 hb9 hb16
      have HV := hid (show wtog 8 17 = true by decide)
      go_enter Tryd.func113, Tryd.ntmps113
      go_wp2_with (first | (go_at_call 87; (first | refine (wletter_v _ true _ (by decide)).mono ?_ | refine (wletter_v _ false _ (by first | decide | assumption)).mono ?_); rintro e w1 ⟨rfl, hw1⟩; obtain rfl := hw1.symm; clear hw1) | (go_at_call 67; (first | refine (wmakes_v _ true _ (by decide)).mono ?_ | refine (wmakes_v _ false _ (by first | decide | (simp [wmakes, wletter, *]))).mono ?_); rintro e w1 ⟨rfl, hw1⟩; obtain rfl := hw1.symm; clear hw1))
      go_ret
      exact ⟨by rw [HV.out]; rfl, rfl⟩
    by_cases hb11 : b = 11
    · subst hb11
      clear hb10 hb9 hb16 hb17
      have HV := hid (show wtog 8 11 = false by decide)
      go_enter Tryd.func113, Tryd.ntmps113
      go_wp2_with (first | (go_at_call 87; (first | refine (wletter_v _ true _ (by decide)).mono ?_ | refine (wletter_v _ false _ (by first | decide | assumption)).mono ?_); rintro e w1 ⟨rfl, hw1⟩; obtain rfl := hw1.symm; clear hw1) | (go_at_call 67; (first | refine (wmakes_v _ true _ (by decide)).mono ?_ | refine (wmakes_v _ false _ (by first | decide | (simp [wmakes, wletter, *]))).mono ?_); rintro e w1 ⟨rfl, hw1⟩; obtain rfl := hw1.symm; clear hw1))
      go_ret
      exact ⟨by rw [HV.out]; rfl, rfl⟩
    by_cases hb8 : b = 8
    · subst hb8
      clear hb10 hb9 hb16 hb17 hb11
      have HV := hid (show wtog 8 8 = true by decide)
      go_enter Tryd.func113, Tryd.ntmps113
      go_wp2_with (first | (go_at_call 87; (first | refine (wletter_v _ true _ (by decide)).mono ?_ | refine (wletter_v _ false _ (by first | decide | assumption)).mono ?_); rintro e w1 ⟨rfl, hw1⟩; obtain rfl := hw1.symm; clear hw1) | (go_at_call 67; (first | refine (wmakes_v _ true _ (by decide)).mono ?_ | refine (wmakes_v _ false _ (by first | decide | (simp [wmakes, wletter, *]))).mono ?_); rintro e w1 ⟨rfl, hw1⟩; obtain rfl := hw1.symm; clear hw1))
      go_ret
      exact ⟨by rw [HV.out]; rfl, rfl⟩
    have bb10 : (b == 10) = false := beq_eq_false_iff_ne.2 hb10
    have nb10 : (b != 10) = true := bne_iff_ne.2 hb10
    have bb9 : (b == 9) = false := beq_eq_false_iff_ne.2 hb9
    have nb9 : (b != 9) = true := bne_iff_ne.2 hb9
    have bb16 : (b == 16) = false := beq_eq_false_iff_ne.2 hb16
    have nb16 : (b != 16) = true := bne_iff_ne.2 hb16
    have bb17 : (b == 17) = false := beq_eq_false_iff_ne.2 hb17
    have nb17 : (b != 17) = true := bne_iff_ne.2 hb17
    have bb11 : (b == 11) = false := beq_eq_false_iff_ne.2 hb11
    have nb11 : (b != 11) = true := bne_iff_ne.2 hb11
    have bb8 : (b == 8) = false := beq_eq_false_iff_ne.2 hb8
    have nb8 : (b != 8) = true := bne_iff_ne.2 hb8
    have Lb : wletter b = false := by simp [wletter, bb9, bb10]
    clear hb10 hb9 hb16 hb17 hb11 hb8
    have HV := hid (show wtog 8 b = false by ((try unfold wtog); (try unfold wletter); simp [*]))
    go_enter Tryd.func113, Tryd.ntmps113
    go_wp2_with (first | (go_at_call 87; (first | refine (wletter_v _ true _ (by decide)).mono ?_ | refine (wletter_v _ false _ (by first | decide | assumption)).mono ?_); rintro e w1 ⟨rfl, hw1⟩; obtain rfl := hw1.symm; clear hw1) | (go_at_call 67; (first | refine (wmakes_v _ true _ (by decide)).mono ?_ | refine (wmakes_v _ false _ (by first | decide | (simp [wmakes, wletter, *]))).mono ?_); rintro e w1 ⟨rfl, hw1⟩; obtain rfl := hw1.symm; clear hw1))
    go_ret
    exact ⟨by rw [HV.out]; rfl, rfl⟩
  by_cases ha17 : a = 17
  · subst ha17
    clear ha10 ha16 ha9 ha8
    by_cases hb10 : b = 10
    · subst hb10
      have HV := hid (show wtog 17 10 = true by decide)
      go_enter Tryd.func113, Tryd.ntmps113
      go_wp2_with (first | (go_at_call 87; (first | refine (wletter_v _ true _ (by decide)).mono ?_ | refine (wletter_v _ false _ (by first | decide | assumption)).mono ?_); rintro e w1 ⟨rfl, hw1⟩; obtain rfl := hw1.symm; clear hw1) | (go_at_call 67; (first | refine (wmakes_v _ true _ (by decide)).mono ?_ | refine (wmakes_v _ false _ (by first | decide | (simp [wmakes, wletter, *]))).mono ?_); rintro e w1 ⟨rfl, hw1⟩; obtain rfl := hw1.symm; clear hw1))
      go_ret
      exact ⟨by rw [HV.out]; rfl, rfl⟩
    by_cases hb9 : b = 9
    · subst hb9
      clear hb10
      have HV := hid (show wtog 17 9 = true by decide)
      go_enter Tryd.func113, Tryd.ntmps113
      go_wp2_with (first | (go_at_call 87; (first | refine (wletter_v _ true _ (by decide)).mono ?_ | refine (wletter_v _ false _ (by first | decide | assumption)).mono ?_); rintro e w1 ⟨rfl, hw1⟩; obtain rfl := hw1.symm; clear hw1) | (go_at_call 67; (first | refine (wmakes_v _ true _ (by decide)).mono ?_ | refine (wmakes_v _ false _ (by first | decide | (simp [wmakes, wletter, *]))).mono ?_); rintro e w1 ⟨rfl, hw1⟩; obtain rfl := hw1.symm; clear hw1))
      go_ret
      exact ⟨by rw [HV.out]; rfl, rfl⟩
    by_cases hb16 : b = 16
    · subst hb16
      clear hb10 hb9
      have HV := hid (show wtog 17 16 = true by decide)
      go_enter Tryd.func113, Tryd.ntmps113
      go_wp2_with (first | (go_at_call 87; (first | refine (wletter_v _ true _ (by decide)).mono ?_ | refine (wletter_v _ false _ (by first | decide | assumption)).mono ?_); rintro e w1 ⟨rfl, hw1⟩; obtain rfl := hw1.symm; clear hw1) | (go_at_call 67; (first | refine (wmakes_v _ true _ (by decide)).mono ?_ | refine (wmakes_v _ false _ (by first | decide | (simp [wmakes, wletter, *]))).mono ?_); rintro e w1 ⟨rfl, hw1⟩; obtain rfl := hw1.symm; clear hw1))
      go_ret
      exact ⟨by rw [HV.out]; rfl, rfl⟩
    by_cases hb17 : b = 17
    · subst hb17
      clear hb10 hb9 hb16
      have HV := hid (show wtog 17 17 = true by decide)
      go_enter Tryd.func113, Tryd.ntmps113
      go_wp2_with (first | (go_at_call 87; (first | refine (wletter_v _ true _ (by decide)).mono ?_ | refine (wletter_v _ false _ (by first | decide | assumption)).mono ?_); rintro e w1 ⟨rfl, hw1⟩; obtain rfl := hw1.symm; clear hw1) | (go_at_call 67; (first | refine (wmakes_v _ true _ (by decide)).mono ?_ | refine (wmakes_v _ false _ (by first | decide | (simp [wmakes, wletter, *]))).mono ?_); rintro e w1 ⟨rfl, hw1⟩; obtain rfl := hw1.symm; clear hw1))
      go_ret
      exact ⟨by rw [HV.out]; rfl, rfl⟩
    by_cases hb11 : b = 11
    · subst hb11
      clear hb10 hb9 hb16 hb17
      have HV := hid (show wtog 17 11 = false by decide)
      go_enter Tryd.func113, Tryd.ntmps113
      go_wp2_with (first | (go_at_call 87; (first | refine (wletter_v _ true _ (by decide)).mono ?_ | refine (wletter_v _ false _ (by first | decide | assumption)).mono ?_); rintro e w1 ⟨rfl, hw1⟩; obtain rfl := hw1.symm; clear hw1) | (go_at_call 67; (first | refine (wmakes_v _ true _ (by decide)).mono ?_ | refine (wmakes_v _ false _ (by first | decide | (simp [wmakes, wletter, *]))).mono ?_); rintro e w1 ⟨rfl, hw1⟩; obtain rfl := hw1.symm; clear hw1))
      go_ret
      exact ⟨by rw [HV.out]; rfl, rfl⟩
    by_cases hb8 : b = 8
    · subst hb8
      clear hb10 hb9 hb16 hb17 hb11
      have HV := hid (show wtog 17 8 = true by decide)
      go_enter Tryd.func113, Tryd.ntmps113
      go_wp2_with (first | (go_at_call 87; (first | refine (wletter_v _ true _ (by decide)).mono ?_ | refine (wletter_v _ false _ (by first | decide | assumption)).mono ?_); rintro e w1 ⟨rfl, hw1⟩; obtain rfl := hw1.symm; clear hw1) | (go_at_call 67; (first | refine (wmakes_v _ true _ (by decide)).mono ?_ | refine (wmakes_v _ false _ (by first | decide | (simp [wmakes, wletter, *]))).mono ?_); rintro e w1 ⟨rfl, hw1⟩; obtain rfl := hw1.symm; clear hw1))
      go_ret
      exact ⟨by rw [HV.out]; rfl, rfl⟩
    have bb10 : (b == 10) = false := beq_eq_false_iff_ne.2 hb10
    have nb10 : (b != 10) = true := bne_iff_ne.2 hb10
    have bb9 : (b == 9) = false := beq_eq_false_iff_ne.2 hb9
    have nb9 : (b != 9) = true := bne_iff_ne.2 hb9
    have bb16 : (b == 16) = false := beq_eq_false_iff_ne.2 hb16
    have nb16 : (b != 16) = true := bne_iff_ne.2 hb16
    have bb17 : (b == 17) = false := beq_eq_false_iff_ne.2 hb17
    have nb17 : (b != 17) = true := bne_iff_ne.2 hb17
    have bb11 : (b == 11) = false := beq_eq_false_iff_ne.2 hb11
    have nb11 : (b != 11) = true := bne_iff_ne.2 hb11
    have bb8 : (b == 8) = false := beq_eq_false_iff_ne.2 hb8
    have nb8 : (b != 8) = true := bne_iff_ne.2 hb8
    have Lb : wletter b = false := by simp [wletter, bb9, bb10]
    clear hb10 hb9 hb16 hb17 hb11 hb8
    have HV := hid (show wtog 17 b = false by ((try unfold wtog); (try unfold wletter); simp [*]))
    go_enter Tryd.func113, Tryd.ntmps113
    go_wp2_with (first | (go_at_call 87; (first | refine (wletter_v _ true _ (by decide)).mono ?_ | refine (wletter_v _ false _ (by first | decide | assumption)).mono ?_); rintro e w1 ⟨rfl, hw1⟩; obtain rfl := hw1.symm; clear hw1) | (go_at_call 67; (first | refine (wmakes_v _ true _ (by decide)).mono ?_ | refine (wmakes_v _ false _ (by first | decide | (simp [wmakes, wletter, *]))).mono ?_); rintro e w1 ⟨rfl, hw1⟩; obtain rfl := hw1.symm; clear hw1))
    go_ret
    exact ⟨by rw [HV.out]; rfl, rfl⟩
  have ba10 : (a == 10) = false := beq_eq_false_iff_ne.2 ha10
  have na10 : (a != 10) = true := bne_iff_ne.2 ha10
  have ba16 : (a == 16) = false := beq_eq_false_iff_ne.2 ha16
  have na16 : (a != 16) = true := bne_iff_ne.2 ha16
  have ba9 : (a == 9) = false := beq_eq_false_iff_ne.2 ha9
  have na9 : (a != 9) = true := bne_iff_ne.2 ha9
  have ba8 : (a == 8) = false := beq_eq_false_iff_ne.2 ha8
  have na8 : (a != 8) = true := bne_iff_ne.2 ha8
  have ba17 : (a == 17) = false := beq_eq_false_iff_ne.2 ha17
  have na17 : (a != 17) = true := bne_iff_ne.2 ha17
  have La : wletter a = false := by simp [wletter, ba9, ba10]
  clear ha10 ha16 ha9 ha8 ha17
  by_cases hb10 : b = 10
  · subst hb10
    have HV := hid (show wtog a 10 = false by ((try unfold wtog); (try unfold wletter); simp [*]))
    go_enter Tryd.func113, Tryd.ntmps113
    go_wp2_with (first | (go_at_call 87; (first | refine (wletter_v _ true _ (by decide)).mono ?_ | refine (wletter_v _ false _ (by first | decide | assumption)).mono ?_); rintro e w1 ⟨rfl, hw1⟩; obtain rfl := hw1.symm; clear hw1) | (go_at_call 67; (first | refine (wmakes_v _ true _ (by decide)).mono ?_ | refine (wmakes_v _ false _ (by first | decide | (simp [wmakes, wletter, *]))).mono ?_); rintro e w1 ⟨rfl, hw1⟩; obtain rfl := hw1.symm; clear hw1))
    go_ret
    exact ⟨by rw [HV.out]; rfl, rfl⟩
  by_cases hb9 : b = 9
  · subst hb9
    clear hb10
    have HV := hid (show wtog a 9 = false by ((try unfold wtog); (try unfold wletter); simp [*]))
    go_enter Tryd.func113, Tryd.ntmps113
    go_wp2_with (first | (go_at_call 87; (first | refine (wletter_v _ true _ (by decide)).mono ?_ | refine (wletter_v _ false _ (by first | decide | assumption)).mono ?_); rintro e w1 ⟨rfl, hw1⟩; obtain rfl := hw1.symm; clear hw1) | (go_at_call 67; (first | refine (wmakes_v _ true _ (by decide)).mono ?_ | refine (wmakes_v _ false _ (by first | decide | (simp [wmakes, wletter, *]))).mono ?_); rintro e w1 ⟨rfl, hw1⟩; obtain rfl := hw1.symm; clear hw1))
    go_ret
    exact ⟨by rw [HV.out]; rfl, rfl⟩
  by_cases hb16 : b = 16
  · subst hb16
    clear hb10 hb9
    have HV := hid (show wtog a 16 = false by ((try unfold wtog); (try unfold wletter); simp [*]))
    go_enter Tryd.func113, Tryd.ntmps113
    go_wp2_with (first | (go_at_call 87; (first | refine (wletter_v _ true _ (by decide)).mono ?_ | refine (wletter_v _ false _ (by first | decide | assumption)).mono ?_); rintro e w1 ⟨rfl, hw1⟩; obtain rfl := hw1.symm; clear hw1) | (go_at_call 67; (first | refine (wmakes_v _ true _ (by decide)).mono ?_ | refine (wmakes_v _ false _ (by first | decide | (simp [wmakes, wletter, *]))).mono ?_); rintro e w1 ⟨rfl, hw1⟩; obtain rfl := hw1.symm; clear hw1))
    go_ret
    exact ⟨by rw [HV.out]; rfl, rfl⟩
  by_cases hb17 : b = 17
  · subst hb17
    clear hb10 hb9 hb16
    have HV := hid (show wtog a 17 = false by ((try unfold wtog); (try unfold wletter); simp [*]))
    go_enter Tryd.func113, Tryd.ntmps113
    go_wp2_with (first | (go_at_call 87; (first | refine (wletter_v _ true _ (by decide)).mono ?_ | refine (wletter_v _ false _ (by first | decide | assumption)).mono ?_); rintro e w1 ⟨rfl, hw1⟩; obtain rfl := hw1.symm; clear hw1) | (go_at_call 67; (first | refine (wmakes_v _ true _ (by decide)).mono ?_ | refine (wmakes_v _ false _ (by first | decide | (simp [wmakes, wletter, *]))).mono ?_); rintro e w1 ⟨rfl, hw1⟩; obtain rfl := hw1.symm; clear hw1))
    go_ret
    exact ⟨by rw [HV.out]; rfl, rfl⟩
  by_cases hb11 : b = 11
  · subst hb11
    clear hb10 hb9 hb16 hb17
    have HV := hid (show wtog a 11 = false by ((try unfold wtog); (try unfold wletter); simp [*]))
    go_enter Tryd.func113, Tryd.ntmps113
    go_wp2_with (first | (go_at_call 87; (first | refine (wletter_v _ true _ (by decide)).mono ?_ | refine (wletter_v _ false _ (by first | decide | assumption)).mono ?_); rintro e w1 ⟨rfl, hw1⟩; obtain rfl := hw1.symm; clear hw1) | (go_at_call 67; (first | refine (wmakes_v _ true _ (by decide)).mono ?_ | refine (wmakes_v _ false _ (by first | decide | (simp [wmakes, wletter, *]))).mono ?_); rintro e w1 ⟨rfl, hw1⟩; obtain rfl := hw1.symm; clear hw1))
    go_ret
    exact ⟨by rw [HV.out]; rfl, rfl⟩
  by_cases hb8 : b = 8
  · subst hb8
    clear hb10 hb9 hb16 hb17 hb11
    have HV := hid (show wtog a 8 = false by ((try unfold wtog); (try unfold wletter); simp [*]))
    go_enter Tryd.func113, Tryd.ntmps113
    go_wp2_with (first | (go_at_call 87; (first | refine (wletter_v _ true _ (by decide)).mono ?_ | refine (wletter_v _ false _ (by first | decide | assumption)).mono ?_); rintro e w1 ⟨rfl, hw1⟩; obtain rfl := hw1.symm; clear hw1) | (go_at_call 67; (first | refine (wmakes_v _ true _ (by decide)).mono ?_ | refine (wmakes_v _ false _ (by first | decide | (simp [wmakes, wletter, *]))).mono ?_); rintro e w1 ⟨rfl, hw1⟩; obtain rfl := hw1.symm; clear hw1))
    go_ret
    exact ⟨by rw [HV.out]; rfl, rfl⟩
  have bb10 : (b == 10) = false := beq_eq_false_iff_ne.2 hb10
  have nb10 : (b != 10) = true := bne_iff_ne.2 hb10
  have bb9 : (b == 9) = false := beq_eq_false_iff_ne.2 hb9
  have nb9 : (b != 9) = true := bne_iff_ne.2 hb9
  have bb16 : (b == 16) = false := beq_eq_false_iff_ne.2 hb16
  have nb16 : (b != 16) = true := bne_iff_ne.2 hb16
  have bb17 : (b == 17) = false := beq_eq_false_iff_ne.2 hb17
  have nb17 : (b != 17) = true := bne_iff_ne.2 hb17
  have bb11 : (b == 11) = false := beq_eq_false_iff_ne.2 hb11
  have nb11 : (b != 11) = true := bne_iff_ne.2 hb11
  have bb8 : (b == 8) = false := beq_eq_false_iff_ne.2 hb8
  have nb8 : (b != 8) = true := bne_iff_ne.2 hb8
  have Lb : wletter b = false := by simp [wletter, bb9, bb10]
  clear hb10 hb9 hb16 hb17 hb11 hb8
  have HV := hid (show wtog a b = false by ((try unfold wtog); (try unfold wletter); simp [*]))
  go_enter Tryd.func113, Tryd.ntmps113
  go_wp2_with (first | (go_at_call 87; (first | refine (wletter_v _ true _ (by decide)).mono ?_ | refine (wletter_v _ false _ (by first | decide | assumption)).mono ?_); rintro e w1 ⟨rfl, hw1⟩; obtain rfl := hw1.symm; clear hw1) | (go_at_call 67; (first | refine (wmakes_v _ true _ (by decide)).mono ?_ | refine (wmakes_v _ false _ (by first | decide | (simp [wmakes, wletter, *]))).mono ?_); rintro e w1 ⟨rfl, hw1⟩; obtain rfl := hw1.symm; clear hw1))
  go_ret
  exact ⟨by rw [HV.out]; rfl, rfl⟩
end Go.Proofs.YtmhbhjlaagpohaaDoor
