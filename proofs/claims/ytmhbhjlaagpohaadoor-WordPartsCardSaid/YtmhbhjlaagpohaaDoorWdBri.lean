/- The contract of bridges (package word). -/
import Derived.Test.YtmhbhjlaagpohaaDoorWdBool
namespace Go.Proofs.YtmhbhjlaagpohaaDoor
open Go.RowKit

set_option maxHeartbeats 4000000 in
theorem wbri_any (a m b : Int) (w : World) : Calls Tryd.prog 116 #[.int .i64 a, .int .i64 m, .int .i64 b] w fun e w' => e = .returned (.bool (wbri a m b)) ∧ w' = w := by
  by_cases ha9 : a = 9
  · subst ha9
    by_cases hm14 : m = 14
    · subst hm14
      by_cases hb9 : b = 9
      · subst hb9
        have HV := hid (show wbri 9 14 9 = true by decide)
        go_enter Tryd.func116, Tryd.ntmps116
        go_wp2_with (go_at_call 87; (first | refine (wletter_v _ true _ (by decide)).mono ?_ | refine (wletter_v _ false _ (by first | decide | assumption)).mono ?_); rintro e w1 ⟨rfl, hw1⟩; obtain rfl := hw1.symm; clear hw1)
        go_ret
        exact ⟨by rw [HV.out]; rfl, rfl⟩
      by_cases hb10 : b = 10
      · subst hb10
        clear hb9
        have HV := hid (show wbri 9 14 10 = true by decide)
        go_enter Tryd.func116, Tryd.ntmps116
        go_wp2_with (go_at_call 87; (first | refine (wletter_v _ true _ (by decide)).mono ?_ | refine (wletter_v _ false _ (by first | decide | assumption)).mono ?_); rintro e w1 ⟨rfl, hw1⟩; obtain rfl := hw1.symm; clear hw1)
        go_ret
        exact ⟨by rw [HV.out]; rfl, rfl⟩
      by_cases hb16 : b = 16
      · subst hb16
        clear hb9 hb10
        have HV := hid (show wbri 9 14 16 = false by decide)
        go_enter Tryd.func116, Tryd.ntmps116
        go_wp2_with (go_at_call 87; (first | refine (wletter_v _ true _ (by decide)).mono ?_ | refine (wletter_v _ false _ (by first | decide | assumption)).mono ?_); rintro e w1 ⟨rfl, hw1⟩; obtain rfl := hw1.symm; clear hw1)
        go_ret
        exact ⟨by rw [HV.out]; rfl, rfl⟩
      have bb9 : (b == 9) = false := beq_eq_false_iff_ne.2 hb9
      have nb9 : (b != 9) = true := bne_iff_ne.2 hb9
      have bb10 : (b == 10) = false := beq_eq_false_iff_ne.2 hb10
      have nb10 : (b != 10) = true := bne_iff_ne.2 hb10
      have bb16 : (b == 16) = false := beq_eq_false_iff_ne.2 hb16
      have nb16 : (b != 16) = true := bne_iff_ne.2 hb16
      have Lb : wletter b = false := by simp [wletter, bb9, bb10]
      clear hb9 hb10 hb16
      have HV := hid (show wbri 9 14 b = false by ((try unfold wbri); (try unfold wletter); simp [*]))
      go_enter Tryd.func116, Tryd.ntmps116
      go_wp2_with (go_at_call 87; (first | refine (wletter_v _ true _ (by decide)).mono ?_ | refine (wletter_v _ false _ (by first | decide | assumption)).mono ?_); rintro e w1 ⟨rfl, hw1⟩; obtain rfl := hw1.symm; clear hw1)
      go_ret
      exact ⟨by rw [HV.out]; rfl, rfl⟩
    by_cases hm15 : m = 15
    · subst hm15
      clear hm14
      by_cases hb9 : b = 9
      · subst hb9
        have HV := hid (show wbri 9 15 9 = false by decide)
        go_enter Tryd.func116, Tryd.ntmps116
        go_wp2_with (go_at_call 87; (first | refine (wletter_v _ true _ (by decide)).mono ?_ | refine (wletter_v _ false _ (by first | decide | assumption)).mono ?_); rintro e w1 ⟨rfl, hw1⟩; obtain rfl := hw1.symm; clear hw1)
        go_ret
        exact ⟨by rw [HV.out]; rfl, rfl⟩
      by_cases hb10 : b = 10
      · subst hb10
        clear hb9
        have HV := hid (show wbri 9 15 10 = false by decide)
        go_enter Tryd.func116, Tryd.ntmps116
        go_wp2_with (go_at_call 87; (first | refine (wletter_v _ true _ (by decide)).mono ?_ | refine (wletter_v _ false _ (by first | decide | assumption)).mono ?_); rintro e w1 ⟨rfl, hw1⟩; obtain rfl := hw1.symm; clear hw1)
        go_ret
        exact ⟨by rw [HV.out]; rfl, rfl⟩
      by_cases hb16 : b = 16
      · subst hb16
        clear hb9 hb10
        have HV := hid (show wbri 9 15 16 = false by decide)
        go_enter Tryd.func116, Tryd.ntmps116
        go_wp2_with (go_at_call 87; (first | refine (wletter_v _ true _ (by decide)).mono ?_ | refine (wletter_v _ false _ (by first | decide | assumption)).mono ?_); rintro e w1 ⟨rfl, hw1⟩; obtain rfl := hw1.symm; clear hw1)
        go_ret
        exact ⟨by rw [HV.out]; rfl, rfl⟩
      have bb9 : (b == 9) = false := beq_eq_false_iff_ne.2 hb9
      have nb9 : (b != 9) = true := bne_iff_ne.2 hb9
      have bb10 : (b == 10) = false := beq_eq_false_iff_ne.2 hb10
      have nb10 : (b != 10) = true := bne_iff_ne.2 hb10
      have bb16 : (b == 16) = false := beq_eq_false_iff_ne.2 hb16
      have nb16 : (b != 16) = true := bne_iff_ne.2 hb16
      have Lb : wletter b = false := by simp [wletter, bb9, bb10]
      clear hb9 hb10 hb16
      have HV := hid (show wbri 9 15 b = false by ((try unfold wbri); (try unfold wletter); simp [*]))
      go_enter Tryd.func116, Tryd.ntmps116
      go_wp2_with (go_at_call 87; (first | refine (wletter_v _ true _ (by decide)).mono ?_ | refine (wletter_v _ false _ (by first | decide | assumption)).mono ?_); rintro e w1 ⟨rfl, hw1⟩; obtain rfl := hw1.symm; clear hw1)
      go_ret
      exact ⟨by rw [HV.out]; rfl, rfl⟩
    by_cases hm13 : m = 13
    · subst hm13
      clear hm14 hm15
      by_cases hb9 : b = 9
      · subst hb9
        have HV := hid (show wbri 9 13 9 = true by decide)
        go_enter Tryd.func116, Tryd.ntmps116
        go_wp2_with (go_at_call 87; (first | refine (wletter_v _ true _ (by decide)).mono ?_ | refine (wletter_v _ false _ (by first | decide | assumption)).mono ?_); rintro e w1 ⟨rfl, hw1⟩; obtain rfl := hw1.symm; clear hw1)
        go_ret
        exact ⟨by rw [HV.out]; rfl, rfl⟩
      by_cases hb10 : b = 10
      · subst hb10
        clear hb9
        have HV := hid (show wbri 9 13 10 = true by decide)
        go_enter Tryd.func116, Tryd.ntmps116
        go_wp2_with (go_at_call 87; (first | refine (wletter_v _ true _ (by decide)).mono ?_ | refine (wletter_v _ false _ (by first | decide | assumption)).mono ?_); rintro e w1 ⟨rfl, hw1⟩; obtain rfl := hw1.symm; clear hw1)
        go_ret
        exact ⟨by rw [HV.out]; rfl, rfl⟩
      by_cases hb16 : b = 16
      · subst hb16
        clear hb9 hb10
        have HV := hid (show wbri 9 13 16 = false by decide)
        go_enter Tryd.func116, Tryd.ntmps116
        go_wp2_with (go_at_call 87; (first | refine (wletter_v _ true _ (by decide)).mono ?_ | refine (wletter_v _ false _ (by first | decide | assumption)).mono ?_); rintro e w1 ⟨rfl, hw1⟩; obtain rfl := hw1.symm; clear hw1)
        go_ret
        exact ⟨by rw [HV.out]; rfl, rfl⟩
      have bb9 : (b == 9) = false := beq_eq_false_iff_ne.2 hb9
      have nb9 : (b != 9) = true := bne_iff_ne.2 hb9
      have bb10 : (b == 10) = false := beq_eq_false_iff_ne.2 hb10
      have nb10 : (b != 10) = true := bne_iff_ne.2 hb10
      have bb16 : (b == 16) = false := beq_eq_false_iff_ne.2 hb16
      have nb16 : (b != 16) = true := bne_iff_ne.2 hb16
      have Lb : wletter b = false := by simp [wletter, bb9, bb10]
      clear hb9 hb10 hb16
      have HV := hid (show wbri 9 13 b = false by ((try unfold wbri); (try unfold wletter); simp [*]))
      go_enter Tryd.func116, Tryd.ntmps116
      go_wp2_with (go_at_call 87; (first | refine (wletter_v _ true _ (by decide)).mono ?_ | refine (wletter_v _ false _ (by first | decide | assumption)).mono ?_); rintro e w1 ⟨rfl, hw1⟩; obtain rfl := hw1.symm; clear hw1)
      go_ret
      exact ⟨by rw [HV.out]; rfl, rfl⟩
    by_cases hm11 : m = 11
    · subst hm11
      clear hm14 hm15 hm13
      by_cases hb9 : b = 9
      · subst hb9
        have HV := hid (show wbri 9 11 9 = true by decide)
        go_enter Tryd.func116, Tryd.ntmps116
        go_wp2_with (go_at_call 87; (first | refine (wletter_v _ true _ (by decide)).mono ?_ | refine (wletter_v _ false _ (by first | decide | assumption)).mono ?_); rintro e w1 ⟨rfl, hw1⟩; obtain rfl := hw1.symm; clear hw1)
        go_ret
        exact ⟨by rw [HV.out]; rfl, rfl⟩
      by_cases hb10 : b = 10
      · subst hb10
        clear hb9
        have HV := hid (show wbri 9 11 10 = true by decide)
        go_enter Tryd.func116, Tryd.ntmps116
        go_wp2_with (go_at_call 87; (first | refine (wletter_v _ true _ (by decide)).mono ?_ | refine (wletter_v _ false _ (by first | decide | assumption)).mono ?_); rintro e w1 ⟨rfl, hw1⟩; obtain rfl := hw1.symm; clear hw1)
        go_ret
        exact ⟨by rw [HV.out]; rfl, rfl⟩
      by_cases hb16 : b = 16
      · subst hb16
        clear hb9 hb10
        have HV := hid (show wbri 9 11 16 = false by decide)
        go_enter Tryd.func116, Tryd.ntmps116
        go_wp2_with (go_at_call 87; (first | refine (wletter_v _ true _ (by decide)).mono ?_ | refine (wletter_v _ false _ (by first | decide | assumption)).mono ?_); rintro e w1 ⟨rfl, hw1⟩; obtain rfl := hw1.symm; clear hw1)
        go_ret
        exact ⟨by rw [HV.out]; rfl, rfl⟩
      have bb9 : (b == 9) = false := beq_eq_false_iff_ne.2 hb9
      have nb9 : (b != 9) = true := bne_iff_ne.2 hb9
      have bb10 : (b == 10) = false := beq_eq_false_iff_ne.2 hb10
      have nb10 : (b != 10) = true := bne_iff_ne.2 hb10
      have bb16 : (b == 16) = false := beq_eq_false_iff_ne.2 hb16
      have nb16 : (b != 16) = true := bne_iff_ne.2 hb16
      have Lb : wletter b = false := by simp [wletter, bb9, bb10]
      clear hb9 hb10 hb16
      have HV := hid (show wbri 9 11 b = false by ((try unfold wbri); (try unfold wletter); simp [*]))
      go_enter Tryd.func116, Tryd.ntmps116
      go_wp2_with (go_at_call 87; (first | refine (wletter_v _ true _ (by decide)).mono ?_ | refine (wletter_v _ false _ (by first | decide | assumption)).mono ?_); rintro e w1 ⟨rfl, hw1⟩; obtain rfl := hw1.symm; clear hw1)
      go_ret
      exact ⟨by rw [HV.out]; rfl, rfl⟩
    by_cases hm12 : m = 12
    · subst hm12
      clear hm14 hm15 hm13 hm11
      by_cases hb9 : b = 9
      · subst hb9
        have HV := hid (show wbri 9 12 9 = true by decide)
        go_enter Tryd.func116, Tryd.ntmps116
        go_wp2_with (go_at_call 87; (first | refine (wletter_v _ true _ (by decide)).mono ?_ | refine (wletter_v _ false _ (by first | decide | assumption)).mono ?_); rintro e w1 ⟨rfl, hw1⟩; obtain rfl := hw1.symm; clear hw1)
        go_ret
        exact ⟨by rw [HV.out]; rfl, rfl⟩
      by_cases hb10 : b = 10
      · subst hb10
        clear hb9
        have HV := hid (show wbri 9 12 10 = false by decide)
        go_enter Tryd.func116, Tryd.ntmps116
        go_wp2_with (go_at_call 87; (first | refine (wletter_v _ true _ (by decide)).mono ?_ | refine (wletter_v _ false _ (by first | decide | assumption)).mono ?_); rintro e w1 ⟨rfl, hw1⟩; obtain rfl := hw1.symm; clear hw1)
        go_ret
        exact ⟨by rw [HV.out]; rfl, rfl⟩
      by_cases hb16 : b = 16
      · subst hb16
        clear hb9 hb10
        have HV := hid (show wbri 9 12 16 = false by decide)
        go_enter Tryd.func116, Tryd.ntmps116
        go_wp2_with (go_at_call 87; (first | refine (wletter_v _ true _ (by decide)).mono ?_ | refine (wletter_v _ false _ (by first | decide | assumption)).mono ?_); rintro e w1 ⟨rfl, hw1⟩; obtain rfl := hw1.symm; clear hw1)
        go_ret
        exact ⟨by rw [HV.out]; rfl, rfl⟩
      have bb9 : (b == 9) = false := beq_eq_false_iff_ne.2 hb9
      have nb9 : (b != 9) = true := bne_iff_ne.2 hb9
      have bb10 : (b == 10) = false := beq_eq_false_iff_ne.2 hb10
      have nb10 : (b != 10) = true := bne_iff_ne.2 hb10
      have bb16 : (b == 16) = false := beq_eq_false_iff_ne.2 hb16
      have nb16 : (b != 16) = true := bne_iff_ne.2 hb16
      have Lb : wletter b = false := by simp [wletter, bb9, bb10]
      clear hb9 hb10 hb16
      have HV := hid (show wbri 9 12 b = false by ((try unfold wbri); (try unfold wletter); simp [*]))
      go_enter Tryd.func116, Tryd.ntmps116
      go_wp2_with (go_at_call 87; (first | refine (wletter_v _ true _ (by decide)).mono ?_ | refine (wletter_v _ false _ (by first | decide | assumption)).mono ?_); rintro e w1 ⟨rfl, hw1⟩; obtain rfl := hw1.symm; clear hw1)
      go_ret
      exact ⟨by rw [HV.out]; rfl, rfl⟩
    have bm14 : (m == 14) = false := beq_eq_false_iff_ne.2 hm14
    have nm14 : (m != 14) = true := bne_iff_ne.2 hm14
    have bm15 : (m == 15) = false := beq_eq_false_iff_ne.2 hm15
    have nm15 : (m != 15) = true := bne_iff_ne.2 hm15
    have bm13 : (m == 13) = false := beq_eq_false_iff_ne.2 hm13
    have nm13 : (m != 13) = true := bne_iff_ne.2 hm13
    have bm11 : (m == 11) = false := beq_eq_false_iff_ne.2 hm11
    have nm11 : (m != 11) = true := bne_iff_ne.2 hm11
    have bm12 : (m == 12) = false := beq_eq_false_iff_ne.2 hm12
    have nm12 : (m != 12) = true := bne_iff_ne.2 hm12
    clear hm14 hm15 hm13 hm11 hm12
    by_cases hb9 : b = 9
    · subst hb9
      have HV := hid (show wbri 9 m 9 = false by ((try unfold wbri); (try unfold wletter); simp [*]))
      go_enter Tryd.func116, Tryd.ntmps116
      go_wp2_with (go_at_call 87; (first | refine (wletter_v _ true _ (by decide)).mono ?_ | refine (wletter_v _ false _ (by first | decide | assumption)).mono ?_); rintro e w1 ⟨rfl, hw1⟩; obtain rfl := hw1.symm; clear hw1)
      go_ret
      exact ⟨by rw [HV.out]; rfl, rfl⟩
    by_cases hb10 : b = 10
    · subst hb10
      clear hb9
      have HV := hid (show wbri 9 m 10 = false by ((try unfold wbri); (try unfold wletter); simp [*]))
      go_enter Tryd.func116, Tryd.ntmps116
      go_wp2_with (go_at_call 87; (first | refine (wletter_v _ true _ (by decide)).mono ?_ | refine (wletter_v _ false _ (by first | decide | assumption)).mono ?_); rintro e w1 ⟨rfl, hw1⟩; obtain rfl := hw1.symm; clear hw1)
      go_ret
      exact ⟨by rw [HV.out]; rfl, rfl⟩
    by_cases hb16 : b = 16
    · subst hb16
      clear hb9 hb10
      have HV := hid (show wbri 9 m 16 = false by ((try unfold wbri); (try unfold wletter); simp [*]))
      go_enter Tryd.func116, Tryd.ntmps116
      go_wp2_with (go_at_call 87; (first | refine (wletter_v _ true _ (by decide)).mono ?_ | refine (wletter_v _ false _ (by first | decide | assumption)).mono ?_); rintro e w1 ⟨rfl, hw1⟩; obtain rfl := hw1.symm; clear hw1)
      go_ret
      exact ⟨by rw [HV.out]; rfl, rfl⟩
    have bb9 : (b == 9) = false := beq_eq_false_iff_ne.2 hb9
    have nb9 : (b != 9) = true := bne_iff_ne.2 hb9
    have bb10 : (b == 10) = false := beq_eq_false_iff_ne.2 hb10
    have nb10 : (b != 10) = true := bne_iff_ne.2 hb10
    have bb16 : (b == 16) = false := beq_eq_false_iff_ne.2 hb16
    have nb16 : (b != 16) = true := bne_iff_ne.2 hb16
    have Lb : wletter b = false := by simp [wletter, bb9, bb10]
    clear hb9 hb10 hb16
    have HV := hid (show wbri 9 m b = false by ((try unfold wbri); (try unfold wletter); simp [*]))
    go_enter Tryd.func116, Tryd.ntmps116
    go_wp2_with (go_at_call 87; (first | refine (wletter_v _ true _ (by decide)).mono ?_ | refine (wletter_v _ false _ (by first | decide | assumption)).mono ?_); rintro e w1 ⟨rfl, hw1⟩; obtain rfl := hw1.symm; clear hw1)
    go_ret
    exact ⟨by rw [HV.out]; rfl, rfl⟩
  by_cases ha10 : a = 10
  · subst ha10
    clear ha9
    by_cases hm14 : m = 14
    · subst hm14
      by_cases hb9 : b = 9
      · subst hb9
        have HV := hid (show wbri 10 14 9 = true by decide)
        go_enter Tryd.func116, Tryd.ntmps116
        go_wp2_with (go_at_call 87; (first | refine (wletter_v _ true _ (by decide)).mono ?_ | refine (wletter_v _ false _ (by first | decide | assumption)).mono ?_); rintro e w1 ⟨rfl, hw1⟩; obtain rfl := hw1.symm; clear hw1)
        go_ret
        exact ⟨by rw [HV.out]; rfl, rfl⟩
      by_cases hb10 : b = 10
      · subst hb10
        clear hb9
        have HV := hid (show wbri 10 14 10 = true by decide)
        go_enter Tryd.func116, Tryd.ntmps116
        go_wp2_with (go_at_call 87; (first | refine (wletter_v _ true _ (by decide)).mono ?_ | refine (wletter_v _ false _ (by first | decide | assumption)).mono ?_); rintro e w1 ⟨rfl, hw1⟩; obtain rfl := hw1.symm; clear hw1)
        go_ret
        exact ⟨by rw [HV.out]; rfl, rfl⟩
      by_cases hb16 : b = 16
      · subst hb16
        clear hb9 hb10
        have HV := hid (show wbri 10 14 16 = false by decide)
        go_enter Tryd.func116, Tryd.ntmps116
        go_wp2_with (go_at_call 87; (first | refine (wletter_v _ true _ (by decide)).mono ?_ | refine (wletter_v _ false _ (by first | decide | assumption)).mono ?_); rintro e w1 ⟨rfl, hw1⟩; obtain rfl := hw1.symm; clear hw1)
        go_ret
        exact ⟨by rw [HV.out]; rfl, rfl⟩
      have bb9 : (b == 9) = false := beq_eq_false_iff_ne.2 hb9
      have nb9 : (b != 9) = true := bne_iff_ne.2 hb9
      have bb10 : (b == 10) = false := beq_eq_false_iff_ne.2 hb10
      have nb10 : (b != 10) = true := bne_iff_ne.2 hb10
      have bb16 : (b == 16) = false := beq_eq_false_iff_ne.2 hb16
      have nb16 : (b != 16) = true := bne_iff_ne.2 hb16
      have Lb : wletter b = false := by simp [wletter, bb9, bb10]
      clear hb9 hb10 hb16
      have HV := hid (show wbri 10 14 b = false by ((try unfold wbri); (try unfold wletter); simp [*]))
      go_enter Tryd.func116, Tryd.ntmps116
      go_wp2_with (go_at_call 87; (first | refine (wletter_v _ true _ (by decide)).mono ?_ | refine (wletter_v _ false _ (by first | decide | assumption)).mono ?_); rintro e w1 ⟨rfl, hw1⟩; obtain rfl := hw1.symm; clear hw1)
      go_ret
      exact ⟨by rw [HV.out]; rfl, rfl⟩
    by_cases hm15 : m = 15
    · subst hm15
      clear hm14
      by_cases hb9 : b = 9
      · subst hb9
        have HV := hid (show wbri 10 15 9 = false by decide)
        go_enter Tryd.func116, Tryd.ntmps116
        go_wp2_with (go_at_call 87; (first | refine (wletter_v _ true _ (by decide)).mono ?_ | refine (wletter_v _ false _ (by first | decide | assumption)).mono ?_); rintro e w1 ⟨rfl, hw1⟩; obtain rfl := hw1.symm; clear hw1)
        go_ret
        exact ⟨by rw [HV.out]; rfl, rfl⟩
      by_cases hb10 : b = 10
      · subst hb10
        clear hb9
        have HV := hid (show wbri 10 15 10 = false by decide)
        go_enter Tryd.func116, Tryd.ntmps116
        go_wp2_with (go_at_call 87; (first | refine (wletter_v _ true _ (by decide)).mono ?_ | refine (wletter_v _ false _ (by first | decide | assumption)).mono ?_); rintro e w1 ⟨rfl, hw1⟩; obtain rfl := hw1.symm; clear hw1)
        go_ret
        exact ⟨by rw [HV.out]; rfl, rfl⟩
      by_cases hb16 : b = 16
      · subst hb16
        clear hb9 hb10
        have HV := hid (show wbri 10 15 16 = false by decide)
        go_enter Tryd.func116, Tryd.ntmps116
        go_wp2_with (go_at_call 87; (first | refine (wletter_v _ true _ (by decide)).mono ?_ | refine (wletter_v _ false _ (by first | decide | assumption)).mono ?_); rintro e w1 ⟨rfl, hw1⟩; obtain rfl := hw1.symm; clear hw1)
        go_ret
        exact ⟨by rw [HV.out]; rfl, rfl⟩
      have bb9 : (b == 9) = false := beq_eq_false_iff_ne.2 hb9
      have nb9 : (b != 9) = true := bne_iff_ne.2 hb9
      have bb10 : (b == 10) = false := beq_eq_false_iff_ne.2 hb10
      have nb10 : (b != 10) = true := bne_iff_ne.2 hb10
      have bb16 : (b == 16) = false := beq_eq_false_iff_ne.2 hb16
      have nb16 : (b != 16) = true := bne_iff_ne.2 hb16
      have Lb : wletter b = false := by simp [wletter, bb9, bb10]
      clear hb9 hb10 hb16
      have HV := hid (show wbri 10 15 b = false by ((try unfold wbri); (try unfold wletter); simp [*]))
      go_enter Tryd.func116, Tryd.ntmps116
      go_wp2_with (go_at_call 87; (first | refine (wletter_v _ true _ (by decide)).mono ?_ | refine (wletter_v _ false _ (by first | decide | assumption)).mono ?_); rintro e w1 ⟨rfl, hw1⟩; obtain rfl := hw1.symm; clear hw1)
      go_ret
      exact ⟨by rw [HV.out]; rfl, rfl⟩
    by_cases hm13 : m = 13
    · subst hm13
      clear hm14 hm15
      by_cases hb9 : b = 9
      · subst hb9
        have HV := hid (show wbri 10 13 9 = true by decide)
        go_enter Tryd.func116, Tryd.ntmps116
        go_wp2_with (go_at_call 87; (first | refine (wletter_v _ true _ (by decide)).mono ?_ | refine (wletter_v _ false _ (by first | decide | assumption)).mono ?_); rintro e w1 ⟨rfl, hw1⟩; obtain rfl := hw1.symm; clear hw1)
        go_ret
        exact ⟨by rw [HV.out]; rfl, rfl⟩
      by_cases hb10 : b = 10
      · subst hb10
        clear hb9
        have HV := hid (show wbri 10 13 10 = true by decide)
        go_enter Tryd.func116, Tryd.ntmps116
        go_wp2_with (go_at_call 87; (first | refine (wletter_v _ true _ (by decide)).mono ?_ | refine (wletter_v _ false _ (by first | decide | assumption)).mono ?_); rintro e w1 ⟨rfl, hw1⟩; obtain rfl := hw1.symm; clear hw1)
        go_ret
        exact ⟨by rw [HV.out]; rfl, rfl⟩
      by_cases hb16 : b = 16
      · subst hb16
        clear hb9 hb10
        have HV := hid (show wbri 10 13 16 = false by decide)
        go_enter Tryd.func116, Tryd.ntmps116
        go_wp2_with (go_at_call 87; (first | refine (wletter_v _ true _ (by decide)).mono ?_ | refine (wletter_v _ false _ (by first | decide | assumption)).mono ?_); rintro e w1 ⟨rfl, hw1⟩; obtain rfl := hw1.symm; clear hw1)
        go_ret
        exact ⟨by rw [HV.out]; rfl, rfl⟩
      have bb9 : (b == 9) = false := beq_eq_false_iff_ne.2 hb9
      have nb9 : (b != 9) = true := bne_iff_ne.2 hb9
      have bb10 : (b == 10) = false := beq_eq_false_iff_ne.2 hb10
      have nb10 : (b != 10) = true := bne_iff_ne.2 hb10
      have bb16 : (b == 16) = false := beq_eq_false_iff_ne.2 hb16
      have nb16 : (b != 16) = true := bne_iff_ne.2 hb16
      have Lb : wletter b = false := by simp [wletter, bb9, bb10]
      clear hb9 hb10 hb16
      have HV := hid (show wbri 10 13 b = false by ((try unfold wbri); (try unfold wletter); simp [*]))
      go_enter Tryd.func116, Tryd.ntmps116
      go_wp2_with (go_at_call 87; (first | refine (wletter_v _ true _ (by decide)).mono ?_ | refine (wletter_v _ false _ (by first | decide | assumption)).mono ?_); rintro e w1 ⟨rfl, hw1⟩; obtain rfl := hw1.symm; clear hw1)
      go_ret
      exact ⟨by rw [HV.out]; rfl, rfl⟩
    by_cases hm11 : m = 11
    · subst hm11
      clear hm14 hm15 hm13
      by_cases hb9 : b = 9
      · subst hb9
        have HV := hid (show wbri 10 11 9 = true by decide)
        go_enter Tryd.func116, Tryd.ntmps116
        go_wp2_with (go_at_call 87; (first | refine (wletter_v _ true _ (by decide)).mono ?_ | refine (wletter_v _ false _ (by first | decide | assumption)).mono ?_); rintro e w1 ⟨rfl, hw1⟩; obtain rfl := hw1.symm; clear hw1)
        go_ret
        exact ⟨by rw [HV.out]; rfl, rfl⟩
      by_cases hb10 : b = 10
      · subst hb10
        clear hb9
        have HV := hid (show wbri 10 11 10 = true by decide)
        go_enter Tryd.func116, Tryd.ntmps116
        go_wp2_with (go_at_call 87; (first | refine (wletter_v _ true _ (by decide)).mono ?_ | refine (wletter_v _ false _ (by first | decide | assumption)).mono ?_); rintro e w1 ⟨rfl, hw1⟩; obtain rfl := hw1.symm; clear hw1)
        go_ret
        exact ⟨by rw [HV.out]; rfl, rfl⟩
      by_cases hb16 : b = 16
      · subst hb16
        clear hb9 hb10
        have HV := hid (show wbri 10 11 16 = false by decide)
        go_enter Tryd.func116, Tryd.ntmps116
        go_wp2_with (go_at_call 87; (first | refine (wletter_v _ true _ (by decide)).mono ?_ | refine (wletter_v _ false _ (by first | decide | assumption)).mono ?_); rintro e w1 ⟨rfl, hw1⟩; obtain rfl := hw1.symm; clear hw1)
        go_ret
        exact ⟨by rw [HV.out]; rfl, rfl⟩
      have bb9 : (b == 9) = false := beq_eq_false_iff_ne.2 hb9
      have nb9 : (b != 9) = true := bne_iff_ne.2 hb9
      have bb10 : (b == 10) = false := beq_eq_false_iff_ne.2 hb10
      have nb10 : (b != 10) = true := bne_iff_ne.2 hb10
      have bb16 : (b == 16) = false := beq_eq_false_iff_ne.2 hb16
      have nb16 : (b != 16) = true := bne_iff_ne.2 hb16
      have Lb : wletter b = false := by simp [wletter, bb9, bb10]
      clear hb9 hb10 hb16
      have HV := hid (show wbri 10 11 b = false by ((try unfold wbri); (try unfold wletter); simp [*]))
      go_enter Tryd.func116, Tryd.ntmps116
      go_wp2_with (go_at_call 87; (first | refine (wletter_v _ true _ (by decide)).mono ?_ | refine (wletter_v _ false _ (by first | decide | assumption)).mono ?_); rintro e w1 ⟨rfl, hw1⟩; obtain rfl := hw1.symm; clear hw1)
      go_ret
      exact ⟨by rw [HV.out]; rfl, rfl⟩
    by_cases hm12 : m = 12
    · subst hm12
      clear hm14 hm15 hm13 hm11
      by_cases hb9 : b = 9
      · subst hb9
        have HV := hid (show wbri 10 12 9 = false by decide)
        go_enter Tryd.func116, Tryd.ntmps116
        go_wp2_with (go_at_call 87; (first | refine (wletter_v _ true _ (by decide)).mono ?_ | refine (wletter_v _ false _ (by first | decide | assumption)).mono ?_); rintro e w1 ⟨rfl, hw1⟩; obtain rfl := hw1.symm; clear hw1)
        go_ret
        exact ⟨by rw [HV.out]; rfl, rfl⟩
      by_cases hb10 : b = 10
      · subst hb10
        clear hb9
        have HV := hid (show wbri 10 12 10 = false by decide)
        go_enter Tryd.func116, Tryd.ntmps116
        go_wp2_with (go_at_call 87; (first | refine (wletter_v _ true _ (by decide)).mono ?_ | refine (wletter_v _ false _ (by first | decide | assumption)).mono ?_); rintro e w1 ⟨rfl, hw1⟩; obtain rfl := hw1.symm; clear hw1)
        go_ret
        exact ⟨by rw [HV.out]; rfl, rfl⟩
      by_cases hb16 : b = 16
      · subst hb16
        clear hb9 hb10
        have HV := hid (show wbri 10 12 16 = false by decide)
        go_enter Tryd.func116, Tryd.ntmps116
        go_wp2_with (go_at_call 87; (first | refine (wletter_v _ true _ (by decide)).mono ?_ | refine (wletter_v _ false _ (by first | decide | assumption)).mono ?_); rintro e w1 ⟨rfl, hw1⟩; obtain rfl := hw1.symm; clear hw1)
        go_ret
        exact ⟨by rw [HV.out]; rfl, rfl⟩
      have bb9 : (b == 9) = false := beq_eq_false_iff_ne.2 hb9
      have nb9 : (b != 9) = true := bne_iff_ne.2 hb9
      have bb10 : (b == 10) = false := beq_eq_false_iff_ne.2 hb10
      have nb10 : (b != 10) = true := bne_iff_ne.2 hb10
      have bb16 : (b == 16) = false := beq_eq_false_iff_ne.2 hb16
      have nb16 : (b != 16) = true := bne_iff_ne.2 hb16
      have Lb : wletter b = false := by simp [wletter, bb9, bb10]
      clear hb9 hb10 hb16
      have HV := hid (show wbri 10 12 b = false by ((try unfold wbri); (try unfold wletter); simp [*]))
      go_enter Tryd.func116, Tryd.ntmps116
      go_wp2_with (go_at_call 87; (first | refine (wletter_v _ true _ (by decide)).mono ?_ | refine (wletter_v _ false _ (by first | decide | assumption)).mono ?_); rintro e w1 ⟨rfl, hw1⟩; obtain rfl := hw1.symm; clear hw1)
      go_ret
      exact ⟨by rw [HV.out]; rfl, rfl⟩
    have bm14 : (m == 14) = false := beq_eq_false_iff_ne.2 hm14
    have nm14 : (m != 14) = true := bne_iff_ne.2 hm14
    have bm15 : (m == 15) = false := beq_eq_false_iff_ne.2 hm15
    have nm15 : (m != 15) = true := bne_iff_ne.2 hm15
    have bm13 : (m == 13) = false := beq_eq_false_iff_ne.2 hm13
    have nm13 : (m != 13) = true := bne_iff_ne.2 hm13
    have bm11 : (m == 11) = false := beq_eq_false_iff_ne.2 hm11
    have nm11 : (m != 11) = true := bne_iff_ne.2 hm11
    have bm12 : (m == 12) = false := beq_eq_false_iff_ne.2 hm12
    have nm12 : (m != 12) = true := bne_iff_ne.2 hm12
    clear hm14 hm15 hm13 hm11 hm12
    by_cases hb9 : b = 9
    · subst hb9
      have HV := hid (show wbri 10 m 9 = false by ((try unfold wbri); (try unfold wletter); simp [*]))
      go_enter Tryd.func116, Tryd.ntmps116
      go_wp2_with (go_at_call 87; (first | refine (wletter_v _ true _ (by decide)).mono ?_ | refine (wletter_v _ false _ (by first | decide | assumption)).mono ?_); rintro e w1 ⟨rfl, hw1⟩; obtain rfl := hw1.symm; clear hw1)
      go_ret
      exact ⟨by rw [HV.out]; rfl, rfl⟩
    by_cases hb10 : b = 10
    · subst hb10
      clear hb9
      have HV := hid (show wbri 10 m 10 = false by ((try unfold wbri); (try unfold wletter); simp [*]))
      go_enter Tryd.func116, Tryd.ntmps116
      go_wp2_with (go_at_call 87; (first | refine (wletter_v _ true _ (by decide)).mono ?_ | refine (wletter_v _ false _ (by first | decide | assumption)).mono ?_); rintro e w1 ⟨rfl, hw1⟩; obtain rfl := hw1.symm; clear hw1)
      go_ret
      exact ⟨by rw [HV.out]; rfl, rfl⟩
    by_cases hb16 : b = 16
    · subst hb16
      clear hb9 hb10
      have HV := hid (show wbri 10 m 16 = false by ((try unfold wbri); (try unfold wletter); simp [*]))
      go_enter Tryd.func116, Tryd.ntmps116
      go_wp2_with (go_at_call 87; (first | refine (wletter_v _ true _ (by decide)).mono ?_ | refine (wletter_v _ false _ (by first | decide | assumption)).mono ?_); rintro e w1 ⟨rfl, hw1⟩; obtain rfl := hw1.symm; clear hw1)
      go_ret
      exact ⟨by rw [HV.out]; rfl, rfl⟩
    have bb9 : (b == 9) = false := beq_eq_false_iff_ne.2 hb9
    have nb9 : (b != 9) = true := bne_iff_ne.2 hb9
    have bb10 : (b == 10) = false := beq_eq_false_iff_ne.2 hb10
    have nb10 : (b != 10) = true := bne_iff_ne.2 hb10
    have bb16 : (b == 16) = false := beq_eq_false_iff_ne.2 hb16
    have nb16 : (b != 16) = true := bne_iff_ne.2 hb16
    have Lb : wletter b = false := by simp [wletter, bb9, bb10]
    clear hb9 hb10 hb16
    have HV := hid (show wbri 10 m b = false by ((try unfold wbri); (try unfold wletter); simp [*]))
    go_enter Tryd.func116, Tryd.ntmps116
    go_wp2_with (go_at_call 87; (first | refine (wletter_v _ true _ (by decide)).mono ?_ | refine (wletter_v _ false _ (by first | decide | assumption)).mono ?_); rintro e w1 ⟨rfl, hw1⟩; obtain rfl := hw1.symm; clear hw1)
    go_ret
    exact ⟨by rw [HV.out]; rfl, rfl⟩
  by_cases ha16 : a = 16
  · subst ha16
    clear ha9 ha10
    by_cases hm14 : m = 14
    · subst hm14
      by_cases hb9 : b = 9
      · subst hb9
        have HV := hid (show wbri 16 14 9 = false by decide)
        go_enter Tryd.func116, Tryd.ntmps116
        go_wp2_with (go_at_call 87; (first | refine (wletter_v _ true _ (by decide)).mono ?_ | refine (wletter_v _ false _ (by first | decide | assumption)).mono ?_); rintro e w1 ⟨rfl, hw1⟩; obtain rfl := hw1.symm; clear hw1)
        go_ret
        exact ⟨by rw [HV.out]; rfl, rfl⟩
      by_cases hb10 : b = 10
      · subst hb10
        clear hb9
        have HV := hid (show wbri 16 14 10 = false by decide)
        go_enter Tryd.func116, Tryd.ntmps116
        go_wp2_with (go_at_call 87; (first | refine (wletter_v _ true _ (by decide)).mono ?_ | refine (wletter_v _ false _ (by first | decide | assumption)).mono ?_); rintro e w1 ⟨rfl, hw1⟩; obtain rfl := hw1.symm; clear hw1)
        go_ret
        exact ⟨by rw [HV.out]; rfl, rfl⟩
      by_cases hb16 : b = 16
      · subst hb16
        clear hb9 hb10
        have HV := hid (show wbri 16 14 16 = false by decide)
        go_enter Tryd.func116, Tryd.ntmps116
        go_wp2_with (go_at_call 87; (first | refine (wletter_v _ true _ (by decide)).mono ?_ | refine (wletter_v _ false _ (by first | decide | assumption)).mono ?_); rintro e w1 ⟨rfl, hw1⟩; obtain rfl := hw1.symm; clear hw1)
        go_ret
        exact ⟨by rw [HV.out]; rfl, rfl⟩
      have bb9 : (b == 9) = false := beq_eq_false_iff_ne.2 hb9
      have nb9 : (b != 9) = true := bne_iff_ne.2 hb9
      have bb10 : (b == 10) = false := beq_eq_false_iff_ne.2 hb10
      have nb10 : (b != 10) = true := bne_iff_ne.2 hb10
      have bb16 : (b == 16) = false := beq_eq_false_iff_ne.2 hb16
      have nb16 : (b != 16) = true := bne_iff_ne.2 hb16
      have Lb : wletter b = false := by simp [wletter, bb9, bb10]
      clear hb9 hb10 hb16
      have HV := hid (show wbri 16 14 b = false by ((try unfold wbri); (try unfold wletter); simp [*]))
      go_enter Tryd.func116, Tryd.ntmps116
      go_wp2_with (go_at_call 87; (first | refine (wletter_v _ true _ (by decide)).mono ?_ | refine (wletter_v _ false _ (by first | decide | assumption)).mono ?_); rintro e w1 ⟨rfl, hw1⟩; obtain rfl := hw1.symm; clear hw1)
      go_ret
      exact ⟨by rw [HV.out]; rfl, rfl⟩
    by_cases hm15 : m = 15
    · subst hm15
      clear hm14
      by_cases hb9 : b = 9
      · subst hb9
        have HV := hid (show wbri 16 15 9 = false by decide)
        go_enter Tryd.func116, Tryd.ntmps116
        go_wp2_with (go_at_call 87; (first | refine (wletter_v _ true _ (by decide)).mono ?_ | refine (wletter_v _ false _ (by first | decide | assumption)).mono ?_); rintro e w1 ⟨rfl, hw1⟩; obtain rfl := hw1.symm; clear hw1)
        go_ret
        exact ⟨by rw [HV.out]; rfl, rfl⟩
      by_cases hb10 : b = 10
      · subst hb10
        clear hb9
        have HV := hid (show wbri 16 15 10 = false by decide)
        go_enter Tryd.func116, Tryd.ntmps116
        go_wp2_with (go_at_call 87; (first | refine (wletter_v _ true _ (by decide)).mono ?_ | refine (wletter_v _ false _ (by first | decide | assumption)).mono ?_); rintro e w1 ⟨rfl, hw1⟩; obtain rfl := hw1.symm; clear hw1)
        go_ret
        exact ⟨by rw [HV.out]; rfl, rfl⟩
      by_cases hb16 : b = 16
      · subst hb16
        clear hb9 hb10
        have HV := hid (show wbri 16 15 16 = true by decide)
        go_enter Tryd.func116, Tryd.ntmps116
        go_wp2_with (go_at_call 87; (first | refine (wletter_v _ true _ (by decide)).mono ?_ | refine (wletter_v _ false _ (by first | decide | assumption)).mono ?_); rintro e w1 ⟨rfl, hw1⟩; obtain rfl := hw1.symm; clear hw1)
        go_ret
        exact ⟨by rw [HV.out]; rfl, rfl⟩
      have bb9 : (b == 9) = false := beq_eq_false_iff_ne.2 hb9
      have nb9 : (b != 9) = true := bne_iff_ne.2 hb9
      have bb10 : (b == 10) = false := beq_eq_false_iff_ne.2 hb10
      have nb10 : (b != 10) = true := bne_iff_ne.2 hb10
      have bb16 : (b == 16) = false := beq_eq_false_iff_ne.2 hb16
      have nb16 : (b != 16) = true := bne_iff_ne.2 hb16
      have Lb : wletter b = false := by simp [wletter, bb9, bb10]
      clear hb9 hb10 hb16
      have HV := hid (show wbri 16 15 b = false by ((try unfold wbri); (try unfold wletter); simp [*]))
      go_enter Tryd.func116, Tryd.ntmps116
      go_wp2_with (go_at_call 87; (first | refine (wletter_v _ true _ (by decide)).mono ?_ | refine (wletter_v _ false _ (by first | decide | assumption)).mono ?_); rintro e w1 ⟨rfl, hw1⟩; obtain rfl := hw1.symm; clear hw1)
      go_ret
      exact ⟨by rw [HV.out]; rfl, rfl⟩
    by_cases hm13 : m = 13
    · subst hm13
      clear hm14 hm15
      by_cases hb9 : b = 9
      · subst hb9
        have HV := hid (show wbri 16 13 9 = false by decide)
        go_enter Tryd.func116, Tryd.ntmps116
        go_wp2_with (go_at_call 87; (first | refine (wletter_v _ true _ (by decide)).mono ?_ | refine (wletter_v _ false _ (by first | decide | assumption)).mono ?_); rintro e w1 ⟨rfl, hw1⟩; obtain rfl := hw1.symm; clear hw1)
        go_ret
        exact ⟨by rw [HV.out]; rfl, rfl⟩
      by_cases hb10 : b = 10
      · subst hb10
        clear hb9
        have HV := hid (show wbri 16 13 10 = false by decide)
        go_enter Tryd.func116, Tryd.ntmps116
        go_wp2_with (go_at_call 87; (first | refine (wletter_v _ true _ (by decide)).mono ?_ | refine (wletter_v _ false _ (by first | decide | assumption)).mono ?_); rintro e w1 ⟨rfl, hw1⟩; obtain rfl := hw1.symm; clear hw1)
        go_ret
        exact ⟨by rw [HV.out]; rfl, rfl⟩
      by_cases hb16 : b = 16
      · subst hb16
        clear hb9 hb10
        have HV := hid (show wbri 16 13 16 = true by decide)
        go_enter Tryd.func116, Tryd.ntmps116
        go_wp2_with (go_at_call 87; (first | refine (wletter_v _ true _ (by decide)).mono ?_ | refine (wletter_v _ false _ (by first | decide | assumption)).mono ?_); rintro e w1 ⟨rfl, hw1⟩; obtain rfl := hw1.symm; clear hw1)
        go_ret
        exact ⟨by rw [HV.out]; rfl, rfl⟩
      have bb9 : (b == 9) = false := beq_eq_false_iff_ne.2 hb9
      have nb9 : (b != 9) = true := bne_iff_ne.2 hb9
      have bb10 : (b == 10) = false := beq_eq_false_iff_ne.2 hb10
      have nb10 : (b != 10) = true := bne_iff_ne.2 hb10
      have bb16 : (b == 16) = false := beq_eq_false_iff_ne.2 hb16
      have nb16 : (b != 16) = true := bne_iff_ne.2 hb16
      have Lb : wletter b = false := by simp [wletter, bb9, bb10]
      clear hb9 hb10 hb16
      have HV := hid (show wbri 16 13 b = false by ((try unfold wbri); (try unfold wletter); simp [*]))
      go_enter Tryd.func116, Tryd.ntmps116
      go_wp2_with (go_at_call 87; (first | refine (wletter_v _ true _ (by decide)).mono ?_ | refine (wletter_v _ false _ (by first | decide | assumption)).mono ?_); rintro e w1 ⟨rfl, hw1⟩; obtain rfl := hw1.symm; clear hw1)
      go_ret
      exact ⟨by rw [HV.out]; rfl, rfl⟩
    by_cases hm11 : m = 11
    · subst hm11
      clear hm14 hm15 hm13
      by_cases hb9 : b = 9
      · subst hb9
        have HV := hid (show wbri 16 11 9 = false by decide)
        go_enter Tryd.func116, Tryd.ntmps116
        go_wp2_with (go_at_call 87; (first | refine (wletter_v _ true _ (by decide)).mono ?_ | refine (wletter_v _ false _ (by first | decide | assumption)).mono ?_); rintro e w1 ⟨rfl, hw1⟩; obtain rfl := hw1.symm; clear hw1)
        go_ret
        exact ⟨by rw [HV.out]; rfl, rfl⟩
      by_cases hb10 : b = 10
      · subst hb10
        clear hb9
        have HV := hid (show wbri 16 11 10 = false by decide)
        go_enter Tryd.func116, Tryd.ntmps116
        go_wp2_with (go_at_call 87; (first | refine (wletter_v _ true _ (by decide)).mono ?_ | refine (wletter_v _ false _ (by first | decide | assumption)).mono ?_); rintro e w1 ⟨rfl, hw1⟩; obtain rfl := hw1.symm; clear hw1)
        go_ret
        exact ⟨by rw [HV.out]; rfl, rfl⟩
      by_cases hb16 : b = 16
      · subst hb16
        clear hb9 hb10
        have HV := hid (show wbri 16 11 16 = true by decide)
        go_enter Tryd.func116, Tryd.ntmps116
        go_wp2_with (go_at_call 87; (first | refine (wletter_v _ true _ (by decide)).mono ?_ | refine (wletter_v _ false _ (by first | decide | assumption)).mono ?_); rintro e w1 ⟨rfl, hw1⟩; obtain rfl := hw1.symm; clear hw1)
        go_ret
        exact ⟨by rw [HV.out]; rfl, rfl⟩
      have bb9 : (b == 9) = false := beq_eq_false_iff_ne.2 hb9
      have nb9 : (b != 9) = true := bne_iff_ne.2 hb9
      have bb10 : (b == 10) = false := beq_eq_false_iff_ne.2 hb10
      have nb10 : (b != 10) = true := bne_iff_ne.2 hb10
      have bb16 : (b == 16) = false := beq_eq_false_iff_ne.2 hb16
      have nb16 : (b != 16) = true := bne_iff_ne.2 hb16
      have Lb : wletter b = false := by simp [wletter, bb9, bb10]
      clear hb9 hb10 hb16
      have HV := hid (show wbri 16 11 b = false by ((try unfold wbri); (try unfold wletter); simp [*]))
      go_enter Tryd.func116, Tryd.ntmps116
      go_wp2_with (go_at_call 87; (first | refine (wletter_v _ true _ (by decide)).mono ?_ | refine (wletter_v _ false _ (by first | decide | assumption)).mono ?_); rintro e w1 ⟨rfl, hw1⟩; obtain rfl := hw1.symm; clear hw1)
      go_ret
      exact ⟨by rw [HV.out]; rfl, rfl⟩
    by_cases hm12 : m = 12
    · subst hm12
      clear hm14 hm15 hm13 hm11
      by_cases hb9 : b = 9
      · subst hb9
        have HV := hid (show wbri 16 12 9 = false by decide)
        go_enter Tryd.func116, Tryd.ntmps116
        go_wp2_with (go_at_call 87; (first | refine (wletter_v _ true _ (by decide)).mono ?_ | refine (wletter_v _ false _ (by first | decide | assumption)).mono ?_); rintro e w1 ⟨rfl, hw1⟩; obtain rfl := hw1.symm; clear hw1)
        go_ret
        exact ⟨by rw [HV.out]; rfl, rfl⟩
      by_cases hb10 : b = 10
      · subst hb10
        clear hb9
        have HV := hid (show wbri 16 12 10 = false by decide)
        go_enter Tryd.func116, Tryd.ntmps116
        go_wp2_with (go_at_call 87; (first | refine (wletter_v _ true _ (by decide)).mono ?_ | refine (wletter_v _ false _ (by first | decide | assumption)).mono ?_); rintro e w1 ⟨rfl, hw1⟩; obtain rfl := hw1.symm; clear hw1)
        go_ret
        exact ⟨by rw [HV.out]; rfl, rfl⟩
      by_cases hb16 : b = 16
      · subst hb16
        clear hb9 hb10
        have HV := hid (show wbri 16 12 16 = false by decide)
        go_enter Tryd.func116, Tryd.ntmps116
        go_wp2_with (go_at_call 87; (first | refine (wletter_v _ true _ (by decide)).mono ?_ | refine (wletter_v _ false _ (by first | decide | assumption)).mono ?_); rintro e w1 ⟨rfl, hw1⟩; obtain rfl := hw1.symm; clear hw1)
        go_ret
        exact ⟨by rw [HV.out]; rfl, rfl⟩
      have bb9 : (b == 9) = false := beq_eq_false_iff_ne.2 hb9
      have nb9 : (b != 9) = true := bne_iff_ne.2 hb9
      have bb10 : (b == 10) = false := beq_eq_false_iff_ne.2 hb10
      have nb10 : (b != 10) = true := bne_iff_ne.2 hb10
      have bb16 : (b == 16) = false := beq_eq_false_iff_ne.2 hb16
      have nb16 : (b != 16) = true := bne_iff_ne.2 hb16
      have Lb : wletter b = false := by simp [wletter, bb9, bb10]
      clear hb9 hb10 hb16
      have HV := hid (show wbri 16 12 b = false by ((try unfold wbri); (try unfold wletter); simp [*]))
      go_enter Tryd.func116, Tryd.ntmps116
      go_wp2_with (go_at_call 87; (first | refine (wletter_v _ true _ (by decide)).mono ?_ | refine (wletter_v _ false _ (by first | decide | assumption)).mono ?_); rintro e w1 ⟨rfl, hw1⟩; obtain rfl := hw1.symm; clear hw1)
      go_ret
      exact ⟨by rw [HV.out]; rfl, rfl⟩
    have bm14 : (m == 14) = false := beq_eq_false_iff_ne.2 hm14
    have nm14 : (m != 14) = true := bne_iff_ne.2 hm14
    have bm15 : (m == 15) = false := beq_eq_false_iff_ne.2 hm15
    have nm15 : (m != 15) = true := bne_iff_ne.2 hm15
    have bm13 : (m == 13) = false := beq_eq_false_iff_ne.2 hm13
    have nm13 : (m != 13) = true := bne_iff_ne.2 hm13
    have bm11 : (m == 11) = false := beq_eq_false_iff_ne.2 hm11
    have nm11 : (m != 11) = true := bne_iff_ne.2 hm11
    have bm12 : (m == 12) = false := beq_eq_false_iff_ne.2 hm12
    have nm12 : (m != 12) = true := bne_iff_ne.2 hm12
    clear hm14 hm15 hm13 hm11 hm12
    by_cases hb9 : b = 9
    · subst hb9
      have HV := hid (show wbri 16 m 9 = false by ((try unfold wbri); (try unfold wletter); simp [*]))
      go_enter Tryd.func116, Tryd.ntmps116
      go_wp2_with (go_at_call 87; (first | refine (wletter_v _ true _ (by decide)).mono ?_ | refine (wletter_v _ false _ (by first | decide | assumption)).mono ?_); rintro e w1 ⟨rfl, hw1⟩; obtain rfl := hw1.symm; clear hw1)
      go_ret
      exact ⟨by rw [HV.out]; rfl, rfl⟩
    by_cases hb10 : b = 10
    · subst hb10
      clear hb9
      have HV := hid (show wbri 16 m 10 = false by ((try unfold wbri); (try unfold wletter); simp [*]))
      go_enter Tryd.func116, Tryd.ntmps116
      go_wp2_with (go_at_call 87; (first | refine (wletter_v _ true _ (by decide)).mono ?_ | refine (wletter_v _ false _ (by first | decide | assumption)).mono ?_); rintro e w1 ⟨rfl, hw1⟩; obtain rfl := hw1.symm; clear hw1)
      go_ret
      exact ⟨by rw [HV.out]; rfl, rfl⟩
    by_cases hb16 : b = 16
    · subst hb16
      clear hb9 hb10
      have HV := hid (show wbri 16 m 16 = false by ((try unfold wbri); (try unfold wletter); simp [*]))
      go_enter Tryd.func116, Tryd.ntmps116
      go_wp2_with (go_at_call 87; (first | refine (wletter_v _ true _ (by decide)).mono ?_ | refine (wletter_v _ false _ (by first | decide | assumption)).mono ?_); rintro e w1 ⟨rfl, hw1⟩; obtain rfl := hw1.symm; clear hw1)
      go_ret
      exact ⟨by rw [HV.out]; rfl, rfl⟩
    have bb9 : (b == 9) = false := beq_eq_false_iff_ne.2 hb9
    have nb9 : (b != 9) = true := bne_iff_ne.2 hb9
    have bb10 : (b == 10) = false := beq_eq_false_iff_ne.2 hb10
    have nb10 : (b != 10) = true := bne_iff_ne.2 hb10
    have bb16 : (b == 16) = false := beq_eq_false_iff_ne.2 hb16
    have nb16 : (b != 16) = true := bne_iff_ne.2 hb16
    have Lb : wletter b = false := by simp [wletter, bb9, bb10]
    clear hb9 hb10 hb16
    have HV := hid (show wbri 16 m b = false by ((try unfold wbri); (try unfold wletter); simp [*]))
    go_enter Tryd.func116, Tryd.ntmps116
    go_wp2_with (go_at_call 87; (first | refine (wletter_v _ true _ (by decide)).mono ?_ | refine (wletter_v _ false _ (by first | decide | assumption)).mono ?_); rintro e w1 ⟨rfl, hw1⟩; obtain rfl := hw1.symm; clear hw1)
    go_ret
    exact ⟨by rw [HV.out]; rfl, rfl⟩
  have ba9 : (a == 9) = false := beq_eq_false_iff_ne.2 ha9
  have na9 : (a != 9) = true := bne_iff_ne.2 ha9
  have ba10 : (a == 10) = false := beq_eq_false_iff_ne.2 ha10
  have na10 : (a != 10) = true := bne_iff_ne.2 ha10
  have ba16 : (a == 16) = false := beq_eq_false_iff_ne.2 ha16
  have na16 : (a != 16) = true := bne_iff_ne.2 ha16
  have La : wletter a = false := by simp [wletter, ba9, ba10]
  clear ha9 ha10 ha16
  by_cases hm14 : m = 14
  · subst hm14
    by_cases hb9 : b = 9
    · subst hb9
      have HV := hid (show wbri a 14 9 = false by ((try unfold wbri); (try unfold wletter); simp [*]))
      go_enter Tryd.func116, Tryd.ntmps116
      go_wp2_with (go_at_call 87; (first | refine (wletter_v _ true _ (by decide)).mono ?_ | refine (wletter_v _ false _ (by first | decide | assumption)).mono ?_); rintro e w1 ⟨rfl, hw1⟩; obtain rfl := hw1.symm; clear hw1)
      go_ret
      exact ⟨by rw [HV.out]; rfl, rfl⟩
    by_cases hb10 : b = 10
    · subst hb10
      clear hb9
      have HV := hid (show wbri a 14 10 = false by ((try unfold wbri); (try unfold wletter); simp [*]))
      go_enter Tryd.func116, Tryd.ntmps116
      go_wp2_with (go_at_call 87; (first | refine (wletter_v _ true _ (by decide)).mono ?_ | refine (wletter_v _ false _ (by first | decide | assumption)).mono ?_); rintro e w1 ⟨rfl, hw1⟩; obtain rfl := hw1.symm; clear hw1)
      go_ret
      exact ⟨by rw [HV.out]; rfl, rfl⟩
    by_cases hb16 : b = 16
    · subst hb16
      clear hb9 hb10
      have HV := hid (show wbri a 14 16 = false by ((try unfold wbri); (try unfold wletter); simp [*]))
      go_enter Tryd.func116, Tryd.ntmps116
      go_wp2_with (go_at_call 87; (first | refine (wletter_v _ true _ (by decide)).mono ?_ | refine (wletter_v _ false _ (by first | decide | assumption)).mono ?_); rintro e w1 ⟨rfl, hw1⟩; obtain rfl := hw1.symm; clear hw1)
      go_ret
      exact ⟨by rw [HV.out]; rfl, rfl⟩
    have bb9 : (b == 9) = false := beq_eq_false_iff_ne.2 hb9
    have nb9 : (b != 9) = true := bne_iff_ne.2 hb9
    have bb10 : (b == 10) = false := beq_eq_false_iff_ne.2 hb10
    have nb10 : (b != 10) = true := bne_iff_ne.2 hb10
    have bb16 : (b == 16) = false := beq_eq_false_iff_ne.2 hb16
    have nb16 : (b != 16) = true := bne_iff_ne.2 hb16
    have Lb : wletter b = false := by simp [wletter, bb9, bb10]
    clear hb9 hb10 hb16
    have HV := hid (show wbri a 14 b = false by ((try unfold wbri); (try unfold wletter); simp [*]))
    go_enter Tryd.func116, Tryd.ntmps116
    go_wp2_with (go_at_call 87; (first | refine (wletter_v _ true _ (by decide)).mono ?_ | refine (wletter_v _ false _ (by first | decide | assumption)).mono ?_); rintro e w1 ⟨rfl, hw1⟩; obtain rfl := hw1.symm; clear hw1)
    go_ret
    exact ⟨by rw [HV.out]; rfl, rfl⟩
  by_cases hm15 : m = 15
  · subst hm15
    clear hm14
    by_cases hb9 : b = 9
    · subst hb9
      have HV := hid (show wbri a 15 9 = false by ((try unfold wbri); (try unfold wletter); simp [*]))
      go_enter Tryd.func116, Tryd.ntmps116
      go_wp2_with (go_at_call 87; (first | refine (wletter_v _ true _ (by decide)).mono ?_ | refine (wletter_v _ false _ (by first | decide | assumption)).mono ?_); rintro e w1 ⟨rfl, hw1⟩; obtain rfl := hw1.symm; clear hw1)
      go_ret
      exact ⟨by rw [HV.out]; rfl, rfl⟩
    by_cases hb10 : b = 10
    · subst hb10
      clear hb9
      have HV := hid (show wbri a 15 10 = false by ((try unfold wbri); (try unfold wletter); simp [*]))
      go_enter Tryd.func116, Tryd.ntmps116
      go_wp2_with (go_at_call 87; (first | refine (wletter_v _ true _ (by decide)).mono ?_ | refine (wletter_v _ false _ (by first | decide | assumption)).mono ?_); rintro e w1 ⟨rfl, hw1⟩; obtain rfl := hw1.symm; clear hw1)
      go_ret
      exact ⟨by rw [HV.out]; rfl, rfl⟩
    by_cases hb16 : b = 16
    · subst hb16
      clear hb9 hb10
      have HV := hid (show wbri a 15 16 = false by ((try unfold wbri); (try unfold wletter); simp [*]))
      go_enter Tryd.func116, Tryd.ntmps116
      go_wp2_with (go_at_call 87; (first | refine (wletter_v _ true _ (by decide)).mono ?_ | refine (wletter_v _ false _ (by first | decide | assumption)).mono ?_); rintro e w1 ⟨rfl, hw1⟩; obtain rfl := hw1.symm; clear hw1)
      go_ret
      exact ⟨by rw [HV.out]; rfl, rfl⟩
    have bb9 : (b == 9) = false := beq_eq_false_iff_ne.2 hb9
    have nb9 : (b != 9) = true := bne_iff_ne.2 hb9
    have bb10 : (b == 10) = false := beq_eq_false_iff_ne.2 hb10
    have nb10 : (b != 10) = true := bne_iff_ne.2 hb10
    have bb16 : (b == 16) = false := beq_eq_false_iff_ne.2 hb16
    have nb16 : (b != 16) = true := bne_iff_ne.2 hb16
    have Lb : wletter b = false := by simp [wletter, bb9, bb10]
    clear hb9 hb10 hb16
    have HV := hid (show wbri a 15 b = false by ((try unfold wbri); (try unfold wletter); simp [*]))
    go_enter Tryd.func116, Tryd.ntmps116
    go_wp2_with (go_at_call 87; (first | refine (wletter_v _ true _ (by decide)).mono ?_ | refine (wletter_v _ false _ (by first | decide | assumption)).mono ?_); rintro e w1 ⟨rfl, hw1⟩; obtain rfl := hw1.symm; clear hw1)
    go_ret
    exact ⟨by rw [HV.out]; rfl, rfl⟩
  by_cases hm13 : m = 13
  · subst hm13
    clear hm14 hm15
    by_cases hb9 : b = 9
    · subst hb9
      have HV := hid (show wbri a 13 9 = false by ((try unfold wbri); (try unfold wletter); simp [*]))
      go_enter Tryd.func116, Tryd.ntmps116
      go_wp2_with (go_at_call 87; (first | refine (wletter_v _ true _ (by decide)).mono ?_ | refine (wletter_v _ false _ (by first | decide | assumption)).mono ?_); rintro e w1 ⟨rfl, hw1⟩; obtain rfl := hw1.symm; clear hw1)
      go_ret
      exact ⟨by rw [HV.out]; rfl, rfl⟩
    by_cases hb10 : b = 10
    · subst hb10
      clear hb9
      have HV := hid (show wbri a 13 10 = false by ((try unfold wbri); (try unfold wletter); simp [*]))
      go_enter Tryd.func116, Tryd.ntmps116
      go_wp2_with (go_at_call 87; (first | refine (wletter_v _ true _ (by decide)).mono ?_ | refine (wletter_v _ false _ (by first | decide | assumption)).mono ?_); rintro e w1 ⟨rfl, hw1⟩; obtain rfl := hw1.symm; clear hw1)
      go_ret
      exact ⟨by rw [HV.out]; rfl, rfl⟩
    by_cases hb16 : b = 16
    · subst hb16
      clear hb9 hb10
      have HV := hid (show wbri a 13 16 = false by ((try unfold wbri); (try unfold wletter); simp [*]))
      go_enter Tryd.func116, Tryd.ntmps116
      go_wp2_with (go_at_call 87; (first | refine (wletter_v _ true _ (by decide)).mono ?_ | refine (wletter_v _ false _ (by first | decide | assumption)).mono ?_); rintro e w1 ⟨rfl, hw1⟩; obtain rfl := hw1.symm; clear hw1)
      go_ret
      exact ⟨by rw [HV.out]; rfl, rfl⟩
    have bb9 : (b == 9) = false := beq_eq_false_iff_ne.2 hb9
    have nb9 : (b != 9) = true := bne_iff_ne.2 hb9
    have bb10 : (b == 10) = false := beq_eq_false_iff_ne.2 hb10
    have nb10 : (b != 10) = true := bne_iff_ne.2 hb10
    have bb16 : (b == 16) = false := beq_eq_false_iff_ne.2 hb16
    have nb16 : (b != 16) = true := bne_iff_ne.2 hb16
    have Lb : wletter b = false := by simp [wletter, bb9, bb10]
    clear hb9 hb10 hb16
    have HV := hid (show wbri a 13 b = false by ((try unfold wbri); (try unfold wletter); simp [*]))
    go_enter Tryd.func116, Tryd.ntmps116
    go_wp2_with (go_at_call 87; (first | refine (wletter_v _ true _ (by decide)).mono ?_ | refine (wletter_v _ false _ (by first | decide | assumption)).mono ?_); rintro e w1 ⟨rfl, hw1⟩; obtain rfl := hw1.symm; clear hw1)
    go_ret
    exact ⟨by rw [HV.out]; rfl, rfl⟩
  by_cases hm11 : m = 11
  · subst hm11
    clear hm14 hm15 hm13
    by_cases hb9 : b = 9
    · subst hb9
      have HV := hid (show wbri a 11 9 = false by ((try unfold wbri); (try unfold wletter); simp [*]))
      go_enter Tryd.func116, Tryd.ntmps116
      go_wp2_with (go_at_call 87; (first | refine (wletter_v _ true _ (by decide)).mono ?_ | refine (wletter_v _ false _ (by first | decide | assumption)).mono ?_); rintro e w1 ⟨rfl, hw1⟩; obtain rfl := hw1.symm; clear hw1)
      go_ret
      exact ⟨by rw [HV.out]; rfl, rfl⟩
    by_cases hb10 : b = 10
    · subst hb10
      clear hb9
      have HV := hid (show wbri a 11 10 = false by ((try unfold wbri); (try unfold wletter); simp [*]))
      go_enter Tryd.func116, Tryd.ntmps116
      go_wp2_with (go_at_call 87; (first | refine (wletter_v _ true _ (by decide)).mono ?_ | refine (wletter_v _ false _ (by first | decide | assumption)).mono ?_); rintro e w1 ⟨rfl, hw1⟩; obtain rfl := hw1.symm; clear hw1)
      go_ret
      exact ⟨by rw [HV.out]; rfl, rfl⟩
    by_cases hb16 : b = 16
    · subst hb16
      clear hb9 hb10
      have HV := hid (show wbri a 11 16 = false by ((try unfold wbri); (try unfold wletter); simp [*]))
      go_enter Tryd.func116, Tryd.ntmps116
      go_wp2_with (go_at_call 87; (first | refine (wletter_v _ true _ (by decide)).mono ?_ | refine (wletter_v _ false _ (by first | decide | assumption)).mono ?_); rintro e w1 ⟨rfl, hw1⟩; obtain rfl := hw1.symm; clear hw1)
      go_ret
      exact ⟨by rw [HV.out]; rfl, rfl⟩
    have bb9 : (b == 9) = false := beq_eq_false_iff_ne.2 hb9
    have nb9 : (b != 9) = true := bne_iff_ne.2 hb9
    have bb10 : (b == 10) = false := beq_eq_false_iff_ne.2 hb10
    have nb10 : (b != 10) = true := bne_iff_ne.2 hb10
    have bb16 : (b == 16) = false := beq_eq_false_iff_ne.2 hb16
    have nb16 : (b != 16) = true := bne_iff_ne.2 hb16
    have Lb : wletter b = false := by simp [wletter, bb9, bb10]
    clear hb9 hb10 hb16
    have HV := hid (show wbri a 11 b = false by ((try unfold wbri); (try unfold wletter); simp [*]))
    go_enter Tryd.func116, Tryd.ntmps116
    go_wp2_with (go_at_call 87; (first | refine (wletter_v _ true _ (by decide)).mono ?_ | refine (wletter_v _ false _ (by first | decide | assumption)).mono ?_); rintro e w1 ⟨rfl, hw1⟩; obtain rfl := hw1.symm; clear hw1)
    go_ret
    exact ⟨by rw [HV.out]; rfl, rfl⟩
  by_cases hm12 : m = 12
  · subst hm12
    clear hm14 hm15 hm13 hm11
    by_cases hb9 : b = 9
    · subst hb9
      have HV := hid (show wbri a 12 9 = false by ((try unfold wbri); (try unfold wletter); simp [*]))
      go_enter Tryd.func116, Tryd.ntmps116
      go_wp2_with (go_at_call 87; (first | refine (wletter_v _ true _ (by decide)).mono ?_ | refine (wletter_v _ false _ (by first | decide | assumption)).mono ?_); rintro e w1 ⟨rfl, hw1⟩; obtain rfl := hw1.symm; clear hw1)
      go_ret
      exact ⟨by rw [HV.out]; rfl, rfl⟩
    by_cases hb10 : b = 10
    · subst hb10
      clear hb9
      have HV := hid (show wbri a 12 10 = false by ((try unfold wbri); (try unfold wletter); simp [*]))
      go_enter Tryd.func116, Tryd.ntmps116
      go_wp2_with (go_at_call 87; (first | refine (wletter_v _ true _ (by decide)).mono ?_ | refine (wletter_v _ false _ (by first | decide | assumption)).mono ?_); rintro e w1 ⟨rfl, hw1⟩; obtain rfl := hw1.symm; clear hw1)
      go_ret
      exact ⟨by rw [HV.out]; rfl, rfl⟩
    by_cases hb16 : b = 16
    · subst hb16
      clear hb9 hb10
      have HV := hid (show wbri a 12 16 = false by ((try unfold wbri); (try unfold wletter); simp [*]))
      go_enter Tryd.func116, Tryd.ntmps116
      go_wp2_with (go_at_call 87; (first | refine (wletter_v _ true _ (by decide)).mono ?_ | refine (wletter_v _ false _ (by first | decide | assumption)).mono ?_); rintro e w1 ⟨rfl, hw1⟩; obtain rfl := hw1.symm; clear hw1)
      go_ret
      exact ⟨by rw [HV.out]; rfl, rfl⟩
    have bb9 : (b == 9) = false := beq_eq_false_iff_ne.2 hb9
    have nb9 : (b != 9) = true := bne_iff_ne.2 hb9
    have bb10 : (b == 10) = false := beq_eq_false_iff_ne.2 hb10
    have nb10 : (b != 10) = true := bne_iff_ne.2 hb10
    have bb16 : (b == 16) = false := beq_eq_false_iff_ne.2 hb16
    have nb16 : (b != 16) = true := bne_iff_ne.2 hb16
    have Lb : wletter b = false := by simp [wletter, bb9, bb10]
    clear hb9 hb10 hb16
    have HV := hid (show wbri a 12 b = false by ((try unfold wbri); (try unfold wletter); simp [*]))
    go_enter Tryd.func116, Tryd.ntmps116
    go_wp2_with (go_at_call 87; (first | refine (wletter_v _ true _ (by decide)).mono ?_ | refine (wletter_v _ false _ (by first | decide | assumption)).mono ?_); rintro e w1 ⟨rfl, hw1⟩; obtain rfl := hw1.symm; clear hw1)
    go_ret
    exact ⟨by rw [HV.out]; rfl, rfl⟩
  have bm14 : (m == 14) = false := beq_eq_false_iff_ne.2 hm14
  have nm14 : (m != 14) = true := bne_iff_ne.2 hm14
  have bm15 : (m == 15) = false := beq_eq_false_iff_ne.2 hm15
  have nm15 : (m != 15) = true := bne_iff_ne.2 hm15
  have bm13 : (m == 13) = false := beq_eq_false_iff_ne.2 hm13
  have nm13 : (m != 13) = true := bne_iff_ne.2 hm13
  have bm11 : (m == 11) = false := beq_eq_false_iff_ne.2 hm11
  have nm11 : (m != 11) = true := bne_iff_ne.2 hm11
  have bm12 : (m == 12) = false := beq_eq_false_iff_ne.2 hm12
  have nm12 : (m != 12) = true := bne_iff_ne.2 hm12
  clear hm14 hm15 hm13 hm11 hm12
  by_cases hb9 : b = 9
  · subst hb9
    have HV := hid (show wbri a m 9 = false by ((try unfold wbri); (try unfold wletter); simp [*]))
    go_enter Tryd.func116, Tryd.ntmps116
    go_wp2_with (go_at_call 87; (first | refine (wletter_v _ true _ (by decide)).mono ?_ | refine (wletter_v _ false _ (by first | decide | assumption)).mono ?_); rintro e w1 ⟨rfl, hw1⟩; obtain rfl := hw1.symm; clear hw1)
    go_ret
    exact ⟨by rw [HV.out]; rfl, rfl⟩
  by_cases hb10 : b = 10
  · subst hb10
    clear hb9
    have HV := hid (show wbri a m 10 = false by ((try unfold wbri); (try unfold wletter); simp [*]))
    go_enter Tryd.func116, Tryd.ntmps116
    go_wp2_with (go_at_call 87; (first | refine (wletter_v _ true _ (by decide)).mono ?_ | refine (wletter_v _ false _ (by first | decide | assumption)).mono ?_); rintro e w1 ⟨rfl, hw1⟩; obtain rfl := hw1.symm; clear hw1)
    go_ret
    exact ⟨by rw [HV.out]; rfl, rfl⟩
  by_cases hb16 : b = 16
  · subst hb16
    clear hb9 hb10
    have HV := hid (show wbri a m 16 = false by ((try unfold wbri); (try unfold wletter); simp [*]))
    go_enter Tryd.func116, Tryd.ntmps116
    go_wp2_with (go_at_call 87; (first | refine (wletter_v _ true _ (by decide)).mono ?_ | refine (wletter_v _ false _ (by first | decide | assumption)).mono ?_); rintro e w1 ⟨rfl, hw1⟩; obtain rfl := hw1.symm; clear hw1)
    go_ret
    exact ⟨by rw [HV.out]; rfl, rfl⟩
  have bb9 : (b == 9) = false := beq_eq_false_iff_ne.2 hb9
  have nb9 : (b != 9) = true := bne_iff_ne.2 hb9
  have bb10 : (b == 10) = false := beq_eq_false_iff_ne.2 hb10
  have nb10 : (b != 10) = true := bne_iff_ne.2 hb10
  have bb16 : (b == 16) = false := beq_eq_false_iff_ne.2 hb16
  have nb16 : (b != 16) = true := bne_iff_ne.2 hb16
  have Lb : wletter b = false := by simp [wletter, bb9, bb10]
  clear hb9 hb10 hb16
  have HV := hid (show wbri a m b = false by ((try unfold wbri); (try unfold wletter); simp [*]))
  go_enter Tryd.func116, Tryd.ntmps116
  go_wp2_with (go_at_call 87; (first | refine (wletter_v _ true _ (by decide)).mono ?_ | refine (wletter_v _ false _ (by first | decide | assumption)).mono ?_); rintro e w1 ⟨rfl, hw1⟩; obtain rfl := hw1.symm; clear hw1)
  go_ret
  exact ⟨by rw [HV.out]; rfl, rfl⟩
end Go.Proofs.YtmhbhjlaagpohaaDoor
