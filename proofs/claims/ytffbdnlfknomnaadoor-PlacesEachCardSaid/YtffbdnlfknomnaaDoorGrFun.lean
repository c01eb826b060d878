/- The contracts of alone, syllable, between, last and step (package grapheme). -/
import Derived.Test.YtffbdnlfknomnaaDoorGpCls
import Derived.Test.YtffbdnlfknomnaaDoorKit
import Derived.Test.YtffbdnlfknomnaaDoorGrMath
namespace Go.Proofs.YtffbdnlfknomnaaDoor.Wt
open Go.RowKit

theorem galone_any (c : Int) (w : World) : Calls Tryd.prog 124 #[.int .i64 c] w fun e w' => e = .returned (.bool (galone c)) ∧ w' = w := by
  by_cases h1 : c = 1
  · subst h1
    go_enter Tryd.func124, Tryd.ntmps124
    go_wp2
    go_ret
    exact ⟨rfl, rfl⟩
  have b1 : (c == 1) = false := beq_eq_false_iff_ne.2 h1
  by_cases h2 : c = 2
  · subst h2
    go_enter Tryd.func124, Tryd.ntmps124
    go_wp2
    go_ret
    exact ⟨rfl, rfl⟩
  have b2 : (c == 2) = false := beq_eq_false_iff_ne.2 h2
  have HV := hid (show galone c = (c == 3) by unfold galone; rw [b1, b2]; rfl)
  go_enter Tryd.func124, Tryd.ntmps124
  go_wp2
  go_ret
  exact ⟨by rw [HV.out]; rfl, rfl⟩
theorem gsyl_any (a b : Int) (w : World) : Calls Tryd.prog 125 #[.int .i64 a, .int .i64 b] w fun e w' => e = .returned (.bool (gsyl a b)) ∧ w' = w := by
  by_cases ha8 : a = 8
  · subst ha8
    by_cases hb8 : b = 8
    · subst hb8
      go_enter Tryd.func125, Tryd.ntmps125
      go_wp2
      go_ret
      exact ⟨rfl, rfl⟩
    have c8 : (b == 8) = false := beq_eq_false_iff_ne.2 hb8
    by_cases hb9 : b = 9
    · subst hb9
      go_enter Tryd.func125, Tryd.ntmps125
      go_wp2
      go_ret
      exact ⟨rfl, rfl⟩
    have c9 : (b == 9) = false := beq_eq_false_iff_ne.2 hb9
    have HV := hid (show gsyl 8 b = (b == 11) by unfold gsyl; simp [c8, c9])
    go_enter Tryd.func125, Tryd.ntmps125
    go_wp2
    go_ret
    exact ⟨by rw [HV.out]; rfl, rfl⟩
  have d8 : (a == 8) = false := beq_eq_false_iff_ne.2 ha8
  by_cases ha9 : a = 9
  · subst ha9
    by_cases hb9 : b = 9
    · subst hb9
      go_enter Tryd.func125, Tryd.ntmps125
      go_wp2
      go_ret
      exact ⟨rfl, rfl⟩
    have c9 : (b == 9) = false := beq_eq_false_iff_ne.2 hb9
    have HV := hid (show gsyl 9 b = (b == 10) by unfold gsyl; simp [c9])
    go_enter Tryd.func125, Tryd.ntmps125
    go_wp2
    go_ret
    exact ⟨by rw [HV.out]; rfl, rfl⟩
  have d9 : (a == 9) = false := beq_eq_false_iff_ne.2 ha9
  by_cases ha11 : a = 11
  · subst ha11
    by_cases hb9 : b = 9
    · subst hb9
      go_enter Tryd.func125, Tryd.ntmps125
      go_wp2
      go_ret
      exact ⟨rfl, rfl⟩
    have c9 : (b == 9) = false := beq_eq_false_iff_ne.2 hb9
    have HV := hid (show gsyl 11 b = (b == 10) by unfold gsyl; simp [c9])
    go_enter Tryd.func125, Tryd.ntmps125
    go_wp2
    go_ret
    exact ⟨by rw [HV.out]; rfl, rfl⟩
  have d11 : (a == 11) = false := beq_eq_false_iff_ne.2 ha11
  by_cases ha10 : a = 10
  · subst ha10
    have HV := hid (show gsyl 10 b = (b == 10) by unfold gsyl; simp [Int.reduceEq])
    go_enter Tryd.func125, Tryd.ntmps125
    go_wp2
    go_ret
    exact ⟨by rw [HV.out]; rfl, rfl⟩
  have d10 : (a == 10) = false := beq_eq_false_iff_ne.2 ha10
  have HV := hid (show gsyl a b = false by unfold gsyl; rw [if_neg ha8, if_neg (fun h => by rcases h with h | h; exact ha9 h; exact ha11 h), if_neg ha10])
  go_enter Tryd.func125, Tryd.ntmps125
  go_wp2
  go_ret
  exact ⟨by rw [HV.out]; rfl, rfl⟩
set_option maxHeartbeats 4000000 in
theorem gbt_any (a b : Int) (w : World) : Calls Tryd.prog 102 #[.int .i64 a, .int .i64 b] w fun e w' => e = .returned (.int .i64 (gbt a b)) ∧ w' = w := by
  by_cases h1 : a = 1
  · subst h1
    by_cases h2 : b = 2
    · subst h2
      go_enter Tryd.func102, Tryd.ntmps102
      go_wp2
      go_ret
      exact ⟨rfl, rfl⟩
    have c2 : (b == 2) = false := beq_eq_false_iff_ne.2 h2
    have ga : galone 1 = true := by decide
    have HV := hid (show gbt 1 b = 0 by unfold gbt; rw [if_neg (fun h => h2 h.2), if_pos (.inl ga)])
    go_enter Tryd.func102, Tryd.ntmps102
    go_wp2_with (first | (go_at_call 124; refine (galone_any _ _).mono ?_; rintro e w1 ⟨rfl, hw1⟩; obtain rfl := hw1.symm; clear hw1; rw [ga]))
    go_ret
    exact ⟨by rw [HV.out]; rfl, rfl⟩
  have c1 : (a == 1) = false := beq_eq_false_iff_ne.2 h1
  by_cases ga : galone a = true
  · have HV := hid (show gbt a b = 0 by unfold gbt; rw [if_neg (fun h => h1 h.1), if_pos (.inl ga)])
    go_enter Tryd.func102, Tryd.ntmps102
    go_wp2_with (first | (go_at_call 124; refine (galone_any _ _).mono ?_; rintro e w1 ⟨rfl, hw1⟩; obtain rfl := hw1.symm; clear hw1; rw [ga]))
    go_ret
    exact ⟨by rw [HV.out]; rfl, rfl⟩
  have ga : galone a = false := Bool.eq_false_iff.2 ga
  by_cases gb : galone b = true
  · have HV := hid (show gbt a b = 0 by unfold gbt; rw [if_neg (fun h => h1 h.1), if_pos (.inr gb)])
    go_enter Tryd.func102, Tryd.ntmps102
    go_wp2_with (first | (go_at_call 124; refine (galone_any _ _).mono ?_; rintro e w1 ⟨rfl, hw1⟩; obtain rfl := hw1.symm; clear hw1; (first | rw [ga] | rw [gb])))
    go_ret
    exact ⟨by rw [HV.out]; rfl, rfl⟩
  have gb : galone b = false := Bool.eq_false_iff.2 gb
  have HG := hid (show gbt a b = if b = 4 ∨ b = 5 ∨ b = 6 ∨ a = 7 then 1 else if gsyl a b = true then 1 else if a = 5 ∧ b = 12 ∨ a = 13 ∧ b = 13 then 2 else 0 by
    unfold gbt
    rw [if_neg (fun h => h1 h.1), if_neg (fun h => by rcases h with h | h; rw [ga] at h; cases h; rw [gb] at h; cases h)])
  by_cases k4 : b = 4
  · subst k4
    have HV := hid (show gbt a 4 = 1 by rw [HG.out, if_pos (by simp)])
    clear HG
    go_enter Tryd.func102, Tryd.ntmps102
    go_wp2_with (first | (go_at_call 124; refine (galone_any _ _).mono ?_; rintro e w1 ⟨rfl, hw1⟩; obtain rfl := hw1.symm; clear hw1; (first | rw [ga] | rw [gb])))
    go_ret
    exact ⟨by rw [HV.out]; rfl, rfl⟩
  have e4 : (b == 4) = false := beq_eq_false_iff_ne.2 k4
  by_cases k5 : b = 5
  · subst k5
    have HV := hid (show gbt a 5 = 1 by rw [HG.out, if_pos (by simp)])
    clear HG
    go_enter Tryd.func102, Tryd.ntmps102
    go_wp2_with (first | (go_at_call 124; refine (galone_any _ _).mono ?_; rintro e w1 ⟨rfl, hw1⟩; obtain rfl := hw1.symm; clear hw1; (first | rw [ga] | rw [gb])))
    go_ret
    exact ⟨by rw [HV.out]; rfl, rfl⟩
  have e5 : (b == 5) = false := beq_eq_false_iff_ne.2 k5
  by_cases k6 : b = 6
  · subst k6
    have HV := hid (show gbt a 6 = 1 by rw [HG.out, if_pos (by simp)])
    clear HG
    go_enter Tryd.func102, Tryd.ntmps102
    go_wp2_with (first | (go_at_call 124; refine (galone_any _ _).mono ?_; rintro e w1 ⟨rfl, hw1⟩; obtain rfl := hw1.symm; clear hw1; (first | rw [ga] | rw [gb])))
    go_ret
    exact ⟨by rw [HV.out]; rfl, rfl⟩
  have e6 : (b == 6) = false := beq_eq_false_iff_ne.2 k6
  by_cases k7 : a = 7
  · subst k7
    have HV := hid (show gbt 7 b = 1 by rw [HG.out, if_pos (.inr (.inr (.inr rfl)))])
    clear HG
    go_enter Tryd.func102, Tryd.ntmps102
    go_wp2_with (first | (go_at_call 124; refine (galone_any _ _).mono ?_; rintro e w1 ⟨rfl, hw1⟩; obtain rfl := hw1.symm; clear hw1; (first | rw [ga] | rw [gb])))
    go_ret
    exact ⟨by rw [HV.out]; rfl, rfl⟩
  have e7 : (a == 7) = false := beq_eq_false_iff_ne.2 k7
  have HG2 := hid (show gbt a b = if gsyl a b = true then 1 else if a = 5 ∧ b = 12 ∨ a = 13 ∧ b = 13 then 2 else 0 by
    rw [HG.out, if_neg (fun h => by rcases h with h | h | h | h; exact k4 h; exact k5 h; exact k6 h; exact k7 h)])
  clear HG
  by_cases gs : gsyl a b = true
  · have HV := hid (show gbt a b = 1 by rw [HG2.out, if_pos gs])
    clear HG2
    go_enter Tryd.func102, Tryd.ntmps102
    go_wp2_with (first | (go_at_call 124; refine (galone_any _ _).mono ?_; rintro e w1 ⟨rfl, hw1⟩; obtain rfl := hw1.symm; clear hw1; (first | rw [ga] | rw [gb])) | (go_at_call 125; refine (gsyl_any _ _ _).mono ?_; rintro e w1 ⟨rfl, hw1⟩; obtain rfl := hw1.symm; clear hw1; rw [gs]))
    go_ret
    exact ⟨by rw [HV.out]; rfl, rfl⟩
  have gs : gsyl a b = false := Bool.eq_false_iff.2 gs
  have HG3 := hid (show gbt a b = if a = 5 ∧ b = 12 ∨ a = 13 ∧ b = 13 then 2 else 0 by rw [HG2.out, if_neg (by rw [gs]; simp)])
  clear HG2
  by_cases k8 : a = 5
  · subst k8
    by_cases k9 : b = 12
    · subst k9
      have HV := hid (show gbt 5 12 = 2 by rw [HG3.out, if_pos (by simp)])
      clear HG3
      go_enter Tryd.func102, Tryd.ntmps102
      go_wp2_with (first | (go_at_call 124; refine (galone_any _ _).mono ?_; rintro e w1 ⟨rfl, hw1⟩; obtain rfl := hw1.symm; clear hw1; (first | rw [ga] | rw [gb])) | (go_at_call 125; refine (gsyl_any _ _ _).mono ?_; rintro e w1 ⟨rfl, hw1⟩; obtain rfl := hw1.symm; clear hw1; rw [gs]))
      go_ret
      exact ⟨by rw [HV.out]; rfl, rfl⟩
    have e9 : (b == 12) = false := beq_eq_false_iff_ne.2 k9
    have HV := hid (show gbt 5 b = 0 by rw [HG3.out, if_neg (fun h => by rcases h with h | h; exact k9 h.2; exact absurd h.1 (by decide))])
    clear HG3
    go_enter Tryd.func102, Tryd.ntmps102
    go_wp2_with (first | (go_at_call 124; refine (galone_any _ _).mono ?_; rintro e w1 ⟨rfl, hw1⟩; obtain rfl := hw1.symm; clear hw1; (first | rw [ga] | rw [gb])) | (go_at_call 125; refine (gsyl_any _ _ _).mono ?_; rintro e w1 ⟨rfl, hw1⟩; obtain rfl := hw1.symm; clear hw1; rw [gs]))
    go_ret
    exact ⟨by rw [HV.out]; rfl, rfl⟩
  have e8 : (a == 5) = false := beq_eq_false_iff_ne.2 k8
  by_cases k10 : a = 13
  · subst k10
    by_cases k11 : b = 13
    · subst k11
      have HV := hid (show gbt 13 13 = 2 by rw [HG3.out, if_pos (by simp)])
      clear HG3
      go_enter Tryd.func102, Tryd.ntmps102
      go_wp2_with (first | (go_at_call 124; refine (galone_any _ _).mono ?_; rintro e w1 ⟨rfl, hw1⟩; obtain rfl := hw1.symm; clear hw1; (first | rw [ga] | rw [gb])) | (go_at_call 125; refine (gsyl_any _ _ _).mono ?_; rintro e w1 ⟨rfl, hw1⟩; obtain rfl := hw1.symm; clear hw1; rw [gs]))
      go_ret
      exact ⟨by rw [HV.out]; rfl, rfl⟩
    have e11 : (b == 13) = false := beq_eq_false_iff_ne.2 k11
    have HV := hid (show gbt 13 b = 0 by rw [HG3.out, if_neg (fun h => by rcases h with h | h; exact k8 h.1; exact k11 h.2)])
    clear HG3
    go_enter Tryd.func102, Tryd.ntmps102
    go_wp2_with (first | (go_at_call 124; refine (galone_any _ _).mono ?_; rintro e w1 ⟨rfl, hw1⟩; obtain rfl := hw1.symm; clear hw1; (first | rw [ga] | rw [gb])) | (go_at_call 125; refine (gsyl_any _ _ _).mono ?_; rintro e w1 ⟨rfl, hw1⟩; obtain rfl := hw1.symm; clear hw1; rw [gs]))
    go_ret
    exact ⟨by rw [HV.out]; rfl, rfl⟩
  have e10 : (a == 13) = false := beq_eq_false_iff_ne.2 k10
  have HV := hid (show gbt a b = 0 by rw [HG3.out, if_neg (fun h => by rcases h with h | h; exact k8 h.1; exact k10 h.1)])
  clear HG3
  go_enter Tryd.func102, Tryd.ntmps102
  go_wp2_with (first | (go_at_call 124; refine (galone_any _ _).mono ?_; rintro e w1 ⟨rfl, hw1⟩; obtain rfl := hw1.symm; clear hw1; (first | rw [ga] | rw [gb])) | (go_at_call 125; refine (gsyl_any _ _ _).mono ?_; rintro e w1 ⟨rfl, hw1⟩; obtain rfl := hw1.symm; clear hw1; rw [gs]))
  go_ret
  exact ⟨by rw [HV.out]; rfl, rfl⟩
def gplast (l : List UInt8) : Int := gpcls (decLast l).1
def gpfirst (l : List UInt8) : Int := gpcls (dec l).1
/-- The class that stands behind a place: a text's end parts as a control does. -/
def gstep (l : List UInt8) (p : Nat) : Int × Nat := if p = l.length then (3, p) else (gpfirst (l.drop p), p + (dec (l.drop p)).2)
theorem gstep_any (l : List UInt8) (p : Nat) (w : World) (ht : TbW w) (hl : l.length ≤ 1000000000) (hp : p ≤ l.length) :
    Calls Tryd.prog 101 #[.string ⟨l.toArray⟩, .int .i64 p] w fun e w' => e = .returned (.tuple #[.int .i64 (gstep l p).1, .int .i64 (gstep l p).2]) ∧ Below w.heap.size w w' := by
  have HT := hid ht
  clear ht
  by_cases he : p = l.length
  · have HV := hid (show gstep l p = (3, p) from if_pos he)
    have b1 : ((p : Int) == (l.length : Int)) = true := by rw [he]; exact beq_self_eq_true _
    clear he
    go_enter Tryd.func101, Tryd.ntmps101
    go_wp2
    go_ret2
    exact ⟨by rw [HV.out]; rfl, Below.refl _ _⟩
  · have HV := hid (show gstep l p = (gpfirst (l.drop p), p + (dec (l.drop p)).2) from if_neg he)
    have b1 : ((p : Int) == (l.length : Int)) = false := beq_eq_false_iff_ne.2 (by omega)
    have h4 := dec_le4 (l.drop p)
    go_enter Tryd.func101, Tryd.ntmps101
    go_wp2_with fail
    rw [ext_drop]
    refine (decode_any (l.drop p) w HT.out.tabs).mono ?_
    rintro e w1 ⟨rfl, be⟩
    have HB := hid be
    clear be
    obtain ⟨r, hr⟩ : ∃ r : Int, r = ((dec (l.drop p)).1 : Int) := ⟨_, rfl⟩
    obtain ⟨n, hn⟩ : ∃ n : Nat, n = (dec (l.drop p)).2 := ⟨_, rfl⟩
    have HW := hid (show gpfirst (l.drop p) = gpcls r by rw [hr]; rfl)
    rw [← hn] at HV h4
    rw [← hr, ← hn]
    clear hr hn
    go_wp2_with fail
    refine (gpcls_any r w1).mono ?_
    rintro e w2 ⟨rfl, hw2⟩
    obtain rfl := hw2.symm
    clear hw2
    go_wp2
    go_ret2
    exact ⟨by rw [HV.out, HW.out]; simp, HB.out⟩
end Go.Proofs.YtffbdnlfknomnaaDoor.Wt
