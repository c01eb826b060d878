/- What the functions of package word that look at texts answer, said of bytes. -/
import Derived.Test.YtkophiklkgefnaaDoorWdDef
import Derived.Laws.RangeAny
import Derived.RangeFuncNested
namespace Go.Proofs.YtkophiklkgefnaaDoor.Wd

def wlast (l : List UInt8) : Int := wdcls (decLast l).1
def wfirst (l : List UInt8) : Int := wdcls (dec l).1
theorem wlast_nil : wlast [] = 0 := by decide
def wbsF : Nat → List UInt8 → Int × Nat
  | 0, _ => (0, 0)
  | f + 1, l => if l = [] then (0, 0) else if wclings (wlast l) then wbsF f (ltl l) else (wlast l, (ltl l).length)
theorem wlast_bd (l : List UInt8) (h : l ≠ []) : 1 ≤ (decLast l).2 ∧ (decLast l).2 ≤ l.length := by
  obtain ⟨e, n, c, h1, h2, h3, _⟩ := last_step l h
  rw [h1]
  exact ⟨h2, by show n ≤ _; omega⟩
theorem wltl_lt (l : List UInt8) (h : l ≠ []) : (ltl l).length < l.length := by
  have := wlast_bd l h
  have : 0 < l.length := List.length_pos_iff.2 h
  unfold ltl
  rw [List.length_take]
  omega
theorem wbsF_any : ∀ (f g : Nat) (l : List UInt8), l.length ≤ f → l.length ≤ g → wbsF f l = wbsF g l
  | 0, 0, _, _, _ => rfl
  | 0, g + 1, l, hf, hg => by
    have : l = [] := List.length_eq_zero_iff.1 (by omega)
    subst this; rfl
  | f + 1, 0, l, hf, hg => by
    have : l = [] := List.length_eq_zero_iff.1 (by omega)
    subst this; rfl
  | f + 1, g + 1, l, hf, hg => by
    unfold wbsF
    by_cases h : l = []
    · rw [if_pos h, if_pos h]
    · have := wltl_lt l h
      rw [if_neg h, if_neg h, wbsF_any f g (ltl l) (by omega) (by omega)]
def wbs (l : List UInt8) : Int × Nat := wbsF l.length l
theorem wbs_nil : wbs [] = (0, 0) := rfl
theorem wbs_yes (l : List UInt8) (h : l ≠ []) (hk : wclings (wlast l) = true) : wbs l = wbs (ltl l) := by
  have h1 := wltl_lt l h
  unfold wbs
  rw [wbsF_any l.length (l.length - 1 + 1) l (by omega) (by omega)]
  conv => lhs; unfold wbsF
  rw [if_neg h, if_pos hk]
  exact wbsF_any _ _ _ (by omega) (by omega)
theorem wbs_no (l : List UInt8) (h : l ≠ []) (hk : wclings (wlast l) = false) : wbs l = (wlast l, (ltl l).length) := by
  have hp : 0 < l.length := List.length_pos_iff.2 h
  unfold wbs
  obtain ⟨n, hn⟩ : ∃ n, l.length = n + 1 := ⟨l.length - 1, by omega⟩
  rw [hn]
  unfold wbsF
  rw [if_neg h, if_neg (by rw [hk]; simp)]
theorem wbs_le : ∀ (n : Nat) (l : List UInt8), l.length ≤ n → (wbs l).2 ≤ l.length
  | 0, l, hl => by
    have : l = [] := List.length_eq_zero_iff.1 (by omega)
    subst this
    exact Nat.le_refl _
  | n + 1, l, hl => by
    by_cases h : l = []
    · subst h; exact Nat.le_refl _
    · have h1 := wltl_lt l h
      cases hk : wclings (wlast l) with
      | true => rw [wbs_yes l h hk]; exact Nat.le_trans (wbs_le n (ltl l) (by omega)) (Nat.le_of_lt h1)
      | false => rw [wbs_no l h hk]; exact Nat.le_of_lt h1
/-- The class of the first rune that does not cling. -/
def wonF : Nat → List UInt8 → Int
  | 0, _ => 0
  | f + 1, l => if l = [] then 0 else if wclings (wfirst l) then wonF f (l.drop (dec l).2) else wfirst l
theorem wonF_any : ∀ (f g : Nat) (l : List UInt8), l.length ≤ f → l.length ≤ g → wonF f l = wonF g l
  | 0, 0, _, _, _ => rfl
  | 0, g + 1, l, hf, hg => by
    have : l = [] := List.length_eq_zero_iff.1 (by omega)
    subst this; rfl
  | f + 1, 0, l, hf, hg => by
    have : l = [] := List.length_eq_zero_iff.1 (by omega)
    subst this; rfl
  | f + 1, g + 1, l, hf, hg => by
    unfold wonF
    by_cases h : l = []
    · rw [if_pos h, if_pos h]
    · have := dec_ge l h
      rw [if_neg h, if_neg h, wonF_any f g _ (by rw [List.length_drop]; omega) (by rw [List.length_drop]; omega)]
def won (l : List UInt8) : Int := wonF l.length l
theorem won_nil : won [] = 0 := rfl
theorem won_yes (l : List UInt8) (h : l ≠ []) (hk : wclings (wfirst l) = true) : won l = won (l.drop (dec l).2) := by
  have h1 := dec_ge l h
  have hp : 0 < l.length := List.length_pos_iff.2 h
  unfold won
  rw [wonF_any l.length (l.length - 1 + 1) l (by omega) (by omega)]
  conv => lhs; unfold wonF
  rw [if_neg h, if_pos hk]
  exact wonF_any _ _ _ (by rw [List.length_drop]; omega) (Nat.le_refl _)
theorem won_no (l : List UInt8) (h : l ≠ []) (hk : wclings (wfirst l) = false) : won l = wfirst l := by
  have hp : 0 < l.length := List.length_pos_iff.2 h
  unfold won
  obtain ⟨n, hn⟩ : ∃ n, l.length = n + 1 := ⟨l.length - 1, by omega⟩
  rw [hn]
  unfold wonF
  rw [if_neg h, if_neg (by rw [hk]; simp)]
def wodF : Nat → List UInt8 → Bool → Bool
  | 0, _, o => o
  | f + 1, l, o => if l = [] then o else if wlast l == 7 then wodF f (ltl l) (!o) else if wclings (wlast l) then wodF f (ltl l) o else o
theorem wodF_any : ∀ (f g : Nat) (l : List UInt8) (o : Bool), l.length ≤ f → l.length ≤ g → wodF f l o = wodF g l o
  | 0, 0, _, _, _, _ => rfl
  | 0, g + 1, l, o, hf, hg => by
    have : l = [] := List.length_eq_zero_iff.1 (by omega)
    subst this; rfl
  | f + 1, 0, l, o, hf, hg => by
    have : l = [] := List.length_eq_zero_iff.1 (by omega)
    subst this; rfl
  | f + 1, g + 1, l, o, hf, hg => by
    unfold wodF
    by_cases h : l = []
    · rw [if_pos h, if_pos h]
    · have := wltl_lt l h
      rw [if_neg h, if_neg h, wodF_any f g (ltl l) (!o) (by omega) (by omega), wodF_any f g (ltl l) o (by omega) (by omega)]
def wod (l : List UInt8) (o : Bool) : Bool := wodF l.length l o
theorem wod_nil (o : Bool) : wod [] o = o := rfl
theorem wod_step (l : List UInt8) (o : Bool) (h : l ≠ []) : wod l o = if wlast l == 7 then wod (ltl l) (!o) else if wclings (wlast l) then wod (ltl l) o else o := by
  have h1 := wltl_lt l h
  unfold wod
  rw [wodF_any l.length (l.length - 1 + 1) l o (by omega) (by omega)]
  conv => lhs; unfold wodF
  rw [if_neg h, wodF_any _ (ltl l).length (ltl l) (!o) (by omega) (Nat.le_refl _), wodF_any _ (ltl l).length (ltl l) o (by omega) (Nat.le_refl _)]
def wjoin (s : List UInt8) (p : Nat) : Bool :=
  if wtog (wbs (s.take p)).1 (wfirst (s.drop p)) then true else
  if (wbs (s.take p)).1 == 7 && wfirst (s.drop p) == 7 then wod (s.take p) false else
  if wmid (wfirst (s.drop p)) then wbri (wbs (s.take p)).1 (wfirst (s.drop p)) (won (s.drop (p + (dec (s.drop p)).2))) else
  if wmid (wbs (s.take p)).1 then wbri (wbs (s.take (wbs (s.take p)).2)).1 (wbs (s.take p)).1 (wfirst (s.drop p)) else false
def wcut (s : List UInt8) (p : Nat) : Bool :=
  if wlast (s.take p) == 1 && wfirst (s.drop p) == 2 then false else if wends (wlast (s.take p)) then true else if wends (wfirst (s.drop p)) then true else
  if wlast (s.take p) == 5 && wfirst (s.drop p) == 19 then false else if wlast (s.take p) == 18 && wfirst (s.drop p) == 18 then false else
  if wclings (wfirst (s.drop p)) then false else !wjoin s p
end Go.Proofs.YtkophiklkgefnaaDoor.Wd
/- The contracts of ends, clings, letter, makesWord, middle and together (package word). -/
namespace Go.Proofs.YtkophiklkgefnaaDoor.Wd
open Go.RowKit

set_option maxHeartbeats 4000000 in
theorem wends_any (c : Int) (w : World) : Calls Tryd.prog 71 #[.int .i64 c] w fun e w' => e = .returned (.bool (wends c)) ∧ w' = w := by
  by_cases hc1 : c = 1
  · subst hc1
    have HV := hid (show wends 1 = true by decide)
    go_enter Tryd.func71, Tryd.ntmps71
    go_wp2
    go_ret
    exact ⟨by rw [HV.out]; rfl, rfl⟩
  by_cases hc2 : c = 2
  · subst hc2
    clear hc1
    have HV := hid (show wends 2 = true by decide)
    go_enter Tryd.func71, Tryd.ntmps71
    go_wp2
    go_ret
    exact ⟨by rw [HV.out]; rfl, rfl⟩
  by_cases hc3 : c = 3
  · subst hc3
    clear hc1 hc2
    have HV := hid (show wends 3 = true by decide)
    go_enter Tryd.func71, Tryd.ntmps71
    go_wp2
    go_ret
    exact ⟨by rw [HV.out]; rfl, rfl⟩
  have bc1 : (c == 1) = false := beq_eq_false_iff_ne.2 hc1
  have nc1 : (c != 1) = true := bne_iff_ne.2 hc1
  have bc2 : (c == 2) = false := beq_eq_false_iff_ne.2 hc2
  have nc2 : (c != 2) = true := bne_iff_ne.2 hc2
  have bc3 : (c == 3) = false := beq_eq_false_iff_ne.2 hc3
  have nc3 : (c != 3) = true := bne_iff_ne.2 hc3
  clear hc1 hc2 hc3
  have HV := hid (show wends c = false by ((try unfold wends); simp [*]))
  go_enter Tryd.func71, Tryd.ntmps71
  go_wp2
  go_ret
  exact ⟨by rw [HV.out]; rfl, rfl⟩
set_option maxHeartbeats 4000000 in
theorem wclings_any (c : Int) (w : World) : Calls Tryd.prog 37 #[.int .i64 c] w fun e w' => e = .returned (.bool (wclings c)) ∧ w' = w := by
  by_cases hc4 : c = 4
  · subst hc4
    have HV := hid (show wclings 4 = true by decide)
    go_enter Tryd.func37, Tryd.ntmps37
    go_wp2
    go_ret
    exact ⟨by rw [HV.out]; rfl, rfl⟩
  by_cases hc6 : c = 6
  · subst hc6
    clear hc4
    have HV := hid (show wclings 6 = true by decide)
    go_enter Tryd.func37, Tryd.ntmps37
    go_wp2
    go_ret
    exact ⟨by rw [HV.out]; rfl, rfl⟩
  by_cases hc5 : c = 5
  · subst hc5
    clear hc4 hc6
    have HV := hid (show wclings 5 = true by decide)
    go_enter Tryd.func37, Tryd.ntmps37
    go_wp2
    go_ret
    exact ⟨by rw [HV.out]; rfl, rfl⟩
  have bc4 : (c == 4) = false := beq_eq_false_iff_ne.2 hc4
  have nc4 : (c != 4) = true := bne_iff_ne.2 hc4
  have bc6 : (c == 6) = false := beq_eq_false_iff_ne.2 hc6
  have nc6 : (c != 6) = true := bne_iff_ne.2 hc6
  have bc5 : (c == 5) = false := beq_eq_false_iff_ne.2 hc5
  have nc5 : (c != 5) = true := bne_iff_ne.2 hc5
  clear hc4 hc6 hc5
  have HV := hid (show wclings c = false by ((try unfold wclings); simp [*]))
  go_enter Tryd.func37, Tryd.ntmps37
  go_wp2
  go_ret
  exact ⟨by rw [HV.out]; rfl, rfl⟩
set_option maxHeartbeats 4000000 in
theorem wletter_any (c : Int) (w : World) : Calls Tryd.prog 83 #[.int .i64 c] w fun e w' => e = .returned (.bool (wletter c)) ∧ w' = w := by
  by_cases hc10 : c = 10
  · subst hc10
    have HV := hid (show wletter 10 = true by decide)
    go_enter Tryd.func83, Tryd.ntmps83
    go_wp2
    go_ret
    exact ⟨by rw [HV.out]; rfl, rfl⟩
  by_cases hc9 : c = 9
  · subst hc9
    clear hc10
    have HV := hid (show wletter 9 = true by decide)
    go_enter Tryd.func83, Tryd.ntmps83
    go_wp2
    go_ret
    exact ⟨by rw [HV.out]; rfl, rfl⟩
  have bc10 : (c == 10) = false := beq_eq_false_iff_ne.2 hc10
  have nc10 : (c != 10) = true := bne_iff_ne.2 hc10
  have bc9 : (c == 9) = false := beq_eq_false_iff_ne.2 hc9
  have nc9 : (c != 9) = true := bne_iff_ne.2 hc9
  clear hc10 hc9
  have HV := hid (show wletter c = false by ((try unfold wletter); simp [*]))
  go_enter Tryd.func83, Tryd.ntmps83
  go_wp2
  go_ret
  exact ⟨by rw [HV.out]; rfl, rfl⟩
theorem wletter_v (c : Int) (v : Bool) (w : World) (h : wletter c = v) : Calls Tryd.prog 83 #[.int .i64 c] w fun e w' => e = .returned (.bool v) ∧ w' = w := by
  rw [← h]; exact wletter_any c w
set_option maxHeartbeats 4000000 in
theorem wmakes_any (c : Int) (w : World) : Calls Tryd.prog 54 #[.int .i64 c] w fun e w' => e = .returned (.bool (wmakes c)) ∧ w' = w := by
  by_cases hc10 : c = 10
  · subst hc10
    have HV := hid (show wmakes 10 = true by decide)
    go_enter Tryd.func54, Tryd.ntmps54
    go_wp2_with (go_at_call 83; (first | refine (wletter_v _ true _ (by decide)).mono ?_ | refine (wletter_v _ false _ (by first | decide | assumption)).mono ?_); rintro e w1 ⟨rfl, hw1⟩; obtain rfl := hw1.symm; clear hw1)
    go_ret
    exact ⟨by rw [HV.out]; rfl, rfl⟩
  by_cases hc9 : c = 9
  · subst hc9
    clear hc10
    have HV := hid (show wmakes 9 = true by decide)
    go_enter Tryd.func54, Tryd.ntmps54
    go_wp2_with (go_at_call 83; (first | refine (wletter_v _ true _ (by decide)).mono ?_ | refine (wletter_v _ false _ (by first | decide | assumption)).mono ?_); rintro e w1 ⟨rfl, hw1⟩; obtain rfl := hw1.symm; clear hw1)
    go_ret
    exact ⟨by rw [HV.out]; rfl, rfl⟩
  by_cases hc8 : c = 8
  · subst hc8
    clear hc10 hc9
    have HV := hid (show wmakes 8 = true by decide)
    go_enter Tryd.func54, Tryd.ntmps54
    go_wp2_with (go_at_call 83; (first | refine (wletter_v _ true _ (by decide)).mono ?_ | refine (wletter_v _ false _ (by first | decide | assumption)).mono ?_); rintro e w1 ⟨rfl, hw1⟩; obtain rfl := hw1.symm; clear hw1)
    go_ret
    exact ⟨by rw [HV.out]; rfl, rfl⟩
  by_cases hc16 : c = 16
  · subst hc16
    clear hc10 hc9 hc8
    have HV := hid (show wmakes 16 = true by decide)
    go_enter Tryd.func54, Tryd.ntmps54
    go_wp2_with (go_at_call 83; (first | refine (wletter_v _ true _ (by decide)).mono ?_ | refine (wletter_v _ false _ (by first | decide | assumption)).mono ?_); rintro e w1 ⟨rfl, hw1⟩; obtain rfl := hw1.symm; clear hw1)
    go_ret
    exact ⟨by rw [HV.out]; rfl, rfl⟩
  have bc10 : (c == 10) = false := beq_eq_false_iff_ne.2 hc10
  have nc10 : (c != 10) = true := bne_iff_ne.2 hc10
  have bc9 : (c == 9) = false := beq_eq_false_iff_ne.2 hc9
  have nc9 : (c != 9) = true := bne_iff_ne.2 hc9
  have bc8 : (c == 8) = false := beq_eq_false_iff_ne.2 hc8
  have nc8 : (c != 8) = true := bne_iff_ne.2 hc8
  have bc16 : (c == 16) = false := beq_eq_false_iff_ne.2 hc16
  have nc16 : (c != 16) = true := bne_iff_ne.2 hc16
  have Lc : wletter c = false := by simp [wletter, bc9, bc10]
  clear hc10 hc9 hc8 hc16
  have HV := hid (show wmakes c = false by ((try unfold wmakes); (try unfold wletter); simp [*]))
  go_enter Tryd.func54, Tryd.ntmps54
  go_wp2_with (go_at_call 83; (first | refine (wletter_v _ true _ (by decide)).mono ?_ | refine (wletter_v _ false _ (by first | decide | assumption)).mono ?_); rintro e w1 ⟨rfl, hw1⟩; obtain rfl := hw1.symm; clear hw1)
  go_ret
  exact ⟨by rw [HV.out]; rfl, rfl⟩
theorem wmakes_v (c : Int) (v : Bool) (w : World) (h : wmakes c = v) : Calls Tryd.prog 54 #[.int .i64 c] w fun e w' => e = .returned (.bool v) ∧ w' = w := by
  rw [← h]; exact wmakes_any c w
set_option maxHeartbeats 4000000 in
theorem wmid_any (c : Int) (w : World) : Calls Tryd.prog 100 #[.int .i64 c] w fun e w' => e = .returned (.bool (wmid c)) ∧ w' = w := by
  by_cases hc14 : c = 14
  · subst hc14
    have HV := hid (show wmid 14 = true by decide)
    go_enter Tryd.func100, Tryd.ntmps100
    go_wp2
    go_ret
    exact ⟨by rw [HV.out]; rfl, rfl⟩
  by_cases hc15 : c = 15
  · subst hc15
    clear hc14
    have HV := hid (show wmid 15 = true by decide)
    go_enter Tryd.func100, Tryd.ntmps100
    go_wp2
    go_ret
    exact ⟨by rw [HV.out]; rfl, rfl⟩
  by_cases hc13 : c = 13
  · subst hc13
    clear hc14 hc15
    have HV := hid (show wmid 13 = true by decide)
    go_enter Tryd.func100, Tryd.ntmps100
    go_wp2
    go_ret
    exact ⟨by rw [HV.out]; rfl, rfl⟩
  by_cases hc11 : c = 11
  · subst hc11
    clear hc14 hc15 hc13
    have HV := hid (show wmid 11 = true by decide)
    go_enter Tryd.func100, Tryd.ntmps100
    go_wp2
    go_ret
    exact ⟨by rw [HV.out]; rfl, rfl⟩
  by_cases hc12 : c = 12
  · subst hc12
    clear hc14 hc15 hc13 hc11
    have HV := hid (show wmid 12 = true by decide)
    go_enter Tryd.func100, Tryd.ntmps100
    go_wp2
    go_ret
    exact ⟨by rw [HV.out]; rfl, rfl⟩
  have bc14 : (c == 14) = false := beq_eq_false_iff_ne.2 hc14
  have nc14 : (c != 14) = true := bne_iff_ne.2 hc14
  have bc15 : (c == 15) = false := beq_eq_false_iff_ne.2 hc15
  have nc15 : (c != 15) = true := bne_iff_ne.2 hc15
  have bc13 : (c == 13) = false := beq_eq_false_iff_ne.2 hc13
  have nc13 : (c != 13) = true := bne_iff_ne.2 hc13
  have bc11 : (c == 11) = false := beq_eq_false_iff_ne.2 hc11
  have nc11 : (c != 11) = true := bne_iff_ne.2 hc11
  have bc12 : (c == 12) = false := beq_eq_false_iff_ne.2 hc12
  have nc12 : (c != 12) = true := bne_iff_ne.2 hc12
  clear hc14 hc15 hc13 hc11 hc12
  have HV := hid (show wmid c = false by ((try unfold wmid); simp [*]))
  go_enter Tryd.func100, Tryd.ntmps100
  go_wp2
  go_ret
  exact ⟨by rw [HV.out]; rfl, rfl⟩
set_option maxHeartbeats 4000000 in
theorem wtog_any (a b : Int) (w : World) : Calls Tryd.prog 98 #[.int .i64 a, .int .i64 b] w fun e w' => e = .returned (.bool (wtog a b)) ∧ w' = w := by
  by_cases ha10 : a = 10
  · subst ha10
    by_cases hb10 : b = 10
    · subst hb10
      have HV := hid (show wtog 10 10 = true by decide)
      go_enter Tryd.func98, Tryd.ntmps98
      go_wp2_with (first | (go_at_call 83; (first | refine (wletter_v _ true _ (by decide)).mono ?_ | refine (wletter_v _ false _ (by first | decide | assumption)).mono ?_); rintro e w1 ⟨rfl, hw1⟩; obtain rfl := hw1.symm; clear hw1) | (go_at_call 54; (first | refine (wmakes_v _ true _ (by decide)).mono ?_ | refine (wmakes_v _ false _ (by first | decide | (simp [wmakes, wletter, *]))).mono ?_); rintro e w1 ⟨rfl, hw1⟩; obtain rfl := hw1.symm; clear hw1))
      go_ret
      exact ⟨by rw [HV.out]; rfl, rfl⟩
    by_cases hb9 : b = 9
    · subst hb9
      clear hb10
      have HV := hid (show wtog 10 9 = true by decide)
      go_enter Tryd.func98, Tryd.ntmps98
      go_wp2_with (first | (go_at_call 83; (first | refine (wletter_v _ true _ (by decide)).mono ?_ | refine (wletter_v _ false _ (by first | decide | assumption)).mono ?_); rintro e w1 ⟨rfl, hw1⟩; obtain rfl := hw1.symm; clear hw1) | (go_at_call 54; (first | refine (wmakes_v _ true _ (by decide)).mono ?_ | refine (wmakes_v _ false _ (by first | decide | (simp [wmakes, wletter, *]))).mono ?_); rintro e w1 ⟨rfl, hw1⟩; obtain rfl := hw1.symm; clear hw1))
      go_ret
      exact ⟨by rw [HV.out]; rfl, rfl⟩
    by_cases hb16 : b = 16
    · subst hb16
      clear hb10 hb9
      have HV := hid (show wtog 10 16 = true by decide)
      go_enter Tryd.func98, Tryd.ntmps98
      go_wp2_with (first | (go_at_call 83; (first | refine (wletter_v _ true _ (by decide)).mono ?_ | refine (wletter_v _ false _ (by first | decide | assumption)).mono ?_); rintro e w1 ⟨rfl, hw1⟩; obtain rfl := hw1.symm; clear hw1) | (go_at_call 54; (first | refine (wmakes_v _ true _ (by decide)).mono ?_ | refine (wmakes_v _ false _ (by first | decide | (simp [wmakes, wletter, *]))).mono ?_); rintro e w1 ⟨rfl, hw1⟩; obtain rfl := hw1.symm; clear hw1))
      go_ret
      exact ⟨by rw [HV.out]; rfl, rfl⟩
    by_cases hb17 : b = 17
    · subst hb17
      clear hb10 hb9 hb16
      have HV := hid (show wtog 10 17 = true by decide)
      go_enter Tryd.func98, Tryd.ntmps98
      go_wp2_with (first | (go_at_call 83; (first | refine (wletter_v _ true _ (by decide)).mono ?_ | refine (wletter_v _ false _ (by first | decide | assumption)).mono ?_); rintro e w1 ⟨rfl, hw1⟩; obtain rfl := hw1.symm; clear hw1) | (go_at_call 54; (first | refine (wmakes_v _ true _ (by decide)).mono ?_ | refine (wmakes_v _ false _ (by first | decide | (simp [wmakes, wletter, *]))).mono ?_); rintro e w1 ⟨rfl, hw1⟩; obtain rfl := hw1.symm; clear hw1))
      go_ret
      exact ⟨by rw [HV.out]; rfl, rfl⟩
    by_cases hb11 : b = 11
    · subst hb11
      clear hb10 hb9 hb16 hb17
      have HV := hid (show wtog 10 11 = false by decide)
      go_enter Tryd.func98, Tryd.ntmps98
      go_wp2_with (first | (go_at_call 83; (first | refine (wletter_v _ true _ (by decide)).mono ?_ | refine (wletter_v _ false _ (by first | decide | assumption)).mono ?_); rintro e w1 ⟨rfl, hw1⟩; obtain rfl := hw1.symm; clear hw1) | (go_at_call 54; (first | refine (wmakes_v _ true _ (by decide)).mono ?_ | refine (wmakes_v _ false _ (by first | decide | (simp [wmakes, wletter, *]))).mono ?_); rintro e w1 ⟨rfl, hw1⟩; obtain rfl := hw1.symm; clear hw1))
      go_ret
      exact ⟨by rw [HV.out]; rfl, rfl⟩
    by_cases hb8 : b = 8
    · subst hb8
      clear hb10 hb9 hb16 hb17 hb11
      have HV := hid (show wtog 10 8 = false by decide)
      go_enter Tryd.func98, Tryd.ntmps98
      go_wp2_with (first | (go_at_call 83; (first | refine (wletter_v _ true _ (by decide)).mono ?_ | refine (wletter_v _ false _ (by first | decide | assumption)).mono ?_); rintro e w1 ⟨rfl, hw1⟩; obtain rfl := hw1.symm; clear hw1) | (go_at_call 54; (first | refine (wmakes_v _ true _ (by decide)).mono ?_ | refine (wmakes_v _ false _ (by first | decide | (simp [wmakes, wletter, *]))).mono ?_); rintro e w1 ⟨rfl, hw1⟩; obtain rfl := hw1.symm; clear hw1))
      go_ret
      exact ⟨by rw [HV.out]; rfl, rfl⟩
    have bb10 : (b == 10) = false := beq_eq_false_iff_ne.2 hb10
    have nb10 : (b != 10) = true := bne_iff_ne.2 hb10
    have bb9 : (b == 9) = false := beq_eq_false_iff_ne.2 hb9
    have nb9 : (b != 9) = true := bne_iff_ne.2 hb9
    have bb16 : (b == 16) = false := beq_eq_false_iff_ne.2 hb16
    have nb16 : (b != 16) = true := bne_iff_ne.2 hb16
    have bb17 : (b == 17) = false := beq_eq_false_iff_ne.2 hb17
    have nb17 : (b != 17) = true := bne_iff_ne.2 hb17
    have bb11 : (b == 11) = false := beq_eq_false_iff_ne.2 hb11
    have nb11 : (b != 11) = true := bne_iff_ne.2 hb11
    have bb8 : (b == 8) = false := beq_eq_false_iff_ne.2 hb8
    have nb8 : (b != 8) = true := bne_iff_ne.2 hb8
    have Lb : wletter b = false := by simp [wletter, bb9, bb10]
    clear hb10 hb9 hb16 hb17 hb11 hb8
    have HV := hid (show wtog 10 b = false by ((try unfold wtog); (try unfold wletter); simp [*]))
    go_enter Tryd.func98, Tryd.ntmps98
    go_wp2_with (first | (go_at_call 83; (first | refine (wletter_v _ true _ (by decide)).mono ?_ | refine (wletter_v _ false _ (by first | decide | assumption)).mono ?_); rintro e w1 ⟨rfl, hw1⟩; obtain rfl := hw1.symm; clear hw1) | (go_at_call 54; (first | refine (wmakes_v _ true _ (by decide)).mono ?_ | refine (wmakes_v _ false _ (by first | decide | (simp [wmakes, wletter, *]))).mono ?_); rintro e w1 ⟨rfl, hw1⟩; obtain rfl := hw1.symm; clear hw1))
    go_ret
    exact ⟨by rw [HV.out]; rfl, rfl⟩
  by_cases ha16 : a = 16
  · subst ha16
    clear ha10
    by_cases hb10 : b = 10
    · subst hb10
      have HV := hid (show wtog 16 10 = true by decide)
      go_enter Tryd.func98, Tryd.ntmps98
      go_wp2_with (first | (go_at_call 83; (first | refine (wletter_v _ true _ (by decide)).mono ?_ | refine (wletter_v _ false _ (by first | decide | assumption)).mono ?_); rintro e w1 ⟨rfl, hw1⟩; obtain rfl := hw1.symm; clear hw1) | (go_at_call 54; (first | refine (wmakes_v _ true _ (by decide)).mono ?_ | refine (wmakes_v _ false _ (by first | decide | (simp [wmakes, wletter, *]))).mono ?_); rintro e w1 ⟨rfl, hw1⟩; obtain rfl := hw1.symm; clear hw1))
      go_ret
      exact ⟨by rw [HV.out]; rfl, rfl⟩
    by_cases hb9 : b = 9
    · subst hb9
      clear hb10
      have HV := hid (show wtog 16 9 = true by decide)
      go_enter Tryd.func98, Tryd.ntmps98
      go_wp2_with (first | (go_at_call 83; (first | refine (wletter_v _ true _ (by decide)).mono ?_ | refine (wletter_v _ false _ (by first | decide | assumption)).mono ?_); rintro e w1 ⟨rfl, hw1⟩; obtain rfl := hw1.symm; clear hw1) | (go_at_call 54; (first | refine (wmakes_v _ true _ (by decide)).mono ?_ | refine (wmakes_v _ false _ (by first | decide | (simp [wmakes, wletter, *]))).mono ?_); rintro e w1 ⟨rfl, hw1⟩; obtain rfl := hw1.symm; clear hw1))
      go_ret
      exact ⟨by rw [HV.out]; rfl, rfl⟩
    by_cases hb16 : b = 16
    · subst hb16
      clear hb10 hb9
      have HV := hid (show wtog 16 16 = true by decide)
      go_enter Tryd.func98, Tryd.ntmps98
      go_wp2_with (first | (go_at_call 83; (first | refine (wletter_v _ true _ (by decide)).mono ?_ | refine (wletter_v _ false _ (by first | decide | assumption)).mono ?_); rintro e w1 ⟨rfl, hw1⟩; obtain rfl := hw1.symm; clear hw1) | (go_at_call 54; (first | refine (wmakes_v _ true _ (by decide)).mono ?_ | refine (wmakes_v _ false _ (by first | decide | (simp [wmakes, wletter, *]))).mono ?_); rintro e w1 ⟨rfl, hw1⟩; obtain rfl := hw1.symm; clear hw1))
      go_ret
      exact ⟨by rw [HV.out]; rfl, rfl⟩
    by_cases hb17 : b = 17
    · subst hb17
      clear hb10 hb9 hb16
      have HV := hid (show wtog 16 17 = true by decide)
      go_enter Tryd.func98, Tryd.ntmps98
      go_wp2_with (first | (go_at_call 83; (first | refine (wletter_v _ true _ (by decide)).mono ?_ | refine (wletter_v _ false _ (by first | decide | assumption)).mono ?_); rintro e w1 ⟨rfl, hw1⟩; obtain rfl := hw1.symm; clear hw1) | (go_at_call 54; (first | refine (wmakes_v _ true _ (by decide)).mono ?_ | refine (wmakes_v _ false _ (by first | decide | (simp [wmakes, wletter, *]))).mono ?_); rintro e w1 ⟨rfl, hw1⟩; obtain rfl := hw1.symm; clear hw1))
      go_ret
      exact ⟨by rw [HV.out]; rfl, rfl⟩
    by_cases hb11 : b = 11
    · subst hb11
      clear hb10 hb9 hb16 hb17
      have HV := hid (show wtog 16 11 = false by decide)
      go_enter Tryd.func98, Tryd.ntmps98
      go_wp2_with (first | (go_at_call 83; (first | refine (wletter_v _ true _ (by decide)).mono ?_ | refine (wletter_v _ false _ (by first | decide | assumption)).mono ?_); rintro e w1 ⟨rfl, hw1⟩; obtain rfl := hw1.symm; clear hw1) | (go_at_call 54; (first | refine (wmakes_v _ true _ (by decide)).mono ?_ | refine (wmakes_v _ false _ (by first | decide | (simp [wmakes, wletter, *]))).mono ?_); rintro e w1 ⟨rfl, hw1⟩; obtain rfl := hw1.symm; clear hw1))
      go_ret
      exact ⟨by rw [HV.out]; rfl, rfl⟩
    by_cases hb8 : b = 8
    · subst hb8
      clear hb10 hb9 hb16 hb17 hb11
      have HV := hid (show wtog 16 8 = false by decide)
      go_enter Tryd.func98, Tryd.ntmps98
      go_wp2_with (first | (go_at_call 83; (first | refine (wletter_v _ true _ (by decide)).mono ?_ | refine (wletter_v _ false _ (by first | decide | assumption)).mono ?_); rintro e w1 ⟨rfl, hw1⟩; obtain rfl := hw1.symm; clear hw1) | (go_at_call 54; (first | refine (wmakes_v _ true _ (by decide)).mono ?_ | refine (wmakes_v _ false _ (by first | decide | (simp [wmakes, wletter, *]))).mono ?_); rintro e w1 ⟨rfl, hw1⟩; obtain rfl := hw1.symm; clear hw1))
      go_ret
      exact ⟨by rw [HV.out]; rfl, rfl⟩
    have bb10 : (b == 10) = false := beq_eq_false_iff_ne.2 hb10
    have nb10 : (b != 10) = true := bne_iff_ne.2 hb10
    have bb9 : (b == 9) = false := beq_eq_false_iff_ne.2 hb9
    have nb9 : (b != 9) = true := bne_iff_ne.2 hb9
    have bb16 : (b == 16) = false := beq_eq_false_iff_ne.2 hb16
    have nb16 : (b != 16) = true := bne_iff_ne.2 hb16
    have bb17 : (b == 17) = false := beq_eq_false_iff_ne.2 hb17
    have nb17 : (b != 17) = true := bne_iff_ne.2 hb17
    have bb11 : (b == 11) = false := beq_eq_false_iff_ne.2 hb11
    have nb11 : (b != 11) = true := bne_iff_ne.2 hb11
    have bb8 : (b == 8) = false := beq_eq_false_iff_ne.2 hb8
    have nb8 : (b != 8) = true := bne_iff_ne.2 hb8
    have Lb : wletter b = false := by simp [wletter, bb9, bb10]
    clear hb10 hb9 hb16 hb17 hb11 hb8
    have HV := hid (show wtog 16 b = false by ((try unfold wtog); (try unfold wletter); simp [*]))
    go_enter Tryd.func98, Tryd.ntmps98
    go_wp2_with (first | (go_at_call 83; (first | refine (wletter_v _ true _ (by decide)).mono ?_ | refine (wletter_v _ false _ (by first | decide | assumption)).mono ?_); rintro e w1 ⟨rfl, hw1⟩; obtain rfl := hw1.symm; clear hw1) | (go_at_call 54; (first | refine (wmakes_v _ true _ (by decide)).mono ?_ | refine (wmakes_v _ false _ (by first | decide | (simp [wmakes, wletter, *]))).mono ?_); rintro e w1 ⟨rfl, hw1⟩; obtain rfl := hw1.symm; clear hw1))
    go_ret
    exact ⟨by rw [HV.out]; rfl, rfl⟩
  by_cases ha9 : a = 9
  · subst ha9
    clear ha10 ha16
    by_cases hb10 : b = 10
    · subst hb10
      have HV := hid (show wtog 9 10 = true by decide)
      go_enter Tryd.func98, Tryd.ntmps98
      go_wp2_with (first | (go_at_call 83; (first | refine (wletter_v _ true _ (by decide)).mono ?_ | refine (wletter_v _ false _ (by first | decide | assumption)).mono ?_); rintro e w1 ⟨rfl, hw1⟩; obtain rfl := hw1.symm; clear hw1) | (go_at_call 54; (first | refine (wmakes_v _ true _ (by decide)).mono ?_ | refine (wmakes_v _ false _ (by first | decide | (simp [wmakes, wletter, *]))).mono ?_); rintro e w1 ⟨rfl, hw1⟩; obtain rfl := hw1.symm; clear hw1))
      go_ret
      exact ⟨by rw [HV.out]; rfl, rfl⟩
    by_cases hb9 : b = 9
    · subst hb9
      clear hb10
      have HV := hid (show wtog 9 9 = true by decide)
      go_enter Tryd.func98, Tryd.ntmps98
      go_wp2_with (first | (go_at_call 83; (first | refine (wletter_v _ true _ (by decide)).mono ?_ | refine (wletter_v _ false _ (by first | decide | assumption)).mono ?_); rintro e w1 ⟨rfl, hw1⟩; obtain rfl := hw1.symm; clear hw1) | (go_at_call 54; (first | refine (wmakes_v _ true _ (by decide)).mono ?_ | refine (wmakes_v _ false _ (by first | decide | (simp [wmakes, wletter, *]))).mono ?_); rintro e w1 ⟨rfl, hw1⟩; obtain rfl := hw1.symm; clear hw1))
      go_ret
      exact ⟨by rw [HV.out]; rfl, rfl⟩
    by_cases hb16 : b = 16
    · subst hb16
      clear hb10 hb9
      have HV := hid (show wtog 9 16 = true by decide)
      go_enter Tryd.func98, Tryd.ntmps98
      go_wp2_with (first | (go_at_call 83; (first | refine (wletter_v _ true _ (by decide)).mono ?_ | refine (wletter_v _ false _ (by first | decide | assumption)).mono ?_); rintro e w1 ⟨rfl, hw1⟩; obtain rfl := hw1.symm; clear hw1) | (go_at_call 54; (first | refine (wmakes_v _ true _ (by decide)).mono ?_ | refine (wmakes_v _ false _ (by first | decide | (simp [wmakes, wletter, *]))).mono ?_); rintro e w1 ⟨rfl, hw1⟩; obtain rfl := hw1.symm; clear hw1))
      go_ret
      exact ⟨by rw [HV.out]; rfl, rfl⟩
    by_cases hb17 : b = 17
    · subst hb17
      clear hb10 hb9 hb16
      have HV := hid (show wtog 9 17 = true by decide)
      go_enter Tryd.func98, Tryd.ntmps98
      go_wp2_with (first | (go_at_call 83; (first | refine (wletter_v _ true _ (by decide)).mono ?_ | refine (wletter_v _ false _ (by first | decide | assumption)).mono ?_); rintro e w1 ⟨rfl, hw1⟩; obtain rfl := hw1.symm; clear hw1) | (go_at_call 54; (first | refine (wmakes_v _ true _ (by decide)).mono ?_ | refine (wmakes_v _ false _ (by first | decide | (simp [wmakes, wletter, *]))).mono ?_); rintro e w1 ⟨rfl, hw1⟩; obtain rfl := hw1.symm; clear hw1))
      go_ret
      exact ⟨by rw [HV.out]; rfl, rfl⟩
    by_cases hb11 : b = 11
    · subst hb11
      clear hb10 hb9 hb16 hb17
      have HV := hid (show wtog 9 11 = true by decide)
      go_enter Tryd.func98, Tryd.ntmps98
      go_wp2_with (first | (go_at_call 83; (first | refine (wletter_v _ true _ (by decide)).mono ?_ | refine (wletter_v _ false _ (by first | decide | assumption)).mono ?_); rintro e w1 ⟨rfl, hw1⟩; obtain rfl := hw1.symm; clear hw1) | (go_at_call 54; (first | refine (wmakes_v _ true _ (by decide)).mono ?_ | refine (wmakes_v _ false _ (by first | decide | (simp [wmakes, wletter, *]))).mono ?_); rintro e w1 ⟨rfl, hw1⟩; obtain rfl := hw1.symm; clear hw1))
      go_ret
      exact ⟨by rw [HV.out]; rfl, rfl⟩
    by_cases hb8 : b = 8
    · subst hb8
      clear hb10 hb9 hb16 hb17 hb11
      have HV := hid (show wtog 9 8 = false by decide)
      go_enter Tryd.func98, Tryd.ntmps98
      go_wp2_with (first | (go_at_call 83; (first | refine (wletter_v _ true _ (by decide)).mono ?_ | refine (wletter_v _ false _ (by first | decide | assumption)).mono ?_); rintro e w1 ⟨rfl, hw1⟩; obtain rfl := hw1.symm; clear hw1) | (go_at_call 54; (first | refine (wmakes_v _ true _ (by decide)).mono ?_ | refine (wmakes_v _ false _ (by first | decide | (simp [wmakes, wletter, *]))).mono ?_); rintro e w1 ⟨rfl, hw1⟩; obtain rfl := hw1.symm; clear hw1))
      go_ret
      exact ⟨by rw [HV.out]; rfl, rfl⟩
    have bb10 : (b == 10) = false := beq_eq_false_iff_ne.2 hb10
    have nb10 : (b != 10) = true := bne_iff_ne.2 hb10
    have bb9 : (b == 9) = false := beq_eq_false_iff_ne.2 hb9
    have nb9 : (b != 9) = true := bne_iff_ne.2 hb9
    have bb16 : (b == 16) = false := beq_eq_false_iff_ne.2 hb16
    have nb16 : (b != 16) = true := bne_iff_ne.2 hb16
    have bb17 : (b == 17) = false := beq_eq_false_iff_ne.2 hb17
    have nb17 : (b != 17) = true := bne_iff_ne.2 hb17
    have bb11 : (b == 11) = false := beq_eq_false_iff_ne.2 hb11
    have nb11 : (b != 11) = true := bne_iff_ne.2 hb11
    have bb8 : (b == 8) = false := beq_eq_false_iff_ne.2 hb8
    have nb8 : (b != 8) = true := bne_iff_ne.2 hb8
    have Lb : wletter b = false := by simp [wletter, bb9, bb10]
    clear hb10 hb9 hb16 hb17 hb11 hb8
    have HV := hid (show wtog 9 b = false by ((try unfold wtog); (try unfold wletter); simp [*]))
    go_enter Tryd.func98, Tryd.ntmps98
    go_wp2_with (first | (go_at_call 83; (first | refine (wletter_v _ true _ (by decide)).mono ?_ | refine (wletter_v _ false _ (by first | decide | assumption)).mono ?_); rintro e w1 ⟨rfl, hw1⟩; obtain rfl := hw1.symm; clear hw1) | (go_at_call 54; (first | refine (wmakes_v _ true _ (by decide)).mono ?_ | refine (wmakes_v _ false _ (by first | decide | (simp [wmakes, wletter, *]))).mono ?_); rintro e w1 ⟨rfl, hw1⟩; obtain rfl := hw1.symm; clear hw1))
    go_ret
    exact ⟨by rw [HV.out]; rfl, rfl⟩
  by_cases ha8 : a = 8
  · subst ha8
    clear ha10 ha16 ha9
    by_cases hb10 : b = 10
    · subst hb10
      have HV := hid (show wtog 8 10 = false by decide)
      go_enter Tryd.func98, Tryd.ntmps98
      go_wp2_with (first | (go_at_call 83; (first | refine (wletter_v _ true _ (by decide)).mono ?_ | refine (wletter_v _ false _ (by first | decide | assumption)).mono ?_); rintro e w1 ⟨rfl, hw1⟩; obtain rfl := hw1.symm; clear hw1) | (go_at_call 54; (first | refine (wmakes_v _ true _ (by decide)).mono ?_ | refine (wmakes_v _ false _ (by first | decide | (simp [wmakes, wletter, *]))).mono ?_); rintro e w1 ⟨rfl, hw1⟩; obtain rfl := hw1.symm; clear hw1))
      go_ret
      exact ⟨by rw [HV.out]; rfl, rfl⟩
    by_cases hb9 : b = 9
    · subst hb9
      clear hb10
      have HV := hid (show wtog 8 9 = false by decide)
      go_enter Tryd.func98, Tryd.ntmps98
      go_wp2_with (first | (go_at_call 83; (first | refine (wletter_v _ true _ (by decide)).mono ?_ | refine (wletter_v _ false _ (by first | decide | assumption)).mono ?_); rintro e w1 ⟨rfl, hw1⟩; obtain rfl := hw1.symm; clear hw1) | (go_at_call 54; (first | refine (wmakes_v _ true _ (by decide)).mono ?_ | refine (wmakes_v _ false _ (by first | decide | (simp [wmakes, wletter, *]))).mono ?_); rintro e w1 ⟨rfl, hw1⟩; obtain rfl := hw1.symm; clear hw1))
      go_ret
      exact ⟨by rw [HV.out]; rfl, rfl⟩
    by_cases hb16 : b = 16
    · subst hb16
      clear hb10 hb9
      have HV := hid (show wtog 8 16 = false by decide)
      go_enter Tryd.func98, Tryd.ntmps98
      go_wp2_with (first | (go_at_call 83; (first | refine (wletter_v _ true _ (by decide)).mono ?_ | refine (wletter_v _ false _ (by first | decide | assumption)).mono ?_); rintro e w1 ⟨rfl, hw1⟩; obtain rfl := hw1.symm; clear hw1) | (go_at_call 54; (first | refine (wmakes_v _ true _ (by decide)).mono ?_ | refine (wmakes_v _ false _ (by first | decide | (simp [wmakes, wletter, *]))).mono ?_); rintro e w1 ⟨rfl, hw1⟩; obtain rfl := hw1.symm; clear hw1))
      go_ret
      exact ⟨by rw [HV.out]; rfl, rfl⟩
    by_cases hb17 : b = 17
    · subst hb17
      clear hb10 hb9 hb16
      have HV := hid (show wtog 8 17 = true by decide)
      go_enter Tryd.func98, Tryd.ntmps98
      go_wp2_with (first | (go_at_call 83; (first | refine (wletter_v _ true _ (by decide)).mono ?_ | refine (wletter_v _ false _ (by first | decide | assumption)).mono ?_); rintro e w1 ⟨rfl, hw1⟩; obtain rfl := hw1.symm; clear hw1) | (go_at_call 54; (first | refine (wmakes_v _ true _ (by decide)).mono ?_ | refine (wmakes_v _ false _ (by first | decide | (simp [wmakes, wletter, *]))).mono ?_); rintro e w1 ⟨rfl, hw1⟩; obtain rfl := hw1.symm; clear hw1))
      go_ret
      exact ⟨by rw [HV.out]; rfl, rfl⟩
    by_cases hb11 : b = 11
    · subst hb11
      clear hb10 hb9 hb16 hb17
      have HV := hid (show wtog 8 11 = false by decide)
      go_enter Tryd.func98, Tryd.ntmps98
      go_wp2_with (first | (go_at_call 83; (first | refine (wletter_v _ true _ (by decide)).mono ?_ | refine (wletter_v _ false _ (by first | decide | assumption)).mono ?_); rintro e w1 ⟨rfl, hw1⟩; obtain rfl := hw1.symm; clear hw1) | (go_at_call 54; (first | refine (wmakes_v _ true _ (by decide)).mono ?_ | refine (wmakes_v _ false _ (by first | decide | (simp [wmakes, wletter, *]))).mono ?_); rintro e w1 ⟨rfl, hw1⟩; obtain rfl := hw1.symm; clear hw1))
      go_ret
      exact ⟨by rw [HV.out]; rfl, rfl⟩
    by_cases hb8 : b = 8
    · subst hb8
      clear hb10 hb9 hb16 hb17 hb11
      have HV := hid (show wtog 8 8 = true by decide)
      go_enter Tryd.func98, Tryd.ntmps98
      go_wp2_with (first | (go_at_call 83; (first | refine (wletter_v _ true _ (by decide)).mono ?_ | refine (wletter_v _ false _ (by first | decide | assumption)).mono ?_); rintro e w1 ⟨rfl, hw1⟩; obtain rfl := hw1.symm; clear hw1) | (go_at_call 54; (first | refine (wmakes_v _ true _ (by decide)).mono ?_ | refine (wmakes_v _ false _ (by first | decide | (simp [wmakes, wletter, *]))).mono ?_); rintro e w1 ⟨rfl, hw1⟩; obtain rfl := hw1.symm; clear hw1))
      go_ret
      exact ⟨by rw [HV.out]; rfl, rfl⟩
    have bb10 : (b == 10) = false := beq_eq_false_iff_ne.2 hb10
    have nb10 : (b != 10) = true := bne_iff_ne.2 hb10
    have bb9 : (b == 9) = false := beq_eq_false_iff_ne.2 hb9
    have nb9 : (b != 9) = true := bne_iff_ne.2 hb9
    have bb16 : (b == 16) = false := beq_eq_false_iff_ne.2 hb16
    have nb16 : (b != 16) = true := bne_iff_ne.2 hb16
    have bb17 : (b == 17) = false := beq_eq_false_iff_ne.2 hb17
    have nb17 : (b != 17) = true := bne_iff_ne.2 hb17
    have bb11 : (b == 11) = false := beq_eq_false_iff_ne.2 hb11
    have nb11 : (b != 11) = true := bne_iff_ne.2 hb11
    have bb8 : (b == 8) = false := beq_eq_false_iff_ne.2 hb8
    have nb8 : (b != 8) = true := bne_iff_ne.2 hb8
    have Lb : wletter b = false := by simp [wletter, bb9, bb10]
    clear hb10 hb9 hb16 hb17 hb11 hb8
    have HV := hid (show wtog 8 b = false by ((try unfold wtog); (try unfold wletter); simp [*]))
    go_enter Tryd.func98, Tryd.ntmps98
    go_wp2_with (first | (go_at_call 83; (first | refine (wletter_v _ true _ (by decide)).mono ?_ | refine (wletter_v _ false _ (by first | decide | assumption)).mono ?_); rintro e w1 ⟨rfl, hw1⟩; obtain rfl := hw1.symm; clear hw1) | (go_at_call 54; (first | refine (wmakes_v _ true _ (by decide)).mono ?_ | refine (wmakes_v _ false _ (by first | decide | (simp [wmakes, wletter, *]))).mono ?_); rintro e w1 ⟨rfl, hw1⟩; obtain rfl := hw1.symm; clear hw1))
    go_ret
    exact ⟨by rw [HV.out]; rfl, rfl⟩
  by_cases ha17 : a = 17
  · subst ha17
    clear ha10 ha16 ha9 ha8
    by_cases hb10 : b = 10
    · subst hb10
      have HV := hid (show wtog 17 10 = true by decide)
      go_enter Tryd.func98, Tryd.ntmps98
      go_wp2_with (first | (go_at_call 83; (first | refine (wletter_v _ true _ (by decide)).mono ?_ | refine (wletter_v _ false _ (by first | decide | assumption)).mono ?_); rintro e w1 ⟨rfl, hw1⟩; obtain rfl := hw1.symm; clear hw1) | (go_at_call 54; (first | refine (wmakes_v _ true _ (by decide)).mono ?_ | refine (wmakes_v _ false _ (by first | decide | (simp [wmakes, wletter, *]))).mono ?_); rintro e w1 ⟨rfl, hw1⟩; obtain rfl := hw1.symm; clear hw1))
      go_ret
      exact ⟨by rw [HV.out]; rfl, rfl⟩
    by_cases hb9 : b = 9
    · subst hb9
      clear hb10
      have HV := hid (show wtog 17 9 = true by decide)
      go_enter Tryd.func98, Tryd.ntmps98
      go_wp2_with (first | (go_at_call 83; (first | refine (wletter_v _ true _ (by decide)).mono ?_ | refine (wletter_v _ false _ (by first | decide | assumption)).mono ?_); rintro e w1 ⟨rfl, hw1⟩; obtain rfl := hw1.symm; clear hw1) | (go_at_call 54; (first | refine (wmakes_v _ true _ (by decide)).mono ?_ | refine (wmakes_v _ false _ (by first | decide | (simp [wmakes, wletter, *]))).mono ?_); rintro e w1 ⟨rfl, hw1⟩; obtain rfl := hw1.symm; clear hw1))
      go_ret
      exact ⟨by rw [HV.out]; rfl, rfl⟩
    by_cases hb16 : b = 16
    · subst hb16
      clear hb10 hb9
      have HV := hid (show wtog 17 16 = true by decide)
      go_enter Tryd.func98, Tryd.ntmps98
      go_wp2_with (first | (go_at_call 83; (first | refine (wletter_v _ true _ (by decide)).mono ?_ | refine (wletter_v _ false _ (by first | decide | assumption)).mono ?_); rintro e w1 ⟨rfl, hw1⟩; obtain rfl := hw1.symm; clear hw1) | (go_at_call 54; (first | refine (wmakes_v _ true _ (by decide)).mono ?_ | refine (wmakes_v _ false _ (by first | decide | (simp [wmakes, wletter, *]))).mono ?_); rintro e w1 ⟨rfl, hw1⟩; obtain rfl := hw1.symm; clear hw1))
      go_ret
      exact ⟨by rw [HV.out]; rfl, rfl⟩
    by_cases hb17 : b = 17
    · subst hb17
      clear hb10 hb9 hb16
      have HV := hid (show wtog 17 17 = true by decide)
      go_enter Tryd.func98, Tryd.ntmps98
      go_wp2_with (first | (go_at_call 83; (first | refine (wletter_v _ true _ (by decide)).mono ?_ | refine (wletter_v _ false _ (by first | decide | assumption)).mono ?_); rintro e w1 ⟨rfl, hw1⟩; obtain rfl := hw1.symm; clear hw1) | (go_at_call 54; (first | refine (wmakes_v _ true _ (by decide)).mono ?_ | refine (wmakes_v _ false _ (by first | decide | (simp [wmakes, wletter, *]))).mono ?_); rintro e w1 ⟨rfl, hw1⟩; obtain rfl := hw1.symm; clear hw1))
      go_ret
      exact ⟨by rw [HV.out]; rfl, rfl⟩
    by_cases hb11 : b = 11
    · subst hb11
      clear hb10 hb9 hb16 hb17
      have HV := hid (show wtog 17 11 = false by decide)
      go_enter Tryd.func98, Tryd.ntmps98
      go_wp2_with (first | (go_at_call 83; (first | refine (wletter_v _ true _ (by decide)).mono ?_ | refine (wletter_v _ false _ (by first | decide | assumption)).mono ?_); rintro e w1 ⟨rfl, hw1⟩; obtain rfl := hw1.symm; clear hw1) | (go_at_call 54; (first | refine (wmakes_v _ true _ (by decide)).mono ?_ | refine (wmakes_v _ false _ (by first | decide | (simp [wmakes, wletter, *]))).mono ?_); rintro e w1 ⟨rfl, hw1⟩; obtain rfl := hw1.symm; clear hw1))
      go_ret
      exact ⟨by rw [HV.out]; rfl, rfl⟩
    by_cases hb8 : b = 8
    · subst hb8
      clear hb10 hb9 hb16 hb17 hb11
      have HV := hid (show wtog 17 8 = true by decide)
      go_enter Tryd.func98, Tryd.ntmps98
      go_wp2_with (first | (go_at_call 83; (first | refine (wletter_v _ true _ (by decide)).mono ?_ | refine (wletter_v _ false _ (by first | decide | assumption)).mono ?_); rintro e w1 ⟨rfl, hw1⟩; obtain rfl := hw1.symm; clear hw1) | (go_at_call 54; (first | refine (wmakes_v _ true _ (by decide)).mono ?_ | refine (wmakes_v _ false _ (by first | decide | (simp [wmakes, wletter, *]))).mono ?_); rintro e w1 ⟨rfl, hw1⟩; obtain rfl := hw1.symm; clear hw1))
      go_ret
      exact ⟨by rw [HV.out]; rfl, rfl⟩
    have bb10 : (b == 10) = false := beq_eq_false_iff_ne.2 hb10
    have nb10 : (b != 10) = true := bne_iff_ne.2 hb10
    have bb9 : (b == 9) = false := beq_eq_false_iff_ne.2 hb9
    have nb9 : (b != 9) = true := bne_iff_ne.2 hb9
    have bb16 : (b == 16) = false := beq_eq_false_iff_ne.2 hb16
    have nb16 : (b != 16) = true := bne_iff_ne.2 hb16
    have bb17 : (b == 17) = false := beq_eq_false_iff_ne.2 hb17
    have nb17 : (b != 17) = true := bne_iff_ne.2 hb17
    have bb11 : (b == 11) = false := beq_eq_false_iff_ne.2 hb11
    have nb11 : (b != 11) = true := bne_iff_ne.2 hb11
    have bb8 : (b == 8) = false := beq_eq_false_iff_ne.2 hb8
    have nb8 : (b != 8) = true := bne_iff_ne.2 hb8
    have Lb : wletter b = false := by simp [wletter, bb9, bb10]
    clear hb10 hb9 hb16 hb17 hb11 hb8
    have HV := hid (show wtog 17 b = false by ((try unfold wtog); (try unfold wletter); simp [*]))
    go_enter Tryd.func98, Tryd.ntmps98
    go_wp2_with (first | (go_at_call 83; (first | refine (wletter_v _ true _ (by decide)).mono ?_ | refine (wletter_v _ false _ (by first | decide | assumption)).mono ?_); rintro e w1 ⟨rfl, hw1⟩; obtain rfl := hw1.symm; clear hw1) | (go_at_call 54; (first | refine (wmakes_v _ true _ (by decide)).mono ?_ | refine (wmakes_v _ false _ (by first | decide | (simp [wmakes, wletter, *]))).mono ?_); rintro e w1 ⟨rfl, hw1⟩; obtain rfl := hw1.symm; clear hw1))
    go_ret
    exact ⟨by rw [HV.out]; rfl, rfl⟩
  have ba10 : (a == 10) = false := beq_eq_false_iff_ne.2 ha10
  have na10 : (a != 10) = true := bne_iff_ne.2 ha10
  have ba16 : (a == 16) = false := beq_eq_false_iff_ne.2 ha16
  have na16 : (a != 16) = true := bne_iff_ne.2 ha16
  have ba9 : (a == 9) = false := beq_eq_false_iff_ne.2 ha9
  have na9 : (a != 9) = true := bne_iff_ne.2 ha9
  have ba8 : (a == 8) = false := beq_eq_false_iff_ne.2 ha8
  have na8 : (a != 8) = true := bne_iff_ne.2 ha8
  have ba17 : (a == 17) = false := beq_eq_false_iff_ne.2 ha17
  have na17 : (a != 17) = true := bne_iff_ne.2 ha17
  have La : wletter a = false := by simp [wletter, ba9, ba10]
  clear ha10 ha16 ha9 ha8 ha17
  by_cases hb10 : b = 10
  · subst hb10
    have HV := hid (show wtog a 10 = false by ((try unfold wtog); (try unfold wletter); simp [*]))
    go_enter Tryd.func98, Tryd.ntmps98
    go_wp2_with (first | (go_at_call 83; (first | refine (wletter_v _ true _ (by decide)).mono ?_ | refine (wletter_v _ false _ (by first | decide | assumption)).mono ?_); rintro e w1 ⟨rfl, hw1⟩; obtain rfl := hw1.symm; clear hw1) | (go_at_call 54; (first | refine (wmakes_v _ true _ (by decide)).mono ?_ | refine (wmakes_v _ false _ (by first | decide | (simp [wmakes, wletter, *]))).mono ?_); rintro e w1 ⟨rfl, hw1⟩; obtain rfl := hw1.symm; clear hw1))
    go_ret
    exact ⟨by rw [HV.out]; rfl, rfl⟩
  by_cases hb9 : b = 9
  · subst hb9
    clear hb10
    have HV := hid (show wtog a 9 = false by ((try unfold wtog); (try unfold wletter); simp [*]))
    go_enter Tryd.func98, Tryd.ntmps98
    go_wp2_with (first | (go_at_call 83; (first | refine (wletter_v _ true _ (by decide)).mono ?_ | refine (wletter_v _ false _ (by first | decide | assumption)).mono ?_); rintro e w1 ⟨rfl, hw1⟩; obtain rfl := hw1.symm; clear hw1) | (go_at_call 54; (first | refine (wmakes_v _ true _ (by decide)).mono ?_ | refine (wmakes_v _ false _ (by first | decide | (simp [wmakes, wletter, *]))).mono ?_); rintro e w1 ⟨rfl, hw1⟩; obtain rfl := hw1.symm; clear hw1))
    go_ret
    exact ⟨by rw [HV.out]; rfl, rfl⟩
  by_cases hb16 : b = 16
  · subst hb16
    clear hb10 hb9
    have HV := hid (show wtog a 16 = false by ((try unfold wtog); (try unfold wletter); simp [*]))
    go_enter Tryd.func98, Tryd.ntmps98
    go_wp2_with (first | (go_at_call 83; (first | refine (wletter_v _ true _ (by decide)).mono ?_ | refine (wletter_v _ false _ (by first | decide | assumption)).mono ?_); rintro e w1 ⟨rfl, hw1⟩; obtain rfl := hw1.symm; clear hw1) | (go_at_call 54; (first | refine (wmakes_v _ true _ (by decide)).mono ?_ | refine (wmakes_v _ false _ (by first | decide | (simp [wmakes, wletter, *]))).mono ?_); rintro e w1 ⟨rfl, hw1⟩; obtain rfl := hw1.symm; clear hw1))
    go_ret
    exact ⟨by rw [HV.out]; rfl, rfl⟩
  by_cases hb17 : b = 17
  · subst hb17
    clear hb10 hb9 hb16
    have HV := hid (show wtog a 17 = false by ((try unfold wtog); (try unfold wletter); simp [*]))
    go_enter Tryd.func98, Tryd.ntmps98
    go_wp2_with (first | (go_at_call 83; (first | refine (wletter_v _ true _ (by decide)).mono ?_ | refine (wletter_v _ false _ (by first | decide | assumption)).mono ?_); rintro e w1 ⟨rfl, hw1⟩; obtain rfl := hw1.symm; clear hw1) | (go_at_call 54; (first | refine (wmakes_v _ true _ (by decide)).mono ?_ | refine (wmakes_v _ false _ (by first | decide | (simp [wmakes, wletter, *]))).mono ?_); rintro e w1 ⟨rfl, hw1⟩; obtain rfl := hw1.symm; clear hw1))
    go_ret
    exact ⟨by rw [HV.out]; rfl, rfl⟩
  by_cases hb11 : b = 11
  · subst hb11
    clear hb10 hb9 hb16 hb17
    have HV := hid (show wtog a 11 = false by ((try unfold wtog); (try unfold wletter); simp [*]))
    go_enter Tryd.func98, Tryd.ntmps98
    go_wp2_with (first | (go_at_call 83; (first | refine (wletter_v _ true _ (by decide)).mono ?_ | refine (wletter_v _ false _ (by first | decide | assumption)).mono ?_); rintro e w1 ⟨rfl, hw1⟩; obtain rfl := hw1.symm; clear hw1) | (go_at_call 54; (first | refine (wmakes_v _ true _ (by decide)).mono ?_ | refine (wmakes_v _ false _ (by first | decide | (simp [wmakes, wletter, *]))).mono ?_); rintro e w1 ⟨rfl, hw1⟩; obtain rfl := hw1.symm; clear hw1))
    go_ret
    exact ⟨by rw [HV.out]; rfl, rfl⟩
  by_cases hb8 : b = 8
  · subst hb8
    clear hb10 hb9 hb16 hb17 hb11
    have HV := hid (show wtog a 8 = false by ((try unfold wtog); (try unfold wletter); simp [*]))
    go_enter Tryd.func98, Tryd.ntmps98
    go_wp2_with (first | (go_at_call 83; (first | refine (wletter_v _ true _ (by decide)).mono ?_ | refine (wletter_v _ false _ (by first | decide | assumption)).mono ?_); rintro e w1 ⟨rfl, hw1⟩; obtain rfl := hw1.symm; clear hw1) | (go_at_call 54; (first | refine (wmakes_v _ true _ (by decide)).mono ?_ | refine (wmakes_v _ false _ (by first | decide | (simp [wmakes, wletter, *]))).mono ?_); rintro e w1 ⟨rfl, hw1⟩; obtain rfl := hw1.symm; clear hw1))
    go_ret
    exact ⟨by rw [HV.out]; rfl, rfl⟩
  have bb10 : (b == 10) = false := beq_eq_false_iff_ne.2 hb10
  have nb10 : (b != 10) = true := bne_iff_ne.2 hb10
  have bb9 : (b == 9) = false := beq_eq_false_iff_ne.2 hb9
  have nb9 : (b != 9) = true := bne_iff_ne.2 hb9
  have bb16 : (b == 16) = false := beq_eq_false_iff_ne.2 hb16
  have nb16 : (b != 16) = true := bne_iff_ne.2 hb16
  have bb17 : (b == 17) = false := beq_eq_false_iff_ne.2 hb17
  have nb17 : (b != 17) = true := bne_iff_ne.2 hb17
  have bb11 : (b == 11) = false := beq_eq_false_iff_ne.2 hb11
  have nb11 : (b != 11) = true := bne_iff_ne.2 hb11
  have bb8 : (b == 8) = false := beq_eq_false_iff_ne.2 hb8
  have nb8 : (b != 8) = true := bne_iff_ne.2 hb8
  have Lb : wletter b = false := by simp [wletter, bb9, bb10]
  clear hb10 hb9 hb16 hb17 hb11 hb8
  have HV := hid (show wtog a b = false by ((try unfold wtog); (try unfold wletter); simp [*]))
  go_enter Tryd.func98, Tryd.ntmps98
  go_wp2_with (first | (go_at_call 83; (first | refine (wletter_v _ true _ (by decide)).mono ?_ | refine (wletter_v _ false _ (by first | decide | assumption)).mono ?_); rintro e w1 ⟨rfl, hw1⟩; obtain rfl := hw1.symm; clear hw1) | (go_at_call 54; (first | refine (wmakes_v _ true _ (by decide)).mono ?_ | refine (wmakes_v _ false _ (by first | decide | (simp [wmakes, wletter, *]))).mono ?_); rintro e w1 ⟨rfl, hw1⟩; obtain rfl := hw1.symm; clear hw1))
  go_ret
  exact ⟨by rw [HV.out]; rfl, rfl⟩
end Go.Proofs.YtkophiklkgefnaaDoor.Wd
/- The contracts of first, last, base, onward and odd (package word). -/
namespace Go.Proofs.YtkophiklkgefnaaDoor.Wd
open Go.RowKit

/-- The tables of package unicode/utf8. -/
structure TbW (w : World) : Prop where
  tabs : Lib.Utf8Tabs 0 1 w
  two : 2 ≤ w.heap.size
theorem TbW.below {w w' : World} (h : TbW w) (hb : Below w.heap.size w w') : TbW w' := ⟨tabs_below h.tabs h.two hb, Nat.le_trans h.two hb.size⟩
theorem wtake (l : List UInt8) (t : Nat) : (⟨l.toArray⟩ : ByteArray).extract 0 t = ⟨(l.take t).toArray⟩ := by
  apply ByteArray.ext
  simp [ByteArray.data_extract]
def wstrLen : Value → Nat
  | .string s => s.size
  | _ => 0
theorem wnext_at {P : Program} (w : World) (it : Nat) (s : ByteArray) (pos : Nat) (ty : TypeId) (hit : w.heap[it]? = some (.stringIter s pos)) (h : pos < s.size) :
    (Instr.next (.pointer (some ⟨it, 0, none⟩)) true ty).run P w = .ok (.tuple #[.bool true, .int .i64 pos, .int .i32 (Utf8.decode s pos).1]) (w.putObj it (.stringIter s (pos + (Utf8.decode s pos).2))) := by
  simp [Instr.next, getObj, setObj, Sem.run_bind, Sem.run, hit, Result.andThen, h, goInt, World.putObj]
theorem wnext_stop {P : Program} (w : World) (it : Nat) (s : ByteArray) (pos : Nat) (ty : TypeId) (hit : w.heap[it]? = some (.stringIter s pos)) (h : ¬ pos < s.size) :
    (Instr.next (.pointer (some ⟨it, 0, none⟩)) true ty).run P w = .ok (.tuple #[.bool false]) w := by
  simp [Instr.next, getObj, Sem.run, hit, h]
theorem wfirst_any (l : List UInt8) (w : World) (ht : TbW w) :
    Calls Tryd.prog 70 #[.string ⟨l.toArray⟩] w fun e w' => e = .returned (.tuple #[.int .i64 (wfirst l), .int .i64 (dec l).2]) ∧ Below w.heap.size w w' := by
  have HT := hid ht
  clear ht
  go_enter Tryd.func70, Tryd.ntmps70
  go_wp2_with fail
  refine (decode_any l w HT.out.tabs).mono ?_
  rintro e w1 ⟨rfl, be⟩
  have HB := hid be
  clear be
  obtain ⟨r, hr⟩ : ∃ r : Int, r = ((dec l).1 : Int) := ⟨_, rfl⟩
  obtain ⟨n, hn⟩ : ∃ n : Nat, n = (dec l).2 := ⟨_, rfl⟩
  have HN := hid hn
  have HV := hid (show wfirst l = wdcls r by rw [hr]; rfl)
  rw [← hr, ← hn]
  clear hr hn
  go_wp2_with fail
  refine (wdcls_any r w1).mono ?_
  rintro e w2 ⟨rfl, hw2⟩
  obtain rfl := hw2.symm
  clear hw2
  go_wp2
  go_ret2
  exact ⟨by rw [HV.out, ← HN.out]; rfl, HB.out⟩
theorem wlast_any (l : List UInt8) (w : World) (ht : TbW w) (hl : l.length ≤ 1000000000) :
    Calls Tryd.prog 69 #[.string ⟨l.toArray⟩] w fun e w' => e = .returned (.tuple #[.int .i64 (wlast l), .int .i64 (decLast l).2]) ∧ Below w.heap.size w w' := by
  have HT := hid ht
  clear ht
  go_enter Tryd.func69, Tryd.ntmps69
  go_wp2_with fail
  refine (last_any l w (by omega) HT.out.tabs).mono ?_
  rintro e w1 ⟨rfl, be⟩
  have HB := hid be
  clear be
  obtain ⟨r, hr⟩ : ∃ r : Int, r = ((decLast l).1 : Int) := ⟨_, rfl⟩
  obtain ⟨n, hn⟩ : ∃ n : Nat, n = (decLast l).2 := ⟨_, rfl⟩
  have HN := hid hn
  have HV := hid (show wlast l = wdcls r by rw [hr]; rfl)
  rw [← hr, ← hn]
  clear hr hn
  go_wp2_with fail
  refine (wdcls_any r w1).mono ?_
  rintro e w2 ⟨rfl, hw2⟩
  obtain rfl := hw2.symm
  clear hw2
  go_wp2
  go_ret2
  exact ⟨by rw [HV.out, ← HN.out]; rfl, HB.out⟩
set_option maxHeartbeats 2000000 in
theorem wbase_any (l : List UInt8) (w : World) (ht : TbW w) (hl : l.length ≤ 1000000000) :
    Calls Tryd.prog 97 #[.string ⟨l.toArray⟩] w fun e w' => e = .returned (.tuple #[.int .i64 (wbs l).1, .int .i64 (wbs l).2]) ∧ Below w.heap.size w w' := by
  have HT := hid ht
  clear ht
  go_enter Tryd.func97, Tryd.ntmps97
  go_wp2
  go_loopw [0] (fun fr wr => ∃ l' : List UInt8, fr = .string ⟨l'.toArray⟩ ∧ l'.length ≤ 1000000000 ∧ Hid (wbs l = wbs l') ∧ Below w.heap.size w wr) (fun fr _ => wstrLen fr)
  case atStart => exact ⟨l, rfl, hl, rfl, Below.refl _ _⟩
  case round =>
    obtain ⟨l', rfl, hl', HW, hB⟩ := hrel
    have HB := hid hB
    clear hB
    by_cases he : l' = []
    · subst he
      have HE := hid (show wbs l = (0, 0) by rw [HW.out]; rfl)
      go_wp2
      go_ret2
      exact ⟨by rw [HE.out]; rfl, HB.out⟩
    · have he' : l'.isEmpty = false := by simpa using he
      obtain ⟨hb1, hb2⟩ := wlast_bd l' he
      have HNE := hid he
      clear he
      go_wp2_with fail
      refine (wlast_any l' wr (HT.out.below HB.out) hl').mono ?_
      rintro e w1 ⟨rfl, be1⟩
      have HB1 := hid (HB.out.trans (be1.mono HB.out.size))
      obtain ⟨c, hc⟩ : ∃ c : Int, c = wlast l' := ⟨_, rfl⟩
      obtain ⟨m, hm⟩ : ∃ m : Nat, m = (decLast l').2 := ⟨_, rfl⟩
      have HC := hid hc
      have HM := hid hm
      rw [← hm] at hb1 hb2
      rw [← hc, ← hm]
      clear hc hm be1 HB
      have HLE := hid (show ltl l' = l'.take (l'.length - m) by unfold ltl; rw [HM.out])
      have HLT := hid (wltl_lt l' HNE.out)
      go_wp2_with fail
      rw [wtake, ← HLE.out]
      refine (wclings_any c w1).mono ?_
      rintro e w2 ⟨rfl, hw2⟩
      obtain rfl := hw2.symm
      clear hw2
      obtain ⟨b, hb⟩ : ∃ b, b = wclings c := ⟨_, rfl⟩
      have HBB := hid hb
      rw [← hb]
      clear hb
      cases b with
      | true =>
        have HY := hid (show wbs l = wbs (ltl l') from HW.out.trans (wbs_yes l' HNE.out (by rw [← HC.out, ← HBB.out])))
        go_wp2
        exact ⟨⟨ltl l', rfl, by have := HLT.out; omega, HY.out, HB1.out⟩, by have := HLT.out; show (ltl l').toArray.size < l'.toArray.size; simpa using this⟩
      | false =>
        have HY := hid (show wbs l = (c, (ltl l').length) by rw [HW.out, wbs_no l' HNE.out (by rw [← HC.out, ← HBB.out]), ← HC.out])
        go_wp2
        go_ret2
        exact ⟨by rw [HY.out]; rfl, HB1.out⟩
set_option maxHeartbeats 2000000 in
theorem wodd_any (l : List UInt8) (w : World) (ht : TbW w) (hl : l.length ≤ 1000000000) :
    Calls Tryd.prog 99 #[.string ⟨l.toArray⟩] w fun e w' => e = .returned (.bool (wod l false)) ∧ Below w.heap.size w w' := by
  have HT := hid ht
  clear ht
  go_enter Tryd.func99, Tryd.ntmps99
  go_wp2
  go_loopw [0, 3] (fun fs fo wr => ∃ (l' : List UInt8) (o : Bool), fs = .string ⟨l'.toArray⟩ ∧ fo = .bool o ∧ l'.length ≤ 1000000000 ∧ Hid (wod l false = wod l' o) ∧ Below w.heap.size w wr) (fun fs _ _ => wstrLen fs)
  case atStart => exact ⟨l, false, rfl, rfl, hl, rfl, Below.refl _ _⟩
  case round =>
    obtain ⟨l', o, rfl, rfl, hl', HW, hB⟩ := hrel
    have HB := hid hB
    clear hB
    by_cases he : l' = []
    · subst he
      have HE := hid (show wod l false = o by rw [HW.out]; rfl)
      go_wp2
      go_ret
      exact ⟨by rw [HE.out]; rfl, HB.out⟩
    · have he' : l'.isEmpty = false := by simpa using he
      obtain ⟨hb1, hb2⟩ := wlast_bd l' he
      have HST := hid (HW.out.trans (wod_step l' o he))
      have HLT := hid (wltl_lt l' he)
      clear he HW
      go_wp2_with fail
      refine (wlast_any l' wr (HT.out.below HB.out) hl').mono ?_
      rintro e w1 ⟨rfl, be1⟩
      have HB1 := hid (HB.out.trans (be1.mono HB.out.size))
      obtain ⟨c, hc⟩ : ∃ c : Int, c = wlast l' := ⟨_, rfl⟩
      obtain ⟨m, hm⟩ : ∃ m : Nat, m = (decLast l').2 := ⟨_, rfl⟩
      have HLE := hid (show ltl l' = l'.take (l'.length - m) by unfold ltl; rw [hm])
      rw [← hm] at hb1 hb2
      rw [← hc] at HST
      rw [← hc, ← hm]
      clear hc hm be1 HB
      by_cases h7 : c = 7
      · subst h7
        have HY := hid (show wod l false = wod (ltl l') (!o) from HST.out)
        go_wp2
        rw [wtake, ← HLE.out]
        exact ⟨⟨ltl l', !o, rfl, rfl, by have := HLT.out; omega, HY.out, HB1.out⟩, by have := HLT.out; show (ltl l').toArray.size < l'.toArray.size; simpa using this⟩
      · have b7 : (c == 7) = false := beq_eq_false_iff_ne.2 h7
        have HY := hid (show wod l false = if wclings c then wod (ltl l') o else o by rw [HST.out, b7]; rfl)
        clear h7 HST
        go_wp2_with fail
        refine (wclings_any c w1).mono ?_
        rintro e w2 ⟨rfl, hw2⟩
        obtain rfl := hw2.symm
        clear hw2
        obtain ⟨b, hb⟩ : ∃ b, b = wclings c := ⟨_, rfl⟩
        rw [← hb] at HY
        rw [← hb]
        clear hb
        cases b with
        | true =>
          go_wp2
          rw [wtake, ← HLE.out]
          exact ⟨⟨ltl l', o, rfl, rfl, by have := HLT.out; omega, HY.out, HB1.out⟩, by have := HLT.out; show (ltl l').toArray.size < l'.toArray.size; simpa using this⟩
        | false =>
          go_wp2
          go_ret
          exact ⟨by rw [HY.out]; rfl, HB1.out⟩
set_option maxHeartbeats 2000000 in
theorem wonward_any (l : List UInt8) (w : World) :
    Calls Tryd.prog 102 #[.string ⟨l.toArray⟩] w fun e w' => e = .returned (.int .i64 (won l)) ∧ Below w.heap.size w w' := by
  have HSZ := hid (show (⟨l.toArray⟩ : ByteArray).size = l.length by show l.toArray.size = _; simp)
  have HB0 := hid ((Below.refl w.heap.size w).alloc (Nat.le_refl _) (.stringIter ⟨l.toArray⟩ 0))
  have HIT0 := hid (World.iter_heap w ⟨l.toArray⟩ 0)
  go_enter Tryd.func102, Tryd.ntmps102
  go_wp2
  go_loopw [4, 5] (fun _ _ wr => ∃ t : Nat, Hid (won l = won (l.drop t)) ∧ Hid (wr.heap[w.heap.size]? = some (.stringIter ⟨l.toArray⟩ t)) ∧ Hid (Below w.heap.size w wr)) (fun _ _ wr => l.length - wr.iterPos w.heap.size)
  case atStart => exact ⟨0, rfl, HIT0, HB0⟩
  case round =>
    obtain ⟨t, HP, HI, HB⟩ := hrel
    have hin : w.heap.size < wr.heap.size := (Array.getElem?_eq_some_iff.1 HI.out).1
    by_cases hlt : t < l.length
    · have hnx := wnext_at (P := Tryd.prog) wr w.heap.size ⟨l.toArray⟩ t 0 HI.out (by rw [HSZ.out]; exact hlt)
      rw [decode_place l t hlt] at hnx
      have hne := drop_ne l t hlt
      have d1 := dec_ge _ hne
      have HYES := hid (won_yes (l.drop t) hne)
      have HNO := hid (won_no (l.drop t) hne)
      rw [List.drop_drop] at HYES
      have HWF := hid (show wfirst (l.drop t) = wdcls ((dec (l.drop t)).1 : Int) from rfl)
      obtain ⟨nn, hnn⟩ : ∃ nn, nn = (dec (l.drop t)).2 := ⟨_, rfl⟩
      obtain ⟨rr, hrr⟩ : ∃ rr : Int, rr = ((dec (l.drop t)).1 : Int) := ⟨_, rfl⟩
      rw [← hnn] at hnx d1 HYES
      rw [← hrr] at hnx HWF
      rw [HWF.out] at HYES HNO
      obtain ⟨w1, hw1⟩ : ∃ w1, w1 = wr.putObj w.heap.size (.stringIter ⟨l.toArray⟩ (t + nn)) := ⟨_, rfl⟩
      rw [← hw1] at hnx
      have HI1 := hid (show w1.heap[w.heap.size]? = some (.stringIter ⟨l.toArray⟩ (t + nn)) by rw [hw1]; exact World.putObj_heap_same hin)
      have HB1 := hid (show Below w.heap.size w w1 by rw [hw1]; exact HB.out.trans ⟨rfl, rfl, rfl, by simp [World.putObj], fun j hj => World.putObj_heap_other (by omega)⟩)
      have HM := hid (show l.length - wr.iterPos w.heap.size = l.length - t by unfold World.iterPos; rw [HI.out])
      clear hnn hrr hw1 HI HB hne HWF
      go_wp2_with fail
      refine (wdcls_any rr w1).mono ?_
      rintro e w2 ⟨rfl, hw2⟩
      obtain rfl := hw2.symm
      clear hw2
      obtain ⟨c, hc⟩ : ∃ c, c = wdcls rr := ⟨_, rfl⟩
      rw [← hc] at HYES HNO
      rw [← hc]
      clear hc hnx
      go_wp2_with fail
      refine (wclings_any c w1).mono ?_
      rintro e w2 ⟨rfl, hw2⟩
      obtain rfl := hw2.symm
      clear hw2
      obtain ⟨b, hb⟩ : ∃ b, b = wclings c := ⟨_, rfl⟩
      rw [← hb] at HYES HNO
      rw [← hb]
      clear hb
      cases b with
      | true =>
        have HE := hid (HP.out.trans (HYES.out rfl))
        go_wp2
        go_roundw
        case rel => exact ⟨t + nn, HE, HI1, HB1⟩
        case measure =>
          rw [HM.out]
          unfold World.iterPos
          rw [HI1.out]
          simp only []
          omega
      | false =>
        have HE := hid (HP.out.trans (HNO.out rfl))
        go_wp2
        go_ret
        exact ⟨by rw [HE.out]; rfl, HB1.out⟩
    · have hnx := wnext_stop (P := Tryd.prog) wr w.heap.size ⟨l.toArray⟩ t 0 HI.out (by rw [HSZ.out]; exact hlt)
      have HE := hid (show won l = 0 by rw [HP.out, List.drop_of_length_le (by omega)]; rfl)
      go_wp2
      go_ret
      exact ⟨by rw [HE.out]; rfl, HB.out⟩
end Go.Proofs.YtkophiklkgefnaaDoor.Wd
/- The contract of bridges (package word). -/
namespace Go.Proofs.YtkophiklkgefnaaDoor.Wd
open Go.RowKit

set_option maxHeartbeats 4000000 in
theorem wbri_any (a m b : Int) (w : World) : Calls Tryd.prog 101 #[.int .i64 a, .int .i64 m, .int .i64 b] w fun e w' => e = .returned (.bool (wbri a m b)) ∧ w' = w := by
  by_cases ha9 : a = 9
  · subst ha9
    by_cases hm14 : m = 14
    · subst hm14
      by_cases hb9 : b = 9
      · subst hb9
        have HV := hid (show wbri 9 14 9 = true by decide)
        go_enter Tryd.func101, Tryd.ntmps101
        go_wp2_with (go_at_call 83; (first | refine (wletter_v _ true _ (by decide)).mono ?_ | refine (wletter_v _ false _ (by first | decide | assumption)).mono ?_); rintro e w1 ⟨rfl, hw1⟩; obtain rfl := hw1.symm; clear hw1)
        go_ret
        exact ⟨by rw [HV.out]; rfl, rfl⟩
      by_cases hb10 : b = 10
      · subst hb10
        clear hb9
        have HV := hid (show wbri 9 14 10 = true by decide)
        go_enter Tryd.func101, Tryd.ntmps101
        go_wp2_with (go_at_call 83; (first | refine (wletter_v _ true _ (by decide)).mono ?_ | refine (wletter_v _ false _ (by first | decide | assumption)).mono ?_); rintro e w1 ⟨rfl, hw1⟩; obtain rfl := hw1.symm; clear hw1)
        go_ret
        exact ⟨by rw [HV.out]; rfl, rfl⟩
      by_cases hb16 : b = 16
      · subst hb16
        clear hb9 hb10
        have HV := hid (show wbri 9 14 16 = false by decide)
        go_enter Tryd.func101, Tryd.ntmps101
        go_wp2_with (go_at_call 83; (first | refine (wletter_v _ true _ (by decide)).mono ?_ | refine (wletter_v _ false _ (by first | decide | assumption)).mono ?_); rintro e w1 ⟨rfl, hw1⟩; obtain rfl := hw1.symm; clear hw1)
        go_ret
        exact ⟨by rw [HV.out]; rfl, rfl⟩
      have bb9 : (b == 9) = false := beq_eq_false_iff_ne.2 hb9
      have nb9 : (b != 9) = true := bne_iff_ne.2 hb9
      have bb10 : (b == 10) = false := beq_eq_false_iff_ne.2 hb10
      have nb10 : (b != 10) = true := bne_iff_ne.2 hb10
      have bb16 : (b == 16) = false := beq_eq_false_iff_ne.2 hb16
      have nb16 : (b != 16) = true := bne_iff_ne.2 hb16
      have Lb : wletter b = false := by simp [wletter, bb9, bb10]
      clear hb9 hb10 hb16
      have HV := hid (show wbri 9 14 b = false by ((try unfold wbri); (try unfold wletter); simp [*]))
      go_enter Tryd.func101, Tryd.ntmps101
      go_wp2_with (go_at_call 83; (first | refine (wletter_v _ true _ (by decide)).mono ?_ | refine (wletter_v _ false _ (by first | decide | assumption)).mono ?_); rintro e w1 ⟨rfl, hw1⟩; obtain rfl := hw1.symm; clear hw1)
      go_ret
      exact ⟨by rw [HV.out]; rfl, rfl⟩
    by_cases hm15 : m = 15
    · subst hm15
      clear hm14
      by_cases hb9 : b = 9
      · subst hb9
        have HV := hid (show wbri 9 15 9 = false by decide)
        go_enter Tryd.func101, Tryd.ntmps101
        go_wp2_with (go_at_call 83; (first | refine (wletter_v _ true _ (by decide)).mono ?_ | refine (wletter_v _ false _ (by first | decide | assumption)).mono ?_); rintro e w1 ⟨rfl, hw1⟩; obtain rfl := hw1.symm; clear hw1)
        go_ret
        exact ⟨by rw [HV.out]; rfl, rfl⟩
      by_cases hb10 : b = 10
      · subst hb10
        clear hb9
        have HV := hid (show wbri 9 15 10 = false by decide)
        go_enter Tryd.func101, Tryd.ntmps101
        go_wp2_with (go_at_call 83; (first | refine (wletter_v _ true _ (by decide)).mono ?_ | refine (wletter_v _ false _ (by first | decide | assumption)).mono ?_); rintro e w1 ⟨rfl, hw1⟩; obtain rfl := hw1.symm; clear hw1)
        go_ret
        exact ⟨by rw [HV.out]; rfl, rfl⟩
      by_cases hb16 : b = 16
      · subst hb16
        clear hb9 hb10
        have HV := hid (show wbri 9 15 16 = false by decide)
        go_enter Tryd.func101, Tryd.ntmps101
        go_wp2_with (go_at_call 83; (first | refine (wletter_v _ true _ (by decide)).mono ?_ | refine (wletter_v _ false _ (by first | decide | assumption)).mono ?_); rintro e w1 ⟨rfl, hw1⟩; obtain rfl := hw1.symm; clear hw1)
        go_ret
        exact ⟨by rw [HV.out]; rfl, rfl⟩
      have bb9 : (b == 9) = false := beq_eq_false_iff_ne.2 hb9
      have nb9 : (b != 9) = true := bne_iff_ne.2 hb9
      have bb10 : (b == 10) = false := beq_eq_false_iff_ne.2 hb10
      have nb10 : (b != 10) = true := bne_iff_ne.2 hb10
      have bb16 : (b == 16) = false := beq_eq_false_iff_ne.2 hb16
      have nb16 : (b != 16) = true := bne_iff_ne.2 hb16
      have Lb : wletter b = false := by simp [wletter, bb9, bb10]
      clear hb9 hb10 hb16
      have HV := hid (show wbri 9 15 b = false by ((try unfold wbri); (try unfold wletter); simp [*]))
      go_enter Tryd.func101, Tryd.ntmps101
      go_wp2_with (go_at_call 83; (first | refine (wletter_v _ true _ (by decide)).mono ?_ | refine (wletter_v _ false _ (by first | decide | assumption)).mono ?_); rintro e w1 ⟨rfl, hw1⟩; obtain rfl := hw1.symm; clear hw1)
      go_ret
      exact ⟨by rw [HV.out]; rfl, rfl⟩
    by_cases hm13 : m = 13
    · subst hm13
      clear hm14 hm15
      by_cases hb9 : b = 9
      · subst hb9
        have HV := hid (show wbri 9 13 9 = true by decide)
        go_enter Tryd.func101, Tryd.ntmps101
        go_wp2_with (go_at_call 83; (first | refine (wletter_v _ true _ (by decide)).mono ?_ | refine (wletter_v _ false _ (by first | decide | assumption)).mono ?_); rintro e w1 ⟨rfl, hw1⟩; obtain rfl := hw1.symm; clear hw1)
        go_ret
        exact ⟨by rw [HV.out]; rfl, rfl⟩
      by_cases hb10 : b = 10
      · subst hb10
        clear hb9
        have HV := hid (show wbri 9 13 10 = true by decide)
        go_enter Tryd.func101, Tryd.ntmps101
        go_wp2_with (go_at_call 83; (first | refine (wletter_v _ true _ (by decide)).mono ?_ | refine (wletter_v _ false _ (by first | decide | assumption)).mono ?_); rintro e w1 ⟨rfl, hw1⟩; obtain rfl := hw1.symm; clear hw1)
        go_ret
        exact ⟨by rw [HV.out]; rfl, rfl⟩
      by_cases hb16 : b = 16
      · subst hb16
        clear hb9 hb10
        have HV := hid (show wbri 9 13 16 = false by decide)
        go_enter Tryd.func101, Tryd.ntmps101
        go_wp2_with (go_at_call 83; (first | refine (wletter_v _ true _ (by decide)).mono ?_ | refine (wletter_v _ false _ (by first | decide | assumption)).mono ?_); rintro e w1 ⟨rfl, hw1⟩; obtain rfl := hw1.symm; clear hw1)
        go_ret
        exact ⟨by rw [HV.out]; rfl, rfl⟩
      have bb9 : (b == 9) = false := beq_eq_false_iff_ne.2 hb9
      have nb9 : (b != 9) = true := bne_iff_ne.2 hb9
      have bb10 : (b == 10) = false := beq_eq_false_iff_ne.2 hb10
      have nb10 : (b != 10) = true := bne_iff_ne.2 hb10
      have bb16 : (b == 16) = false := beq_eq_false_iff_ne.2 hb16
      have nb16 : (b != 16) = true := bne_iff_ne.2 hb16
      have Lb : wletter b = false := by simp [wletter, bb9, bb10]
      clear hb9 hb10 hb16
      have HV := hid (show wbri 9 13 b = false by ((try unfold wbri); (try unfold wletter); simp [*]))
      go_enter Tryd.func101, Tryd.ntmps101
      go_wp2_with (go_at_call 83; (first | refine (wletter_v _ true _ (by decide)).mono ?_ | refine (wletter_v _ false _ (by first | decide | assumption)).mono ?_); rintro e w1 ⟨rfl, hw1⟩; obtain rfl := hw1.symm; clear hw1)
      go_ret
      exact ⟨by rw [HV.out]; rfl, rfl⟩
    by_cases hm11 : m = 11
    · subst hm11
      clear hm14 hm15 hm13
      by_cases hb9 : b = 9
      · subst hb9
        have HV := hid (show wbri 9 11 9 = true by decide)
        go_enter Tryd.func101, Tryd.ntmps101
        go_wp2_with (go_at_call 83; (first | refine (wletter_v _ true _ (by decide)).mono ?_ | refine (wletter_v _ false _ (by first | decide | assumption)).mono ?_); rintro e w1 ⟨rfl, hw1⟩; obtain rfl := hw1.symm; clear hw1)
        go_ret
        exact ⟨by rw [HV.out]; rfl, rfl⟩
      by_cases hb10 : b = 10
      · subst hb10
        clear hb9
        have HV := hid (show wbri 9 11 10 = true by decide)
        go_enter Tryd.func101, Tryd.ntmps101
        go_wp2_with (go_at_call 83; (first | refine (wletter_v _ true _ (by decide)).mono ?_ | refine (wletter_v _ false _ (by first | decide | assumption)).mono ?_); rintro e w1 ⟨rfl, hw1⟩; obtain rfl := hw1.symm; clear hw1)
        go_ret
        exact ⟨by rw [HV.out]; rfl, rfl⟩
      by_cases hb16 : b = 16
      · subst hb16
        clear hb9 hb10
        have HV := hid (show wbri 9 11 16 = false by decide)
        go_enter Tryd.func101, Tryd.ntmps101
        go_wp2_with (go_at_call 83; (first | refine (wletter_v _ true _ (by decide)).mono ?_ | refine (wletter_v _ false _ (by first | decide | assumption)).mono ?_); rintro e w1 ⟨rfl, hw1⟩; obtain rfl := hw1.symm; clear hw1)
        go_ret
        exact ⟨by rw [HV.out]; rfl, rfl⟩
      have bb9 : (b == 9) = false := beq_eq_false_iff_ne.2 hb9
      have nb9 : (b != 9) = true := bne_iff_ne.2 hb9
      have bb10 : (b == 10) = false := beq_eq_false_iff_ne.2 hb10
      have nb10 : (b != 10) = true := bne_iff_ne.2 hb10
      have bb16 : (b == 16) = false := beq_eq_false_iff_ne.2 hb16
      have nb16 : (b != 16) = true := bne_iff_ne.2 hb16
      have Lb : wletter b = false := by simp [wletter, bb9, bb10]
      clear hb9 hb10 hb16
      have HV := hid (show wbri 9 11 b = false by ((try unfold wbri); (try unfold wletter); simp [*]))
      go_enter Tryd.func101, Tryd.ntmps101
      go_wp2_with (go_at_call 83; (first | refine (wletter_v _ true _ (by decide)).mono ?_ | refine (wletter_v _ false _ (by first | decide | assumption)).mono ?_); rintro e w1 ⟨rfl, hw1⟩; obtain rfl := hw1.symm; clear hw1)
      go_ret
      exact ⟨by rw [HV.out]; rfl, rfl⟩
    by_cases hm12 : m = 12
    · subst hm12
      clear hm14 hm15 hm13 hm11
      by_cases hb9 : b = 9
      · subst hb9
        have HV := hid (show wbri 9 12 9 = true by decide)
        go_enter Tryd.func101, Tryd.ntmps101
        go_wp2_with (go_at_call 83; (first | refine (wletter_v _ true _ (by decide)).mono ?_ | refine (wletter_v _ false _ (by first | decide | assumption)).mono ?_); rintro e w1 ⟨rfl, hw1⟩; obtain rfl := hw1.symm; clear hw1)
        go_ret
        exact ⟨by rw [HV.out]; rfl, rfl⟩
      by_cases hb10 : b = 10
      · subst hb10
        clear hb9
        have HV := hid (show wbri 9 12 10 = false by decide)
        go_enter Tryd.func101, Tryd.ntmps101
        go_wp2_with (go_at_call 83; (first | refine (wletter_v _ true _ (by decide)).mono ?_ | refine (wletter_v _ false _ (by first | decide | assumption)).mono ?_); rintro e w1 ⟨rfl, hw1⟩; obtain rfl := hw1.symm; clear hw1)
        go_ret
        exact ⟨by rw [HV.out]; rfl, rfl⟩
      by_cases hb16 : b = 16
      · subst hb16
        clear hb9 hb10
        have HV := hid (show wbri 9 12 16 = false by decide)
        go_enter Tryd.func101, Tryd.ntmps101
        go_wp2_with (go_at_call 83; (first | refine (wletter_v _ true _ (by decide)).mono ?_ | refine (wletter_v _ false _ (by first | decide | assumption)).mono ?_); rintro e w1 ⟨rfl, hw1⟩; obtain rfl := hw1.symm; clear hw1)
        go_ret
        exact ⟨by rw [HV.out]; rfl, rfl⟩
      have bb9 : (b == 9) = false := beq_eq_false_iff_ne.2 hb9
      have nb9 : (b != 9) = true := bne_iff_ne.2 hb9
      have bb10 : (b == 10) = false := beq_eq_false_iff_ne.2 hb10
      have nb10 : (b != 10) = true := bne_iff_ne.2 hb10
      have bb16 : (b == 16) = false := beq_eq_false_iff_ne.2 hb16
      have nb16 : (b != 16) = true := bne_iff_ne.2 hb16
      have Lb : wletter b = false := by simp [wletter, bb9, bb10]
      clear hb9 hb10 hb16
      have HV := hid (show wbri 9 12 b = false by ((try unfold wbri); (try unfold wletter); simp [*]))
      go_enter Tryd.func101, Tryd.ntmps101
      go_wp2_with (go_at_call 83; (first | refine (wletter_v _ true _ (by decide)).mono ?_ | refine (wletter_v _ false _ (by first | decide | assumption)).mono ?_); rintro e w1 ⟨rfl, hw1⟩; obtain rfl := hw1.symm; clear hw1)
      go_ret
      exact ⟨by rw [HV.out]; rfl, rfl⟩
    have bm14 : (m == 14) = false := beq_eq_false_iff_ne.2 hm14
    have nm14 : (m != 14) = true := bne_iff_ne.2 hm14
    have bm15 : (m == 15) = false := beq_eq_false_iff_ne.2 hm15
    have nm15 : (m != 15) = true := bne_iff_ne.2 hm15
    have bm13 : (m == 13) = false := beq_eq_false_iff_ne.2 hm13
    have nm13 : (m != 13) = true := bne_iff_ne.2 hm13
    have bm11 : (m == 11) = false := beq_eq_false_iff_ne.2 hm11
    have nm11 : (m != 11) = true := bne_iff_ne.2 hm11
    have bm12 : (m == 12) = false := beq_eq_false_iff_ne.2 hm12
    have nm12 : (m != 12) = true := bne_iff_ne.2 hm12
    clear hm14 hm15 hm13 hm11 hm12
    by_cases hb9 : b = 9
    · subst hb9
      have HV := hid (show wbri 9 m 9 = false by ((try unfold wbri); (try unfold wletter); simp [*]))
      go_enter Tryd.func101, Tryd.ntmps101
      go_wp2_with (go_at_call 83; (first | refine (wletter_v _ true _ (by decide)).mono ?_ | refine (wletter_v _ false _ (by first | decide | assumption)).mono ?_); rintro e w1 ⟨rfl, hw1⟩; obtain rfl := hw1.symm; clear hw1)
      go_ret
      exact ⟨by rw [HV.out]; rfl, rfl⟩
    by_cases hb10 : b = 10
    · subst hb10
      clear hb9
      have HV := hid (show wbri 9 m 10 = false by ((try unfold wbri); (try unfold wletter); simp [*]))
      go_enter Tryd.func101, Tryd.ntmps101
      go_wp2_with (go_at_call 83; (first | refine (wletter_v _ true _ (by decide)).mono ?_ | refine (wletter_v _ false _ (by first | decide | assumption)).mono ?_); rintro e w1 ⟨rfl, hw1⟩; obtain rfl := hw1.symm; clear hw1)
      go_ret
      exact ⟨by rw [HV.out]; rfl, rfl⟩
    by_cases hb16 : b = 16
    · subst hb16
      clear hb9 hb10
      have HV := hid (show wbri 9 m 16 = false by ((try unfold wbri); (try unfold wletter); simp [*]))
      go_enter Tryd.func101, Tryd.ntmps101
      go_wp2_with (go_at_call 83; (first | refine (wletter_v _ true _ (by decide)).mono ?_ | refine (wletter_v _ false _ (by first | decide | assumption)).mono ?_); rintro e w1 ⟨rfl, hw1⟩; obtain rfl := hw1.symm; clear hw1)
      go_ret
      exact ⟨by rw [HV.out]; rfl, rfl⟩
    have bb9 : (b == 9) = false := beq_eq_false_iff_ne.2 hb9
    have nb9 : (b != 9) = true := bne_iff_ne.2 hb9
    have bb10 : (b == 10) = false := beq_eq_false_iff_ne.2 hb10
    have nb10 : (b != 10) = true := bne_iff_ne.2 hb10
    have bb16 : (b == 16) = false := beq_eq_false_iff_ne.2 hb16
    have nb16 : (b != 16) = true := bne_iff_ne.2 hb16
    have Lb : wletter b = false := by simp [wletter, bb9, bb10]
    clear hb9 hb10 hb16
    have HV := hid (show wbri 9 m b = false by ((try unfold wbri); (try unfold wletter); simp [*]))
    go_enter Tryd.func101, Tryd.ntmps101
    go_wp2_with (go_at_call 83; (first | refine (wletter_v _ true _ (by decide)).mono ?_ | refine (wletter_v _ false _ (by first | decide | assumption)).mono ?_); rintro e w1 ⟨rfl, hw1⟩; obtain rfl := hw1.symm; clear hw1)
    go_ret
    exact ⟨by rw [HV.out]; rfl, rfl⟩
  by_cases ha10 : a = 10
  · subst ha10
    clear ha9
    by_cases hm14 : m = 14
    · subst hm14
      by_cases hb9 : b = 9
      · subst hb9
        have HV := hid (show wbri 10 14 9 = true by decide)
        go_enter Tryd.func101, Tryd.ntmps101
        go_wp2_with (go_at_call 83; (first | refine (wletter_v _ true _ (by decide)).mono ?_ | refine (wletter_v _ false _ (by first | decide | assumption)).mono ?_); rintro e w1 ⟨rfl, hw1⟩; obtain rfl := hw1.symm; clear hw1)
        go_ret
        exact ⟨by rw [HV.out]; rfl, rfl⟩
      by_cases hb10 : b = 10
      · subst hb10
        clear hb9
        have HV := hid (show wbri 10 14 10 = true by decide)
        go_enter Tryd.func101, Tryd.ntmps101
        go_wp2_with (go_at_call 83; (first | refine (wletter_v _ true _ (by decide)).mono ?_ | refine (wletter_v _ false _ (by first | decide | assumption)).mono ?_); rintro e w1 ⟨rfl, hw1⟩; obtain rfl := hw1.symm; clear hw1)
        go_ret
        exact ⟨by rw [HV.out]; rfl, rfl⟩
      by_cases hb16 : b = 16
      · subst hb16
        clear hb9 hb10
        have HV := hid (show wbri 10 14 16 = false by decide)
        go_enter Tryd.func101, Tryd.ntmps101
        go_wp2_with (go_at_call 83; (first | refine (wletter_v _ true _ (by decide)).mono ?_ | refine (wletter_v _ false _ (by first | decide | assumption)).mono ?_); rintro e w1 ⟨rfl, hw1⟩; obtain rfl := hw1.symm; clear hw1)
        go_ret
        exact ⟨by rw [HV.out]; rfl, rfl⟩
      have bb9 : (b == 9) = false := beq_eq_false_iff_ne.2 hb9
      have nb9 : (b != 9) = true := bne_iff_ne.2 hb9
      have bb10 : (b == 10) = false := beq_eq_false_iff_ne.2 hb10
      have nb10 : (b != 10) = true := bne_iff_ne.2 hb10
      have bb16 : (b == 16) = false := beq_eq_false_iff_ne.2 hb16
      have nb16 : (b != 16) = true := bne_iff_ne.2 hb16
      have Lb : wletter b = false := by simp [wletter, bb9, bb10]
      clear hb9 hb10 hb16
      have HV := hid (show wbri 10 14 b = false by ((try unfold wbri); (try unfold wletter); simp [*]))
      go_enter Tryd.func101, Tryd.ntmps101
      go_wp2_with (go_at_call 83; (first | refine (wletter_v _ true _ (by decide)).mono ?_ | refine (wletter_v _ false _ (by first | decide | assumption)).mono ?_); rintro e w1 ⟨rfl, hw1⟩; obtain rfl := hw1.symm; clear hw1)
      go_ret
      exact ⟨by rw [HV.out]; rfl, rfl⟩
    by_cases hm15 : m = 15
    · subst hm15
      clear hm14
      by_cases hb9 : b = 9
      · subst hb9
        have HV := hid (show wbri 10 15 9 = false by decide)
        go_enter Tryd.func101, Tryd.ntmps101
        go_wp2_with (go_at_call 83; (first | refine (wletter_v _ true _ (by decide)).mono ?_ | refine (wletter_v _ false _ (by first | decide | assumption)).mono ?_); rintro e w1 ⟨rfl, hw1⟩; obtain rfl := hw1.symm; clear hw1)
        go_ret
        exact ⟨by rw [HV.out]; rfl, rfl⟩
      by_cases hb10 : b = 10
      · subst hb10
        clear hb9
        have HV := hid (show wbri 10 15 10 = false by decide)
        go_enter Tryd.func101, Tryd.ntmps101
        go_wp2_with (go_at_call 83; (first | refine (wletter_v _ true _ (by decide)).mono ?_ | refine (wletter_v _ false _ (by first | decide | assumption)).mono ?_); rintro e w1 ⟨rfl, hw1⟩; obtain rfl := hw1.symm; clear hw1)
        go_ret
        exact ⟨by rw [HV.out]; rfl, rfl⟩
      by_cases hb16 : b = 16
      · subst hb16
        clear hb9 hb10
        have HV := hid (show wbri 10 15 16 = false by decide)
        go_enter Tryd.func101, Tryd.ntmps101
        go_wp2_with (go_at_call 83; (first | refine (wletter_v _ true _ (by decide)).mono ?_ | refine (wletter_v _ false _ (by first | decide | assumption)).mono ?_); rintro e w1 ⟨rfl, hw1⟩; obtain rfl := hw1.symm; clear hw1)
        go_ret
        exact ⟨by rw [HV.out]; rfl, rfl⟩
      have bb9 : (b == 9) = false := beq_eq_false_iff_ne.2 hb9
      have nb9 : (b != 9) = true := bne_iff_ne.2 hb9
      have bb10 : (b == 10) = false := beq_eq_false_iff_ne.2 hb10
      have nb10 : (b != 10) = true := bne_iff_ne.2 hb10
      have bb16 : (b == 16) = false := beq_eq_false_iff_ne.2 hb16
      have nb16 : (b != 16) = true := bne_iff_ne.2 hb16
      have Lb : wletter b = false := by simp [wletter, bb9, bb10]
      clear hb9 hb10 hb16
      have HV := hid (show wbri 10 15 b = false by ((try unfold wbri); (try unfold wletter); simp [*]))
      go_enter Tryd.func101, Tryd.ntmps101
      go_wp2_with (go_at_call 83; (first | refine (wletter_v _ true _ (by decide)).mono ?_ | refine (wletter_v _ false _ (by first | decide | assumption)).mono ?_); rintro e w1 ⟨rfl, hw1⟩; obtain rfl := hw1.symm; clear hw1)
      go_ret
      exact ⟨by rw [HV.out]; rfl, rfl⟩
    by_cases hm13 : m = 13
    · subst hm13
      clear hm14 hm15
      by_cases hb9 : b = 9
      · subst hb9
        have HV := hid (show wbri 10 13 9 = true by decide)
        go_enter Tryd.func101, Tryd.ntmps101
        go_wp2_with (go_at_call 83; (first | refine (wletter_v _ true _ (by decide)).mono ?_ | refine (wletter_v _ false _ (by first | decide | assumption)).mono ?_); rintro e w1 ⟨rfl, hw1⟩; obtain rfl := hw1.symm; clear hw1)
        go_ret
        exact ⟨by rw [HV.out]; rfl, rfl⟩
      by_cases hb10 : b = 10
      · subst hb10
        clear hb9
        have HV := hid (show wbri 10 13 10 = true by decide)
        go_enter Tryd.func101, Tryd.ntmps101
        go_wp2_with (go_at_call 83; (first | refine (wletter_v _ true _ (by decide)).mono ?_ | refine (wletter_v _ false _ (by first | decide | assumption)).mono ?_); rintro e w1 ⟨rfl, hw1⟩; obtain rfl := hw1.symm; clear hw1)
        go_ret
        exact ⟨by rw [HV.out]; rfl, rfl⟩
      by_cases hb16 : b = 16
      · subst hb16
        clear hb9 hb10
        have HV := hid (show wbri 10 13 16 = false by decide)
        go_enter Tryd.func101, Tryd.ntmps101
        go_wp2_with (go_at_call 83; (first | refine (wletter_v _ true _ (by decide)).mono ?_ | refine (wletter_v _ false _ (by first | decide | assumption)).mono ?_); rintro e w1 ⟨rfl, hw1⟩; obtain rfl := hw1.symm; clear hw1)
        go_ret
        exact ⟨by rw [HV.out]; rfl, rfl⟩
      have bb9 : (b == 9) = false := beq_eq_false_iff_ne.2 hb9
      have nb9 : (b != 9) = true := bne_iff_ne.2 hb9
      have bb10 : (b == 10) = false := beq_eq_false_iff_ne.2 hb10
      have nb10 : (b != 10) = true := bne_iff_ne.2 hb10
      have bb16 : (b == 16) = false := beq_eq_false_iff_ne.2 hb16
      have nb16 : (b != 16) = true := bne_iff_ne.2 hb16
      have Lb : wletter b = false := by simp [wletter, bb9, bb10]
      clear hb9 hb10 hb16
      have HV := hid (show wbri 10 13 b = false by ((try unfold wbri); (try unfold wletter); simp [*]))
      go_enter Tryd.func101, Tryd.ntmps101
      go_wp2_with (go_at_call 83; (first | refine (wletter_v _ true _ (by decide)).mono ?_ | refine (wletter_v _ false _ (by first | decide | assumption)).mono ?_); rintro e w1 ⟨rfl, hw1⟩; obtain rfl := hw1.symm; clear hw1)
      go_ret
      exact ⟨by rw [HV.out]; rfl, rfl⟩
    by_cases hm11 : m = 11
    · subst hm11
      clear hm14 hm15 hm13
      by_cases hb9 : b = 9
      · subst hb9
        have HV := hid (show wbri 10 11 9 = true by decide)
        go_enter Tryd.func101, Tryd.ntmps101
        go_wp2_with (go_at_call 83; (first | refine (wletter_v _ true _ (by decide)).mono ?_ | refine (wletter_v _ false _ (by first | decide | assumption)).mono ?_); rintro e w1 ⟨rfl, hw1⟩; obtain rfl := hw1.symm; clear hw1)
        go_ret
        exact ⟨by rw [HV.out]; rfl, rfl⟩
      by_cases hb10 : b = 10
      · subst hb10
        clear hb9
        have HV := hid (show wbri 10 11 10 = true by decide)
        go_enter Tryd.func101, Tryd.ntmps101
        go_wp2_with (go_at_call 83; (first | refine (wletter_v _ true _ (by decide)).mono ?_ | refine (wletter_v _ false _ (by first | decide | assumption)).mono ?_); rintro e w1 ⟨rfl, hw1⟩; obtain rfl := hw1.symm; clear hw1)
        go_ret
        exact ⟨by rw [HV.out]; rfl, rfl⟩
      by_cases hb16 : b = 16
      · subst hb16
        clear hb9 hb10
        have HV := hid (show wbri 10 11 16 = false by decide)
        go_enter Tryd.func101, Tryd.ntmps101
        go_wp2_with (go_at_call 83; (first | refine (wletter_v _ true _ (by decide)).mono ?_ | refine (wletter_v _ false _ (by first | decide | assumption)).mono ?_); rintro e w1 ⟨rfl, hw1⟩; obtain rfl := hw1.symm; clear hw1)
        go_ret
        exact ⟨by rw [HV.out]; rfl, rfl⟩
      have bb9 : (b == 9) = false := beq_eq_false_iff_ne.2 hb9
      have nb9 : (b != 9) = true := bne_iff_ne.2 hb9
      have bb10 : (b == 10) = false := beq_eq_false_iff_ne.2 hb10
      have nb10 : (b != 10) = true := bne_iff_ne.2 hb10
      have bb16 : (b == 16) = false := beq_eq_false_iff_ne.2 hb16
      have nb16 : (b != 16) = true := bne_iff_ne.2 hb16
      have Lb : wletter b = false := by simp [wletter, bb9, bb10]
      clear hb9 hb10 hb16
      have HV := hid (show wbri 10 11 b = false by ((try unfold wbri); (try unfold wletter); simp [*]))
      go_enter Tryd.func101, Tryd.ntmps101
      go_wp2_with (go_at_call 83; (first | refine (wletter_v _ true _ (by decide)).mono ?_ | refine (wletter_v _ false _ (by first | decide | assumption)).mono ?_); rintro e w1 ⟨rfl, hw1⟩; obtain rfl := hw1.symm; clear hw1)
      go_ret
      exact ⟨by rw [HV.out]; rfl, rfl⟩
    by_cases hm12 : m = 12
    · subst hm12
      clear hm14 hm15 hm13 hm11
      by_cases hb9 : b = 9
      · subst hb9
        have HV := hid (show wbri 10 12 9 = false by decide)
        go_enter Tryd.func101, Tryd.ntmps101
        go_wp2_with (go_at_call 83; (first | refine (wletter_v _ true _ (by decide)).mono ?_ | refine (wletter_v _ false _ (by first | decide | assumption)).mono ?_); rintro e w1 ⟨rfl, hw1⟩; obtain rfl := hw1.symm; clear hw1)
        go_ret
        exact ⟨by rw [HV.out]; rfl, rfl⟩
      by_cases hb10 : b = 10
      · subst hb10
        clear hb9
        have HV := hid (show wbri 10 12 10 = false by decide)
        go_enter Tryd.func101, Tryd.ntmps101
        go_wp2_with (go_at_call 83; (first | refine (wletter_v _ true _ (by decide)).mono ?_ | refine (wletter_v _ false _ (by first | decide | assumption)).mono ?_); rintro e w1 ⟨rfl, hw1⟩; obtain rfl := hw1.symm; clear hw1)
        go_ret
        exact ⟨by rw [HV.out]; rfl, rfl⟩
      by_cases hb16 : b = 16
      · subst hb16
        clear hb9 hb10
        have HV := hid (show wbri 10 12 16 = false by decide)
        go_enter Tryd.func101, Tryd.ntmps101
        go_wp2_with (go_at_call 83; (first | refine (wletter_v _ true _ (by decide)).mono ?_ | refine (wletter_v _ false _ (by first | decide | assumption)).mono ?_); rintro e w1 ⟨rfl, hw1⟩; obtain rfl := hw1.symm; clear hw1)
        go_ret
        exact ⟨by rw [HV.out]; rfl, rfl⟩
      have bb9 : (b == 9) = false := beq_eq_false_iff_ne.2 hb9
      have nb9 : (b != 9) = true := bne_iff_ne.2 hb9
      have bb10 : (b == 10) = false := beq_eq_false_iff_ne.2 hb10
      have nb10 : (b != 10) = true := bne_iff_ne.2 hb10
      have bb16 : (b == 16) = false := beq_eq_false_iff_ne.2 hb16
      have nb16 : (b != 16) = true := bne_iff_ne.2 hb16
      have Lb : wletter b = false := by simp [wletter, bb9, bb10]
      clear hb9 hb10 hb16
      have HV := hid (show wbri 10 12 b = false by ((try unfold wbri); (try unfold wletter); simp [*]))
      go_enter Tryd.func101, Tryd.ntmps101
      go_wp2_with (go_at_call 83; (first | refine (wletter_v _ true _ (by decide)).mono ?_ | refine (wletter_v _ false _ (by first | decide | assumption)).mono ?_); rintro e w1 ⟨rfl, hw1⟩; obtain rfl := hw1.symm; clear hw1)
      go_ret
      exact ⟨by rw [HV.out]; rfl, rfl⟩
    have bm14 : (m == 14) = false := beq_eq_false_iff_ne.2 hm14
    have nm14 : (m != 14) = true := bne_iff_ne.2 hm14
    have bm15 : (m == 15) = false := beq_eq_false_iff_ne.2 hm15
    have nm15 : (m != 15) = true := bne_iff_ne.2 hm15
    have bm13 : (m == 13) = false := beq_eq_false_iff_ne.2 hm13
    have nm13 : (m != 13) = true := bne_iff_ne.2 hm13
    have bm11 : (m == 11) = false := beq_eq_false_iff_ne.2 hm11
    have nm11 : (m != 11) = true := bne_iff_ne.2 hm11
    have bm12 : (m == 12) = false := beq_eq_false_iff_ne.2 hm12
    have nm12 : (m != 12) = true := bne_iff_ne.2 hm12
    clear hm14 hm15 hm13 hm11 hm12
    by_cases hb9 : b = 9
    · subst hb9
      have HV := hid (show wbri 10 m 9 = false by ((try unfold wbri); (try unfold wletter); simp [*]))
      go_enter Tryd.func101, Tryd.ntmps101
      go_wp2_with (go_at_call 83; (first | refine (wletter_v _ true _ (by decide)).mono ?_ | refine (wletter_v _ false _ (by first | decide | assumption)).mono ?_); rintro e w1 ⟨rfl, hw1⟩; obtain rfl := hw1.symm; clear hw1)
      go_ret
      exact ⟨by rw [HV.out]; rfl, rfl⟩
    by_cases hb10 : b = 10
    · subst hb10
      clear hb9
      have HV := hid (show wbri 10 m 10 = false by ((try unfold wbri); (try unfold wletter); simp [*]))
      go_enter Tryd.func101, Tryd.ntmps101
      go_wp2_with (go_at_call 83; (first | refine (wletter_v _ true _ (by decide)).mono ?_ | refine (wletter_v _ false _ (by first | decide | assumption)).mono ?_); rintro e w1 ⟨rfl, hw1⟩; obtain rfl := hw1.symm; clear hw1)
      go_ret
      exact ⟨by rw [HV.out]; rfl, rfl⟩
    by_cases hb16 : b = 16
    · subst hb16
      clear hb9 hb10
      have HV := hid (show wbri 10 m 16 = false by ((try unfold wbri); (try unfold wletter); simp [*]))
      go_enter Tryd.func101, Tryd.ntmps101
      go_wp2_with (go_at_call 83; (first | refine (wletter_v _ true _ (by decide)).mono ?_ | refine (wletter_v _ false _ (by first | decide | assumption)).mono ?_); rintro e w1 ⟨rfl, hw1⟩; obtain rfl := hw1.symm; clear hw1)
      go_ret
      exact ⟨by rw [HV.out]; rfl, rfl⟩
    have bb9 : (b == 9) = false := beq_eq_false_iff_ne.2 hb9
    have nb9 : (b != 9) = true := bne_iff_ne.2 hb9
    have bb10 : (b == 10) = false := beq_eq_false_iff_ne.2 hb10
    have nb10 : (b != 10) = true := bne_iff_ne.2 hb10
    have bb16 : (b == 16) = false := beq_eq_false_iff_ne.2 hb16
    have nb16 : (b != 16) = true := bne_iff_ne.2 hb16
    have Lb : wletter b = false := by simp [wletter, bb9, bb10]
    clear hb9 hb10 hb16
    have HV := hid (show wbri 10 m b = false by ((try unfold wbri); (try unfold wletter); simp [*]))
    go_enter Tryd.func101, Tryd.ntmps101
    go_wp2_with (go_at_call 83; (first | refine (wletter_v _ true _ (by decide)).mono ?_ | refine (wletter_v _ false _ (by first | decide | assumption)).mono ?_); rintro e w1 ⟨rfl, hw1⟩; obtain rfl := hw1.symm; clear hw1)
    go_ret
    exact ⟨by rw [HV.out]; rfl, rfl⟩
  by_cases ha16 : a = 16
  · subst ha16
    clear ha9 ha10
    by_cases hm14 : m = 14
    · subst hm14
      by_cases hb9 : b = 9
      · subst hb9
        have HV := hid (show wbri 16 14 9 = false by decide)
        go_enter Tryd.func101, Tryd.ntmps101
        go_wp2_with (go_at_call 83; (first | refine (wletter_v _ true _ (by decide)).mono ?_ | refine (wletter_v _ false _ (by first | decide | assumption)).mono ?_); rintro e w1 ⟨rfl, hw1⟩; obtain rfl := hw1.symm; clear hw1)
        go_ret
        exact ⟨by rw [HV.out]; rfl, rfl⟩
      by_cases hb10 : b = 10
      · subst hb10
        clear hb9
        have HV := hid (show wbri 16 14 10 = false by decide)
        go_enter Tryd.func101, Tryd.ntmps101
        go_wp2_with (go_at_call 83; (first | refine (wletter_v _ true _ (by decide)).mono ?_ | refine (wletter_v _ false _ (by first | decide | assumption)).mono ?_); rintro e w1 ⟨rfl, hw1⟩; obtain rfl := hw1.symm; clear hw1)
        go_ret
        exact ⟨by rw [HV.out]; rfl, rfl⟩
      by_cases hb16 : b = 16
      · subst hb16
        clear hb9 hb10
        have HV := hid (show wbri 16 14 16 = false by decide)
        go_enter Tryd.func101, Tryd.ntmps101
        go_wp2_with (go_at_call 83; (first | refine (wletter_v _ true _ (by decide)).mono ?_ | refine (wletter_v _ false _ (by first | decide | assumption)).mono ?_); rintro e w1 ⟨rfl, hw1⟩; obtain rfl := hw1.symm; clear hw1)
        go_ret
        exact ⟨by rw [HV.out]; rfl, rfl⟩
      have bb9 : (b == 9) = false := beq_eq_false_iff_ne.2 hb9
      have nb9 : (b != 9) = true := bne_iff_ne.2 hb9
      have bb10 : (b == 10) = false := beq_eq_false_iff_ne.2 hb10
      have nb10 : (b != 10) = true := bne_iff_ne.2 hb10
      have bb16 : (b == 16) = false := beq_eq_false_iff_ne.2 hb16
      have nb16 : (b != 16) = true := bne_iff_ne.2 hb16
      have Lb : wletter b = false := by simp [wletter, bb9, bb10]
      clear hb9 hb10 hb16
      have HV := hid (show wbri 16 14 b = false by ((try unfold wbri); (try unfold wletter); simp [*]))
      go_enter Tryd.func101, Tryd.ntmps101
      go_wp2_with (go_at_call 83; (first | refine (wletter_v _ true _ (by decide)).mono ?_ | refine (wletter_v _ false _ (by first | decide | assumption)).mono ?_); rintro e w1 ⟨rfl, hw1⟩; obtain rfl := hw1.symm; clear hw1)
      go_ret
      exact ⟨by rw [HV.out]; rfl, rfl⟩
    by_cases hm15 : m = 15
    · subst hm15
      clear hm14
      by_cases hb9 : b = 9
      · subst hb9
        have HV := hid (show wbri 16 15 9 = false by decide)
        go_enter Tryd.func101, Tryd.ntmps101
        go_wp2_with (go_at_call 83; (first | refine (wletter_v _ true _ (by decide)).mono ?_ | refine (wletter_v _ false _ (by first | decide | assumption)).mono ?_); rintro e w1 ⟨rfl, hw1⟩; obtain rfl := hw1.symm; clear hw1)
        go_ret
        exact ⟨by rw [HV.out]; rfl, rfl⟩
      by_cases hb10 : b = 10
      · subst hb10
        clear hb9
        have HV := hid (show wbri 16 15 10 = false by decide)
        go_enter Tryd.func101, Tryd.ntmps101
        go_wp2_with (go_at_call 83; (first | refine (wletter_v _ true _ (by decide)).mono ?_ | refine (wletter_v _ false _ (by first | decide | assumption)).mono ?_); rintro e w1 ⟨rfl, hw1⟩; obtain rfl := hw1.symm; clear hw1)
        go_ret
        exact ⟨by rw [HV.out]; rfl, rfl⟩
      by_cases hb16 : b = 16
      · subst hb16
        clear hb9 hb10
        have HV := hid (show wbri 16 15 16 = true by decide)
        go_enter Tryd.func101, Tryd.ntmps101
        go_wp2_with (go_at_call 83; (first | refine (wletter_v _ true _ (by decide)).mono ?_ | refine (wletter_v _ false _ (by first | decide | assumption)).mono ?_); rintro e w1 ⟨rfl, hw1⟩; obtain rfl := hw1.symm; clear hw1)
        go_ret
        exact ⟨by rw [HV.out]; rfl, rfl⟩
      have bb9 : (b == 9) = false := beq_eq_false_iff_ne.2 hb9
      have nb9 : (b != 9) = true := bne_iff_ne.2 hb9
      have bb10 : (b == 10) = false := beq_eq_false_iff_ne.2 hb10
      have nb10 : (b != 10) = true := bne_iff_ne.2 hb10
      have bb16 : (b == 16) = false := beq_eq_false_iff_ne.2 hb16
      have nb16 : (b != 16) = true := bne_iff_ne.2 hb16
      have Lb : wletter b = false := by simp [wletter, bb9, bb10]
      clear hb9 hb10 hb16
      have HV := hid (show wbri 16 15 b = false by ((try unfold wbri); (try unfold wletter); simp [*]))
      go_enter Tryd.func101, Tryd.ntmps101
      go_wp2_with (go_at_call 83; (first | refine (wletter_v _ true _ (by decide)).mono ?_ | refine (wletter_v _ false _ (by first | decide | assumption)).mono ?_); rintro e w1 ⟨rfl, hw1⟩; obtain rfl := hw1.symm; clear hw1)
      go_ret
      exact ⟨by rw [HV.out]; rfl, rfl⟩
    by_cases hm13 : m = 13
    · subst hm13
      clear hm14 hm15
      by_cases hb9 : b = 9
      · subst hb9
        have HV := hid (show wbri 16 13 9 = false by decide)
        go_enter Tryd.func101, Tryd.ntmps101
        go_wp2_with (go_at_call 83; (first | refine (wletter_v _ true _ (by decide)).mono ?_ | refine (wletter_v _ false _ (by first | decide | assumption)).mono ?_); rintro e w1 ⟨rfl, hw1⟩; obtain rfl := hw1.symm; clear hw1)
        go_ret
        exact ⟨by rw [HV.out]; rfl, rfl⟩
      by_cases hb10 : b = 10
      · subst hb10
        clear hb9
        have HV := hid (show wbri 16 13 10 = false by decide)
        go_enter Tryd.func101, Tryd.ntmps101
        go_wp2_with (go_at_call 83; (first | refine (wletter_v _ true _ (by decide)).mono ?_ | refine (wletter_v _ false _ (by first | decide | assumption)).mono ?_); rintro e w1 ⟨rfl, hw1⟩; obtain rfl := hw1.symm; clear hw1)
        go_ret
        exact ⟨by rw [HV.out]; rfl, rfl⟩
      by_cases hb16 : b = 16
      · subst hb16
        clear hb9 hb10
        have HV := hid (show wbri 16 13 16 = true by decide)
        go_enter Tryd.func101, Tryd.ntmps101
        go_wp2_with (go_at_call 83; (first | refine (wletter_v _ true _ (by decide)).mono ?_ | refine (wletter_v _ false _ (by first | decide | assumption)).mono ?_); rintro e w1 ⟨rfl, hw1⟩; obtain rfl := hw1.symm; clear hw1)
        go_ret
        exact ⟨by rw [HV.out]; rfl, rfl⟩
      have bb9 : (b == 9) = false := beq_eq_false_iff_ne.2 hb9
      have nb9 : (b != 9) = true := bne_iff_ne.2 hb9
      have bb10 : (b == 10) = false := beq_eq_false_iff_ne.2 hb10
      have nb10 : (b != 10) = true := bne_iff_ne.2 hb10
      have bb16 : (b == 16) = false := beq_eq_false_iff_ne.2 hb16
      have nb16 : (b != 16) = true := bne_iff_ne.2 hb16
      have Lb : wletter b = false := by simp [wletter, bb9, bb10]
      clear hb9 hb10 hb16
      have HV := hid (show wbri 16 13 b = false by ((try unfold wbri); (try unfold wletter); simp [*]))
      go_enter Tryd.func101, Tryd.ntmps101
      go_wp2_with (go_at_call 83; (first | refine (wletter_v _ true _ (by decide)).mono ?_ | refine (wletter_v _ false _ (by first | decide | assumption)).mono ?_); rintro e w1 ⟨rfl, hw1⟩; obtain rfl := hw1.symm; clear hw1)
      go_ret
      exact ⟨by rw [HV.out]; rfl, rfl⟩
    by_cases hm11 : m = 11
    · subst hm11
      clear hm14 hm15 hm13
      by_cases hb9 : b = 9
      · subst hb9
        have HV := hid (show wbri 16 11 9 = false by decide)
        go_enter Tryd.func101, Tryd.ntmps101
        go_wp2_with (go_at_call 83; (first | refine (wletter_v _ true _ (by decide)).mono ?_ | refine (wletter_v _ false _ (by first | decide | assumption)).mono ?_); rintro e w1 ⟨rfl, hw1⟩; obtain rfl := hw1.symm; clear hw1)
        go_ret
        exact ⟨by rw [HV.out]; rfl, rfl⟩
      by_cases hb10 : b = 10
      · subst hb10
        clear hb9
        have HV := hid (show wbri 16 11 10 = false by decide)
        go_enter Tryd.func101, Tryd.ntmps101
        go_wp2_with (go_at_call 83; (first | refine (wletter_v _ true _ (by decide)).mono ?_ | refine (wletter_v _ false _ (by first | decide | assumption)).mono ?_); rintro e w1 ⟨rfl, hw1⟩; obtain rfl := hw1.symm; clear hw1)
        go_ret
        exact ⟨by rw [HV.out]; rfl, rfl⟩
      by_cases hb16 : b = 16
      · subst hb16
        clear hb9 hb10
        have HV := hid (show wbri 16 11 16 = true by decide)
        go_enter Tryd.func101, Tryd.ntmps101
        go_wp2_with (go_at_call 83; (first | refine (wletter_v _ true _ (by decide)).mono ?_ | refine (wletter_v _ false _ (by first | decide | assumption)).mono ?_); rintro e w1 ⟨rfl, hw1⟩; obtain rfl := hw1.symm; clear hw1)
        go_ret
        exact ⟨by rw [HV.out]; rfl, rfl⟩
      have bb9 : (b == 9) = false := beq_eq_false_iff_ne.2 hb9
      have nb9 : (b != 9) = true := bne_iff_ne.2 hb9
      have bb10 : (b == 10) = false := beq_eq_false_iff_ne.2 hb10
      have nb10 : (b != 10) = true := bne_iff_ne.2 hb10
      have bb16 : (b == 16) = false := beq_eq_false_iff_ne.2 hb16
      have nb16 : (b != 16) = true := bne_iff_ne.2 hb16
      have Lb : wletter b = false := by simp [wletter, bb9, bb10]
      clear hb9 hb10 hb16
      have HV := hid (show wbri 16 11 b = false by ((try unfold wbri); (try unfold wletter); simp [*]))
      go_enter Tryd.func101, Tryd.ntmps101
      go_wp2_with (go_at_call 83; (first | refine (wletter_v _ true _ (by decide)).mono ?_ | refine (wletter_v _ false _ (by first | decide | assumption)).mono ?_); rintro e w1 ⟨rfl, hw1⟩; obtain rfl := hw1.symm; clear hw1)
      go_ret
      exact ⟨by rw [HV.out]; rfl, rfl⟩
    by_cases hm12 : m = 12
    · subst hm12
      clear hm14 hm15 hm13 hm11
      by_cases hb9 : b = 9
      · subst hb9
        have HV := hid (show wbri 16 12 9 = false by decide)
        go_enter Tryd.func101, Tryd.ntmps101
        go_wp2_with (go_at_call 83; (first | refine (wletter_v _ true _ (by decide)).mono ?_ | refine (wletter_v _ false _ (by first | decide | assumption)).mono ?_); rintro e w1 ⟨rfl, hw1⟩; obtain rfl := hw1.symm; clear hw1)
        go_ret
        exact ⟨by rw [HV.out]; rfl, rfl⟩
      by_cases hb10 : b = 10
      · subst hb10
        clear hb9
        have HV := hid (show wbri 16 12 10 = false by decide)
        go_enter Tryd.func101, Tryd.ntmps101
        go_wp2_with (go_at_call 83; (first | refine (wletter_v _ true _ (by decide)).mono ?_ | refine (wletter_v _ false _ (by first | decide | assumption)).mono ?_); rintro e w1 ⟨rfl, hw1⟩; obtain rfl := hw1.symm; clear hw1)
        go_ret
        exact ⟨by rw [HV.out]; rfl, rfl⟩
      by_cases hb16 : b = 16
      · subst hb16
        clear hb9 hb10
        have HV := hid (show wbri 16 12 16 = false by decide)
        go_enter Tryd.func101, Tryd.ntmps101
        go_wp2_with (go_at_call 83; (first | refine (wletter_v _ true _ (by decide)).mono ?_ | refine (wletter_v _ false _ (by first | decide | assumption)).mono ?_); rintro e w1 ⟨rfl, hw1⟩; obtain rfl := hw1.symm; clear hw1)
        go_ret
        exact ⟨by rw [HV.out]; rfl, rfl⟩
      have bb9 : (b == 9) = false := beq_eq_false_iff_ne.2 hb9
      have nb9 : (b != 9) = true := bne_iff_ne.2 hb9
      have bb10 : (b == 10) = false := beq_eq_false_iff_ne.2 hb10
      have nb10 : (b != 10) = true := bne_iff_ne.2 hb10
      have bb16 : (b == 16) = false := beq_eq_false_iff_ne.2 hb16
      have nb16 : (b != 16) = true := bne_iff_ne.2 hb16
      have Lb : wletter b = false := by simp [wletter, bb9, bb10]
      clear hb9 hb10 hb16
      have HV := hid (show wbri 16 12 b = false by ((try unfold wbri); (try unfold wletter); simp [*]))
      go_enter Tryd.func101, Tryd.ntmps101
      go_wp2_with (go_at_call 83; (first | refine (wletter_v _ true _ (by decide)).mono ?_ | refine (wletter_v _ false _ (by first | decide | assumption)).mono ?_); rintro e w1 ⟨rfl, hw1⟩; obtain rfl := hw1.symm; clear hw1)
      go_ret
      exact ⟨by rw [HV.out]; rfl, rfl⟩
    have bm14 : (m == 14) = false := beq_eq_false_iff_ne.2 hm14
    have nm14 : (m != 14) = true := bne_iff_ne.2 hm14
    have bm15 : (m == 15) = false := beq_eq_false_iff_ne.2 hm15
    have nm15 : (m != 15) = true := bne_iff_ne.2 hm15
    have bm13 : (m == 13) = false := beq_eq_false_iff_ne.2 hm13
    have nm13 : (m != 13) = true := bne_iff_ne.2 hm13
    have bm11 : (m == 11) = false := beq_eq_false_iff_ne.2 hm11
    have nm11 : (m != 11) = true := bne_iff_ne.2 hm11
    have bm12 : (m == 12) = false := beq_eq_false_iff_ne.2 hm12
    have nm12 : (m != 12) = true := bne_iff_ne.2 hm12
    clear hm14 hm15 hm13 hm11 hm12
    by_cases hb9 : b = 9
    · subst hb9
      have HV := hid (show wbri 16 m 9 = false by ((try unfold wbri); (try unfold wletter); simp [*]))
      go_enter Tryd.func101, Tryd.ntmps101
      go_wp2_with (go_at_call 83; (first | refine (wletter_v _ true _ (by decide)).mono ?_ | refine (wletter_v _ false _ (by first | decide | assumption)).mono ?_); rintro e w1 ⟨rfl, hw1⟩; obtain rfl := hw1.symm; clear hw1)
      go_ret
      exact ⟨by rw [HV.out]; rfl, rfl⟩
    by_cases hb10 : b = 10
    · subst hb10
      clear hb9
      have HV := hid (show wbri 16 m 10 = false by ((try unfold wbri); (try unfold wletter); simp [*]))
      go_enter Tryd.func101, Tryd.ntmps101
      go_wp2_with (go_at_call 83; (first | refine (wletter_v _ true _ (by decide)).mono ?_ | refine (wletter_v _ false _ (by first | decide | assumption)).mono ?_); rintro e w1 ⟨rfl, hw1⟩; obtain rfl := hw1.symm; clear hw1)
      go_ret
      exact ⟨by rw [HV.out]; rfl, rfl⟩
    by_cases hb16 : b = 16
    · subst hb16
      clear hb9 hb10
      have HV := hid (show wbri 16 m 16 = false by ((try unfold wbri); (try unfold wletter); simp [*]))
      go_enter Tryd.func101, Tryd.ntmps101
      go_wp2_with (go_at_call 83; (first | refine (wletter_v _ true _ (by decide)).mono ?_ | refine (wletter_v _ false _ (by first | decide | assumption)).mono ?_); rintro e w1 ⟨rfl, hw1⟩; obtain rfl := hw1.symm; clear hw1)
      go_ret
      exact ⟨by rw [HV.out]; rfl, rfl⟩
    have bb9 : (b == 9) = false := beq_eq_false_iff_ne.2 hb9
    have nb9 : (b != 9) = true := bne_iff_ne.2 hb9
    have bb10 : (b == 10) = false := beq_eq_false_iff_ne.2 hb10
    have nb10 : (b != 10) = true := bne_iff_ne.2 hb10
    have bb16 : (b == 16) = false := beq_eq_false_iff_ne.2 hb16
    have nb16 : (b != 16) = true := bne_iff_ne.2 hb16
    have Lb : wletter b = false := by simp [wletter, bb9, bb10]
    clear hb9 hb10 hb16
    have HV := hid (show wbri 16 m b = false by ((try unfold wbri); (try unfold wletter); simp [*]))
    go_enter Tryd.func101, Tryd.ntmps101
    go_wp2_with (go_at_call 83; (first | refine (wletter_v _ true _ (by decide)).mono ?_ | refine (wletter_v _ false _ (by first | decide | assumption)).mono ?_); rintro e w1 ⟨rfl, hw1⟩; obtain rfl := hw1.symm; clear hw1)
    go_ret
    exact ⟨by rw [HV.out]; rfl, rfl⟩
  have ba9 : (a == 9) = false := beq_eq_false_iff_ne.2 ha9
  have na9 : (a != 9) = true := bne_iff_ne.2 ha9
  have ba10 : (a == 10) = false := beq_eq_false_iff_ne.2 ha10
  have na10 : (a != 10) = true := bne_iff_ne.2 ha10
  have ba16 : (a == 16) = false := beq_eq_false_iff_ne.2 ha16
  have na16 : (a != 16) = true := bne_iff_ne.2 ha16
  have La : wletter a = false := by simp [wletter, ba9, ba10]
  clear ha9 ha10 ha16
  by_cases hm14 : m = 14
  · subst hm14
    by_cases hb9 : b = 9
    · subst hb9
      have HV := hid (show wbri a 14 9 = false by ((try unfold wbri); (try unfold wletter); simp [*]))
      go_enter Tryd.func101, Tryd.ntmps101
      go_wp2_with (go_at_call 83; (first | refine (wletter_v _ true _ (by decide)).mono ?_ | refine (wletter_v _ false _ (by first | decide | assumption)).mono ?_); rintro e w1 ⟨rfl, hw1⟩; obtain rfl := hw1.symm; clear hw1)
      go_ret
      exact ⟨by rw [HV.out]; rfl, rfl⟩
    by_cases hb10 : b = 10
    · subst hb10
      clear hb9
      have HV := hid (show wbri a 14 10 = false by ((try unfold wbri); (try unfold wletter); simp [*]))
      go_enter Tryd.func101, Tryd.ntmps101
      go_wp2_with (go_at_call 83; (first | refine (wletter_v _ true _ (by decide)).mono ?_ | refine (wletter_v _ false _ (by first | decide | assumption)).mono ?_); rintro e w1 ⟨rfl, hw1⟩; obtain rfl := hw1.symm; clear hw1)
      go_ret
      exact ⟨by rw [HV.out]; rfl, rfl⟩
    by_cases hb16 : b = 16
    · subst hb16
      clear hb9 hb10
      have HV := hid (show wbri a 14 16 = false by ((try unfold wbri); (try unfold wletter); simp [*]))
      go_enter Tryd.func101, Tryd.ntmps101
      go_wp2_with (go_at_call 83; (first | refine (wletter_v _ true _ (by decide)).mono ?_ | refine (wletter_v _ false _ (by first | decide | assumption)).mono ?_); rintro e w1 ⟨rfl, hw1⟩; obtain rfl := hw1.symm; clear hw1)
      go_ret
      exact ⟨by rw [HV.out]; rfl, rfl⟩
    have bb9 : (b == 9) = false := beq_eq_false_iff_ne.2 hb9
    have nb9 : (b != 9) = true := bne_iff_ne.2 hb9
    have bb10 : (b == 10) = false := beq_eq_false_iff_ne.2 hb10
    have nb10 : (b != 10) = true := bne_iff_ne.2 hb10
    have bb16 : (b == 16) = false := beq_eq_false_iff_ne.2 hb16
    have nb16 : (b != 16) = true := bne_iff_ne.2 hb16
    have Lb : wletter b = false := by simp [wletter, bb9, bb10]
    clear hb9 hb10 hb16
    have HV := hid (show wbri a 14 b = false by ((try unfold wbri); (try unfold wletter); simp [*]))
    go_enter Tryd.func101, Tryd.ntmps101
    go_wp2_with (go_at_call 83; (first | refine (wletter_v _ true _ (by decide)).mono ?_ | refine (wletter_v _ false _ (by first | decide | assumption)).mono ?_); rintro e w1 ⟨rfl, hw1⟩; obtain rfl := hw1.symm; clear hw1)
    go_ret
    exact ⟨by rw [HV.out]; rfl, rfl⟩
  by_cases hm15 : m = 15
  · subst hm15
    clear hm14
    by_cases hb9 : b = 9
    · subst hb9
      have HV := hid (show wbri a 15 9 = false by ((try unfold wbri); (try unfold wletter); simp [*]))
      go_enter Tryd.func101, Tryd.ntmps101
      go_wp2_with (go_at_call 83; (first | refine (wletter_v _ true _ (by decide)).mono ?_ | refine (wletter_v _ false _ (by first | decide | assumption)).mono ?_); rintro e w1 ⟨rfl, hw1⟩; obtain rfl := hw1.symm; clear hw1)
      go_ret
      exact ⟨by rw [HV.out]; rfl, rfl⟩
    by_cases hb10 : b = 10
    · subst hb10
      clear hb9
      have HV := hid (show wbri a 15 10 = false by ((try unfold wbri); (try unfold wletter); simp [*]))
      go_enter Tryd.func101, Tryd.ntmps101
      go_wp2_with (go_at_call 83; (first | refine (wletter_v _ true _ (by decide)).mono ?_ | refine (wletter_v _ false _ (by first | decide | assumption)).mono ?_); rintro e w1 ⟨rfl, hw1⟩; obtain rfl := hw1.symm; clear hw1)
      go_ret
      exact ⟨by rw [HV.out]; rfl, rfl⟩
    by_cases hb16 : b = 16
    · subst hb16
      clear hb9 hb10
      have HV := hid (show wbri a 15 16 = false by ((try unfold wbri); (try unfold wletter); simp [*]))
      go_enter Tryd.func101, Tryd.ntmps101
      go_wp2_with (go_at_call 83; (first | refine (wletter_v _ true _ (by decide)).mono ?_ | refine (wletter_v _ false _ (by first | decide | assumption)).mono ?_); rintro e w1 ⟨rfl, hw1⟩; obtain rfl := hw1.symm; clear hw1)
      go_ret
      exact ⟨by rw [HV.out]; rfl, rfl⟩
    have bb9 : (b == 9) = false := beq_eq_false_iff_ne.2 hb9
    have nb9 : (b != 9) = true := bne_iff_ne.2 hb9
    have bb10 : (b == 10) = false := beq_eq_false_iff_ne.2 hb10
    have nb10 : (b != 10) = true := bne_iff_ne.2 hb10
    have bb16 : (b == 16) = false := beq_eq_false_iff_ne.2 hb16
    have nb16 : (b != 16) = true := bne_iff_ne.2 hb16
    have Lb : wletter b = false := by simp [wletter, bb9, bb10]
    clear hb9 hb10 hb16
    have HV := hid (show wbri a 15 b = false by ((try unfold wbri); (try unfold wletter); simp [*]))
    go_enter Tryd.func101, Tryd.ntmps101
    go_wp2_with (go_at_call 83; (first | refine (wletter_v _ true _ (by decide)).mono ?_ | refine (wletter_v _ false _ (by first | decide | assumption)).mono ?_); rintro e w1 ⟨rfl, hw1⟩; obtain rfl := hw1.symm; clear hw1)
    go_ret
    exact ⟨by rw [HV.out]; rfl, rfl⟩
  by_cases hm13 : m = 13
  · subst hm13
    clear hm14 hm15
    by_cases hb9 : b = 9
    · subst hb9
      have HV := hid (show wbri a 13 9 = false by ((try unfold wbri); (try unfold wletter); simp [*]))
      go_enter Tryd.func101, Tryd.ntmps101
      go_wp2_with (go_at_call 83; (first | refine (wletter_v _ true _ (by decide)).mono ?_ | refine (wletter_v _ false _ (by first | decide | assumption)).mono ?_); rintro e w1 ⟨rfl, hw1⟩; obtain rfl := hw1.symm; clear hw1)
      go_ret
      exact ⟨by rw [HV.out]; rfl, rfl⟩
    by_cases hb10 : b = 10
    · subst hb10
      clear hb9
      have HV := hid (show wbri a 13 10 = false by ((try unfold wbri); (try unfold wletter); simp [*]))
      go_enter Tryd.func101, Tryd.ntmps101
      go_wp2_with (go_at_call 83; (first | refine (wletter_v _ true _ (by decide)).mono ?_ | refine (wletter_v _ false _ (by first | decide | assumption)).mono ?_); rintro e w1 ⟨rfl, hw1⟩; obtain rfl := hw1.symm; clear hw1)
      go_ret
      exact ⟨by rw [HV.out]; rfl, rfl⟩
    by_cases hb16 : b = 16
    · subst hb16
      clear hb9 hb10
      have HV := hid (show wbri a 13 16 = false by ((try unfold wbri); (try unfold wletter); simp [*]))
      go_enter Tryd.func101, Tryd.ntmps101
      go_wp2_with (go_at_call 83; (first | refine (wletter_v _ true _ (by decide)).mono ?_ | refine (wletter_v _ false _ (by first | decide | assumption)).mono ?_); rintro e w1 ⟨rfl, hw1⟩; obtain rfl := hw1.symm; clear hw1)
      go_ret
      exact ⟨by rw [HV.out]; rfl, rfl⟩
    have bb9 : (b == 9) = false := beq_eq_false_iff_ne.2 hb9
    have nb9 : (b != 9) = true := bne_iff_ne.2 hb9
    have bb10 : (b == 10) = false := beq_eq_false_iff_ne.2 hb10
    have nb10 : (b != 10) = true := bne_iff_ne.2 hb10
    have bb16 : (b == 16) = false := beq_eq_false_iff_ne.2 hb16
    have nb16 : (b != 16) = true := bne_iff_ne.2 hb16
    have Lb : wletter b = false := by simp [wletter, bb9, bb10]
    clear hb9 hb10 hb16
    have HV := hid (show wbri a 13 b = false by ((try unfold wbri); (try unfold wletter); simp [*]))
    go_enter Tryd.func101, Tryd.ntmps101
    go_wp2_with (go_at_call 83; (first | refine (wletter_v _ true _ (by decide)).mono ?_ | refine (wletter_v _ false _ (by first | decide | assumption)).mono ?_); rintro e w1 ⟨rfl, hw1⟩; obtain rfl := hw1.symm; clear hw1)
    go_ret
    exact ⟨by rw [HV.out]; rfl, rfl⟩
  by_cases hm11 : m = 11
  · subst hm11
    clear hm14 hm15 hm13
    by_cases hb9 : b = 9
    · subst hb9
      have HV := hid (show wbri a 11 9 = false by ((try unfold wbri); (try unfold wletter); simp [*]))
      go_enter Tryd.func101, Tryd.ntmps101
      go_wp2_with (go_at_call 83; (first | refine (wletter_v _ true _ (by decide)).mono ?_ | refine (wletter_v _ false _ (by first | decide | assumption)).mono ?_); rintro e w1 ⟨rfl, hw1⟩; obtain rfl := hw1.symm; clear hw1)
      go_ret
      exact ⟨by rw [HV.out]; rfl, rfl⟩
    by_cases hb10 : b = 10
    · subst hb10
      clear hb9
      have HV := hid (show wbri a 11 10 = false by ((try unfold wbri); (try unfold wletter); simp [*]))
      go_enter Tryd.func101, Tryd.ntmps101
      go_wp2_with (go_at_call 83; (first | refine (wletter_v _ true _ (by decide)).mono ?_ | refine (wletter_v _ false _ (by first | decide | assumption)).mono ?_); rintro e w1 ⟨rfl, hw1⟩; obtain rfl := hw1.symm; clear hw1)
      go_ret
      exact ⟨by rw [HV.out]; rfl, rfl⟩
    by_cases hb16 : b = 16
    · subst hb16
      clear hb9 hb10
      have HV := hid (show wbri a 11 16 = false by ((try unfold wbri); (try unfold wletter); simp [*]))
      go_enter Tryd.func101, Tryd.ntmps101
      go_wp2_with (go_at_call 83; (first | refine (wletter_v _ true _ (by decide)).mono ?_ | refine (wletter_v _ false _ (by first | decide | assumption)).mono ?_); rintro e w1 ⟨rfl, hw1⟩; obtain rfl := hw1.symm; clear hw1)
      go_ret
      exact ⟨by rw [HV.out]; rfl, rfl⟩
    have bb9 : (b == 9) = false := beq_eq_false_iff_ne.2 hb9
    have nb9 : (b != 9) = true := bne_iff_ne.2 hb9
    have bb10 : (b == 10) = false := beq_eq_false_iff_ne.2 hb10
    have nb10 : (b != 10) = true := bne_iff_ne.2 hb10
    have bb16 : (b == 16) = false := beq_eq_false_iff_ne.2 hb16
    have nb16 : (b != 16) = true := bne_iff_ne.2 hb16
    have Lb : wletter b = false := by simp [wletter, bb9, bb10]
    clear hb9 hb10 hb16
    have HV := hid (show wbri a 11 b = false by ((try unfold wbri); (try unfold wletter); simp [*]))
    go_enter Tryd.func101, Tryd.ntmps101
    go_wp2_with (go_at_call 83; (first | refine (wletter_v _ true _ (by decide)).mono ?_ | refine (wletter_v _ false _ (by first | decide | assumption)).mono ?_); rintro e w1 ⟨rfl, hw1⟩; obtain rfl := hw1.symm; clear hw1)
    go_ret
    exact ⟨by rw [HV.out]; rfl, rfl⟩
  by_cases hm12 : m = 12
  · subst hm12
    clear hm14 hm15 hm13 hm11
    by_cases hb9 : b = 9
    · subst hb9
      have HV := hid (show wbri a 12 9 = false by ((try unfold wbri); (try unfold wletter); simp [*]))
      go_enter Tryd.func101, Tryd.ntmps101
      go_wp2_with (go_at_call 83; (first | refine (wletter_v _ true _ (by decide)).mono ?_ | refine (wletter_v _ false _ (by first | decide | assumption)).mono ?_); rintro e w1 ⟨rfl, hw1⟩; obtain rfl := hw1.symm; clear hw1)
      go_ret
      exact ⟨by rw [HV.out]; rfl, rfl⟩
    by_cases hb10 : b = 10
    · subst hb10
      clear hb9
      have HV := hid (show wbri a 12 10 = false by ((try unfold wbri); (try unfold wletter); simp [*]))
      go_enter Tryd.func101, Tryd.ntmps101
      go_wp2_with (go_at_call 83; (first | refine (wletter_v _ true _ (by decide)).mono ?_ | refine (wletter_v _ false _ (by first | decide | assumption)).mono ?_); rintro e w1 ⟨rfl, hw1⟩; obtain rfl := hw1.symm; clear hw1)
      go_ret
      exact ⟨by rw [HV.out]; rfl, rfl⟩
    by_cases hb16 : b = 16
    · subst hb16
      clear hb9 hb10
      have HV := hid (show wbri a 12 16 = false by ((try unfold wbri); (try unfold wletter); simp [*]))
      go_enter Tryd.func101, Tryd.ntmps101
      go_wp2_with (go_at_call 83; (first | refine (wletter_v _ true _ (by decide)).mono ?_ | refine (wletter_v _ false _ (by first | decide | assumption)).mono ?_); rintro e w1 ⟨rfl, hw1⟩; obtain rfl := hw1.symm; clear hw1)
      go_ret
      exact ⟨by rw [HV.out]; rfl, rfl⟩
    have bb9 : (b == 9) = false := beq_eq_false_iff_ne.2 hb9
    have nb9 : (b != 9) = true := bne_iff_ne.2 hb9
    have bb10 : (b == 10) = false := beq_eq_false_iff_ne.2 hb10
    have nb10 : (b != 10) = true := bne_iff_ne.2 hb10
    have bb16 : (b == 16) = false := beq_eq_false_iff_ne.2 hb16
    have nb16 : (b != 16) = true := bne_iff_ne.2 hb16
    have Lb : wletter b = false := by simp [wletter, bb9, bb10]
    clear hb9 hb10 hb16
    have HV := hid (show wbri a 12 b = false by ((try unfold wbri); (try unfold wletter); simp [*]))
    go_enter Tryd.func101, Tryd.ntmps101
    go_wp2_with (go_at_call 83; (first | refine (wletter_v _ true _ (by decide)).mono ?_ | refine (wletter_v _ false _ (by first | decide | assumption)).mono ?_); rintro e w1 ⟨rfl, hw1⟩; obtain rfl := hw1.symm; clear hw1)
    go_ret
    exact ⟨by rw [HV.out]; rfl, rfl⟩
  have bm14 : (m == 14) = false := beq_eq_false_iff_ne.2 hm14
  have nm14 : (m != 14) = true := bne_iff_ne.2 hm14
  have bm15 : (m == 15) = false := beq_eq_false_iff_ne.2 hm15
  have nm15 : (m != 15) = true := bne_iff_ne.2 hm15
  have bm13 : (m == 13) = false := beq_eq_false_iff_ne.2 hm13
  have nm13 : (m != 13) = true := bne_iff_ne.2 hm13
  have bm11 : (m == 11) = false := beq_eq_false_iff_ne.2 hm11
  have nm11 : (m != 11) = true := bne_iff_ne.2 hm11
  have bm12 : (m == 12) = false := beq_eq_false_iff_ne.2 hm12
  have nm12 : (m != 12) = true := bne_iff_ne.2 hm12
  clear hm14 hm15 hm13 hm11 hm12
  by_cases hb9 : b = 9
  · subst hb9
    have HV := hid (show wbri a m 9 = false by ((try unfold wbri); (try unfold wletter); simp [*]))
    go_enter Tryd.func101, Tryd.ntmps101
    go_wp2_with (go_at_call 83; (first | refine (wletter_v _ true _ (by decide)).mono ?_ | refine (wletter_v _ false _ (by first | decide | assumption)).mono ?_); rintro e w1 ⟨rfl, hw1⟩; obtain rfl := hw1.symm; clear hw1)
    go_ret
    exact ⟨by rw [HV.out]; rfl, rfl⟩
  by_cases hb10 : b = 10
  · subst hb10
    clear hb9
    have HV := hid (show wbri a m 10 = false by ((try unfold wbri); (try unfold wletter); simp [*]))
    go_enter Tryd.func101, Tryd.ntmps101
    go_wp2_with (go_at_call 83; (first | refine (wletter_v _ true _ (by decide)).mono ?_ | refine (wletter_v _ false _ (by first | decide | assumption)).mono ?_); rintro e w1 ⟨rfl, hw1⟩; obtain rfl := hw1.symm; clear hw1)
    go_ret
    exact ⟨by rw [HV.out]; rfl, rfl⟩
  by_cases hb16 : b = 16
  · subst hb16
    clear hb9 hb10
    have HV := hid (show wbri a m 16 = false by ((try unfold wbri); (try unfold wletter); simp [*]))
    go_enter Tryd.func101, Tryd.ntmps101
    go_wp2_with (go_at_call 83; (first | refine (wletter_v _ true _ (by decide)).mono ?_ | refine (wletter_v _ false _ (by first | decide | assumption)).mono ?_); rintro e w1 ⟨rfl, hw1⟩; obtain rfl := hw1.symm; clear hw1)
    go_ret
    exact ⟨by rw [HV.out]; rfl, rfl⟩
  have bb9 : (b == 9) = false := beq_eq_false_iff_ne.2 hb9
  have nb9 : (b != 9) = true := bne_iff_ne.2 hb9
  have bb10 : (b == 10) = false := beq_eq_false_iff_ne.2 hb10
  have nb10 : (b != 10) = true := bne_iff_ne.2 hb10
  have bb16 : (b == 16) = false := beq_eq_false_iff_ne.2 hb16
  have nb16 : (b != 16) = true := bne_iff_ne.2 hb16
  have Lb : wletter b = false := by simp [wletter, bb9, bb10]
  clear hb9 hb10 hb16
  have HV := hid (show wbri a m b = false by ((try unfold wbri); (try unfold wletter); simp [*]))
  go_enter Tryd.func101, Tryd.ntmps101
  go_wp2_with (go_at_call 83; (first | refine (wletter_v _ true _ (by decide)).mono ?_ | refine (wletter_v _ false _ (by first | decide | assumption)).mono ?_); rintro e w1 ⟨rfl, hw1⟩; obtain rfl := hw1.symm; clear hw1)
  go_ret
  exact ⟨by rw [HV.out]; rfl, rfl⟩
end Go.Proofs.YtkophiklkgefnaaDoor.Wd
/- The contracts of joined and cut (package word). -/
namespace Go.Proofs.YtkophiklkgefnaaDoor.Wd
open Go.RowKit

theorem wdec_le (l : List UInt8) : (dec l).2 ≤ l.length := by
  by_cases h : l = []
  · subst h; exact Nat.le_refl _
  · exact dec_le l h
set_option maxHeartbeats 2000000 in
theorem wjoined_any (s : List UInt8) (p : Nat) (w : World) (ht : TbW w) (hl : s.length ≤ 1000000000) (hp : p ≤ s.length) :
    Calls Tryd.prog 72 #[.string ⟨s.toArray⟩, .int .i64 p] w fun e w' => e = .returned (.bool (wjoin s p)) ∧ Below w.heap.size w w' := by
  have HT := hid ht
  have HW := hid (wdec_le (s.drop p))
  have hdl : (s.drop p).length = s.length - p := List.length_drop
  have htl : (s.take p).length = p := by rw [List.length_take]; omega
  have HBL := hid (wbs_le _ (s.take p) (Nat.le_refl _))
  have HDL := hid hdl
  have HTL := hid htl
  clear ht hdl htl
  go_enter Tryd.func72, Tryd.ntmps72
  go_wp2_with fail
  rw [wtake]
  refine (wbase_any (s.take p) w HT.out (by have := HTL.out; omega)).mono ?_
  rintro e w1 ⟨rfl, be⟩
  have HB1 := hid be
  obtain ⟨a, ha⟩ : ∃ a, a = (wbs (s.take p)).1 := ⟨_, rfl⟩
  obtain ⟨f, hf⟩ : ∃ f, f = (wbs (s.take p)).2 := ⟨_, rfl⟩
  have HA := hid ha
  have HF := hid hf
  have hfl : f ≤ s.length := by have h1 := HBL.out; have h2 := HTL.out; rw [hf]; omega
  rw [← ha, ← hf]
  clear be ha hf
  go_wp2_with fail
  rw [ext_drop]
  refine (wfirst_any (s.drop p) w1 (HT.out.below HB1.out)).mono ?_
  rintro e w2 ⟨rfl, be⟩
  have HB2 := hid (HB1.out.trans (be.mono HB1.out.size))
  obtain ⟨b, hb⟩ : ∃ b, b = wfirst (s.drop p) := ⟨_, rfl⟩
  obtain ⟨n, hn⟩ : ∃ n, n = (dec (s.drop p)).2 := ⟨_, rfl⟩
  have HBE := hid hb
  have HN := hid hn
  have hpn : p + n ≤ s.length := by have := HW.out; have := HDL.out; omega
  rw [← hb, ← hn]
  clear be hb hn
  have HJ := hid (show wjoin s p = if wtog a b then true else if a == 7 && b == 7 then wod (s.take p) false else if wmid b then wbri a b (won (s.drop (p + n))) else if wmid a then wbri (wbs (s.take f)).1 a b else false by rw [HA.out, HBE.out, HN.out, HF.out]; rfl)
  clear HA HBE HN HW HF HBL
  go_wp2_with fail
  refine (wtog_any a b w2).mono ?_
  rintro e w3 ⟨rfl, hw3⟩
  obtain rfl := hw3.symm
  clear hw3
  obtain ⟨q3, hq3⟩ : ∃ q, q = wtog a b := ⟨_, rfl⟩
  rw [← hq3] at HJ
  rw [← hq3]
  clear hq3
  cases q3 with
  | true =>
    go_wp2
    go_ret
    exact ⟨by rw [HJ.out]; rfl, HB2.out⟩
  | false =>
    by_cases h77 : a = 7 ∧ b = 7
    · obtain ⟨rfl, rfl⟩ := h77
      go_wp2_with fail
      rw [wtake]
      refine (wodd_any (s.take p) w2 (HT.out.below HB2.out) (by have := HTL.out; omega)).mono ?_
      rintro e w4 ⟨rfl, be⟩
      have HB4 := hid (HB2.out.trans (be.mono HB2.out.size))
      obtain ⟨v, hv⟩ : ∃ v, v = wod (s.take p) false := ⟨_, rfl⟩
      rw [← hv] at HJ
      rw [← hv]
      clear be hv
      go_wp2
      go_ret
      exact ⟨by rw [HJ.out]; rfl, HB4.out⟩
    have h7f : (a == 7 && b == 7) = false := by
      by_cases h : a = 7
      · rw [beq_eq_false_iff_ne.2 (fun h' => h77 ⟨h, h'⟩), Bool.and_false]
      · rw [beq_eq_false_iff_ne.2 h, Bool.false_and]
    have HJ2 := hid (show wjoin s p = if wmid b then wbri a b (won (s.drop (p + n))) else if wmid a then wbri (wbs (s.take f)).1 a b else false by rw [HJ.out, h7f]; rfl)
    have H7 := hid (show ∀ X : Prop, (a = 7 → (b == 7) = false → X) → ((a == 7) = false → X) → X from fun X k1 k2 => by
      by_cases h : a = 7
      · exact k1 h (beq_eq_false_iff_ne.2 (fun h' => h77 ⟨h, h'⟩))
      · exact k2 (beq_eq_false_iff_ne.2 h))
    clear HJ h7f h77
    refine H7.out _ (fun e7 b7 => ?_) (fun a7 => ?_)
    · subst e7
      clear H7
      go_wp2_with fail
      refine (wmid_any b w2).mono ?_
      rintro e w3 ⟨rfl, hw3⟩
      obtain rfl := hw3.symm
      clear hw3
      obtain ⟨q4, hq4⟩ : ∃ q, q = wmid b := ⟨_, rfl⟩
      rw [← hq4] at HJ2
      rw [← hq4]
      clear hq4
      cases q4 with
      | true =>
        go_wp2_with fail
        rw [ext_drop]
        refine (wonward_any (s.drop (p + n)) w2).mono ?_
        rintro e w4 ⟨rfl, be⟩
        have HB4 := hid (HB2.out.trans (be.mono HB2.out.size))
        obtain ⟨x, hx⟩ : ∃ x, x = won (s.drop (p + n)) := ⟨_, rfl⟩
        rw [← hx] at HJ2
        rw [← hx]
        clear be hx
        go_wp2_with fail
        refine (wbri_any 7 b x w4).mono ?_
        rintro e w5 ⟨rfl, hw5⟩
        obtain rfl := hw5.symm
        clear hw5
        obtain ⟨v, hv⟩ : ∃ v, v = wbri 7 b x := ⟨_, rfl⟩
        rw [← hv] at HJ2
        rw [← hv]
        clear hv
        go_wp2
        go_ret
        exact ⟨by rw [HJ2.out]; rfl, HB4.out⟩
      | false =>
        go_wp2_with fail
        refine (wmid_any 7 w2).mono ?_
        rintro e w3 ⟨rfl, hw3⟩
        obtain rfl := hw3.symm
        clear hw3
        rw [show wmid 7 = false by decide]
        have HJ3 := hid (show wjoin s p = false from HJ2.out)
        go_wp2
        go_ret
        exact ⟨by rw [HJ3.out]; rfl, HB2.out⟩
    · clear H7
      go_wp2_with fail
      refine (wmid_any b w2).mono ?_
      rintro e w3 ⟨rfl, hw3⟩
      obtain rfl := hw3.symm
      clear hw3
      obtain ⟨q4, hq4⟩ : ∃ q, q = wmid b := ⟨_, rfl⟩
      rw [← hq4] at HJ2
      rw [← hq4]
      clear hq4
      cases q4 with
      | true =>
        go_wp2_with fail
        rw [ext_drop]
        refine (wonward_any (s.drop (p + n)) w2).mono ?_
        rintro e w4 ⟨rfl, be⟩
        have HB4 := hid (HB2.out.trans (be.mono HB2.out.size))
        obtain ⟨x, hx⟩ : ∃ x, x = won (s.drop (p + n)) := ⟨_, rfl⟩
        rw [← hx] at HJ2
        rw [← hx]
        clear be hx
        go_wp2_with fail
        refine (wbri_any a b x w4).mono ?_
        rintro e w5 ⟨rfl, hw5⟩
        obtain rfl := hw5.symm
        clear hw5
        obtain ⟨v, hv⟩ : ∃ v, v = wbri a b x := ⟨_, rfl⟩
        rw [← hv] at HJ2
        rw [← hv]
        clear hv
        go_wp2
        go_ret
        exact ⟨by rw [HJ2.out]; rfl, HB4.out⟩
      | false =>
        go_wp2_with fail
        refine (wmid_any a w2).mono ?_
        rintro e w3 ⟨rfl, hw3⟩
        obtain rfl := hw3.symm
        clear hw3
        obtain ⟨q5, hq5⟩ : ∃ q, q = wmid a := ⟨_, rfl⟩
        rw [← hq5] at HJ2
        rw [← hq5]
        clear hq5
        cases q5 with
        | true =>
          go_wp2_with fail
          rw [wtake]
          refine (wbase_any (s.take f) w2 (HT.out.below HB2.out) (by rw [List.length_take]; omega)).mono ?_
          rintro e w4 ⟨rfl, be⟩
          have HB4 := hid (HB2.out.trans (be.mono HB2.out.size))
          obtain ⟨x, hx⟩ : ∃ x, x = (wbs (s.take f)).1 := ⟨_, rfl⟩
          obtain ⟨y, hy⟩ : ∃ y, y = (wbs (s.take f)).2 := ⟨_, rfl⟩
          rw [← hx] at HJ2
          rw [← hx, ← hy]
          clear be hx hy
          go_wp2_with fail
          refine (wbri_any x a b w4).mono ?_
          rintro e w5 ⟨rfl, hw5⟩
          obtain rfl := hw5.symm
          clear hw5
          obtain ⟨v, hv⟩ : ∃ v, v = wbri x a b := ⟨_, rfl⟩
          rw [← hv] at HJ2
          rw [← hv]
          clear hv
          go_wp2
          go_ret
          exact ⟨by rw [HJ2.out]; rfl, HB4.out⟩
        | false =>
          go_wp2
          go_ret
          exact ⟨by rw [HJ2.out]; rfl, HB2.out⟩
theorem two_no (a b x y : Int) (h : (a == x && b == y) = false) (X : Prop) (k1 : a = x → (b == y) = false → X) (k2 : (a == x) = false → X) : X := by
  by_cases e : a = x
  · refine k1 e ?_
    rw [e, beq_self_eq_true, Bool.true_and] at h
    exact h
  · exact k2 (beq_eq_false_iff_ne.2 e)
/-- Behind the tests of two classes. -/
def wcutT (s : List UInt8) (p : Nat) (b : Int) : Bool := if wclings b then false else !wjoin s p
set_option maxHeartbeats 4000000 in
theorem wcut_any (s : List UInt8) (p : Nat) (w : World) (ht : TbW w) (hl : s.length ≤ 1000000000) (hp : p ≤ s.length) :
    Calls Tryd.prog 42 #[.string ⟨s.toArray⟩, .int .i64 p] w fun e w' => e = .returned (.bool (wcut s p)) ∧ Below w.heap.size w w' := by
  have HT := hid ht
  have HTL := hid (show (s.take p).length = p by rw [List.length_take]; omega)
  clear ht
  go_enter Tryd.func42, Tryd.ntmps42
  go_wp2_with fail
  rw [wtake]
  refine (wlast_any (s.take p) w HT.out (by have := HTL.out; omega)).mono ?_
  rintro e w1 ⟨rfl, be⟩
  have HB1 := hid be
  obtain ⟨a, ha⟩ : ∃ a, a = wlast (s.take p) := ⟨_, rfl⟩
  obtain ⟨m, hm⟩ : ∃ m : Nat, m = (decLast (s.take p)).2 := ⟨_, rfl⟩
  have HA := hid ha
  rw [← ha, ← hm]
  clear be ha hm
  go_wp2_with fail
  rw [ext_drop]
  refine (wfirst_any (s.drop p) w1 (HT.out.below HB1.out)).mono ?_
  rintro e w2 ⟨rfl, be⟩
  have HB2 := hid (HB1.out.trans (be.mono HB1.out.size))
  obtain ⟨b, hb⟩ : ∃ b, b = wfirst (s.drop p) := ⟨_, rfl⟩
  obtain ⟨n, hn⟩ : ∃ n, n = (dec (s.drop p)).2 := ⟨_, rfl⟩
  have HBE := hid hb
  rw [← hb, ← hn]
  clear be hb hn
  have HV := hid (show wcut s p = if a == 1 && b == 2 then false else if wends a then true else if wends b then true else if a == 5 && b == 19 then false else if a == 18 && b == 18 then false else wcutT s p b by rw [HA.out, HBE.out]; rfl)
  clear HA HBE
  by_cases h12 : a = 1 ∧ b = 2
  · obtain ⟨rfl, rfl⟩ := h12
    go_wp2
    go_ret
    exact ⟨by rw [HV.out]; rfl, HB2.out⟩
  by_cases hea : wends a = true
  · have HV2 := hid (show wcut s p = true by
      rw [HV.out, if_neg (by intro h; rw [Bool.and_eq_true] at h; exact h12 ⟨eq_of_beq h.1, eq_of_beq h.2⟩), if_pos hea])
    have HE := hid hea
    have hf : (a == 1 && b == 2) = false := by
      rw [Bool.eq_false_iff]; intro h; rw [Bool.and_eq_true] at h; exact h12 ⟨eq_of_beq h.1, eq_of_beq h.2⟩
    clear h12 HV hea
    refine two_no a b 1 2 hf _ (fun e1 b2 => ?_) (fun a1 => ?_)
    · subst e1
      clear hf
      go_wp2_with fail
      refine (wends_any 1 w2).mono ?_
      rintro e w3 ⟨rfl, hw3⟩
      obtain rfl := hw3.symm
      clear hw3
      rw [show wends 1 = true by decide]
      go_wp2
      go_ret
      exact ⟨by rw [HV2.out]; rfl, HB2.out⟩
    · clear hf
      go_wp2_with fail
      refine (wends_any a w2).mono ?_
      rintro e w3 ⟨rfl, hw3⟩
      obtain rfl := hw3.symm
      clear hw3
      rw [HE.out]
      go_wp2
      go_ret
      exact ⟨by rw [HV2.out]; rfl, HB2.out⟩
  have hea' : wends a = false := Bool.eq_false_iff.2 hea
  have a1 : (a == 1) = false := by
    rw [Bool.eq_false_iff]; intro h; rw [eq_of_beq h] at hea'; cases hea'
  have HV2 := hid (show wcut s p = if wends b then true else if a == 5 && b == 19 then false else if a == 18 && b == 18 then false else wcutT s p b by rw [HV.out, a1, hea']; rfl)
  have HEA := hid hea'
  clear HV h12 hea hea'
  go_wp2_with fail
  refine (wends_any a w2).mono ?_
  rintro e w3 ⟨rfl, hw3⟩
  obtain rfl := hw3.symm
  clear hw3
  rw [HEA.out]
  go_wp2_with fail
  refine (wends_any b w2).mono ?_
  rintro e w3 ⟨rfl, hw3⟩
  obtain rfl := hw3.symm
  clear hw3
  obtain ⟨q4, hq4⟩ : ∃ q, q = wends b := ⟨_, rfl⟩
  rw [← hq4] at HV2
  rw [← hq4]
  clear hq4
  cases q4 with
  | true =>
    go_wp2
    go_ret
    exact ⟨by rw [HV2.out]; rfl, HB2.out⟩
  | false =>
    by_cases h5 : a = 5 ∧ b = 19
    · obtain ⟨rfl, rfl⟩ := h5
      go_wp2
      go_ret
      exact ⟨by rw [HV2.out]; rfl, HB2.out⟩
    have f5 : (a == 5 && b == 19) = false := by
      rw [Bool.eq_false_iff]; intro h; rw [Bool.and_eq_true] at h; exact h5 ⟨eq_of_beq h.1, eq_of_beq h.2⟩
    by_cases h8 : a = 18 ∧ b = 18
    · obtain ⟨rfl, rfl⟩ := h8
      go_wp2
      go_ret
      exact ⟨by rw [HV2.out]; rfl, HB2.out⟩
    have f8 : (a == 18 && b == 18) = false := by
      rw [Bool.eq_false_iff]; intro h; rw [Bool.and_eq_true] at h; exact h8 ⟨eq_of_beq h.1, eq_of_beq h.2⟩
    have HV3 := hid (show wcut s p = if wclings b then false else !wjoin s p by rw [HV2.out, f5, f8]; rfl)
    clear HV2 h5 h8
    refine two_no a b 5 19 f5 _ (fun e5 b9 => ?_) (fun a5 => ?_)
    · subst e5
      clear f5 f8
      go_wp2_with fail
      refine (wclings_any b w2).mono ?_
      rintro e w3 ⟨rfl, hw3⟩
      obtain rfl := hw3.symm
      clear hw3
      obtain ⟨q5, hq5⟩ : ∃ q, q = wclings b := ⟨_, rfl⟩
      rw [← hq5] at HV3
      rw [← hq5]
      clear hq5
      cases q5 with
      | true =>
        go_wp2
        go_ret
        exact ⟨by rw [HV3.out]; rfl, HB2.out⟩
      | false =>
        go_wp2_with fail
        refine (wjoined_any s p w2 (HT.out.below HB2.out) hl hp).mono ?_
        rintro e w4 ⟨rfl, be⟩
        have HB4 := hid (HB2.out.trans (be.mono HB2.out.size))
        obtain ⟨v, hv⟩ : ∃ v, v = wjoin s p := ⟨_, rfl⟩
        rw [← hv] at HV3
        rw [← hv]
        clear be hv
        go_wp2
        go_ret
        exact ⟨by rw [HV3.out]; rfl, HB4.out⟩
    · clear f5
      refine two_no a b 18 18 f8 _ (fun e8 b18 => ?_) (fun a8 => ?_)
      · subst e8
        clear f8
        go_wp2_with fail
        refine (wclings_any b w2).mono ?_
        rintro e w3 ⟨rfl, hw3⟩
        obtain rfl := hw3.symm
        clear hw3
        obtain ⟨q5, hq5⟩ : ∃ q, q = wclings b := ⟨_, rfl⟩
        rw [← hq5] at HV3
        rw [← hq5]
        clear hq5
        cases q5 with
        | true =>
          go_wp2
          go_ret
          exact ⟨by rw [HV3.out]; rfl, HB2.out⟩
        | false =>
          go_wp2_with fail
          refine (wjoined_any s p w2 (HT.out.below HB2.out) hl hp).mono ?_
          rintro e w4 ⟨rfl, be⟩
          have HB4 := hid (HB2.out.trans (be.mono HB2.out.size))
          obtain ⟨v, hv⟩ : ∃ v, v = wjoin s p := ⟨_, rfl⟩
          rw [← hv] at HV3
          rw [← hv]
          clear be hv
          go_wp2
          go_ret
          exact ⟨by rw [HV3.out]; rfl, HB4.out⟩
      · clear f8
        go_wp2_with fail
        refine (wclings_any b w2).mono ?_
        rintro e w3 ⟨rfl, hw3⟩
        obtain rfl := hw3.symm
        clear hw3
        obtain ⟨q5, hq5⟩ : ∃ q, q = wclings b := ⟨_, rfl⟩
        rw [← hq5] at HV3
        rw [← hq5]
        clear hq5
        cases q5 with
        | true =>
          go_wp2
          go_ret
          exact ⟨by rw [HV3.out]; rfl, HB2.out⟩
        | false =>
          go_wp2_with fail
          refine (wjoined_any s p w2 (HT.out.below HB2.out) hl hp).mono ?_
          rintro e w4 ⟨rfl, be⟩
          have HB4 := hid (HB2.out.trans (be.mono HB2.out.size))
          obtain ⟨v, hv⟩ : ∃ v, v = wjoin s p := ⟨_, rfl⟩
          rw [← hv] at HV3
          rw [← hv]
          clear be hv
          go_wp2
          go_ret
          exact ⟨by rw [HV3.out]; rfl, HB4.out⟩
end Go.Proofs.YtkophiklkgefnaaDoor.Wd
