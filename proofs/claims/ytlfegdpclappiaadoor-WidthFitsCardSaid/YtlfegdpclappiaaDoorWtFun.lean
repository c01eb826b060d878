/- The contracts of Check, runeCells, endsLine, isTab, letterCells and behind (package width). -/
import Derived.Test.YtlfegdpclappiaaDoorWtCls
import Derived.Test.YtlfegdpclappiaaDoorGrFst
import Derived.Test.YtlfegdpclappiaaDoorMix
namespace Go.Proofs.YtlfegdpclappiaaDoor
open Go.RowKit

/-- Cells, as a value: Ambiguous, Tab, Start. -/
def cel (a t s : Int) : Value := .agg #[.int .i64 a, .int .i64 t, .int .i64 s]
/-- Cells that are taken. -/
structure Okc (a t s : Int) : Prop where
  a : a = 1 ∨ a = 2
  t1 : 1 ≤ t
  t2 : t ≤ 64
  s1 : 0 ≤ s
  s2 : s ≤ 1073741824
def okc (a t s : Int) : Bool := (a == 1 || a == 2) && decide (1 ≤ t) && decide (t ≤ 64) && decide (0 ≤ s) && decide (s ≤ 1073741824)
def chkE (a t s : Int) : Int := if okc a t s = true then 0 else 2
theorem okc_is (a t s : Int) : okc a t s = true ↔ Okc a t s := by
  unfold okc
  simp only [Bool.and_eq_true, Bool.or_eq_true, beq_iff_eq, decide_eq_true_eq]
  constructor
  · rintro ⟨⟨⟨⟨h1, h2⟩, h3⟩, h4⟩, h5⟩
    exact ⟨h1, h2, h3, h4, h5⟩
  · rintro ⟨h1, h2, h3, h4, h5⟩
    exact ⟨⟨⟨⟨h1, h2⟩, h3⟩, h4⟩, h5⟩
set_option maxHeartbeats 2000000 in
theorem wcheck_any (a t s : Int) (w : World) : Calls Tryd.prog 18 #[.agg #[.int .i64 a, .int .i64 t, .int .i64 s]] w fun e w' => e = .returned (.int .i64 (chkE a t s)) ∧ Below w.heap.size w w' := by
  have hB : Below w.heap.size w (w.alloc (.cells #[.int .i64 a, .int .i64 t, .int .i64 s] 36)) := (Below.refl _ _).alloc (Nat.le_refl _) _
  by_cases ha : a = 1 ∨ a = 2
  · by_cases h1 : t < 1
    · have HV := hid (show chkE a t s = 2 by unfold chkE; rw [if_neg]; rw [okc_is]; intro h; have := h.t1; omega)
      rcases ha with rfl | rfl
      all_goals
        go_enter Tryd.func18, Tryd.ntmps18
        go_wp2
        go_ret
        exact ⟨by rw [HV.out]; rfl, hB⟩
    by_cases h2 : 64 < t
    · have HV := hid (show chkE a t s = 2 by unfold chkE; rw [if_neg]; rw [okc_is]; intro h; have := h.t2; omega)
      rcases ha with rfl | rfl
      all_goals
        go_enter Tryd.func18, Tryd.ntmps18
        go_wp2
        go_ret
        exact ⟨by rw [HV.out]; rfl, hB⟩
    by_cases h3 : s < 0
    · have HV := hid (show chkE a t s = 2 by unfold chkE; rw [if_neg]; rw [okc_is]; intro h; have := h.s1; omega)
      rcases ha with rfl | rfl
      all_goals
        go_enter Tryd.func18, Tryd.ntmps18
        go_wp2
        go_ret
        exact ⟨by rw [HV.out]; rfl, hB⟩
    by_cases h4 : 1073741824 < s
    · have HV := hid (show chkE a t s = 2 by unfold chkE; rw [if_neg]; rw [okc_is]; intro h; have := h.s2; omega)
      rcases ha with rfl | rfl
      all_goals
        go_enter Tryd.func18, Tryd.ntmps18
        go_wp2
        go_ret
        exact ⟨by rw [HV.out]; rfl, hB⟩
    have HV := hid (show chkE a t s = 0 by unfold chkE; rw [if_pos]; rw [okc_is]; exact ⟨ha, by omega, by omega, by omega, by omega⟩)
    rcases ha with rfl | rfl
    all_goals
      go_enter Tryd.func18, Tryd.ntmps18
      go_wp2
      go_ret
      exact ⟨by rw [HV.out]; rfl, hB⟩
  · have HV := hid (show chkE a t s = 2 by unfold chkE; rw [if_neg]; rw [okc_is]; intro h; exact ha h.a)
    have b1 : (a != 1) = true := bne_iff_ne.2 (fun h => ha (.inl h))
    have b2 : (a != 2) = true := bne_iff_ne.2 (fun h => ha (.inr h))
    clear ha
    go_enter Tryd.func18, Tryd.ntmps18
    go_wp2
    go_ret
    exact ⟨by rw [HV.out]; rfl, hB⟩
/-- The cells of a rune. -/
def rcel (a r : Int) : Int := if wzero r = true then 0 else if wwide r = true then 2 else if wambi r = true then a else 1
theorem rcel_any (r a t s : Int) (w : World) : Calls Tryd.prog 76 #[.int .i32 r, .agg #[.int .i64 a, .int .i64 t, .int .i64 s]] w fun e w' => e = .returned (.int .i64 (rcel a r)) ∧ Below w.heap.size w w' := by
  have hB : Below w.heap.size w (w.alloc (.cells #[.int .i64 a, .int .i64 t, .int .i64 s] 36)) := (Below.refl _ _).alloc (Nat.le_refl _) _
  cases h1 : wzero r with
  | true =>
    have HV := hid (show rcel a r = 0 by unfold rcel; rw [if_pos h1])
    go_enter Tryd.func76, Tryd.ntmps76
    go_wp2_with fail
    refine (wzero_any r _).mono ?_
    rintro e w1 ⟨rfl, rfl⟩
    rw [h1]
    go_wp2
    go_ret
    exact ⟨by rw [HV.out]; rfl, hB⟩
  | false =>
    have n1 : ¬ wzero r = true := by rw [h1]; simp
    cases h2 : wwide r with
    | true =>
      have HV := hid (show rcel a r = 2 by unfold rcel; rw [if_neg n1, if_pos h2])
      clear n1
      go_enter Tryd.func76, Tryd.ntmps76
      go_wp2_with fail
      refine (wzero_any r _).mono ?_
      rintro e w1 ⟨rfl, rfl⟩
      rw [h1]
      go_wp2_with fail
      refine (wwide_any r _).mono ?_
      rintro e w1 ⟨rfl, rfl⟩
      rw [h2]
      go_wp2
      go_ret
      exact ⟨by rw [HV.out]; rfl, hB⟩
    | false =>
      have n2 : ¬ wwide r = true := by rw [h2]; simp
      cases h3 : wambi r with
      | true =>
        have HV := hid (show rcel a r = a by unfold rcel; rw [if_neg n1, if_neg n2, if_pos h3])
        clear n1 n2
        go_enter Tryd.func76, Tryd.ntmps76
        go_wp2_with fail
        refine (wzero_any r _).mono ?_
        rintro e w1 ⟨rfl, rfl⟩
        rw [h1]
        go_wp2_with fail
        refine (wwide_any r _).mono ?_
        rintro e w1 ⟨rfl, rfl⟩
        rw [h2]
        go_wp2_with fail
        refine (wambi_any r _).mono ?_
        rintro e w1 ⟨rfl, rfl⟩
        rw [h3]
        go_wp2
        go_ret
        exact ⟨by rw [HV.out]; rfl, hB⟩
      | false =>
        have n3 : ¬ wambi r = true := by rw [h3]; simp
        have HV := hid (show rcel a r = 1 by unfold rcel; rw [if_neg n1, if_neg n2, if_neg n3])
        clear n1 n2 n3
        go_enter Tryd.func76, Tryd.ntmps76
        go_wp2_with fail
        refine (wzero_any r _).mono ?_
        rintro e w1 ⟨rfl, rfl⟩
        rw [h1]
        go_wp2_with fail
        refine (wwide_any r _).mono ?_
        rintro e w1 ⟨rfl, rfl⟩
        rw [h2]
        go_wp2_with fail
        refine (wambi_any r _).mono ?_
        rintro e w1 ⟨rfl, rfl⟩
        rw [h3]
        go_wp2
        go_ret
        exact ⟨by rw [HV.out]; rfl, hB⟩
end Go.Proofs.YtlfegdpclappiaaDoor
