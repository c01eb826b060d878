/- The contracts of fits, Check and good (package dfa). -/
import Derived.Test.YtkmcbhdjecpmjaaDoorRows7
namespace Go.Proofs.YtkmcbhdjecpmjaaDoor
open Go.RowKit

def fitB (c : Int) : Bool := decide (1 ≤ c ∧ c ≤ 64)
theorem fitB_yes {c : Int} (h1 : 1 ≤ c) (h2 : c ≤ 64) : fitB c = true := decide_eq_true ⟨h1, h2⟩
theorem fitB_no {c : Int} (h : c < 1 ∨ 64 < c) : fitB c = false := decide_eq_false (by omega)
theorem fits_any (c : Int) (w : World) : Calls Tryd.prog 46 #[.int .i64 c] w fun e w' => e = .returned (.bool (fitB c)) ∧ w' = w := by
  by_cases h0 : 1 ≤ c
  · by_cases h1 : c ≤ 64
    · have hW := hid (fitB_yes h0 h1)
      go_enter Tryd.func46, Tryd.ntmps46
      go_wp2
      go_ret
      exact ⟨by rw [hW.out]; rfl, rfl⟩
    · have hW := hid (fitB_no (c := c) (.inr (by omega)))
      go_enter Tryd.func46, Tryd.ntmps46
      go_wp2
      go_ret
      exact ⟨by rw [hW.out]; rfl, rfl⟩
  · have hW := hid (fitB_no (c := c) (.inl (by omega)))
    go_enter Tryd.func46, Tryd.ntmps46
    go_wp2
    go_ret
    exact ⟨by rw [hW.out]; rfl, rfl⟩
theorem rowok_bad {n : Nat} {c t : Int} {row : List Int} {k : Nat} {z : Int} (hz : row[k]? = some z) (hb : z < -1 ∨ (n : Int) ≤ z) : ¬ RowOk n c t row := fun h => by
  have := h.2.2 z (List.mem_of_getElem? hz)
  omega
theorem not_gd_row {c : Int} {R : Rw} {T : List Int} {k : Nat} {row : List Int} {t : Int} (hr : R[k]? = some row) (ht : T[k]? = some t) (h : ¬ RowOk R.length c t row) : ¬ Gd c R T := fun g => h (g.row k row t hr ht)
/-- The first j of a row are right. -/
def Rin (n j : Nat) (row : List Int) : Prop := ∀ (i : Nat) (z : Int), i < j → row[i]? = some z → -1 ≤ z ∧ z < (n : Int)
theorem Rin.succ {n j : Nat} {row : List Int} {z : Int} (h : Rin n j row) (hz : row[j]? = some z) (h1 : -1 ≤ z) (h2 : z < (n : Int)) : Rin n (j + 1) row := fun i y hi hy => by
  by_cases e : i = j
  · subst e; rw [hz] at hy; cases hy; exact ⟨h1, h2⟩
  · exact h i y (by omega) hy
theorem Rin.all {n : Nat} {row : List Int} (h : Rin n row.length row) : ∀ x ∈ row, -1 ≤ x ∧ x < (n : Int) := fun x hx => by
  obtain ⟨i, hi⟩ := List.mem_iff_getElem?.1 hx
  exact h i x (List.getElem?_eq_some_iff.1 hi).1 hi
set_option maxHeartbeats 2000000 in
theorem check_any (c : Int) (no to : Option Addr) (n nc m tc : Nat) (R : Rw) (T : List Int) (w : World) (hd : DRd w no n to m R T) :
    Calls Tryd.prog 21 #[.agg #[.int .i64 c, .slice no n nc, .slice to m tc]] w fun e w' => e = .returned (.int .i64 (gdC c R T)) ∧ Below w.heap.size w w' := by
  have hnl := hd.nl
  have hml := hd.ml
  unfold most at hnl hml
  have HD := hid hd
  clear hd
  have HBX := hid (below_box (w := w) (o := .cells #[.int .i64 c, .slice no n nc, .slice to m tc] 32))
  have HN := hid HD.out.hn
  have HM := hid HD.out.hm
  by_cases c1 : c < 1
  · have HG := hid (gdC_no (c := c) (R := R) (T := T) (fun g => by have := g.c1; omega))
    have hf := fitB_no (c := c) (.inl c1)
    go_enter Tryd.func21, Tryd.ntmps21
    go_wp2_with (first | (go_at_call 46; refine (fits_any _ _).mono ?_; rintro e w' ⟨rfl, rfl⟩))
    go_ret
    exact ⟨by rw [HG.out]; rfl, HBX.out⟩
  by_cases c2 : 64 < c
  · have HG := hid (gdC_no (c := c) (R := R) (T := T) (fun g => by have := g.c2; omega))
    have hf := fitB_no (c := c) (.inr c2)
    go_enter Tryd.func21, Tryd.ntmps21
    go_wp2_with (first | (go_at_call 46; refine (fits_any _ _).mono ?_; rintro e w' ⟨rfl, rfl⟩))
    go_ret
    exact ⟨by rw [HG.out]; rfl, HBX.out⟩
  have hf := fitB_yes (c := c) (by omega) (by omega)
  by_cases n0 : n = 0
  · have HG := hid (gdC_no (c := c) (R := R) (T := T) (fun g => by have := g.n1; have := HN.out; omega))
    subst n0
    go_enter Tryd.func21, Tryd.ntmps21
    go_wp2_with (first | (go_at_call 46; refine (fits_any _ _).mono ?_; rintro e w' ⟨rfl, rfl⟩))
    go_ret
    exact ⟨by rw [HG.out]; rfl, HBX.out⟩
  have n0' : ((n : Int) == 0) = false := beq_eq_false_iff_ne.2 (by omega)
  by_cases n1 : 1024 < n
  · have HG := hid (gdC_no (c := c) (R := R) (T := T) (fun g => by have := g.n2; have := HN.out; omega))
    have n1' : (1024 : Int) < (n : Int) := by omega
    go_enter Tryd.func21, Tryd.ntmps21
    go_wp2_with (first | (go_at_call 46; refine (fits_any _ _).mono ?_; rintro e w' ⟨rfl, rfl⟩))
    go_ret
    exact ⟨by rw [HG.out]; rfl, HBX.out⟩
  have n1' : decide ((1024 : Int) < (n : Int)) = false := decide_eq_false (by omega)
  by_cases mn : m = n
  rotate_left
  · have HG := hid (gdC_no (c := c) (R := R) (T := T) (fun g => by have := g.tl; have := HN.out; have := HM.out; omega))
    have mn' : ((m : Int) != (n : Int)) = true := bne_iff_ne.2 (by omega)
    go_enter Tryd.func21, Tryd.ntmps21
    go_wp2_with (first | (go_at_call 46; refine (fits_any _ _).mono ?_; rintro e w' ⟨rfl, rfl⟩))
    go_ret
    exact ⟨by rw [HG.out]; rfl, HBX.out⟩
  have mn' : ((m : Int) != (n : Int)) = false := bne_eq_false_iff_eq.2 (by omega)
  have HMN := hid mn
  clear mn
  go_enter Tryd.func21, Tryd.ntmps21
  go_wp2_with (first | (go_at_call 46; refine (fits_any _ _).mono ?_; rintro e w' ⟨rfl, rfl⟩))
  clear hf mn' n0' n1'
  go_loop [33] (fun x => ∃ k : Nat, x = .int .i64 k ∧ k ≤ n ∧ Hid (Rok k c R T)) (fun x => n - (intOf x).toNat)
  case atStart => exact ⟨0, rfl, Nat.zero_le _, fun s _ _ hs => by omega⟩
  case round =>
    obtain ⟨k, rfl, hk, HR⟩ := hrel
    by_cases hlt : k < n
    · obtain ⟨row, a, co, cc, hr, rfl, ha, a0, hI, hrl⟩ := (HD.out.below HBX.out).row hlt
      obtain ⟨t, b, ht, rfl, hb, b0⟩ := (HD.out.below HBX.out).tk (show k < m by rw [HMN.out]; exact hlt)
      have HR1 := hid hr
      have HT1 := hid ht
      obtain ⟨l, hl⟩ : ∃ l, l = row.length := ⟨_, rfl⟩
      rw [← hl] at a0 hrl
      have HL := hid hl
      have HI := hid hI
      unfold most at hrl
      clear hr ht hl hI
      have i3 : (k : Int) < (n : Int) := by omega
      have i4 : (k : Int) < (m : Int) := by have := HMN.out; omega
      by_cases t01 : t = 0 ∨ t = 1
      rotate_left
      · have HG := hid (gdC_no (not_gd_row (c := c) HR1.out HT1.out (fun h => t01 h.1)))
        have t0 : (t != 0) = true := bne_iff_ne.2 (by omega)
        have t1 : (t != 1) = true := bne_iff_ne.2 (by omega)
        clear t01
        go_wp2
        go_ret
        exact ⟨by rw [HG.out]; rfl, HBX.out⟩
      by_cases lc : (l : Int) = c
      rotate_left
      · have HG := hid (gdC_no (not_gd_row (c := c) HR1.out HT1.out (fun h => lc (by rw [HL.out]; exact h.2.1))))
        have lc' : ((l : Int) != c) = true := bne_iff_ne.2 lc
        clear lc
        rcases t01 with rfl | rfl
        · go_wp2
          go_ret
          exact ⟨by rw [HG.out]; rfl, HBX.out⟩
        · go_wp2
          go_ret
          exact ⟨by rw [HG.out]; rfl, HBX.out⟩
      have HLC := hid lc
      have lc' : ((l : Int) != c) = false := bne_eq_false_iff_eq.2 lc
      clear lc
      rcases t01 with rfl | rfl
      all_goals
        go_wp2
        go_loop [61] (fun x => ∃ j : Nat, x = .int .i64 j ∧ j ≤ l ∧ Hid (Rin n j row)) (fun x => l - (intOf x).toNat)
        case atStart => exact ⟨0, rfl, Nat.zero_le _, fun s _ hs => by omega⟩
        case round =>
          obtain ⟨j, rfl, hj, HJ⟩ := hrel
          by_cases hjl : j < l
          · obtain ⟨z, d, hz, rfl, hd, d0⟩ := HI.out.at (k := j) (by rw [← HL.out]; exact hjl)
            have HZ := hid hz
            clear hz
            have i5 : (j : Int) < (l : Int) := by omega
            by_cases z1 : z < -1
            · have HG := hid (gdC_no (not_gd_row (c := c) HR1.out HT1.out (rowok_bad HZ.out (.inl z1))))
              go_wp2
              go_ret
              exact ⟨by rw [HG.out]; rfl, HBX.out⟩
            by_cases z2 : (n : Int) ≤ z
            · have HG := hid (gdC_no (not_gd_row (c := c) HR1.out HT1.out (rowok_bad HZ.out (.inr (by rw [← HN.out]; exact z2)))))
              go_wp2
              go_ret
              exact ⟨by rw [HG.out]; rfl, HBX.out⟩
            have HJ2 := hid (HJ.out.succ HZ.out (by omega) (by omega))
            go_wp2
            go_round
            case rel => exact ⟨j + 1, by go_num, by omega, HJ2⟩
            case measure => simp [intOf]; omega
          · have HK := hid (HR.out.succ HR1.out HT1.out ⟨by omega, by rw [← HL.out]; exact HLC.out, by rw [← HN.out]; exact Rin.all (by have e : j = row.length := (by have := HL.out; omega); rw [← e]; exact HJ.out)⟩)
            have i5 : ¬ (j : Int) < (l : Int) := by omega
            go_wp2
            go_round
            case rel => exact ⟨k + 1, by go_num, by omega, HK⟩
            case measure => simp [intOf]; omega
    · have HG := hid (gdC_yes (Rok.all (c := c) (R := R) (T := T) (by have e : k = R.length := (by have := HN.out; omega); rw [← e]; exact HR.out) (by omega) (by omega) (by have := HN.out; omega) (by have := HN.out; omega) (by have := HN.out; have := HM.out; have := HMN.out; omega)))
      have i3 : ¬ (k : Int) < (n : Int) := by omega
      go_wp2
      go_ret
      exact ⟨by rw [HG.out]; rfl, HBX.out⟩
theorem good_any (c : Int) (no to : Option Addr) (n nc m tc : Nat) (R : Rw) (T : List Int) (w : World) (hd : DRd w no n to m R T) :
    Calls Tryd.prog 59 #[.agg #[.int .i64 c, .slice no n nc, .slice to m tc]] w fun e w' => e = .returned (.bool (gdB c R T)) ∧ Below w.heap.size w w' := by
  have HC := hid (check_any c no to n nc m tc R T (w.alloc (.cells #[.int .i64 c, .slice no n nc, .slice to m tc] 32)) (hd.below below_box))
  clear hd
  go_enter Tryd.func59, Tryd.ntmps59
  go_wp2_with fail
  refine HC.out.mono ?_
  rintro e w1 ⟨rfl, b1⟩
  have HB := hid (box_trans (show Below (w.heap.size + 1) (w.alloc (.cells #[.int .i64 c, .slice no n nc, .slice to m tc] 32)) w1 by simpa using b1))
  clear b1 HC
  rcases bool_cases (gdB c R T) with hg | hg
  · have e0 : gdC c R T = 0 := by unfold gdC; rw [hg]; rfl
    have HG := hid hg
    rw [e0]
    clear e0 hg
    go_wp2
    go_ret
    exact ⟨by rw [HG.out]; rfl, HB.out⟩
  · have e0 : gdC c R T = 70 := by unfold gdC; rw [hg]; rfl
    have HG := hid hg
    rw [e0]
    clear e0 hg
    go_wp2
    go_ret
    exact ⟨by rw [HG.out]; rfl, HB.out⟩
end Go.Proofs.YtkmcbhdjecpmjaaDoor
