/- The contract of Check (the document's). -/
import Derived.Test.YtkmcbhdjecpmjaaDoorCheck7
namespace Go.Proofs.YtkmcbhdjecpmjaaDoor
open Go.RowKit

set_option maxHeartbeats 4000000 in
theorem rcheck_any (c : Int) (no to : Option Addr) (n nc m tc : Nat) (R : Rw) (T : List Int) (w : World) (hd : DRd w no n to m R T) :
    Calls Tryd.prog 22 #[.agg #[.int .i64 c, .slice no n nc, .slice to m tc]] w fun e w' => e = .returned (.int .i64 (gdC c R T)) ∧ Below w.heap.size w w' := by
  have hnl := hd.nl
  have hml := hd.ml
  unfold most at hnl hml
  have HD := hid hd
  clear hd
  have HBX := hid (below_box (w := w) (o := .cells #[.int .i64 c, .slice no n nc, .slice to m tc] 32))
  have HN := hid HD.out.hn
  have HM := hid HD.out.hm
  by_cases c1 : c < 1
  · have HG := hid (gdC_no (c := c) (R := R) (T := T) (fun g => by have := g.c1; omega))
    go_enter Tryd.func22, Tryd.ntmps22
    go_wp2
    go_ret
    exact ⟨by rw [HG.out]; rfl, HBX.out⟩
  have d1 : decide (c < 1) = false := decide_eq_false c1
  by_cases c2 : 64 < c
  · have HG := hid (gdC_no (c := c) (R := R) (T := T) (fun g => by have := g.c2; omega))
    go_enter Tryd.func22, Tryd.ntmps22
    go_wp2
    go_ret
    exact ⟨by rw [HG.out]; rfl, HBX.out⟩
  have d2 : decide (64 < c) = false := decide_eq_false c2
  by_cases n0 : n = 0
  · have HG := hid (gdC_no (c := c) (R := R) (T := T) (fun g => by have := g.n1; have := HN.out; omega))
    subst n0
    go_enter Tryd.func22, Tryd.ntmps22
    go_wp2
    go_ret
    exact ⟨by rw [HG.out]; rfl, HBX.out⟩
  have n0' : decide ((n : Int) < 1) = false := decide_eq_false (by omega)
  by_cases n1 : 1024 < n
  · have HG := hid (gdC_no (c := c) (R := R) (T := T) (fun g => by have := g.n2; have := HN.out; omega))
    have n1' : decide ((1024 : Int) < (n : Int)) = true := decide_eq_true (by omega)
    go_enter Tryd.func22, Tryd.ntmps22
    go_wp2
    go_ret
    exact ⟨by rw [HG.out]; rfl, HBX.out⟩
  have n1' : decide ((1024 : Int) < (n : Int)) = false := decide_eq_false (by omega)
  by_cases mn : m = n
  rotate_left
  · have HG := hid (gdC_no (c := c) (R := R) (T := T) (fun g => by have := g.tl; have := HN.out; have := HM.out; omega))
    have mn' : ((m : Int) != (n : Int)) = true := bne_iff_ne.2 (by omega)
    go_enter Tryd.func22, Tryd.ntmps22
    go_wp2
    go_ret
    exact ⟨by rw [HG.out]; rfl, HBX.out⟩
  have mn' : ((m : Int) != (n : Int)) = false := bne_eq_false_iff_eq.2 (by omega)
  have HMN := hid mn
  clear mn
  go_enter Tryd.func22, Tryd.ntmps22
  go_wp2
  clear mn' n0' n1' d1 d2
  go_loopw [4] (fun x wr => ∃ k : Nat, x = .int .i64 k ∧ k ≤ n ∧ Hid (Rok k c R T) ∧ Hid (Below (w.heap.size + 1) (w.alloc (.cells #[.int .i64 c, .slice no n nc, .slice to m tc] 32)) wr)) (fun x _ => n - (intOf x).toNat)
  case atStart => exact ⟨0, rfl, Nat.zero_le _, fun s _ _ hs => (by omega), box_self⟩
  case round =>
    obtain ⟨k, rfl, hk, HR, HB⟩ := hrel
    obtain ⟨b0, b1, b2⟩ := box3 HB.out
    by_cases hlt : k < n
    · obtain ⟨row, a, co, cc, hr, rfl, ha, a0, hI, hrl⟩ := (HD.out.boxed HB.out).row hlt
      obtain ⟨t, b, ht, rfl, hb, t0⟩ := (HD.out.boxed HB.out).tk (show k < m by rw [HMN.out]; exact hlt)
      have HR1 := hid hr
      have HT1 := hid ht
      obtain ⟨l, hl⟩ : ∃ l, l = row.length := ⟨_, rfl⟩
      rw [← hl] at a0 hrl
      have HL := hid hl
      have HI := hid hI
      unfold most at hrl
      clear hr ht hl hI
      have i0 : (0 : Int) ≤ (k : Int) := by omega
      have i3 : (k : Int) < (n : Int) := by omega
      have i4 : (k : Int) < (m : Int) := by have := HMN.out; omega
      by_cases t01 : t = 0 ∨ t = 1
      rotate_left
      · have HG := hid (gdC_no (not_gd_row (c := c) HR1.out HT1.out (fun h => t01 h.1)))
        have t0 : (t != 0) = true := bne_iff_ne.2 (by omega)
        have t1 : (t != 1) = true := bne_iff_ne.2 (by omega)
        clear t01
        go_wp2_with fail
        go_quiet (fail)
        go_wp2
        go_ret
        exact ⟨by rw [HG.out]; rfl, below_drN (box_trans HB.out) _⟩
      by_cases lc : (l : Int) = c
      rotate_left
      · have HG := hid (gdC_no (not_gd_row (c := c) HR1.out HT1.out (fun h => lc (by rw [HL.out]; exact h.2.1))))
        have lc' : ((l : Int) != c) = true := bne_iff_ne.2 lc
        clear lc
        rcases t01 with rfl | rfl
        · go_wp2_with fail
          go_quiet (fail)
          go_wp2
          go_ret
          exact ⟨by rw [HG.out]; rfl, below_drN (box_trans HB.out) _⟩
        · go_wp2_with fail
          go_quiet (fail)
          go_wp2
          go_ret
          exact ⟨by rw [HG.out]; rfl, below_drN (box_trans HB.out) _⟩
      have HLC := hid lc
      have lc' : ((l : Int) != c) = false := bne_eq_false_iff_eq.2 lc
      clear lc
      rcases t01 with rfl | rfl
      all_goals
        go_wp2_with fail
        go_quiet (fail)
        clear b0 b1 b2 a0 t0 HI ha hb
        go_wp2
        go_loopw [5] (fun x wr => ∃ j : Nat, x = .int .i64 j ∧ j ≤ l ∧ Hid (Rin n j row) ∧ Hid (Below (w.heap.size + 1) (w.alloc (.cells #[.int .i64 c, .slice (some a) n nc, .slice (some b) m tc] 32)) wr)) (fun x _ => l - (intOf x).toNat)
        case atStart => exact ⟨0, rfl, Nat.zero_le _, fun s _ hs => (by omega), below_drN HB.out _⟩
        case round =>
          obtain ⟨j, rfl, hj, HJ, HB2⟩ := hrel
          obtain ⟨b0, b1, b2⟩ := box3 HB2.out
          obtain ⟨row2, a2, co2, cc2, hr2, ha2, hb2, a0, hI, hrl2⟩ := (HD.out.boxed HB2.out).row hlt
          rw [HR1.out] at hr2
          cases hr2
          cases ha2
          rw [← HL.out] at a0
          clear hrl2
          by_cases hjl : j < l
          · obtain ⟨z, d, hz, rfl, hd, d0⟩ := hI.at (k := j) (by rw [← HL.out]; exact hjl)
            have HZ := hid hz
            clear hz hI
            have i5 : (j : Int) < c := by have := HLC.out; omega
            have i6 : (j : Int) < (l : Int) := by omega
            have i7 : (0 : Int) ≤ (j : Int) := by omega
            by_cases z1 : z < -1
            · have HG := hid (gdC_no (not_gd_row (c := c) HR1.out HT1.out (rowok_bad HZ.out (.inl z1))))
              have e1 : decide (z < -1) = true := decide_eq_true z1
              go_wp2
              go_ret
              exact ⟨by rw [HG.out]; rfl, box_trans HB2.out⟩
            have e1 : decide (z < -1) = false := decide_eq_false z1
            by_cases z2 : (n : Int) ≤ z
            · have HG := hid (gdC_no (not_gd_row (c := c) HR1.out HT1.out (rowok_bad HZ.out (.inr (by rw [← HN.out]; exact z2)))))
              have e2 : decide ((n : Int) ≤ z) = true := decide_eq_true z2
              go_wp2
              go_ret
              exact ⟨by rw [HG.out]; rfl, box_trans HB2.out⟩
            have e2 : decide ((n : Int) ≤ z) = false := decide_eq_false z2
            have HJ2 := hid (HJ.out.succ HZ.out (by omega) (by omega))
            go_wp2
            go_roundw
            case rel => exact ⟨j + 1, by go_num, by omega, HJ2, HB2⟩
            case measure => simp [intOf]; omega
          · have HK := hid (HR.out.succ HR1.out HT1.out ⟨by omega, by rw [← HL.out]; exact HLC.out, by rw [← HN.out]; exact Rin.all (by have e : j = row.length := (by have := HL.out; omega); rw [← e]; exact HJ.out)⟩)
            have i5 : ¬ (j : Int) < c := by have := HLC.out; omega
            go_wp2
            go_roundw
            case rel => exact ⟨k + 1, by go_num, by omega, HK, HB2⟩
            case measure => simp [intOf]; omega
    · have HG := hid (gdC_yes (Rok.all (c := c) (R := R) (T := T) (by have e : k = R.length := (by have := HN.out; omega); rw [← e]; exact HR.out) (by omega) (by omega) (by have := HN.out; omega) (by have := HN.out; omega) (by have := HN.out; have := HM.out; have := HMN.out; omega)))
      have i3 : ¬ (k : Int) < (n : Int) := by omega
      go_wp2
      go_ret
      exact ⟨by rw [HG.out]; rfl, box_trans HB.out⟩
end Go.Proofs.YtkmcbhdjecpmjaaDoor
