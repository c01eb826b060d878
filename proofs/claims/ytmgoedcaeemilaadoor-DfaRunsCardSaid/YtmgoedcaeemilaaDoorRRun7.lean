/- The contracts of Run and Takes (the document's). -/
import Derived.Test.YtmgoedcaeemilaaDoorRun7
namespace Go.Proofs.YtmgoedcaeemilaaDoor
open Go.RowKit

set_option maxHeartbeats 4000000 in
theorem rrun_any (c : Int) (no to : Option Addr) (n nc m tc : Nat) (R : Rw) (T : List Int) (f : Int) (lo : Option Addr) (ll lc : Nat) (l : List Int) (w : World) (hd : DRd w no n to m R T) (hl : RdI w lo l) (hll : ll = l.length) (hlm : ll ≤ most) :
    Calls Tryd.prog 24 #[.agg #[.int .i64 c, .slice no n nc, .slice to m tc], .int .i64 f, .slice lo ll lc] w fun e w' => e = .returned (.int .i64 (runB c R T f l)) ∧ Below w.heap.size w w' := by
  have hnl := hd.nl
  unfold most at hnl hlm
  have HD := hid hd
  have HL := hid hl
  have HLL := hid hll
  clear hd hl hll
  go_enter Tryd.func24, Tryd.ntmps24
  go_wp2_with fail
  refine (rcheck_any c no to n nc m tc R T (w.alloc (.cells #[.int .i64 c, .slice no n nc, .slice to m tc] 32)) (HD.out.below below_box)).mono ?_
  rintro e w1 ⟨rfl, b1⟩
  have HB := hid (show Below (w.heap.size + 1) (w.alloc (.cells #[.int .i64 c, .slice no n nc, .slice to m tc] 32)) w1 by simpa using b1)
  clear b1
  obtain ⟨c0, c1, c2⟩ := box3 HB.out
  rcases bool_cases (gdB c R T) with hg | hg
  rotate_left
  · have HX := hid (runB_no (c := c) (R := R) (T := T) (f := f) (l := l) (fun h => not_gd hg h.1))
    have e0 : gdC c R T = 70 := by unfold gdC; rw [hg]; rfl
    rw [e0]
    clear hg e0
    go_wp2
    go_ret
    exact ⟨by rw [HX.out]; rfl, box_trans HB.out⟩
  have HG := hid (gd_of hg)
  have e0 : gdC c R T = 0 := by unfold gdC; rw [hg]; rfl
  rw [e0]
  clear hg e0
  by_cases f0 : f < 0
  · have HX := hid (runB_no (c := c) (R := R) (T := T) (f := f) (l := l) (fun h => by have := h.2.1; omega))
    have f0' : decide (f < 0) = true := decide_eq_true f0
    go_wp2
    go_ret
    exact ⟨by rw [HX.out]; rfl, box_trans HB.out⟩
  have f0' : decide (f < 0) = false := decide_eq_false f0
  by_cases f1 : (n : Int) ≤ f
  · have HX := hid (runB_no (c := c) (R := R) (T := T) (f := f) (l := l) (fun h => by have := h.2.2; have := HD.out.hn; omega))
    have f1' : decide ((n : Int) ≤ f) = true := decide_eq_true f1
    go_wp2
    go_ret
    exact ⟨by rw [HX.out]; rfl, box_trans HB.out⟩
  have f1' : decide ((n : Int) ≤ f) = false := decide_eq_false f1
  have HX := hid (runB_yes (c := c) (R := R) (T := T) (f := f) (l := l) HG.out (by omega) (by have := HD.out.hn; omega))
  have HIN := hid (fun k => run_in HG.out (l.take k) f (by omega) (by have := HD.out.hn; omega))
  go_wp2
  clear f0' f1' c0 c1 c2
  go_loopw [7, 8] (fun x y wr => ∃ (k : Nat) (s : Int), x = .int .i64 s ∧ y = .int .i64 k ∧ k ≤ ll ∧ Hid (s = run c R f (l.take k)) ∧ Hid (Below (w.heap.size + 1) (w.alloc (.cells #[.int .i64 c, .slice no n nc, .slice to m tc] 32)) wr)) (fun _ y _ => ll - (intOf y).toNat)
  case atStart => exact ⟨0, f, rfl, rfl, Nat.zero_le _, by rw [List.take_zero]; exact rfl, HB⟩
  case round =>
    obtain ⟨k, s, rfl, rfl, hk, HS, HB2⟩ := hrel
    obtain ⟨c0, c1, c2⟩ := box3 HB2.out
    by_cases hlt : k < ll
    · have i3 : (k : Int) < (ll : Int) := by omega
      have j3 : decide ((k : Int) < (ll : Int)) = true := decide_eq_true i3
      by_cases s0 : 0 ≤ s
      rotate_left
      · have HE := hid (show s = run c R f l by
          have h1 := (HIN.out k).1
          have h2 := HS.out
          have h3 : run c R f (l.take k) = -1 := by omega
          rw [run_drop k, h3, run_neg]
          omega)
        have s0' : decide (0 ≤ s) = false := decide_eq_false s0
        go_wp2
        go_ret
        exact ⟨by rw [HX.out, ← HE.out]; rfl, box_trans HB2.out⟩
      have s0' : decide (0 ≤ s) = true := decide_eq_true s0
      obtain ⟨z, a, hz, rfl, ha, a0⟩ := (HL.out.boxed HB2.out).at (k := k) (by rw [← HLL.out]; exact hlt)
      have HZ := hid (run_take (c := c) (R := R) (s := f) hz)
      have i0 : (0 : Int) ≤ (k : Int) := by omega
      clear hz
      have hneg : (z < 0 ∨ c ≤ z) → runB c R T f l = -1 := fun h => by
        rw [HX.out, run_drop (k + 1), HZ.out, nxt_out (.inr h), run_neg]
      by_cases z0 : z < 0
      · have HN := hid (hneg (.inl z0))
        have z0' : decide (z < 0) = true := decide_eq_true z0
        clear hneg
        go_wp2_with fail
        go_quiet (fail)
        go_wp2
        go_ret
        exact ⟨by rw [HN.out]; rfl, below_drN (box_trans HB2.out) _⟩
      have z0' : decide (z < 0) = false := decide_eq_false z0
      by_cases z1 : c ≤ z
      · have HN := hid (hneg (.inr z1))
        have z1' : decide (c ≤ z) = true := decide_eq_true z1
        clear hneg
        go_wp2_with fail
        go_quiet (fail)
        go_wp2
        go_ret
        exact ⟨by rw [HN.out]; rfl, below_drN (box_trans HB2.out) _⟩
      have z1' : decide (c ≤ z) = false := decide_eq_false z1
      clear hneg
      obtain ⟨p, rfl⟩ := nat_of s0
      obtain ⟨q, rfl⟩ := nat_of (show 0 ≤ z by omega)
      have hp : p < n := by have := (HIN.out k).2; rw [← HS.out] at this; have := HD.out.hn; omega
      obtain ⟨row, b, co, cc, hr, rfl, hb, b0, hI, hrl⟩ := (HD.out.boxed HB2.out).row hp
      have hrow : (row.length : Int) = c := by
        have hkR : p < R.length := by have := HD.out.hn; omega
        exact (HG.out.row p row (T[p]'(by have := HG.out.tl; omega)) hr (List.getElem?_eq_getElem _)).2.1
      obtain ⟨y, d, hy, rfl, hd, d0⟩ := hI.at (k := q) (by omega)
      have HY := hid (nxt_at (c := c) hr hy (by omega))
      obtain ⟨r, hr0⟩ : ∃ r, r = row.length := ⟨_, rfl⟩
      rw [← hr0] at b0
      have i5 : (q : Int) < (r : Int) := by omega
      have i6 : (0 : Int) ≤ (q : Int) := by omega
      have i7 : (p : Int) < (n : Int) := by omega
      clear hr hy hI hrl hrow hr0
      go_wp2_with fail
      go_quiet (fail)
      go_wp2_with fail
      go_quiet (fail)
      go_wp2
      go_roundw
      case rel => exact ⟨k + 1, _, rfl, by go_num, by omega, by rw [HZ.out, ← HS.out, HY.out]; exact rfl, below_drN HB2.out _⟩
      case measure => simp [intOf]; omega
    · have HE := hid (show s = run c R f l by rw [HS.out, List.take_of_length_le (by have := HLL.out; omega)])
      have i3 : ¬ (k : Int) < (ll : Int) := by omega
      have j3 : decide ((k : Int) < (ll : Int)) = false := decide_eq_false i3
      go_wp2
      go_ret
      exact ⟨by rw [HX.out, ← HE.out]; rfl, box_trans HB2.out⟩
set_option maxHeartbeats 2000000 in
theorem rtakes_any (c : Int) (no to : Option Addr) (n nc m tc : Nat) (R : Rw) (T : List Int) (lo : Option Addr) (ll lc : Nat) (l : List Int) (w : World) (hd : DRd w no n to m R T) (hl : RdI w lo l) (hll : ll = l.length) (hlm : ll ≤ most) :
    Calls Tryd.prog 25 #[.agg #[.int .i64 c, .slice no n nc, .slice to m tc], .slice lo ll lc] w fun e w' => e = .returned (.bool (tkB c R T l)) ∧ Below w.heap.size w w' := by
  have hml := hd.ml
  have HRN := hid (rrun_any c no to n nc m tc R T 0 lo ll lc l (w.alloc (.cells #[.int .i64 c, .slice no n nc, .slice to m tc] 32)) (hd.below below_box) (hl.below below_box) hll hlm)
  unfold most at hml
  have HD := hid hd
  clear hd hl hll hlm
  go_enter Tryd.func25, Tryd.ntmps25
  go_wp2_with fail
  refine HRN.out.mono ?_
  rintro e w1 ⟨rfl, b1⟩
  have HB := hid (show Below (w.heap.size + 1) (w.alloc (.cells #[.int .i64 c, .slice no n nc, .slice to m tc] 32)) w1 by simpa using b1)
  clear b1 HRN
  obtain ⟨c0, c1, c2⟩ := box3 HB.out
  have HR := hid (runB_in (c := c) (R := R) (T := T) (f := 0) (l := l))
  have HT := hid (show tkB c R T l = tkS T (runB c R T 0 l) from rfl)
  obtain ⟨s, hs⟩ : ∃ s, s = runB c R T 0 l := ⟨_, rfl⟩
  rw [← hs] at HR HT ⊢
  clear hs
  rcases HR.out with e1 | ⟨g, h0, h1⟩
  · have HK := hid (HT.out.trans (tkS_neg (by omega)))
    have e1' : decide (0 ≤ s) = false := decide_eq_false (by omega)
    clear e1
    go_wp2
    go_ret
    exact ⟨by rw [HK.out]; rfl, box_trans HB.out⟩
  · have e1' : decide (0 ≤ s) = true := decide_eq_true h0
    obtain ⟨k, rfl⟩ := nat_of h0
    have hkm : k < m := by have := g.tl; have := HD.out.hm; omega
    obtain ⟨t, a, ht, rfl, ha, a0⟩ := (HD.out.boxed HB.out).tk hkm
    have i3 : (k : Int) < (m : Int) := by omega
    clear g h1
    by_cases t1 : t = 1
    · have HK := hid (HT.out.trans (tkS_yes (by rw [ht, t1])))
      have t1' : (t == 1) = true := beq_iff_eq.2 t1
      clear t1 ht
      go_wp2
      go_ret
      exact ⟨by rw [HK.out]; rfl, box_trans HB.out⟩
    · have HK := hid (HT.out.trans (tkS_no ht t1))
      have t1' : (t == 1) = false := beq_eq_false_iff_ne.2 t1
      clear t1 ht
      go_wp2
      go_ret
      exact ⟨by rw [HK.out]; rfl, box_trans HB.out⟩
end Go.Proofs.YtmgoedcaeemilaaDoor
