/- The contracts of next, Run and Takes (package dfa), and of Run and Takes (the document's). -/
import Derived.Test.YtmgoedcaeemilaaDoorRCheck7
namespace Go.Proofs.YtmgoedcaeemilaaDoor
open Go.RowKit

theorem nat_of {s : Int} (h : 0 ≤ s) : ∃ k : Nat, s = (k : Int) := ⟨s.toNat, by omega⟩
set_option maxHeartbeats 2000000 in
theorem next_any (c : Int) (no to : Option Addr) (n nc m tc : Nat) (R : Rw) (T : List Int) (s x : Int) (w : World) (hd : DRd w no n to m R T) (g : Gd c R T) (hs0 : -1 ≤ s) (hs1 : s < (n : Int)) :
    Calls Tryd.prog 60 #[.agg #[.int .i64 c, .slice no n nc, .slice to m tc], .int .i64 s, .int .i64 x] w fun e w' => e = .returned (.int .i64 (nxt c R s x)) ∧ Below w.heap.size w w' := by
  have hnl := hd.nl
  unfold most at hnl
  have HD := hid hd
  have HG := hid g
  clear hd g
  have HBX := hid (below_box (w := w) (o := .cells #[.int .i64 c, .slice no n nc, .slice to m tc] 32))
  by_cases e1 : s = -1
  · have HX := hid (nxt_out (c := c) (R := R) (s := s) (x := x) (.inl (by omega)))
    have e1' : (s == -1) = true := beq_iff_eq.2 e1
    clear e1
    go_enter Tryd.func60, Tryd.ntmps60
    go_wp2
    go_ret
    exact ⟨by rw [HX.out]; rfl, HBX.out⟩
  have e1' : (s == -1) = false := beq_eq_false_iff_ne.2 e1
  by_cases e2 : x < 0
  · have HX := hid (nxt_out (c := c) (R := R) (s := s) (x := x) (.inr (.inl e2)))
    have e2' : decide (x < 0) = true := decide_eq_true e2
    go_enter Tryd.func60, Tryd.ntmps60
    go_wp2
    go_ret
    exact ⟨by rw [HX.out]; rfl, HBX.out⟩
  have e2' : decide (x < 0) = false := decide_eq_false e2
  by_cases e3 : c ≤ x
  · have HX := hid (nxt_out (c := c) (R := R) (s := s) (x := x) (.inr (.inr e3)))
    have e3' : decide (c ≤ x) = true := decide_eq_true e3
    go_enter Tryd.func60, Tryd.ntmps60
    go_wp2
    go_ret
    exact ⟨by rw [HX.out]; rfl, HBX.out⟩
  have e3' : decide (c ≤ x) = false := decide_eq_false e3
  obtain ⟨k, rfl⟩ := nat_of (show 0 ≤ s by omega)
  obtain ⟨j, rfl⟩ := nat_of (show 0 ≤ x by omega)
  have hk : k < n := by omega
  obtain ⟨row, a, co, cc, hr, rfl, ha, a0, hI, hrl⟩ := (HD.out.below HBX.out).row hk
  have hrow : (row.length : Int) = c := by
    have hkR : k < R.length := by have := HD.out.hn; omega
    exact (HG.out.row k row (T[k]'(by have := HG.out.tl; omega)) hr (List.getElem?_eq_getElem _)).2.1
  obtain ⟨z, d, hz, rfl, hd, d0⟩ := hI.at (k := j) (by omega)
  have HX := hid (nxt_at (c := c) hr hz (by omega))
  obtain ⟨l, hl⟩ : ∃ l, l = row.length := ⟨_, rfl⟩
  rw [← hl] at a0
  have i1 : (j : Int) < (l : Int) := by omega
  have i2 : (0 : Int) ≤ (j : Int) := by omega
  have i3 : (0 : Int) ≤ (k : Int) := by omega
  clear hr hz hI hrl hrow hl e1 e2 e3
  go_enter Tryd.func60, Tryd.ntmps60
  go_wp2
  go_ret
  exact ⟨by rw [HX.out]; rfl, HBX.out⟩
set_option maxHeartbeats 4000000 in
theorem run_any (c : Int) (no to : Option Addr) (n nc m tc : Nat) (R : Rw) (T : List Int) (f : Int) (lo : Option Addr) (ll lc : Nat) (l : List Int) (w : World) (hd : DRd w no n to m R T) (hl : RdI w lo l) (hll : ll = l.length) (hlm : ll ≤ most) :
    Calls Tryd.prog 23 #[.agg #[.int .i64 c, .slice no n nc, .slice to m tc], .int .i64 f, .slice lo ll lc] w fun e w' => e = .returned (.int .i64 (runB c R T f l)) ∧ Below w.heap.size w w' := by
  have hnl := hd.nl
  unfold most at hnl hlm
  have HD := hid hd
  have HL := hid hl
  have HLL := hid hll
  clear hd hl hll
  go_enter Tryd.func23, Tryd.ntmps23
  go_wp2_with fail
  refine (good_any c no to n nc m tc R T (w.alloc (.cells #[.int .i64 c, .slice no n nc, .slice to m tc] 32)) (HD.out.below below_box)).mono ?_
  rintro e w1 ⟨rfl, b1⟩
  have HB := hid (show Below (w.heap.size + 1) (w.alloc (.cells #[.int .i64 c, .slice no n nc, .slice to m tc] 32)) w1 by simpa using b1)
  clear b1
  obtain ⟨c0, c1, c2⟩ := box3 HB.out
  rcases bool_cases (gdB c R T) with hg | hg
  rotate_left
  · have HX := hid (runB_no (c := c) (R := R) (T := T) (f := f) (l := l) (fun h => not_gd hg h.1))
    rw [hg]
    clear hg
    go_wp2
    go_ret
    exact ⟨by rw [HX.out]; rfl, box_trans HB.out⟩
  have HG := hid (gd_of hg)
  rw [hg]
  clear hg
  by_cases f0 : f < 0
  · have HX := hid (runB_no (c := c) (R := R) (T := T) (f := f) (l := l) (fun h => by have := h.2.1; omega))
    have f0' : decide (f < 0) = true := decide_eq_true f0
    go_wp2
    go_ret
    exact ⟨by rw [HX.out]; rfl, box_trans HB.out⟩
  have f0' : decide (f < 0) = false := decide_eq_false f0
  by_cases f1 : (n : Int) ≤ f
  · have HX := hid (runB_no (c := c) (R := R) (T := T) (f := f) (l := l) (fun h => by have := h.2.2; have := HD.out.hn; omega))
    have f1' : decide ((n : Int) ≤ f) = true := decide_eq_true f1
    go_wp2
    go_ret
    exact ⟨by rw [HX.out]; rfl, box_trans HB.out⟩
  have f1' : decide ((n : Int) ≤ f) = false := decide_eq_false f1
  have HX := hid (runB_yes (c := c) (R := R) (T := T) (f := f) (l := l) HG.out (by omega) (by have := HD.out.hn; omega))
  have HIN := hid (fun k => run_in HG.out (l.take k) f (by omega) (by have := HD.out.hn; omega))
  go_wp2
  clear f0' f1' c0 c1 c2
  go_loopw [1, 25] (fun x y wr => ∃ (k : Nat) (s : Int), x = .int .i64 s ∧ y = .int .i64 k ∧ k ≤ ll ∧ Hid (s = run c R f (l.take k)) ∧ Hid (Below (w.heap.size + 1) (w.alloc (.cells #[.int .i64 c, .slice no n nc, .slice to m tc] 32)) wr)) (fun _ y _ => ll - (intOf y).toNat)
  case atStart => exact ⟨0, f, rfl, rfl, Nat.zero_le _, by rw [List.take_zero]; exact rfl, HB⟩
  case round =>
    obtain ⟨k, s, rfl, rfl, hk, HS, HB2⟩ := hrel
    obtain ⟨c0, c1, c2⟩ := box3 HB2.out
    by_cases hlt : k < ll
    · obtain ⟨z, a, hz, rfl, ha, a0⟩ := (HL.out.boxed HB2.out).at (k := k) (by rw [← HLL.out]; exact hlt)
      have HZ := hid (run_take (c := c) (R := R) (s := f) hz)
      have HN := hid (next_any c no to n nc m tc R T s z wr (HD.out.boxed HB2.out) HG.out (by rw [HS.out]; exact (HIN.out k).1) (by rw [HS.out, HD.out.hn]; exact (HIN.out k).2))
      clear hz
      have i3 : (k : Int) < (ll : Int) := by omega
      go_wp2_with fail
      refine HN.out.mono ?_
      rintro e w2 ⟨rfl, b2⟩
      have HB3 := hid (HB2.out.trans (b2.mono (by have := HB2.out.size; simpa using this)))
      clear b2 HN c0 c1 c2
      go_wp2
      go_roundw
      case rel => exact ⟨k + 1, _, rfl, by go_num, by omega, by rw [HZ.out, HS.out]; exact rfl, HB3⟩
      case measure => simp [intOf]; omega
    · have HE := hid (show s = run c R f l by rw [HS.out, List.take_of_length_le (by have := HLL.out; omega)])
      have i3 : ¬ (k : Int) < (ll : Int) := by omega
      go_wp2
      go_ret
      exact ⟨by rw [HX.out, ← HE.out]; rfl, box_trans HB2.out⟩
set_option maxHeartbeats 2000000 in
theorem takes_any (c : Int) (no to : Option Addr) (n nc m tc : Nat) (R : Rw) (T : List Int) (lo : Option Addr) (ll lc : Nat) (l : List Int) (w : World) (hd : DRd w no n to m R T) (hl : RdI w lo l) (hll : ll = l.length) (hlm : ll ≤ most) :
    Calls Tryd.prog 16 #[.agg #[.int .i64 c, .slice no n nc, .slice to m tc], .slice lo ll lc] w fun e w' => e = .returned (.bool (tkB c R T l)) ∧ Below w.heap.size w w' := by
  have hml := hd.ml
  have HRN := hid (run_any c no to n nc m tc R T 0 lo ll lc l (w.alloc (.cells #[.int .i64 c, .slice no n nc, .slice to m tc] 32)) (hd.below below_box) (hl.below below_box) hll hlm)
  unfold most at hml
  have HD := hid hd
  clear hd hl hll hlm
  go_enter Tryd.func16, Tryd.ntmps16
  go_wp2_with fail
  refine HRN.out.mono ?_
  rintro e w1 ⟨rfl, b1⟩
  have HB := hid (show Below (w.heap.size + 1) (w.alloc (.cells #[.int .i64 c, .slice no n nc, .slice to m tc] 32)) w1 by simpa using b1)
  clear b1 HRN
  obtain ⟨c0, c1, c2⟩ := box3 HB.out
  have HR := hid (runB_in (c := c) (R := R) (T := T) (f := 0) (l := l))
  have HT := hid (show tkB c R T l = tkS T (runB c R T 0 l) from rfl)
  obtain ⟨s, hs⟩ : ∃ s, s = runB c R T 0 l := ⟨_, rfl⟩
  rw [← hs] at HR HT ⊢
  clear hs
  rcases HR.out with e1 | ⟨g, h0, h1⟩
  · have HK := hid (HT.out.trans (tkS_neg (by omega)))
    have e1' : (s != -1) = false := bne_eq_false_iff_eq.2 e1
    clear e1
    go_wp2
    go_ret
    exact ⟨by rw [HK.out]; rfl, box_trans HB.out⟩
  · have e1' : (s != -1) = true := bne_iff_ne.2 (by omega)
    obtain ⟨k, rfl⟩ := nat_of h0
    have hkm : k < m := by have := g.tl; have := HD.out.hm; omega
    obtain ⟨t, a, ht, rfl, ha, a0⟩ := (HD.out.boxed HB.out).tk hkm
    have i3 : (k : Int) < (m : Int) := by omega
    clear g h1
    by_cases t1 : t = 1
    · have HK := hid (HT.out.trans (tkS_yes (by rw [ht, t1])))
      have t1' : (t == 1) = true := beq_iff_eq.2 t1
      clear t1 ht
      go_wp2
      go_ret
      exact ⟨by rw [HK.out]; rfl, box_trans HB.out⟩
    · have HK := hid (HT.out.trans (tkS_no ht t1))
      have t1' : (t == 1) = false := beq_eq_false_iff_ne.2 t1
      clear t1 ht
      go_wp2
      go_ret
      exact ⟨by rw [HK.out]; rfl, box_trans HB.out⟩
end Go.Proofs.YtmgoedcaeemilaaDoor
