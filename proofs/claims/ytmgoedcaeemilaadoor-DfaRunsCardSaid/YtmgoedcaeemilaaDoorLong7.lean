/- The contracts of Longest (package dfa, and the document's). -/
import Derived.Test.YtmgoedcaeemilaaDoorRRun7
import Derived.Test.YtmgoedcaeemilaaDoorMix
namespace Go.Proofs.YtmgoedcaeemilaaDoor
open Go.RowKit

/-- The greatest number below k at which f holds, or -1. -/
def lonP (f : Nat → Bool) : Nat → Int
  | 0 => -1
  | k + 1 => lon f k
theorem lonP_yes {f : Nat → Bool} {k : Nat} (h : f k = true) : (k : Int) = lonP f (k + 1) := (lon_yes h).symm
theorem lonP_no {f : Nat → Bool} : ∀ {k : Nat}, f k = false → lonP f k = lonP f (k + 1)
  | 0, h => (lon_no0 h).symm
  | _ + 1, h => (lon_no h).symm
theorem RdI.take {w : World} {ao : Option Addr} {l : List Int} (h : RdI w ao l) (n : Nat) : RdI w ao (l.take n) := fun k z hk => by
  rw [List.getElem?_take] at hk
  split at hk
  · exact h k z hk
  · cases hk
theorem tkB_run {c : Int} {R : Rw} {T : List Int} {l : List Int} (g : Gd c R T) : tkB c R T l = tkS T (run c R 0 l) := by unfold tkB; rw [runB_zero g]
theorem tkB_no {c : Int} {R : Rw} {T : List Int} {l : List Int} (g : ¬ Gd c R T) : tkB c R T l = false := by unfold tkB; rw [runB_no (fun h => g h.1)]; exact tkS_neg (by omega)
theorem lon_none {f : Nat → Bool} (h : ∀ k, f k = false) : ∀ m, lon f m = -1
  | 0 => lon_no0 (h 0)
  | m + 1 => (lon_no (h (m + 1))).trans (lon_none h m)
set_option maxHeartbeats 4000000 in
theorem longest_any (c : Int) (no to : Option Addr) (n nc m tc : Nat) (R : Rw) (T : List Int) (lo : Option Addr) (ll lc : Nat) (l : List Int) (w : World) (hd : DRd w no n to m R T) (hl : RdI w lo l) (hll : ll = l.length) (hlm : ll ≤ most) :
    Calls Tryd.prog 26 #[.agg #[.int .i64 c, .slice no n nc, .slice to m tc], .slice lo ll lc] w fun e w' => e = .returned (.int .i64 (lon (fun k => tkB c R T (l.take k)) ll)) ∧ Below w.heap.size w w' := by
  have hnl := hd.nl
  have hml := hd.ml
  unfold most at hnl hlm hml
  obtain ⟨F, hF⟩ : ∃ F : Nat → Bool, F = fun k => tkB c R T (l.take k) := ⟨_, rfl⟩
  rw [← hF]
  have HF := hid hF
  have HD := hid hd
  have HL := hid hl
  have HLL := hid hll
  clear hd hl hll hF
  go_enter Tryd.func26, Tryd.ntmps26
  go_wp2_with fail
  refine (good_any c no to n nc m tc R T (w.alloc (.cells #[.int .i64 c, .slice no n nc, .slice to m tc] 32)) (HD.out.below below_box)).mono ?_
  rintro e w1 ⟨rfl, b1⟩
  have HB := hid (show Below (w.heap.size + 1) (w.alloc (.cells #[.int .i64 c, .slice no n nc, .slice to m tc] 32)) w1 by simpa using b1)
  clear b1
  rcases bool_cases (gdB c R T) with hg | hg
  rotate_left
  · have HX := hid (lon_none (f := F) (fun k => by rw [HF.out]; exact tkB_no (not_gd hg)) ll)
    rw [hg]
    clear hg
    go_wp2
    go_ret
    exact ⟨by rw [HX.out]; rfl, box_trans HB.out⟩
  have HG := hid (gd_of hg)
  rw [hg]
  clear hg
  have HIN := hid (fun k => run_in HG.out (l.take k) 0 (by omega) (by have := HG.out.n1; omega))
  have HFK := hid (show ∀ k, F k = tkS T (run c R 0 (l.take k)) from fun k => by rw [HF.out]; exact tkB_run HG.out)
  have HMN := hid (show m = n by have := HG.out.tl; have := HD.out.hn; have := HD.out.hm; omega)
  go_wp2
  go_loopw [5, 6, 7] (fun x y z wr => ∃ (k : Nat) (s g : Int), x = .int .i64 g ∧ y = .int .i64 s ∧ z = .int .i64 k ∧ k ≤ ll ∧ Hid (g = lonP F k) ∧ Hid (s = run c R 0 (l.take k)) ∧ Hid (Below (w.heap.size + 1) (w.alloc (.cells #[.int .i64 c, .slice no n nc, .slice to m tc] 32)) wr)) (fun _ _ z _ => ll - (intOf z).toNat)
  case atStart => exact ⟨0, 0, -1, rfl, rfl, rfl, Nat.zero_le _, rfl, by rw [List.take_zero]; exact rfl, HB⟩
  case round =>
    clear HB
    obtain ⟨k, s, g, rfl, rfl, rfl, hk, HK, HS, HB⟩ := hrel
    obtain ⟨c0, c1, c2⟩ := box3 HB.out
    by_cases s0 : s = -1
    · have HE := hid (show g = lon F ll by
        have hs : run c R 0 (l.take k) = -1 := by rw [← HS.out]; exact s0
        cases k with
        | zero => rw [List.take_zero] at hs; exact absurd hs (by show ¬ ((0 : Int) = -1); omega)
        | succ k' =>
          rw [HK.out]
          refine (lon_up (by omega) fun j h1 h2 => ?_).symm
          rw [HFK.out j, run_drop (k' + 1), List.take_take, Nat.min_eq_left (by omega), hs, run_neg]
          exact tkS_neg (by omega))
      have s0' : (s != -1) = false := bne_eq_false_iff_eq.2 s0
      clear s0
      go_wp2
      go_ret
      exact ⟨by rw [← HE.out]; rfl, box_trans HB.out⟩
    have s0' : (s != -1) = true := bne_iff_ne.2 s0
    obtain ⟨p, rfl⟩ := nat_of (show 0 ≤ s by have := (HIN.out k).1; rw [← HS.out] at this; omega)
    have hp : p < n := by have := (HIN.out k).2; rw [← HS.out] at this; have := HD.out.hn; omega
    obtain ⟨t, a, ht, rfl, ha, a0⟩ := (HD.out.boxed HB.out).tk (show p < m by have := HMN.out; omega)
    have i3 : (p : Int) < (m : Int) := by have := HMN.out; omega
    have HFT := hid (show F k = tkS T (p : Int) by rw [HFK.out k, ← HS.out])
    have hcase : ∃ g2 : Int, (t = 1 ∧ g2 = (k : Int) ∨ t ≠ 1 ∧ g2 = g) ∧ g2 = lonP F (k + 1) := by
      by_cases t1 : t = 1
      · exact ⟨k, .inl ⟨t1, rfl⟩, lonP_yes (by rw [HFT.out]; exact tkS_yes (by rw [ht, t1]))⟩
      · exact ⟨g, .inr ⟨t1, rfl⟩, by rw [HK.out]; exact lonP_no (by rw [HFT.out]; exact tkS_no ht t1)⟩
    obtain ⟨g2, hg2, hg3⟩ := hcase
    have HG3 := hid hg3
    clear ht hg3
    by_cases ke : k = ll
    · have HE := hid (show g2 = lon F ll by rw [HG3.out, ke]; rfl)
      have ke' : ((k : Int) == (ll : Int)) = true := beq_iff_eq.2 (by omega)
      clear ke
      rcases hg2 with ⟨t1, rfl⟩ | ⟨t1, rfl⟩
      · have t1' : (t == 1) = true := beq_iff_eq.2 t1
        clear t1
        go_wp2
        go_ret
        exact ⟨by rw [← HE.out]; rfl, box_trans HB.out⟩
      · have t1' : (t == 1) = false := beq_eq_false_iff_ne.2 t1
        clear t1
        go_wp2
        go_ret
        exact ⟨by rw [← HE.out]; rfl, box_trans HB.out⟩
    have ke' : ((k : Int) == (ll : Int)) = false := beq_eq_false_iff_ne.2 (by omega)
    have hlt : k < ll := by omega
    obtain ⟨z, b, hz, rfl, hb, b0⟩ := (HL.out.boxed HB.out).at (k := k) (by rw [← HLL.out]; exact hlt)
    have HZ := hid (run_take (c := c) (R := R) (s := 0) hz)
    have HSZ := hid (HB.out.size)
    have HZL := hid hz
    have i4 : (k : Int) < (ll : Int) := by omega
    have i5 : (0 : Int) ≤ (k : Int) := by omega
    have i6 : (0 : Int) ≤ (p : Int) := by omega
    have hbd : Below (w.heap.size + 1) (w.alloc (.cells #[.int .i64 c, .slice no n nc, .slice (some a) m tc] 32)) wr.drew := HB.out.drew
    have HN := hid (next_any c no (some a) n nc m tc R T (p : Int) z wr.drew (HD.out.boxed hbd) HG.out (by omega) (by omega))
    have HBD := hid hbd
    clear hz ke hbd
    have fin : ∀ (t0 : Bool), (t == 1) = t0 → True := fun _ _ => trivial
    clear fin
    rcases hg2 with ⟨t1, rfl⟩ | ⟨t1, rfl⟩
    all_goals
      first
        | (have t1' : (t == 1) = true := beq_iff_eq.2 t1)
        | (have t1' : (t == 1) = false := beq_eq_false_iff_ne.2 t1)
      clear t1
      go_wp2_with fail
      refine wp_region_mix [(0, true), (1, true), (2, true), (3, true), (4, true), (5, true), (6, false), (7, true)] (fun w' => w'.cell? ⟨w.heap.size, 0, none⟩ = some (.int .i64 c) ∧ w'.cell? ⟨w.heap.size, 1, none⟩ = some (.slice no n nc) ∧ w'.cell? ⟨w.heap.size, 2, none⟩ = some (.slice (some a) m tc) ∧ w'.cell? (b.add k) = some (.int .i64 z)) (fun _ => false) (by kernel_rfl) (by kernel_rfl) (fun j hj => by cases hj) rfl (by kernel_rfl) ⟨c0, c1, c2, b0⟩ ?_
      iterate 6 (refine mix_free ?_ rfl (by kernel_rfl) (fun w' hS => ?_) ?_; (rotate_left; (obtain ⟨s1, s2, s3, s4⟩ := hS; go_simp; with_reducible rfl); rotate_left))
      refine mix_go rfl (by kernel_rfl) fun KK hKK => ?_
      go_simp
      refine HN.out.mono ?_
      rintro e w2 ⟨rfl, b2⟩
      have HB3 := hid (HBD.out.trans (b2.mono (by have := HSZ.out; simp at this; show w.heap.size + 1 ≤ wr.heap.size; omega)))
      clear b2 HN
      refine hKK _ _ (fun _ => by
        obtain ⟨s1, s2, s3⟩ := box3 HB3.out
        obtain ⟨b', hb', _, s4⟩ := (HL.out.boxed HB3.out) k z HZL.out
        cases hb'
        exact ⟨s1, s2, s3, s4⟩) ?_
      clear hKK KK
      refine mix_free ?_ rfl (by kernel_rfl) (fun w' hS => ?_) ?_; (rotate_left; (go_simp; with_reducible rfl); rotate_left)
      refine mix_end (NoPanic.normal ?_)
      go_simp
      go_wp2
      go_roundw
      case rel => exact ⟨k + 1, _, _, rfl, rfl, by go_num, by omega, HG3, by rw [HZ.out, ← HS.out]; exact rfl, HB3⟩
      case measure => simp [intOf]; omega
end Go.Proofs.YtmgoedcaeemilaaDoor
