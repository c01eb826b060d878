/- PlacesBack: there and back; the law's walk. -/
import Derived.Test.YtffbdnlfknomnaaDoorPcPntJoint
import Derived.Test.YtffbdnlfknomnaaDoorLiveRun7
namespace Go.Proofs.YtffbdnlfknomnaaDoor.Wt
open Go.RowKit Go.Shelf

theorem tbs_below {w w' : World} (h : Ev.Tbs tabs w) (hb : Below w.heap.size w w') : Ev.Tbs tabs w' := fun x hx => by
  obtain ⟨c, h1, h2⟩ := h x hx
  exact ⟨c, (hb.block _ (Array.getElem?_eq_some_iff.1 h1).1).trans h1, h2⟩
/-- How many there are by a count. -/
def lenN (l : List UInt8) : Nat → Nat
  | 0 => (unitsL l).length
  | 1 => (runesL l).length
  | 2 => l.length
  | _ => (lettersL l).length
theorem lenN_le (l : List UInt8) (b : Nat) : lenN l b ≤ l.length := by
  unfold lenN
  split
  · exact rise_len (units_scl.rise l) (units_scl.lt l)
  · exact rise_len (runes_scl.rise l) (runes_scl.lt l)
  · exact Nat.le_refl _
  · exact rise_len (letters_scl.rise l) (letters_scl.lt l)
theorem len_by (X : Nat) (l : List UInt8) (ku kr kl ke : Value) (w : World) (h : IxAt w X l ku kr kl ke) (b : Nat) (hb : b < 4) :
    Calls Tryd.prog 15 #[.pointer (some ⟨X, 0, none⟩), .int .i64 b] w fun e w' => e = .returned (.int .i64 (lenN l b : Nat)) ∧ Below w.heap.size w w' := by
  obtain rfl | rfl | rfl | rfl : b = 0 ∨ b = 1 ∨ b = 2 ∨ b = 3 := by omega
  · exact len0_any X l ku kr kl ke w h
  · exact len1_any X l ku kr kl ke w h
  · exact (len2_any X l ku kr kl ke w h).mono fun e w' ⟨h1, h2⟩ => ⟨h1, by rw [h2]; exact Below.refl _ _⟩
  · exact len3_any X l ku kr kl ke w h
/-- From, and To of what it tells. -/
theorem from_to (X : Nat) (l : List UInt8) (ku kr kl ke : Value) (w : World) (h : IxAt w X l ku kr kl ke) (b n : Nat) (hb : b < 4) (hn : n ≤ lenN l b) (ht : TbW w) (hl : l.length ≤ 100) :
    Calls Tryd.prog 17 #[.pointer (some ⟨X, 0, none⟩), .int .i64 b, .int .i64 n] w fun e w' => ∃ q : Nat, e = .returned (.int .i64 q) ∧ Hid (∀ W, IxAt W X l ku kr kl ke → TbW W → Calls Tryd.prog 16 #[.pointer (some ⟨X, 0, none⟩), .int .i64 b, .int .i64 q] W fun e w' => e = .returned (.int .i64 n) ∧ Below W.heap.size W w') ∧ Below w.heap.size w w' := by
  obtain rfl | rfl | rfl | rfl : b = 0 ∨ b = 1 ∨ b = 2 ∨ b = 3 := by omega
  · refine (from0_any X l ku kr kl ke w h n ht hl).mono fun e w' ⟨h1, h2⟩ => ⟨_, h1, fun W hW hT => ?_, h2⟩
    have hc := cnt_back (unitsL l) l.length (units_scl.rise l) (units_scl.lt l) n hn
    refine (to0_any X l ku kr kl ke W hW _ hT hl).mono fun e w' ⟨h1, h2⟩ => ⟨?_, h2⟩
    rw [h1, hc]
  · refine (from1_any X l ku kr kl ke w h n ht hl).mono fun e w' ⟨h1, h2⟩ => ⟨_, h1, fun W hW hT => ?_, h2⟩
    have hc := cnt_back (runesL l) l.length (runes_scl.rise l) (runes_scl.lt l) n hn
    refine (to1_any X l ku kr kl ke W hW _ hT hl).mono fun e w' ⟨h1, h2⟩ => ⟨?_, h2⟩
    rw [h1, hc]
  · exact (from2_any X l ku kr kl ke w h n (by omega) (by have : n ≤ l.length := hn; omega)).mono fun e w' ⟨h1, h2⟩ => ⟨n, h1, fun W hW _ => (to2_any X l ku kr kl ke W hW n (by omega) (by have : n ≤ l.length := hn; omega)).mono fun e w' ⟨h1, h2⟩ => ⟨h1, by rw [h2]; exact Below.refl _ _⟩, by rw [h2]; exact Below.refl _ _⟩
  · refine (from3_any X l ku kr kl ke w h n ht hl).mono fun e w' ⟨h1, h2⟩ => ⟨_, h1, fun W hW hT => ?_, h2⟩
    have hc := cnt_back (lettersL l) l.length (letters_scl.rise l) (letters_scl.lt l) n hn
    refine (to3_any X l ku kr kl ke W hW _ hT hl).mono fun e w' ⟨h1, h2⟩ => ⟨?_, h2⟩
    rw [h1, hc]
/-- At of Point, at a line's beginning and at its end. -/
theorem at_from (l : List UInt8) (i : Nat) (h : i ≤ (endsL l).length) : atV ((cntB (lettersL l) (lnT l i : Nat) : Int) - cntB (lettersL l) (lnF l i : Nat)) 0 (lnT l i) (plcB (lettersL l) ((cntB (lettersL l) (lnF l i : Nat) : Int) + 0) l.length) = lnF l i := by
  have hle := lnF_le l i h
  have hT := lnT_le l i
  unfold atV
  rcases Nat.eq_or_lt_of_le hle with e | e
  · rw [e]
    by_cases h0 : ((cntB (lettersL l) (lnT l i : Nat) : Int) - cntB (lettersL l) (lnT l i : Nat)) ≤ 0
    · rw [if_pos h0]
    · omega
  · have hm := lnF_is l i (by omega)
    have hg := cnt_gt (lettersL l) _ _ (letters_scl.rise l) hm e
    rw [if_neg (by omega), Int.add_zero]
    exact plc_back (lettersL l) l.length _ (letters_scl.rise l) hm
theorem at_to (l : List UInt8) (i : Nat) : atV ((cntB (lettersL l) (lnT l i : Nat) : Int) - cntB (lettersL l) (lnF l i : Nat)) ((cntB (lettersL l) (lnT l i : Nat) : Int) - cntB (lettersL l) (lnF l i : Nat)) (lnT l i) (plcB (lettersL l) ((cntB (lettersL l) (lnF l i : Nat) : Int) + ((cntB (lettersL l) (lnT l i : Nat) : Int) - cntB (lettersL l) (lnF l i : Nat))) l.length) = lnT l i := by
  unfold atV
  rw [if_pos (Int.le_refl _)]
theorem nxl_ge (l : List UInt8) (p : Nat) (h : p ≤ l.length) : p ≤ nxl l p := by
  rcases Nat.lt_or_ge p l.length with h1 | h1
  · obtain ⟨f, _, _, h3⟩ := letter_at l p h1
    omega
  · rw [nxl_end l p h1]; exact h
set_option maxHeartbeats 4000000 in
theorem back_main (l : List UInt8) (w : World) (ht : TbW w) (hw : Ev.Tbs tabs w) :
    Calls Tryd.prog 6 #[.string ⟨l.toArray⟩] w fun e w' => e = .returned (.bool true) ∧ Below w.heap.size w w' := by
  have HT := hid ht
  have HW := hid hw
  clear ht hw
  by_cases hl : (100 : Int) < (l.length : Int)
  · go_enter Tryd.func6, Tryd.ntmps6
    go_wp2_with fail
    refine (lives7 w HW.out).mono ?_
    rintro e w1 ⟨rfl, be⟩
    have HB := hid be
    clear be
    go_wp2
    go_ret
    exact ⟨rfl, HB.out⟩
  have hl2 : l.length ≤ 100 := by omega
  have HL2 := hid hl2
  go_enter Tryd.func6, Tryd.ntmps6
  go_wp2_with fail
  refine (new_any l w HT.out hl2).mono ?_
  rintro e w1 ⟨X, ku, kr, kl, ke, rfl, hI, be⟩
  have HI1 := hid hI
  have HB1 := hid be
  clear be hI
  go_wp2
  go_loopw [4] (fun vb wr => ∃ b : Nat, vb = .int .i64 b ∧ b ≤ 4 ∧ Hid (IxAt wr X l ku kr kl ke) ∧ Hid (Below w.heap.size w wr)) (fun vb _ => 4 - (intOf vb).toNat)
  case atStart => exact ⟨0, rfl, by omega, HI1, HB1⟩
  case round =>
    obtain ⟨b, rfl, hb4, HI, HB⟩ := hrel
    by_cases hb : b < 4
    · have hbi : (b : Int) < 4 := by omega
      obtain ⟨m, hm⟩ : ∃ m, m = lenN l b := ⟨_, rfl⟩
      have hml : m ≤ 100 := by rw [hm]; exact Nat.le_trans (lenN_le l b) hl2
      have HM := hid hm
      clear hm
      go_wp2
      go_loopw [5] (fun vn wr' => ∃ n : Nat, vn = .int .i64 n ∧ n ≤ m + 1 ∧ Hid (IxAt wr' X l ku kr kl ke) ∧ Hid (Below w.heap.size w wr')) (fun vn _ => m + 1 - (intOf vn).toNat)
      case atStart => exact ⟨0, rfl, by omega, HI, HB⟩
      case round =>
        obtain ⟨n, rfl, hn1, HI', HB'⟩ := hrel
        go_wp2_with fail
        refine (len_by X l ku kr kl ke _ HI'.out b hb).mono ?_
        rintro e w2 ⟨rfl, be⟩
        rw [← HM.out]
        have HB2 := hid (HB'.out.trans (be.mono HB'.out.size))
        have HI2 := hid (HI'.out.below be)
        clear be
        by_cases hnm : n ≤ m
        · have hni : (n : Int) ≤ (m : Int) := by omega
          go_wp2_with fail
          refine (from_to X l ku kr kl ke w2 HI2.out b n hb (by rw [← HM.out]; exact hnm) (HT.out.below HB2.out) HL2.out).mono ?_
          rintro e w3 ⟨q, rfl, HTO, be⟩
          have HB3 := hid (HB2.out.trans (be.mono HB2.out.size))
          have HI3 := hid (HI2.out.below be)
          clear be
          go_wp2_with fail
          refine (HTO.out w3 HI3.out (HT.out.below HB3.out)).mono ?_
          rintro e w4 ⟨rfl, be⟩
          have HB4 := hid (HB3.out.trans (be.mono HB3.out.size))
          have HI4 := hid (HI3.out.below be)
          clear be
          go_wp2
          go_roundw
          case rel => exact ⟨n + 1, by go_num, by omega, HI4, HB4⟩
          case measure => simp [intOf]; omega
        · have hni : ¬ (n : Int) ≤ (m : Int) := by omega
          go_wp2
          go_roundw
          case rel => exact ⟨b + 1, by go_num, by omega, HI2, HB2⟩
          case measure => simp [intOf]; omega
    · have hbi : ¬ (b : Int) < 4 := by omega
      obtain ⟨E, hE⟩ : ∃ E, E = (endsL l).length := ⟨_, rfl⟩
      have hE2 : E ≤ 100 := by rw [hE]; exact Nat.le_trans (ends_len l) hl2
      have HE := hid hE
      clear hE
      go_wp2
      go_loopw [6, 7] (fun vx vi wr' => ∃ i nx : Nat, vi = .int .i64 i ∧ vx = .int .i64 nx ∧ i ≤ E + 1 ∧ Hid (nx = if i ≤ E then lnF l i else l.length) ∧ Hid (IxAt wr' X l ku kr kl ke) ∧ Hid (Below w.heap.size w wr')) (fun _ vi _ => E + 1 - (intOf vi).toNat)
      case atStart => exact ⟨0, 0, rfl, rfl, by omega, by show 0 = if 0 ≤ E then lnF l 0 else l.length; rw [if_pos (Nat.zero_le _)]; rfl, HI, HB⟩
      case round =>
        obtain ⟨i, nx, rfl, rfl, hi1, HNX, HI', HB'⟩ := hrel
        go_wp2_with fail
        refine (lines_any X l ku kr kl ke _ HI'.out (by rw [← HE.out]; omega)).mono ?_
        rintro e w2 ⟨rfl, hw2⟩
        subst hw2
        rw [← HE.out]
        by_cases hiE : i ≤ E
        · have hii : (i : Int) < (E : Int) + 1 := by omega
          have HIE := hid (show i ≤ (endsL l).length by rw [← HE.out]; exact hiE)
          have HNX2 := hid (show nx = lnF l i by rw [HNX.out, if_pos hiE])
          have hFT := lnF_le l i HIE.out
          have hTL := lnT_le l i
          have hTN := nxl_ge l (lnT l i) hTL
          have hNL := nxl_le l (lnT l i)
          have HC1 := hid (cnt_line l i HIE.out (lnF l i) (Nat.le_refl _) hFT)
          have HC2 := hid (cnt_line l i HIE.out (lnT l i) hFT (Nat.le_refl _))
          have HA1 := hid (at_from l i HIE.out)
          have HA2 := hid (at_to l i)
          have HNN := hid (show nxl l (lnT l i) = if i + 1 ≤ E then lnF l (i + 1) else l.length by
            by_cases h1 : i + 1 ≤ E
            · rw [if_pos h1, lnF_succ]
            · rw [if_neg h1, lnT_end l i (by rw [← HE.out]; omega), nxl_end l _ (Nat.le_refl _)])
          have hk1 := cntL_le l hl2 (lnT l i : Nat)
          have hk2 := cntL_le l hl2 (lnF l i : Nat)
          have hk3 := cnt_mono (lettersL l) (lnF l i : Nat) (lnT l i : Nat) (by omega)
          obtain ⟨f, hf⟩ : ∃ f, f = lnF l i := ⟨_, rfl⟩
          obtain ⟨t, htt⟩ : ∃ t, t = lnT l i := ⟨_, rfl⟩
          have HLN := hid (fun W (hI : IxAt W X l ku kr kl ke) (hT : TbW W) => line_any X l ku kr kl ke W hI i HIE.out hT HL2.out)
          have HP1 := hid (fun W (hI : IxAt W X l ku kr kl ke) (hT : TbW W) => point_any X l ku kr kl ke W hI (lnF l i) i HC1.out HIE.out (Nat.le_refl _) hFT hT HL2.out)
          have HP2 := hid (fun W (hI : IxAt W X l ku kr kl ke) (hT : TbW W) => point_any X l ku kr kl ke W hI (lnT l i) i HC2.out HIE.out hFT (Nat.le_refl _) hT HL2.out)
          have HQ1 := hid (fun W (hI : IxAt W X l ku kr kl ke) (hT : TbW W) => at_any X l ku kr kl ke W hI i 0 HIE.out (Int.le_refl _) (by omega) hT HL2.out)
          have HQ2 := hid (fun W (hI : IxAt W X l ku kr kl ke) (hT : TbW W) => at_any X l ku kr kl ke W hI i ((cntB (lettersL l) (lnT l i : Nat) : Int) - cntB (lettersL l) (lnF l i : Nat)) HIE.out (by omega) (by omega) hT HL2.out)
          rw [HA1.out] at HQ1
          rw [HA2.out] at HQ2
          obtain ⟨y, hy⟩ : ∃ y, y = nxl l (lnT l i) := ⟨_, rfl⟩
          obtain ⟨c, hc⟩ : ∃ c : Int, c = (cntB (lettersL l) (lnT l i : Nat) : Int) - cntB (lettersL l) (lnF l i : Nat) := ⟨_, rfl⟩
          have HZ := hid (show ((cntB (lettersL l) (lnF l i : Nat) : Int) - cntB (lettersL l) (lnF l i : Nat)) = 0 by omega)
          rw [HZ.out] at HP1
          rw [← hc] at HP2 HQ2
          rw [← hy] at HLN hTN hNL HNN
          rw [← hf] at HLN HP1 HQ1 HNX2 hFT
          rw [← htt] at HLN HP2 HQ2 hFT hTL hTN
          have hfx : nx = f := HNX2.out
          subst hfx
          have i1 : ¬ (t : Int) < (nx : Int) := by omega
          have i2 : ¬ (y : Int) < (t : Int) := by omega
          have i3 : ¬ (l.length : Int) < (y : Int) := by omega
          clear hk1 hk2 hk3 hc hy hf htt hFT hTL hTN hNL HZ HA1 HA2 HC1 HC2 HNX2 HNX
          go_wp2_with fail
          refine (HLN.out _ HI'.out (HT.out.below HB'.out)).mono ?_
          rintro e w3 ⟨rfl, be⟩
          have HB3 := hid (HB'.out.trans (be.mono HB'.out.size))
          have HI3 := hid (HI'.out.below be)
          clear be
          go_wp2_with fail
          refine (HP1.out w3 HI3.out (HT.out.below HB3.out)).mono ?_
          rintro e w4 ⟨rfl, be⟩
          have HB4 := hid (HB3.out.trans (be.mono HB3.out.size))
          have HI4 := hid (HI3.out.below be)
          clear be
          go_wp2_with fail
          refine (HQ1.out w4 HI4.out (HT.out.below HB4.out)).mono ?_
          rintro e w5 ⟨rfl, be⟩
          have HB5 := hid (HB4.out.trans (be.mono HB4.out.size))
          have HI5 := hid (HI4.out.below be)
          clear be
          go_wp2_with fail
          refine (HP2.out w5 HI5.out (HT.out.below HB5.out)).mono ?_
          rintro e w6 ⟨rfl, be⟩
          have HB6 := hid (HB5.out.trans (be.mono HB5.out.size))
          have HI6 := hid (HI5.out.below be)
          clear be
          go_wp2_with fail
          refine (HQ2.out w6 HI6.out (HT.out.below HB6.out)).mono ?_
          rintro e w7 ⟨rfl, be⟩
          have HB7 := hid (HB6.out.trans (be.mono HB6.out.size))
          have HI7 := hid (HI6.out.below be)
          clear be
          go_wp2
          go_roundw
          case rel => exact ⟨i + 1, y, by go_num, rfl, by omega, HNN, HI7, HB7⟩
          case measure => simp [intOf]; omega
        · have hii : ¬ (i : Int) < (E : Int) + 1 := by omega
          obtain rfl : nx = l.length := by rw [HNX.out, if_neg hiE]
          clear HNX
          go_wp2_with fail
          refine (lives7 _ (tbs_below HW.out HB'.out)).mono ?_
          rintro e w3 ⟨rfl, be⟩
          have HB3 := hid (HB'.out.trans (be.mono HB'.out.size))
          clear be
          go_wp2
          go_ret
          exact ⟨rfl, HB3.out⟩
end Go.Proofs.YtffbdnlfknomnaaDoor.Wt
