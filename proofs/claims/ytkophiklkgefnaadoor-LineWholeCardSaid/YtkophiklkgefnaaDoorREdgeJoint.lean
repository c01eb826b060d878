/- The contracts of begin and Is (package utf). -/
import Derived.Test.YtkophiklkgefnaaDoorBase
import Derived.Test.YtkophiklkgefnaaDoorRMath
namespace Go.Proofs.YtkophiklkgefnaaDoor
open Go.RowKit

theorem start_eq (b q : Int) (w : World) (hb : b = q) (h0 : 0 ≤ q) (h1 : q < 256) :
    Calls Tryd.prog 94 #[.int .u8 b] w fun e w' => e = .returned (.bool (Lib.runeStart q)) ∧ w' = w := by
  subst hb
  exact Tryd.utf8_RuneStart b w h0 h1
set_option maxRecDepth 100000 in
set_option maxHeartbeats 400000 in
theorem begin_any (l : List UInt8) (p : Nat) (w : World) (hp : p < l.length) (hl : l.length ≤ 1000000000000) (hT : Lib.Utf8Tabs 0 1 w) (h2 : 2 ≤ w.heap.size) :
    Calls Tryd.prog 68 #[.string ⟨l.toArray⟩, .int .i64 p] w fun e w' => e = .returned (.int .i64 (bgF l p 4)) ∧ Below w.heap.size w w' := by
  have HT := hid hT
  clear hT
  go_enter Tryd.func68, Tryd.ntmps68
  go_wp2
  go_loopw [5] (fun fr wr => ∃ (f : Nat) (z : Int), fr = .int .i64 z ∧ z = (p : Int) - (4 - f) ∧ f ≤ 4 ∧ -1 ≤ z ∧ Hid (bgF l p f = bgF l p 4) ∧ Below w.heap.size w wr) (fun fr _ => (intOf fr + 1).toNat)
  case atStart => exact ⟨4, _, rfl, by omega, by omega, by omega, rfl, Below.refl _ _⟩
  case round =>
    obtain ⟨f, z, rfl, hz, hf4, hz1, HF, hB⟩ := hrel
    by_cases hf : p < 4 - f
    · have HR := hid (HF.out.symm.trans (bgF_out l p f hf))
      obtain rfl : z = -1 := by omega
      clear hz
      go_wp2
      go_ret
      exact ⟨by rw [HR.out]; rfl, hB⟩
    cases f with
    | zero =>
      have HR := hid (HF.out.symm)
      have hz' : z = (p : Int) - 4 := by omega
      have HZ := hid hz'
      have c1 : ¬ (p : Int) - 4 < z := by omega
      clear hz hz'
      by_cases c2 : 0 ≤ z
      all_goals
        go_wp2
        go_ret
        exact ⟨by rw [HR.out]; rfl, hB⟩
    | succ f =>
      obtain ⟨t, ht⟩ : ∃ t : Nat, t + (3 - f) = p := ⟨p - (3 - f), by omega⟩
      obtain rfl : z = t := by omega
      have hlt : t < l.length := by omega
      have c1 : (p : Int) - 4 < t := by omega
      have htp : t ≤ p := by omega
      have hsz : t < (⟨l.toArray⟩ : ByteArray).size := by show t < l.toArray.size; simpa using hlt
      have HZ := hid hz
      have HTP := hid ht
      obtain ⟨b0, b1⟩ := byt_bd l t
      have HT1 := hid (tabs_below HT.out h2 hB)
      have hw2 : 2 ≤ wr.heap.size := by have := hB.size; omega
      clear hz ht hf
      cases hr : Lib.runeStart (byt l t) with
      | false =>
        have HM := hid (bgF_more l p f t HTP.out hr)
        go_wp2_with (go_at_call 94; refine (start_eq _ (byt l t) _ (byt_eq l t hsz) b0 b1).mono ?_; rintro e w' ⟨rfl, rfl⟩)
        go_roundw
        case rel => exact ⟨f, _, rfl, by have := HZ.out; omega, by omega, by omega, (HM.out.symm.trans HF.out), hB⟩
        case measure => simp [intOf]
      | true =>
        have h4 := dec_le4 (l.drop t)
        by_cases hn : p < t + (dec (l.drop t)).2
        · have HR := hid (HF.out.symm.trans (bgF_in l p f t HTP.out hr hn))
          go_wp2_with (go_at_call 94; refine (start_eq _ (byt l t) _ (byt_eq l t hsz) b0 b1).mono ?_; rintro e w' ⟨rfl, rfl⟩)
          refine (decode_eq _ (l.drop t) _ (ext_drop l t) (by exact HT1.out)).mono ?_
          rintro e w1 ⟨rfl, hb⟩
          generalize (dec (l.drop t)).1 = rr at *
          generalize (dec (l.drop t)).2 = nn at *
          clear hr HT1 HT HF HZ HTP b0 b1 hsz
          go_wp2
          go_ret
          exact ⟨by rw [HR.out]; rfl, hB.trans (hb.mono hB.size)⟩
        · have HR := hid (HF.out.symm.trans (bgF_off l p f t HTP.out hr hn))
          go_wp2_with (go_at_call 94; refine (start_eq _ (byt l t) _ (byt_eq l t hsz) b0 b1).mono ?_; rintro e w' ⟨rfl, rfl⟩)
          refine (decode_eq _ (l.drop t) _ (ext_drop l t) (by exact HT1.out)).mono ?_
          rintro e w1 ⟨rfl, hb⟩
          generalize (dec (l.drop t)).1 = rr at *
          generalize (dec (l.drop t)).2 = nn at *
          clear hr HT1 HT HF HZ HTP b0 b1 hsz
          go_wp2
          go_ret
          exact ⟨by rw [HR.out]; rfl, hB.trans (hb.mono hB.size)⟩
set_option maxHeartbeats 400000 in
theorem is_any (l : List UInt8) (p : Int) (w : World) (hl : l.length ≤ 1000000000000) (hT : Lib.Utf8Tabs 0 1 w) (h2 : 2 ≤ w.heap.size) :
    Calls Tryd.prog 41 #[.string ⟨l.toArray⟩, .int .i64 p] w fun e w' => e = .returned (.bool (isE l p)) ∧ Below w.heap.size w w' := by
  have HT := hid hT
  clear hT
  by_cases c1 : p ≤ 0
  · have HI := hid (show isE l p = (p == 0) from if_pos c1)
    by_cases c0 : p = 0
    · subst c0
      go_enter Tryd.func41, Tryd.ntmps41
      go_wp2
      go_ret
      exact ⟨by rw [HI.out]; rfl, Below.refl _ _⟩
    · have c3 : (p == 0) = false := beq_eq_false_iff_ne.2 c0
      have c4 : (p == (l.length : Int)) = false := beq_eq_false_iff_ne.2 (by omega)
      go_enter Tryd.func41, Tryd.ntmps41
      go_wp2
      go_ret
      exact ⟨by rw [HI.out, c3]; rfl, Below.refl _ _⟩
  by_cases c2 : (l.length : Int) ≤ p
  · have HI := hid (show isE l p = (p == l.length) from (if_neg c1).trans (if_pos c2))
    have c3 : (p == 0) = false := beq_eq_false_iff_ne.2 (by omega)
    by_cases c0 : p = l.length
    · have c4 : (p == (l.length : Int)) = true := beq_iff_eq.2 c0
      clear c0
      go_enter Tryd.func41, Tryd.ntmps41
      go_wp2
      go_ret
      exact ⟨by rw [HI.out, c4]; rfl, Below.refl _ _⟩
    · have c4 : (p == (l.length : Int)) = false := beq_eq_false_iff_ne.2 c0
      clear c0
      go_enter Tryd.func41, Tryd.ntmps41
      go_wp2
      go_ret
      exact ⟨by rw [HI.out, c4]; rfl, Below.refl _ _⟩
  · obtain ⟨q, rfl⟩ : ∃ q : Nat, p = q := ⟨p.toNat, by omega⟩
    have hq : q < l.length := by omega
    have HI := hid (show isE l q = (bgF l q 4 == q) from (if_neg c1).trans (if_neg c2))
    go_enter Tryd.func41, Tryd.ntmps41
    go_wp2_with (go_at_call 68; refine (begin_any l q _ hq hl (by exact HT.out) (by exact h2)).mono ?_; rintro e w1 ⟨rfl, hb⟩)
    go_ret
    exact ⟨by rw [HI.out]; exact congrArg (fun b => Ending.returned (Value.bool b)) (beq_nat (bgF l q 4) q), hb⟩
end Go.Proofs.YtkophiklkgefnaaDoor
/- Edges of a text, by the number of runes ahead of them. -/
namespace Go.Proofs.YtkophiklkgefnaaDoor.Wt

/-- The place behind the first k runes. -/
def pos (s : List UInt8) (k : Nat) : Nat := psm ((rl s).take k)
theorem pos_0 (s : List UInt8) : pos s 0 = 0 := rfl
theorem pos_all (s : List UInt8) (k : Nat) (h : (rl s).length ≤ k) : pos s k = s.length := by
  unfold pos
  rw [List.take_of_length_le h]
  exact rl_sum _ s (Nat.le_refl _)
theorem psm_take (X : List (Nat × Nat)) (k : Nat) (h : k < X.length) : psm (X.take (k + 1)) = psm (X.take k) + (X[k]).2 := by
  rw [List.take_succ_eq_append_getElem h, psm_app]
  simp [psm]
theorem pos_lt (s : List UInt8) (k : Nat) (h : k < (rl s).length) : pos s k < pos s (k + 1) := by
  unfold pos
  rw [psm_take _ k h]
  have := rl_pos _ s (Nat.le_refl _) _ (List.getElem_mem h)
  omega
theorem pos_mono (s : List UInt8) : ∀ (n i : Nat), i + n ≤ (rl s).length → pos s i + n ≤ pos s (i + n)
  | 0, i, _ => Nat.le_refl _
  | n + 1, i, h => by
    have h1 := pos_mono s n i (by omega)
    have h2 := pos_lt s (i + n) (by omega)
    show pos s i + (n + 1) ≤ pos s (i + n + 1)
    omega
theorem pos_le (s : List UInt8) (k : Nat) (h : k ≤ (rl s).length) : pos s k ≤ s.length := by
  have h1 := pos_mono s ((rl s).length - k) k (by omega)
  rw [pos_all s (k + ((rl s).length - k)) (by omega)] at h1
  omega
theorem pos_end (s : List UInt8) (k : Nat) (h : k < (rl s).length) : pos s k < s.length := by
  have h1 := pos_lt s k h
  have h2 := pos_le s (k + 1) h
  omega
theorem rl_take (s : List UInt8) (k : Nat) (h : k ≤ (rl s).length) : rl (s.take (pos s k)) = (rl s).take k := (rl_cut k s h).1
theorem rl_drop (s : List UInt8) (k : Nat) (h : k ≤ (rl s).length) : rl (s.drop (pos s k)) = (rl s).drop k := (rl_cut k s h).2
/-- The next edge. -/
theorem pos_step (s : List UInt8) (k : Nat) (h : k < (rl s).length) : pos s k + (dec (s.drop (pos s k))).2 = pos s (k + 1) := by
  have h1 := rl_drop s k (Nat.le_of_lt h)
  have hne : s.drop (pos s k) ≠ [] := drop_ne s _ (pos_end s k h)
  rw [rl_cons _ hne, List.drop_eq_getElem_cons h] at h1
  have h2 := (List.cons.inj h1).1
  rw [h2]
  show _ = psm _
  rw [psm_take _ k h]
  rfl
theorem mks_pos (s : List UInt8) : ∀ k : Nat, k ≤ (rl s).length → ∃ P, mks 0 s = P ++ mks (pos s k) (s.drop (pos s k))
  | 0, _ => ⟨[], by rw [pos_0]; simp⟩
  | k + 1, h => by
    obtain ⟨P, hP⟩ := mks_pos s k (by omega)
    refine ⟨P ++ [mk1 (pos s k) (s.drop (pos s k))], ?_⟩
    rw [hP, mks_at s (pos s k) (pos_end s k h)]
    have e : pos s k + wid s (pos s k) = pos s (k + 1) := pos_step s k h
    rw [e]
    simp
theorem bg_pos (s : List UInt8) (k : Nat) (h : k < (rl s).length) : bgF s (pos s k) 4 = pos s k := by
  obtain ⟨P, hP⟩ := mks_pos s k (Nat.le_of_lt h)
  have hl := pos_end s k h
  rw [mks_at s _ hl] at hP
  exact begin_is s (pos s k) (pos s k) P hl (Nat.le_refl _) (by have := wid_ge s _ hl; omega) hP
theorem isE_pos (s : List UInt8) (k : Nat) (h : k ≤ (rl s).length) : isE s (pos s k) = true := by
  unfold isE
  by_cases h0 : ((pos s k : Nat) : Int) ≤ 0
  · rw [if_pos h0]
    simp only [beq_iff_eq]
    omega
  rw [if_neg h0]
  by_cases h1 : (s.length : Int) ≤ (pos s k : Nat)
  · rw [if_pos h1]
    have := pos_le s k h
    simp only [beq_iff_eq]
    omega
  rw [if_neg h1]
  have hk : k < (rl s).length := by
    rcases Nat.lt_or_ge k (rl s).length with h2 | h2
    · exact h2
    · rw [pos_all s k h2] at h1; omega
  have := bg_pos s k hk
  simp only [Int.toNat_natCast, beq_iff_eq]
  exact this
theorem on_pos (s : List UInt8) (k : Nat) (h : k < (rl s).length) : onE s (pos s k) = (pos s (k + 1) : Nat) := by
  have hl := pos_end s k h
  unfold onE
  rw [if_neg (by omega), if_neg (by omega), Int.toNat_natCast, bg_pos s k h, ← pos_step s k h]
  unfold wid
  omega
theorem back_pos (s : List UInt8) (k : Nat) (h : k < (rl s).length) : backE s (pos s (k + 1)) = (pos s k : Nat) := by
  have h1 := pos_lt s k h
  have h2 := pos_le s (k + 1) h
  obtain ⟨P, hP⟩ := mks_pos s k (Nat.le_of_lt h)
  have hl := pos_end s k h
  rw [mks_at s _ hl] at hP
  have e : pos s k + wid s (pos s k) = pos s (k + 1) := pos_step s k h
  unfold backE
  rw [if_neg (by omega), if_neg (by omega), Int.toNat_natCast, begin_is s (pos s (k + 1) - 1) (pos s k) P (by omega) (by omega) (by omega) hP]
theorem pos_take (s : List UInt8) (i j : Nat) (hij : i ≤ j) (hj : j ≤ (rl s).length) : pos (s.take (pos s j)) i = pos s i := by
  unfold pos
  rw [show rl (s.take (psm ((rl s).take j))) = (rl s).take j from rl_take s j hj, List.take_take, Nat.min_eq_left hij]
theorem rl_piece (s : List UInt8) (i j : Nat) (hij : i ≤ j) (hj : j ≤ (rl s).length) : rl ((s.take (pos s j)).drop (pos s i)) = ((rl s).take j).drop i := by
  have h := rl_take s j hj
  have hi : i ≤ (rl (s.take (pos s j))).length := by rw [h, List.length_take]; omega
  rw [← pos_take s i j hij hj, rl_drop _ i hi, h]
end Go.Proofs.YtkophiklkgefnaaDoor.Wt
