/- The contract of Next at 0, of Each and its iterator (package word). -/
import Derived.Test.YtmhbhjlaagpohaaDoorWdFun2
import Derived.RangeFuncBound
import Derived.RangeFuncCalls
import Derived.RangeFuncLeaves
import Derived.Shelf.Abstract
import Derived.Shelf.RegionOpen
import Derived.OwnWalkIn
import Derived.TacticsInMore
import Derived.LoopNIn
import Derived.LoopIn
import Derived.Maps.AppendAt
namespace Go.Proofs.YtmhbhjlaagpohaaDoor
open Go.RowKit Go.Shelf
attribute [local go_sem] Oper.semAt_some

theorem bgF_zero (l : List UInt8) (h : l ≠ []) : bgF l 0 4 = 0 := by
  have h1 := dec_ge l h
  unfold bgF
  simp only [Nat.not_lt_zero, if_false, Nat.sub_self, List.drop_zero, Nat.zero_add]
  split
  · rw [if_pos (by omega)]
  · unfold bgF; simp
theorem back_one (l : List UInt8) (w : World) (ht : TbW w) (h : l ≠ []) (hl : l.length ≤ 1000000000) :
    Calls Tryd.prog 59 #[.string ⟨l.toArray⟩, .int .i64 1] w fun e w' => e = .returned (.int .i64 0) ∧ Below w.heap.size w w' := by
  have HT := hid ht
  have hp : 0 < l.length := List.length_pos_iff.2 h
  have HZ := hid (bgF_zero l h)
  have c1 : ¬ ((l.length : Int) < 1) := by omega
  clear ht h
  go_enter Tryd.func59, Tryd.ntmps59
  go_wp2_with fail
  refine (begin_any l 0 w hp (by omega) HT.out.tabs HT.out.two).mono ?_
  rintro e w1 ⟨rfl, be⟩
  rw [HZ.out]
  go_wp2
  go_ret
  exact ⟨rfl, be⟩
/-- The first bound behind the beginning, looked for from a place on. -/
def wnxF (s : List UInt8) : Nat → Nat → Nat
  | 0, _ => s.length
  | f + 1, t => if t < s.length then (if 0 < t ∧ wcut s t = true then t else wnxF s f (t + (dec (s.drop t)).2)) else s.length
theorem wnxF_any (s : List UInt8) : ∀ (f g t : Nat), s.length - t ≤ f → s.length - t ≤ g → wnxF s f t = wnxF s g t
  | 0, 0, t, _, _ => rfl
  | 0, g + 1, t, hf, hg => by unfold wnxF; rw [if_neg (by omega)]
  | f + 1, 0, t, hf, hg => by unfold wnxF; rw [if_neg (by omega)]
  | f + 1, g + 1, t, hf, hg => by
    unfold wnxF
    by_cases h : t < s.length
    · have h1 := dec_ge (s.drop t) (drop_ne _ t h)
      rw [if_pos h, if_pos h, wnxF_any s f g (t + (dec (s.drop t)).2) (by omega) (by omega)]
    · rw [if_neg h, if_neg h]
def wnxT (s : List UInt8) (t : Nat) : Nat := wnxF s (s.length - t) t
theorem wnxT_end (s : List UInt8) (t : Nat) (h : ¬ t < s.length) : wnxT s t = s.length := by
  unfold wnxT
  rw [show s.length - t = 0 by omega]; rfl
theorem wnxT_here (s : List UInt8) (t : Nat) (h : t < s.length) (h0 : 0 < t) (hc : wcut s t = true) : wnxT s t = t := by
  unfold wnxT
  rw [wnxF_any s _ (s.length - t - 1 + 1) t (by omega) (by omega)]
  unfold wnxF
  rw [if_pos h, if_pos ⟨h0, hc⟩]
theorem wnxT_next (s : List UInt8) (t : Nat) (h : t < s.length) (hc : ¬ (0 < t ∧ wcut s t = true)) : wnxT s t = wnxT s (t + (dec (s.drop t)).2) := by
  have h1 := dec_ge (s.drop t) (drop_ne _ t h)
  unfold wnxT
  rw [wnxF_any s _ (s.length - t - 1 + 1) t (by omega) (by omega)]
  conv => lhs; unfold wnxF
  rw [if_pos h, if_neg hc]
  exact wnxF_any s _ _ _ (by omega) (by omega)
def wnx (s : List UInt8) : Nat := wnxT s 0
theorem wnxT_bd (s : List UInt8) : ∀ (n t : Nat), s.length - t ≤ n → t ≤ s.length → t ≤ wnxT s t ∧ wnxT s t ≤ s.length
  | 0, t, hn, ht => by rw [wnxT_end s t (by omega)]; omega
  | n + 1, t, hn, ht => by
    by_cases hlt : t < s.length
    · by_cases hc : 0 < t ∧ wcut s t = true
      · rw [wnxT_here s t hlt hc.1 hc.2]; omega
      · have h1 := dec_ge (s.drop t) (drop_ne _ t hlt)
        have h2 := wdec_le (s.drop t)
        rw [List.length_drop] at h2
        have := wnxT_bd s n (t + (dec (s.drop t)).2) (by omega) (by omega)
        rw [wnxT_next s t hlt hc]; omega
    · rw [wnxT_end s t hlt]; omega
theorem wnx_bd (s : List UInt8) (h : s ≠ []) : 0 < wnx s ∧ wnx s ≤ s.length := by
  have hp : 0 < s.length := List.length_pos_iff.2 h
  have h1 := dec_ge (s.drop 0) (drop_ne _ 0 hp)
  have h2 := wdec_le (s.drop 0)
  rw [List.length_drop] at h2
  unfold wnx
  rw [wnxT_next s 0 hp (fun h => absurd h.1 (Nat.lt_irrefl 0))]
  have := wnxT_bd s _ (0 + (dec (s.drop 0)).2) (Nat.le_refl _) (by omega)
  omega
set_option maxHeartbeats 2000000 in
theorem wnext_any (s : List UInt8) (w : World) (ht : TbW w) (h : s ≠ []) (hl : s.length ≤ 1000000000) :
    Calls Tryd.prog 47 #[.string ⟨s.toArray⟩, .int .i64 0] w fun e w' => e = .returned (.int .i64 (wnx s)) ∧ Below w.heap.size w w' := by
  have HT := hid ht
  have hp : 0 < s.length := List.length_pos_iff.2 h
  have HNE := hid h
  have HSZ := hid (show (⟨s.toArray⟩ : ByteArray).size = s.length by show s.toArray.size = _; simp)
  have c0 : ¬ ((s.length : Int) ≤ 0) := by omega
  clear ht h
  go_enter Tryd.func47, Tryd.ntmps47
  go_wp2_with fail
  refine (back_one s w HT.out HNE.out hl).mono ?_
  rintro e w1 ⟨rfl, be⟩
  have HB1 := hid be
  have HB0 := hid (be.alloc be.size (.stringIter ⟨s.toArray⟩ 0))
  have HIT0 := hid (World.iter_heap w1 ⟨s.toArray⟩ 0)
  have hs1 := be.size
  clear be
  go_wp2
  have hex : (⟨s.toArray⟩ : ByteArray).extract 0 s.length = ⟨s.toArray⟩ := by have := ext_drop s 0; rw [List.drop_zero] at this; exact this
  try rw [hex]
  clear hex
  go_loopw [6] (fun _ wr => ∃ t : Nat, Hid (wnx s = wnxT s t) ∧ Hid (wr.heap[w1.heap.size]? = some (.stringIter ⟨s.toArray⟩ t)) ∧ Hid (Below w.heap.size w wr)) (fun _ wr => s.length - wr.iterPos w1.heap.size)
  case atStart => exact ⟨0, rfl, HIT0, HB0⟩
  case round =>
    obtain ⟨t, HP, HI, HB⟩ := hrel
    have hin : w1.heap.size < wr.heap.size := (Array.getElem?_eq_some_iff.1 HI.out).1
    by_cases hlt : t < s.length
    · have hnx := wnext_at (P := Tryd.prog) wr w1.heap.size ⟨s.toArray⟩ t 0 HI.out (by rw [HSZ.out]; exact hlt)
      rw [decode_place s t hlt] at hnx
      have d1 := dec_ge _ (drop_ne s t hlt)
      obtain ⟨nn, hnn⟩ : ∃ nn, nn = (dec (s.drop t)).2 := ⟨_, rfl⟩
      obtain ⟨rr, hrr⟩ : ∃ rr, rr = (dec (s.drop t)).1 := ⟨_, rfl⟩
      rw [← hnn] at hnx d1
      rw [← hrr] at hnx
      have HNN := hid hnn
      obtain ⟨w2, hw2⟩ : ∃ w2, w2 = wr.putObj w1.heap.size (.stringIter ⟨s.toArray⟩ (t + nn)) := ⟨_, rfl⟩
      rw [← hw2] at hnx
      have HI1 := hid (show w2.heap[w1.heap.size]? = some (.stringIter ⟨s.toArray⟩ (t + nn)) by rw [hw2]; exact World.putObj_heap_same hin)
      have HB2 := hid (show Below w.heap.size w w2 by rw [hw2]; exact HB.out.trans ⟨rfl, rfl, rfl, by simp [World.putObj], fun j hj => World.putObj_heap_other (by omega)⟩)
      have HM := hid (show s.length - wr.iterPos w1.heap.size = s.length - t by unfold World.iterPos; rw [HI.out])
      have hin1 : w1.heap.size < w2.heap.size := (Array.getElem?_eq_some_iff.1 HI1.out).1
      clear hnn hrr hw2 HI HB
      by_cases h0 : 0 < t
      · have h0i : (0 : Int) < (t : Int) := by omega
        go_wp2_with fail
        try rw [Int.zero_add]
        refine (wcut_any s t w2 (HT.out.below HB2.out) hl (by omega)).mono ?_
        rintro e w3 ⟨rfl, be⟩
        have HB3 := hid (HB2.out.trans (be.mono HB2.out.size))
        have HI2 := hid (show w3.heap[w1.heap.size]? = some (.stringIter ⟨s.toArray⟩ (t + nn)) from (be.block _ hin1).trans HI1.out)
        obtain ⟨v, hv⟩ : ∃ v, v = wcut s t := ⟨_, rfl⟩
        have HV := hid hv
        rw [← hv]
        clear be hv HB2 HI1 hnx
        cases v with
        | true =>
          have HE := hid (HP.out.trans (wnxT_here s t hlt h0 HV.out.symm))
          go_wp2
          go_ret
          exact ⟨by rw [HE.out]; simp, HB3.out⟩
        | false =>
          have HE := hid (HP.out.trans (wnxT_next s t hlt (fun h => by rw [← HV.out] at h; cases h.2)))
          go_wp2
          go_roundw
          case rel => exact ⟨t + nn, (by show _ = _; rw [HE.out, HNN.out]), HI2, HB3⟩
          case measure =>
            rw [HM.out]
            unfold World.iterPos
            rw [HI2.out]
            simp only []
            omega
      · have h00 : t = 0 := by omega
        have HE := hid (HP.out.trans (wnxT_next s t hlt (fun h => h0 h.1)))
        have HT0 := hid h00
        have h0i : ¬ (0 : Int) < (t : Int) := by omega
        clear h00
        go_wp2
        go_roundw
        case rel => exact ⟨t + nn, (by show _ = _; rw [HE.out, HNN.out]), HI1, HB2⟩
        case measure =>
          rw [HM.out]
          unfold World.iterPos
          rw [HI1.out]
          simp only []
          omega
    · have hnx := wnext_stop (P := Tryd.prog) wr w1.heap.size ⟨s.toArray⟩ t 0 HI.out (by rw [HSZ.out]; exact hlt)
      have HE := hid (HP.out.trans (wnxT_end s t hlt))
      go_wp2
      go_ret
      exact ⟨by rw [HE.out]; rfl, HB.out⟩
end Go.Proofs.YtmhbhjlaagpohaaDoor
