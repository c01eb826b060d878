/- The contracts of Is and Next (package sentence) at edges. -/
import Derived.Test.YtckifhlhechdlaaDoorSnFun2
import Derived.Test.YtckifhlhechdlaaDoorSnEdge
import Derived.Test.YtckifhlhechdlaaDoorUPlaces
namespace Go.Proofs.YtckifhlhechdlaaDoor
open Go.RowKit

set_option maxHeartbeats 1000000 in
theorem sis_any (s : List UInt8) (k : Nat) (w : World) (ht : TbW w) (hl : s.length ≤ 1000000000) (h0 : 0 < k) (hk : k < (rl s).length) :
    Calls Tryd.prog 7 #[.string ⟨s.toArray⟩, .int .i64 (pos s k)] w fun e w' => e = .returned (.bool (scut s (pos s k))) ∧ Below w.heap.size w w' := by
  have hp1 := pos_mono s k 0 (by omega)
  rw [Nat.zero_add, pos_0] at hp1
  have hp2 := pos_end s k hk
  have HE := hid (isE_pos s k (Nat.le_of_lt hk))
  have HT := hid ht
  obtain ⟨p, hp⟩ : ∃ p, p = pos s k := ⟨_, rfl⟩
  rw [← hp] at hp1 hp2 HE ⊢
  have hp3 : 0 < p := by omega
  clear ht hp h0 hk hp1
  obtain ⟨V, hV⟩ : ∃ V, V = scut s p := ⟨_, rfl⟩
  have HV := hid hV
  rw [← hV]
  clear hV
  go_enter Tryd.func7, Tryd.ntmps7
  go_wp2_with fail
  refine (is_any s p w (by omega) HT.out.tabs HT.out.two).mono ?_
  rintro e w1 ⟨rfl, be⟩
  rw [HE.out]
  have HB1 := hid be
  clear be
  go_wp2_with fail
  refine (scut_any s p w1 (HT.out.below HB1.out) hl (by omega)).mono ?_
  rintro e w2 ⟨rfl, be⟩
  have HB2 := hid (HB1.out.trans (be.mono HB1.out.size))
  obtain ⟨v, hv⟩ : ∃ v, v = scut s p := ⟨_, rfl⟩
  rw [← hv] at HV
  rw [← hv]
  clear be hv
  go_wp2
  go_ret
  exact ⟨by rw [HV.out]; rfl, HB2.out⟩
set_option maxHeartbeats 2000000 in
theorem snext_any (s : List UInt8) (p : Nat) (w : World) (ht : TbW w) (hl : s.length ≤ 1000000000) (hp : p < s.length) (hbg : bgF s p 4 = p) :
    Calls Tryd.prog 31 #[.string ⟨s.toArray⟩, .int .i64 p] w fun e w' => e = .returned (.int .i64 (snx s p)) ∧ Below w.heap.size w w' := by
  have HT := hid ht
  have HBK := hid (show backE s (p + 1) = (p : Nat) by
    unfold backE
    rw [if_neg (by omega), if_neg (by omega), show ((p : Int) + 1).toNat - 1 = p by omega, hbg])
  obtain ⟨l, hll⟩ : ∃ l, l = s.drop p := ⟨_, rfl⟩
  have hdl : l.length = s.length - p := by rw [hll]; exact List.length_drop
  have HLL := hid hll
  have HSZ := hid (show (⟨l.toArray⟩ : ByteArray).size = l.length by show l.toArray.size = _; simp)
  clear ht hll hbg
  go_enter Tryd.func31, Tryd.ntmps31
  go_wp2_with fail
  refine (back_any s _ w (by omega) HT.out.tabs HT.out.two).mono ?_
  rintro e w0 ⟨rfl, be⟩
  rw [HBK.out]
  have HB0 := hid (be.trans ((Below.refl w.heap.size w0).alloc be.size (.stringIter ⟨l.toArray⟩ 0)))
  have HIT0 := hid (World.iter_heap w0 ⟨l.toArray⟩ 0)
  have hw0 := be.size
  clear be
  go_wp2
  rw [ext_drop, ← HLL.out]
  obtain ⟨it, hit⟩ : ∃ it, it = w0.heap.size := ⟨_, rfl⟩
  rw [← hit] at HIT0 hw0 ⊢
  have HW0 := hid hw0
  clear hit
  go_loopw [6] (fun _ wr => ∃ t : Nat, Hid (snx s p = onwT s p t) ∧ Hid (wr.heap[it]? = some (.stringIter ⟨l.toArray⟩ t)) ∧ Hid (Below w.heap.size w wr)) (fun _ wr => l.length - wr.iterPos it)
  case atStart => exact ⟨0, rfl, HIT0, HB0⟩
  case round =>
    obtain ⟨t, HP, HI, HB⟩ := hrel
    have hin : it < wr.heap.size := (Array.getElem?_eq_some_iff.1 HI.out).1
    by_cases hlt : t < l.length
    · have hnx := wnext_at (P := Tryd.prog) wr it ⟨l.toArray⟩ t 0 HI.out (by rw [HSZ.out]; exact hlt)
      rw [decode_place l t hlt] at hnx
      have d1 := dec_ge _ (drop_ne l t hlt)
      obtain ⟨nn, hnn⟩ : ∃ nn, nn = (dec (l.drop t)).2 := ⟨_, rfl⟩
      obtain ⟨rr, hrr⟩ : ∃ rr, rr = (dec (l.drop t)).1 := ⟨_, rfl⟩
      rw [← hnn] at hnx d1
      rw [← hrr] at hnx
      have HNN := hid hnn
      obtain ⟨w1, hw1⟩ : ∃ w1, w1 = wr.putObj it (.stringIter ⟨l.toArray⟩ (t + nn)) := ⟨_, rfl⟩
      rw [← hw1] at hnx
      have HI1 := hid (show w1.heap[it]? = some (.stringIter ⟨l.toArray⟩ (t + nn)) by rw [hw1]; exact World.putObj_heap_same hin)
      have HB1 := hid (show Below w.heap.size w w1 by rw [hw1]; exact HB.out.trans ⟨rfl, rfl, rfl, by simp [World.putObj], fun j hj => World.putObj_heap_other (by have := HW0.out; omega)⟩)
      have HM := hid (show l.length - wr.iterPos it = l.length - t by unfold World.iterPos; rw [HI.out])
      have hin1 : it < w1.heap.size := (Array.getElem?_eq_some_iff.1 HI1.out).1
      have hlt' : t < (s.drop p).length := by rw [← HLL.out]; exact hlt
      have HLT := hid hlt'
      clear hnn hrr hw1 HI HB hlt'
      by_cases h0 : 0 < t
      · have h0i : (0 : Int) < (t : Int) := by omega
        have hpt : p + t ≤ s.length := by omega
        go_wp2_with fail
        refine (scut_any s (p + t) w1 (HT.out.below HB1.out) hl hpt).mono ?_
        rintro e w2 ⟨rfl, be⟩
        have HB2 := hid (HB1.out.trans (be.mono HB1.out.size))
        have HI2 := hid (show w2.heap[it]? = some (.stringIter ⟨l.toArray⟩ (t + nn)) from (be.block _ hin1).trans HI1.out)
        obtain ⟨v, hv⟩ : ∃ v, v = scut s (p + t) := ⟨_, rfl⟩
        have HV := hid hv
        rw [← hv]
        clear be hv HB1 HI1 hnx
        cases v with
        | true =>
          have HE := hid (HP.out.trans (onwT_here s p t HLT.out h0 HV.out.symm))
          go_wp2
          go_ret
          exact ⟨by rw [HE.out]; simp, HB2.out⟩
        | false =>
          have HE := hid (HP.out.trans (onwT_next s p t HLT.out (fun h => by rw [← HV.out] at h; cases h.2)))
          go_wp2
          go_roundw
          case rel => exact ⟨t + nn, (by show _ = _; rw [HE.out, HNN.out, HLL.out]), HI2, HB2⟩
          case measure =>
            rw [HM.out]
            unfold World.iterPos
            rw [HI2.out]
            simp only []
            omega
      · have h00 : t = 0 := by omega
        have HE := hid (HP.out.trans (onwT_next s p t HLT.out (fun h => h0 h.1)))
        have HT0 := hid h00
        have h0i : ¬ (0 : Int) < (t : Int) := by omega
        clear h00
        go_wp2
        go_roundw
        case rel => exact ⟨t + nn, (by show _ = _; rw [HE.out, HNN.out, HLL.out]), HI1, HB1⟩
        case measure =>
          rw [HM.out]
          unfold World.iterPos
          rw [HI1.out]
          simp only []
          omega
    · have hnx := wnext_stop (P := Tryd.prog) wr it ⟨l.toArray⟩ t 0 HI.out (by rw [HSZ.out]; exact hlt)
      have HE := hid (HP.out.trans (onwT_end s p t (by rw [← HLL.out]; exact hlt)))
      go_wp2
      go_ret
      exact ⟨by rw [HE.out]; rfl, HB.out⟩
end Go.Proofs.YtckifhlhechdlaaDoor
