/- GsFun: parts of the proof, joined. -/
import Derived.Test.YtbajepdkgeldlaaGreatDoorSDcC
import Derived.Test.YtbajepdkgeldlaaGreatDoorSGrBack
namespace Go.Proofs.YtbajepdkgeldlaaGreatDoor.Br
open Go.RowKit Wt
theorem gcs_step (l : List UInt8) (t : Nat) (h : t < l.length) : gcs (l.drop t) = gpcls ((dec (l.drop t)).1 : Int) :: gcs (l.drop (t + wid l t)) := by
 unfold gcs
 rw [rl_cons _ (drop_ne l t h), List.map_cons, List.drop_drop]; rfl
theorem gcs_end (l : List UInt8) (t : Nat) (h : ¬ t < l.length) : gcs (l.drop t) = [] := by
 rw [List.drop_of_length_le (by omega)]; rfl
set_option maxRecDepth 100000 in
set_option maxHeartbeats 2000000 in
theorem only_any (l : List UInt8) (c : Int) (w : World) :
  Calls Tryz.prog 76 #[.string ⟨l.toArray⟩, .int .i64 c] w fun e w' => e = .returned (.bool ((gcs l).all fun x => x == c)) /\ Below w.heap.size w w' := by
 have HSZ := hid (show (⟨l.toArray⟩ : ByteArray).size = l.length by show l.toArray.size = _; simp)
 have HB0 := hid ((Below.refl w.heap.size w).alloc (Nat.le_refl _) (.stringIter ⟨l.toArray⟩ 0))
 have HIT0 := hid (World.iter_heap w ⟨l.toArray⟩ 0)
 have HCl := hid (fun (r : Int) (W : World) => gpcls_any r W)
 go_enter Tryz.func76, Tryz.ntmps76
 go_wp2
 go_loopw [6] (fun _ wr => ∃ t : Nat, t <= l.length /\ Hid (((gcs l).all fun x => x == c) = ((gcs (l.drop t)).all fun x => x == c)) /\ Hid (wr.heap[w.heap.size]? = some (.stringIter ⟨l.toArray⟩ t)) /\ Hid (Below w.heap.size w wr)) (fun _ wr => l.length - wr.iterPos w.heap.size)
 case atStart => exact ⟨0, Nat.zero_le _, hid (by rw [List.drop_zero]), HIT0, HB0⟩
 case round =>
  obtain ⟨t, htl, HP, HI, HB⟩ := hrel
  have hbs := HB.out.size
  have hin : w.heap.size < wr.heap.size := (Array.getElem?_eq_some_iff.1 HI.out).1
  by_cases hlt : t < l.length
  ·have hnx := Dc.run_next_at (P := Tryz.prog) wr w.heap.size ⟨l.toArray⟩ t 0 HI.out (by rw [HSZ.out]; exact hlt)
   rw [decode_place l t hlt] at hnx
   have hst := gcs_step l t hlt
   have w1 := wid_ge l t hlt
   have w2 := wid_le l t hlt
   unfold wid at w1 w2 hst
   obtain ⟨nn, hnn⟩ : ∃ nn, nn = (dec (l.drop t)).2 := ⟨_, rfl⟩
   obtain ⟨rr, hrr⟩ : ∃ rr : Int, rr = ((dec (l.drop t)).1 : Int) := ⟨_, rfl⟩
   rw [<- hnn] at hnx hst w1 w2
   rw [<- hrr] at hnx hst
   obtain ⟨wn, hwn⟩ : ∃ wn, wn = wr.putObj w.heap.size (.stringIter ⟨l.toArray⟩ (t + nn)) := ⟨_, rfl⟩
   rw [<- hwn] at hnx
   have HI1 := hid (show wn.heap[w.heap.size]? = some (.stringIter ⟨l.toArray⟩ (t + nn)) by rw [hwn]; exact World.putObj_heap_same hin)
   have HB1 := hid (show Below w.heap.size w wn by rw [hwn]; exact HB.out.trans ⟨rfl, rfl, rfl, by simp [World.putObj], fun j hj => World.putObj_heap_other (by omega)⟩)
   have HM := hid (show l.length - wr.iterPos w.heap.size = l.length - t by unfold World.iterPos; rw [HI.out])
   have HS := hid (show ((gcs (l.drop t)).all fun x => x == c) = ((gpcls rr == c) && ((gcs (l.drop (t + nn))).all fun x => x == c)) by rw [hst]; rfl)
   clear hnn hrr hst hwn HI HB
   obtain ⟨k, hk⟩ : ∃ k, k = gpcls rr := ⟨_, rfl⟩
   have HC := hid (HCl.out rr wn)
   rw [<- hk] at HS HC
   clear hk
   by_cases hkc : k = c
   ·have b0 : (k != c) = false := by simp [hkc]
    have HF := hid (show ((gcs l).all fun x => x == c) = ((gcs (l.drop (t + nn))).all fun x => x == c) by rw [HP.out, HS.out, hkc]; simp)
    go_wp2_with fail
    refine HC.out.mono ?_
    rintro e w2 ⟨rfl, hw⟩
    obtain rfl := hw.symm
    go_wp2
    go_roundw
    case rel => exact ⟨t + nn, w2, HF, HI1, HB1⟩
    case measure =>
     rw [HM.out]
     unfold World.iterPos
     rw [HI1.out]
     simp only []
     omega
   ·have b0 : (k != c) = true := by simp [hkc]
    have HF := hid (show ((gcs l).all fun x => x == c) = false by rw [HP.out, HS.out, show (k == c) = false by simp [hkc]]; rfl)
    go_wp2_with fail
    refine HC.out.mono ?_
    rintro e w2 ⟨rfl, hw⟩
    obtain rfl := hw.symm
    go_wp2
    go_ret
    exact ⟨by rw [HF.out]; rfl, HB1.out⟩
  ·have hnx := Dc.run_next_stop (P := Tryz.prog) wr w.heap.size ⟨l.toArray⟩ t 0 HI.out (by rw [HSZ.out]; exact hlt)
   have HF := hid (show ((gcs l).all fun x => x == c) = true by rw [HP.out, gcs_end l t hlt]; rfl)
   go_wp2
   go_ret
   exact ⟨by rw [HF.out]; rfl, HB.out⟩
end Go.Proofs.YtbajepdkgeldlaaGreatDoor.Br
