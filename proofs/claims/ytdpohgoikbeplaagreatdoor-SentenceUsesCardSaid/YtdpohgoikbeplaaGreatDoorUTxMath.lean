/- TxMath, DcOf: parts of the proof, joined. -/
import Derived.Test.YtdpohgoikbeplaaGreatDoorUUMath
import Derived.Test.YtdpohgoikbeplaaGreatDoorUDcE
namespace Go.Proofs.YtdpohgoikbeplaaGreatDoor
def plc (l : List UInt8) (k : Nat) : Nat := psm ((rl l).take k)
theorem rl_take (l : List UInt8) (k : Nat) (h : k <= (rl l).length) : rl (l.take (plc l k)) = (rl l).take k := (rl_cut k l h).1
theorem rl_drop (l : List UInt8) (k : Nat) (h : k <= (rl l).length) : rl (l.drop (plc l k)) = (rl l).drop k := (rl_cut k l h).2
end Go.Proofs.YtdpohgoikbeplaaGreatDoor
namespace Go.Proofs.YtdpohgoikbeplaaGreatDoor.Dc
open Go.RowKit
def evs (A : List Tr) (l : List UInt8) (t : Nat) : List (Nat × Nat) := (plr l t).map fun x => (x.1, gtp (instd x.2) A)
theorem evs_step (A : List Tr) (l : List UInt8) (t : Nat) (h : t < l.length) : evs A l t = (t, gtp (instd ((Utf8.decode ⟨l.toArray⟩ t).1 : Int)) A) :: evs A l (t + (Utf8.decode ⟨l.toArray⟩ t).2) := by
 unfold evs
 rw [plr_step l t h]; rfl
theorem evs_end (A : List Tr) (l : List UInt8) (t : Nat) (h : ¬ t < l.length) : evs A l t = [] := by unfold evs; rw [plr_end l t h]; rfl
def cl64 (xs : List (Nat × Nat)) : List Value := xs.map fun x => Value.int .i64 (x.2 : Int)
theorem cl64_snoc (xs : List (Nat × Nat)) (x : Nat × Nat) : cl64 (xs ++ [x]) = cl64 xs ++ [.int .i64 (x.2 : Int)] := by simp [cl64]
theorem evs_len (A : List Tr) (l : List UInt8) : (evs A l 0).length <= l.length := by
 have h5 := plr_len l l.length 0 (by omega)
 unfold evs
 rw [List.length_map]; omega
theorem Tryz.info3 : (Tryz.prog.info? 3).map (fun i => (i.zero, i.size, i.bytes)) = some (some (.int .i64 0), 1, 8) := by kernel_rfl
set_option maxRecDepth 100000 in
set_option maxHeartbeats 2000000 in
theorem rof_any (B Q n : Nat) (U : List (List UInt8)) (A : List Tr) (nv sv : Value) (vs : List Value) (l : List UInt8) (w : World) (h : DocAt B Q U (dst n A) nv sv vs w) (hC : Cov 0 A 1114112) (hc : ∀ g ∈ A, g.2.2 < n) (hn : n <= 1000) (hA : A.length <= 10000000) (hl : l.length <= 1000000) :
  Calls Tryz.prog 57 #[.pointer (some ⟨Q, 0, none⟩), .string ⟨l.toArray⟩] w fun e w' => ∃ v, e = .returned v /\ w'.ownsRow w.heap.size 3 1 v (evs A l 0).length (cl64 (evs A l 0)) /\ Below w.heap.size w w' := by
 obtain ⟨i0, hi, hz0, hz1, hz2⟩ := info_parts Tryz.info3
 have HSZ := hid (show (⟨l.toArray⟩ : ByteArray).size = l.length by show l.toArray.size = _; simp)
 have HB0 := hid ((Below.refl w.heap.size w).alloc (Nat.le_refl _) (.stringIter ⟨l.toArray⟩ 0))
 have HIT0 := hid (World.iter_heap w ⟨l.toArray⟩ 0)
 have HGR := hid (show ∀ (z : Int) W, Below w.heap.size w W -> Calls Tryz.prog 30 #[.pointer (some ⟨Q, 0, none⟩), .int .i32 z] W fun e w' => e = .returned (.int .i64 (gtp (instd z) A : Nat)) /\ w' = W from fun z W hW => rget_any B Q n U A nv sv vs z W (h.below hW) hC hc hn hA)
 have HEL := hid (evs_len A l)
 clear h hC hc
 go_enter Tryz.func57, Tryz.ntmps57
 go_wp2
 go_loopw [5, 7] (fun v _ wr => ∃ (t : Nat) (xs : List (Nat × Nat)), Hid (evs A l 0 = xs ++ evs A l t) /\ Hid (wr.heap[w.heap.size]? = some (.stringIter ⟨l.toArray⟩ t)) /\ Hid (wr.ownsRow (w.heap.size + 1) 3 1 v xs.length (cl64 xs)) /\ Hid (Below w.heap.size w wr)) (fun _ _ wr => l.length - wr.iterPos w.heap.size)
 case atStart => exact ⟨0, [], by simp [Hid], HIT0, World.ownsRow_nil _ _ _ _, HB0⟩
 case round =>
  obtain ⟨t, xs, HP, HI, HO, HB⟩ := hrel
  have hbs := HB.out.size
  have hin : w.heap.size < wr.heap.size := (Array.getElem?_eq_some_iff.1 HI.out).1
  by_cases hlt : t < l.length
  ·have hnx := run_next_at (P := Tryz.prog) wr w.heap.size ⟨l.toArray⟩ t 0 HI.out (by rw [HSZ.out]; exact hlt)
   have d1 := Lib.width_pos ⟨l.toArray⟩ t
   have hst := evs_step A l t hlt
   obtain ⟨nn, hnn⟩ : ∃ nn, nn = (Utf8.decode ⟨l.toArray⟩ t).2 := ⟨_, rfl⟩
   obtain ⟨rr, hrr⟩ : ∃ rr : Int, rr = ((Utf8.decode ⟨l.toArray⟩ t).1 : Int) := ⟨_, rfl⟩
   rw [<- hnn] at hnx hst d1
   rw [<- hrr] at hnx hst
   obtain ⟨G, hG⟩ : ∃ G, G = gtp (instd rr) A := ⟨_, rfl⟩
   rw [<- hG] at hst
   have HP2 := hid (show evs A l 0 = (xs ++ [(t, G)]) ++ evs A l (t + nn) by rw [HP.out, hst, List.append_assoc]; rfl)
   obtain ⟨w1, hw1⟩ : ∃ w1, w1 = wr.putObj w.heap.size (.stringIter ⟨l.toArray⟩ (t + nn)) := ⟨_, rfl⟩
   rw [<- hw1] at hnx
   have HI1 := hid (show w1.heap[w.heap.size]? = some (.stringIter ⟨l.toArray⟩ (t + nn)) by rw [hw1]; exact World.putObj_heap_same hin)
   have HB1 := hid (show Below w.heap.size w w1 by rw [hw1]; exact HB.out.trans ⟨rfl, rfl, rfl, by simp [World.putObj], fun j hj => World.putObj_heap_other (by omega)⟩)
   have HO1 := hid (show w1.ownsRow (w.heap.size + 1) 3 1 u5 xs.length (cl64 xs) by rw [hw1]; exact row_grown HO.out (grownBy_putObj' wr _ _) (fun j hj => by have := (HO.out.lt j hj).1; omega))
   have hw1s : wr.heap.size <= w1.heap.size := by rw [hw1]; simp [World.putObj]
   have HM := hid (show l.length - wr.iterPos w.heap.size = l.length - t by unfold World.iterPos; rw [HI.out])
   have hxl : xs.length < 1000000 := by have h5 := HEL.out; rw [HP2.out] at h5; simp at h5; omega
   have HG := hid (HGR.out rr w1 HB1.out)
   rw [<- hG] at HG
   clear hnn hrr hst hw1 HP HI HB HO hG
   go_wp2_with (first | (go_at_call 30; refine HG.out.mono ?_; rintro e w2 ⟨rfl, hw⟩; obtain rfl := hw.symm) | (at_builtin; refine wpList_append_own _ rfl _ _ 23 rfl (w.heap.size + 1) 3 i0 (.int .i64 0) 1 8 Tryz.underlying23 hi hz0 hz1 hz2 rfl (by decide) _ xs.length (cl64 xs) rfl (HO1.out.alloc _) ⟨w1.heap.size, 0, none⟩ 1 1 [.int .i64 (G : Int)] rfl rfl (news_v w1 (.int .i64 (G : Int)) 3) (vs_one _) (by unfold maxLen; omega) (by omega) (by simp; omega) ?_; intro v2 w2 o2 gr2 _; have HO2 := hid (show w2.ownsRow (w.heap.size + 1) 3 1 v2 (xs ++ [(t, G)]).length (cl64 (xs ++ [(t, G)])) by rw [cl64_snoc, List.length_append]; exact o2); have HB2 := hid ((HB1.out.alloc HB1.out.size (.cells #[.int .i64 (G : Int)] 3)).grown gr2 (by simp; omega) (fun j hj => Nat.le_of_succ_le (HO1.out.lt j hj).1)); have HI2 := hid (show w2.heap[w.heap.size]? = some (.stringIter ⟨l.toArray⟩ (t + nn)) from (gr2.block w.heap.size (by simp; omega) (fun e => by have := (HO1.out.lt _ e.symm).1; omega)).trans ((Below.heap_alloc w1 _ _ (by omega)).trans HI1.out)); clear o2 gr2) | fail)
   go_roundw
   case rel => exact ⟨t + nn, xs ++ [(t, G)], HP2, HI2, HO2, HB2⟩
   case measure =>
    rw [HM.out]
    unfold World.iterPos
    rw [HI2.out]
    simp only []
    omega
  ·have hnx := run_next_stop (P := Tryz.prog) wr w.heap.size ⟨l.toArray⟩ t 0 HI.out (by rw [HSZ.out]; exact hlt)
   have HE := hid (show evs A l 0 = xs by rw [HP.out, evs_end A l t hlt, List.append_nil])
   go_wp2
   go_ret; exact ⟨_, rfl, by rw [HE.out]; exact ownsRow_base2 HO.out (by omega), HB.out⟩
end Go.Proofs.YtdpohgoikbeplaaGreatDoor.Dc
