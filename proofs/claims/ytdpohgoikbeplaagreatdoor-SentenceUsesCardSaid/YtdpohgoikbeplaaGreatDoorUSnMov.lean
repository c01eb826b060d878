/- SnMov, SnIt, SnBds: parts of the proof, joined. -/
import Derived.Test.YtdpohgoikbeplaaGreatDoorUSnFun2
import Derived.Test.YtdpohgoikbeplaaGreatDoorUSgMath
namespace Go.Proofs.YtdpohgoikbeplaaGreatDoor.Sn
open Go.RowKit Wt
def sC (s : List UInt8) (k : Nat) : Bool := scut s (pos s k)
def spF (s : List UInt8) : List (Nat × Nat) := Sg.byt s (Sg.pcF (sC s) (rl s).length 0)
def sbd (s : List UInt8) : List Nat := Br.bds 0 (spF s)
def sbs (s : List UInt8) : List Nat := if s = [] then [] else sbd s
theorem sp_ch0 (s : List UInt8) : Br.Chn 0 s.length (spF s) := Sg.pc_chn s (sC s) _ 0 (Nat.le_refl _) (Nat.zero_le _)
theorem onwT_up (s : List UInt8) (i : Nat) : ∀ (d j : Nat), (rl s).length - j <= d -> i < j -> j <= (rl s).length -> onwT s (pos s i) (pos s j - pos s i) = pos s (Sg.up (sC s) ((rl s).length - j) j)
 | d, j, hd, hij, hj => by
  have hm := pos_mono s (j - i) i (by omega)
  rw [show i + (j - i) = j by omega] at hm
  have hpp : pos s i + (pos s j - pos s i) = pos s j := by omega
  by_cases hlt : j < (rl s).length
  ·cases d with
   | zero => omega
   | succ d =>
    have hl := pos_end s j hlt
    have hin : pos s j - pos s i < (s.drop (pos s i)).length := by rw [List.length_drop]; omega
    obtain ⟨f, hf⟩ : ∃ f, (rl s).length - j = f + 1 := ⟨(rl s).length - (j + 1), by omega⟩
    rw [hf]
    unfold Sg.up
    cases hc : sC s j with
    | true =>
     rw [if_pos rfl, onwT_here s _ _ hin (by omega) (by rw [hpp]; exact hc), hpp]
    | false =>
     have hs := pos_step s j hlt
     have hs2 := pos_lt s j hlt
     rw [if_neg (by simp), onwT_next s _ _ hin (fun h => by rw [hpp] at h; have h2 : sC s j = true := h.2; rw [hc] at h2; cases h2), List.drop_drop, hpp, show pos s j - pos s i + (dec (s.drop (pos s j))).2 = pos s (j + 1) - pos s i by omega, onwT_up s i d (j + 1) (by omega) (by omega) hlt, show (rl s).length - (j + 1) = f by omega]
  ·obtain rfl : j = (rl s).length := by omega
   rw [Nat.sub_self]
   unfold Sg.up
   rw [pos_all s _ (Nat.le_refl _)] at *
   exact onwT_end s _ _ (by rw [List.length_drop]; omega)
theorem snx_nx (s : List UInt8) (i : Nat) (hi : i < (rl s).length) : snx s (pos s i) = pos s (Sg.nx (sC s) (rl s).length i) := by
 have hl := pos_end s i hi
 have hs := pos_step s i hi
 have hs2 := pos_lt s i hi
 unfold snx Sg.nx
 rw [onwT_next s _ 0 (by rw [List.length_drop]; omega) (fun h => by omega), List.drop_zero, Nat.zero_add, show (dec (s.drop (pos s i))).2 = pos s (i + 1) - pos s i by omega]
 exact onwT_up s i _ (i + 1) (Nat.le_refl _) (by omega) hi
theorem pos_has (s : List UInt8) (z : Nat) : ∀ k, k <= (rl s).length -> z < pos s k -> ∃ i, i < k /\ pos s i <= z /\ z < pos s (i + 1)
 | 0, _, h => by rw [pos_0] at h; omega
 | k + 1, hk, h => by
  by_cases h2 : z < pos s k
  ·obtain ⟨i, h3, h4⟩ := pos_has s z k (by omega) h2
   exact ⟨i, by omega, h4⟩
  ·exact ⟨k, by omega, by omega, h⟩
theorem bg_in (s : List UInt8) (i z : Nat) (hi : i < (rl s).length) (h1 : pos s i <= z) (h2 : z < pos s (i + 1)) : bgF s z 4 = pos s i := by
 obtain ⟨P, hP⟩ := mks_pos s i (Nat.le_of_lt hi)
 have hl := pos_end s i hi
 have hs := pos_step s i hi
 have hle := pos_le s (i + 1) hi
 rw [mks_at s _ hl] at hP
 exact begin_is s z (pos s i) P (by omega) h1 (by unfold wid; omega) hP
theorem back_in (s : List UInt8) (i z : Nat) (hi : i < (rl s).length) (h1 : pos s i < z) (h2 : z <= pos s (i + 1)) : backE s (z : Int) = (pos s i : Nat) := by
 have hle := pos_le s (i + 1) hi
 unfold backE
 rw [if_neg (by omega), if_neg (by omega), Int.toNat_natCast, bg_in s i (z - 1) hi (by omega) (by omega)]
theorem isE_in (s : List UInt8) (i z : Nat) (hi : i < (rl s).length) (h1 : pos s i <= z) (h2 : z < pos s (i + 1)) (h0 : 0 < z) : isE s (z : Int) = (pos s i == z) := by
 have hle := pos_le s (i + 1) hi
 unfold isE
 rw [if_neg (by omega), if_neg (by omega), Int.toNat_natCast, bg_in s i z hi h1 h2]
theorem pos_le2 (s : List UInt8) {i j : Nat} (h : i <= j) (hj : j <= (rl s).length) : pos s i <= pos s j := by
 have := pos_mono s (j - i) i (by omega)
 rw [show i + (j - i) = j by omega] at this
 omega
set_option maxHeartbeats 2000000 in
theorem snext_at (s : List UInt8) (z p : Nat) (w : World) (ht : TbW w) (hl : s.length <= 1000000000) (hz : z < s.length) (hpz : p <= z) (hbk : backE s ((z + 1 : Nat) : Int) = (p : Nat)) :
  Calls Tryz.prog 44 #[.string ⟨s.toArray⟩, .int .i64 z] w fun e w' => e = .returned (.int .i64 (snx s p)) /\ Below w.heap.size w w' := by
 have HT := hid ht
 have HBK := hid (show backE s ((z : Int) + 1) = (p : Nat) from by rw [<- hbk, Int.natCast_add]; rfl)
 have hp : p < s.length := by omega
 obtain ⟨l, hll⟩ : ∃ l, l = s.drop p := ⟨_, rfl⟩
 have hdl : l.length = s.length - p := by rw [hll]; exact List.length_drop
 have HLL := hid hll
 have HSZ := hid (show (⟨l.toArray⟩ : ByteArray).size = l.length by show l.toArray.size = _; simp)
 clear ht hll hbk hpz
 go_enter Tryz.func44, Tryz.ntmps44
 go_wp2_with fail
 refine (back_any s _ w (by omega) HT.out.tabs HT.out.two).mono ?_
 rintro e w0 ⟨rfl, be⟩
 rw [HBK.out]
 have HB0 := hid (be.trans ((Below.refl w.heap.size w0).alloc be.size (.stringIter ⟨l.toArray⟩ 0)))
 have HIT0 := hid (World.iter_heap w0 ⟨l.toArray⟩ 0)
 have hw0 := be.size
 clear be
 go_wp2
 rw [ext_drop, <- HLL.out]
 obtain ⟨it, hit⟩ : ∃ it, it = w0.heap.size := ⟨_, rfl⟩
 rw [<- hit] at HIT0 hw0 ⊢
 have HW0 := hid hw0
 clear hit
 go_loopw [6] (fun _ wr => ∃ t : Nat, Hid (snx s p = onwT s p t) /\ Hid (wr.heap[it]? = some (.stringIter ⟨l.toArray⟩ t)) /\ Hid (Below w.heap.size w wr)) (fun _ wr => l.length - wr.iterPos it)
 case atStart => exact ⟨0, rfl, HIT0, HB0⟩
 case round =>
  obtain ⟨t, HP, HI, HB⟩ := hrel
  have hin : it < wr.heap.size := (Array.getElem?_eq_some_iff.1 HI.out).1
  by_cases hlt : t < l.length
  ·have hnx := wnext_at (P := Tryz.prog) wr it ⟨l.toArray⟩ t 0 HI.out (by rw [HSZ.out]; exact hlt)
   rw [decode_place l t hlt] at hnx
   have d1 := dec_ge _ (drop_ne l t hlt)
   obtain ⟨nn, hnn⟩ : ∃ nn, nn = (dec (l.drop t)).2 := ⟨_, rfl⟩
   obtain ⟨rr, hrr⟩ : ∃ rr, rr = (dec (l.drop t)).1 := ⟨_, rfl⟩
   rw [<- hnn] at hnx d1
   rw [<- hrr] at hnx
   have HNN := hid hnn
   obtain ⟨w1, hw1⟩ : ∃ w1, w1 = wr.putObj it (.stringIter ⟨l.toArray⟩ (t + nn)) := ⟨_, rfl⟩
   rw [<- hw1] at hnx
   have HI1 := hid (show w1.heap[it]? = some (.stringIter ⟨l.toArray⟩ (t + nn)) by rw [hw1]; exact World.putObj_heap_same hin)
   have HB1 := hid (show Below w.heap.size w w1 by rw [hw1]; exact HB.out.trans ⟨rfl, rfl, rfl, by simp [World.putObj], fun j hj => World.putObj_heap_other (by have := HW0.out; omega)⟩)
   have HM := hid (show l.length - wr.iterPos it = l.length - t by unfold World.iterPos; rw [HI.out])
   have hin1 : it < w1.heap.size := (Array.getElem?_eq_some_iff.1 HI1.out).1
   have hlt' : t < (s.drop p).length := by rw [<- HLL.out]; exact hlt
   have HLT := hid hlt'
   clear hnn hrr hw1 HI HB hlt'
   by_cases h0 : 0 < t
   ·have h0i : (0 : Int) < (t : Int) := by omega
    have hpt : p + t <= s.length := by omega
    go_wp2_with fail
    refine (scut_any s (p + t) w1 (HT.out.below HB1.out) hl hpt).mono ?_
    rintro e w2 ⟨rfl, be⟩; have HB2 := hid (HB1.out.trans (be.mono HB1.out.size))
    have HI2 := hid (show w2.heap[it]? = some (.stringIter ⟨l.toArray⟩ (t + nn)) from (be.block _ hin1).trans HI1.out)
    obtain ⟨v, hv⟩ : ∃ v, v = scut s (p + t) := ⟨_, rfl⟩
    have HV := hid hv
    rw [<- hv]; clear be hv HB1 HI1 hnx
    cases v with
    | true =>
     have HE := hid (HP.out.trans (onwT_here s p t HLT.out h0 HV.out.symm))
     go_wp2
     go_ret; exact ⟨by rw [HE.out]; simp, HB2.out⟩
    | false =>
     have HE := hid (HP.out.trans (onwT_next s p t HLT.out (fun h => by rw [<- HV.out] at h; cases h.2)))
     go_wp2
     go_roundw
     case rel => exact ⟨t + nn, (by show _ = _; rw [HE.out, HNN.out, HLL.out]), HI2, HB2⟩
     case measure =>
      rw [HM.out]
      unfold World.iterPos
      rw [HI2.out]
      simp only []
      omega
   ·have h00 : t = 0 := by omega
    have HE := hid (HP.out.trans (onwT_next s p t HLT.out (fun h => h0 h.1)))
    have HT0 := hid h00
    have h0i : ¬ (0 : Int) < (t : Int) := by omega
    clear h00
    go_wp2
    go_roundw
    case rel => exact ⟨t + nn, (by show _ = _; rw [HE.out, HNN.out, HLL.out]), HI1, HB1⟩
    case measure =>
     rw [HM.out]
     unfold World.iterPos
     rw [HI1.out]
     simp only []
     omega
  ·have hnx := wnext_stop (P := Tryz.prog) wr it ⟨l.toArray⟩ t 0 HI.out (by rw [HSZ.out]; exact hlt)
   have HE := hid (HP.out.trans (onwT_end s p t (by rw [<- HLL.out]; exact hlt)))
   go_wp2
   go_ret; exact ⟨by rw [HE.out]; rfl, HB.out⟩
end Go.Proofs.YtdpohgoikbeplaaGreatDoor.Sn
namespace Go.Proofs.YtdpohgoikbeplaaGreatDoor.Sn
open Go.RowKit Go.Shelf Wt
open Sg (Pl encP)
attribute [local go_sem] Oper.semAt_some
def spG (s : List UInt8) (k : Nat) : List (Nat × Nat) := Sg.byt s (Sg.pcF (sC s) (rl s).length k)
theorem spG_step (s : List UInt8) (k : Nat) (h : k < (rl s).length) : spG s k = (pos s k, pos s (Sg.nx (sC s) (rl s).length k)) :: spG s (Sg.nx (sC s) (rl s).length k) := by
 unfold spG
 rw [Sg.pcF_step h]
 rfl
theorem spG_end (s : List UInt8) (k : Nat) (h : (rl s).length <= k) : spG s k = [] := by
 unfold spG
 rw [Sg.pcF_end h]
 rfl
theorem seach_any (l : List UInt8) (w : World) :
  Calls Tryz.prog 46 #[.string ⟨l.toArray⟩] w fun e w' => e = .returned (.func (.func 82) #[] #[.pointer (some ⟨w.heap.size, 0, none⟩)]) /\ w' = w.alloc (.cells #[.string ⟨l.toArray⟩] 9) := by
 go_enter Tryz.func46, Tryz.ntmps46
 go_wp2
 go_ret
 exact ⟨rfl, rfl⟩
set_option maxHeartbeats 4000000 in
theorem seach_stops (n : Nat) (hn : 1 <= n) (Bs : Nat) (l : List UInt8) (L : List (Pl l)) (hL : L.map Pl.v = spF l) (w : World) (hR : WaAt Bs l w) (hl : l.length <= 1000000000) :
  SeqStopsK Fence.wide n Tryz.prog 82 #[.pointer (some ⟨Bs, 0, none⟩)] encP (KrW (KW Bs)) (fun xs => xs = L) (fun pre => pre <+: L) L.length w := fun lp J Jx W hbW hJ hJx hY h0 => by
 have HRW := hid (hR.below hbW)
 have hcW := HRW.out.bs.cell
 have HLL := hid (show L.map Pl.v = spG l 0 from hL)
 clear hR hbW hL
 refine callsIn_of_wp Tryz.func82 rfl trivial ?_ rfl
 simp only [Tryz.ntmps82, List.size_toArray, List.length_cons, List.length_nil, Nat.reduceAdd, Nat.reduceSub, Array.replicate_succ, Array.replicate_zero, List.push_toArray, List.append_toArray, List.nil_append, List.cons_append]
 gi_wp2
 gi_loopw [3] (fun v wr => ∃ (p k : Nat) (pre rest : List (Pl l)), v = .int .i64 p /\ Hid (p = pos l k) /\ Hid (k <= (rl l).length) /\ Hid (rest.map Pl.v = spG l k) /\ Hid (L = pre ++ rest) /\ Hid (J pre wr) /\ Hid (WaAt Bs l wr)) (fun v _ => l.length - (intOf v).toNat)
 case atStart => exact ⟨0, 0, [], L, rfl, rfl, Nat.zero_le _, HLL, rfl, h0, HRW⟩
 case round =>
  obtain ⟨p, k, pre, rest, rfl, HPK, HKN, HC, HP, HJ, HR⟩ := hrel
  clear hcW; have hc := HR.out.bs.cell
  by_cases hlt : p < l.length
  ·have hlti : (p : Int) < (l.length : Int) := by omega
   have hkn : k < (rl l).length := by
    rcases Nat.lt_or_ge k (rl l).length with h | h
    ·exact h
    ·have h1 := HPK.out; rw [pos_all l k h] at h1; omega
   have HCA := hid (snext_at l p p wr HR.out.tb hl hlt (Nat.le_refl _) (by rw [HPK.out]; exact back_in l k (pos l k + 1) hkn (by omega) (pos_lt l k hkn)))
   have hnx := snx_nx l k hkn
   rw [<- HPK.out] at hnx
   have hnl := Sg.nx_le (C := sC l) hkn
   have HNL := hid hnl
   have hb1 : p < pos l (Sg.nx (sC l) (rl l).length k) := by
    rw [HPK.out]; exact Sg.pos_inc l (Sg.nx_gt (sC l) (rl l).length k) hnl
   have hb2 := pos_le l _ hnl
   have hx := HC.out
   rw [spG_step l k hkn] at hx
   obtain ⟨x, R, rfl⟩ : ∃ x R, rest = x :: R := by
    cases rest with
    | nil => cases hx
    | cons x R => exact ⟨x, R, rfl⟩
   rw [List.map_cons] at hx
   have HX := hid (List.cons.inj hx).1
   have HRR := hid (List.cons.inj hx).2
   rw [<- HPK.out] at HX
   clear hx HC hkn hnl; obtain ⟨q, hq⟩ : ∃ q, q = pos l (Sg.nx (sC l) (rl l).length k) := ⟨_, rfl⟩
   have HQ := hid hq
   rw [<- hq] at hb1 hb2 HX hnx
   rw [hnx] at HCA
   clear hq hnx
   gi_wp2_with fail
   refine ⟨trivial, (callsIn_wide.2 HCA.out).mono ?_⟩
   rintro e w1 ⟨rfl, be1⟩; have HJ1 := hid (hJ pre wr w1 none HJ.out (wgrown be1) (fun r e => by cases e))
   have HR1 := hid (HR.out.below be1)
   clear be1 HJ HR hc HCA; have HP2 := hid (show L = (pre ++ [x]) ++ R by rw [HP.out, List.append_assoc]; rfl)
   obtain ⟨fn, tmps, assign, body, hy, hRR⟩ := hY pre x w1 HJ1.out (by rw [HP2.out]; simp)
   dsimp only [encP] at hy
   rw [HX.out] at hy
   clear hY
   gi_wp2; refine hRR.mono ?_
   rintro e W3 (⟨rfl, hJ3, hk3⟩ | ⟨rfl, hJx3⟩)
   ·have HJ3 := hid hJ3
    have HR3 := hid (HR1.out.keeps hk3.1.size hk3.2)
    clear hJ3 hk3
    gi_wp2
    go_roundw
    case rel => exact ⟨q, Sg.nx (sC l) (rl l).length k, pre ++ [x], R, rfl, HQ, HNL, HRR, HP2, HJ3, HR3⟩
    case measure => simp [intOf]; omega
   ·have HJX := hid hJx3
    clear hJx3
    gi_wp2; refine bodyPost_ret (results_none rfl _ _ _) rfl ?_
    exact ⟨⟨_, rfl⟩, .inr ⟨pre ++ [x], ⟨R, by rw [HP2.out]⟩, HJX.out⟩⟩
  ·have hlti : ¬ (p : Int) < (l.length : Int) := by omega
   have HE := hid (show L = pre by
    have hkn : (rl l).length <= k := by
     rcases Nat.lt_or_ge k (rl l).length with h | h
     ·have := pos_end l k h
      have := HPK.out
      omega
     ·exact h
    have h1 := HC.out
    rw [spG_end l k hkn] at h1
    rw [HP.out, List.map_eq_nil_iff.1 h1, List.append_nil])
   gi_wp2
   go_end0
   exact ⟨⟨_, rfl⟩, .inl (by rw [HE.out]; exact HJ.out)⟩
end Go.Proofs.YtdpohgoikbeplaaGreatDoor.Sn
namespace Go.Proofs.YtdpohgoikbeplaaGreatDoor.Sn
open Go.RowKit Go.Shelf Wt
open Sg (Pl encP)
attribute [local go_sem] Oper.semAt_some
structure BS (S : Nat -> Prop) (W W' : World) : Prop where
 os : W'.os = W.os
 tape : W'.tape = W.tape
 output : W'.output = W.output
 size : W.heap.size <= W'.heap.size
 block : ∀ k, k < W.heap.size -> ¬ S k -> W'.heap[k]? = W.heap[k]?
 others : KeepsOthers W W'
theorem BS.refl (S : Nat -> Prop) (W : World) : BS S W W := ⟨rfl, rfl, rfl, Nat.le_refl _, fun _ _ _ => rfl, KeepsOthers.refl W⟩
theorem BS.trans {S : Nat -> Prop} {A B C : World} (h : BS S A B) (k : BS S B C) : BS S A C :=
 ⟨k.os.trans h.os, k.tape.trans h.tape, k.output.trans h.output, Nat.le_trans h.size k.size, fun i hi hs => (k.block i (Nat.lt_of_lt_of_le hi h.size) hs).trans (h.block i hi hs), ⟨Nat.le_trans h.size k.size, fun i o hi ho => k.others.same i o (h.others.same i o hi ho) ho⟩⟩
theorem BS.set {S : Nat -> Prop} (W : World) (B : Nat) (v : Value) (hB : S B) : BS S W (W.setCell ⟨B, 0, none⟩ v) :=
 have g := grownBy_setCell' W B v
 ⟨g.os, g.tape, g.output, g.size, fun k hk hs => g.block k hk (fun e => hs (by cases e; exact hB)), KeepsOthers.setCell W _ v⟩
theorem BS.lower {S : Nat -> Prop} {W W' : World} (h : BS S W W') (B : Nat) (hB : ∀ k, S k -> B <= k) (hs : B <= W.heap.size) : Below B W W' :=
 ⟨h.os, h.tape, h.output, h.size, fun k hk => h.block k (Nat.lt_of_lt_of_le hk hs) (fun e => by have := hB k e; omega)⟩
def bdQ {α : Type} (I : List α -> World -> Prop) (Ix : Code -> List α -> World -> Prop) (xs : List α) : Exit -> World -> Prop
 | .normal, W => I xs W
 | .ret, W => Ix .ret xs W
 | .exit i, W => Ix (.exit i) xs W
 | _, _ => False
theorem bs_from {β : Type} (S : Nat -> Prop) (w : World) : OwnFrom w.heap.size (fun (_ : β) W => BS S w W) := fun _ A C row h hg hr => by
 have hb : ∀ k, k < w.heap.size -> C.heap[k]? = A.heap[k]? := fun k hk => hg.block k (Nat.lt_of_lt_of_le hk h.size) (fun e => by
  obtain ⟨hle, _⟩ := hr k e.symm
  omega)
 exact ⟨hg.os.trans h.os, hg.tape.trans h.tape, hg.output.trans h.output, Nat.le_trans h.size hg.size, fun k hk hs => (hb k hk).trans (h.block k hk hs),
  ⟨Nat.le_trans h.size hg.size, fun k o hk ho => (hb k (Array.getElem?_eq_some_iff.1 hk).1).trans (h.others.same k o hk ho)⟩⟩
theorem BS.keeps {S : Nat -> Prop} {Bs : Nat} {l : List UInt8} {W W' : World} (h : BS S W W') (hS : ∀ k, S k -> ¬ KW Bs k) (hE : WaAt Bs l W) : KrW (KW Bs) W W' :=
 ⟨⟨h.size, fun k o hk hw => h.others.same k o hk (Obj.not_cells_of_walk hw)⟩, fun k hk => h.block k (hE.lt k hk) (fun e => hS k e hk)⟩
theorem rfE {l : List UInt8} {n : Nat} {g : Operand} {ps : Array Tmp} {assign body : Code} {Q : Exit -> Act -> World -> Prop} {a : Act} {w : World}
  (Bs : Nat) (S : Nat -> Prop) (L : List (Pl l)) (h1 : 2 <= n) (hg : a.eval g = .func (.func 82) #[] #[.pointer (some ⟨Bs, 0, none⟩)])
  (hL : L.map Pl.v = spF l) (hE : WaAt Bs l w) (hl : l.length <= 1000000000) (hps : 2 = ps.size) (hS : ∀ k, S k -> ¬ KW Bs k)
  (I : List (Pl l) -> World -> Prop) (Ix : Code -> List (Pl l) -> World -> Prop) (hI : OwnFrom w.heap.size I) (hIx : ∀ c, OwnFrom w.heap.size (Ix c)) (h0 : I [] w) (a₁ : Pl l -> Act)
  (hassign : ∀ (lp : Nat) (x : Pl l) (W : World) (K : Act -> World -> Prop), K (a₁ x) W ->
   assign.wpIn (Fence.wide.inRound lp) (n - 1 - 1) Tryz.prog (Exit.then K (fun _ _ _ => False)) { tmps := (ps.zip (encP x)).foldl (fun t (p, v) => t.setIfInBounds p v) a.tmps, defers := [] } W)
  (hbody : ∀ (lp : Nat) (pre : List (Pl l)) (x : Pl l) (W : World), I pre W -> BS S w W -> WaAt Bs l W -> pre.length < L.length -> body.wpIn (Fence.wide.inRound lp) (n - 1 - 1) Tryz.prog (fun e _ W' => BS S W W' /\ bdQ I Ix (pre ++ [x]) e W') (a₁ x) W)
  (hdone : ∀ (D : Nat) (W : World), w.heap.size <= D -> I L W -> BS S w W -> W.heap[D]? = some (.deferred (some [])) -> Q .normal { a with defers := { target := .collected D, args := #[] } :: a.defers } W)
  (hstop : ∀ (D : Nat) (c : Code) (pre : List (Pl l)) (W : World), w.heap.size <= D -> pre <+: L -> Ix c pre W -> BS S w W -> W.heap[D]? = some (.deferred (some [])) -> c.wpIn Fence.wide n Tryz.prog Q { a with defers := { target := .collected D, args := #[] } :: a.defers } W) :
  (Code.rangeFunc g ps assign body).wpIn Fence.wide n Tryz.prog Q a w := by
 have h2 := hE.tb.two
 refine wpIn_rangeFunc_ownG (F := Fence.wide) rfl (by omega) hg trivial (enters_of Tryz.func82 (by kernel_rfl) rfl) (seach_stops (n - 1) (by omega) Bs l L hL w hE hl) KrW_t (KrW_b hE.lt) (Below.refl _ _) (fun _ => hps)
  (fun pre W => (I pre W /\ BS S w W) /\ WaAt Bs l W) (fun c pre W => Ix c pre W /\ BS S w W)
  (OwnFrom.and (OwnFrom.and hI (bs_from S w)) (waAt_from _ _ l h2)) (fun c => OwnFrom.and (hIx c) (bs_from S w)) ⟨⟨h0, BS.refl S w⟩, hE⟩ a₁ hassign ?_ ?_ ?_
 ·rintro lp pre x W ⟨⟨hi, hb⟩, he⟩ hlt
  refine wpIn_mono (hbody lp pre x W hi hb he hlt) ?_
  rintro e _ W' ⟨hB, hq⟩
  have hK := hB.keeps hS he
  cases e with
  | normal => exact ⟨hB.others.from _, hK, ⟨hq, hb.trans hB⟩, he.keeps hB.size hK.2⟩
  | ret => exact ⟨hB.others.from _, hq, hb.trans hB⟩
  | exit i => exact ⟨hB.others.from _, hq, hb.trans hB⟩
  | goto t => exact (hq : False).elim
  | panic c => exact (hq : False).elim
  | outgrown => exact (hq : False).elim
 ·rintro D xs W hD rfl ⟨⟨hi, hb⟩, _⟩ hK
  exact hdone D W hD hi hb hK
 ·rintro D c pre W hD hp ⟨hx, hb⟩ hK
  exact hstop D c pre W hD hp hx hb hK
def scnt (l : List UInt8) : Nat := (spF l).length
theorem sp_all (l : List UInt8) : ∃ L : List (Pl l), L.map Pl.v = spF l /\ L.length <= l.length := by
 obtain ⟨L, hL⟩ := Sg.pl_all l _ _ (sp_ch0 l)
 refine ⟨L, hL, ?_⟩
 have h : ∀ {p e : Nat} {P : List (Nat × Nat)}, Br.Chn p e P -> P.length + p <= e := by
  intro p e P h
  induction h with
  | nil => simp
  | cons h1 _ ih => rw [List.length_cons]; omega
 have h2 := h (sp_ch0 l)
 have h3 := congrArg List.length hL
 rw [List.length_map] at h3
 omega
theorem sp_cnt {l : List UInt8} {L : List (Pl l)} (h : L.map Pl.v = spF l) : L.length = scnt l := by
 have := congrArg List.length h
 rw [List.length_map] at this
 exact this
theorem scnt_le (l : List UInt8) : scnt l <= l.length := by
 obtain ⟨L, hL, hLl⟩ := sp_all l
 rw [<- sp_cnt hL]
 exact hLl
end Go.Proofs.YtdpohgoikbeplaaGreatDoor.Sn
