/- SnIt, SnBds, SnLw, SnAro, PwMs, PwKit: parts of the proof, joined. -/
import Derived.Test.YtdpohgoikbeplaaGreatDoorSPtFun1
import Derived.Test.YtdpohgoikbeplaaGreatDoorSSnMov
import Derived.Test.YtdpohgoikbeplaaGreatDoorSRngO
namespace Go.Proofs.YtdpohgoikbeplaaGreatDoor.Sn
open Go.RowKit Go.Shelf Wt
open Sg (Pl encP)
attribute [local go_sem] Oper.semAt_some
def spG (s : List UInt8) (k : Nat) : List (Nat × Nat) := Sg.byt s (Sg.pcF (sC s) (rl s).length k)
def sbG (s : List UInt8) (k : Nat) : List (Nat × Nat) := Sg.byt s (Sg.bkF (sC s) k)
theorem spG_step (s : List UInt8) (k : Nat) (h : k < (rl s).length) : spG s k = (pos s k, pos s (Sg.nx (sC s) (rl s).length k)) :: spG s (Sg.nx (sC s) (rl s).length k) := by
 unfold spG
 rw [Sg.pcF_step h]
 rfl
theorem spG_end (s : List UInt8) (k : Nat) (h : (rl s).length <= k) : spG s k = [] := by
 unfold spG
 rw [Sg.pcF_end h]
 rfl
theorem sbG_step (s : List UInt8) (k : Nat) : sbG s (k + 1) = (pos s (Sg.dn (sC s) k), pos s (k + 1)) :: sbG s (Sg.dn (sC s) k) := by
 unfold sbG
 rw [Sg.bkF_step]
 rfl
theorem sbG_0 (s : List UInt8) : sbG s 0 = [] := rfl
theorem sbG_all (s : List UInt8) : sbG s (rl s).length = (spF s).reverse := by
 unfold sbG spF Sg.byt
 rw [Sg.bk_all, List.map_reverse]
theorem seach_any (l : List UInt8) (w : World) :
  Calls Tryz.prog 46 #[.string ⟨l.toArray⟩] w fun e w' => e = .returned (.func (.func 82) #[] #[.pointer (some ⟨w.heap.size, 0, none⟩)]) /\ w' = w.alloc (.cells #[.string ⟨l.toArray⟩] 9) := by
 go_enter Tryz.func46, Tryz.ntmps46
 go_wp2
 go_ret
 exact ⟨rfl, rfl⟩
theorem sback_any (l : List UInt8) (w : World) :
  Calls Tryz.prog 47 #[.string ⟨l.toArray⟩] w fun e w' => e = .returned (.func (.func 83) #[] #[.pointer (some ⟨w.heap.size, 0, none⟩)]) /\ w' = w.alloc (.cells #[.string ⟨l.toArray⟩] 9) := by
 go_enter Tryz.func47, Tryz.ntmps47
 go_wp2
 go_ret
 exact ⟨rfl, rfl⟩
def KrB (K : Nat -> Prop) (B : Nat) (W W' : World) : Prop := KrW K W W' /\ ∀ k c fz, B <= k -> W.heap[k]? = some (.cells c 3 fz) -> W'.heap[k]? = some (.cells c 3 fz)
theorem KrB_t {K : Nat -> Prop} {B : Nat} {X Y Z : World} (h : KrB K B X Y) (k : KrB K B Y Z) : KrB K B X Z := ⟨KrW_t h.1 k.1, fun i c fz hi h1 => k.2 i c fz hi (h.2 i c fz hi h1)⟩
theorem KrB_b {K : Nat -> Prop} {B : Nat} {w : World} (hw : ∀ k, K k -> k < w.heap.size) (W : World) (l : Nat) (o o' : Obj) (hl : w.heap.size <= l) (h : W.heap[l]? = some o) (hc : o.isCells = false) (hk : o.isWalk = false) : KrB K B W (W.putObj l o') :=
 ⟨KrW_b hw W l o o' hl h hc hk, fun k c fz _ h1 => (World.putObj_heap_other (fun e => by
  subst e; rw [h] at h1
  cases h1
  cases hc)).trans h1⟩
set_option maxHeartbeats 4000000 in
theorem seach_stops (n : Nat) (hn : 1 <= n) (Bs : Nat) (l : List UInt8) (L : List (Pl l)) (hL : L.map Pl.v = spF l) (w : World) (hR : WaAt Bs l w) (hl : l.length <= 1000000000) :
  SeqStopsK Fence.wide n Tryz.prog 82 #[.pointer (some ⟨Bs, 0, none⟩)] encP (KrW (KW Bs)) (fun xs => xs = L) (fun pre => pre <+: L) L.length w := fun lp J Jx W hbW hJ hJx hY h0 => by
 have HRW := hid (hR.below hbW)
 have hcW := HRW.out.bs.cell
 have HLL := hid (show L.map Pl.v = spG l 0 from hL)
 clear hR hbW hL
 refine callsIn_of_wp Tryz.func82 rfl trivial ?_ rfl
 simp only [Tryz.ntmps82, List.size_toArray, List.length_cons, List.length_nil, Nat.reduceAdd, Nat.reduceSub, Array.replicate_succ, Array.replicate_zero, List.push_toArray, List.append_toArray, List.nil_append, List.cons_append]
 gi_wp2
 gi_loopw [3] (fun v wr => ∃ (p k : Nat) (pre rest : List (Pl l)), v = .int .i64 p /\ Hid (p = pos l k) /\ Hid (k <= (rl l).length) /\ Hid (rest.map Pl.v = spG l k) /\ Hid (L = pre ++ rest) /\ Hid (J pre wr) /\ Hid (WaAt Bs l wr)) (fun v _ => l.length - (intOf v).toNat)
 case atStart => exact ⟨0, 0, [], L, rfl, rfl, Nat.zero_le _, HLL, rfl, h0, HRW⟩
 case round =>
  obtain ⟨p, k, pre, rest, rfl, HPK, HKN, HC, HP, HJ, HR⟩ := hrel
  clear hcW; have hc := HR.out.bs.cell
  by_cases hlt : p < l.length
  ·have hlti : (p : Int) < (l.length : Int) := by omega
   have hkn : k < (rl l).length := by
    rcases Nat.lt_or_ge k (rl l).length with h | h
    ·exact h
    ·have h1 := HPK.out; rw [pos_all l k h] at h1; omega
   have HCA := hid (snext_at l p p wr HR.out.tb hl hlt (Nat.le_refl _) (by rw [HPK.out]; exact back_in l k (pos l k + 1) hkn (by omega) (pos_lt l k hkn)))
   have hnx := snx_nx l k hkn
   rw [<- HPK.out] at hnx
   have hnl := Sg.nx_le (C := sC l) hkn
   have HNL := hid hnl
   have hb1 : p < pos l (Sg.nx (sC l) (rl l).length k) := by
    rw [HPK.out]; exact Sg.pos_inc l (Sg.nx_gt (sC l) (rl l).length k) hnl
   have hb2 := pos_le l _ hnl
   have hx := HC.out
   rw [spG_step l k hkn] at hx
   obtain ⟨x, R, rfl⟩ : ∃ x R, rest = x :: R := by
    cases rest with
    | nil => cases hx
    | cons x R => exact ⟨x, R, rfl⟩
   rw [List.map_cons] at hx
   have HX := hid (List.cons.inj hx).1
   have HRR := hid (List.cons.inj hx).2
   rw [<- HPK.out] at HX
   clear hx HC hkn hnl; obtain ⟨q, hq⟩ : ∃ q, q = pos l (Sg.nx (sC l) (rl l).length k) := ⟨_, rfl⟩
   have HQ := hid hq
   rw [<- hq] at hb1 hb2 HX hnx
   rw [hnx] at HCA
   clear hq hnx
   gi_wp2_with fail
   refine ⟨trivial, (callsIn_wide.2 HCA.out).mono ?_⟩
   rintro e w1 ⟨rfl, be1⟩; have HJ1 := hid (hJ pre wr w1 none HJ.out (wgrown be1) (fun r e => by cases e))
   have HR1 := hid (HR.out.below be1)
   clear be1 HJ HR hc HCA; have HP2 := hid (show L = (pre ++ [x]) ++ R by rw [HP.out, List.append_assoc]; rfl)
   obtain ⟨fn, tmps, assign, body, hy, hRR⟩ := hY pre x w1 HJ1.out (by rw [HP2.out]; simp)
   dsimp only [encP] at hy
   rw [HX.out] at hy
   clear hY
   gi_wp2; refine hRR.mono ?_
   rintro e W3 (⟨rfl, hJ3, hk3⟩ | ⟨rfl, hJx3⟩)
   ·have HJ3 := hid hJ3
    have HR3 := hid (HR1.out.keeps hk3.1.size hk3.2)
    clear hJ3 hk3
    gi_wp2
    go_roundw
    case rel => exact ⟨q, Sg.nx (sC l) (rl l).length k, pre ++ [x], R, rfl, HQ, HNL, HRR, HP2, HJ3, HR3⟩
    case measure => simp [intOf]; omega
   ·have HJX := hid hJx3
    clear hJx3
    gi_wp2; refine bodyPost_ret (results_none rfl _ _ _) rfl ?_
    exact ⟨⟨_, rfl⟩, .inr ⟨pre ++ [x], ⟨R, by rw [HP2.out]⟩, HJX.out⟩⟩
  ·have hlti : ¬ (p : Int) < (l.length : Int) := by omega
   have HE := hid (show L = pre by
    have hkn : (rl l).length <= k := by
     rcases Nat.lt_or_ge k (rl l).length with h | h
     ·have := pos_end l k h
      have := HPK.out
      omega
     ·exact h
    have h1 := HC.out
    rw [spG_end l k hkn] at h1
    rw [HP.out, List.map_eq_nil_iff.1 h1, List.append_nil])
   gi_wp2
   go_end0
   exact ⟨⟨_, rfl⟩, .inl (by rw [HE.out]; exact HJ.out)⟩
set_option maxHeartbeats 4000000 in
theorem seach_s (n : Nat) (hn : 1 <= n) (Bs : Nat) (l : List UInt8) (L : List (Pl l)) (hL : L.map Pl.v = spF l) (w : World) (hR : WaAt Bs l w) (hl : l.length <= 1000000000) :
  SeqS Fence.wide n Tryz.prog 82 #[.pointer (some ⟨Bs, 0, none⟩)] encP (KrW (KW Bs)) (fun xs => xs = L) (fun pre => pre <+: L) w := fun lp J Jx W hbW hJ hJx hY h0 => by
 have HRW := hid (hR.below hbW)
 have hcW := HRW.out.bs.cell
 have HLL := hid (show L.map Pl.v = spG l 0 from hL)
 clear hR hbW hL
 refine callsIn_of_wp Tryz.func82 rfl trivial ?_ rfl
 simp only [Tryz.ntmps82, List.size_toArray, List.length_cons, List.length_nil, Nat.reduceAdd, Nat.reduceSub, Array.replicate_succ, Array.replicate_zero, List.push_toArray, List.append_toArray, List.nil_append, List.cons_append]
 gi_wp2
 gi_loopw [3] (fun v wr => ∃ (p k : Nat) (pre rest : List (Pl l)), v = .int .i64 p /\ Hid (p = pos l k) /\ Hid (k <= (rl l).length) /\ Hid (rest.map Pl.v = spG l k) /\ Hid (L = pre ++ rest) /\ Hid (J pre wr) /\ Hid (WaAt Bs l wr)) (fun v _ => l.length - (intOf v).toNat)
 case atStart => exact ⟨0, 0, [], L, rfl, rfl, Nat.zero_le _, HLL, rfl, h0, HRW⟩
 case round =>
  obtain ⟨p, k, pre, rest, rfl, HPK, HKN, HC, HP, HJ, HR⟩ := hrel
  clear hcW; have hc := HR.out.bs.cell
  by_cases hlt : p < l.length
  ·have hlti : (p : Int) < (l.length : Int) := by omega
   have hkn : k < (rl l).length := by
    rcases Nat.lt_or_ge k (rl l).length with h | h
    ·exact h
    ·have h1 := HPK.out; rw [pos_all l k h] at h1; omega
   have HCA := hid (snext_at l p p wr HR.out.tb hl hlt (Nat.le_refl _) (by rw [HPK.out]; exact back_in l k (pos l k + 1) hkn (by omega) (pos_lt l k hkn)))
   have hnx := snx_nx l k hkn
   rw [<- HPK.out] at hnx
   have hnl := Sg.nx_le (C := sC l) hkn
   have HNL := hid hnl
   have hb1 : p < pos l (Sg.nx (sC l) (rl l).length k) := by
    rw [HPK.out]; exact Sg.pos_inc l (Sg.nx_gt (sC l) (rl l).length k) hnl
   have hb2 := pos_le l _ hnl
   have hx := HC.out
   rw [spG_step l k hkn] at hx
   obtain ⟨x, R, rfl⟩ : ∃ x R, rest = x :: R := by
    cases rest with
    | nil => cases hx
    | cons x R => exact ⟨x, R, rfl⟩
   rw [List.map_cons] at hx
   have HX := hid (List.cons.inj hx).1
   have HRR := hid (List.cons.inj hx).2
   rw [<- HPK.out] at HX
   clear hx HC hkn hnl; obtain ⟨q, hq⟩ : ∃ q, q = pos l (Sg.nx (sC l) (rl l).length k) := ⟨_, rfl⟩
   have HQ := hid hq
   rw [<- hq] at hb1 hb2 HX hnx
   rw [hnx] at HCA
   clear hq hnx
   gi_wp2_with fail
   refine ⟨trivial, (callsIn_wide.2 HCA.out).mono ?_⟩
   rintro e w1 ⟨rfl, be1⟩; have HJ1 := hid (hJ pre wr w1 none HJ.out (wgrown be1) (fun r e => by cases e))
   have HR1 := hid (HR.out.below be1)
   clear be1 HJ HR hc HCA; have HP2 := hid (show L = (pre ++ [x]) ++ R by rw [HP.out, List.append_assoc]; rfl)
   obtain ⟨fn, tmps, assign, body, hy, hRR⟩ := hY pre x w1 HJ1.out ⟨R, by rw [HP2.out]⟩
   dsimp only [encP] at hy
   rw [HX.out] at hy
   clear hY
   gi_wp2; refine hRR.mono ?_
   rintro e W3 ⟨_, (⟨rfl, hJ3, hk3⟩ | ⟨rfl, hJx3⟩)⟩
   ·have HJ3 := hid hJ3
    have HR3 := hid (HR1.out.keeps hk3.1.size hk3.2)
    clear hJ3 hk3
    gi_wp2
    go_roundw
    case rel => exact ⟨q, Sg.nx (sC l) (rl l).length k, pre ++ [x], R, rfl, HQ, HNL, HRR, HP2, HJ3, HR3⟩
    case measure => simp [intOf]; omega
   ·have HJX := hid hJx3
    clear hJx3
    gi_wp2; refine bodyPost_ret (results_none rfl _ _ _) rfl ?_
    exact ⟨⟨_, rfl⟩, .inr ⟨pre ++ [x], ⟨R, by rw [HP2.out]⟩, HJX.out⟩⟩
  ·have hlti : ¬ (p : Int) < (l.length : Int) := by omega
   have HE := hid (show L = pre by
    have hkn : (rl l).length <= k := by
     rcases Nat.lt_or_ge k (rl l).length with h | h
     ·have := pos_end l k h
      have := HPK.out
      omega
     ·exact h
    have h1 := HC.out
    rw [spG_end l k hkn] at h1
    rw [HP.out, List.map_eq_nil_iff.1 h1, List.append_nil])
   gi_wp2
   go_end0
   exact ⟨⟨_, rfl⟩, .inl (by rw [HE.out]; exact HJ.out)⟩
set_option maxHeartbeats 4000000 in
theorem sback_s (n : Nat) (hn : 1 <= n) (Bs B0 : Nat) (l : List UInt8) (L : List (Pl l)) (hL : L.map Pl.v = (spF l).reverse) (w : World) (hR : WaAt Bs l w) (hl : l.length <= 1000000000) :
  SeqS Fence.wide n Tryz.prog 83 #[.pointer (some ⟨Bs, 0, none⟩)] encP (KrB (KW Bs) B0) (fun xs => xs = L) (fun pre => pre <+: L) w := fun lp J Jx W hbW hJ hJx hY h0 => by
 have HRW := hid (hR.below hbW)
 have hcW := HRW.out.bs.cell
 have HLL := hid (show L.map Pl.v = sbG l (rl l).length by rw [sbG_all]; exact hL)
 clear hR hbW hL
 refine callsIn_of_wp Tryz.func83 rfl trivial ?_ rfl
 simp only [Tryz.ntmps83, List.size_toArray, List.length_cons, List.length_nil, Nat.reduceAdd, Nat.reduceSub, Array.replicate_succ, Array.replicate_zero, List.push_toArray, List.append_toArray, List.nil_append, List.cons_append]
 gi_wp2
 gi_loopw [3] (fun v wr => ∃ (p k : Nat) (pre rest : List (Pl l)), v = .int .i64 p /\ Hid (p = pos l k) /\ Hid (k <= (rl l).length) /\ Hid (rest.map Pl.v = sbG l k) /\ Hid (L = pre ++ rest) /\ Hid (J pre wr) /\ Hid (WaAt Bs l wr)) (fun v _ => (intOf v).toNat)
 case atStart => exact ⟨l.length, (rl l).length, [], L, rfl, (pos_all l _ (Nat.le_refl _)).symm, Nat.le_refl _, HLL, rfl, h0, HRW⟩
 case round =>
  obtain ⟨p, k, pre, rest, rfl, HPK, HKN, HC, HP, HJ, HR⟩ := hrel
  clear hcW; have hc := HR.out.bs.cell
  by_cases hlt : 0 < p
  ·have hlti : (0 : Int) < (p : Int) := by omega
   obtain ⟨k', hk'⟩ : ∃ k', k = k' + 1 := ⟨k - 1, by
    rcases Nat.eq_zero_or_pos k with h | h
    ·have h1 := HPK.out; rw [h, pos_0] at h1; omega
    ·omega⟩
   subst hk'
   have hkn : k' < (rl l).length := HKN.out
   have hple := pos_le l (k' + 1) HKN.out
   have HCA := hid (sprev_at l p k' wr HR.out.tb hl (by rw [HPK.out]; exact hple) hkn (by rw [HPK.out]; exact pos_lt l k' hkn) (by rw [HPK.out]; exact Nat.le_refl _))
   have hb1 : pos l (Sg.dn (sC l) k') < p := by
    rw [HPK.out]; have h1 := pos_le2 l (Sg.dn_le (sC l) k') (Nat.le_of_lt hkn)
    have h2 := pos_lt l k' hkn
    omega
   have HDL := hid (show Sg.dn (sC l) k' <= (rl l).length by have := Sg.dn_le (sC l) k'; omega)
   have hx := HC.out
   rw [sbG_step] at hx
   obtain ⟨x, R, rfl⟩ : ∃ x R, rest = x :: R := by
    cases rest with
    | nil => cases hx
    | cons x R => exact ⟨x, R, rfl⟩
   rw [List.map_cons] at hx
   have HX := hid (List.cons.inj hx).1
   have HRR := hid (List.cons.inj hx).2
   rw [<- HPK.out] at HX
   have hp9 : p <= 1000000000 := by rw [HPK.out]; omega
   clear hx HC hkn hple; obtain ⟨q, hq⟩ : ∃ q, q = pos l (Sg.dn (sC l) k') := ⟨_, rfl⟩
   have HQ := hid hq
   rw [<- hq] at hb1 HX HCA
   clear hq
   gi_wp2_with fail
   refine ⟨trivial, (callsIn_wide.2 HCA.out).mono ?_⟩
   rintro e w1 ⟨rfl, be1⟩; have HJ1 := hid (hJ pre wr w1 none HJ.out (wgrown be1) (fun r e => by cases e))
   have HR1 := hid (HR.out.below be1)
   clear be1 HJ HR hc HCA; have HP2 := hid (show L = (pre ++ [x]) ++ R by rw [HP.out, List.append_assoc]; rfl)
   obtain ⟨fn, tmps, assign, body, hy, hRR⟩ := hY pre x w1 HJ1.out ⟨R, by rw [HP2.out]⟩
   dsimp only [encP] at hy
   rw [HX.out] at hy
   clear hY
   gi_wp2; refine hRR.mono ?_
   rintro e W3 ⟨_, (⟨rfl, hJ3, hk3⟩ | ⟨rfl, hJx3⟩)⟩
   ·have HJ3 := hid hJ3
    have HR3 := hid (HR1.out.keeps hk3.1.1.size hk3.1.2)
    clear hJ3 hk3
    gi_wp2
    go_roundw
    case rel => exact ⟨q, Sg.dn (sC l) k', pre ++ [x], R, rfl, HQ, HDL, HRR, HP2, HJ3, HR3⟩
    case measure => simp [intOf]; omega
   ·have HJX := hid hJx3
    clear hJx3
    gi_wp2; refine bodyPost_ret (results_none rfl _ _ _) rfl ?_
    exact ⟨⟨_, rfl⟩, .inr ⟨pre ++ [x], ⟨R, by rw [HP2.out]⟩, HJX.out⟩⟩
  ·have hlti : ¬ (0 : Int) < (p : Int) := by omega
   have HE := hid (show L = pre by
    have hk0 : k = 0 := by
     rcases Nat.eq_zero_or_pos k with h | h
     ·exact h
     ·have h1 := pos_mono l k 0 (by have := HKN.out; omega)
      rw [Nat.zero_add] at h1
      have := HPK.out
      omega
    have h1 := HC.out
    rw [hk0, sbG_0] at h1
    rw [HP.out, List.map_eq_nil_iff.1 h1, List.append_nil])
   gi_wp2
   go_end0
   exact ⟨⟨_, rfl⟩, .inl (by rw [HE.out]; exact HJ.out)⟩
end Go.Proofs.YtdpohgoikbeplaaGreatDoor.Sn
namespace Go.Proofs.YtdpohgoikbeplaaGreatDoor.Sn
open Go.RowKit Go.Shelf Wt
open Sg (Pl encP)
attribute [local go_sem] Oper.semAt_some
structure BS (S : Nat -> Prop) (W W' : World) : Prop where
 os : W'.os = W.os
 tape : W'.tape = W.tape
 output : W'.output = W.output
 size : W.heap.size <= W'.heap.size
 block : ∀ k, k < W.heap.size -> ¬ S k -> W'.heap[k]? = W.heap[k]?
 others : KeepsOthers W W'
theorem BS.refl (S : Nat -> Prop) (W : World) : BS S W W := ⟨rfl, rfl, rfl, Nat.le_refl _, fun _ _ _ => rfl, KeepsOthers.refl W⟩
theorem BS.trans {S : Nat -> Prop} {A B C : World} (h : BS S A B) (k : BS S B C) : BS S A C :=
 ⟨k.os.trans h.os, k.tape.trans h.tape, k.output.trans h.output, Nat.le_trans h.size k.size, fun i hi hs => (k.block i (Nat.lt_of_lt_of_le hi h.size) hs).trans (h.block i hi hs), ⟨Nat.le_trans h.size k.size, fun i o hi ho => k.others.same i o (h.others.same i o hi ho) ho⟩⟩
theorem BS.set {S : Nat -> Prop} (W : World) (B : Nat) (v : Value) (hB : S B) : BS S W (W.setCell ⟨B, 0, none⟩ v) :=
 have g := grownBy_setCell' W B v
 ⟨g.os, g.tape, g.output, g.size, fun k hk hs => g.block k hk (fun e => hs (by cases e; exact hB)), KeepsOthers.setCell W _ v⟩
theorem BS.lower {S : Nat -> Prop} {W W' : World} (h : BS S W W') (B : Nat) (hB : ∀ k, S k -> B <= k) (hs : B <= W.heap.size) : Below B W W' :=
 ⟨h.os, h.tape, h.output, h.size, fun k hk => h.block k (Nat.lt_of_lt_of_le hk hs) (fun e => by have := hB k e; omega)⟩
def bdQ {α : Type} (I : List α -> World -> Prop) (Ix : Code -> List α -> World -> Prop) (xs : List α) : Exit -> World -> Prop
 | .normal, W => I xs W
 | .ret, W => Ix .ret xs W
 | .exit i, W => Ix (.exit i) xs W
 | _, _ => False
theorem bs_from {β : Type} (S : Nat -> Prop) (w : World) : OwnFrom w.heap.size (fun (_ : β) W => BS S w W) := fun _ A C row h hg hr => by
 have hb : ∀ k, k < w.heap.size -> C.heap[k]? = A.heap[k]? := fun k hk => hg.block k (Nat.lt_of_lt_of_le hk h.size) (fun e => by
  obtain ⟨hle, _⟩ := hr k e.symm
  omega)
 exact ⟨hg.os.trans h.os, hg.tape.trans h.tape, hg.output.trans h.output, Nat.le_trans h.size hg.size, fun k hk hs => (hb k hk).trans (h.block k hk hs),
  ⟨Nat.le_trans h.size hg.size, fun k o hk ho => (hb k (Array.getElem?_eq_some_iff.1 hk).1).trans (h.others.same k o hk ho)⟩⟩
theorem BS.keeps {S : Nat -> Prop} {Bs : Nat} {l : List UInt8} {W W' : World} (h : BS S W W') (hS : ∀ k, S k -> ¬ KW Bs k) (hE : WaAt Bs l W) : KrW (KW Bs) W W' :=
 ⟨⟨h.size, fun k o hk hw => h.others.same k o hk (Obj.not_cells_of_walk hw)⟩, fun k hk => h.block k (hE.lt k hk) (fun e => hS k e hk)⟩
theorem rfE {l : List UInt8} {n : Nat} {g : Operand} {ps : Array Tmp} {assign body : Code} {Q : Exit -> Act -> World -> Prop} {a : Act} {w : World}
  (Bs : Nat) (S : Nat -> Prop) (L : List (Pl l)) (h1 : 2 <= n) (hg : a.eval g = .func (.func 82) #[] #[.pointer (some ⟨Bs, 0, none⟩)])
  (hL : L.map Pl.v = spF l) (hE : WaAt Bs l w) (hl : l.length <= 1000000000) (hps : 2 = ps.size) (hS : ∀ k, S k -> ¬ KW Bs k)
  (I : List (Pl l) -> World -> Prop) (Ix : Code -> List (Pl l) -> World -> Prop) (hI : OwnFrom w.heap.size I) (hIx : ∀ c, OwnFrom w.heap.size (Ix c)) (h0 : I [] w) (a₁ : Pl l -> Act)
  (hassign : ∀ (lp : Nat) (x : Pl l) (W : World) (K : Act -> World -> Prop), K (a₁ x) W ->
   assign.wpIn (Fence.wide.inRound lp) (n - 1 - 1) Tryz.prog (Exit.then K (fun _ _ _ => False)) { tmps := (ps.zip (encP x)).foldl (fun t (p, v) => t.setIfInBounds p v) a.tmps, defers := [] } W)
  (hbody : ∀ (lp : Nat) (pre : List (Pl l)) (x : Pl l) (W : World), I pre W -> BS S w W -> WaAt Bs l W -> pre.length < L.length -> body.wpIn (Fence.wide.inRound lp) (n - 1 - 1) Tryz.prog (fun e _ W' => BS S W W' /\ bdQ I Ix (pre ++ [x]) e W') (a₁ x) W)
  (hdone : ∀ (D : Nat) (W : World), w.heap.size <= D -> I L W -> BS S w W -> W.heap[D]? = some (.deferred (some [])) -> Q .normal { a with defers := { target := .collected D, args := #[] } :: a.defers } W)
  (hstop : ∀ (D : Nat) (c : Code) (pre : List (Pl l)) (W : World), w.heap.size <= D -> pre <+: L -> Ix c pre W -> BS S w W -> W.heap[D]? = some (.deferred (some [])) -> c.wpIn Fence.wide n Tryz.prog Q { a with defers := { target := .collected D, args := #[] } :: a.defers } W) :
  (Code.rangeFunc g ps assign body).wpIn Fence.wide n Tryz.prog Q a w := by
 have h2 := hE.tb.two
 refine wpIn_rangeFunc_ownG (F := Fence.wide) rfl (by omega) hg trivial (enters_of Tryz.func82 (by kernel_rfl) rfl) (seach_stops (n - 1) (by omega) Bs l L hL w hE hl) KrW_t (KrW_b hE.lt) (Below.refl _ _) (fun _ => hps)
  (fun pre W => (I pre W /\ BS S w W) /\ WaAt Bs l W) (fun c pre W => Ix c pre W /\ BS S w W)
  (OwnFrom.and (OwnFrom.and hI (bs_from S w)) (waAt_from _ _ l h2)) (fun c => OwnFrom.and (hIx c) (bs_from S w)) ⟨⟨h0, BS.refl S w⟩, hE⟩ a₁ hassign ?_ ?_ ?_
 ·rintro lp pre x W ⟨⟨hi, hb⟩, he⟩ hlt
  refine wpIn_mono (hbody lp pre x W hi hb he hlt) ?_
  rintro e _ W' ⟨hB, hq⟩
  have hK := hB.keeps hS he
  cases e with
  | normal => exact ⟨hB.others.from _, hK, ⟨hq, hb.trans hB⟩, he.keeps hB.size hK.2⟩
  | ret => exact ⟨hB.others.from _, hq, hb.trans hB⟩
  | exit i => exact ⟨hB.others.from _, hq, hb.trans hB⟩
  | goto t => exact (hq : False).elim
  | panic c => exact (hq : False).elim
  | outgrown => exact (hq : False).elim
 ·rintro D xs W hD rfl ⟨⟨hi, hb⟩, _⟩ hK
  exact hdone D W hD hi hb hK
 ·rintro D c pre W hD hp ⟨hx, hb⟩ hK
  exact hstop D c pre W hD hp hx hb hK
def scnt (l : List UInt8) : Nat := (spF l).length
theorem sp_all (l : List UInt8) : ∃ L : List (Pl l), L.map Pl.v = spF l /\ L.length <= l.length := by
 obtain ⟨L, hL⟩ := Sg.pl_all l _ _ (sp_ch0 l)
 refine ⟨L, hL, ?_⟩
 have h : ∀ {p e : Nat} {P : List (Nat × Nat)}, Br.Chn p e P -> P.length + p <= e := by
  intro p e P h
  induction h with
  | nil => simp
  | cons h1 _ ih => rw [List.length_cons]; omega
 have h2 := h (sp_ch0 l)
 have h3 := congrArg List.length hL
 rw [List.length_map] at h3
 omega
theorem sp_cnt {l : List UInt8} {L : List (Pl l)} (h : L.map Pl.v = spF l) : L.length = scnt l := by
 have := congrArg List.length h
 rw [List.length_map] at this
 exact this
theorem scnt_le (l : List UInt8) : scnt l <= l.length := by
 obtain ⟨L, hL, hLl⟩ := sp_all l
 rw [<- sp_cnt hL]
 exact hLl
set_option maxHeartbeats 2000000 in
theorem scount_in (l : List UInt8) (w : World) (ht : TbW w) (hl : l.length <= 100000000) :
  CallsIn Fence.wide 3 Tryz.prog 41 #[.string ⟨l.toArray⟩] w fun e W' => e = .returned (.int .i64 (scnt l)) /\ Below w.heap.size w W' := by
 have HT := hid ht
 clear ht
 obtain ⟨L, hL, hLl⟩ := sp_all l
 have HL := hid hL
 have HC := hid (sp_cnt hL)
 have hll : L.length <= 100000000 := by omega
 clear hL hLl
 refine callsIn_of_wp_marks Tryz.func41 rfl trivial ?_ rfl
 simp only [Tryz.ntmps41, List.size_toArray, List.length_cons, List.length_nil, Nat.reduceAdd, Nat.reduceSub, Array.replicate_succ, Array.replicate_zero, List.push_toArray, List.append_toArray, List.nil_append, List.cons_append]
 gi_wp2_with (refine ⟨trivial, ?_⟩; gi_at_call 46; refine (callsIn_wide.2 (seach_any l _)).mono ?_; rintro e w' ⟨rfl, rfl⟩)
 have bC := (Boxed.new w 3 (.int .i64 0)).alloc (.cells #[.string ⟨l.toArray⟩] 9)
 have bS := Boxed.new (w.alloc (.cells #[.int .i64 0] 3)) 9 (.string ⟨l.toArray⟩)
 rw [World.size_alloc] at bS
 have hB0 : Below w.heap.size w ((w.alloc (.cells #[.int .i64 0] 3)).alloc (.cells #[.string ⟨l.toArray⟩] 9)) := ((Below.refl _ _).alloc (Nat.le_refl _) _).alloc (by simp) _
 have hEa : WaAt (w.heap.size + 1) l ((w.alloc (.cells #[.int .i64 0] 3)).alloc (.cells #[.string ⟨l.toArray⟩] 9)) := ⟨bS, HT.out.below hB0⟩
 have h2 := HT.out.two
 refine rfE (w.heap.size + 1) (fun k => k = w.heap.size) L (by omega) rfl HL.out hEa (by omega) rfl (fun k hk => by rw [hk]; rintro (h | h) <;> omega)
  (fun pre W => Boxed W w.heap.size 3 (.int .i64 (pre.length : Nat))) (fun _ _ _ => False) (Own.from (boxed_own _ _ (fun pre : List (Pl l) => Value.int .i64 (pre.length : Nat))) _) (fun _ _ _ _ _ hs _ _ => hs) bC
  (fun x => { tmps := #[.string ⟨l.toArray⟩, undef, .int .i64 0, .pointer (some ⟨w.heap.size, 0, none⟩), .string ⟨l.toArray⟩, .func (.func 82) #[] #[.pointer (some ⟨w.heap.size + 1, 0, none⟩)], .int .i64 (x.v.1 : Nat), .int .i64 (x.v.2 : Nat), undef, undef, undef], defers := [] }) ?assign ?body ?done ?stop
 case assign =>
  intro lp x W K hK
  dsimp only [encP]
  gi_wp2
  simpa using hK
 case body =>
  intro lp pre x W hv hb he hlt
  have hc := hv.cell
  have hf := hv.frozen
  gi_wp2; refine ⟨BS.set W _ _ rfl, ?_⟩
  have := hv.set (.int .i64 ((pre.length : Int) + 1))
  show Boxed _ _ _ _
  rw [List.length_append]; exact this
 case done =>
  intro D W hD hv hb hK
  have hc := hv.cell
  gi_wp2; refine ⟨by simp, .inl ⟨_, _, rfl, run_takeDeferred hK, ?_⟩⟩
  refine ⟨_, results_tmp rfl _ _ _, by rw [<- HC.out]; rfl, ?_⟩
  exact (hB0.trans (hb.lower w.heap.size (fun k hk => by omega) (by simp; omega))).trans (belowK_b (w := w) (Nat.le_refl _) W D _ _ (by simp at hD; omega) hK rfl rfl)
 case stop =>
  rintro D c pre W _ _ h _
  exact h.elim
theorem scount_any (l : List UInt8) (w : World) (ht : TbW w) (hl : l.length <= 100000000) :
  Calls Tryz.prog 41 #[.string ⟨l.toArray⟩] w fun e W' => e = .returned (.int .i64 (scnt l)) /\ Below w.heap.size w W' := callsIn_wide.1 (scount_in l w ht hl)
def gtos {l : List UInt8} (xs : List (Pl l)) : List Int := 0 :: xs.map fun x => (x.v.2 : Int)
theorem gtos_snoc {l : List UInt8} (xs : List (Pl l)) (x : Pl l) : gtos (xs ++ [x]) = gtos xs ++ [(x.v.2 : Int)] := by simp [gtos]
set_option maxHeartbeats 4000000 in
theorem sbounds_in (l : List UInt8) (L : List (Pl l)) (hL : L.map Pl.v = spF l) (w : World) (ht : TbW w) (hl : l.length ≤ 100000000) (hne : l ≠ []) :
    CallsIn Fence.wide 3 Tryz.prog 39 #[.string ⟨l.toArray⟩] w fun e W' => ∃ v, e = .returned v ∧ W'.ownsRow w.heap.size 3 1 v (gtos L).length (i64s (gtos L)) ∧ Below w.heap.size w W' := by
  obtain ⟨i0, hi, hz0, hz1, hz2⟩ := info_parts Tryz.info3
  have HT := hid ht
  have HLL := hid hL
  have hpl : L.length ≤ l.length := by
    obtain ⟨L2, h1, h2⟩ := sp_all l
    have e := congrArg List.length (hL.trans h1.symm)
    rw [List.length_map, List.length_map] at e
    omega
  have he : l.isEmpty = false := by simpa using hne
  clear ht hne hL; refine callsIn_of_wp_marks Tryz.func39 rfl trivial ?_ rfl
  simp only [Tryz.ntmps39, List.size_toArray, List.length_cons, List.length_nil, Nat.reduceAdd, Nat.reduceSub, Array.replicate_succ, Array.replicate_zero, List.push_toArray, List.append_toArray, List.nil_append, List.cons_append]
  gi_wp2_with (refine ⟨trivial, ?_⟩; gi_at_call 46; refine (callsIn_wide.2 (seach_any l _)).mono ?_; rintro e w' ⟨rfl, rfl⟩)
  have hr0 : (w.alloc (.cells #[.int .i64 0] 3)).ownsRow w.heap.size 3 1 (.slice (some ⟨w.heap.size, 0, none⟩) 1 1) 1 (i64s (gtos ([] : List (Pl l)))) := World.ownsRow_lit w #[.int .i64 0] 1 (Nat.le_refl _) (by decide) (by simp)
  have bL := Boxed.new (w.alloc (.cells #[.int .i64 0] 3)) 23 (.slice (some ⟨w.heap.size, 0, none⟩) 1 1)
  rw [World.size_alloc] at bL
  have bS := Boxed.new ((w.alloc (.cells #[.int .i64 0] 3)).alloc (.cells #[.slice (some ⟨w.heap.size, 0, none⟩) 1 1] 23)) 9 (.string ⟨l.toArray⟩)
  rw [World.size_alloc, World.size_alloc] at bS
  have hB0 : Below w.heap.size w (((w.alloc (.cells #[.int .i64 0] 3)).alloc (.cells #[.slice (some ⟨w.heap.size, 0, none⟩) 1 1] 23)).alloc (.cells #[.string ⟨l.toArray⟩] 9)) := (((Below.refl _ _).alloc (Nat.le_refl _) _).alloc (by simp) _).alloc (by simp; omega) _
  have hEa : WaAt (w.heap.size + 1 + 1) l (((w.alloc (.cells #[.int .i64 0] 3)).alloc (.cells #[.slice (some ⟨w.heap.size, 0, none⟩) 1 1] 23)).alloc (.cells #[.string ⟨l.toArray⟩] 9)) := ⟨bS, HT.out.below hB0⟩
  have h2 := HT.out.two
  refine wpIn_rangeFunc_ownG rfl (by omega) (gf := 82) (lb := #[.pointer (some ⟨w.heap.size + 1 + 1, 0, none⟩)]) rfl trivial (enters_of Tryz.func82 (by kernel_rfl) rfl)
    (seach_stops (3 - 1) (by omega) (w.heap.size + 1 + 1) l L HLL.out _ hEa (by omega)) KrW_t (KrW_b hEa.lt) (Below.refl _ _) (fun _ => rfl)
    (fun pre W => ((∃ v, Boxed W (w.heap.size + 1) 23 v ∧ W.ownsRow w.heap.size 3 1 v (gtos pre).length (i64s (gtos pre)) ∧ True) ∧ Below w.heap.size w W) ∧ WaAt (w.heap.size + 1 + 1) l W)
    (fun _ _ _ => False)
    (OwnFrom.and (OwnFrom.and (Own.from (holdsRow_own w.heap.size (w.heap.size + 1) 23 3 1 (fun pre : List (Pl l) => (gtos pre).length) (fun pre => i64s (gtos pre)) (fun _ _ => True)) _) (ownFrom_below (Nat.le_refl _) (by simp; omega))) (waAt_from _ _ l (by simp)))
    (fun _ _ _ _ _ hs _ _ => hs)
    ⟨⟨⟨_, bL.alloc _, (hr0.alloc _).alloc _, trivial⟩, hB0⟩, hEa⟩
    (fun x => { tmps := #[.string ⟨l.toArray⟩, undef, .slice none 0 0, .pointer (some ⟨w.heap.size + 1, 0, none⟩), undef, .int .i64 (x.v.2 : Nat), .string ⟨l.toArray⟩, .bool false, .slice (some ⟨w.heap.size, 0, none⟩) 1 1, .string ⟨l.toArray⟩, .func (.func 82) #[] #[.pointer (some ⟨w.heap.size + 1 + 1, 0, none⟩)], .int .i64 (x.v.1 : Nat), .int .i64 (x.v.2 : Nat), undef, undef, undef, undef, undef], defers := [] }) ?assign ?body ?done ?stop
  case assign =>
    intro lp x W K hK
    dsimp only [encP]
    gi_wp2; exact hK
  case body =>
    rintro lp pre x W ⟨⟨⟨v, hv, hrow, _⟩, hB⟩, hE⟩ hlt
    have hc := hv.cell
    have hBs := hB.size
    have hwl : (gtos pre).length ≤ 100000001 := by have h : (gtos pre).length = pre.length + 1 := by simp [gtos]
                                                   omega
    gi_wp2_with (gi_at_builtin; refine wpListIn_append_own _ rfl _ _ 23 rfl w.heap.size 3 i0 (.int .i64 0) 1 8 Tryz.underlying23 hi hz0 hz1 hz2 rfl (by decide) _ _ _ rfl (hrow.alloc _) ⟨W.heap.size, 0, none⟩ 1 1 [.int .i64 (x.v.2 : Nat)] rfl rfl (cell_one_new _ _ _) (by simp [Value.oneCell']) (by unfold maxLen; omega) (by omega) (by simp; omega) ?_; intro v' w3 hown' hgrow _; obtain ⟨g', cap', rfl⟩ := ownsRow_succ hown'; obtain ⟨hv1, hv2, hr2, hk2, hb2⟩ := hv.appended (by decide) hrow hB.size (by omega) hown' hgrow; have hc1 := hv1.cell; have hf1 := hv1.frozen)
    have hS1 : Boxed w3 (w.heap.size + 1 + 1) 9 (.string ⟨l.toArray⟩) := (hE.bs.alloc _).kept hgrow (hE.bs.not_row (by decide) hrow)
    have hKK : ∀ k, KW (w.heap.size + 1 + 1) k → (w3.setCell ⟨w.heap.size + 1, 0, none⟩ (.slice (some ⟨g', 0, none⟩) ((gtos pre).length + 1) cap')).heap[k]? = W.heap[k]? := by
      rintro k (rfl | hk)
      · exact ((grownBy_setCell' w3 (w.heap.size + 1) _).block _ hS1.lt (by simp)).trans (Eq.trans hS1 hE.bs.symm)
      · exact hb2.block k (by omega)
    exact ⟨hk2.from _, ⟨⟨hk2.size, fun k o h hw => hk2.same k o h (Obj.not_cells_of_walk hw)⟩, hKK⟩, ⟨⟨_, hv2, by rw [gtos_snoc, i64s_snoc, List.length_append]; exact hr2, trivial⟩, hB.trans hb2⟩, hE.keeps hb2.size hKK⟩
  case done =>
    rintro D ys W hD rfl ⟨⟨⟨v, hv, hrow, _⟩, hB⟩, _⟩ hK
    have hc := hv.cell
    gi_wp2; refine ⟨by simp, .inl ⟨_, _, rfl, run_takeDeferred hK, ?_⟩⟩
    exact ⟨_, results_tmp rfl _ _ _, v, rfl, ownsRow_putObj hrow _ hK rfl, hB.trans (belowK_b (w := w) (Nat.le_refl _) W D _ _ (by simp at hD; omega) hK rfl rfl)⟩
  case stop =>
    rintro D c pre W _ _ h _
    exact h.elim
theorem sbounds_any (l : List UInt8) (L : List (Pl l)) (hL : L.map Pl.v = spF l) (w : World) (ht : TbW w) (hl : l.length <= 100000000) (hne : l ≠ []) :
  Calls Tryz.prog 39 #[.string ⟨l.toArray⟩] w fun e W' => ∃ v, e = .returned v /\ W'.ownsRow w.heap.size 3 1 v (gtos L).length (i64s (gtos L)) /\ Below w.heap.size w W' := callsIn_wide.1 (sbounds_in l L hL w ht hl hne)
end Go.Proofs.YtdpohgoikbeplaaGreatDoor.Sn
namespace Go.Proofs.YtdpohgoikbeplaaGreatDoor.Sn
open Go.RowKit Wt
open Sg (Pl encP)
theorem below_drN {B : Nat} {w w' : World} (h : Below B w w') (k : Nat) : Below B w (w'.drewN k) := ⟨h.os, h.tape, h.output, h.size, h.block⟩
theorem gtos_bds {l : List UInt8} {L : List (Pl l)} (h : L.map Pl.v = spF l) : i64s (gtos L) = Pt.i64n (sbd l) := by
 unfold sbd Br.bds gtos i64s Pt.i64n
 rw [<- h, List.map_cons, List.map_cons, List.map_map, List.map_map, List.map_map]
 rfl
theorem gtos_len {l : List UInt8} {L : List (Pl l)} (h : L.map Pl.v = spF l) : (gtos L).length = (sbd l).length := by
 unfold sbd Br.bds gtos
 rw [<- h, List.length_cons, List.length_cons, List.length_map, List.length_map, List.length_map]
theorem sbd_cnt (l : List UInt8) : (sbd l).length = scnt l + 1 := by
 obtain ⟨L, hL, _⟩ := sp_all l
 rw [<- gtos_len hL, <- sp_cnt hL]
 simp [gtos]
theorem scnt_0 : scnt [] = 0 := rfl
theorem sbs_cnt (l : List UInt8) : (sbs l).length - 1 = scnt l := by
 unfold sbs
 by_cases h : l = []
 ·rw [if_pos h, h]; rfl
 ·rw [if_neg h, sbd_cnt]; rfl
theorem sbs_len (l : List UInt8) : (sbs l).length <= l.length + 1 := by
 unfold sbs
 by_cases h : l = []
 ·rw [if_pos h]; simp
 ·rw [if_neg h, sbd_cnt]
  have := scnt_le l
  omega
theorem sbds_nil (w : World) : Calls Tryz.prog 39 #[.string ⟨([] : List UInt8).toArray⟩] w fun e w' => e = .returned (.slice none 0 0) /\ Below w.heap.size w w' := by
 go_enter Tryz.func39, Tryz.ntmps39
 go_wp2
 go_ret
 exact ⟨rfl, Below.refl _ _⟩
theorem sbds_any (l : List UInt8) (w : World) (ht : TbW w) (hl : l.length <= 100000000) :
  Calls Tryz.prog 39 #[.string ⟨l.toArray⟩] w (Pt.LsQ w (sbs l)) := by
 by_cases h : l = []
 ·subst h
  clear ht
  go_enter Tryz.func39, Tryz.ntmps39
  go_wp2
  go_ret; exact ⟨none, 0, rfl, World.ownsRow_nil _ _ _ _, Below.refl _ _⟩
 ·obtain ⟨L, hL, _⟩ := sp_all l
  refine (sbounds_any l L hL w ht hl h).mono ?_
  rintro e w' ⟨v, rfl, ho, hb⟩
  rw [gtos_bds hL, gtos_len hL] at ho
  have e : sbs l = sbd l := if_neg h
  rw [<- e] at ho
  have hv : ∃ vo vc, v = .slice vo (sbs l).length vc := by
   rcases ho.2 with ⟨h1, h2⟩ | ⟨g, cap, cur, h1, _⟩
   ·exact ⟨none, 0, by rw [h1, h2]⟩
   ·exact ⟨_, _, h1⟩
  obtain ⟨vo, vc, rfl⟩ := hv
  exact ⟨vo, vc, rfl, ho, hb⟩
set_option maxHeartbeats 1000000 in
set_option maxRecDepth 100000 in
theorem places_any (ao bo : Option Addr) (n ac bc : Nat) (l : List Int) (w : World) (ha : Pt.RdI w ao l) (hb : Pt.RdI w bo l) (hn : n = l.length) (hl : n <= 100000) :
  Calls Tryz.prog 14 #[.slice ao n ac, .slice bo n bc] w fun e w' => e = .returned (.bool true) /\ Below w.heap.size w w' := by
 have HA := hid ha
 have HB := hid hb
 have HN := hid hn
 clear ha hb hn
 go_enter Tryz.func14, Tryz.ntmps14
 go_wp2
 go_loopw [5] (fun i wr => ∃ k : Nat, k <= n /\ i = .int .i64 k /\ Hid (Below w.heap.size w wr)) (fun i _ => n - (intOf i).toNat)
 case atStart => exact ⟨0, by omega, rfl, Below.refl _ _⟩
 case round =>
  obtain ⟨k, hk, rfl, HBr⟩ := hrel
  by_cases hlt : k < n
  ·have hkl : k < l.length := by have := HN.out; omega
   obtain ⟨a, rfl, _, a0⟩ := HA.out.below HBr.out k l[k] (List.getElem?_eq_getElem hkl)
   obtain ⟨b, rfl, _, b0⟩ := HB.out.below HBr.out k l[k] (List.getElem?_eq_getElem hkl)
   obtain ⟨x, hx⟩ : ∃ x, l[k] = x := ⟨_, rfl⟩
   rw [hx] at a0 b0
   have i3 : (k : Int) < (n : Int) := by omega
   have i0 : (0 : Int) <= (k : Int) := by omega
   have xx : (x != x) = false := bne_eq_false_iff_eq.2 rfl
   clear hx hkl
   go_wp2_with fail
   go_quiet (fail)
   go_wp2
   go_roundw
   case rel => exact ⟨k + 1, by omega, by go_num, below_drN HBr.out _⟩
   case measure => simp [intOf]; omega
  ·have i3 : ¬ (k : Int) < (n : Int) := by omega
   go_wp2
   go_ret; exact ⟨rfl, HBr.out⟩
end Go.Proofs.YtdpohgoikbeplaaGreatDoor.Sn
namespace Go.Proofs.YtdpohgoikbeplaaGreatDoor.Sn
open Go.RowKit Wt
theorem saro_any (s : List UInt8) (z : Int) (w : World) (ht : TbW w) (hl : s.length <= 1000000000) :
  Calls Tryz.prog 42 #[.string ⟨s.toArray⟩, .int .i64 z] w fun e w' => e = .returned (.tuple #[.int .i64 ((Br.arn z (sbd s)).1 : Nat), .int .i64 ((Br.arn z (sbd s)).2 : Nat)]) /\ Below w.heap.size w w' := by
 by_cases h0 : z < 0
 ·rw [show Br.arn z (sbd s) = (0, 0) from (sp_ch0 s).arn_out (.inl (by omega))]
  clear ht
  go_enter Tryz.func42, Tryz.ntmps42
  go_wp2
  go_ret2; exact ⟨rfl, Below.refl _ _⟩
 by_cases h1 : (s.length : Int) <= z
 ·rw [show Br.arn z (sbd s) = (0, 0) from (sp_ch0 s).arn_out (.inr h1)]
  clear ht
  go_enter Tryz.func42, Tryz.ntmps42
  go_wp2
  go_ret2; exact ⟨rfl, Below.refl _ _⟩
 obtain ⟨p, rfl⟩ : ∃ p : Nat, z = p := ⟨z.toNat, by omega⟩
 obtain ⟨i, hi, h2, h3⟩ := pos_has s p (rl s).length (Nat.le_refl _) (by rw [pos_all s _ (Nat.le_refl _)]; omega)
 have h4 := pos_le2 s (Sg.dn_le (sC s) i) (Nat.le_of_lt hi)
 have h5 := pos_le2 s (i := i + 1) (Sg.nx_gt (sC s) (rl s).length i) (Sg.nx_le hi)
 have hm := sp_mem s i hi
 have HP := hid (fun (W : World) (h : TbW W) => sprev_any s ((p : Int) + 1) W h hl)
 have HX := hid (fun (W : World) (h : TbW W) => snext_any s (p : Int) W h hl)
 rw [show Br.blw ((p : Int) + 1) 0 (sbd s) = pos s (Sg.dn (sC s) i) from (sp_ch0 s).blw_in hm (by omega) (by omega) _] at HP
 rw [show Br.abv (p : Int) s.length (sbd s) = pos s (Sg.nx (sC s) (rl s).length i) from (sp_ch0 s).abv_in hm (by omega) (by omega) _] at HX
 rw [show Br.arn (p : Int) (sbd s) = (pos s (Sg.dn (sC s) i), pos s (Sg.nx (sC s) (rl s).length i)) from (sp_ch0 s).arn_in hm (by omega) (by omega)]
 obtain ⟨f, hf⟩ : ∃ f, f = pos s (Sg.dn (sC s) i) := ⟨_, rfl⟩
 obtain ⟨t, htt⟩ : ∃ t, t = pos s (Sg.nx (sC s) (rl s).length i) := ⟨_, rfl⟩
 rw [<- hf] at HP ⊢
 rw [<- htt] at HX ⊢
 have HT := hid ht
 have wz : IntKind.i64.wrap ((p : Int) + 1) = (p : Int) + 1 := by unfold IntKind.wrap IntKind.bits IntKind.signed; simp; omega
 clear ht hm h4 h5 h2 h3 hf htt
 go_enter Tryz.func42, Tryz.ntmps42
 go_wp2_with fail
 refine (HP.out w HT.out).mono ?_
 rintro e w1 ⟨rfl, be⟩
 have HB1 := hid be
 clear be
 go_wp2_with fail
 refine (HX.out w1 (HT.out.below HB1.out)).mono ?_
 rintro e w2 ⟨rfl, be⟩
 have HB2 := hid (HB1.out.trans (be.mono HB1.out.size))
 clear be
 go_wp2
 go_ret2
 exact ⟨rfl, HB2.out⟩
end Go.Proofs.YtdpohgoikbeplaaGreatDoor.Sn
namespace Go.Proofs.YtdpohgoikbeplaaGreatDoor.Sn
open Wt
open Sg (Pl)
theorem chn_at {p e : Nat} {P : List (Nat × Nat)} (h : Br.Chn p e P) : ∀ (k : Nat) (x : Nat × Nat), P[k]? = some x -> (Br.bds p P)[k]? = some x.1 /\ (Br.bds p P)[k + 1]? = some x.2 := by
 induction h with
 | nil => intro k x hx; simp at hx
 | @cons p t e P k1 k2 ih =>
  intro k x hx
  rw [Br.bds_cons]
  cases k with
  | zero =>
   simp only [List.getElem?_cons_zero, Option.some.injEq] at hx
   subst hx; exact ⟨rfl, rfl⟩
  | succ k =>
   rw [List.getElem?_cons_succ] at hx
   have := ih k x hx
   exact ⟨by rw [List.getElem?_cons_succ]; exact this.1, by rw [List.getElem?_cons_succ]; exact this.2⟩
theorem chn_len {p e : Nat} {P : List (Nat × Nat)} (h : Br.Chn p e P) : P.length + p <= e := by
 induction h with
 | nil => simp
 | cons h1 _ ih => rw [List.length_cons]; omega
theorem spw_facts (l : List UInt8) : ∃ L L2 : List (Pl l), L.map Pl.v = spF l /\ L2.map Pl.v = (spF l).reverse /\ (∀ k x, L[k]? = some x -> (sbs l)[k]? = some x.v.1 /\ (sbs l)[k + 1]? = some x.v.2) ∧
  (∀ j x, L2[j]? = some x -> j < L.length /\ (sbs l)[L.length - 1 - j]? = some x.v.1 /\ (sbs l)[L.length - j]? = some x.v.2) /\ L2.length = L.length /\ (sbs l).length - 1 = L.length /\ L.length <= l.length := by
 obtain ⟨L, hL⟩ := Sg.pl_all l _ _ (sp_ch0 l)
 have hlen : L.length = (spF l).length := by rw [<- hL, List.length_map]
 have hle := chn_len (sp_ch0 l)
 have hA : ∀ k x, L[k]? = some x -> (sbs l)[k]? = some x.v.1 /\ (sbs l)[k + 1]? = some x.v.2 := fun k x hx => by
  have hk := (List.getElem?_eq_some_iff.1 hx).1
  have hne : l ≠ [] := fun e => by
   rw [e] at hle
   simp at hle
   rw [hlen, e, hle] at hk
   simp at hk
  unfold sbs
  rw [if_neg hne]; refine chn_at (sp_ch0 l) k x.v ?_
  rw [<- hL, List.getElem?_map, hx]
  rfl
 refine ⟨L, L.reverse, hL, by rw [List.map_reverse, hL], hA, fun j x hx => ?_, List.length_reverse, ?_, by omega⟩
 ·have hj := (List.getElem?_eq_some_iff.1 hx).1
  rw [List.length_reverse] at hj
  rw [List.getElem?_reverse hj] at hx
  obtain ⟨h1, h2⟩ := hA _ x hx
  exact ⟨hj, h1, by rw [show L.length - j = L.length - 1 - j + 1 by omega]; exact h2⟩
 ·unfold sbs
  by_cases hne : l = []
  ·rw [if_pos hne, hlen]
   have h0 : l.length = 0 := by rw [hne]; rfl
   show 0 - 1 = _
   omega
  ·rw [if_neg hne, hlen]
   unfold sbd Br.bds
   simp
end Go.Proofs.YtdpohgoikbeplaaGreatDoor.Sn
namespace Go.Proofs.YtdpohgoikbeplaaGreatDoor.Pw
open Go.RowKit Go.Shelf Wt
def Cb (W : World) (B : Nat) (c : Array Value) (t : Nat) : Prop := W.heap[B]? = some (.cells c t (0, 0))
theorem Cb.lt {W : World} {B : Nat} {c : Array Value} {t : Nat} (h : Cb W B c t) : B < W.heap.size := (Array.getElem?_eq_some_iff.1 h).1
theorem Cb.cell {W : World} {B : Nat} {c : Array Value} {t : Nat} (h : Cb W B c t) (i : Nat) : W.cell? ⟨B, i, none⟩ = c[i]? := by
 unfold Cb at h
 simp [World.cell?, h]
theorem Cb.frozen {W : World} {B : Nat} {c : Array Value} {t : Nat} (h : Cb W B c t) (i : Nat) : W.frozen? ⟨B, i, none⟩ = false := by
 unfold Cb at h
 simp [World.frozen?, h]
theorem Cb.new (w : World) (c : Array Value) (t : Nat) : Cb (w.alloc (.cells c t)) w.heap.size c t := World.alloc_heap_new w _
theorem Cb.below {W W' : World} {B : Nat} {c : Array Value} {t : Nat} (h : Cb W B c t) (hb : Below W.heap.size W W') : Cb W' B c t := (hb.block _ h.lt).trans h
theorem Cb.alloc {W : World} {B : Nat} {c : Array Value} {t : Nat} (h : Cb W B c t) (o : Obj) : Cb (W.alloc o) B c t := h.below ((Below.refl _ _).alloc (Nat.le_refl _) _)
theorem Cb.set {W : World} {B : Nat} {c : Array Value} {t : Nat} (h : Cb W B c t) (i : Nat) (v : Value) : Cb (W.setCell ⟨B, i, none⟩ v) B (c.setIfInBounds i v) t := by
 obtain ⟨hlt, hk⟩ := Array.getElem?_eq_some_iff.1 h
 show (W.heap.modify B _)[B]? = _
 rw [Array.getElem?_eq_getElem (by rw [Array.size_modify]; exact hlt), Array.getElem_modify_self, hk]
 rfl
theorem Cb.other {W : World} {B B' : Nat} {c : Array Value} {t : Nat} (h : Cb W B c t) (hne : B ≠ B') (i : Nat) (v : Value) : Cb (W.setCell ⟨B', i, none⟩ v) B c t := (Below.heap_setCell _ _ _ B hne).trans h
theorem Cb.kept {W W' : World} {row : Option Nat} {B : Nat} {c : Array Value} {t : Nat} (h : Cb W B c t) (hg : W.grownBy W' row) (hne : some B ≠ row) : Cb W' B c t := (hg.block B h.lt hne).trans h
theorem Cb.one {W : World} {B : Nat} {v : Value} {t : Nat} (h : Cb W B #[v] t) : W.cell? ⟨B, 0, none⟩ = some v := (h.cell 0).trans rfl
theorem seqS_in {α : Type} {n lp g : Nat} {lb : Array Value} {encs : α -> Array Value} {Kp : World -> World -> Prop} {S Sp : List α -> Prop} {w : World} (h : SeqS Fence.wide n Tryz.prog g lb encs Kp S Sp w) : SeqS (Fence.wide.inRound lp) n Tryz.prog g lb encs Kp S Sp w := h
theorem kr_set {K : Nat -> Prop} (W : World) (B : Nat) (v : Value) (h : ∀ k, K k -> k ≠ B) : KrW K W (W.setCell ⟨B, 0, none⟩ v) := ⟨KeepsWalks.setCell W _ v, fun k hk => Below.heap_setCell _ _ _ k (h k hk)⟩
theorem kr_below {K : Nat -> Prop} {V U : World} (hb : Below V.heap.size V U) (h : ∀ k, K k -> k < V.heap.size) : KrW K V U := ⟨KeepsWalks.of_grownBy (wgrown hb) (fun j o e => by cases e), fun k hk => hb.block k (h k hk)⟩
def mkD (D : List Nat) : List Deferred := D.map fun d => { target := .collected d, args := #[] }
structure Marks (D : List Nat) (B : Nat) (w : World) : Prop where
 at' : ∀ d ∈ D, w.heap[d]? = some (.deferred (some []))
 low : ∀ d ∈ D, B <= d
 nodup : D.Nodup
theorem Marks.nil (B : Nat) (w : World) : Marks [] B w := ⟨fun _ h => (by cases h), fun _ h => (by cases h), List.nodup_nil⟩
theorem Marks.lt {D : List Nat} {B : Nat} {w : World} (h : Marks D B w) {d : Nat} (hd : d ∈ D) : d < w.heap.size := (Array.getElem?_eq_some_iff.1 (h.at' d hd)).1
theorem Marks.more {D : List Nat} {B d : Nat} {w w' : World} (h : Marks D B w) (hd : w'.heap[d]? = some (.deferred (some []))) (hn : w.heap.size <= d) (hB : B <= w.heap.size) (hk : ∀ e, e < w.heap.size -> e ∈ D -> w'.heap[e]? = w.heap[e]?) : Marks (d :: D) B w' := by
 refine ⟨fun e he => ?_, fun e he => ?_, List.nodup_cons.2 ⟨fun he => ?_, h.nodup⟩⟩
 ·rcases List.mem_cons.1 he with rfl | he
  ·exact hd
  ·exact (hk e (h.lt he) he).trans (h.at' e he)
 ·rcases List.mem_cons.1 he with rfl | he
  ·omega
  ·exact h.low e he
 ·have := h.lt he
  omega
structure Shutd (B : Nat) (X Y : World) : Prop where
 low : Below B X Y
 cells : ∀ (k : Nat) (o : Obj), X.heap[k]? = some o -> o.isCells = true -> Y.heap[k]? = some o
theorem Shutd.refl (B : Nat) (X : World) : Shutd B X X := ⟨Below.refl _ _, fun _ _ h _ => h⟩
theorem Shutd.trans {B : Nat} {X Y Z : World} (h : Shutd B X Y) (k : Shutd B Y Z) : Shutd B X Z := ⟨h.low.trans k.low, fun i o h1 h2 => k.cells i o (h.cells i o h1 h2) h2⟩
theorem leaves_marks {fn : Func} {tmps : Array Value} {R : Ending -> World -> Prop} (n B : Nat) : ∀ (D : List Nat) (w : World), Marks D B w -> (∀ w', Shutd B w w' -> LeavesIn Fence.wide n Tryz.prog fn tmps R [] .returning w') -> LeavesInM Fence.wide n Tryz.prog fn tmps R (mkD D) .returning w
 | [], w, _, h => h w (Shutd.refl B w)
 | d :: D, w, hm, h => by
  have hd := hm.at' d (.head _)
  have hlt := (Array.getElem?_eq_some_iff.1 hd).1
  have hs : Shutd B w (w.putObj d (.deferred none)) := ⟨(Below.refl B w).grown (grownBy_putObj' w d _) (by have := hm.low d (.head _); omega) (fun k e => by cases e; exact hm.low d (.head _)), fun k o h1 h2 => by
   have : k ≠ d := fun e => by subst e; rw [hd] at h1; cases h1; cases h2
   rw [World.putObj_heap_other this]; exact h1⟩
  refine ⟨by simp, .inl ⟨_, _, rfl, run_takeDeferred hd, leaves_marks n B D _ ⟨fun e he => ?_, fun e he => hm.low e (.tail _ he), (List.nodup_cons.1 hm.nodup).2⟩ (fun w' hw => h w' (hs.trans hw))⟩⟩
  have : e ≠ d := fun h1 => (List.nodup_cons.1 hm.nodup).1 (h1 ▸ he)
  rw [World.putObj_heap_other this]; exact hm.at' e (.tail _ he)
theorem wpIn_loop_inv {F : Fence} {n : Nat} {P : Program} {Q : Exit -> Act -> World -> Prop} {c : Code} (Inv : Nat -> Act -> World -> Prop) (h0 : ∀ a w, ¬ Inv 0 a w)
  (h : ∀ m a w, Inv (m + 1) a w -> c.wpIn F n P (Exit.then (Inv m) Q) a w) (m : Nat) (a : Act) (w : World) (hi : Inv m a w) : (Code.loop c).wpIn F n P Q a w := by
 refine wpIn_loop_rounds m ?_
 have key : ∀ m a w, Inv m a w -> Code.roundsIn F n P c Q m a w := by
  intro m
  induction m with
  | zero => exact fun a w hi => absurd hi (h0 a w)
  | succ m ih =>
   intro a w hi
   rw [roundsIn_succ]; refine wpIn_mono (h m a w hi) ?_
   intro e a' w' hq
   cases e with
   | normal => exact ih a' w' hq
   | _ => exact hq
 exact key m a w hi
def at_ (a : Act) (k : Nat) : Value := a.tmps.getD k undef
theorem ofFn_all {k : Nat} (t : Array Value) (h : t.size = k) : t = Array.ofFn (fun i : Fin k => t.getD i undef) := by
 apply Array.ext
 ·simp [h]
 ·intro i h1 h2
  simp [Array.getD, h1]
theorem ofFnP (f : Nat -> Value) : Array.ofFn (fun i : Fin 121 => f i) = #[f 0, f 1, f 2, f 3, f 4, f 5, f 6, f 7, f 8, f 9, f 10, f 11, f 12, f 13, f 14, f 15, f 16, f 17, f 18, f 19, f 20, f 21, f 22, f 23, f 24, f 25, f 26, f 27, f 28, f 29, f 30, f 31, f 32, f 33, f 34, f 35, f 36, f 37, f 38, f 39, f 40, f 41, f 42, f 43, f 44, f 45, f 46, f 47, f 48, f 49, f 50, f 51, f 52, f 53, f 54, f 55, f 56, f 57, f 58, f 59, f 60, f 61, f 62, f 63, f 64, f 65, f 66, f 67, f 68, f 69, f 70, f 71, f 72, f 73, f 74, f 75, f 76, f 77, f 78, f 79, f 80, f 81, f 82, f 83, f 84, f 85, f 86, f 87, f 88, f 89, f 90, f 91, f 92, f 93, f 94, f 95, f 96, f 97, f 98, f 99, f 100, f 101, f 102, f 103, f 104, f 105, f 106, f 107, f 108, f 109, f 110, f 111, f 112, f 113, f 114, f 115, f 116, f 117, f 118, f 119, f 120] := by kernel_rfl
theorem frameP (a : Act) (D : List Deferred) (hs : a.tmps.size = 121) (hd : a.defers = D) (v0 v1 v3 v4 v5 v6 v7 v8 v9 : Value) (h0 : at_ a 0 = v0) (h1 : at_ a 1 = v1) (h3 : at_ a 3 = v3) (h4 : at_ a 4 = v4) (h5 : at_ a 5 = v5) (h6 : at_ a 6 = v6) (h7 : at_ a 7 = v7) (h8 : at_ a 8 = v8) (h9 : at_ a 9 = v9) :
  ∃ u : Nat -> Value, a = { tmps := #[v0, v1, u 2, v3, v4, v5, v6, v7, v8, v9, u 10, u 11, u 12, u 13, u 14, u 15, u 16, u 17, u 18, u 19, u 20, u 21, u 22, u 23, u 24, u 25, u 26, u 27, u 28, u 29, u 30, u 31, u 32, u 33, u 34, u 35, u 36, u 37, u 38, u 39, u 40, u 41, u 42, u 43, u 44, u 45, u 46, u 47, u 48, u 49, u 50, u 51, u 52, u 53, u 54, u 55, u 56, u 57, u 58, u 59, u 60, u 61, u 62, u 63, u 64, u 65, u 66, u 67, u 68, u 69, u 70, u 71, u 72, u 73, u 74, u 75, u 76, u 77, u 78, u 79, u 80, u 81, u 82, u 83, u 84, u 85, u 86, u 87, u 88, u 89, u 90, u 91, u 92, u 93, u 94, u 95, u 96, u 97, u 98, u 99, u 100, u 101, u 102, u 103, u 104, u 105, u 106, u 107, u 108, u 109, u 110, u 111, u 112, u 113, u 114, u 115, u 116, u 117, u 118, u 119, u 120], defers := D } := by
 obtain ⟨t, d⟩ := a
 subst hd
 refine ⟨fun i => t.getD i undef, ?_⟩
 simp only [at_] at h0 h1 h3 h4 h5 h6 h7 h8 h9
 subst h0 h1 h3 h4 h5 h6 h7 h8 h9
 exact congrArg (fun t => (Act.mk t d : Act)) ((ofFn_all t hs).trans (ofFnP fun i => t.getD i undef))
theorem results_bool {fn : Func} (h : fn.results = #[.cell 4 4]) (tmps : Array Value) (w : World) (g : Nat) (v : Value) (hp : tmps[4]?.getD undef = .pointer (some ⟨g, 0, none⟩)) (hg : Cb w g #[v] 4) : (results fn tmps).run Tryz.prog w = .ok v w := by
 have c := hg.one
 simp only [results, h]
 go_simp
end Go.Proofs.YtdpohgoikbeplaaGreatDoor.Pw
