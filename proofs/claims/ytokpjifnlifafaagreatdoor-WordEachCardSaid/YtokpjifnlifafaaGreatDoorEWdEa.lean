/- WdEa: parts of the proof, joined. -/
import Derived.Test.YtokpjifnlifafaaGreatDoorEWdEdge
import Derived.Test.YtokpjifnlifafaaGreatDoorERngO
set_option maxHeartbeats 64000000
namespace Go.Proofs.YtokpjifnlifafaaGreatDoor
namespace Wd
open Go.RowKit Go.Shelf Wt
open Sg (Pl encP)
attribute [local go_sem] Oper.semAt_some
def wpG (s:List UInt8) (k:Nat):List (Nat × Nat):=Sg.byt s (Sg.pcF (wC s) (rl s).length k)
theorem wpG_step (s:List UInt8) (k:Nat) (h:k<(rl s).length):wpG s k=(pos s k,pos s (Sg.nx (wC s) (rl s).length k))::wpG s (Sg.nx (wC s) (rl s).length k):=by
 unfold wpG;rw[Sg.zdY h]
 rfl
theorem wpG_end (s:List UInt8) (k:Nat) (h:(rl s).length<=k):wpG s k=[]:=by
 unfold wpG;rw[Sg.zeH h]
 rfl
theorem weach_s (n : Nat) (hn : 1 ≤ n) (Bs : Nat) (l : List UInt8) (L : List (Pl l)) (hL : L.map Pl.v = wpF l) (w : World) (hR : WaAt Bs l w) (hl : l.length ≤ 1000000000) :
    SeqS Fence.wide n Tryz.prog 51 #[.pointer (some ⟨Bs, 0, none⟩)] encP (KrW (KW Bs)) (fun xs => xs = L) (fun pre => pre <+: L) w := fun lp J Jx W hbW hJ hJx hY h0 => by
  have HRW := hid (hR.below hbW)
  have hcW := HRW.out.bs.cell
  have HLL := hid (show L.map Pl.v = wpG l 0 from hL)
  clear hR hbW hL
  refine callsIn_of_wp Tryz.func51 rfl trivial ?_ rfl
  simp only [Tryz.ntmps51, List.size_toArray, List.length_cons, List.length_nil, Nat.reduceAdd, Nat.reduceSub, Array.replicate_succ, Array.replicate_zero, List.push_toArray, List.append_toArray, List.nil_append, List.cons_append]
  gi_wp2
  gi_loopw [3] (fun v wr => ∃ (p k : Nat) (pre rest : List (Pl l)), v = .int .i64 p ∧ Hid (p = pos l k) ∧ Hid (k ≤ (rl l).length) ∧ Hid (k = (rl l).length ∨ k = 0 ∨ wC l k = true) ∧ Hid (rest.map Pl.v = wpG l k) ∧ Hid (L = pre ++ rest) ∧ Hid (J pre wr) ∧ Hid (WaAt Bs l wr)) (fun v _ => l.length - (intOf v).toNat)
  case atStart => exact ⟨0, 0, [], L, rfl, rfl, Nat.zero_le _, hid (.inr (.inl rfl)), HLL, rfl, h0, HRW⟩
  case round =>
    obtain ⟨p, k, pre, rest, rfl, HPK, HKN, HKB, HC, HP, HJ, HR⟩ := hrel
    clear hcW
    have hc := HR.out.bs.cell
    by_cases hlt : p < l.length
    · have hlti : (p : Int) < (l.length : Int) := by omega
      have hkn : k < (rl l).length := by
        rcases Nat.lt_or_ge k (rl l).length with h | h
        · exact h
        · have h1 := HPK.out; rw [zcL l k h] at h1; omega
      have HDN := hid (zaL l p hlt)
      have HDL := hid (show (l.drop p).length ≤ 1000000000 by rw [List.length_drop]; omega)
      have hnx := wnx_nx l k hkn (by rcases HKB.out with h | h; · omega
                                     · exact h)
      rw [← HPK.out] at hnx
      have hnl := Sg.nx_le (C := wC l) hkn
      have HNL := hid hnl
      have HNB := hid (show Sg.nx (wC l) (rl l).length k = (rl l).length ∨ Sg.nx (wC l) (rl l).length k = 0 ∨ wC l (Sg.nx (wC l) (rl l).length k) = true by
        rcases Sg.nx_yes (C := wC l) hkn with h | h
        · exact .inl h
        · exact .inr (.inr h))
      have hb1 : p < pos l (Sg.nx (wC l) (rl l).length k) := by
        rw [HPK.out]
        exact Sg.pos_inc l (Sg.nx_gt (wC l) (rl l).length k) hnl
      have hb2 := pos_le l _ hnl
      have hx := HC.out
      rw [wpG_step l k hkn] at hx
      obtain ⟨x, R, rfl⟩ : ∃ x R, rest = x :: R := by
        cases rest with
        | nil => cases hx
        | cons x R => exact ⟨x, R, rfl⟩
      rw [List.map_cons] at hx
      have HX := hid (List.cons.inj hx).1
      have HRR := hid (List.cons.inj hx).2
      rw [← HPK.out] at HX
      clear hx HC hkn hnl
      obtain ⟨t, ht⟩ : ∃ t, t = pos l (Sg.nx (wC l) (rl l).length k) := ⟨_, rfl⟩
      have HT := hid ht
      rw [← ht] at hb1 hb2 HX hnx
      gi_wp2_with fail
      rw [ext_drop]
      refine ⟨trivial, (callsIn_wide.2 (wnext_any (l.drop p) wr HR.out.tb HDN.out HDL.out)).mono ?_⟩
      rintro e w1 ⟨rfl, be1⟩
      have HJ1 := hid (hJ pre wr w1 none HJ.out (wgrown be1) (fun r e => by cases e))
      have HR1 := hid (HR.out.below be1)
      obtain ⟨q, hq⟩ : ∃ q, q = wnx (l.drop p) := ⟨_, rfl⟩
      rw [← hq] at hnx ⊢
      clear be1 hq ht HJ HR hc
      subst hnx
      have HP2 := hid (show L = (pre ++ [x]) ++ R by rw [HP.out, List.append_assoc]; rfl)
      obtain ⟨fn, tmps, assign, body, hy, hRR⟩ := hY pre x w1 HJ1.out ⟨R, by rw [HP2.out]⟩
      dsimp only [encP] at hy
      rw [HX.out] at hy
      simp only [Int.natCast_add] at hy
      clear hY
      gi_wp2
      refine hRR.mono ?_
      rintro e W3 ⟨_, (⟨rfl, hJ3, hk3⟩ | ⟨rfl, hJx3⟩)⟩
      · have HJ3 := hid hJ3
        have HR3 := hid (HR1.out.keeps hk3.1.size hk3.2)
        clear hJ3 hk3
        gi_wp2
        go_roundw
        case rel => exact ⟨p + q, Sg.nx (wC l) (rl l).length k, pre ++ [x], R, by rw [Int.natCast_add], HT, HNL, HNB, HRR, HP2, HJ3, HR3⟩
        case measure => simp [intOf]; omega
      · have HJX := hid hJx3
        clear hJx3
        gi_wp2
        refine bodyPost_ret (results_none rfl _ _ _) rfl ?_
        exact ⟨⟨_, rfl⟩, .inr ⟨pre ++ [x], ⟨R, by rw [HP2.out]⟩, HJX.out⟩⟩
    · have hlti : ¬ (p : Int) < (l.length : Int) := by omega
      have HE := hid (show L = pre by
        have hkn : (rl l).length ≤ k := by
          rcases Nat.lt_or_ge k (rl l).length with h | h
          · have := pos_end l k h
            have := HPK.out
            omega
          · exact h
        have h1 := HC.out
        rw [wpG_end l k hkn] at h1
        rw [HP.out, List.map_eq_nil_iff.1 h1, List.append_nil])
      gi_wp2
      go_end0
      exact ⟨⟨_, rfl⟩, .inl (by rw [HE.out]; exact HJ.out)⟩
theorem wchn_at {p e:Nat} {P:List (Nat × Nat)} (h:Br.Chn p e P):∀(k:Nat) (x:Nat × Nat),P[k]? =some x->(Br.bds p P)[k]? =some x.1/\(Br.bds p P)[k+1]? =some x.2:=by
 induction h with
 | nil=>intro k x hx;simp at hx
 | @cons p t e P k1 k2 ih=>
  intro k x hx;rw[Br.bds_cons]
  cases k with
  | zero=>
   simp only[List.getElem?_cons_zero,Option.some.injEq] at hx
   subst hx;exact⟨rfl,rfl⟩
  | succ k=>
   rw[List.getElem?_cons_succ] at hx;have:=ih k x hx;exact⟨by rw[List.getElem?_cons_succ];exact this.1,by rw[List.getElem?_cons_succ];exact this.2⟩
theorem wchn_last {p e:Nat} {P:List (Nat × Nat)} (h:Br.Chn p e P):(Br.bds p P)[P.length]? =some e:=by
 induction h with
 | nil=>rfl
 | cons h1 _ ih=>rw[Br.bds_cons,List.length_cons,List.getElem?_cons_succ];exact ih
theorem wpw_facts (l:List UInt8):∃L:List (Pl l),L.map Pl.v=wpF l/\(∀k x,L[k]? =some x->(wbs' l)[k]? =some x.v.1/\(wbs' l)[k+1]? =some x.v.2/\x.v.1<x.v.2)∧
  (wbs' l).length - 1=L.length/\(wbs' l).getD 0 0=0/\(wbs' l).getD L.length 0=l.length:=by
 obtain⟨L,hL⟩:=Sg.pl_all l _ _ (wp_ch0 l);have hlen:L.length=(wpF l).length:=by rw[<- hL,List.length_map]
 by_cases hne:l=[]
 ·have h0:wpF l=[]:=by
   have h:=wp_ch0 l;rw[show l.length=0 by rw[hne];rfl] at h
   cases hw:wpF l with
   | nil=>rfl
   | cons x P=>
    rw[hw] at h;obtain⟨f,t⟩:=x;have:=h.mem (List.mem_cons_self ..);omega
  rw[h0] at hlen;have e:wbs' l=[]:=if_pos hne;rw[e];refine⟨L,hL,fun k x hx=>?_,hlen.symm,rfl,by rw[hlen,hne];rfl⟩
  have:=(List.getElem?_eq_some_iff.1 hx).1;rw[hlen] at this
  simp at this
 ·have e:wbs' l=wbd l:=if_neg hne
  rw[e];refine⟨L,hL,fun k x hx=>?_,by unfold wbd Br.bds;simp;exact hlen.symm,rfl,?_⟩
  ·have hm:(wpF l)[k]? =some x.v:=by rw[<- hL,List.getElem?_map,hx];rfl
   obtain⟨h1,h2⟩:=wchn_at (wp_ch0 l) k x.v hm;exact⟨h1,h2,((wp_ch0 l).mem (List.mem_of_getElem? hm)).2.1⟩
  ·rw[List.getD_eq_getElem?_getD,hlen]
   have:=wchn_last (wp_ch0 l);unfold wbd;rw[this];rfl
end Wd
end Go.Proofs.YtokpjifnlifafaaGreatDoor
