/- PtEv, PtLine2, PtLine3, PtPs, PtRunLi0, PtLiR, PtRest, PtRunLi1, PtRunLi2, PtRunLi3, PtRunLi4, PtRunLi5: parts of the proof, joined. -/
import Derived.Test.YtbbapnpdfcgjnaaGreatDoorESdSome
import Derived.Test.YtbbapnpdfcgjnaaGreatDoorEPtBas
open Go renaming cell_of_row->sR, World->sT, Value->sU, frozen_of_row->sV, heap_setCell_same->sW, Calls->sX, FuncId->tK
open Go.World renaming cell?_of_block->sS, block_lt_of_cell?->tC
open List renaming getElem?_eq_getElem->sY, getElem?_eq_some_iff->tc, length_pos_iff->tf, getElem?_take_of_lt->tg, getElem?_append_right->tt, getElem?_append_left->tu, getLast?_eq_getElem?->tw, head?_eq_getElem?->tD, getElem?_drop->tG, drop_zero->tM
open Nat renaming lt_of_lt_of_le->sZ, le_of_ble_eq_true->te, beq->ti, le_refl->tF, le_trans->tI, ble->tN
open Bool renaming and_eq_true->ta
open Go.Value renaming slice->td, bool->tH
open Go.IntKind renaming signed->tj, wrap->tp, bits->tq, i64->tz
open Go.NoPanic renaming normal->tk
open And renaming intro->tn
open Go.RowKit renaming Below->tr
open Array renaming toList_inj->tA
open UInt8 renaming toNat_inj->tE
set_option maxHeartbeats 64000000
namespace Go.Proofs.YtbbapnpdfcgjnaaGreatDoor
section
open Ev Go.RowKit
namespace Pt
structure Oth(g:Nat)(w w':sT):Prop where
 os:w'.os=w.os
 tape:w'.tape=w.tape
 output:w'.output=w.output
 size:w.heap.size<=w'.heap.size
 block:∀b,b<w.heap.size->b≠g->w'.heap[b]?=w.heap[b]?
theorem Oth.trans{g:Nat}{w v u:sT}(h:Oth g w v)(k:Oth g v u):Oth g w u:=⟨k.os.trans h.os,k.tape.trans h.tape,k.output.trans h.output,tI h.size k.size,fun b hb hne=>(k.block b (sZ hb h.size) hne).trans (h.block b hb hne)⟩
theorem Oth.of{g:Nat}{w w':sT}(h:tr w.heap.size w w'):Oth g w w':=⟨h.os,h.tape,h.output,h.size,fun b hb _=>h.block b hb⟩
theorem Oth.below{g B:Nat}{w w':sT}(h:Oth g w w')(hB:B<=w.heap.size)(hg:B<=g):tr B w w':=⟨h.os,h.tape,h.output,h.size,fun b hb=>h.block b (by omega) (by omega)⟩
def RdIx(w:sT)(ao:Option Addr)(l:List Int):Prop:=∀(k:Nat)(z:Int),l[k]?=some z->∃b o c fr,ao=some ⟨b,o,none⟩/\w.heap[b]?=some (.cells c 3 fr)/\c[o+k]?=some (.int .i64 z)
mutual
def bZ(w:sT):az->sU->sU->sU->Prop
 | .mk op cls kids,v0,v1,v2=>v0=.int .i64 op/\(∃co cc,v1=.slice co cls.length cc/\RdIx w co cls/\cls.length<=1000000)/\(∃ko kc,v2=.slice ko kids.length kc/\gW w kids ko 0/\kids.length<=1000000/\kids.length<=kc)
def gW(w:sT):List az->Option Addr->Nat->Prop
 |[],_,_=>True
 |p::ps,ko,i=>(∃b o c fr,ko=some ⟨b,o,none⟩/\w.heap[b]?=some (.cells c 105 fr)/\∃v0 v1 v2,c[o+i*3]?=some v0/\c[o+i*3+1]?=some v1/\c[o+i*3+2]?=some v2/\bZ w p v0 v1 v2)/\gW w ps ko (i+1)
end
def KtP(w w':sT):Prop:=∀(b:Nat)(c:Array sU)(t:TypeId)(fr:Nat×Nat),w.heap[b]?=some (.cells c t fr)->(t=3\/t=105)->w'.heap[b]?=some (.cells c t fr)
theorem KtP.of{w w':sT}(h:tr w.heap.size w w'):KtP w w':=fun b _ _ _ hb _=>(h.block b (ag hb)).trans hb
mutual
theorem bZ.to{w:sT}:∀(p:az)(v0 v1 v2:sU),bZ w p v0 v1 v2->cC w p v0 v1 v2
 | .mk op cls kids,v0,v1,v2,h=>by
  unfold bZ at h;unfold cC;obtain⟨h1,⟨co,cc,h2,h3,h4⟩,ko,kc,h5,h6,h7⟩:=h;refine⟨h1,⟨co,cc,h2,fun k z hk=>?_,h4⟩,ko,kc,h5,gW.to kids ko 0 h6,h7⟩
  obtain⟨b,o,c,fr,a1,a2,a3⟩:=h3 k z hk;exact⟨_,a1,ag a2,by rw[Addr.add_lit,sR w b _ c _ _ a2];exact a3⟩
theorem gW.to{w:sT}:∀(ps:List az)(ko:Option Addr)(i:Nat),gW w ps ko i->gz w ps ko i
 |[],_,_,_=>by unfold gz;trivial
 |p::ps,ko,i,h=>by
  unfold gW at h;unfold gz;obtain⟨⟨b,o,c,fr,h1,h2,v0,v1,v2,h3,h4,h5,h6⟩,h7⟩:=h;exact⟨⟨b,o,h1,ag h2,v0,v1,v2,by rw[sR w b _ c _ _ h2];exact h3,by rw[sR w b _ c _ _ h2];exact h4,by rw[sR w b _ c _ _ h2];exact h5,bZ.to p _ _ _ h6⟩,gW.to ps ko (i+1) h7⟩
end
mutual
theorem bZ.kt{w w':sT}(ho:KtP w w'):∀(p:az)(v0 v1 v2:sU),bZ w p v0 v1 v2->bZ w' p v0 v1 v2
 | .mk op cls kids,v0,v1,v2,h=>by
  unfold bZ at h⊢;obtain⟨h1,⟨co,cc,h2,h3,h4⟩,ko,kc,h5,h6,h7⟩:=h;refine⟨h1,⟨co,cc,h2,fun k z hk=>?_,h4⟩,ko,kc,h5,gW.kt ho kids ko 0 h6,h7⟩
  obtain⟨b,o,c,fr,a1,a2,a3⟩:=h3 k z hk;exact⟨b,o,c,fr,a1,ho b c _ fr a2 (.inl rfl),a3⟩
theorem gW.kt{w w':sT}(ho:KtP w w'):∀(ps:List az)(ko:Option Addr)(i:Nat),gW w ps ko i->gW w' ps ko i
 |[],_,_,_=>by unfold gW;trivial
 |p::ps,ko,i,h=>by
  unfold gW at h⊢;obtain⟨⟨b,o,c,fr,h1,h2,v0,v1,v2,h3,h4,h5,h6⟩,h7⟩:=h;exact⟨⟨b,o,c,fr,h1,ho b c _ fr h2 (.inr rfl),v0,v1,v2,h3,h4,h5,bZ.kt ho p _ _ _ h6⟩,gW.kt ho ps ko (i+1) h7⟩
end
noncomputable def zhu(A:AW)(u:sU)(n:Nat)(es t:Nat)(k:List sU->Bool):Bool:=match u with
 | .slice none m _=>ti m n&&ti n 0
 | .slice (some a) m c=>ti m n&&(tN n c&&match n with
  |0=>true
  |_=>match A.get a.block with
   |some (.cells vs t' _ _ _)=>ti t' t&&(tN (a.off+n*es) vs.length)&&k (vs.drop a.off)
   |_=>false)
 |_=>false
theorem zcq{A:AW}{μ:Mu}{w:sT}{u v:sU}{n es t:Nat}{k:List sU->Bool}(h:zhu A u n es t k=true)(W:WR μ A w)(hv:VR μ u v):
  ∃vo vc,v=.slice vo n vc/\n<=vc/\(n=0\/∃b o c fr us,vo=some ⟨b,o,none⟩/\w.heap[b]?=some (.cells c t fr)/\(∃i oi li,A.get i=some oi/\μ i=some li/\li.b=b)/\k us=true/\n*es<=us.length/\∀(j:Nat)(x:sU),us[j]?=some x->∃y,c[o+j]?=some y/\VR μ x y):=by
 unfold zhu at h
 split at h
 ·rename_i m c
  simp only[ta]at h
  have e1:=dS h.1;have e2:=dS h.2;subst e1
  simp only[VR]at hv
  exact⟨none,c,hv,by omega,.inl e2⟩
 ·rename_i a m c
  simp only[ta]at h
  have e1:=dS h.1;subst e1
  simp only[VR]at hv
  obtain⟨a',c',rfl,hs⟩:=hv;have h20:=h.2;refine⟨some a',c',rfl,?_,?_⟩
  ·rcases hs with ⟨_,h3,_⟩|⟨_,h3⟩
   ·rw[h3];exact te h20.1
   ·rcases h3 with ⟨h3,_⟩|⟨_,h4,_⟩
    ·omega
    ·exact h4
  by_cases hm:m=0
  ·exact .inl hm
  obtain⟨q,rfl⟩:∃q,m=q+1:=⟨m-1,by omega⟩
  have h2:=h20.2
  simp only[]at h2
  split at h2
  ·rename_i vs t' op fz e hobj
   simp only[ta]at h2
   obtain⟨⟨e3,e4⟩,hk⟩:=h2;have e4':=te e4;have e3':=dS e3;subst e3';have hl:∃l,μ a.block=some l/\a'=⟨l.b,l.d+a.off,none⟩:=by
    rcases hs with ⟨_,_,h3,l,h4,h5⟩|⟨_,h3⟩
    ·exact⟨l,h4,h5⟩
    ·rcases h3 with ⟨h3,_⟩|⟨_,_,l,h4,h5,_⟩
     ·omega
     ·exact⟨l,h4,h5⟩
   obtain⟨l,hl1,rfl⟩:=hl;obtain⟨o',g1,c2,fr,rfl,g3,g4,g5,g6,g7,g8⟩:=W.has _ _ _ hobj hl1;refine .inr ⟨l.b,l.d+a.off,c2,fr,vs.drop a.off,rfl,g1,⟨_,_,l,hobj,hl1,rfl⟩,hk,by rw[List.length_drop];omega,fun j x hj=>?_⟩
   rw[tG]at hj;obtain⟨y,hy,hxy⟩:=g7.get hj;have hjl:=(tc.1 hj).1;rw[tg hjl,tG]at hy;refine⟨y,?_,hxy⟩;rw[<- hy]
   simp[Nat.add_assoc]
  ·cases h2
 ·cases h
def zrA(g:az->sU->sU->sU->Bool):List az->List sU->Bool
 |[],_=>true
 |p::ps,v0::v1::v2::vs=>g p v0 v1 v2&&zrA g ps vs
 |_,_=>false
noncomputable def zoP(A:AW):Nat->az->sU->sU->sU->Bool
 |0,_,_,_,_=>false
 |f+1,.mk op cls kids,u0,u1,u2=>veq u0 (.int .i64 op)&&tN cls.length 1000000&&tN kids.length 1000000&&zhu A u1 cls.length 1 3 (fun vs=>qw (vs.take cls.length) (cls.map fun z=>.int .i64 z))&&zhu A u2 kids.length 3 105 (zrA (zoP A f) kids)
theorem ziN{g:az->sU->sU->sU->Bool}{w:sT}{μ:Mu}{b o:Nat}{c:Array sU}{fr:Nat×Nat}(hb:w.heap[b]?=some (.cells c 105 fr)):∀(ps:List az)(i:Nat)(us:List sU),(∀p∈ps,∀u0 u1 u2 v0 v1 v2,g p u0 u1 u2=true->VR μ u0 v0->VR μ u1 v1->VR μ u2 v2->bZ w p v0 v1 v2)->zrA g ps us=true->
  (∀(j:Nat)(x:sU),us[j]?=some x->∃y,c[o+i*3+j]?=some y/\VR μ x y)->gW w ps (some ⟨b,o,none⟩) i
 |[],i,us,_,_,_=>by unfold gW;trivial
 |p::ps,i,us,hg,h,hc=>by
  match us,h with
  |v0::v1::v2::vs,h=>
   simp only[zrA,ta]at h
   unfold gW;obtain⟨y0,c0,r0⟩:=hc 0 v0 rfl;obtain⟨y1,c1,r1⟩:=hc 1 v1 rfl;obtain⟨y2,c2,r2⟩:=hc 2 v2 rfl;refine⟨⟨b,o,c,fr,rfl,hb,y0,y1,y2,c0,c1,c2,hg p (List.mem_cons_self ..) _ _ _ _ _ _ h.1 r0 r1 r2⟩,ziN hb ps (i+1) vs (fun q hq=>hg q (List.mem_cons_of_mem _ hq)) h.2 fun j x hj=>?_⟩
   obtain⟨y,h1,h2⟩:=hc (j+3) x (by simpa using hj)
   refine⟨y,?_,h2⟩;rw[show o+(i+1)*3+j=o+i*3+(j+3) by omega]
   exact h1
theorem ziF{A:AW}{μ:Mu}{w:sT}(W:WR μ A w):∀(f:Nat)(p:az)(u0 u1 u2 v0 v1 v2:sU),zoP A f p u0 u1 u2=true->VR μ u0 v0->VR μ u1 v1->VR μ u2 v2->bZ w p v0 v1 v2
 |0,_,_,_,_,_,_,_,h,_,_,_=>by simp[zoP]at h
 |f+1,.mk op cls kids,u0,u1,u2,v0,v1,v2,h,r0,r1,r2=>by
  simp only[zoP,ta]at h
  obtain⟨⟨⟨⟨h1,h2⟩,h3⟩,h4⟩,h5⟩:=h;have e0:=lS h1;subst e0;unfold bZ;refine⟨by simpa[VR]using r0,?_,?_⟩
  ·obtain⟨vo,vc,e1,_,e2⟩:=zcq h4 W r1
   refine⟨vo,vc,e1,fun k z hk=>?_,te h2⟩
   have hkl:=(tc.1 hk).1
   rcases e2 with e2|⟨b,o,c,fr,us,rfl,hb,_,hv,hn,hc⟩
   ·omega
   ·have e3:=fe hv
    have e4:us[k]?=some (.int .i64 z):=by
     have:(us.take cls.length)[k]?=some (.int .i64 z):=by rw[e3,List.getElem?_map,hk];rfl
     rwa [tg hkl]at this
    obtain⟨y,hy,hr⟩:=hc k _ e4
    simp only[VR]at hr
    subst hr;exact⟨b,o,c,fr,rfl,hb,hy⟩
  ·obtain⟨vo,vc,e1,e9,e2⟩:=zcq h5 W r2
   refine⟨vo,vc,e1,?_,te h3,e9⟩
   rcases e2 with e2|⟨b,o,c,fr,us,rfl,hb,_,hv,hn,hc⟩
   ·rw[List.length_eq_zero_iff.1 e2];unfold gW;trivial
   ·exact ziN hb kids 0 us (fun p _ u0 u1 u2 v0 v1 v2 hp a0 a1 a2=>ziF W f p u0 u1 u2 v0 v1 v2 hp a0 a1 a2) hv (by simpa using hc)
noncomputable def nmO(vs:List sU):bw:=.cells vs 9 true none 1
noncomputable def nmA(vs:List sU):AW:=(⟨[],.nil,ng⟩:AW).push (nmO vs)
theorem nW{vs:List sU}{i:Nat}{o:bw}(h:(nmA vs).get i=some o):i=ng/\o=nmO vs:=by
 unfold nmA at h;rw[AW.get_push]at h
 split at h
 ·rename_i e;exact⟨e,(Option.some.inj h).symm⟩
 ·exfalso
  have h':(Tr.nil:Tr bw).get i=some o:=h;rw[Tr.get_nil]at h'
  cases h'
theorem fg:mu0 ng=none:=rfl
theorem znV{i:Nat}(h:ng<i):iB i=none:=by
 cases hg:iB i with
 |none=>rfl
 |some s=>exact absurd (zih hg) (by omega)
theorem zmc{w:sT}{vs:List sU}{l:Ev.qs}{o':Obj}(hf:bF vs=true)(hh:w.heap[l.b]?=some o')(μ:Mu)(ho:OR μ l (nmO vs) o'):WR (mu0.add ng l) (nmA vs) w:=by
 refine⟨fun i o li hi hl=>?_,fun i j oi oj li lj hi hj _ _ _=>?_,fun i hi=>?_⟩
 ·obtain⟨rfl,rfl⟩:=nW hi
  rw[Mu.add_get fg]at hl
  cases hl
  refine⟨o',hh,?_⟩
  simp only[nmO,OR]at ho⊢
  obtain⟨c,fr,h1,h2,h3,h4,h5,h6,h7⟩:=ho;refine⟨c,fr,h1,h2,h3,h4,h5,?_,h7⟩;rw[bN hf h6];exact bv hf
 ·rw[(nW hi).1,(nW hj).1]
 ·have h1:(nmA vs).next=ng+1:=rfl
  rw[Mu.add_ne (by omega)]
  show(iB i).map (fun s=>(⟨i,0,s.1,s.2⟩:Ev.qs))=none
  rw[znV (by omega)]
  rfl
theorem zfE{w w':sT}{vs:List sU}{l:Ev.qs}{μ:Mu}{A':AW}(E:bG (mu0.add ng l) (nmA vs) w μ A' w'):Oth l.b w w':=⟨E.os,E.tape,E.output,E.size,fun b hb hne=>E.stay b hb fun i o li hi hl=>by
 obtain⟨rfl,rfl⟩:=nW hi;rw[Mu.add_get fg]at hl
 cases hl
 exact fun e=>hne e.symm⟩
theorem zsX{w w':sT}{A:AW}{μ:Mu}{l:Ev.qs}{o':Obj}{o:bw}(W:WR μ A w)(hO:Oth l.b w w')(hA:A.get ng=some o)(hl:μ ng=some l)(h1:w'.heap[l.b]?=some o')(h2:OR μ l o o'):WR μ A w'/\bG μ A w μ A w':=by
 refine⟨⟨fun i oi li hi hli=>?_,W.inj,W.dom⟩,Le.refl _,hO.size,hO.tape,hO.os,hO.output,fun b hb hne=>hO.block b hb fun e=>hne ng o l hA hl e.symm,fun i oi li hi hli=>.inr ⟨i,oi,li,hi,hli,rfl⟩,tF _,fun _ _=>rfl⟩
 by_cases e:i=ng
 ·subst e
  rw[hA]at hi
  cases hi
  rw[hl]at hli
  cases hli
  exact⟨o',h1,h2⟩
 ·obtain⟨o2,h3,h4⟩:=W.has i oi li hi hli
  refine⟨o2,?_,h4⟩;rw[hO.block li.b (W.lt hi hli) fun e2=>e (W.inj i ng oi o li l hi hA hli hl e2)]
  exact h3
noncomputable def nmV(n:Nat):sU:=.slice (some ⟨ng,0,none⟩) n oI
noncomputable def zvW(vs:List sU):Except String (AE×AW)->Bool
 | .ok (.ret u,A)=>veq u (.bool true)&&(match A.get ng with
  |some o=>iq o (nmO vs)
  |none=>false)
 |_=>false
noncomputable def zlv(call:aJ)(f:tK)(vs:List sU):Bool:=zvW vs (call false f [nmV vs.length] (nmA vs))
noncomputable def ovN(f0:tK)(vs:List sU):OvT:=fun f args A=>bif ti f f0 then (match args with
 |[.slice (some ⟨b,0,none⟩) n c]=>bif ti b ng&&ti n vs.length&&ti c oI&&(match A.get ng with
  |some o=>iq o (nmO vs)
  |none=>false)then some (.bool true,A)else none
 |_=>none)else none
theorem zsW{P:Program}{call:aJ}{f0:tK}{vs:List sU}(hcall:bC P call)(hf:bF vs=true)(hn:vs.length≠0)(h:zlv call f0 vs=true):zwd P (ovN f0 vs):=by
 intro f args A v A' ho μ w args' W hargs;unfold ovN at ho
 cases hb:ti f f0 with
 |false=>rw[hb]at ho;cases ho
 |true=>
  rw[hb,cond_true]at ho;have e0:=dS hb;subst e0
  split at ho
  ·rename_i b n c
   cases hc:(ti b ng&&ti n vs.length&&ti c oI&&(match A.get ng with
    |some o=>iq o (nmO vs)
    |none=>false))with
   |false=>rw[hc]at ho;cases ho
   |true=>
    rw[hc,cond_true]at ho
    cases ho
    simp only[ta]at hc
    obtain⟨⟨⟨c1,c2⟩,c3⟩,c4⟩:=hc;have e1:=dS c1;have e2:=dS c2;have e3:=dS c3;subst e1 e2 e3
    split at c4
    ·rename_i o hA
     have e4:=eM c4;subst e4
     simp only[LR]at hargs
     obtain⟨y,t,q1,hv,rfl⟩:=hargs;have e5:args'=#[y]:=tA.1 q1;subst e5;have hv':=hv
     simp only[VR]at hv
     obtain⟨a',c',rfl,hs⟩:=hv
     rcases hs with ⟨h1,_⟩|⟨_,h2⟩
     ·exact absurd rfl h1
     ·rcases h2 with ⟨h2,_⟩|⟨h3,h4,l,h5,h6,h7⟩
      ·exact absurd h2 hn
      ·simp only at h5 h6 h7
       subst h6;obtain⟨o',g1,g2⟩:=W.has ng _ l hA h5;have W0:=zmc hf g1 μ g2;unfold zlv zvW at h
       split at h
       ·rename_i u A2 hr
        rw[ta]at h;have e6:=lS h.1;subst e6;have h8:=h.2
        split at h8
        ·rename_i o2 hA2
         have e7:=eM h8;subst e7;refine(hcall.fn f _ _ _ A2 hr (mu0.add ng l) w #[.slice (some ⟨l.b,l.d+0,none⟩) vs.length c'] W0 ?_).mono fun e w' ⟨μ',he,W',E⟩=>?_
         ·simp only[LR,nmV]
          refine⟨_,[],rfl,?_,rfl⟩
          simp only[VR]
          exact⟨_,c',rfl,.inr ⟨rfl,.inr ⟨rfl,h4,l,Mu.add_get fg,rfl,h7⟩⟩⟩
         ·have hl2:μ' ng=some l:=(E.le ng l (Mu.add_get fg))
          obtain⟨o3,k1,k2⟩:=W'.has ng _ l hA2 hl2;have k3:OR μ l (nmO vs) o3:=by
           simp only[nmO,OR]at k2⊢
           obtain⟨c,fr,a1,a2,a3,a4,a5,a6,a7⟩:=k2;refine⟨c,fr,a1,a2,a3,a4,a5,?_,a7⟩;rw[bN hf a6];exact bv hf
          obtain⟨W2,E2⟩:=zsX W (zfE E) hA h5 k1 k3;refine⟨μ,?_,W2,E2⟩
          cases e with
          |returned v=>simp only[ER,VR]at he⊢;exact he
          |panicked ch=>exact he.elim
          |outgrown=>exact he.elim
        ·cases h8
       ·cases h
    ·cases c4
  ·cases ho
def aP(w:sT)(g nc:Nat)(vs:List sU):Prop:=∃cur:Array sU,w.heap[g]?=some (.cells cur 9 (0,0))/\cur.size=nc/\vs.length<=nc/\cur.toList.take vs.length=vs
theorem aP.kt{w w':sT}{g nc:Nat}{vs:List sU}(h:aP w g nc vs)(ho:Oth g w w'):KtP w w':=fun b c t fr hb ht=>by
 obtain⟨cur,h1,_⟩:=h;rw[ho.block b (ag hb) (fun e=>by
  rw[e,h1]at hb
  cases hb
  rcases ht with ht|ht<;>cases ht)]
 exact hb
noncomputable def okT(vs:List sU)(p:az):Except String (AE×AW)->Bool
 | .ok (.ret (.tuple ⟨[.agg ⟨[a,b,c]⟩,x,y]⟩),A)=>qw [x,y] [.int .i64 0,.int .i64 0]&&zoP A 20 p a b c&&(match A.get ng with
  |some o=>iq o (nmO vs)
  |none=>false)
 |_=>false
noncomputable def bp(call:aJ)(f:tK)(text:ByteArray)(vs:List sU)(p:az):Bool:=okT vs p (call false f [.string text,nmV vs.length] (nmA vs))
def dM(g nc:Nat)(vs:List sU)(w:sT)(p:az)(e:Ending)(w':sT):Prop:=∃v0 v1 v2,e=.returned (.tuple #[.agg #[v0,v1,v2],.int .i64 0,.int .i64 0])/\bZ w' p v0 v1 v2/\aP w' g nc vs/\Oth g w w'
theorem ar{P:Program}{call:aJ}{f:tK}{text:ByteArray}{vs:List sU}{p:az}(hcall:bC P call)(hf:bF vs=true)(h:bp call f text vs p=true)(g nc:Nat)(w:sT)(hN:aP w g nc vs):
  sX P f #[.string text,.slice (some ⟨g,0,none⟩) vs.length nc] w (dM g nc vs w p):=by
 obtain⟨cur,hh,hsz,hnc,ht⟩:=hN;have W0:WR (mu0.add ng ⟨g,0,nc,1⟩) (nmA vs) w:=zmc (l:=⟨g,0,nc,1⟩) hf hh mu0 (by
  unfold nmO OR;refine⟨cur,(0,0),rfl,hsz,by simpa using hnc,(fun e=>by cases e),rfl,?_,rfl⟩
  show LR mu0 vs ((cur.toList.drop 0).take vs.length)
  rw[tM,ht];exact bv hf)
 unfold bp okT at h
 split at h
 ·rename_i a b c x y A hr
  refine(hcall.fn f _ _ _ A hr _ w #[.string text,.slice (some ⟨g,0,none⟩) vs.length nc] W0 ?_).mono fun e w' ⟨μ',he,W',E⟩=>?_
  ·simp only[LR,nmV]
   refine⟨_,[.slice (some ⟨g,0,none⟩) vs.length nc],rfl,by simp[VR],_,[],rfl,?_,rfl⟩
   simp only[VR]
   exact⟨_,nc,rfl,.inr ⟨rfl,.inr ⟨rfl,hnc,⟨g,0,nc,1⟩,Mu.add_get fg,rfl,by simp⟩⟩⟩
  ·simp only[ta]at h
   obtain⟨⟨h1,h2⟩,h3⟩:=h
   split at h3
   ·rename_i o2 hA2
    have e7:=eM h3;subst e7;have hl2:μ' ng=some ⟨g,0,nc,1⟩:=E.le ng _ (Mu.add_get fg);have e1:=fe h1
    simp only[List.cons.injEq,and_true]at e1
    obtain⟨rfl,rfl⟩:=e1
    cases e with
    |returned v=>
     simp only[ER,VR]at he
     obtain⟨ys,rfl,hl⟩:=he
     simp only[LR]at hl
     obtain⟨y1,t1,q1,⟨zs,rfl,hz⟩,y2,t2,rfl,h8,y3,t3,rfl,h9,rfl⟩:=hl
     simp only[VR]at h8 h9
     subst h8 h9
     simp only[LR]at hz
     obtain⟨z1,s1,p1,r1,z2,s2,rfl,r2,z3,s3,rfl,r3,rfl⟩:=hz;have e2:zs=#[z1,z2,z3]:=tA.1 p1;subst e2;have e3:ys=#[.agg #[z1,z2,z3],.int .i64 0,.int .i64 0]:=tA.1 q1;subst e3;obtain⟨o3,k1,k2⟩:=W'.has ng _ _ hA2 hl2;refine⟨z1,z2,z3,rfl,ziF W' 20 p _ _ _ _ _ _ h2 r1 r2 r3,?_,zfE E⟩
     simp only[nmO,OR]at k2
     obtain⟨c2,fr,rfl,a2,a3,a4,a5,a6,a7⟩:=k2
     simp only[FZ]at a7
     subst a7;refine⟨c2,k1,a2,hnc,?_⟩;have:=bN hf a6
     simpa using this
    |panicked ch=>exact he.elim
    |outgrown=>exact he.elim
   ·cases h3
 ·cases h
theorem zmi{P:Program}{call:aJ}{f:tK}{vs:List sU}(hcall:bC P call)(hf:bF vs=true)(h:zlv call f vs=true)(g nc:Nat)(w:sT)(hN:aP w g nc vs):
  sX P f #[.slice (some ⟨g,0,none⟩) vs.length nc] w fun e w'=>e=.returned (.bool true)/\aP w' g nc vs/\Oth g w w':=by
 obtain⟨cur,hh,hsz,hnc,ht⟩:=hN;have W0:WR (mu0.add ng ⟨g,0,nc,1⟩) (nmA vs) w:=zmc (l:=⟨g,0,nc,1⟩) hf hh mu0 (by
  unfold nmO OR;refine⟨cur,(0,0),rfl,hsz,by simpa using hnc,(fun e=>by cases e),rfl,?_,rfl⟩
  show LR mu0 vs ((cur.toList.drop 0).take vs.length)
  rw[tM,ht];exact bv hf)
 unfold zlv zvW at h
 split at h
 ·rename_i u A hr
  refine(hcall.fn f _ _ _ A hr _ w #[.slice (some ⟨g,0,none⟩) vs.length nc] W0 ?_).mono fun e w' ⟨μ',he,W',E⟩=>?_
  ·simp only[LR,nmV]
   refine⟨_,[],rfl,?_,rfl⟩
   simp only[VR]
   exact⟨_,nc,rfl,.inr ⟨rfl,.inr ⟨rfl,hnc,⟨g,0,nc,1⟩,Mu.add_get fg,rfl,by simp⟩⟩⟩
  ·simp only[ta]at h
   obtain⟨h1,h3⟩:=h
   split at h3
   ·rename_i o2 hA2
    have e7:=eM h3;subst e7;have e8:=lS h1;subst e8;have hl2:μ' ng=some ⟨g,0,nc,1⟩:=E.le ng _ (Mu.add_get fg)
    cases e with
    |returned v=>
     simp only[ER,VR]at he
     subst he;obtain⟨o3,k1,k2⟩:=W'.has ng _ _ hA2 hl2;refine⟨rfl,?_,zfE E⟩
     simp only[nmO,OR]at k2
     obtain⟨c2,fr,rfl,a2,a3,a4,a5,a6,a7⟩:=k2
     simp only[FZ]at a7
     subst a7;refine⟨c2,k1,a2,hnc,?_⟩;have:=bN hf a6
     simpa using this
    |panicked ch=>exact he.elim
    |outgrown=>exact he.elim
   ·cases h3
 ·cases h
def zpq(B:Nat)(w:sT)(ao:Option Addr)(ls:List (List UInt8)):Prop:=∀(j:Nat)(s:List UInt8),ls[j]?=some s->∃b o c fr,ao=some ⟨b,o,none⟩/\B<=b/\w.heap[b]?=some (.cells c 9 fr)/\c[o+j]?=some (.string ⟨s.toArray⟩)
end Pt
end
section
open Ev Go.RowKit
namespace Pt
def RlX(w:sT)(rs:List Rl)(xs:List sU):Prop:=∀(j:Nat)(r:Rl),rs[j]?=some r->∃l0 l1 l2 r0 r1 r2,xs[j*9]?=some (.bool r.brk)/\xs[j*9+1]?=some (.bool r.st)/\xs[j*9+2]?=some (.bool r.en)∧
 xs[j*9+3]?=some l0/\xs[j*9+4]?=some l1/\xs[j*9+5]?=some l2/\xs[j*9+6]?=some r0/\xs[j*9+7]?=some r1/\xs[j*9+8]?=some r2/\bZ w r.left l0 l1 l2/\bZ w r.right r0 r1 r2
theorem RlX.kt{w w':sT}{rs:List Rl}{xs:List sU}(h:RlX w rs xs)(ho:KtP w w'):RlX w' rs xs:=fun j r hj=>by
 obtain⟨l0,l1,l2,r0,r1,r2,a0,a1,a2,a3,a4,a5,a6,a7,a8,p1,p2⟩:=h j r hj;exact⟨l0,l1,l2,r0,r1,r2,a0,a1,a2,a3,a4,a5,a6,a7,a8,bZ.kt ho _ _ _ _ p1,bZ.kt ho _ _ _ _ p2⟩
structure dk(B:Nat)(w:sT)(X g nc:Nat)(vs:List sU)(vo:Option Addr)(n vc:Nat)(rs:List Rl)(xs:List sU)(rest rested:Bool):Prop where
 at_:w.heap[X]?=some (.cells #[.slice (some ⟨g,0,none⟩) vs.length nc,.slice vo n vc,.bool rest,.bool rested] 87 (0,0))
 nm:aP w g nc vs
 own:w.ownsRow B 107 9 (.slice vo n vc) n xs
 rul:RlX w rs xs
 hn:n=rs.length
 lx:B<=X
 lg:g<B
theorem dk.oth{B:Nat}{w w':sT}{X g nc:Nat}{vs:List sU}{vo:Option Addr}{n vc:Nat}{rs:List Rl}{xs:List sU}{rest rested:Bool}(h:dk B w X g nc vs vo n vc rs xs rest rested)(ho:Oth g w w')(hN:aP w' g nc vs):dk B w' X g nc vs vo n vc rs xs rest rested:=by
 have:=h.lx;have:=h.lg;refine⟨(ho.block X (ag h.at_) (by omega)).trans h.at_,hN,⟨h.own.1,h.own.2.imp (fun e=>e) fun⟨q,cap,cur,a1,a2,a3,a4⟩=>⟨q,cap,cur,a1,a2,(ho.block q (ag a3) (by omega)).trans a3,a4⟩⟩,h.rul.kt (h.nm.kt ho),h.hn,h.lx,h.lg⟩
theorem aP.below{w w':sT}{g nc:Nat}{vs:List sU}(h:aP w g nc vs)(hb:tr w.heap.size w w'):aP w' g nc vs:=by
 obtain⟨cur,h1,h2⟩:=h;exact⟨cur,(hb.block g (ag h1)).trans h1,h2⟩
theorem dk.below{B:Nat}{w w':sT}{X g nc:Nat}{vs:List sU}{vo:Option Addr}{n vc:Nat}{rs:List Rl}{xs:List sU}{rest rested:Bool}(h:dk B w X g nc vs vo n vc rs xs rest rested)(hb:tr w.heap.size w w'):dk B w' X g nc vs vo n vc rs xs rest rested:=h.oth (.of hb) (h.nm.below hb)
structure Fr(B g:Nat)(w w':sT):Prop where
 os:w'.os=w.os
 tape:w'.tape=w.tape
 output:w'.output=w.output
 size:w.heap.size<=w'.heap.size
 block:∀b,b<B->b≠g->w'.heap[b]?=w.heap[b]?
theorem Fr.trans{B g:Nat}{w v u:sT}(h:Fr B g w v)(k:Fr B g v u):Fr B g w u:=⟨k.os.trans h.os,k.tape.trans h.tape,k.output.trans h.output,tI h.size k.size,fun b hb hne=>(k.block b hb hne).trans (h.block b hb hne)⟩
theorem Fr.of{B g:Nat}{w w':sT}(h:Oth g w w')(hB:B<=w.heap.size):Fr B g w w':=⟨h.os,h.tape,h.output,h.size,fun b hb hne=>h.block b (by omega) hne⟩
def Fx(g X:Nat)(w w':sT):Prop:=∀(b:Nat)(o:Obj),w.heap[b]?=some o->b≠g->b≠X->(∀c fr,o≠ .cells c 107 fr)->w'.heap[b]?=some o
theorem Fx.trans{g X:Nat}{w v u:sT}(h:Fx g X w v)(k:Fx g X v u):Fx g X w u:=fun b o hb h1 h2 h3=>k b o (h b o hb h1 h2 h3) h1 h2 h3
theorem Fx.of{g X:Nat}{w w':sT}(h:Oth g w w'):Fx g X w w':=fun b _ hb h1 _ _=>(h.block b (ag hb) h1).trans hb
def LnQ(B:Nat)(w:sT)(X g nc:Nat)(vs:List sU)(rs:List Rl)(rest rested:Bool)(e:Ending)(w':sT):Prop:=e=.returned (.int .i64 0)/\Fr B g w w'/\Fx g X w w'/\∃vo n vc xs,dk B w' X g nc vs vo n vc rs xs rest rested
def aC(f:tK)(a v:sU):Prop:=∀W,sX Tryz.prog f #[a] W fun e w'=>e=.returned v/\tr W.heap.size W w'
theorem bZ.shape{w:sT}:∀{p:az} {v0 v1 v2:sU},bZ w p v0 v1 v2->∃(o:Int)(co:Option Addr)(cn cc:Nat)(ko:Option Addr)(kn kc:Nat),v0=.int .i64 o/\v1=.slice co cn cc/\v2=.slice ko kn kc
 | .mk op cls kids,v0,v1,v2,h=>by
  unfold bZ at h;obtain⟨h1,⟨co,cc,h2,h3,h4⟩,ko,kc,h5,h6,h7⟩:=h;exact⟨op,co,_,cc,ko,_,kc,h1,h2,h5⟩
theorem zce(w:sT)(Z:Nat)(t:TypeId)(o:Obj)(a0 a1 a2 a3 a4 a5 a6 a7 a8 b3 b4 b5 b6 b7 b8:sU)(h:w.heap[Z]?=some (.cells #[a0,a1,a2,a3,a4,a5,a6,a7,a8] t (0,0)))(w8:sT)
  (hw:w8=((((((w.setCell ⟨Z,3,none⟩ b3).setCell ⟨Z,4,none⟩ b4).setCell ⟨Z,5,none⟩ b5).setCell ⟨Z,6,none⟩ b6).setCell ⟨Z,7,none⟩ b7).setCell ⟨Z,8,none⟩ b8).alloc o):
  w8.heap[Z]?=some (.cells #[a0,a1,a2,b3,b4,b5,b6,b7,b8] t (0,0))/\(∀b,b<w.heap.size->b≠Z->w8.heap[b]?=w.heap[b]?)/\w8.heap.size=w.heap.size+1/\w8.os=w.os/\w8.tape=w.tape/\w8.output=w.output:=by
 have hz:=ag h;obtain⟨u3,e3⟩:=am (w.setCell ⟨Z,3,none⟩ b3);rw[<- e3]at hw;have k3:dm Z w u3:=by rw[e3];exact dm.set Z 3 w b3
 have h3:u3.heap[Z]?=some (.cells #[a0,a1,a2,b3,a4,a5,a6,a7,a8] t (0,0)):=by rw[e3,sW w Z 3 _ t b3 h];rfl
 obtain⟨u4,e4⟩:=am (u3.setCell ⟨Z,4,none⟩ b4);rw[<- e4]at hw;have k4:dm Z w u4:=by rw[e4];exact k3.trans (dm.set Z 4 u3 b4)
 have h4:u4.heap[Z]?=some (.cells #[a0,a1,a2,b3,b4,a5,a6,a7,a8] t (0,0)):=by rw[e4,sW u3 Z 4 _ t b4 h3];rfl
 obtain⟨u5,e5⟩:=am (u4.setCell ⟨Z,5,none⟩ b5);rw[<- e5]at hw;have k5:dm Z w u5:=by rw[e5];exact k4.trans (dm.set Z 5 u4 b5)
 have h5:u5.heap[Z]?=some (.cells #[a0,a1,a2,b3,b4,b5,a6,a7,a8] t (0,0)):=by rw[e5,sW u4 Z 5 _ t b5 h4];rfl
 obtain⟨u6,e6⟩:=am (u5.setCell ⟨Z,6,none⟩ b6);rw[<- e6]at hw;have k6:dm Z w u6:=by rw[e6];exact k5.trans (dm.set Z 6 u5 b6)
 have h6:u6.heap[Z]?=some (.cells #[a0,a1,a2,b3,b4,b5,b6,a7,a8] t (0,0)):=by rw[e6,sW u5 Z 6 _ t b6 h5];rfl
 obtain⟨u7,e7⟩:=am (u6.setCell ⟨Z,7,none⟩ b7);rw[<- e7]at hw;have k7:dm Z w u7:=by rw[e7];exact k6.trans (dm.set Z 7 u6 b7)
 have h7:u7.heap[Z]?=some (.cells #[a0,a1,a2,b3,b4,b5,b6,b7,a8] t (0,0)):=by rw[e7,sW u6 Z 7 _ t b7 h6];rfl
 obtain⟨u8,e8⟩:=am (u7.setCell ⟨Z,8,none⟩ b8);rw[<- e8]at hw;have k8:dm Z w u8:=by rw[e8];exact k7.trans (dm.set Z 8 u7 b8)
 have h8:u8.heap[Z]?=some (.cells #[a0,a1,a2,b3,b4,b5,b6,b7,b8] t (0,0)):=by rw[e8,sW u7 Z 8 _ t b8 h7];rfl
 have kb:=below_box (w:=u8) (o:=o);rw[<- hw]at kb;have hs:w8.heap.size=u8.heap.size+1:=by rw[hw];simp
 exact⟨(kb.block Z (ag h8)).trans h8,fun b hb hne=>(kb.block b (by rw[k8.size];exact hb)).trans (k8.block b hne),by rw[hs,k8.size],kb.os.trans k8.os,kb.tape.trans k8.tape,kb.output.trans k8.output⟩
theorem Tryz.infoRule:(Tryz.prog.info? 107).map (fun i=>(i.zero,i.size,i.bytes))=some (some (.agg #[.bool false,.bool false,.bool false,.int .i64 0,.slice none 0 0,.slice none 0 0,.int .i64 0,.slice none 0 0,.slice none 0 0]),9,120):=by kernel_rfl
theorem Tryz.underRules:Tryz.prog.underlying 61=some (.slice 107):=by kernel_rfl
theorem RlX.snoc{w:sT}{rs:List Rl}{xs:List sU}{r:Rl}{l0 l1 l2 r0 r1 r2:sU}(h:RlX w rs xs)(hx:xs.length=rs.length*9)(p1:bZ w r.left l0 l1 l2)(p2:bZ w r.right r0 r1 r2):RlX w (rs++[r]) (xs++[.bool r.brk,.bool r.st,.bool r.en,l0,l1,l2,r0,r1,r2]):=fun j q hj=>by
 by_cases e:j<rs.length
 ·rw[tu e]at hj
  obtain⟨k0,k1,k2,m0,m1,m2,a0,a1,a2,a3,a4,a5,a6,a7,a8,q1,q2⟩:=h j q hj;refine⟨k0,k1,k2,m0,m1,m2,?_,?_,?_,?_,?_,?_,?_,?_,?_,q1,q2⟩
  all_goals (rw[tu (by omega)];assumption)
 ·have e2:j=rs.length:=by
   have:=(tc.1 hj).1
   simp at this
   omega
  subst e2;rw[tt (tF _),Nat.sub_self]at hj
  simp at hj
  subst hj;refine⟨l0,l1,l2,r0,r1,r2,?_,?_,?_,?_,?_,?_,?_,?_,?_,p1,p2⟩
  all_goals (rw[tt (by omega)];rw[hx];simp)
theorem zrV(w:sT)(v:Array sU)(T:TypeId):∀j u,v.toList[j]?=some u->(w.alloc (.cells v T)).cell? ((⟨w.heap.size,0,none⟩:Addr).add j)=some u:=sT.news_of_block (cs:=v) (heap_alloc_new w _)
theorem dk.more{B:Nat}{w8 w9 w10 w11:sT}{X g nc:Nat}{vs:List sU}{vo:Option Addr}{n vc:Nat}{rs:List Rl}{xs ys:List sU}{rest:Bool}{r:Rl}{l0 l1 l2 r0 r1 r2:sU}{g8 c8:Nat}
  (h:dk B w8 X g nc vs vo n vc rs xs rest false) (p1:bZ w8 r.left l0 l1 l2) (p2:bZ w8 r.right r0 r1 r2) (hy:ys=[.bool r.brk,.bool r.st,.bool r.en,l0,l1,l2,r0,r1,r2]) (h9:tr w8.heap.size w8 w9) (o10:w10.ownsRow B 107 9 (.slice (some ⟨g8,0,none⟩) (n+1) c8) (n+1) (xs++ys)) (gr:sT.grownBy w9 w10 (td vo n vc).ownBlock)
  (h11:w11=w10.setCell ⟨X,1,none⟩ (.slice (some ⟨g8,0,none⟩) (n+1) c8)):dk B w11 X g nc vs (some ⟨g8,0,none⟩) (n+1) c8 (rs++[r]) (xs++ys) rest false/\Fr B g w8 w11/\Fx g X w8 w11:=by
 have lx:=h.lx;have lg:=h.lg;have hX:=ag h.at_;have ow:∀q,(td vo n vc).ownBlock=some q->B<=q/\∃cur,w8.heap[q]?=some (.cells cur 107 (0,0)):=fun q hq=>by
  rcases h.own.2 with ⟨c1,_⟩|⟨q',cap,cur,c1,c2,c3,_⟩
  ·rw[c1]at hq;cases hq
  ·rw[c1]at hq;cases hq;exact⟨c2,cur,c3⟩
 have st:∀b,b<w8.heap.size->(td vo n vc).ownBlock≠some b->w10.heap[b]?=w8.heap[b]? :=fun b hb hne=>(gr.block b (sZ hb h9.size) (fun e=>hne e.symm)).trans (h9.block b hb)
 have so:∀(b:Nat)(c:Array sU)(t:TypeId)(fr:Nat×Nat),w8.heap[b]?=some (.cells c t fr)->t≠107->w10.heap[b]?=some (.cells c t fr):=fun b c t fr hb ht=>(st b (ag hb) (fun e=>by
  obtain⟨_,cur,h3⟩:=ow b e;rw[hb]at h3
  cases h3
  exact ht rfl)).trans hb
 have X10:=so X _ _ _ h.at_ (by decide)
 have k11:dm X w10 w11:=by rw[h11];exact dm.set X 1 w10 _
 have gX:(some g8:Option Nat)≠some X:=fun e=>by
  cases e
  rcases o10.2 with ⟨c1,_⟩|⟨q',cap,cur,c1,c2,c3,_⟩
  ·cases c1
  ·cases c1
   rw[X10]at c3
   cases c3
 have kt:KtP w8 w11:=fun b c t fr hb ht=>(k11.block b (fun e=>by
  rw[e,h.at_]at hb
  cases hb
  rcases ht with ht|ht<;>cases ht)).trans (so b c t fr hb (by rcases ht with rfl|rfl<;>decide))
 have hx:xs.length=rs.length*9:=by have:=h.own.1;have:=h.hn;omega
 refine⟨⟨?_,?_,⟨o10.1,o10.2.imp (fun e=>e) fun⟨q,cap,cur,c1,c2,c3,c4⟩=>⟨q,cap,cur,c1,c2,(k11.block q (fun e=>by cases c1;exact gX (by rw[e]))).trans c3,c4⟩⟩,?_,by rw[h.hn];simp,lx,lg⟩,?_,fun b o hb h1 h2 h3=>(k11.block b h2).trans ((st b (ag hb) (fun e=>by
  obtain⟨_,cur,h4⟩:=ow b e;rw[hb]at h4
  cases h4
  exact h3 _ _ rfl)).trans hb)⟩
 ·rw[h11,sW w10 X 1 _ _ _ X10];rfl
 ·obtain⟨cur,h1,h2⟩:=h.nm
  exact⟨cur,(k11.block g (by omega)).trans (so g cur 9 (0,0) h1 (by decide)),h2⟩
 ·rw[hy]
  exact(h.rul.kt kt).snoc hx (bZ.kt kt _ _ _ _ p1) (bZ.kt kt _ _ _ _ p2)
 ·refine⟨k11.os.trans (gr.os.trans h9.os),k11.tape.trans (gr.tape.trans h9.tape),k11.output.trans (gr.output.trans h9.output),?_,fun b hb hne=>?_⟩
  ·rw[k11.size];exact tI h9.size gr.size
  ·rw[k11.block b (by omega)]
   exact st b (by omega) (fun e=>by have:=(ow b e).1;omega)
set_option maxRecDepth 100000 in
theorem aA(B X g nc:Nat)(vs:List sU)(vo:Option Addr)(n vc:Nat)(rs:List Rl)(xs:List sU)(rest:Bool)(w:sT)(s p L R:List UInt8)(k:Nat)(brk:Bool)(pl pr:az)(hX:dk B w X g nc vs vo n vc rs xs rest false)(hn9:n<=60)
  (h1:aC 103 (.string ⟨s.toArray⟩) (.string ⟨p.toArray⟩)) (h2:aC 104 (.string ⟨p.toArray⟩) (.int .i64 k)) (hk:k<p.length) (hp9:p.length<=10000) (hR8:R.length<=10000) (hb:((p[k].toNat:Int)==47)=brk)
  (h3:aC 105 (.string ((⟨p.toArray⟩:ByteArray).extract 0 k)) (.string ⟨L.toArray⟩)) (h4:aC 105 (.string ((⟨p.toArray⟩:ByteArray).extract (k+1) p.length)) (.string ⟨R.toArray⟩)) (hL:L≠ [114,101,115,116]) (hL9:L.head? ≠some 94) (hR9:R.getLast? ≠some 36)
  (h5:∀W,aP W g nc vs->sX Tryz.prog 106 #[.string ⟨L.toArray⟩,.slice (some ⟨g,0,none⟩) vs.length nc] W (dM g nc vs W pl))
  (h6:∀W,aP W g nc vs->sX Tryz.prog 106 #[.string ⟨R.toArray⟩,.slice (some ⟨g,0,none⟩) vs.length nc] W (dM g nc vs W pr)):
  sX Tryz.prog 72 #[.pointer (some ⟨X,0,none⟩),.string ⟨s.toArray⟩] w (LnQ B w X g nc vs (rs++[⟨brk,false,false,pl,pr⟩]) rest false):=by
 obtain⟨iR,hR0,hR1,hR2,hR3⟩:=info_parts Tryz.infoRule;have HIR:=aa (tn hR0 (tn hR1 (tn hR2 hR3)));clear hR0 hR1 hR2 hR3;have HX:=aa hX;have H1:=aa h1;have H2:=aa h2;have H3:=aa h3;have H4:=aa h4;have H5:=aa h5;have H6:=aa h6;clear hX h1 h2 h3 h4 h5 h6;go_enter Tryz.func72,Tryz.ntmps72;go_wp2_with fail;refine(H1.o w).mono ?_;rintro e w1 ⟨rfl,b1⟩;have HX1:=aa (HX.o.below b1);have HB1:=aa b1;clear b1;have p0:p.isEmpty=false:=by cases p with
  |nil=>simp at hk
  |cons a b=>rfl
 have p1:p≠ []:=by cases p with
  |nil=>simp at hk
  |cons a b=>simp
 go_wp2_with fail;refine(H2.o w1).mono ?_;rintro e w2 ⟨rfl,b2⟩;have HX2:=aa (HX1.o.below b2);have HB2:=aa (HB1.o.trans (b2.mono HB1.o.size));clear b2 HX1 HB1;have x1:w2.cell? ⟨X,1,none⟩=some (.slice vo n vc):=by rw[sR w2 X 1 _ _ _ HX2.o.at_];rfl
 have x3:w2.cell? ⟨X,3,none⟩=some (.bool false):=by rw[sR w2 X 3 _ _ _ HX2.o.at_];rfl
 have k0:(0:Int)<=(k:Int):=by omega
 have k1:(k:Int)<(p.length:Int):=by omega
 have k2:¬(k:Int)<0:=by omega
 have d1:decide ((k:Int)<0)=false:=decide_eq_false (by omega)
 have k3:(k:Int)<=(p.length:Int):=by omega
 have k4:(k:Int)+1<=(p.length:Int):=by omega
 go_wp2_with fail;have e9:((((⟨p.toArray⟩:ByteArray)[k]'(by show k<p.toArray.size;simpa using hk)).toNat:Int)==47)=brk:=hb
 rw[e9];clear e9 hb;have e8:tz.wrap ((k:Int)+1)=(k:Int)+1:=by unfold tp tq tj;simp;omega
 have k5:(0:Int)<=(k:Int)+1:=by omega
 refine au [(0,true),(1,true),(2,true),(4,true),(5,true),(6,true),(7,true),(3,false),(8,false),(9,false),(10,false)] (fun _=>True) (fun _=>false) (by kernel_rfl) (by kernel_rfl) (fun j hj=>by cases hj) rfl (by kernel_rfl) trivial ?_
 iterate 7 (refine ax ?_ rfl (by kernel_rfl) (fun w' hS=>?_) ?_;(rotate_left;(go_simp;with_reducible rfl);rotate_left))
 refine av rfl (by kernel_rfl) fun KK hKK=>?_
 go_simp;refine(H3.o w2.drew).mono ?_;rintro e w3 ⟨rfl,b3⟩;have HB3:ae (tr w2.heap.size w2 w3):=aa ⟨b3.os,b3.tape,b3.output,b3.size,b3.block⟩;clear b3;refine hKK _ _ (fun _=>trivial) ?_
 clear hKK;refine av rfl (by kernel_rfl) fun KK hKK=>?_
 go_simp;refine(H4.o w3).mono ?_;rintro e w4 ⟨rfl,b4⟩;have HB4:ae (tr w2.heap.size w2 w4):=aa (HB3.o.trans (b4.mono HB3.o.size));clear b4 HB3;refine hKK _ _ (fun _=>trivial) ?_
 clear hKK;refine av rfl (by kernel_rfl) fun KK hKK=>?_
 go_simp;refine hKK _ _ (fun _=>trivial) ?_
 clear hKK;refine av rfl (by kernel_rfl) fun KK hKK=>?_
 go_simp;refine hKK _ _ (fun _=>trivial) ?_
 clear hKK;refine aS (tk ?_);have HX4:=aa (HX2.o.below HB4.o);have HBw:=aa (HB2.o.trans (HB4.o.mono HB2.o.size));have y1:w4.cell? ⟨X,1,none⟩=some (.slice vo n vc):=by rw[sR w4 X 1 _ _ _ HX4.o.at_];rfl
 have y0:w4.cell? ⟨X,0,none⟩=some (.slice (some ⟨g,0,none⟩) vs.length nc):=by rw[sR w4 X 0 _ _ _ HX4.o.at_];rfl
 have HXl:=aa (ag HX4.o.at_);have HBl:ae (B<=w.heap.size):=aa (by have:=ag HX.o.at_;have:=HX.o.lx;omega)
 clear x1 x3 HX2 HB2 HB4 k2 k3 k4 k5 d1 e8 p0 p1 HX;have r1:(L== [114,101,115,116])=false:=by simpa using hL
 have n1:(n:Int)<64:=by omega
 have xl:X<w4.heap.size:=HXl.o
 rcases Classical.em (L=[])with hL0|hL0
 subst hL0;rotate_left;have l2:L.isEmpty=false:=by cases L with
  |nil=>exact absurd rfl hL0
  |cons x y=>rfl
 have l3:(L== [])=false:=by simpa using hL0
 have l4:0<L.length:=tf.2 hL0;have l5:(0:Int)<(L.length:Int):=by omega
 have l6:(((((⟨L.toArray⟩:ByteArray)[0]'(by show 0<L.toArray.size;simpa using l4)).toNat:Int))==94)=false:=by
  rw[beq_eq_false_iff_ne];intro e
  apply hL9
  have e1:L[0]=94:=tE.1 (by
   have:(L[0]).toNat=(94:Nat):=by exact_mod_cast e
   exact this)
  rw[tD,sY l4,e1]
 all_goals (
  rcases Classical.em (R=[])with hR0|hR0
  subst hR0;rotate_left;have r2:R.isEmpty=false:=by cases R with
   |nil=>exact absurd rfl hR0
   |cons x y=>rfl
  have r3:(R== [])=false:=by simpa using hR0
  have r4:0<R.length:=tf.2 hR0;have r5:tz.wrap ((R.length:Int)-1)=(R.length:Int)-1:=by unfold tp tq tj;simp;omega
  have r6:(0:Int)<=(R.length:Int)-1:=by omega
  have r7:(R.length:Int)-1<(R.length:Int):=by omega
  have r8:((R.length:Int)-1).toNat=R.length-1:=by omega
  have r9:R.length-1<R.length:=by omega
  have q2:(((((⟨R.toArray⟩:ByteArray)[R.length-1]'(by show R.length-1<R.toArray.size;simpa using r9)).toNat:Int))==36)=false:=by
   rw[beq_eq_false_iff_ne];intro e
   apply hR9
   have e1:R[R.length-1]=36:=tE.1 (by
    have:(R[R.length-1]).toNat=(36:Nat):=by exact_mod_cast e
    exact this)
   rw[tw,sY r9,e1])
 all_goals (
  go_wp2_with fail;refine(H5.o _ (HX4.o.nm.below below_box)).mono ?_;rintro e w5 ⟨u0,u1,u2,rfl,hp5,hn5,ho5⟩;obtain⟨po,pco,pcn,pcc,pko,pkn,pkc,rfl,rfl,rfl⟩:=bZ.shape hp5;have HOw:=aa (fun(q:Nat)(hq:(td vo n vc).ownBlock=some q)=>show q<w4.heap.size from by
   rcases HX4.o.own.2 with ⟨c1,_⟩|⟨q',cap,cur,c1,_,c3,_⟩
   ·rw[c1]at hq;cases hq
   ·rw[c1]at hq;cases hq;exact ag c3)
  have hx5:=(HX4.o.below below_box).oth ho5 hn5;have HX5:=aa hx5;have HP5:=aa hp5;have zz:w5.heap[w4.heap.size]?=some (.cells #[.bool brk,.bool false,.bool false,.int .i64 0,.slice none 0 0,.slice none 0 0,.int .i64 0,.slice none 0 0,.slice none 0 0] 107 (0,0)):=(ho5.block _ (by simp) (fun e=>by have:=HX4.o.lg;have:=HX4.o.lx;have:=HXl.o;omega)).trans (heap_alloc_new _ _)
  have HZ5:=aa zz;have HO5:=aa ho5;have v0:w5.cell? ⟨X,0,none⟩=some (.slice (some ⟨g,0,none⟩) vs.length nc):=by rw[sR w5 X 0 _ _ _ hx5.at_];rfl
  have xl5:X<w5.heap.size:=ag hx5.at_;clear hx5 hp5 hn5 ho5 zz y0 y1;go_wp2_with fail;refine(H6.o _ (HX5.o.nm.below below_box)).mono ?_;rintro e w7 ⟨s0,s1,s2,rfl,hp7,hn7,ho7⟩;obtain⟨qo,qco,qcn,qcc,qko,qkn,qkc,rfl,rfl,rfl⟩:=bZ.shape hp7;have hx7:=(HX5.o.below below_box).oth ho7 hn7;have HX7:=aa hx7;have HP7:=aa hp7;have HPL:=aa (bZ.kt ((HX5.o.nm.below below_box).kt ho7) _ _ _ _ (bZ.kt (.of below_box) _ _ _ _ HP5.o));have HZ7:=aa ((ho7.block w4.heap.size (by have:=ag HZ5.o;simp;omega) (fun e=>by have:=HX4.o.lg;have:=HX4.o.lx;have:=HXl.o;omega)).trans ((tr.heap_alloc _ _ _ (ag HZ5.o)).trans HZ5.o))
  have za:w7.heap[w5.heap.size]?=some (.cells #[.int .i64 po,.slice pco pcn pcc,.slice pko pkn pkc] 105 (0,0)):=(ho7.block _ (by simp) (fun e=>by have:=HX4.o.lg;have:=HX4.o.lx;omega)).trans (heap_alloc_new _ _)
  have HO7:=aa ho7;have a0:w7.cell? ⟨w5.heap.size,0,none⟩=some (.int .i64 po):=by rw[sR w7 _ 0 _ _ _ za];rfl
  have a1:w7.cell? ⟨w5.heap.size,1,none⟩=some (.slice pco pcn pcc):=by rw[sR w7 _ 1 _ _ _ za];rfl
  have a2:w7.cell? ⟨w5.heap.size,2,none⟩=some (.slice pko pkn pkc):=by rw[sR w7 _ 2 _ _ _ za];rfl
  have al:w5.heap.size<w7.heap.size:=ag za;have zl:w4.heap.size<w7.heap.size:=ag HZ7.o;have z0:w7.cell? ⟨w4.heap.size,0,none⟩=some (.bool brk):=by rw[sR w7 _ 0 _ _ _ HZ7.o];rfl
  have z1:w7.cell? ⟨w4.heap.size,1,none⟩=some (.bool false):=by rw[sR w7 _ 1 _ _ _ HZ7.o];rfl
  have z2:w7.cell? ⟨w4.heap.size,2,none⟩=some (.bool false):=by rw[sR w7 _ 2 _ _ _ HZ7.o];rfl
  have z3:w7.cell? ⟨w4.heap.size,3,none⟩=some (.int .i64 0):=by rw[sR w7 _ 3 _ _ _ HZ7.o];rfl
  have z4:w7.cell? ⟨w4.heap.size,4,none⟩=some (.slice none 0 0):=by rw[sR w7 _ 4 _ _ _ HZ7.o];rfl
  have z5:w7.cell? ⟨w4.heap.size,5,none⟩=some (.slice none 0 0):=by rw[sR w7 _ 5 _ _ _ HZ7.o];rfl
  have z6:w7.cell? ⟨w4.heap.size,6,none⟩=some (.int .i64 0):=by rw[sR w7 _ 6 _ _ _ HZ7.o];rfl
  have z7:w7.cell? ⟨w4.heap.size,7,none⟩=some (.slice none 0 0):=by rw[sR w7 _ 7 _ _ _ HZ7.o];rfl
  have z8:w7.cell? ⟨w4.heap.size,8,none⟩=some (.slice none 0 0):=by rw[sR w7 _ 8 _ _ _ HZ7.o];rfl
  have zf3:w7.frozen? ⟨w4.heap.size,3,none⟩=false:=sV w7 _ 3 _ _ HZ7.o;have zf4:w7.frozen? ⟨w4.heap.size,4,none⟩=false:=sV w7 _ 4 _ _ HZ7.o;have zf5:w7.frozen? ⟨w4.heap.size,5,none⟩=false:=sV w7 _ 5 _ _ HZ7.o;have zf6:w7.frozen? ⟨w4.heap.size,6,none⟩=false:=sV w7 _ 6 _ _ HZ7.o;have zf7:w7.frozen? ⟨w4.heap.size,7,none⟩=false:=sV w7 _ 7 _ _ HZ7.o;have zf8:w7.frozen? ⟨w4.heap.size,8,none⟩=false:=sV w7 _ 8 _ _ HZ7.o;have xl7:X<w7.heap.size:=ag hx7.at_;have x7:w7.cell? ⟨X,1,none⟩=some (.slice vo n vc):=by rw[sR w7 X 1 _ _ _ hx7.at_];rfl
  clear hx7 hp7 hn7 ho7 za v0;go_wp2_with fail;obtain⟨w8,hw8⟩:=am (((((((w7.setCell ⟨w4.heap.size,3,none⟩ (.int .i64 po)).setCell ⟨w4.heap.size,4,none⟩ (.slice pco pcn pcc)).setCell ⟨w4.heap.size,5,none⟩ (.slice pko pkn pkc)).setCell ⟨w4.heap.size,6,none⟩ (.int .i64 qo)).setCell ⟨w4.heap.size,7,none⟩ (.slice qco qcn qcc)).setCell ⟨w4.heap.size,8,none⟩ (.slice qko qkn qkc)).alloc (.cells #[.int .i64 qo,.slice qco qcn qcc,.slice qko qkn qkc] 105));rw[<- hw8];obtain⟨g0,g1,g2,g3,g4,g5⟩:=zce w7 w4.heap.size _ _ _ _ _ _ _ _ _ _ _ _ _ _ _ _ _ HZ7.o w8 hw8;clear hw8 z0 z1 z2 z3 z4 z5 z6 z7 z8 zf3 zf4 zf5 zf6 zf7 zf8 a0 a1 a2 x7;have hxz:X≠w4.heap.size:=by omega
  have X8:w8.heap[X]?=some (.cells #[.slice (some ⟨g,0,none⟩) vs.length nc,.slice vo n vc,.bool rest,.bool false] 87 (0,0)):=(g1 X xl7 hxz).trans HX7.o.at_;have ow8:w8.ownsRow B 107 9 (.slice vo n vc) n xs:=⟨HX7.o.own.1,HX7.o.own.2.imp (fun e=>e) fun⟨q,cap,cur,c1,c2,c3,c4⟩=>⟨q,cap,cur,c1,c2,(g1 q (ag c3) (fun e=>by
   have:=HOw.o q (by rw[c1];rfl)
   omega)).trans c3,c4⟩⟩
  have HX8:ae (dk B w8 X g nc vs vo n vc rs xs rest false):=aa ⟨X8,(by
   obtain⟨cur,h1,h2⟩:=HX7.o.nm;exact⟨cur,(g1 g (ag h1) (by have:=HX4.o.lg;have:=HX4.o.lx;omega)).trans h1,h2⟩),ow8,HX7.o.rul.kt (fun b c t fr hb ht=>(g1 b (ag hb) (fun e=>by
    rw[e,HZ7.o]at hb
    cases hb
    rcases ht with ht|ht<;>cases ht)).trans hb),HX7.o.hn,HX7.o.lx,HX7.o.lg⟩
  have HKt:ae (KtP w7 w8):=aa (fun b c t fr hb ht=>(g1 b (ag hb) (fun e=>by
    rw[e,HZ7.o]at hb
    cases hb
    rcases ht with ht|ht<;>cases ht)).trans hb)
  have HP1:=aa (bZ.kt HKt.o _ _ _ _ HPL.o);have HP2:=aa (bZ.kt HKt.o _ _ _ _ HP7.o);have HFr:ae (Fr B g w w8):=aa (by
   have l1:=HX4.o.lx;have l2:=HX4.o.lg;have l3:=HXl.o;have f1:Fr B g w w4:=.of (.of HBw.o) (by have:=HBl.o;omega)
   have f2:Fr B g w4 w5:=(Fr.of (.of below_box) (by omega)).trans (.of HO5.o (by simp;omega))
   have f3:Fr B g w5 w7:=(Fr.of (.of below_box) (by omega)).trans (.of HO7.o (by simp;omega))
   exact f1.trans (f2.trans (f3.trans ⟨g3,g4,g5,by omega,fun b hb hne=>g1 b (by omega) (by omega)⟩)))
  have c0:w8.cell? ⟨w4.heap.size,0,none⟩=some (.bool brk):=by rw[sR w8 _ 0 _ _ _ g0];rfl
  have c1:w8.cell? ⟨w4.heap.size,1,none⟩=some (.bool false):=by rw[sR w8 _ 1 _ _ _ g0];rfl
  have c2:w8.cell? ⟨w4.heap.size,2,none⟩=some (.bool false):=by rw[sR w8 _ 2 _ _ _ g0];rfl
  have c3:w8.cell? ⟨w4.heap.size,3,none⟩=some (.int .i64 po):=by rw[sR w8 _ 3 _ _ _ g0];rfl
  have c4:w8.cell? ⟨w4.heap.size,4,none⟩=some (.slice pco pcn pcc):=by rw[sR w8 _ 4 _ _ _ g0];rfl
  have c5:w8.cell? ⟨w4.heap.size,5,none⟩=some (.slice pko pkn pkc):=by rw[sR w8 _ 5 _ _ _ g0];rfl
  have c6:w8.cell? ⟨w4.heap.size,6,none⟩=some (.int .i64 qo):=by rw[sR w8 _ 6 _ _ _ g0];rfl
  have c7:w8.cell? ⟨w4.heap.size,7,none⟩=some (.slice qco qcn qcc):=by rw[sR w8 _ 7 _ _ _ g0];rfl
  have c8:w8.cell? ⟨w4.heap.size,8,none⟩=some (.slice qko qkn qkc):=by rw[sR w8 _ 8 _ _ _ g0];rfl
  have cx:w8.cell? ⟨X,1,none⟩=some (.slice vo n vc):=by rw[sR w8 X 1 _ _ _ X8];rfl
  have xl8:X<w8.heap.size:=ag X8;have HOn:=aa (fun(b:Nat)(hb:(td vo n vc).ownBlock=some b)=>show b≠X from fun e=>by
   rcases ow8.2 with ⟨k1,_⟩|⟨q',cap,cur,k1,_,k3,_⟩
   ·rw[k1]at hb;cases hb
   ·rw[k1]at hb;cases hb
    have e2:q'=X:=e;rw[e2,X8]at k3
    cases k3)
  have HFx:ae (Fx g X w w8):=aa (by
   have f1:Fx g X w w4:=.of (.of HBw.o);have f2:Fx g X w4 w5:=(Fx.of (.of below_box)).trans (.of HO5.o);have f3:Fx g X w5 w7:=(Fx.of (.of below_box)).trans (.of HO7.o);intro b o hb k1 k2 k3;have q1:=f3 b o (f2 b o (f1 b o hb k1 k2 k3) k1 k2 k3) k1 k2 k3;rw[g1 b (ag q1) (by have:=ag hb;have:=HBw.o.size;omega)]
   exact q1)
  clear g0 g1 g2 g3 g4 g5 X8 ow8 HX7 HP5 HP7 HPL HKt HZ5 HZ7 HO5 HO7 HX5 xl5 xl7 al zl H5 H6;refine au [(0,true),(1,true),(2,true),(3,true),(4,true),(5,true),(6,true),(7,false),(8,false),(9,false),(10,false),(11,false),(12,false)] (fun W=>W.cell? ⟨X,1,none⟩=some (.slice vo n vc)/\W.cell? ⟨w4.heap.size,0,none⟩=some (.bool brk)/\W.cell? ⟨w4.heap.size,1,none⟩=some (.bool false)/\W.cell? ⟨w4.heap.size,2,none⟩=some (.bool false)/\W.cell? ⟨w4.heap.size,3,none⟩=some (.int .i64 po)/\W.cell? ⟨w4.heap.size,4,none⟩=some (.slice pco pcn pcc)/\W.cell? ⟨w4.heap.size,5,none⟩=some (.slice pko pkn pkc)/\W.cell? ⟨w4.heap.size,6,none⟩=some (.int .i64 qo)/\W.cell? ⟨w4.heap.size,7,none⟩=some (.slice qco qcn qcc)/\W.cell? ⟨w4.heap.size,8,none⟩=some (.slice qko qkn qkc)) (fun j=>j==12) (by kernel_rfl) (by kernel_rfl) (fun j hj=>by have:=beq_iff_eq.1 hj;subst this;decide) rfl (by kernel_rfl) ⟨cx,c0,c1,c2,c3,c4,c5,c6,c7,c8⟩ ?_
  iterate 7 (refine ax ?_ rfl (by kernel_rfl) (fun w' hS=>?_) ?_;(rotate_left;(obtain⟨s0,s1,s2,s3,s4,s5,s6,s7,s8,s9⟩:=hS;go_simp;with_reducible rfl);rotate_left))
  refine av rfl (by kernel_rfl) fun KK hKK=>?_
  go_simp;obtain⟨w9,hw9⟩:=am ((w8.alloc (.cells #[.bool brk,.bool false,.bool false,.int .i64 po,.slice pco pcn pcc,.slice pko pkn pkc,.int .i64 qo,.slice qco qcn qcc,.slice qko qkn qkc] 107)).drew);rw[<- hw9];have b9:tr w8.heap.size w8 w9:=by rw[hw9];exact below_box.drew
  have nw9:∀j u,[tH brk,.bool false,.bool false,.int .i64 po,.slice pco pcn pcc,.slice pko pkn pkc,.int .i64 qo,.slice qco qcn qcc,.slice qko qkn qkc][j]?=some u->w9.cell? ((⟨w8.heap.size,0,none⟩:Addr).add j)=some u:=by
   rw[hw9];exact zrV w8 _ _
  have sz9:w9.heap.size=w8.heap.size+1:=by rw[hw9];simp[heap_drew]
  have HB9:=aa b9;have HN9:=aa nw9;clear hw9 b9 nw9 sz9;have HC:=aa (fun(W:sT)(hW:∀b,b<w8.heap.size->(td vo n vc).ownBlock≠some b->W.heap[b]?=w8.heap[b]?)=>show W.cell? ⟨X,1,none⟩=some (.slice vo n vc)/\W.cell? ⟨w4.heap.size,0,none⟩=some (.bool brk)/\W.cell? ⟨w4.heap.size,1,none⟩=some (.bool false)/\W.cell? ⟨w4.heap.size,2,none⟩=some (.bool false)/\W.cell? ⟨w4.heap.size,3,none⟩=some (.int .i64 po)/\W.cell? ⟨w4.heap.size,4,none⟩=some (.slice pco pcn pcc)/\W.cell? ⟨w4.heap.size,5,none⟩=some (.slice pko pkn pkc)/\W.cell? ⟨w4.heap.size,6,none⟩=some (.int .i64 qo)/\W.cell? ⟨w4.heap.size,7,none⟩=some (.slice qco qcn qcc)/\W.cell? ⟨w4.heap.size,8,none⟩=some (.slice qko qkn qkc)from by
   have e1:W.heap[X]?=w8.heap[X]? :=hW X xl8 (fun e=>HOn.o X e rfl)
   have e2:W.heap[w4.heap.size]?=w8.heap[w4.heap.size]? :=hW _ (tC w8 _ c0) (fun e=>by have:=HOw.o _ e;omega)
   exact⟨(sS e1).trans cx,(sS e2).trans c0,(sS e2).trans c1,(sS e2).trans c2,(sS e2).trans c3,(sS e2).trans c4,(sS e2).trans c5,(sS e2).trans c6,(sS e2).trans c7,(sS e2).trans c8⟩)
  refine hKK _ _ (fun _=>HC.o _ fun b hb _=>HB9.o.block b hb) ?_
  clear hKK cx c0 c1 c2 c3 c4 c5 c6 c7 c8;refine av rfl (by kernel_rfl) fun KK hKK=>?_
  refine wp_append_lies _ _ _ 61 rfl B 107 iR (.agg #[.bool false,.bool false,.bool false,.int .i64 0,.slice none 0 0,.slice none 0 0,.int .i64 0,.slice none 0 0,.slice none 0 0]) 9 120 Tryz.underRules HIR.o.1 HIR.o.2.1 HIR.o.2.2.1 HIR.o.2.2.2 rfl (by decide) (.slice vo n vc) n xs rfl ⟨HX8.o.own.1,HX8.o.own.2.imp (fun e=>e) fun⟨q,cap,cur,k1,k2,k3,k4⟩=>⟨q,cap,cur,k1,k2,(HB9.o.block q (ag k3)).trans k3,k4⟩⟩ ⟨w8.heap.size,0,none⟩ 1 1 [tH brk,.bool false,.bool false,.int .i64 po,.slice pco pcn pcc,.slice pko pkn pkc,.int .i64 qo,.slice qco qcn qcc,.slice qko qkn qkc] rfl rfl HN9.o (fun u hu=>by simp at hu;rcases hu with h|h|h|h|h|h|h|h<;>rw[h]<;>rfl) (by decide) (by unfold maxLen;omega) (by omega) (by have:=HX8.o.lx;have:=HB9.o.size;omega) w9.heap.size rfl ?_
  intro g8 c8 w10 o10 gr10 hl10 hlt10;have HM:=aa (fun(w11:sT)(h11:w11=w10.setCell ⟨X,1,none⟩ (.slice (some ⟨g8,0,none⟩) (n+1) c8))=>dk.more (r:=⟨brk,false,false,pl,pr⟩) HX8.o HP1.o HP2.o rfl HB9.o o10 gr10 h11)
  have X10:w10.heap[X]?=w8.heap[X]? :=(gr10.block X (sZ xl8 HB9.o.size) (fun e=>HOn.o X e.symm rfl)).trans (HB9.o.block X xl8)
  have f10:w10.frozen? ⟨X,1,none⟩=false:=sV w10 X 1 _ _ (X10.trans HX8.o.at_);have c10:w10.cell? ⟨X,1,none⟩=some (.slice vo n vc):=by rw[sR w10 X 1 _ _ _ (X10.trans HX8.o.at_)];rfl
  have HS10:=aa (HC.o w10 fun b hb hne=>(gr10.block b (sZ hb HB9.o.size) (fun e=>hne e.symm)).trans (HB9.o.block b hb))
  refine hKK _ _ (fun _=>HC.o _ fun b hb hne=>(gr10.block b (sZ hb HB9.o.size) (fun e=>hne e.symm)).trans (HB9.o.block b hb)) ?_
  clear hKK o10 gr10 hl10 hlt10 X10
  iterate 3 (refine av rfl (by kernel_rfl) fun KK hKK=>?_;go_simp;refine hKK _ _ (fun _=>HS10.o) ?_;clear hKK)
  refine av rfl (by kernel_rfl) fun KK hKK=>?_
  go_simp;refine hKK _ _ (fun h=>by cases h) ?_
  clear hKK;refine aS (tk ?_);go_wp2;go_ret;obtain⟨m1,m2,m3⟩:=HM.o _ rfl;exact⟨rfl,HFr.o.trans m2,HFx.o.trans m3,_,_,_,_,m1⟩)
end Pt
end
section
open Ev Go.RowKit
namespace Pt
set_option maxRecDepth 100000 in
theorem pG(B X g nc:Nat)(vs:List sU)(vo:Option Addr)(n vc:Nat)(rs:List Rl)(xs:List sU)(rest:Bool)(w:sT)(s p L R:List UInt8)(k:Nat)(brk:Bool)(pl pr:az)(hX:dk B w X g nc vs vo n vc rs xs rest false)(hn9:n<=60)
  (h1:aC 103 (.string ⟨s.toArray⟩) (.string ⟨p.toArray⟩)) (h2:aC 104 (.string ⟨p.toArray⟩) (.int .i64 k)) (hk:k<p.length) (hp9:p.length<=10000) (hR8:R.length<=10000) (hb:((p[k].toNat:Int)==47)=brk)
  (h3:aC 105 (.string ((⟨p.toArray⟩:ByteArray).extract 0 k)) (.string ⟨L.toArray⟩)) (h4:aC 105 (.string ((⟨p.toArray⟩:ByteArray).extract (k+1) p.length)) (.string ⟨R.toArray⟩)) (hL:L≠ [114,101,115,116]) (hL9:L.head? =some 94) (hL8:L.length<=10000) (hR9:R.getLast? ≠some 36)
  (h5:∀W,aP W g nc vs->sX Tryz.prog 106 #[.string ((⟨L.toArray⟩:ByteArray).extract 1 L.length),.slice (some ⟨g,0,none⟩) vs.length nc] W (dM g nc vs W pl))
  (h6:∀W,aP W g nc vs->sX Tryz.prog 106 #[.string ⟨R.toArray⟩,.slice (some ⟨g,0,none⟩) vs.length nc] W (dM g nc vs W pr)):
  sX Tryz.prog 72 #[.pointer (some ⟨X,0,none⟩),.string ⟨s.toArray⟩] w (LnQ B w X g nc vs (rs++[⟨brk,true,false,pl,pr⟩]) rest false):=by
 obtain⟨iR,hR0,hR1,hR2,hR3⟩:=info_parts Tryz.infoRule;have HIR:=aa (tn hR0 (tn hR1 (tn hR2 hR3)));clear hR0 hR1 hR2 hR3;have HX:=aa hX;have H1:=aa h1;have H2:=aa h2;have H3:=aa h3;have H4:=aa h4;have H5:=aa h5;have H6:=aa h6;clear hX h1 h2 h3 h4 h5 h6;go_enter Tryz.func72,Tryz.ntmps72;go_wp2_with fail;refine(H1.o w).mono ?_;rintro e w1 ⟨rfl,b1⟩;have HX1:=aa (HX.o.below b1);have HB1:=aa b1;clear b1;have p0:p.isEmpty=false:=by cases p with
  |nil=>simp at hk
  |cons a b=>rfl
 have p1:p≠ []:=by cases p with
  |nil=>simp at hk
  |cons a b=>simp
 go_wp2_with fail;refine(H2.o w1).mono ?_;rintro e w2 ⟨rfl,b2⟩;have HX2:=aa (HX1.o.below b2);have HB2:=aa (HB1.o.trans (b2.mono HB1.o.size));clear b2 HX1 HB1;have x1:w2.cell? ⟨X,1,none⟩=some (.slice vo n vc):=by rw[sR w2 X 1 _ _ _ HX2.o.at_];rfl
 have x3:w2.cell? ⟨X,3,none⟩=some (.bool false):=by rw[sR w2 X 3 _ _ _ HX2.o.at_];rfl
 have k0:(0:Int)<=(k:Int):=by omega
 have k1:(k:Int)<(p.length:Int):=by omega
 have k2:¬(k:Int)<0:=by omega
 have d1:decide ((k:Int)<0)=false:=decide_eq_false (by omega)
 have k3:(k:Int)<=(p.length:Int):=by omega
 have k4:(k:Int)+1<=(p.length:Int):=by omega
 go_wp2_with fail;have e9:((((⟨p.toArray⟩:ByteArray)[k]'(by show k<p.toArray.size;simpa using hk)).toNat:Int)==47)=brk:=hb
 rw[e9];clear e9 hb;have e8:tz.wrap ((k:Int)+1)=(k:Int)+1:=by unfold tp tq tj;simp;omega
 have k5:(0:Int)<=(k:Int)+1:=by omega
 refine au [(0,true),(1,true),(2,true),(4,true),(5,true),(6,true),(7,true),(3,false),(8,false),(9,false),(10,false)] (fun _=>True) (fun _=>false) (by kernel_rfl) (by kernel_rfl) (fun j hj=>by cases hj) rfl (by kernel_rfl) trivial ?_
 iterate 7 (refine ax ?_ rfl (by kernel_rfl) (fun w' hS=>?_) ?_;(rotate_left;(go_simp;with_reducible rfl);rotate_left))
 refine av rfl (by kernel_rfl) fun KK hKK=>?_
 go_simp;refine(H3.o w2.drew).mono ?_;rintro e w3 ⟨rfl,b3⟩;have HB3:ae (tr w2.heap.size w2 w3):=aa ⟨b3.os,b3.tape,b3.output,b3.size,b3.block⟩;clear b3;refine hKK _ _ (fun _=>trivial) ?_
 clear hKK;refine av rfl (by kernel_rfl) fun KK hKK=>?_
 go_simp;refine(H4.o w3).mono ?_;rintro e w4 ⟨rfl,b4⟩;have HB4:ae (tr w2.heap.size w2 w4):=aa (HB3.o.trans (b4.mono HB3.o.size));clear b4 HB3;refine hKK _ _ (fun _=>trivial) ?_
 clear hKK;refine av rfl (by kernel_rfl) fun KK hKK=>?_
 go_simp;refine hKK _ _ (fun _=>trivial) ?_
 clear hKK;refine av rfl (by kernel_rfl) fun KK hKK=>?_
 go_simp;refine hKK _ _ (fun _=>trivial) ?_
 clear hKK;refine aS (tk ?_);have HX4:=aa (HX2.o.below HB4.o);have HBw:=aa (HB2.o.trans (HB4.o.mono HB2.o.size));have y1:w4.cell? ⟨X,1,none⟩=some (.slice vo n vc):=by rw[sR w4 X 1 _ _ _ HX4.o.at_];rfl
 have y0:w4.cell? ⟨X,0,none⟩=some (.slice (some ⟨g,0,none⟩) vs.length nc):=by rw[sR w4 X 0 _ _ _ HX4.o.at_];rfl
 have HXl:=aa (ag HX4.o.at_);have HBl:ae (B<=w.heap.size):=aa (by have:=ag HX.o.at_;have:=HX.o.lx;omega)
 clear x1 x3 HX2 HB2 HB4 k2 k3 k4 k5 d1 e8 p0 p1 HX;have r1:(L== [114,101,115,116])=false:=by simpa using hL
 have n1:(n:Int)<64:=by omega
 have xl:X<w4.heap.size:=HXl.o;have hL0:L≠ []:=fun e=>by rw[e]at hL9;cases hL9
 ·skip
  have l2:L.isEmpty=false:=by cases L with
   |nil=>exact absurd rfl hL0
   |cons x y=>rfl
  have l3:(L== [])=false:=by simpa using hL0
  have l4:0<L.length:=tf.2 hL0;have l5:(0:Int)<(L.length:Int):=by omega
  have l6:(((((⟨L.toArray⟩:ByteArray)[0]'(by show 0<L.toArray.size;simpa using l4)).toNat:Int))==94)=true:=by
   have e1:L[0]=94:=by
    rw[tD,sY l4]at hL9;exact Option.some.inj hL9
   have e2:((⟨L.toArray⟩:ByteArray)[0]'(by show 0<L.toArray.size;simpa using l4))=94:=e1
   rw[e2]
   rfl
  have l7:(1:Int)<=(L.length:Int):=by omega
  rcases Classical.em (R=[])with hR0|hR0
  subst hR0;rotate_left;have r2:R.isEmpty=false:=by cases R with
   |nil=>exact absurd rfl hR0
   |cons x y=>rfl
  have r3:(R== [])=false:=by simpa using hR0
  have r4:0<R.length:=tf.2 hR0;have r5:tz.wrap ((R.length:Int)-1)=(R.length:Int)-1:=by unfold tp tq tj;simp;omega
  have r6:(0:Int)<=(R.length:Int)-1:=by omega
  have r7:(R.length:Int)-1<(R.length:Int):=by omega
  have r8:((R.length:Int)-1).toNat=R.length-1:=by omega
  have r9:R.length-1<R.length:=by omega
  have q2:(((((⟨R.toArray⟩:ByteArray)[R.length-1]'(by show R.length-1<R.toArray.size;simpa using r9)).toNat:Int))==36)=false:=by
   rw[beq_eq_false_iff_ne];intro e
   apply hR9
   have e1:R[R.length-1]=36:=tE.1 (by
    have:(R[R.length-1]).toNat=(36:Nat):=by exact_mod_cast e
    exact this)
   rw[tw,sY r9,e1]
  all_goals (
   go_wp2_with fail;refine(H5.o _ (HX4.o.nm.below below_box)).mono ?_;rintro e w5 ⟨u0,u1,u2,rfl,hp5,hn5,ho5⟩;obtain⟨po,pco,pcn,pcc,pko,pkn,pkc,rfl,rfl,rfl⟩:=bZ.shape hp5;have HOw:=aa (fun(q:Nat)(hq:(td vo n vc).ownBlock=some q)=>show q<w4.heap.size from by
    rcases HX4.o.own.2 with ⟨c1,_⟩|⟨q',cap,cur,c1,_,c3,_⟩
    ·rw[c1]at hq;cases hq
    ·rw[c1]at hq;cases hq;exact ag c3)
   have hx5:=(HX4.o.below below_box).oth ho5 hn5;have HX5:=aa hx5;have HP5:=aa hp5;have zz:w5.heap[w4.heap.size]?=some (.cells #[.bool brk,.bool true,.bool false,.int .i64 0,.slice none 0 0,.slice none 0 0,.int .i64 0,.slice none 0 0,.slice none 0 0] 107 (0,0)):=(ho5.block _ (by simp) (fun e=>by have:=HX4.o.lg;have:=HX4.o.lx;have:=HXl.o;omega)).trans (heap_alloc_new _ _)
   have HZ5:=aa zz;have HO5:=aa ho5;have v0:w5.cell? ⟨X,0,none⟩=some (.slice (some ⟨g,0,none⟩) vs.length nc):=by rw[sR w5 X 0 _ _ _ hx5.at_];rfl
   have xl5:X<w5.heap.size:=ag hx5.at_;clear hx5 hp5 hn5 ho5 zz y0 y1;go_wp2_with fail;refine(H6.o _ (HX5.o.nm.below below_box)).mono ?_;rintro e w7 ⟨s0,s1,s2,rfl,hp7,hn7,ho7⟩;obtain⟨qo,qco,qcn,qcc,qko,qkn,qkc,rfl,rfl,rfl⟩:=bZ.shape hp7;have hx7:=(HX5.o.below below_box).oth ho7 hn7;have HX7:=aa hx7;have HP7:=aa hp7;have HPL:=aa (bZ.kt ((HX5.o.nm.below below_box).kt ho7) _ _ _ _ (bZ.kt (.of below_box) _ _ _ _ HP5.o));have HZ7:=aa ((ho7.block w4.heap.size (by have:=ag HZ5.o;simp;omega) (fun e=>by have:=HX4.o.lg;have:=HX4.o.lx;have:=HXl.o;omega)).trans ((tr.heap_alloc _ _ _ (ag HZ5.o)).trans HZ5.o))
   have za:w7.heap[w5.heap.size]?=some (.cells #[.int .i64 po,.slice pco pcn pcc,.slice pko pkn pkc] 105 (0,0)):=(ho7.block _ (by simp) (fun e=>by have:=HX4.o.lg;have:=HX4.o.lx;omega)).trans (heap_alloc_new _ _)
   have HO7:=aa ho7;have a0:w7.cell? ⟨w5.heap.size,0,none⟩=some (.int .i64 po):=by rw[sR w7 _ 0 _ _ _ za];rfl
   have a1:w7.cell? ⟨w5.heap.size,1,none⟩=some (.slice pco pcn pcc):=by rw[sR w7 _ 1 _ _ _ za];rfl
   have a2:w7.cell? ⟨w5.heap.size,2,none⟩=some (.slice pko pkn pkc):=by rw[sR w7 _ 2 _ _ _ za];rfl
   have al:w5.heap.size<w7.heap.size:=ag za;have zl:w4.heap.size<w7.heap.size:=ag HZ7.o;have z0:w7.cell? ⟨w4.heap.size,0,none⟩=some (.bool brk):=by rw[sR w7 _ 0 _ _ _ HZ7.o];rfl
   have z1:w7.cell? ⟨w4.heap.size,1,none⟩=some (.bool true):=by rw[sR w7 _ 1 _ _ _ HZ7.o];rfl
   have z2:w7.cell? ⟨w4.heap.size,2,none⟩=some (.bool false):=by rw[sR w7 _ 2 _ _ _ HZ7.o];rfl
   have z3:w7.cell? ⟨w4.heap.size,3,none⟩=some (.int .i64 0):=by rw[sR w7 _ 3 _ _ _ HZ7.o];rfl
   have z4:w7.cell? ⟨w4.heap.size,4,none⟩=some (.slice none 0 0):=by rw[sR w7 _ 4 _ _ _ HZ7.o];rfl
   have z5:w7.cell? ⟨w4.heap.size,5,none⟩=some (.slice none 0 0):=by rw[sR w7 _ 5 _ _ _ HZ7.o];rfl
   have z6:w7.cell? ⟨w4.heap.size,6,none⟩=some (.int .i64 0):=by rw[sR w7 _ 6 _ _ _ HZ7.o];rfl
   have z7:w7.cell? ⟨w4.heap.size,7,none⟩=some (.slice none 0 0):=by rw[sR w7 _ 7 _ _ _ HZ7.o];rfl
   have z8:w7.cell? ⟨w4.heap.size,8,none⟩=some (.slice none 0 0):=by rw[sR w7 _ 8 _ _ _ HZ7.o];rfl
   have zf3:w7.frozen? ⟨w4.heap.size,3,none⟩=false:=sV w7 _ 3 _ _ HZ7.o;have zf4:w7.frozen? ⟨w4.heap.size,4,none⟩=false:=sV w7 _ 4 _ _ HZ7.o;have zf5:w7.frozen? ⟨w4.heap.size,5,none⟩=false:=sV w7 _ 5 _ _ HZ7.o;have zf6:w7.frozen? ⟨w4.heap.size,6,none⟩=false:=sV w7 _ 6 _ _ HZ7.o;have zf7:w7.frozen? ⟨w4.heap.size,7,none⟩=false:=sV w7 _ 7 _ _ HZ7.o;have zf8:w7.frozen? ⟨w4.heap.size,8,none⟩=false:=sV w7 _ 8 _ _ HZ7.o;have xl7:X<w7.heap.size:=ag hx7.at_;have x7:w7.cell? ⟨X,1,none⟩=some (.slice vo n vc):=by rw[sR w7 X 1 _ _ _ hx7.at_];rfl
   clear hx7 hp7 hn7 ho7 za v0;go_wp2_with fail;obtain⟨w8,hw8⟩:=am (((((((w7.setCell ⟨w4.heap.size,3,none⟩ (.int .i64 po)).setCell ⟨w4.heap.size,4,none⟩ (.slice pco pcn pcc)).setCell ⟨w4.heap.size,5,none⟩ (.slice pko pkn pkc)).setCell ⟨w4.heap.size,6,none⟩ (.int .i64 qo)).setCell ⟨w4.heap.size,7,none⟩ (.slice qco qcn qcc)).setCell ⟨w4.heap.size,8,none⟩ (.slice qko qkn qkc)).alloc (.cells #[.int .i64 qo,.slice qco qcn qcc,.slice qko qkn qkc] 105));rw[<- hw8];obtain⟨g0,g1,g2,g3,g4,g5⟩:=zce w7 w4.heap.size _ _ _ _ _ _ _ _ _ _ _ _ _ _ _ _ _ HZ7.o w8 hw8;clear hw8 z0 z1 z2 z3 z4 z5 z6 z7 z8 zf3 zf4 zf5 zf6 zf7 zf8 a0 a1 a2 x7;have hxz:X≠w4.heap.size:=by omega
   have X8:w8.heap[X]?=some (.cells #[.slice (some ⟨g,0,none⟩) vs.length nc,.slice vo n vc,.bool rest,.bool false] 87 (0,0)):=(g1 X xl7 hxz).trans HX7.o.at_;have ow8:w8.ownsRow B 107 9 (.slice vo n vc) n xs:=⟨HX7.o.own.1,HX7.o.own.2.imp (fun e=>e) fun⟨q,cap,cur,c1,c2,c3,c4⟩=>⟨q,cap,cur,c1,c2,(g1 q (ag c3) (fun e=>by
    have:=HOw.o q (by rw[c1];rfl)
    omega)).trans c3,c4⟩⟩
   have HX8:ae (dk B w8 X g nc vs vo n vc rs xs rest false):=aa ⟨X8,(by
    obtain⟨cur,h1,h2⟩:=HX7.o.nm;exact⟨cur,(g1 g (ag h1) (by have:=HX4.o.lg;have:=HX4.o.lx;omega)).trans h1,h2⟩),ow8,HX7.o.rul.kt (fun b c t fr hb ht=>(g1 b (ag hb) (fun e=>by
     rw[e,HZ7.o]at hb
     cases hb
     rcases ht with ht|ht<;>cases ht)).trans hb),HX7.o.hn,HX7.o.lx,HX7.o.lg⟩
   have HKt:ae (KtP w7 w8):=aa (fun b c t fr hb ht=>(g1 b (ag hb) (fun e=>by
     rw[e,HZ7.o]at hb
     cases hb
     rcases ht with ht|ht<;>cases ht)).trans hb)
   have HP1:=aa (bZ.kt HKt.o _ _ _ _ HPL.o);have HP2:=aa (bZ.kt HKt.o _ _ _ _ HP7.o);have HFr:ae (Fr B g w w8):=aa (by
    have l1:=HX4.o.lx;have l2:=HX4.o.lg;have l3:=HXl.o;have f1:Fr B g w w4:=.of (.of HBw.o) (by have:=HBl.o;omega)
    have f2:Fr B g w4 w5:=(Fr.of (.of below_box) (by omega)).trans (.of HO5.o (by simp;omega))
    have f3:Fr B g w5 w7:=(Fr.of (.of below_box) (by omega)).trans (.of HO7.o (by simp;omega))
    exact f1.trans (f2.trans (f3.trans ⟨g3,g4,g5,by omega,fun b hb hne=>g1 b (by omega) (by omega)⟩)))
   have c0:w8.cell? ⟨w4.heap.size,0,none⟩=some (.bool brk):=by rw[sR w8 _ 0 _ _ _ g0];rfl
   have c1:w8.cell? ⟨w4.heap.size,1,none⟩=some (.bool true):=by rw[sR w8 _ 1 _ _ _ g0];rfl
   have c2:w8.cell? ⟨w4.heap.size,2,none⟩=some (.bool false):=by rw[sR w8 _ 2 _ _ _ g0];rfl
   have c3:w8.cell? ⟨w4.heap.size,3,none⟩=some (.int .i64 po):=by rw[sR w8 _ 3 _ _ _ g0];rfl
   have c4:w8.cell? ⟨w4.heap.size,4,none⟩=some (.slice pco pcn pcc):=by rw[sR w8 _ 4 _ _ _ g0];rfl
   have c5:w8.cell? ⟨w4.heap.size,5,none⟩=some (.slice pko pkn pkc):=by rw[sR w8 _ 5 _ _ _ g0];rfl
   have c6:w8.cell? ⟨w4.heap.size,6,none⟩=some (.int .i64 qo):=by rw[sR w8 _ 6 _ _ _ g0];rfl
   have c7:w8.cell? ⟨w4.heap.size,7,none⟩=some (.slice qco qcn qcc):=by rw[sR w8 _ 7 _ _ _ g0];rfl
   have c8:w8.cell? ⟨w4.heap.size,8,none⟩=some (.slice qko qkn qkc):=by rw[sR w8 _ 8 _ _ _ g0];rfl
   have cx:w8.cell? ⟨X,1,none⟩=some (.slice vo n vc):=by rw[sR w8 X 1 _ _ _ X8];rfl
   have xl8:X<w8.heap.size:=ag X8;have HOn:=aa (fun(b:Nat)(hb:(td vo n vc).ownBlock=some b)=>show b≠X from fun e=>by
    rcases ow8.2 with ⟨k1,_⟩|⟨q',cap,cur,k1,_,k3,_⟩
    ·rw[k1]at hb;cases hb
    ·rw[k1]at hb;cases hb
     have e2:q'=X:=e;rw[e2,X8]at k3
     cases k3)
   have HFx:ae (Fx g X w w8):=aa (by
    have f1:Fx g X w w4:=.of (.of HBw.o);have f2:Fx g X w4 w5:=(Fx.of (.of below_box)).trans (.of HO5.o);have f3:Fx g X w5 w7:=(Fx.of (.of below_box)).trans (.of HO7.o);intro b o hb k1 k2 k3;have q1:=f3 b o (f2 b o (f1 b o hb k1 k2 k3) k1 k2 k3) k1 k2 k3;rw[g1 b (ag q1) (by have:=ag hb;have:=HBw.o.size;omega)]
    exact q1)
   clear g0 g1 g2 g3 g4 g5 X8 ow8 HX7 HP5 HP7 HPL HKt HZ5 HZ7 HO5 HO7 HX5 xl5 xl7 al zl H5 H6;refine au [(0,true),(1,true),(2,true),(3,true),(4,true),(5,true),(6,true),(7,false),(8,false),(9,false),(10,false),(11,false),(12,false)] (fun W=>W.cell? ⟨X,1,none⟩=some (.slice vo n vc)/\W.cell? ⟨w4.heap.size,0,none⟩=some (.bool brk)/\W.cell? ⟨w4.heap.size,1,none⟩=some (.bool true)/\W.cell? ⟨w4.heap.size,2,none⟩=some (.bool false)/\W.cell? ⟨w4.heap.size,3,none⟩=some (.int .i64 po)/\W.cell? ⟨w4.heap.size,4,none⟩=some (.slice pco pcn pcc)/\W.cell? ⟨w4.heap.size,5,none⟩=some (.slice pko pkn pkc)/\W.cell? ⟨w4.heap.size,6,none⟩=some (.int .i64 qo)/\W.cell? ⟨w4.heap.size,7,none⟩=some (.slice qco qcn qcc)/\W.cell? ⟨w4.heap.size,8,none⟩=some (.slice qko qkn qkc)) (fun j=>j==12) (by kernel_rfl) (by kernel_rfl) (fun j hj=>by have:=beq_iff_eq.1 hj;subst this;decide) rfl (by kernel_rfl) ⟨cx,c0,c1,c2,c3,c4,c5,c6,c7,c8⟩ ?_
   iterate 7 (refine ax ?_ rfl (by kernel_rfl) (fun w' hS=>?_) ?_;(rotate_left;(obtain⟨s0,s1,s2,s3,s4,s5,s6,s7,s8,s9⟩:=hS;go_simp;with_reducible rfl);rotate_left))
   refine av rfl (by kernel_rfl) fun KK hKK=>?_
   go_simp;obtain⟨w9,hw9⟩:=am ((w8.alloc (.cells #[.bool brk,.bool true,.bool false,.int .i64 po,.slice pco pcn pcc,.slice pko pkn pkc,.int .i64 qo,.slice qco qcn qcc,.slice qko qkn qkc] 107)).drew);rw[<- hw9];have b9:tr w8.heap.size w8 w9:=by rw[hw9];exact below_box.drew
   have nw9:∀j u,[tH brk,.bool true,.bool false,.int .i64 po,.slice pco pcn pcc,.slice pko pkn pkc,.int .i64 qo,.slice qco qcn qcc,.slice qko qkn qkc][j]?=some u->w9.cell? ((⟨w8.heap.size,0,none⟩:Addr).add j)=some u:=by
    rw[hw9];exact zrV w8 _ _
   have sz9:w9.heap.size=w8.heap.size+1:=by rw[hw9];simp[heap_drew]
   have HB9:=aa b9;have HN9:=aa nw9;clear hw9 b9 nw9 sz9;have HC:=aa (fun(W:sT)(hW:∀b,b<w8.heap.size->(td vo n vc).ownBlock≠some b->W.heap[b]?=w8.heap[b]?)=>show W.cell? ⟨X,1,none⟩=some (.slice vo n vc)/\W.cell? ⟨w4.heap.size,0,none⟩=some (.bool brk)/\W.cell? ⟨w4.heap.size,1,none⟩=some (.bool true)/\W.cell? ⟨w4.heap.size,2,none⟩=some (.bool false)/\W.cell? ⟨w4.heap.size,3,none⟩=some (.int .i64 po)/\W.cell? ⟨w4.heap.size,4,none⟩=some (.slice pco pcn pcc)/\W.cell? ⟨w4.heap.size,5,none⟩=some (.slice pko pkn pkc)/\W.cell? ⟨w4.heap.size,6,none⟩=some (.int .i64 qo)/\W.cell? ⟨w4.heap.size,7,none⟩=some (.slice qco qcn qcc)/\W.cell? ⟨w4.heap.size,8,none⟩=some (.slice qko qkn qkc)from by
    have e1:W.heap[X]?=w8.heap[X]? :=hW X xl8 (fun e=>HOn.o X e rfl)
    have e2:W.heap[w4.heap.size]?=w8.heap[w4.heap.size]? :=hW _ (tC w8 _ c0) (fun e=>by have:=HOw.o _ e;omega)
    exact⟨(sS e1).trans cx,(sS e2).trans c0,(sS e2).trans c1,(sS e2).trans c2,(sS e2).trans c3,(sS e2).trans c4,(sS e2).trans c5,(sS e2).trans c6,(sS e2).trans c7,(sS e2).trans c8⟩)
   refine hKK _ _ (fun _=>HC.o _ fun b hb _=>HB9.o.block b hb) ?_
   clear hKK cx c0 c1 c2 c3 c4 c5 c6 c7 c8;refine av rfl (by kernel_rfl) fun KK hKK=>?_
   refine wp_append_lies _ _ _ 61 rfl B 107 iR (.agg #[.bool false,.bool false,.bool false,.int .i64 0,.slice none 0 0,.slice none 0 0,.int .i64 0,.slice none 0 0,.slice none 0 0]) 9 120 Tryz.underRules HIR.o.1 HIR.o.2.1 HIR.o.2.2.1 HIR.o.2.2.2 rfl (by decide) (.slice vo n vc) n xs rfl ⟨HX8.o.own.1,HX8.o.own.2.imp (fun e=>e) fun⟨q,cap,cur,k1,k2,k3,k4⟩=>⟨q,cap,cur,k1,k2,(HB9.o.block q (ag k3)).trans k3,k4⟩⟩ ⟨w8.heap.size,0,none⟩ 1 1 [tH brk,.bool true,.bool false,.int .i64 po,.slice pco pcn pcc,.slice pko pkn pkc,.int .i64 qo,.slice qco qcn qcc,.slice qko qkn qkc] rfl rfl HN9.o (fun u hu=>by simp at hu;rcases hu with h|h|h|h|h|h|h|h|h<;>rw[h]<;>rfl) (by decide) (by unfold maxLen;omega) (by omega) (by have:=HX8.o.lx;have:=HB9.o.size;omega) w9.heap.size rfl ?_
   intro g8 c8 w10 o10 gr10 hl10 hlt10;have HM:=aa (fun(w11:sT)(h11:w11=w10.setCell ⟨X,1,none⟩ (.slice (some ⟨g8,0,none⟩) (n+1) c8))=>dk.more (r:=⟨brk,true,false,pl,pr⟩) HX8.o HP1.o HP2.o rfl HB9.o o10 gr10 h11)
   have X10:w10.heap[X]?=w8.heap[X]? :=(gr10.block X (sZ xl8 HB9.o.size) (fun e=>HOn.o X e.symm rfl)).trans (HB9.o.block X xl8)
   have f10:w10.frozen? ⟨X,1,none⟩=false:=sV w10 X 1 _ _ (X10.trans HX8.o.at_);have c10:w10.cell? ⟨X,1,none⟩=some (.slice vo n vc):=by rw[sR w10 X 1 _ _ _ (X10.trans HX8.o.at_)];rfl
   have HS10:=aa (HC.o w10 fun b hb hne=>(gr10.block b (sZ hb HB9.o.size) (fun e=>hne e.symm)).trans (HB9.o.block b hb))
   refine hKK _ _ (fun _=>HC.o _ fun b hb hne=>(gr10.block b (sZ hb HB9.o.size) (fun e=>hne e.symm)).trans (HB9.o.block b hb)) ?_
   clear hKK o10 gr10 hl10 hlt10 X10
   iterate 3 (refine av rfl (by kernel_rfl) fun KK hKK=>?_;go_simp;refine hKK _ _ (fun _=>HS10.o) ?_;clear hKK)
   refine av rfl (by kernel_rfl) fun KK hKK=>?_
   go_simp;refine hKK _ _ (fun h=>by cases h) ?_
   clear hKK;refine aS (tk ?_);go_wp2;go_ret;obtain⟨m1,m2,m3⟩:=HM.o _ rfl;exact⟨rfl,HFr.o.trans m2,HFx.o.trans m3,_,_,_,_,m1⟩)
end Pt
end
section
open Ev Go.RowKit
namespace Pt
theorem zgk(B X g nc:Nat)(vs:List sU)(vo:Option Addr)(n vc:Nat)(rs:List Rl)(xs:List sU)(rest rested:Bool)(w:sT)(s:List UInt8)(hX:dk B w X g nc vs vo n vc rs xs rest rested)
  (h1:aC 103 (.string ⟨s.toArray⟩) (.string ⟨#[]⟩)):sX Tryz.prog 72 #[.pointer (some ⟨X,0,none⟩),.string ⟨s.toArray⟩] w (LnQ B w X g nc vs rs rest rested):=by
 have HX:=aa hX;have H1:=aa h1;clear hX h1;go_enter Tryz.func72,Tryz.ntmps72;go_wp2_with fail;refine(H1.o w).mono ?_;rintro e w1 ⟨rfl,b1⟩;have HX1:=aa (HX.o.below b1);have HB1:=aa b1;clear b1;go_wp2;go_ret;exact⟨rfl,.of (.of HB1.o) (by have:=ag HX.o.at_;have:=HX.o.lx;omega),.of (.of HB1.o),vo,n,vc,xs,HX1.o⟩
def PrQ(g:Nat)(w:sT)(rs:List Rl)(rest:Bool)(e:Ending)(w':sT):Prop:=∃ro rc,e=.returned (.tuple #[.agg #[.slice ro rs.length rc,.bool rest],.int .i64 0,.int .i64 0])/\zbJ w' ro rs/\Oth g w w'
theorem dk.rules{B:Nat}{w:sT}{X g nc:Nat}{vs:List sU}{vo:Option Addr}{n vc:Nat}{rs:List Rl}{xs:List sU}{rest rested:Bool}(h:dk B w X g nc vs vo n vc rs xs rest rested):zbJ w vo rs:=fun j r hj=>by
 obtain⟨l0,l1,l2,r0,r1,r2,a0,a1,a2,a3,a4,a5,a6,a7,a8,p1,p2⟩:=h.rul j r hj;have hjl:=(tc.1 hj).1;have hn:=h.hn
 rcases h.own.2 with ⟨_,e⟩|⟨q,cap,cur,k1,k2,k3,k4,k5,k6,k7⟩
 ·omega
 ·cases k1
  have hc:∀i v,i<n*9->xs[i]?=some v->w.cell? ⟨q,i,none⟩=some v:=fun i v hi hv=>by
   rw[sR w q i cur _ _ k3];rw[<- k7,tg hi]at hv
   simpa using hv
  refine⟨q,0,l0,l1,l2,r0,r1,r2,rfl,ag k3,?_,?_,?_,?_,?_,?_,?_,?_,?_,bZ.to _ _ _ _ p1,bZ.to _ _ _ _ p2⟩
  all_goals (rw[Nat.zero_add];refine hc _ _ (by omega) ?_;assumption)
set_option maxRecDepth 100000 in
theorem zfD(text:List UInt8)(ht:text.length<=16384)(vs:List sU)(g nc:Nat)(ls:List (List UInt8))(T:Nat->List Rl)(Rst Rd:Nat->Bool)(w:sT)(hN:aP w g nc vs)(hl9:ls.length<=1000)(hT:T 0=[])(hR:Rst 0=true)(hD:Rd 0=false)
  (h1:∀W,aP W g nc vs->sX Tryz.prog 70 #[.slice (some ⟨g,0,none⟩) vs.length nc] W fun e w'=>e=.returned (.bool true)/\aP w' g nc vs/\Oth g W w')
  (h2:∀W:sT,sX Tryz.prog 71 #[.string ⟨text.toArray⟩] W fun e w'=>∃vo vc,e=.returned (.slice vo ls.length vc)/\zpq W.heap.size w' vo ls/\tr W.heap.size W w')
  (h3:∀(j:Nat)(s:List UInt8),ls[j]?=some s->∀(B X:Nat)(vo:Option Addr)(n vc:Nat)(xs:List sU)(W:sT),dk B W X g nc vs vo n vc (T j) xs (Rst j) (Rd j)->sX Tryz.prog 72 #[.pointer (some ⟨X,0,none⟩),.string ⟨s.toArray⟩] W (LnQ B W X g nc vs (T (j+1)) (Rst (j+1)) (Rd (j+1)))):
  sX Tryz.prog 45 #[.string ⟨text.toArray⟩,.slice (some ⟨g,0,none⟩) vs.length nc] w (PrQ g w (T ls.length) (Rst ls.length)):=by
 have HN:=aa hN;have H1:=aa h1;have H2:=aa h2;have H3:=aa h3;have HT:=aa (tn hT (tn hR hD));have HG:ae (g<w.heap.size):=aa (by obtain⟨cur,k,_⟩:=hN;exact ag k)
 clear hN h1 h2 h3 hT hR hD;have t1:¬(16384:Int)<(text.length:Int):=by omega
 go_enter Tryz.func45,Tryz.ntmps45;go_wp2_with fail;refine(H1.o _ (HN.o.below below_box)).mono ?_;rintro e w1 ⟨rfl,n1,o1⟩;have HN1:=aa n1;have HO1:=aa ((Oth.of below_box).trans o1);have Z1:w1.heap[w.heap.size]?=some (.cells #[.slice none 0 0,.bool false] 63 (0,0)):=(o1.block _ (by simp) (by have:=HG.o;omega)).trans (heap_alloc_new _ _)
 have HZ1:=aa Z1;clear n1 o1 Z1 H1;go_wp2_with fail;refine(H2.o _).mono ?_;rintro e w3 ⟨lo,lc,rfl,hL,b3⟩;obtain⟨X,hX⟩:=am w1.heap.size;have HX3:ae (dk w.heap.size w3 X g nc vs none 0 0 (T 0) [] (Rst 0) (Rd 0)):=aa (by
  rw[HT.o.1,HT.o.2.1,HT.o.2.2,hX];refine dk.below (w:=w1.alloc _) ⟨heap_alloc_new _ _,HN1.o.below below_box,sT.ownsRow_nil _ _ _ _,fun j r hj=>by simp at hj,rfl,HO1.o.size,HG.o⟩ b3)
 have HF3:ae (Fr w.heap.size g w w3):=aa ((Fr.of HO1.o (tF _)).trans ((Fr.of (.of below_box) HO1.o.size).trans (Fr.of (.of b3) (by have:=HO1.o.size;simp;omega))))
 have HZ3:=aa ((b3.block _ (by have:=ag HZ1.o;simp;omega)).trans ((tr.heap_alloc _ _ _ (ag HZ1.o)).trans HZ1.o))
 have HL3:ae (zpq (X+1) w3 lo ls):=aa (by rw[hX];simpa using hL)
 have HXw:ae (w.heap.size<X):=aa (by rw[hX];exact ag HZ1.o)
 rw[<- hX];clear hL b3 hX H2;obtain⟨m,hm⟩:=am ls.length;rw[<- hm]at hl9⊢;have HM:=aa hm;clear hm;go_wp2;go_loopw [9] (fun y wr=>∃i:Nat,y=.int .i64 i/\i<=m/\ae (∃vo n vc xs,dk w.heap.size wr X g nc vs vo n vc (T i) xs (Rst i) (Rd i))/\ae (Fr w.heap.size g w wr)/\ae (wr.heap[w.heap.size]?=some (.cells #[.slice none 0 0,.bool false] 63 (0,0)))/\ae (zpq (X+1) wr lo ls)) (fun y _=>m-(intOf y).toNat)
 case atStart=>exact⟨0,rfl,Nat.zero_le _,aa ⟨_,_,_,_,HX3.o⟩,HF3,HZ3,HL3⟩
 case round=>
  clear HX3 HF3 HZ3 HL3;obtain⟨i,rfl,hi,HX,HF,HZ,HL⟩:=hrel;obtain⟨vo,n,vc,xs,hx⟩:=HX.o
  by_cases hlt:i<m
  ·have i0:(0:Int)<=(i:Int):=by omega
   have i1:(i:Int)<(m:Int):=by omega
   have hil:i<ls.length:=by have:=HM.o;omega
   obtain⟨b,o,c,fr,rfl,hb,hh,hc⟩:=HL.o i ls[i] (sY hil);have c1:wr.cell? ⟨b,o+i,none⟩=some (.string ⟨(ls[i]).toArray⟩):=by rw[sR wr b _ c _ _ hh];exact hc
   have HLn:=aa (H3.o i ls[i] (sY hil) w.heap.size X vo n vc xs wr hx);obtain⟨s,hs⟩:=am (ls[i]);rw[<- hs]at c1 HLn;clear hh hc hs hb hx;go_wp2_with fail;refine HLn.o.mono ?_;rintro e w4 ⟨rfl,f4,x4,r4⟩;have HX4:=aa r4;have HF4:=aa (HF.o.trans f4);have HZ4:=aa (x4 _ _ HZ.o (by have:=HG.o;omega) (by have:=HXw.o;omega) (fun c fr e=>by cases e))
   have HL4:ae (zpq (X+1) w4 (some ⟨b,o,none⟩) ls):=aa (fun j s hj=>by
    obtain⟨b2,o2,c2,fr2,k1,k2,k3,k4⟩:=HL.o j s hj;exact⟨b2,o2,c2,fr2,k1,k2,x4 _ _ k3 (by have:=HG.o;have:=HXw.o;omega) (by omega) (fun c fr e=>by cases e),k4⟩)
   clear f4 x4 r4 c1 HLn;go_wp2;go_roundw
   case rel=>exact⟨i+1,by go_num,by omega,HX4,HF4,HZ4,HL4⟩
   case measure=>simp[intOf];omega
  ·have i1:¬(i:Int)<(m:Int):=by omega
   have e:i=m:=by omega
   subst e;have HXx:=aa hx;have x1:wr.cell? ⟨X,1,none⟩=some (.slice vo n vc):=by rw[sR wr X 1 _ _ _ hx.at_];rfl
   have x2:wr.cell? ⟨X,2,none⟩=some (.bool (Rst i)):=by rw[sR wr X 2 _ _ _ hx.at_];rfl
   have z0:wr.cell? ⟨w.heap.size,0,none⟩=some (.slice none 0 0):=by rw[sR wr _ 0 _ _ _ HZ.o];rfl
   have z1:wr.cell? ⟨w.heap.size,1,none⟩=some (.bool false):=by rw[sR wr _ 1 _ _ _ HZ.o];rfl
   have f0:=sV wr _ 0 _ _ HZ.o;have f1:=sV wr _ 1 _ _ HZ.o;clear hx;go_wp2;obtain⟨w5,hw5⟩:=am ((wr.setCell ⟨w.heap.size,0,none⟩ (.slice vo n vc)).setCell ⟨w.heap.size,1,none⟩ (.bool (Rst i)));rw[<- hw5];have k5:dm w.heap.size wr w5:=by rw[hw5];exact(dm.set _ 0 wr _).trans (dm.set _ 1 _ _)
   have z5:w5.heap[w.heap.size]?=some (.cells #[.slice vo n vc,.bool (Rst i)] 63 (0,0)):=by
    have h0:=sW wr w.heap.size 0 _ _ (.slice vo n vc) HZ.o;rw[hw5,sW _ w.heap.size 1 _ _ _ h0]
    rfl
   have y0:w5.cell? ⟨w.heap.size,0,none⟩=some (.slice vo n vc):=by rw[sR w5 _ 0 _ _ _ z5];rfl
   have y1:w5.cell? ⟨w.heap.size,1,none⟩=some (.bool (Rst i)):=by rw[sR w5 _ 1 _ _ _ z5];rfl
   refine bodyPost_ret (v:=.tuple #[.agg #[.slice vo n vc,.bool (Rst i)],.int .i64 0,.int .i64 0]) ?_ rfl ?_
   ·simp[results,Tryz.f45,go_sem,y0,y1]
   ·rw[<- HM.o]
    refine⟨vo,vc,by rw[HXx.o.hn],?_,?_⟩
    ·have r5:dk w.heap.size w5 X g nc vs vo n vc (T i) xs (Rst i) (Rd i):=by
      refine⟨(k5.block X (by have:=HXw.o;omega)).trans HXx.o.at_,?_,⟨HXx.o.own.1,HXx.o.own.2.imp (fun e=>e) fun⟨q,cap,cur,c1,c2,c3,c4⟩=>⟨q,cap,cur,c1,c2,(k5.block q (fun e=>by rw[e,HZ.o]at c3;cases c3)).trans c3,c4⟩⟩,HXx.o.rul.kt (fun b c t fr hb ht=>(k5.block b (fun e=>by
       rw[e,HZ.o]at hb
       cases hb
       rcases ht with ht|ht<;>cases ht)).trans hb),HXx.o.hn,HXx.o.lx,HXx.o.lg⟩
      obtain⟨cur,h1,h2⟩:=HXx.o.nm;exact⟨cur,(k5.block g (by have:=HG.o;omega)).trans h1,h2⟩
     exact r5.rules
    ·exact⟨k5.os.trans HF.o.os,k5.tape.trans HF.o.tape,k5.output.trans HF.o.output,by rw[k5.size];exact HF.o.size,fun b hb hne=>(k5.block b (by omega)).trans (HF.o.block b hb hne)⟩
end Pt
end
section
open Ev Go.RowKit
namespace Pt
def aj:List sU:=[.string ⟨#[79,116,104,101,114]⟩,.string ⟨#[66,107]⟩,.string ⟨#[67,114]⟩,.string ⟨#[76,102]⟩,.string ⟨#[83,112]⟩,.string ⟨#[90,119]⟩,.string ⟨#[87,106]⟩,.string ⟨#[71,108]⟩,.string ⟨#[67,109]⟩,.string ⟨#[79,112]⟩,.string ⟨#[67,112]⟩,.string ⟨#[67,108]⟩,.string ⟨#[81,117]⟩,.string ⟨#[69,120]⟩,.string ⟨#[73,115]⟩,.string ⟨#[83,121]⟩,.string ⟨#[72,121]⟩,.string ⟨#[66,97]⟩,.string ⟨#[68,97,115,104]⟩,.string ⟨#[73,110]⟩,.string ⟨#[78,117]⟩,.string ⟨#[80,111]⟩,.string ⟨#[80,114]⟩,.string ⟨#[73,100]⟩,.string ⟨#[78,115]⟩,.string ⟨#[82,105]⟩]
theorem ak:bF aj=true:=by kernel_rfl
theorem zei:zlv (evF Tryz.prog pm 1000000 (mE Tryz.prog pm) 60) 70 aj=true:=by kernel_rfl
theorem lnOv:zwd Tryz.prog (ovN 70 aj):=zsW (iI dP (fun _ hc=>fZ mixed dP hc) 60) ak (by decide) zei
noncomputable def bu:aJ:=evG Tryz.prog pm 1000000 (mE Tryz.prog pm) (ovN 70 aj) 60
theorem ay:bC Tryz.prog bu:=pZ dP (fun _ hc=>fZ mixed dP hc) lnOv 60
def znx:az:=.mk 1 [2] []
def zsh:ByteArray:=⟨#[67,114]⟩
def znv:az:=.mk 1 [3] []
def zsg:ByteArray:=⟨#[76,102]⟩
def znj:az:=.mk 1 [1,2,3] []
def zsf:ByteArray:=⟨#[91,66,107,32,67,114,32,76,102,93]⟩
def bX:az:=.mk 0 [] []
def zse:ByteArray:=⟨#[]⟩
def zmM:az:=.mk 1 [1,2,3,4,5] []
def zsd:ByteArray:=⟨#[91,66,107,32,67,114,32,76,102,32,83,112,32,90,119,93]⟩
def zmB:az:=.mk 2 [] [(.mk 1 [5] []),(.mk 4 [] [(.mk 1 [4] [])])]
def zsc:ByteArray:=⟨#[90,119,32,83,112,42]⟩
def zmz:az:=.mk 1 [0,6,7,8,9,10,11,12,13,14,15,16,17,18,19,20,21,22,23,24,25] []
def zsb:ByteArray:=⟨#[91,94,66,107,32,67,114,32,76,102,32,83,112,32,90,119,93]⟩
def zmx:az:=.mk 1 [8] []
def zsa:ByteArray:=⟨#[67,109]⟩
def zmv:az:=.mk 1 [6] []
def zrZ:ByteArray:=⟨#[87,106]⟩
def zmt:az:=.mk 2 [] [(.mk 1 [6] []),(.mk 4 [] [(.mk 1 [8] [])])]
def zrY:ByteArray:=⟨#[87,106,32,67,109,42]⟩
def zeh:az:=.mk 2 [] [(.mk 1 [7] []),(.mk 4 [] [(.mk 1 [8] [])])]
def znu:ByteArray:=⟨#[71,108,32,67,109,42]⟩
def zef:az:=.mk 2 [] [(.mk 1 [0,1,2,3,5,6,7,9,10,11,12,13,14,15,18,19,20,21,22,23,24,25] []),(.mk 4 [] [(.mk 1 [8] [])])]
def znt:ByteArray:=⟨#[91,94,83,112,32,66,97,32,72,121,32,67,109,93,32,67,109,42]⟩
def nh:az:=.mk 1 [7] []
def zns:ByteArray:=⟨#[71,108]⟩
def m8:az:=.mk 2 [] [(.mk 1 [8] []),(.mk 4 [] [(.mk 1 [8] [])])]
def znr:ByteArray:=⟨#[32,67,109,32,67,109,42]⟩
def zec:az:=.mk 1 [10,11,13,14,15] []
def znq:ByteArray:=⟨#[91,67,108,32,67,112,32,69,120,32,73,115,32,83,121,93]⟩
def zea:az:=.mk 2 [] [(.mk 1 [9] []),(.mk 4 [] [(.mk 1 [8] [])]),(.mk 4 [] [(.mk 1 [4] [])])]
def znp:ByteArray:=⟨#[79,112,32,67,109,42,32,83,112,42]⟩
def zdY:az:=.mk 2 [] [(.mk 1 [12] []),(.mk 4 [] [(.mk 1 [8] [])]),(.mk 4 [] [(.mk 1 [4] [])])]
def zno:ByteArray:=⟨#[81,117,32,67,109,42,32,83,112,42]⟩
def mZ:az:=.mk 1 [9] []
def znn:ByteArray:=⟨#[79,112]⟩
def zdW:az:=.mk 2 [] [(.mk 1 [10,11] []),(.mk 4 [] [(.mk 1 [8] [])]),(.mk 4 [] [(.mk 1 [4] [])])]
def znm:ByteArray:=⟨#[91,67,108,32,67,112,93,32,67,109,42,32,83,112,42]⟩
def zdU:az:=.mk 1 [24] []
def znl:ByteArray:=⟨#[78,115]⟩
def zdS:az:=.mk 2 [] [(.mk 1 [18] []),(.mk 4 [] [(.mk 1 [8] [])]),(.mk 4 [] [(.mk 1 [4] [])])]
def zni:ByteArray:=⟨#[68,97,115,104,32,67,109,42,32,83,112,42]⟩
def zdQ:az:=.mk 1 [18] []
def znh:ByteArray:=⟨#[68,97,115,104]⟩
def zdO:az:=.mk 1 [4] []
def zng:ByteArray:=⟨#[83,112]⟩
def zdM:az:=.mk 1 [12] []
def znf:ByteArray:=⟨#[81,117]⟩
def zdK:az:=.mk 2 [] [(.mk 1 [12] []),(.mk 4 [] [(.mk 1 [8] [])])]
def zne:ByteArray:=⟨#[81,117,32,67,109,42]⟩
def zdI:az:=.mk 1 [16,17,24] []
def znd:ByteArray:=⟨#[91,66,97,32,72,121,32,78,115,93]⟩
def zdG:az:=.mk 1 [19] []
def znc:ByteArray:=⟨#[73,110]⟩
def iy:az:=.mk 2 [] [(.mk 1 [0] []),(.mk 4 [] [(.mk 1 [8] [])])]
def znb:ByteArray:=⟨#[79,116,104,101,114,32,67,109,42]⟩
def mX:az:=.mk 1 [20] []
def zna:ByteArray:=⟨#[78,117]⟩
def zdE:az:=.mk 2 [] [(.mk 1 [20] []),(.mk 4 [] [(.mk 1 [8] [])])]
def zmZ:ByteArray:=⟨#[78,117,32,67,109,42]⟩
def fi:az:=.mk 1 [0] []
def zmX:ByteArray:=⟨#[79,116,104,101,114]⟩
def zdC:az:=.mk 2 [] [(.mk 1 [22] []),(.mk 4 [] [(.mk 1 [8] [])])]
def zmW:ByteArray:=⟨#[80,114,32,67,109,42]⟩
def zdA:az:=.mk 1 [23] []
def zmV:ByteArray:=⟨#[73,100]⟩
def zdy:az:=.mk 2 [] [(.mk 1 [23] []),(.mk 4 [] [(.mk 1 [8] [])])]
def zmU:ByteArray:=⟨#[73,100,32,67,109,42]⟩
def zdw:az:=.mk 1 [21] []
def zmT:ByteArray:=⟨#[80,111]⟩
def zdu:az:=.mk 2 [] [(.mk 1 [21,22] []),(.mk 4 [] [(.mk 1 [8] [])])]
def zmS:ByteArray:=⟨#[91,80,114,32,80,111,93,32,67,109,42]⟩
def zds:az:=.mk 1 [21,22] []
def zmR:ByteArray:=⟨#[91,80,114,32,80,111,93]⟩
def rM:az:=.mk 2 [] [(.mk 1 [20] []),(.mk 4 [] [(.mk 1 [8] [])]),(.mk 6 [] [(.mk 1 [14,15] [])]),(.mk 4 [] [(.mk 1 [8] [])]),(.mk 6 [] [(.mk 1 [10,11] [])]),(.mk 4 [] [(.mk 1 [8] [])])]
def zmQ:ByteArray:=⟨#[78,117,32,67,109,42,32,91,73,115,32,83,121,93,63,32,67,109,42,32,91,67,108,32,67,112,93,63,32,67,109,42]⟩
def zdp:az:=.mk 1 [21,22] []
def zmP:ByteArray:=⟨#[91,80,111,32,80,114,93]⟩
def zdn:az:=.mk 2 [] [(.mk 1 [21,22] []),(.mk 4 [] [(.mk 1 [8] [])])]
def zmO:ByteArray:=⟨#[91,80,111,32,80,114,93,32,67,109,42]⟩
def pF:az:=.mk 2 [] [(.mk 6 [] [(.mk 3 [] [(.mk 1 [9] []),(.mk 1 [16] [])])]),(.mk 1 [20] [])]
def zmL:ByteArray:=⟨#[40,79,112,32,124,32,72,121,41,63,32,78,117]⟩
def zdk:az:=.mk 2 [] [(.mk 1 [14,15,16,20] []),(.mk 4 [] [(.mk 1 [8] [])])]
def zmK:ByteArray:=⟨#[91,72,121,32,73,115,32,83,121,32,78,117,93,32,67,109,42]⟩
def zdi:az:=.mk 2 [] [(.mk 1 [14] []),(.mk 4 [] [(.mk 1 [8] [])])]
def zmJ:ByteArray:=⟨#[73,115,32,67,109,42]⟩
def zdg:az:=.mk 2 [] [(.mk 1 [0,20] []),(.mk 4 [] [(.mk 1 [8] [])])]
def zmI:ByteArray:=⟨#[91,79,116,104,101,114,32,78,117,93,32,67,109,42]⟩
def zde:az:=.mk 2 [] [(.mk 1 [10] []),(.mk 4 [] [(.mk 1 [8] [])])]
def zmH:ByteArray:=⟨#[67,112,32,67,109,42]⟩
def zdc:az:=.mk 1 [0,20] []
def zmG:ByteArray:=⟨#[91,79,116,104,101,114,32,78,117,93]⟩
def rK:az:=.mk 2 [] [(.mk 4 [] [(.mk 1 [8] [])]),(.mk 4 [] [(.mk 2 [] [(.mk 1 [25] []),(.mk 4 [] [(.mk 1 [8] [])]),(.mk 1 [25] []),(.mk 4 [] [(.mk 1 [8] [])])])]),(.mk 1 [25] []),(.mk 4 [] [(.mk 1 [8] [])])]
def zmF:ByteArray:=⟨#[32,67,109,42,32,40,82,105,32,67,109,42,32,82,105,32,67,109,42,41,42,32,82,105,32,67,109,42]⟩
def mV:az:=.mk 1 [25] []
def zmE:ByteArray:=⟨#[82,105]⟩
def pE:az:=.mk 2 [] [(.mk 1 [0,1,2,3,4,5,6,7,9,10,11,12,13,14,15,16,17,18,19,20,21,22,23,24] []),(.mk 4 [] [(.mk 1 [8] [])]),(.mk 4 [] [(.mk 2 [] [(.mk 1 [25] []),(.mk 4 [] [(.mk 1 [8] [])]),(.mk 1 [25] []),(.mk 4 [] [(.mk 1 [8] [])])])]),(.mk 1 [25] []),(.mk 4 [] [(.mk 1 [8] [])])]
def zmD:ByteArray:=⟨#[91,94,82,105,32,67,109,93,32,67,109,42,32,40,82,105,32,67,109,42,32,82,105,32,67,109,42,41,42,32,82,105,32,67,109,42]⟩
end Pt
end
section
open Go.RowKit
namespace Pt
def qD:List Rl:=[
 ⟨false,false,false,znx,znv⟩,
 ⟨true,false,false,znj,bX⟩,
 ⟨false,false,false,bX,zmM⟩,
 ⟨true,false,false,zmB,bX⟩,
 ⟨false,false,false,zmz,zmx⟩,
 ⟨false,false,false,bX,zmv⟩,
 ⟨false,false,false,zmt,bX⟩,
 ⟨false,false,false,zeh,bX⟩,
 ⟨false,false,false,zef,nh⟩,
 ⟨false,true,false,m8,nh⟩,
 ⟨false,false,false,bX,zec⟩,
 ⟨false,false,false,zea,bX⟩,
 ⟨false,false,false,zdY,mZ⟩,
 ⟨false,false,false,zdW,zdU⟩,
 ⟨false,false,false,zdS,zdQ⟩,
 ⟨true,false,false,zdO,bX⟩,
 ⟨false,false,false,bX,zdM⟩,
 ⟨false,false,false,zdK,bX⟩,
 ⟨false,false,false,bX,zdI⟩,
 ⟨false,false,false,bX,zdG⟩,
 ⟨false,false,false,iy,mX⟩,
 ⟨false,false,false,zdE,fi⟩,
 ⟨false,false,false,zdC,zdA⟩,
 ⟨false,false,false,zdy,zdw⟩,
 ⟨false,false,false,zdu,fi⟩,
 ⟨false,false,false,iy,zds⟩,
 ⟨false,false,false,rM,zdp⟩,
 ⟨false,false,false,zdn,pF⟩,
 ⟨false,false,false,zdk,mX⟩,
 ⟨false,false,false,iy,fi⟩,
 ⟨false,false,false,zdi,fi⟩,
 ⟨false,false,false,zdg,mZ⟩,
 ⟨false,false,false,zde,zdc⟩,
 ⟨false,true,false,rK,mV⟩,
 ⟨false,false,false,pE,mV⟩]
end Pt
end
section
open Ev Go.RowKit
namespace Pt
theorem dk.rest{B:Nat}{w w1 w2:sT}{X g nc:Nat}{vs:List sU}{vo:Option Addr}{n vc:Nat}{rs:List Rl}{xs:List sU}{rest brk:Bool}(h:dk B w X g nc vs vo n vc rs xs rest false)(h1:w1=w.setCell ⟨X,2,none⟩ (.bool brk))(h2:w2=w1.setCell ⟨X,3,none⟩ (.bool true)):
  dk B w2 X g nc vs vo n vc rs xs brk true/\Fr B g w w2/\Fx g X w w2:=by
 have lx:=h.lx;have lg:=h.lg;have k1:dm X w w1:=by rw[h1];exact dm.set X 2 w _
 have k2:dm X w w2:=by rw[h2];exact k1.trans (dm.set X 3 w1 _)
 have e1:w1.heap[X]?=some (.cells #[.slice (some ⟨g,0,none⟩) vs.length nc,.slice vo n vc,.bool brk,.bool false] 87 (0,0)):=by rw[h1,sW w X 2 _ _ _ h.at_];rfl
 have e2:w2.heap[X]?=some (.cells #[.slice (some ⟨g,0,none⟩) vs.length nc,.slice vo n vc,.bool brk,.bool true] 87 (0,0)):=by rw[h2,sW w1 X 3 _ _ _ e1];rfl
 refine⟨⟨e2,?_,⟨h.own.1,h.own.2.imp (fun e=>e) fun⟨q,cap,cur,c1,c2,c3,c4⟩=>⟨q,cap,cur,c1,c2,(k2.block q (fun e=>by
  rw[e,h.at_]at c3
  cases c3)).trans c3,c4⟩⟩,h.rul.kt (fun b c t fr hb ht=>(k2.block b (fun e=>by
  rw[e,h.at_]at hb
  cases hb
  rcases ht with ht|ht<;>cases ht)).trans hb),h.hn,lx,lg⟩,⟨k2.os,k2.tape,k2.output,by rw[k2.size];exact tF _,fun b hb _=>k2.block b (by omega)⟩,fun b o hb _ hne _=>(k2.block b hne).trans hb⟩
 obtain⟨cur,a1,a2⟩:=h.nm;exact⟨cur,(k2.block g (by omega)).trans a1,a2⟩
set_option maxRecDepth 100000 in
theorem zkf(B X g nc:Nat)(vs:List sU)(vo:Option Addr)(n vc:Nat)(rs:List Rl)(xs:List sU)(rest:Bool)(w:sT)(s p:List UInt8)(k:Nat)(brk:Bool)(hX:dk B w X g nc vs vo n vc rs xs rest false)
  (h1:aC 103 (.string ⟨s.toArray⟩) (.string ⟨p.toArray⟩)) (h2:aC 104 (.string ⟨p.toArray⟩) (.int .i64 k)) (hk:k<p.length) (hp9:p.length<=10000) (hb:((p[k].toNat:Int)==47)=brk)
  (h3:aC 105 (.string ((⟨p.toArray⟩:ByteArray).extract 0 k)) (.string ⟨#[114,101,115,116]⟩)) (h4:aC 105 (.string ((⟨p.toArray⟩:ByteArray).extract (k+1) p.length)) (.string ⟨#[]⟩)):
  sX Tryz.prog 72 #[.pointer (some ⟨X,0,none⟩),.string ⟨s.toArray⟩] w (LnQ B w X g nc vs rs brk true):=by
 have HX:=aa hX;have H1:=aa h1;have H2:=aa h2;have H3:=aa h3;have H4:=aa h4;clear hX h1 h2 h3 h4;go_enter Tryz.func72,Tryz.ntmps72;go_wp2_with fail;refine(H1.o w).mono ?_;rintro e w1 ⟨rfl,b1⟩;have HX1:=aa (HX.o.below b1);have HB1:=aa b1;clear b1;have p0:p.isEmpty=false:=by cases p with
  |nil=>simp at hk
  |cons a b=>rfl
 have p1:p≠ []:=by cases p with
  |nil=>simp at hk
  |cons a b=>simp
 go_wp2_with fail;refine(H2.o w1).mono ?_;rintro e w2 ⟨rfl,b2⟩;have HX2:=aa (HX1.o.below b2);have HB2:=aa (HB1.o.trans (b2.mono HB1.o.size));clear b2 HX1 HB1;have x3:w2.cell? ⟨X,3,none⟩=some (.bool false):=by rw[sR w2 X 3 _ _ _ HX2.o.at_];rfl
 have k0:(0:Int)<=(k:Int):=by omega
 have k1:(k:Int)<(p.length:Int):=by omega
 have k2:¬(k:Int)<0:=by omega
 have d1:decide ((k:Int)<0)=false:=decide_eq_false (by omega)
 have k3:(k:Int)<=(p.length:Int):=by omega
 have k4:(k:Int)+1<=(p.length:Int):=by omega
 go_wp2_with fail;have e9:((((⟨p.toArray⟩:ByteArray)[k]'(by show k<p.toArray.size;simpa using hk)).toNat:Int)==47)=brk:=hb
 rw[e9];clear e9 hb;have e8:tz.wrap ((k:Int)+1)=(k:Int)+1:=by unfold tp tq tj;simp;omega
 have k5:(0:Int)<=(k:Int)+1:=by omega
 refine au [(0,true),(1,true),(2,true),(4,true),(5,true),(6,true),(7,true),(3,false),(8,false),(9,false),(10,false)] (fun _=>True) (fun _=>false) (by kernel_rfl) (by kernel_rfl) (fun j hj=>by cases hj) rfl (by kernel_rfl) trivial ?_
 iterate 7 (refine ax ?_ rfl (by kernel_rfl) (fun w' hS=>?_) ?_;(rotate_left;(go_simp;with_reducible rfl);rotate_left))
 refine av rfl (by kernel_rfl) fun KK hKK=>?_
 go_simp;refine(H3.o w2.drew).mono ?_;rintro e w3 ⟨rfl,b3⟩;have HB3:ae (tr w2.heap.size w2 w3):=aa ⟨b3.os,b3.tape,b3.output,b3.size,b3.block⟩;clear b3;refine hKK _ _ (fun _=>trivial) ?_
 clear hKK;refine av rfl (by kernel_rfl) fun KK hKK=>?_
 go_simp;refine(H4.o w3).mono ?_;rintro e w4 ⟨rfl,b4⟩;have HB4:ae (tr w2.heap.size w2 w4):=aa (HB3.o.trans (b4.mono HB3.o.size));clear b4 HB3;refine hKK _ _ (fun _=>trivial) ?_
 clear hKK;refine av rfl (by kernel_rfl) fun KK hKK=>?_
 go_simp;refine hKK _ _ (fun _=>trivial) ?_
 clear hKK;refine av rfl (by kernel_rfl) fun KK hKK=>?_
 go_simp;refine hKK _ _ (fun _=>trivial) ?_
 clear hKK;refine aS (tk ?_);have HX4:=aa (HX2.o.below HB4.o);have HBw:=aa (HB2.o.trans (HB4.o.mono HB2.o.size));have HF4:ae (Fr B g w w4):=aa (.of (.of HBw.o) (by have:=ag HX.o.at_;have:=HX.o.lx;omega))
 have HFx:ae (Fx g X w w4):=aa (.of (.of HBw.o));have y2:w4.cell? ⟨X,2,none⟩=some (.bool rest):=by rw[sR w4 X 2 _ _ _ HX4.o.at_];rfl
 have f2:w4.frozen? ⟨X,2,none⟩=false:=sV w4 X 2 _ _ HX4.o.at_;have HR:=aa (fun(u1 u2:sT)(e1:u1=w4.setCell ⟨X,2,none⟩ (.bool brk))(e2:u2=u1.setCell ⟨X,3,none⟩ (.bool true))=>dk.rest HX4.o e1 e2)
 have m3:(w4.setCell ⟨X,2,none⟩ (.bool brk)).cell? ⟨X,3,none⟩=some (.bool false):=by rw[sR _ X 3 _ _ _ (sW w4 X 2 _ _ (.bool brk) HX4.o.at_)];rfl
 have m4:(w4.setCell ⟨X,2,none⟩ (.bool brk)).frozen? ⟨X,3,none⟩=false:=sV _ X 3 _ _ (sW w4 X 2 _ _ (.bool brk) HX4.o.at_);have xl:X<w4.heap.size:=ag HX4.o.at_;clear x3 HX2 HB2 HB4 k2 k3 k4 k5 d1 e8 p0 p1 HX;go_wp2;go_ret;obtain⟨r1,r2,r3⟩:=HR.o _ _ rfl rfl;exact⟨rfl,HF4.o.trans r2,HFx.o.trans r3,_,_,_,_,r1⟩
end Pt
end
section
open Ev Go.RowKit
namespace Pt
theorem zmA:bp bu 106 zsc aj zmB=true:=by kernel_rfl
theorem zge(g nc:Nat)(w:sT)(hN:aP w g nc aj):sX Tryz.prog 106 #[.string zsc,.slice (some ⟨g,0,none⟩) 26 nc] w (dM g nc aj w zmB):=ar ay ak zmA g nc w hN
theorem zjZ:bp bu 106 znr aj m8=true:=by kernel_rfl
theorem zed(g nc:Nat)(w:sT)(hN:aP w g nc aj):sX Tryz.prog 106 #[.string znr,.slice (some ⟨g,0,none⟩) 26 nc] w (dM g nc aj w m8):=ar ay ak zjZ g nc w hN
theorem zjX:bp bu 106 znp aj zea=true:=by kernel_rfl
theorem zdZ(g nc:Nat)(w:sT)(hN:aP w g nc aj):sX Tryz.prog 106 #[.string znp,.slice (some ⟨g,0,none⟩) 26 nc] w (dM g nc aj w zea):=ar ay ak zjX g nc w hN
theorem zjT:bp bu 106 znl aj zdU=true:=by kernel_rfl
theorem zdT(g nc:Nat)(w:sT)(hN:aP w g nc aj):sX Tryz.prog 106 #[.string znl,.slice (some ⟨g,0,none⟩) 26 nc] w (dM g nc aj w zdU):=ar ay ak zjT g nc w hN
theorem zjR:bp bu 106 znh aj zdQ=true:=by kernel_rfl
theorem zdP(g nc:Nat)(w:sT)(hN:aP w g nc aj):sX Tryz.prog 106 #[.string znh,.slice (some ⟨g,0,none⟩) 26 nc] w (dM g nc aj w zdQ):=ar ay ak zjR g nc w hN
theorem zjH:bp bu 106 zmW aj zdC=true:=by kernel_rfl
theorem zdB(g nc:Nat)(w:sT)(hN:aP w g nc aj):sX Tryz.prog 106 #[.string zmW,.slice (some ⟨g,0,none⟩) 26 nc] w (dM g nc aj w zdC):=ar ay ak zjH g nc w hN
theorem zjG:bp bu 106 zmV aj zdA=true:=by kernel_rfl
theorem zdz(g nc:Nat)(w:sT)(hN:aP w g nc aj):sX Tryz.prog 106 #[.string zmV,.slice (some ⟨g,0,none⟩) 26 nc] w (dM g nc aj w zdA):=ar ay ak zjG g nc w hN
theorem zjv:bp bu 106 zmI aj zdg=true:=by kernel_rfl
theorem zdf(g nc:Nat)(w:sT)(hN:aP w g nc aj):sX Tryz.prog 106 #[.string zmI,.slice (some ⟨g,0,none⟩) 26 nc] w (dM g nc aj w zdg):=ar ay ak zjv g nc w hN
theorem zjq:bp bu 106 zmD aj pE=true:=by kernel_rfl
theorem zcZ(g nc:Nat)(w:sT)(hN:aP w g nc aj):sX Tryz.prog 106 #[.string zmD,.slice (some ⟨g,0,none⟩) 26 nc] w (dM g nc aj w pE):=ar ay ak zjq g nc w hN
end Pt
end
section
open Ev Go.RowKit
namespace Pt
theorem znk:bp bu 106 zsg aj znv=true:=by kernel_rfl
theorem zgh(g nc:Nat)(w:sT)(hN:aP w g nc aj):sX Tryz.prog 106 #[.string zsg,.slice (some ⟨g,0,none⟩) 26 nc] w (dM g nc aj w znv):=ar ay ak znk g nc w hN
theorem zmN:bp bu 106 zse aj bX=true:=by kernel_rfl
theorem bi(g nc:Nat)(w:sT)(hN:aP w g nc aj):sX Tryz.prog 106 #[.string zse,.slice (some ⟨g,0,none⟩) 26 nc] w (dM g nc aj w bX):=ar ay ak zmN g nc w hN
theorem zkc:bp bu 106 znu aj zeh=true:=by kernel_rfl
theorem zeg(g nc:Nat)(w:sT)(hN:aP w g nc aj):sX Tryz.prog 106 #[.string znu,.slice (some ⟨g,0,none⟩) 26 nc] w (dM g nc aj w zeh):=ar ay ak zkc g nc w hN
theorem zka:bp bu 106 zns aj nh=true:=by kernel_rfl
theorem na(g nc:Nat)(w:sT)(hN:aP w g nc aj):sX Tryz.prog 106 #[.string zns,.slice (some ⟨g,0,none⟩) 26 nc] w (dM g nc aj w nh):=ar ay ak zka g nc w hN
theorem zjU:bp bu 106 znm aj zdW=true:=by kernel_rfl
theorem zdV(g nc:Nat)(w:sT)(hN:aP w g nc aj):sX Tryz.prog 106 #[.string znm,.slice (some ⟨g,0,none⟩) 26 nc] w (dM g nc aj w zdW):=ar ay ak zjU g nc w hN
theorem zjM:bp bu 106 znc aj zdG=true:=by kernel_rfl
theorem zdF(g nc:Nat)(w:sT)(hN:aP w g nc aj):sX Tryz.prog 106 #[.string znc,.slice (some ⟨g,0,none⟩) 26 nc] w (dM g nc aj w zdG):=ar ay ak zjM g nc w hN
theorem zjB:bp bu 106 zmQ aj rM=true:=by kernel_rfl
theorem zdq(g nc:Nat)(w:sT)(hN:aP w g nc aj):sX Tryz.prog 106 #[.string zmQ,.slice (some ⟨g,0,none⟩) 26 nc] w (dM g nc aj w rM):=ar ay ak zjB g nc w hN
theorem zjz:bp bu 106 zmO aj zdn=true:=by kernel_rfl
theorem zdm(g nc:Nat)(w:sT)(hN:aP w g nc aj):sX Tryz.prog 106 #[.string zmO,.slice (some ⟨g,0,none⟩) 26 nc] w (dM g nc aj w zdn):=ar ay ak zjz g nc w hN
theorem zjw:bp bu 106 zmJ aj zdi=true:=by kernel_rfl
theorem zdh(g nc:Nat)(w:sT)(hN:aP w g nc aj):sX Tryz.prog 106 #[.string zmJ,.slice (some ⟨g,0,none⟩) 26 nc] w (dM g nc aj w zdi):=ar ay ak zjw g nc w hN
theorem zjt:bp bu 106 zmG aj zdc=true:=by kernel_rfl
theorem zdb(g nc:Nat)(w:sT)(hN:aP w g nc aj):sX Tryz.prog 106 #[.string zmG,.slice (some ⟨g,0,none⟩) 26 nc] w (dM g nc aj w zdc):=ar ay ak zjt g nc w hN
end Pt
end
section
open Ev Go.RowKit
namespace Pt
theorem zjY:bp bu 106 znq aj zec=true:=by kernel_rfl
theorem zeb(g nc:Nat)(w:sT)(hN:aP w g nc aj):sX Tryz.prog 106 #[.string znq,.slice (some ⟨g,0,none⟩) 26 nc] w (dM g nc aj w zec):=ar ay ak zjY g nc w hN
theorem zjQ:bp bu 106 zng aj zdO=true:=by kernel_rfl
theorem zdN(g nc:Nat)(w:sT)(hN:aP w g nc aj):sX Tryz.prog 106 #[.string zng,.slice (some ⟨g,0,none⟩) 26 nc] w (dM g nc aj w zdO):=ar ay ak zjQ g nc w hN
theorem zjN:bp bu 106 znd aj zdI=true:=by kernel_rfl
theorem zdH(g nc:Nat)(w:sT)(hN:aP w g nc aj):sX Tryz.prog 106 #[.string znd,.slice (some ⟨g,0,none⟩) 26 nc] w (dM g nc aj w zdI):=ar ay ak zjN g nc w hN
theorem zjJ:bp bu 106 zmZ aj zdE=true:=by kernel_rfl
theorem zdD(g nc:Nat)(w:sT)(hN:aP w g nc aj):sX Tryz.prog 106 #[.string zmZ,.slice (some ⟨g,0,none⟩) 26 nc] w (dM g nc aj w zdE):=ar ay ak zjJ g nc w hN
theorem zjI:bp bu 106 zmX aj fi=true:=by kernel_rfl
theorem fh(g nc:Nat)(w:sT)(hN:aP w g nc aj):sX Tryz.prog 106 #[.string zmX,.slice (some ⟨g,0,none⟩) 26 nc] w (dM g nc aj w fi):=ar ay ak zjI g nc w hN
theorem zjE:bp bu 106 zmT aj zdw=true:=by kernel_rfl
theorem zdv(g nc:Nat)(w:sT)(hN:aP w g nc aj):sX Tryz.prog 106 #[.string zmT,.slice (some ⟨g,0,none⟩) 26 nc] w (dM g nc aj w zdw):=ar ay ak zjE g nc w hN
theorem zjD:bp bu 106 zmS aj zdu=true:=by kernel_rfl
theorem zdt(g nc:Nat)(w:sT)(hN:aP w g nc aj):sX Tryz.prog 106 #[.string zmS,.slice (some ⟨g,0,none⟩) 26 nc] w (dM g nc aj w zdu):=ar ay ak zjD g nc w hN
theorem zjA:bp bu 106 zmP aj zdp=true:=by kernel_rfl
theorem zdo(g nc:Nat)(w:sT)(hN:aP w g nc aj):sX Tryz.prog 106 #[.string zmP,.slice (some ⟨g,0,none⟩) 26 nc] w (dM g nc aj w zdp):=ar ay ak zjA g nc w hN
theorem zjs:bp bu 106 zmF aj rK=true:=by kernel_rfl
theorem zda(g nc:Nat)(w:sT)(hN:aP w g nc aj):sX Tryz.prog 106 #[.string zmF,.slice (some ⟨g,0,none⟩) 26 nc] w (dM g nc aj w rK):=ar ay ak zjs g nc w hN
end Pt
end
section
open Ev Go.RowKit
namespace Pt
theorem znw:bp bu 106 zsh aj znx=true:=by kernel_rfl
theorem zgi(g nc:Nat)(w:sT)(hN:aP w g nc aj):sX Tryz.prog 106 #[.string zsh,.slice (some ⟨g,0,none⟩) 26 nc] w (dM g nc aj w znx):=ar ay ak znw g nc w hN
theorem zmC:bp bu 106 zsd aj zmM=true:=by kernel_rfl
theorem zgf(g nc:Nat)(w:sT)(hN:aP w g nc aj):sX Tryz.prog 106 #[.string zsd,.slice (some ⟨g,0,none⟩) 26 nc] w (dM g nc aj w zmM):=ar ay ak zmC g nc w hN
theorem zmu:bp bu 106 zrZ aj zmv=true:=by kernel_rfl
theorem zgb(g nc:Nat)(w:sT)(hN:aP w g nc aj):sX Tryz.prog 106 #[.string zrZ,.slice (some ⟨g,0,none⟩) 26 nc] w (dM g nc aj w zmv):=ar ay ak zmu g nc w hN
theorem zms:bp bu 106 zrY aj zmt=true:=by kernel_rfl
theorem zga(g nc:Nat)(w:sT)(hN:aP w g nc aj):sX Tryz.prog 106 #[.string zrY,.slice (some ⟨g,0,none⟩) 26 nc] w (dM g nc aj w zmt):=ar ay ak zms g nc w hN
theorem zkb:bp bu 106 znt aj zef=true:=by kernel_rfl
theorem zee(g nc:Nat)(w:sT)(hN:aP w g nc aj):sX Tryz.prog 106 #[.string znt,.slice (some ⟨g,0,none⟩) 26 nc] w (dM g nc aj w zef):=ar ay ak zkb g nc w hN
theorem zjW:bp bu 106 zno aj zdY=true:=by kernel_rfl
theorem zdX(g nc:Nat)(w:sT)(hN:aP w g nc aj):sX Tryz.prog 106 #[.string zno,.slice (some ⟨g,0,none⟩) 26 nc] w (dM g nc aj w zdY):=ar ay ak zjW g nc w hN
theorem zjP:bp bu 106 znf aj zdM=true:=by kernel_rfl
theorem zdL(g nc:Nat)(w:sT)(hN:aP w g nc aj):sX Tryz.prog 106 #[.string znf,.slice (some ⟨g,0,none⟩) 26 nc] w (dM g nc aj w zdM):=ar ay ak zjP g nc w hN
theorem zjF:bp bu 106 zmU aj zdy=true:=by kernel_rfl
theorem zdx(g nc:Nat)(w:sT)(hN:aP w g nc aj):sX Tryz.prog 106 #[.string zmU,.slice (some ⟨g,0,none⟩) 26 nc] w (dM g nc aj w zdy):=ar ay ak zjF g nc w hN
theorem zjC:bp bu 106 zmR aj zds=true:=by kernel_rfl
theorem zdr(g nc:Nat)(w:sT)(hN:aP w g nc aj):sX Tryz.prog 106 #[.string zmR,.slice (some ⟨g,0,none⟩) 26 nc] w (dM g nc aj w zds):=ar ay ak zjC g nc w hN
theorem zjy:bp bu 106 zmL aj pF=true:=by kernel_rfl
theorem zdl(g nc:Nat)(w:sT)(hN:aP w g nc aj):sX Tryz.prog 106 #[.string zmL,.slice (some ⟨g,0,none⟩) 26 nc] w (dM g nc aj w pF):=ar ay ak zjy g nc w hN
theorem zjr:bp bu 106 zmE aj mV=true:=by kernel_rfl
theorem mU(g nc:Nat)(w:sT)(hN:aP w g nc aj):sX Tryz.prog 106 #[.string zmE,.slice (some ⟨g,0,none⟩) 26 nc] w (dM g nc aj w mV):=ar ay ak zjr g nc w hN
end Pt
end
section
open Ev Go.RowKit
namespace Pt
theorem zmY:bp bu 106 zsf aj znj=true:=by kernel_rfl
theorem zgg(g nc:Nat)(w:sT)(hN:aP w g nc aj):sX Tryz.prog 106 #[.string zsf,.slice (some ⟨g,0,none⟩) 26 nc] w (dM g nc aj w znj):=ar ay ak zmY g nc w hN
theorem zmy:bp bu 106 zsb aj zmz=true:=by kernel_rfl
theorem zgd(g nc:Nat)(w:sT)(hN:aP w g nc aj):sX Tryz.prog 106 #[.string zsb,.slice (some ⟨g,0,none⟩) 26 nc] w (dM g nc aj w zmz):=ar ay ak zmy g nc w hN
theorem zmw:bp bu 106 zsa aj zmx=true:=by kernel_rfl
theorem zgc(g nc:Nat)(w:sT)(hN:aP w g nc aj):sX Tryz.prog 106 #[.string zsa,.slice (some ⟨g,0,none⟩) 26 nc] w (dM g nc aj w zmx):=ar ay ak zmw g nc w hN
theorem zjV:bp bu 106 znn aj mZ=true:=by kernel_rfl
theorem mY(g nc:Nat)(w:sT)(hN:aP w g nc aj):sX Tryz.prog 106 #[.string znn,.slice (some ⟨g,0,none⟩) 26 nc] w (dM g nc aj w mZ):=ar ay ak zjV g nc w hN
theorem zjS:bp bu 106 zni aj zdS=true:=by kernel_rfl
theorem zdR(g nc:Nat)(w:sT)(hN:aP w g nc aj):sX Tryz.prog 106 #[.string zni,.slice (some ⟨g,0,none⟩) 26 nc] w (dM g nc aj w zdS):=ar ay ak zjS g nc w hN
theorem zjO:bp bu 106 zne aj zdK=true:=by kernel_rfl
theorem zdJ(g nc:Nat)(w:sT)(hN:aP w g nc aj):sX Tryz.prog 106 #[.string zne,.slice (some ⟨g,0,none⟩) 26 nc] w (dM g nc aj w zdK):=ar ay ak zjO g nc w hN
theorem zjL:bp bu 106 znb aj iy=true:=by kernel_rfl
theorem iw(g nc:Nat)(w:sT)(hN:aP w g nc aj):sX Tryz.prog 106 #[.string znb,.slice (some ⟨g,0,none⟩) 26 nc] w (dM g nc aj w iy):=ar ay ak zjL g nc w hN
theorem zjK:bp bu 106 zna aj mX=true:=by kernel_rfl
theorem mW(g nc:Nat)(w:sT)(hN:aP w g nc aj):sX Tryz.prog 106 #[.string zna,.slice (some ⟨g,0,none⟩) 26 nc] w (dM g nc aj w mX):=ar ay ak zjK g nc w hN
theorem zjx:bp bu 106 zmK aj zdk=true:=by kernel_rfl
theorem zdj(g nc:Nat)(w:sT)(hN:aP w g nc aj):sX Tryz.prog 106 #[.string zmK,.slice (some ⟨g,0,none⟩) 26 nc] w (dM g nc aj w zdk):=ar ay ak zjx g nc w hN
theorem zju:bp bu 106 zmH aj zde=true:=by kernel_rfl
theorem zdd(g nc:Nat)(w:sT)(hN:aP w g nc aj):sX Tryz.prog 106 #[.string zmH,.slice (some ⟨g,0,none⟩) 26 nc] w (dM g nc aj w zde):=ar ay ak zju g nc w hN
end Pt
end
end Go.Proofs.YtbbapnpdfcgjnaaGreatDoor
