/- PtEv, PtLine2, PtLine3, PtPs, PtRunLi0, PtLiR, PtRest, PtRunLi1, PtRunLi2, PtRunLi3, PtRunLi4, PtRunLi5: parts of the proof, joined. -/
import Derived.Test.YtbbapnpdfcgjnaaGreatDoorMSdSome
import Derived.Test.YtbbapnpdfcgjnaaGreatDoorMPtBas
open Go renaming cell_of_row->sD, World->sG, Value->sH, frozen_of_row->sI, heap_setCell_same->sJ, Calls->sK, FuncId->tr
open Go.World renaming cell?_of_block->sE, block_lt_of_cell?->tg
open List renaming getElem?_eq_getElem->sL, getElem?_eq_some_iff->sO, length_pos_iff->sR, getElem?_take_of_lt->sS, getElem?_append_right->ta, getElem?_append_left->tb, getLast?_eq_getElem?->tc, head?_eq_getElem?->ti, getElem?_drop->tm, drop_zero->tu
open Nat renaming lt_of_lt_of_le->sM, le_of_ble_eq_true->sQ, beq->sT, le_refl->tk, le_trans->tp, ble->tw
open Bool renaming and_eq_true->sN
open Go.Value renaming slice->sP, bool->tn
open Go.IntKind renaming signed->sU, wrap->sX, bits->sY, i64->td
open Go.NoPanic renaming normal->sV
open And renaming intro->sW
open Go.RowKit renaming Below->sZ
open Array renaming toList_inj->te
open UInt8 renaming toNat_inj->tj
set_option maxHeartbeats 64000000
namespace Go.Proofs.YtbbapnpdfcgjnaaGreatDoor
section
open Ev Go.RowKit
namespace Pt
structure Oth (g:Nat) (w w':sG):Prop where
 os:w'.os=w.os
 tape:w'.tape=w.tape
 output:w'.output=w.output
 size:w.heap.size<=w'.heap.size
 block:∀b,b<w.heap.size->b≠g->w'.heap[b]? =w.heap[b]?
theorem Oth.trans {g:Nat} {w v u:sG} (h:Oth g w v) (k:Oth g v u):Oth g w u:=⟨k.os.trans h.os,k.tape.trans h.tape,k.output.trans h.output,tp h.size k.size,fun b hb hne=>(k.block b (sM hb h.size) hne).trans (h.block b hb hne)⟩
theorem Oth.of {g:Nat} {w w':sG} (h:sZ w.heap.size w w'):Oth g w w':=⟨h.os,h.tape,h.output,h.size,fun b hb _=>h.block b hb⟩
theorem Oth.below {g B:Nat} {w w':sG} (h:Oth g w w') (hB:B<=w.heap.size) (hg:B<=g):sZ B w w':=⟨h.os,h.tape,h.output,h.size,fun b hb=>h.block b (by omega) (by omega)⟩
def RdIx (w:sG) (ao:Option Addr) (l:List Int):Prop:=∀(k:Nat) (z:Int),l[k]? =some z->∃b o c fr,ao=some ⟨b,o,none⟩/\w.heap[b]? =some (.cells c 3 fr)/\c[o+k]? =some (.int .i64 z)
mutual
def bV (w:sG):ax->sH->sH->sH->Prop
 | .mk op cls kids,v0,v1,v2=>v0= .int .i64 op/\(∃co cc,v1= .slice co cls.length cc/\RdIx w co cls/\cls.length<=1000000)/\(∃ko kc,v2= .slice ko kids.length kc/\gT w kids ko 0/\kids.length<=1000000/\kids.length<=kc)
def gT (w:sG):List ax->Option Addr->Nat->Prop
 | [],_,_=>True
 | p::ps,ko,i=>(∃b o c fr,ko=some ⟨b,o,none⟩/\w.heap[b]? =some (.cells c 105 fr)/\∃v0 v1 v2,c[o+i * 3]? =some v0/\c[o+i * 3+1]? =some v1/\c[o+i * 3+2]? =some v2/\bV w p v0 v1 v2)/\gT w ps ko (i+1)
end
def KtP (w w':sG):Prop:=∀(b:Nat) (c:Array sH) (t:TypeId) (fr:Nat × Nat),w.heap[b]? =some (.cells c t fr)->(t=3\/t=105)->w'.heap[b]? =some (.cells c t fr)
theorem KtP.of {w w':sG} (h:sZ w.heap.size w w'):KtP w w':=fun b _ _ _ hb _=>(h.block b (ae hb)).trans hb
mutual
theorem bV.to {w:sG}:∀(p:ax) (v0 v1 v2:sH),bV w p v0 v1 v2->cv w p v0 v1 v2
 | .mk op cls kids,v0,v1,v2,h=>by
  unfold bV at h;unfold cv;obtain⟨h1,⟨co,cc,h2,h3,h4⟩,ko,kc,h5,h6,h7⟩:=h;refine⟨h1,⟨co,cc,h2,fun k z hk=>?_,h4⟩,ko,kc,h5,gT.to kids ko 0 h6,h7⟩
  obtain⟨b,o,c,fr,a1,a2,a3⟩:=h3 k z hk;exact⟨_,a1,ae a2,by rw[Addr.add_lit,sD w b _ c _ _ a2];exact a3⟩
theorem gT.to {w:sG}:∀(ps:List ax) (ko:Option Addr) (i:Nat),gT w ps ko i->gu w ps ko i
 | [],_,_,_=>by unfold gu;trivial
 | p::ps,ko,i,h=>by
  unfold gT at h;unfold gu;obtain⟨⟨b,o,c,fr,h1,h2,v0,v1,v2,h3,h4,h5,h6⟩,h7⟩:=h;exact⟨⟨b,o,h1,ae h2,v0,v1,v2,by rw[sD w b _ c _ _ h2];exact h3,by rw[sD w b _ c _ _ h2];exact h4,by rw[sD w b _ c _ _ h2];exact h5,bV.to p _ _ _ h6⟩,gT.to ps ko (i+1) h7⟩
end
mutual
theorem bV.kt {w w':sG} (ho:KtP w w'):∀(p:ax) (v0 v1 v2:sH),bV w p v0 v1 v2->bV w' p v0 v1 v2
 | .mk op cls kids,v0,v1,v2,h=>by
  unfold bV at h⊢;obtain⟨h1,⟨co,cc,h2,h3,h4⟩,ko,kc,h5,h6,h7⟩:=h;refine⟨h1,⟨co,cc,h2,fun k z hk=>?_,h4⟩,ko,kc,h5,gT.kt ho kids ko 0 h6,h7⟩
  obtain⟨b,o,c,fr,a1,a2,a3⟩:=h3 k z hk;exact⟨b,o,c,fr,a1,ho b c _ fr a2 (.inl rfl),a3⟩
theorem gT.kt {w w':sG} (ho:KtP w w'):∀(ps:List ax) (ko:Option Addr) (i:Nat),gT w ps ko i->gT w' ps ko i
 | [],_,_,_=>by unfold gT;trivial
 | p::ps,ko,i,h=>by
  unfold gT at h⊢;obtain⟨⟨b,o,c,fr,h1,h2,v0,v1,v2,h3,h4,h5,h6⟩,h7⟩:=h;exact⟨⟨b,o,c,fr,h1,ho b c _ fr h2 (.inr rfl),v0,v1,v2,h3,h4,h5,bV.kt ho p _ _ _ h6⟩,gT.kt ho ps ko (i+1) h7⟩
end
noncomputable def zhv (A:AW) (u:sH) (n:Nat) (es t:Nat) (k:List sH->Bool):Bool:=match u with
 | .slice none m _=>sT m n&&sT n 0
 | .slice (some a) m c=>sT m n&&(tw n c&&match n with
  | 0=>true
  | _=>match A.get a.block with
   | some (.cells vs t' _ _ _)=>sT t' t&&(tw (a.off+n * es) vs.length)&&k (vs.drop a.off)
   | _=>false)
 | _=>false
theorem zcm {A:AW} {μ:Mu} {w:sG} {u v:sH} {n es t:Nat} {k:List sH->Bool} (h:zhv A u n es t k=true) (W:WR μ A w) (hv:VR μ u v):
  ∃vo vc,v= .slice vo n vc/\n<=vc/\(n=0\/∃b o c fr us,vo=some ⟨b,o,none⟩/\w.heap[b]? =some (.cells c t fr)/\(∃i oi li,A.get i=some oi/\μ i=some li/\li.b=b)/\k us=true/\n * es<=us.length/\∀(j:Nat) (x:sH),us[j]? =some x->∃y,c[o+j]? =some y/\VR μ x y):=by
 unfold zhv at h
 split at h
 ·rename_i m c
  simp only[sN] at h
  have e1:=dP h.1;have e2:=dP h.2;subst e1
  simp only[VR] at hv
  exact⟨none,c,hv,by omega,.inl e2⟩
 ·rename_i a m c
  simp only[sN] at h
  have e1:=dP h.1;subst e1
  simp only[VR] at hv
  obtain⟨a',c',rfl,hs⟩:=hv;have h20:=h.2;refine⟨some a',c',rfl,?_,?_⟩
  ·rcases hs with ⟨_,h3,_⟩ | ⟨_,h3⟩
   ·rw[h3];exact sQ h20.1
   ·rcases h3 with ⟨h3,_⟩ | ⟨_,h4,_⟩
    ·omega
    ·exact h4
  by_cases hm:m=0
  ·exact .inl hm
  obtain⟨q,rfl⟩:∃q,m=q+1:=⟨m - 1,by omega⟩
  have h2:=h20.2
  simp only[] at h2
  split at h2
  ·rename_i vs t' op fz e hobj
   simp only[sN] at h2
   obtain⟨⟨e3,e4⟩,hk⟩:=h2;have e4':=sQ e4;have e3':=dP e3;subst e3';have hl:∃l,μ a.block=some l/\a'=⟨l.b,l.d+a.off,none⟩:=by
    rcases hs with ⟨_,_,h3,l,h4,h5⟩ | ⟨_,h3⟩
    ·exact⟨l,h4,h5⟩
    ·rcases h3 with ⟨h3,_⟩ | ⟨_,_,l,h4,h5,_⟩
     ·omega
     ·exact⟨l,h4,h5⟩
   obtain⟨l,hl1,rfl⟩:=hl;obtain⟨o',g1,c2,fr,rfl,g3,g4,g5,g6,g7,g8⟩:=W.has _ _ _ hobj hl1;refine .inr ⟨l.b,l.d+a.off,c2,fr,vs.drop a.off,rfl,g1,⟨_,_,l,hobj,hl1,rfl⟩,hk,by rw[List.length_drop];omega,fun j x hj=>?_⟩
   rw[tm] at hj;obtain⟨y,hy,hxy⟩:=g7.get hj;have hjl:=(sO.1 hj).1;rw[sS hjl,tm] at hy;refine⟨y,?_,hxy⟩;rw[<- hy]
   simp[Nat.add_assoc]
  ·cases h2
 ·cases h
def zrn (g:ax->sH->sH->sH->Bool):List ax->List sH->Bool
 | [],_=>true
 | p::ps,v0::v1::v2::vs=>g p v0 v1 v2&&zrn g ps vs
 | _,_=>false
noncomputable def zoH (A:AW):Nat->ax->sH->sH->sH->Bool
 | 0,_,_,_,_=>false
 | f+1,.mk op cls kids,u0,u1,u2=>veq u0 (.int .i64 op)&&tw cls.length 1000000&&tw kids.length 1000000&&zhv A u1 cls.length 1 3 (fun vs=>qh (vs.take cls.length) (cls.map fun z=>.int .i64 z))&&zhv A u2 kids.length 3 105 (zrn (zoH A f) kids)
theorem ziM {g:ax->sH->sH->sH->Bool} {w:sG} {μ:Mu} {b o:Nat} {c:Array sH} {fr:Nat × Nat} (hb:w.heap[b]? =some (.cells c 105 fr)):∀(ps:List ax) (i:Nat) (us:List sH),(∀p∈ps,∀u0 u1 u2 v0 v1 v2,g p u0 u1 u2=true->VR μ u0 v0->VR μ u1 v1->VR μ u2 v2->bV w p v0 v1 v2)->zrn g ps us=true->
  (∀(j:Nat) (x:sH),us[j]? =some x->∃y,c[o+i * 3+j]? =some y/\VR μ x y)->gT w ps (some ⟨b,o,none⟩) i
 | [],i,us,_,_,_=>by unfold gT;trivial
 | p::ps,i,us,hg,h,hc=>by
  match us,h with
  | v0::v1::v2::vs,h=>
   simp only[zrn,sN] at h
   unfold gT;obtain⟨y0,c0,r0⟩:=hc 0 v0 rfl;obtain⟨y1,c1,r1⟩:=hc 1 v1 rfl;obtain⟨y2,c2,r2⟩:=hc 2 v2 rfl;refine⟨⟨b,o,c,fr,rfl,hb,y0,y1,y2,c0,c1,c2,hg p (List.mem_cons_self ..) _ _ _ _ _ _ h.1 r0 r1 r2⟩,ziM hb ps (i+1) vs (fun q hq=>hg q (List.mem_cons_of_mem _ hq)) h.2 fun j x hj=>?_⟩
   obtain⟨y,h1,h2⟩:=hc (j+3) x (by simpa using hj)
   refine⟨y,?_,h2⟩;rw[show o+(i+1) * 3+j=o+i * 3+(j+3) by omega]
   exact h1
theorem ziD {A:AW} {μ:Mu} {w:sG} (W:WR μ A w):∀(f:Nat) (p:ax) (u0 u1 u2 v0 v1 v2:sH),zoH A f p u0 u1 u2=true->VR μ u0 v0->VR μ u1 v1->VR μ u2 v2->bV w p v0 v1 v2
 | 0,_,_,_,_,_,_,_,h,_,_,_=>by simp[zoH] at h
 | f+1,.mk op cls kids,u0,u1,u2,v0,v1,v2,h,r0,r1,r2=>by
  simp only[zoH,sN] at h
  obtain⟨⟨⟨⟨h1,h2⟩,h3⟩,h4⟩,h5⟩:=h;have e0:=lJ h1;subst e0;unfold bV;refine⟨by simpa[VR] using r0,?_,?_⟩
  ·obtain⟨vo,vc,e1,_,e2⟩:=zcm h4 W r1
   refine⟨vo,vc,e1,fun k z hk=>?_,sQ h2⟩
   have hkl:=(sO.1 hk).1
   rcases e2 with e2 | ⟨b,o,c,fr,us,rfl,hb,_,hv,hn,hc⟩
   ·omega
   ·have e3:=eV hv
    have e4:us[k]? =some (.int .i64 z):=by
     have:(us.take cls.length)[k]? =some (.int .i64 z):=by rw[e3,List.getElem?_map,hk];rfl
     rwa [sS hkl] at this
    obtain⟨y,hy,hr⟩:=hc k _ e4
    simp only[VR] at hr
    subst hr;exact⟨b,o,c,fr,rfl,hb,hy⟩
  ·obtain⟨vo,vc,e1,e9,e2⟩:=zcm h5 W r2
   refine⟨vo,vc,e1,?_,sQ h3,e9⟩
   rcases e2 with e2 | ⟨b,o,c,fr,us,rfl,hb,_,hv,hn,hc⟩
   ·rw[List.length_eq_zero_iff.1 e2];unfold gT;trivial
   ·exact ziM hb kids 0 us (fun p _ u0 u1 u2 v0 v1 v2 hp a0 a1 a2=>ziD W f p u0 u1 u2 v0 v1 v2 hp a0 a1 a2) hv (by simpa using hc)
noncomputable def nmO (vs:List sH):bp:=.cells vs 9 true none 1
noncomputable def nmA (vs:List sH):AW:=(⟨[],.nil,ng⟩:AW).push (nmO vs)
theorem nI {vs:List sH} {i:Nat} {o:bp} (h:(nmA vs).get i=some o):i=ng/\o=nmO vs:=by
 unfold nmA at h;rw[AW.get_push] at h
 split at h
 ·rename_i e;exact⟨e,(Option.some.inj h).symm⟩
 ·exfalso
  have h':(Tr.nil:Tr bp).get i=some o:=h;rw[Tr.get_nil] at h'
  cases h'
theorem eZ:mu0 ng=none:=rfl
theorem znR {i:Nat} (h:ng<i):iy i=none:=by
 cases hg:iy i with
 | none=>rfl
 | some s=>exact absurd (zif hg) (by omega)
theorem zmb {w:sG} {vs:List sH} {l:Ev.qb} {o':Obj} (hf:bA vs=true) (hh:w.heap[l.b]? =some o') (μ:Mu) (ho:OR μ l (nmO vs) o'):WR (mu0.add ng l) (nmA vs) w:=by
 refine⟨fun i o li hi hl=>?_,fun i j oi oj li lj hi hj _ _ _=>?_,fun i hi=>?_⟩
 ·obtain⟨rfl,rfl⟩:=nI hi
  rw[Mu.add_get eZ] at hl
  cases hl
  refine⟨o',hh,?_⟩
  simp only[nmO,OR] at ho⊢
  obtain⟨c,fr,h1,h2,h3,h4,h5,h6,h7⟩:=ho;refine⟨c,fr,h1,h2,h3,h4,h5,?_,h7⟩;rw[bI hf h6];exact bm hf
 ·rw[(nI hi).1,(nI hj).1]
 ·have h1:(nmA vs).next=ng+1:=rfl
  rw[Mu.add_ne (by omega)]
  show(iy i).map (fun s=>(⟨i,0,s.1,s.2⟩:Ev.qb))=none
  rw[znR (by omega)]
  rfl
theorem zfF {w w':sG} {vs:List sH} {l:Ev.qb} {μ:Mu} {A':AW} (E:bB (mu0.add ng l) (nmA vs) w μ A' w'):Oth l.b w w':=⟨E.os,E.tape,E.output,E.size,fun b hb hne=>E.stay b hb fun i o li hi hl=>by
 obtain⟨rfl,rfl⟩:=nI hi;rw[Mu.add_get eZ] at hl
 cases hl
 exact fun e=>hne e.symm⟩
theorem zsJ {w w':sG} {A:AW} {μ:Mu} {l:Ev.qb} {o':Obj} {o:bp} (W:WR μ A w) (hO:Oth l.b w w') (hA:A.get ng=some o) (hl:μ ng=some l) (h1:w'.heap[l.b]? =some o') (h2:OR μ l o o'):WR μ A w'/\bB μ A w μ A w':=by
 refine⟨⟨fun i oi li hi hli=>?_,W.inj,W.dom⟩,Le.refl _,hO.size,hO.tape,hO.os,hO.output,fun b hb hne=>hO.block b hb fun e=>hne ng o l hA hl e.symm,fun i oi li hi hli=>.inr ⟨i,oi,li,hi,hli,rfl⟩,tk _,fun _ _=>rfl⟩
 by_cases e:i=ng
 ·subst e
  rw[hA] at hi
  cases hi
  rw[hl] at hli
  cases hli
  exact⟨o',h1,h2⟩
 ·obtain⟨o2,h3,h4⟩:=W.has i oi li hi hli
  refine⟨o2,?_,h4⟩;rw[hO.block li.b (W.lt hi hli) fun e2=>e (W.inj i ng oi o li l hi hA hli hl e2)]
  exact h3
noncomputable def nmV (n:Nat):sH:=.slice (some ⟨ng,0,none⟩) n oh
noncomputable def zvH (vs:List sH):Except String (AE × AW)->Bool
 | .ok (.ret u,A)=>veq u (.bool true)&&(match A.get ng with
  | some o=>im o (nmO vs)
  | none=>false)
 | _=>false
noncomputable def zlu (call:aH) (f:tr) (vs:List sH):Bool:=zvH vs (call false f [nmV vs.length] (nmA vs))
noncomputable def ovN (f0:tr) (vs:List sH):OvT:=fun f args A=>bif sT f f0 then (match args with
 | [.slice (some ⟨b,0,none⟩) n c]=>bif sT b ng&&sT n vs.length&&sT c oh&&(match A.get ng with
  | some o=>im o (nmO vs)
  | none=>false) then some (.bool true,A) else none
 | _=>none) else none
theorem zsI {P:Program} {call:aH} {f0:tr} {vs:List sH} (hcall:bw P call) (hf:bA vs=true) (hn:vs.length≠0) (h:zlu call f0 vs=true):zvP P (ovN f0 vs):=by
 intro f args A v A' ho μ w args' W hargs;unfold ovN at ho
 cases hb:sT f f0 with
 | false=>rw[hb] at ho;cases ho
 | true=>
  rw[hb,cond_true] at ho;have e0:=dP hb;subst e0
  split at ho
  ·rename_i b n c
   cases hc:(sT b ng&&sT n vs.length&&sT c oh&&(match A.get ng with
    | some o=>im o (nmO vs)
    | none=>false)) with
   | false=>rw[hc] at ho;cases ho
   | true=>
    rw[hc,cond_true] at ho
    cases ho
    simp only[sN] at hc
    obtain⟨⟨⟨c1,c2⟩,c3⟩,c4⟩:=hc;have e1:=dP c1;have e2:=dP c2;have e3:=dP c3;subst e1 e2 e3
    split at c4
    ·rename_i o hA
     have e4:=eH c4;subst e4
     simp only[LR] at hargs
     obtain⟨y,t,q1,hv,rfl⟩:=hargs;have e5:args'=#[y]:=te.1 q1;subst e5;have hv':=hv
     simp only[VR] at hv
     obtain⟨a',c',rfl,hs⟩:=hv
     rcases hs with ⟨h1,_⟩ | ⟨_,h2⟩
     ·exact absurd rfl h1
     ·rcases h2 with ⟨h2,_⟩ | ⟨h3,h4,l,h5,h6,h7⟩
      ·exact absurd h2 hn
      ·simp only at h5 h6 h7
       subst h6;obtain⟨o',g1,g2⟩:=W.has ng _ l hA h5;have W0:=zmb hf g1 μ g2;unfold zlu zvH at h
       split at h
       ·rename_i u A2 hr
        rw[sN] at h;have e6:=lJ h.1;subst e6;have h8:=h.2
        split at h8
        ·rename_i o2 hA2
         have e7:=eH h8;subst e7;refine(hcall.fn f _ _ _ A2 hr (mu0.add ng l) w #[.slice (some ⟨l.b,l.d+0,none⟩) vs.length c'] W0 ?_).mono fun e w' ⟨μ',he,W',E⟩=>?_
         ·simp only[LR,nmV]
          refine⟨_,[],rfl,?_,rfl⟩
          simp only[VR]
          exact⟨_,c',rfl,.inr ⟨rfl,.inr ⟨rfl,h4,l,Mu.add_get eZ,rfl,h7⟩⟩⟩
         ·have hl2:μ' ng=some l:=(E.le ng l (Mu.add_get eZ))
          obtain⟨o3,k1,k2⟩:=W'.has ng _ l hA2 hl2;have k3:OR μ l (nmO vs) o3:=by
           simp only[nmO,OR] at k2⊢
           obtain⟨c,fr,a1,a2,a3,a4,a5,a6,a7⟩:=k2;refine⟨c,fr,a1,a2,a3,a4,a5,?_,a7⟩;rw[bI hf a6];exact bm hf
          obtain⟨W2,E2⟩:=zsJ W (zfF E) hA h5 k1 k3;refine⟨μ,?_,W2,E2⟩
          cases e with
          | returned v=>simp only[ER,VR] at he⊢;exact he
          | panicked ch=>exact he.elim
          | outgrown=>exact he.elim
        ·cases h8
       ·cases h
    ·cases c4
  ·cases ho
def aN (w:sG) (g nc:Nat) (vs:List sH):Prop:=∃cur:Array sH,w.heap[g]? =some (.cells cur 9 (0,0))/\cur.size=nc/\vs.length<=nc/\cur.toList.take vs.length=vs
theorem aN.kt {w w':sG} {g nc:Nat} {vs:List sH} (h:aN w g nc vs) (ho:Oth g w w'):KtP w w':=fun b c t fr hb ht=>by
 obtain⟨cur,h1,_⟩:=h;rw[ho.block b (ae hb) (fun e=>by
  rw[e,h1] at hb
  cases hb
  rcases ht with ht | ht<;>cases ht)]
 exact hb
noncomputable def okT (vs:List sH) (p:ax):Except String (AE × AW)->Bool
 | .ok (.ret (.tuple ⟨[.agg ⟨[a,b,c]⟩,x,y]⟩),A)=>qh [x,y] [.int .i64 0,.int .i64 0]&&zoH A 20 p a b c&&(match A.get ng with
  | some o=>im o (nmO vs)
  | none=>false)
 | _=>false
noncomputable def bj (call:aH) (f:tr) (text:ByteArray) (vs:List sH) (p:ax):Bool:=okT vs p (call false f [.string text,nmV vs.length] (nmA vs))
def dL (g nc:Nat) (vs:List sH) (w:sG) (p:ax) (e:Ending) (w':sG):Prop:=∃v0 v1 v2,e= .returned (.tuple #[.agg #[v0,v1,v2],.int .i64 0,.int .i64 0])/\bV w' p v0 v1 v2/\aN w' g nc vs/\Oth g w w'
theorem ak {P:Program} {call:aH} {f:tr} {text:ByteArray} {vs:List sH} {p:ax} (hcall:bw P call) (hf:bA vs=true) (h:bj call f text vs p=true) (g nc:Nat) (w:sG) (hN:aN w g nc vs):
  sK P f #[.string text,.slice (some ⟨g,0,none⟩) vs.length nc] w (dL g nc vs w p):=by
 obtain⟨cur,hh,hsz,hnc,ht⟩:=hN;have W0:WR (mu0.add ng ⟨g,0,nc,1⟩) (nmA vs) w:=zmb (l:=⟨g,0,nc,1⟩) hf hh mu0 (by
  unfold nmO OR;refine⟨cur,(0,0),rfl,hsz,by simpa using hnc,(fun e=>by cases e),rfl,?_,rfl⟩
  show LR mu0 vs ((cur.toList.drop 0).take vs.length)
  rw[tu,ht];exact bm hf)
 unfold bj okT at h
 split at h
 ·rename_i a b c x y A hr
  refine(hcall.fn f _ _ _ A hr _ w #[.string text,.slice (some ⟨g,0,none⟩) vs.length nc] W0 ?_).mono fun e w' ⟨μ',he,W',E⟩=>?_
  ·simp only[LR,nmV]
   refine⟨_,[.slice (some ⟨g,0,none⟩) vs.length nc],rfl,by simp[VR],_,[],rfl,?_,rfl⟩
   simp only[VR]
   exact⟨_,nc,rfl,.inr ⟨rfl,.inr ⟨rfl,hnc,⟨g,0,nc,1⟩,Mu.add_get eZ,rfl,by simp⟩⟩⟩
  ·simp only[sN] at h
   obtain⟨⟨h1,h2⟩,h3⟩:=h
   split at h3
   ·rename_i o2 hA2
    have e7:=eH h3;subst e7;have hl2:μ' ng=some ⟨g,0,nc,1⟩:=E.le ng _ (Mu.add_get eZ);have e1:=eV h1
    simp only[List.cons.injEq,and_true] at e1
    obtain⟨rfl,rfl⟩:=e1
    cases e with
    | returned v=>
     simp only[ER,VR] at he
     obtain⟨ys,rfl,hl⟩:=he
     simp only[LR] at hl
     obtain⟨y1,t1,q1,⟨zs,rfl,hz⟩,y2,t2,rfl,h8,y3,t3,rfl,h9,rfl⟩:=hl
     simp only[VR] at h8 h9
     subst h8 h9
     simp only[LR] at hz
     obtain⟨z1,s1,p1,r1,z2,s2,rfl,r2,z3,s3,rfl,r3,rfl⟩:=hz;have e2:zs=#[z1,z2,z3]:=te.1 p1;subst e2;have e3:ys=#[.agg #[z1,z2,z3],.int .i64 0,.int .i64 0]:=te.1 q1;subst e3;obtain⟨o3,k1,k2⟩:=W'.has ng _ _ hA2 hl2;refine⟨z1,z2,z3,rfl,ziD W' 20 p _ _ _ _ _ _ h2 r1 r2 r3,?_,zfF E⟩
     simp only[nmO,OR] at k2
     obtain⟨c2,fr,rfl,a2,a3,a4,a5,a6,a7⟩:=k2
     simp only[FZ] at a7
     subst a7;refine⟨c2,k1,a2,hnc,?_⟩;have:=bI hf a6
     simpa using this
    | panicked ch=>exact he.elim
    | outgrown=>exact he.elim
   ·cases h3
 ·cases h
theorem zmh {P:Program} {call:aH} {f:tr} {vs:List sH} (hcall:bw P call) (hf:bA vs=true) (h:zlu call f vs=true) (g nc:Nat) (w:sG) (hN:aN w g nc vs):
  sK P f #[.slice (some ⟨g,0,none⟩) vs.length nc] w fun e w'=>e= .returned (.bool true)/\aN w' g nc vs/\Oth g w w':=by
 obtain⟨cur,hh,hsz,hnc,ht⟩:=hN;have W0:WR (mu0.add ng ⟨g,0,nc,1⟩) (nmA vs) w:=zmb (l:=⟨g,0,nc,1⟩) hf hh mu0 (by
  unfold nmO OR;refine⟨cur,(0,0),rfl,hsz,by simpa using hnc,(fun e=>by cases e),rfl,?_,rfl⟩
  show LR mu0 vs ((cur.toList.drop 0).take vs.length)
  rw[tu,ht];exact bm hf)
 unfold zlu zvH at h
 split at h
 ·rename_i u A hr
  refine(hcall.fn f _ _ _ A hr _ w #[.slice (some ⟨g,0,none⟩) vs.length nc] W0 ?_).mono fun e w' ⟨μ',he,W',E⟩=>?_
  ·simp only[LR,nmV]
   refine⟨_,[],rfl,?_,rfl⟩
   simp only[VR]
   exact⟨_,nc,rfl,.inr ⟨rfl,.inr ⟨rfl,hnc,⟨g,0,nc,1⟩,Mu.add_get eZ,rfl,by simp⟩⟩⟩
  ·simp only[sN] at h
   obtain⟨h1,h3⟩:=h
   split at h3
   ·rename_i o2 hA2
    have e7:=eH h3;subst e7;have e8:=lJ h1;subst e8;have hl2:μ' ng=some ⟨g,0,nc,1⟩:=E.le ng _ (Mu.add_get eZ)
    cases e with
    | returned v=>
     simp only[ER,VR] at he
     subst he;obtain⟨o3,k1,k2⟩:=W'.has ng _ _ hA2 hl2;refine⟨rfl,?_,zfF E⟩
     simp only[nmO,OR] at k2
     obtain⟨c2,fr,rfl,a2,a3,a4,a5,a6,a7⟩:=k2
     simp only[FZ] at a7
     subst a7;refine⟨c2,k1,a2,hnc,?_⟩;have:=bI hf a6
     simpa using this
    | panicked ch=>exact he.elim
    | outgrown=>exact he.elim
   ·cases h3
 ·cases h
def zpi (B:Nat) (w:sG) (ao:Option Addr) (ls:List (List UInt8)):Prop:=∀(j:Nat) (s:List UInt8),ls[j]? =some s->∃b o c fr,ao=some ⟨b,o,none⟩/\B<=b/\w.heap[b]? =some (.cells c 9 fr)/\c[o+j]? =some (.string ⟨s.toArray⟩)
end Pt
end
section
open Ev Go.RowKit
namespace Pt
def RlX (w:sG) (rs:List Rl) (xs:List sH):Prop:=∀(j:Nat) (r:Rl),rs[j]? =some r->∃l0 l1 l2 r0 r1 r2,xs[j * 9]? =some (.bool r.brk)/\xs[j * 9+1]? =some (.bool r.st)/\xs[j * 9+2]? =some (.bool r.en)∧
 xs[j * 9+3]? =some l0/\xs[j * 9+4]? =some l1/\xs[j * 9+5]? =some l2/\xs[j * 9+6]? =some r0/\xs[j * 9+7]? =some r1/\xs[j * 9+8]? =some r2/\bV w r.left l0 l1 l2/\bV w r.right r0 r1 r2
theorem RlX.kt {w w':sG} {rs:List Rl} {xs:List sH} (h:RlX w rs xs) (ho:KtP w w'):RlX w' rs xs:=fun j r hj=>by
 obtain⟨l0,l1,l2,r0,r1,r2,a0,a1,a2,a3,a4,a5,a6,a7,a8,p1,p2⟩:=h j r hj;exact⟨l0,l1,l2,r0,r1,r2,a0,a1,a2,a3,a4,a5,a6,a7,a8,bV.kt ho _ _ _ _ p1,bV.kt ho _ _ _ _ p2⟩
structure dh (B:Nat) (w:sG) (X g nc:Nat) (vs:List sH) (vo:Option Addr) (n vc:Nat) (rs:List Rl) (xs:List sH) (rest rested:Bool):Prop where
 at_:w.heap[X]? =some (.cells #[.slice (some ⟨g,0,none⟩) vs.length nc,.slice vo n vc,.bool rest,.bool rested] 87 (0,0))
 nm:aN w g nc vs
 own:w.ownsRow B 107 9 (.slice vo n vc) n xs
 rul:RlX w rs xs
 hn:n=rs.length
 lx:B<=X
 lg:g<B
theorem dh.oth {B:Nat} {w w':sG} {X g nc:Nat} {vs:List sH} {vo:Option Addr} {n vc:Nat} {rs:List Rl} {xs:List sH} {rest rested:Bool} (h:dh B w X g nc vs vo n vc rs xs rest rested) (ho:Oth g w w') (hN:aN w' g nc vs):dh B w' X g nc vs vo n vc rs xs rest rested:=by
 have:=h.lx;have:=h.lg;refine⟨(ho.block X (ae h.at_) (by omega)).trans h.at_,hN,⟨h.own.1,h.own.2.imp (fun e=>e) fun⟨q,cap,cur,a1,a2,a3,a4⟩=>⟨q,cap,cur,a1,a2,(ho.block q (ae a3) (by omega)).trans a3,a4⟩⟩,h.rul.kt (h.nm.kt ho),h.hn,h.lx,h.lg⟩
theorem aN.below {w w':sG} {g nc:Nat} {vs:List sH} (h:aN w g nc vs) (hb:sZ w.heap.size w w'):aN w' g nc vs:=by
 obtain⟨cur,h1,h2⟩:=h;exact⟨cur,(hb.block g (ae h1)).trans h1,h2⟩
theorem dh.below {B:Nat} {w w':sG} {X g nc:Nat} {vs:List sH} {vo:Option Addr} {n vc:Nat} {rs:List Rl} {xs:List sH} {rest rested:Bool} (h:dh B w X g nc vs vo n vc rs xs rest rested) (hb:sZ w.heap.size w w'):dh B w' X g nc vs vo n vc rs xs rest rested:=h.oth (.of hb) (h.nm.below hb)
structure Fr (B g:Nat) (w w':sG):Prop where
 os:w'.os=w.os
 tape:w'.tape=w.tape
 output:w'.output=w.output
 size:w.heap.size<=w'.heap.size
 block:∀b,b<B->b≠g->w'.heap[b]? =w.heap[b]?
theorem Fr.trans {B g:Nat} {w v u:sG} (h:Fr B g w v) (k:Fr B g v u):Fr B g w u:=⟨k.os.trans h.os,k.tape.trans h.tape,k.output.trans h.output,tp h.size k.size,fun b hb hne=>(k.block b hb hne).trans (h.block b hb hne)⟩
theorem Fr.of {B g:Nat} {w w':sG} (h:Oth g w w') (hB:B<=w.heap.size):Fr B g w w':=⟨h.os,h.tape,h.output,h.size,fun b hb hne=>h.block b (by omega) hne⟩
def Fx (g X:Nat) (w w':sG):Prop:=∀(b:Nat) (o:Obj),w.heap[b]? =some o->b≠g->b≠X->(∀c fr,o≠ .cells c 107 fr)->w'.heap[b]? =some o
theorem Fx.trans {g X:Nat} {w v u:sG} (h:Fx g X w v) (k:Fx g X v u):Fx g X w u:=fun b o hb h1 h2 h3=>k b o (h b o hb h1 h2 h3) h1 h2 h3
theorem Fx.of {g X:Nat} {w w':sG} (h:Oth g w w'):Fx g X w w':=fun b _ hb h1 _ _=>(h.block b (ae hb) h1).trans hb
def LnQ (B:Nat) (w:sG) (X g nc:Nat) (vs:List sH) (rs:List Rl) (rest rested:Bool) (e:Ending) (w':sG):Prop:=e= .returned (.int .i64 0)/\Fr B g w w'/\Fx g X w w'/\∃vo n vc xs,dh B w' X g nc vs vo n vc rs xs rest rested
def aA (f:tr) (a v:sH):Prop:=∀W,sK Tryz.prog f #[a] W fun e w'=>e= .returned v/\sZ W.heap.size W w'
theorem bV.shape {w:sG}:∀{p:ax} {v0 v1 v2:sH},bV w p v0 v1 v2->∃(o:Int) (co:Option Addr) (cn cc:Nat) (ko:Option Addr) (kn kc:Nat),v0= .int .i64 o/\v1= .slice co cn cc/\v2= .slice ko kn kc
 | .mk op cls kids,v0,v1,v2,h=>by
  unfold bV at h;obtain⟨h1,⟨co,cc,h2,h3,h4⟩,ko,kc,h5,h6,h7⟩:=h;exact⟨op,co,_,cc,ko,_,kc,h1,h2,h5⟩
theorem zca (w:sG) (Z:Nat) (t:TypeId) (o:Obj) (a0 a1 a2 a3 a4 a5 a6 a7 a8 b3 b4 b5 b6 b7 b8:sH) (h:w.heap[Z]? =some (.cells #[a0,a1,a2,a3,a4,a5,a6,a7,a8] t (0,0))) (w8:sG)
  (hw:w8=((((((w.setCell ⟨Z,3,none⟩ b3).setCell ⟨Z,4,none⟩ b4).setCell ⟨Z,5,none⟩ b5).setCell ⟨Z,6,none⟩ b6).setCell ⟨Z,7,none⟩ b7).setCell ⟨Z,8,none⟩ b8).alloc o):
  w8.heap[Z]? =some (.cells #[a0,a1,a2,b3,b4,b5,b6,b7,b8] t (0,0))/\(∀b,b<w.heap.size->b≠Z->w8.heap[b]? =w.heap[b]?)/\w8.heap.size=w.heap.size+1/\w8.os=w.os/\w8.tape=w.tape/\w8.output=w.output:=by
 have hz:=ae h;obtain⟨u3,e3⟩:∃u,u=w.setCell ⟨Z,3,none⟩ b3:=⟨_,rfl⟩;rw[<- e3] at hw;have k3:di Z w u3:=by rw[e3];exact di.set Z 3 w b3
 have h3:u3.heap[Z]? =some (.cells #[a0,a1,a2,b3,a4,a5,a6,a7,a8] t (0,0)):=by rw[e3,sJ w Z 3 _ t b3 h];rfl
 obtain⟨u4,e4⟩:∃u,u=u3.setCell ⟨Z,4,none⟩ b4:=⟨_,rfl⟩;rw[<- e4] at hw;have k4:di Z w u4:=by rw[e4];exact k3.trans (di.set Z 4 u3 b4)
 have h4:u4.heap[Z]? =some (.cells #[a0,a1,a2,b3,b4,a5,a6,a7,a8] t (0,0)):=by rw[e4,sJ u3 Z 4 _ t b4 h3];rfl
 obtain⟨u5,e5⟩:∃u,u=u4.setCell ⟨Z,5,none⟩ b5:=⟨_,rfl⟩;rw[<- e5] at hw;have k5:di Z w u5:=by rw[e5];exact k4.trans (di.set Z 5 u4 b5)
 have h5:u5.heap[Z]? =some (.cells #[a0,a1,a2,b3,b4,b5,a6,a7,a8] t (0,0)):=by rw[e5,sJ u4 Z 5 _ t b5 h4];rfl
 obtain⟨u6,e6⟩:∃u,u=u5.setCell ⟨Z,6,none⟩ b6:=⟨_,rfl⟩;rw[<- e6] at hw;have k6:di Z w u6:=by rw[e6];exact k5.trans (di.set Z 6 u5 b6)
 have h6:u6.heap[Z]? =some (.cells #[a0,a1,a2,b3,b4,b5,b6,a7,a8] t (0,0)):=by rw[e6,sJ u5 Z 6 _ t b6 h5];rfl
 obtain⟨u7,e7⟩:∃u,u=u6.setCell ⟨Z,7,none⟩ b7:=⟨_,rfl⟩;rw[<- e7] at hw;have k7:di Z w u7:=by rw[e7];exact k6.trans (di.set Z 7 u6 b7)
 have h7:u7.heap[Z]? =some (.cells #[a0,a1,a2,b3,b4,b5,b6,b7,a8] t (0,0)):=by rw[e7,sJ u6 Z 7 _ t b7 h6];rfl
 obtain⟨u8,e8⟩:∃u,u=u7.setCell ⟨Z,8,none⟩ b8:=⟨_,rfl⟩;rw[<- e8] at hw;have k8:di Z w u8:=by rw[e8];exact k7.trans (di.set Z 8 u7 b8)
 have h8:u8.heap[Z]? =some (.cells #[a0,a1,a2,b3,b4,b5,b6,b7,b8] t (0,0)):=by rw[e8,sJ u7 Z 8 _ t b8 h7];rfl
 have kb:=below_box (w:=u8) (o:=o);rw[<- hw] at kb;have hs:w8.heap.size=u8.heap.size+1:=by rw[hw];simp
 exact⟨(kb.block Z (ae h8)).trans h8,fun b hb hne=>(kb.block b (by rw[k8.size];exact hb)).trans (k8.block b hne),by rw[hs,k8.size],kb.os.trans k8.os,kb.tape.trans k8.tape,kb.output.trans k8.output⟩
theorem Tryz.infoRule:(Tryz.prog.info? 107).map (fun i=>(i.zero,i.size,i.bytes))=some (some (.agg #[.bool false,.bool false,.bool false,.int .i64 0,.slice none 0 0,.slice none 0 0,.int .i64 0,.slice none 0 0,.slice none 0 0]),9,120):=by kernel_rfl
theorem Tryz.underRules:Tryz.prog.underlying 61=some (.slice 107):=by kernel_rfl
theorem RlX.snoc {w:sG} {rs:List Rl} {xs:List sH} {r:Rl} {l0 l1 l2 r0 r1 r2:sH} (h:RlX w rs xs) (hx:xs.length=rs.length * 9) (p1:bV w r.left l0 l1 l2) (p2:bV w r.right r0 r1 r2):RlX w (rs++[r]) (xs++[.bool r.brk,.bool r.st,.bool r.en,l0,l1,l2,r0,r1,r2]):=fun j q hj=>by
 by_cases e:j<rs.length
 ·rw[tb e] at hj
  obtain⟨k0,k1,k2,m0,m1,m2,a0,a1,a2,a3,a4,a5,a6,a7,a8,q1,q2⟩:=h j q hj;refine⟨k0,k1,k2,m0,m1,m2,?_,?_,?_,?_,?_,?_,?_,?_,?_,q1,q2⟩
  all_goals (rw[tb (by omega)];assumption)
 ·have e2:j=rs.length:=by
   have:=(sO.1 hj).1
   simp at this
   omega
  subst e2;rw[ta (tk _),Nat.sub_self] at hj
  simp at hj
  subst hj;refine⟨l0,l1,l2,r0,r1,r2,?_,?_,?_,?_,?_,?_,?_,?_,?_,p1,p2⟩
  all_goals (rw[ta (by omega)];rw[hx];simp)
theorem zrH (w:sG) (v:Array sH) (T:TypeId):∀j u,v.toList[j]? =some u->(w.alloc (.cells v T)).cell? ((⟨w.heap.size,0,none⟩:Addr).add j)=some u:=sG.news_of_block (cs:=v) (heap_alloc_new w _)
theorem dh.more {B:Nat} {w8 w9 w10 w11:sG} {X g nc:Nat} {vs:List sH} {vo:Option Addr} {n vc:Nat} {rs:List Rl} {xs ys:List sH} {rest:Bool} {r:Rl} {l0 l1 l2 r0 r1 r2:sH} {g8 c8:Nat}
  (h:dh B w8 X g nc vs vo n vc rs xs rest false) (p1:bV w8 r.left l0 l1 l2) (p2:bV w8 r.right r0 r1 r2) (hy:ys=[.bool r.brk,.bool r.st,.bool r.en,l0,l1,l2,r0,r1,r2]) (h9:sZ w8.heap.size w8 w9) (o10:w10.ownsRow B 107 9 (.slice (some ⟨g8,0,none⟩) (n+1) c8) (n+1) (xs++ys)) (gr:sG.grownBy w9 w10 (sP vo n vc).ownBlock)
  (h11:w11=w10.setCell ⟨X,1,none⟩ (.slice (some ⟨g8,0,none⟩) (n+1) c8)):dh B w11 X g nc vs (some ⟨g8,0,none⟩) (n+1) c8 (rs++[r]) (xs++ys) rest false/\Fr B g w8 w11/\Fx g X w8 w11:=by
 have lx:=h.lx;have lg:=h.lg;have hX:=ae h.at_;have ow:∀q,(sP vo n vc).ownBlock=some q->B<=q/\∃cur,w8.heap[q]? =some (.cells cur 107 (0,0)):=fun q hq=>by
  rcases h.own.2 with ⟨c1,_⟩ | ⟨q',cap,cur,c1,c2,c3,_⟩
  ·rw[c1] at hq;cases hq
  ·rw[c1] at hq;cases hq;exact⟨c2,cur,c3⟩
 have st:∀b,b<w8.heap.size->(sP vo n vc).ownBlock≠some b->w10.heap[b]? =w8.heap[b]? :=fun b hb hne=>(gr.block b (sM hb h9.size) (fun e=>hne e.symm)).trans (h9.block b hb)
 have so:∀(b:Nat) (c:Array sH) (t:TypeId) (fr:Nat × Nat),w8.heap[b]? =some (.cells c t fr)->t≠107->w10.heap[b]? =some (.cells c t fr):=fun b c t fr hb ht=>(st b (ae hb) (fun e=>by
  obtain⟨_,cur,h3⟩:=ow b e;rw[hb] at h3
  cases h3
  exact ht rfl)).trans hb
 have X10:=so X _ _ _ h.at_ (by decide)
 have k11:di X w10 w11:=by rw[h11];exact di.set X 1 w10 _
 have gX:(some g8:Option Nat)≠some X:=fun e=>by
  cases e
  rcases o10.2 with ⟨c1,_⟩ | ⟨q',cap,cur,c1,c2,c3,_⟩
  ·cases c1
  ·cases c1
   rw[X10] at c3
   cases c3
 have kt:KtP w8 w11:=fun b c t fr hb ht=>(k11.block b (fun e=>by
  rw[e,h.at_] at hb
  cases hb
  rcases ht with ht | ht<;>cases ht)).trans (so b c t fr hb (by rcases ht with rfl | rfl<;>decide))
 have hx:xs.length=rs.length * 9:=by have:=h.own.1;have:=h.hn;omega
 refine⟨⟨?_,?_,⟨o10.1,o10.2.imp (fun e=>e) fun⟨q,cap,cur,c1,c2,c3,c4⟩=>⟨q,cap,cur,c1,c2,(k11.block q (fun e=>by cases c1;exact gX (by rw[e]))).trans c3,c4⟩⟩,?_,by rw[h.hn];simp,lx,lg⟩,?_,fun b o hb h1 h2 h3=>(k11.block b h2).trans ((st b (ae hb) (fun e=>by
  obtain⟨_,cur,h4⟩:=ow b e;rw[hb] at h4
  cases h4
  exact h3 _ _ rfl)).trans hb)⟩
 ·rw[h11,sJ w10 X 1 _ _ _ X10];rfl
 ·obtain⟨cur,h1,h2⟩:=h.nm
  exact⟨cur,(k11.block g (by omega)).trans (so g cur 9 (0,0) h1 (by decide)),h2⟩
 ·rw[hy]
  exact(h.rul.kt kt).snoc hx (bV.kt kt _ _ _ _ p1) (bV.kt kt _ _ _ _ p2)
 ·refine⟨k11.os.trans (gr.os.trans h9.os),k11.tape.trans (gr.tape.trans h9.tape),k11.output.trans (gr.output.trans h9.output),?_,fun b hb hne=>?_⟩
  ·rw[k11.size];exact tp h9.size gr.size
  ·rw[k11.block b (by omega)]
   exact st b (by omega) (fun e=>by have:=(ow b e).1;omega)
set_option maxRecDepth 100000 in
theorem ay (B X g nc:Nat) (vs:List sH) (vo:Option Addr) (n vc:Nat) (rs:List Rl) (xs:List sH) (rest:Bool) (w:sG) (s p L R:List UInt8) (k:Nat) (brk:Bool) (pl pr:ax) (hX:dh B w X g nc vs vo n vc rs xs rest false) (hn9:n<=60)
  (h1:aA 103 (.string ⟨s.toArray⟩) (.string ⟨p.toArray⟩)) (h2:aA 104 (.string ⟨p.toArray⟩) (.int .i64 k)) (hk:k<p.length) (hp9:p.length<=10000) (hR8:R.length<=10000) (hb:((p[k].toNat:Int)==47)=brk)
  (h3:aA 105 (.string ((⟨p.toArray⟩:ByteArray).extract 0 k)) (.string ⟨L.toArray⟩)) (h4:aA 105 (.string ((⟨p.toArray⟩:ByteArray).extract (k+1) p.length)) (.string ⟨R.toArray⟩)) (hL:L≠ [114,101,115,116]) (hL9:L.head? ≠some 94) (hR9:R.getLast? ≠some 36)
  (h5:∀W,aN W g nc vs->sK Tryz.prog 106 #[.string ⟨L.toArray⟩,.slice (some ⟨g,0,none⟩) vs.length nc] W (dL g nc vs W pl))
  (h6:∀W,aN W g nc vs->sK Tryz.prog 106 #[.string ⟨R.toArray⟩,.slice (some ⟨g,0,none⟩) vs.length nc] W (dL g nc vs W pr)):
  sK Tryz.prog 72 #[.pointer (some ⟨X,0,none⟩),.string ⟨s.toArray⟩] w (LnQ B w X g nc vs (rs++[⟨brk,false,false,pl,pr⟩]) rest false):=by
 obtain⟨iR,hR0,hR1,hR2,hR3⟩:=info_parts Tryz.infoRule;have HIR:=hid (sW hR0 (sW hR1 (sW hR2 hR3)));clear hR0 hR1 hR2 hR3;have HX:=hid hX;have H1:=hid h1;have H2:=hid h2;have H3:=hid h3;have H4:=hid h4;have H5:=hid h5;have H6:=hid h6;clear hX h1 h2 h3 h4 h5 h6;go_enter Tryz.func72,Tryz.ntmps72;go_wp2_with fail;refine(H1.out w).mono ?_;rintro e w1 ⟨rfl,b1⟩;have HX1:=hid (HX.out.below b1);have HB1:=hid b1;clear b1;have p0:p.isEmpty=false:=by cases p with
  | nil=>simp at hk
  | cons a b=>rfl
 have p1:p≠ []:=by cases p with
  | nil=>simp at hk
  | cons a b=>simp
 go_wp2_with fail;refine(H2.out w1).mono ?_;rintro e w2 ⟨rfl,b2⟩;have HX2:=hid (HX1.out.below b2);have HB2:=hid (HB1.out.trans (b2.mono HB1.out.size));clear b2 HX1 HB1;have x1:w2.cell? ⟨X,1,none⟩=some (.slice vo n vc):=by rw[sD w2 X 1 _ _ _ HX2.out.at_];rfl
 have x3:w2.cell? ⟨X,3,none⟩=some (.bool false):=by rw[sD w2 X 3 _ _ _ HX2.out.at_];rfl
 have k0:(0:Int)<=(k:Int):=by omega
 have k1:(k:Int)<(p.length:Int):=by omega
 have k2:¬(k:Int)<0:=by omega
 have d1:decide ((k:Int)<0)=false:=decide_eq_false (by omega)
 have k3:(k:Int)<=(p.length:Int):=by omega
 have k4:(k:Int)+1<=(p.length:Int):=by omega
 go_wp2_with fail;have e9:((((⟨p.toArray⟩:ByteArray)[k]'(by show k<p.toArray.size;simpa using hk)).toNat:Int)==47)=brk:=hb
 rw[e9];clear e9 hb;have e8:td.wrap ((k:Int)+1)=(k:Int)+1:=by unfold sX sY sU;simp;omega
 have k5:(0:Int)<=(k:Int)+1:=by omega
 refine am [(0,true),(1,true),(2,true),(4,true),(5,true),(6,true),(7,true),(3,false),(8,false),(9,false),(10,false)] (fun _=>True) (fun _=>false) (by kernel_rfl) (by kernel_rfl) (fun j hj=>by cases hj) rfl (by kernel_rfl) trivial ?_
 iterate 7 (refine av ?_ rfl (by kernel_rfl) (fun w' hS=>?_) ?_;(rotate_left;(go_simp;with_reducible rfl);rotate_left))
 refine ar rfl (by kernel_rfl) fun KK hKK=>?_
 go_simp;refine(H3.out w2.drew).mono ?_;rintro e w3 ⟨rfl,b3⟩;have HB3:=hid (show sZ w2.heap.size w2 w3 from⟨b3.os,b3.tape,b3.output,b3.size,b3.block⟩)
 clear b3;refine hKK _ _ (fun _=>trivial) ?_
 clear hKK;refine ar rfl (by kernel_rfl) fun KK hKK=>?_
 go_simp;refine(H4.out w3).mono ?_;rintro e w4 ⟨rfl,b4⟩;have HB4:=hid (show sZ w2.heap.size w2 w4 from HB3.out.trans (b4.mono HB3.out.size))
 clear b4 HB3;refine hKK _ _ (fun _=>trivial) ?_
 clear hKK;refine ar rfl (by kernel_rfl) fun KK hKK=>?_
 go_simp;refine hKK _ _ (fun _=>trivial) ?_
 clear hKK;refine ar rfl (by kernel_rfl) fun KK hKK=>?_
 go_simp;refine hKK _ _ (fun _=>trivial) ?_
 clear hKK;refine aQ (sV ?_);have HX4:=hid (HX2.out.below HB4.out);have HBw:=hid (HB2.out.trans (HB4.out.mono HB2.out.size));have y1:w4.cell? ⟨X,1,none⟩=some (.slice vo n vc):=by rw[sD w4 X 1 _ _ _ HX4.out.at_];rfl
 have y0:w4.cell? ⟨X,0,none⟩=some (.slice (some ⟨g,0,none⟩) vs.length nc):=by rw[sD w4 X 0 _ _ _ HX4.out.at_];rfl
 have HXl:=hid (ae HX4.out.at_);have HBl:=hid (show B<=w.heap.size by have:=ae HX.out.at_;have:=HX.out.lx;omega)
 clear x1 x3 HX2 HB2 HB4 k2 k3 k4 k5 d1 e8 p0 p1 HX;have r1:(L== [114,101,115,116])=false:=by simpa using hL
 have n1:(n:Int)<64:=by omega
 have xl:X<w4.heap.size:=HXl.out
 rcases Classical.em (L=[]) with hL0 | hL0
 subst hL0;rotate_left;have l2:L.isEmpty=false:=by cases L with
  | nil=>exact absurd rfl hL0
  | cons x y=>rfl
 have l3:(L== [])=false:=by simpa using hL0
 have l4:0<L.length:=sR.2 hL0;have l5:(0:Int)<(L.length:Int):=by omega
 have l6:(((((⟨L.toArray⟩:ByteArray)[0]'(by show 0<L.toArray.size;simpa using l4)).toNat:Int))==94)=false:=by
  rw[beq_eq_false_iff_ne];intro e
  apply hL9
  have e1:L[0]=94:=tj.1 (by
   have:(L[0]).toNat=(94:Nat):=by exact_mod_cast e
   exact this)
  rw[ti,sL l4,e1]
 all_goals (
  rcases Classical.em (R=[]) with hR0 | hR0
  subst hR0;rotate_left;have r2:R.isEmpty=false:=by cases R with
   | nil=>exact absurd rfl hR0
   | cons x y=>rfl
  have r3:(R== [])=false:=by simpa using hR0
  have r4:0<R.length:=sR.2 hR0;have r5:td.wrap ((R.length:Int) - 1)=(R.length:Int) - 1:=by unfold sX sY sU;simp;omega
  have r6:(0:Int)<=(R.length:Int) - 1:=by omega
  have r7:(R.length:Int) - 1<(R.length:Int):=by omega
  have r8:((R.length:Int) - 1).toNat=R.length - 1:=by omega
  have r9:R.length - 1<R.length:=by omega
  have q2:(((((⟨R.toArray⟩:ByteArray)[R.length - 1]'(by show R.length - 1<R.toArray.size;simpa using r9)).toNat:Int))==36)=false:=by
   rw[beq_eq_false_iff_ne];intro e
   apply hR9
   have e1:R[R.length - 1]=36:=tj.1 (by
    have:(R[R.length - 1]).toNat=(36:Nat):=by exact_mod_cast e
    exact this)
   rw[tc,sL r9,e1])
 all_goals (
  go_wp2_with fail;refine(H5.out _ (HX4.out.nm.below below_box)).mono ?_;rintro e w5 ⟨u0,u1,u2,rfl,hp5,hn5,ho5⟩;obtain⟨po,pco,pcn,pcc,pko,pkn,pkc,rfl,rfl,rfl⟩:=bV.shape hp5;have HOw:=hid (fun(q:Nat) (hq:(sP vo n vc).ownBlock=some q)=>show q<w4.heap.size from by
   rcases HX4.out.own.2 with ⟨c1,_⟩ | ⟨q',cap,cur,c1,_,c3,_⟩
   ·rw[c1] at hq;cases hq
   ·rw[c1] at hq;cases hq;exact ae c3)
  have hx5:=(HX4.out.below below_box).oth ho5 hn5;have HX5:=hid hx5;have HP5:=hid hp5;have zz:w5.heap[w4.heap.size]? =some (.cells #[.bool brk,.bool false,.bool false,.int .i64 0,.slice none 0 0,.slice none 0 0,.int .i64 0,.slice none 0 0,.slice none 0 0] 107 (0,0)):=(ho5.block _ (by simp) (fun e=>by have:=HX4.out.lg;have:=HX4.out.lx;have:=HXl.out;omega)).trans (heap_alloc_new _ _)
  have HZ5:=hid zz;have HO5:=hid ho5;have v0:w5.cell? ⟨X,0,none⟩=some (.slice (some ⟨g,0,none⟩) vs.length nc):=by rw[sD w5 X 0 _ _ _ hx5.at_];rfl
  have xl5:X<w5.heap.size:=ae hx5.at_;clear hx5 hp5 hn5 ho5 zz y0 y1;go_wp2_with fail;refine(H6.out _ (HX5.out.nm.below below_box)).mono ?_;rintro e w7 ⟨s0,s1,s2,rfl,hp7,hn7,ho7⟩;obtain⟨qo,qco,qcn,qcc,qko,qkn,qkc,rfl,rfl,rfl⟩:=bV.shape hp7;have hx7:=(HX5.out.below below_box).oth ho7 hn7;have HX7:=hid hx7;have HP7:=hid hp7;have HPL:=hid (bV.kt ((HX5.out.nm.below below_box).kt ho7) _ _ _ _ (bV.kt (.of below_box) _ _ _ _ HP5.out));have HZ7:=hid ((ho7.block w4.heap.size (by have:=ae HZ5.out;simp;omega) (fun e=>by have:=HX4.out.lg;have:=HX4.out.lx;have:=HXl.out;omega)).trans ((sZ.heap_alloc _ _ _ (ae HZ5.out)).trans HZ5.out))
  have za:w7.heap[w5.heap.size]? =some (.cells #[.int .i64 po,.slice pco pcn pcc,.slice pko pkn pkc] 105 (0,0)):=(ho7.block _ (by simp) (fun e=>by have:=HX4.out.lg;have:=HX4.out.lx;omega)).trans (heap_alloc_new _ _)
  have HO7:=hid ho7;have a0:w7.cell? ⟨w5.heap.size,0,none⟩=some (.int .i64 po):=by rw[sD w7 _ 0 _ _ _ za];rfl
  have a1:w7.cell? ⟨w5.heap.size,1,none⟩=some (.slice pco pcn pcc):=by rw[sD w7 _ 1 _ _ _ za];rfl
  have a2:w7.cell? ⟨w5.heap.size,2,none⟩=some (.slice pko pkn pkc):=by rw[sD w7 _ 2 _ _ _ za];rfl
  have al:w5.heap.size<w7.heap.size:=ae za;have zl:w4.heap.size<w7.heap.size:=ae HZ7.out;have z0:w7.cell? ⟨w4.heap.size,0,none⟩=some (.bool brk):=by rw[sD w7 _ 0 _ _ _ HZ7.out];rfl
  have z1:w7.cell? ⟨w4.heap.size,1,none⟩=some (.bool false):=by rw[sD w7 _ 1 _ _ _ HZ7.out];rfl
  have z2:w7.cell? ⟨w4.heap.size,2,none⟩=some (.bool false):=by rw[sD w7 _ 2 _ _ _ HZ7.out];rfl
  have z3:w7.cell? ⟨w4.heap.size,3,none⟩=some (.int .i64 0):=by rw[sD w7 _ 3 _ _ _ HZ7.out];rfl
  have z4:w7.cell? ⟨w4.heap.size,4,none⟩=some (.slice none 0 0):=by rw[sD w7 _ 4 _ _ _ HZ7.out];rfl
  have z5:w7.cell? ⟨w4.heap.size,5,none⟩=some (.slice none 0 0):=by rw[sD w7 _ 5 _ _ _ HZ7.out];rfl
  have z6:w7.cell? ⟨w4.heap.size,6,none⟩=some (.int .i64 0):=by rw[sD w7 _ 6 _ _ _ HZ7.out];rfl
  have z7:w7.cell? ⟨w4.heap.size,7,none⟩=some (.slice none 0 0):=by rw[sD w7 _ 7 _ _ _ HZ7.out];rfl
  have z8:w7.cell? ⟨w4.heap.size,8,none⟩=some (.slice none 0 0):=by rw[sD w7 _ 8 _ _ _ HZ7.out];rfl
  have zf3:w7.frozen? ⟨w4.heap.size,3,none⟩=false:=sI w7 _ 3 _ _ HZ7.out;have zf4:w7.frozen? ⟨w4.heap.size,4,none⟩=false:=sI w7 _ 4 _ _ HZ7.out;have zf5:w7.frozen? ⟨w4.heap.size,5,none⟩=false:=sI w7 _ 5 _ _ HZ7.out;have zf6:w7.frozen? ⟨w4.heap.size,6,none⟩=false:=sI w7 _ 6 _ _ HZ7.out;have zf7:w7.frozen? ⟨w4.heap.size,7,none⟩=false:=sI w7 _ 7 _ _ HZ7.out;have zf8:w7.frozen? ⟨w4.heap.size,8,none⟩=false:=sI w7 _ 8 _ _ HZ7.out;have xl7:X<w7.heap.size:=ae hx7.at_;have x7:w7.cell? ⟨X,1,none⟩=some (.slice vo n vc):=by rw[sD w7 X 1 _ _ _ hx7.at_];rfl
  clear hx7 hp7 hn7 ho7 za v0;go_wp2_with fail;obtain⟨w8,hw8⟩:∃w8,w8=((((((w7.setCell ⟨w4.heap.size,3,none⟩ (.int .i64 po)).setCell ⟨w4.heap.size,4,none⟩ (.slice pco pcn pcc)).setCell ⟨w4.heap.size,5,none⟩ (.slice pko pkn pkc)).setCell ⟨w4.heap.size,6,none⟩ (.int .i64 qo)).setCell ⟨w4.heap.size,7,none⟩ (.slice qco qcn qcc)).setCell ⟨w4.heap.size,8,none⟩ (.slice qko qkn qkc)).alloc (.cells #[.int .i64 qo,.slice qco qcn qcc,.slice qko qkn qkc] 105):=⟨_,rfl⟩;rw[<- hw8];obtain⟨g0,g1,g2,g3,g4,g5⟩:=zca w7 w4.heap.size _ _ _ _ _ _ _ _ _ _ _ _ _ _ _ _ _ HZ7.out w8 hw8;clear hw8 z0 z1 z2 z3 z4 z5 z6 z7 z8 zf3 zf4 zf5 zf6 zf7 zf8 a0 a1 a2 x7;have hxz:X≠w4.heap.size:=by omega
  have X8:w8.heap[X]? =some (.cells #[.slice (some ⟨g,0,none⟩) vs.length nc,.slice vo n vc,.bool rest,.bool false] 87 (0,0)):=(g1 X xl7 hxz).trans HX7.out.at_;have ow8:w8.ownsRow B 107 9 (.slice vo n vc) n xs:=⟨HX7.out.own.1,HX7.out.own.2.imp (fun e=>e) fun⟨q,cap,cur,c1,c2,c3,c4⟩=>⟨q,cap,cur,c1,c2,(g1 q (ae c3) (fun e=>by
   have:=HOw.out q (by rw[c1];rfl)
   omega)).trans c3,c4⟩⟩
  have HX8:=hid (show dh B w8 X g nc vs vo n vc rs xs rest false from⟨X8,(by
   obtain⟨cur,h1,h2⟩:=HX7.out.nm;exact⟨cur,(g1 g (ae h1) (by have:=HX4.out.lg;have:=HX4.out.lx;omega)).trans h1,h2⟩),ow8,HX7.out.rul.kt (fun b c t fr hb ht=>(g1 b (ae hb) (fun e=>by
    rw[e,HZ7.out] at hb
    cases hb
    rcases ht with ht | ht<;>cases ht)).trans hb),HX7.out.hn,HX7.out.lx,HX7.out.lg⟩)
  have HKt:=hid (show KtP w7 w8 from fun b c t fr hb ht=>(g1 b (ae hb) (fun e=>by
    rw[e,HZ7.out] at hb
    cases hb
    rcases ht with ht | ht<;>cases ht)).trans hb)
  have HP1:=hid (bV.kt HKt.out _ _ _ _ HPL.out);have HP2:=hid (bV.kt HKt.out _ _ _ _ HP7.out);have HFr:=hid (show Fr B g w w8 from by
   have l1:=HX4.out.lx;have l2:=HX4.out.lg;have l3:=HXl.out;have f1:Fr B g w w4:=.of (.of HBw.out) (by have:=HBl.out;omega)
   have f2:Fr B g w4 w5:=(Fr.of (.of below_box) (by omega)).trans (.of HO5.out (by simp;omega))
   have f3:Fr B g w5 w7:=(Fr.of (.of below_box) (by omega)).trans (.of HO7.out (by simp;omega))
   exact f1.trans (f2.trans (f3.trans ⟨g3,g4,g5,by omega,fun b hb hne=>g1 b (by omega) (by omega)⟩)))
  have c0:w8.cell? ⟨w4.heap.size,0,none⟩=some (.bool brk):=by rw[sD w8 _ 0 _ _ _ g0];rfl
  have c1:w8.cell? ⟨w4.heap.size,1,none⟩=some (.bool false):=by rw[sD w8 _ 1 _ _ _ g0];rfl
  have c2:w8.cell? ⟨w4.heap.size,2,none⟩=some (.bool false):=by rw[sD w8 _ 2 _ _ _ g0];rfl
  have c3:w8.cell? ⟨w4.heap.size,3,none⟩=some (.int .i64 po):=by rw[sD w8 _ 3 _ _ _ g0];rfl
  have c4:w8.cell? ⟨w4.heap.size,4,none⟩=some (.slice pco pcn pcc):=by rw[sD w8 _ 4 _ _ _ g0];rfl
  have c5:w8.cell? ⟨w4.heap.size,5,none⟩=some (.slice pko pkn pkc):=by rw[sD w8 _ 5 _ _ _ g0];rfl
  have c6:w8.cell? ⟨w4.heap.size,6,none⟩=some (.int .i64 qo):=by rw[sD w8 _ 6 _ _ _ g0];rfl
  have c7:w8.cell? ⟨w4.heap.size,7,none⟩=some (.slice qco qcn qcc):=by rw[sD w8 _ 7 _ _ _ g0];rfl
  have c8:w8.cell? ⟨w4.heap.size,8,none⟩=some (.slice qko qkn qkc):=by rw[sD w8 _ 8 _ _ _ g0];rfl
  have cx:w8.cell? ⟨X,1,none⟩=some (.slice vo n vc):=by rw[sD w8 X 1 _ _ _ X8];rfl
  have xl8:X<w8.heap.size:=ae X8;have HOn:=hid (fun(b:Nat) (hb:(sP vo n vc).ownBlock=some b)=>show b≠X from fun e=>by
   rcases ow8.2 with ⟨k1,_⟩ | ⟨q',cap,cur,k1,_,k3,_⟩
   ·rw[k1] at hb;cases hb
   ·rw[k1] at hb;cases hb
    have e2:q'=X:=e;rw[e2,X8] at k3
    cases k3)
  have HFx:=hid (show Fx g X w w8 from by
   have f1:Fx g X w w4:=.of (.of HBw.out);have f2:Fx g X w4 w5:=(Fx.of (.of below_box)).trans (.of HO5.out);have f3:Fx g X w5 w7:=(Fx.of (.of below_box)).trans (.of HO7.out);intro b o hb k1 k2 k3;have q1:=f3 b o (f2 b o (f1 b o hb k1 k2 k3) k1 k2 k3) k1 k2 k3;rw[g1 b (ae q1) (by have:=ae hb;have:=HBw.out.size;omega)]
   exact q1)
  clear g0 g1 g2 g3 g4 g5 X8 ow8 HX7 HP5 HP7 HPL HKt HZ5 HZ7 HO5 HO7 HX5 xl5 xl7 al zl H5 H6;refine am [(0,true),(1,true),(2,true),(3,true),(4,true),(5,true),(6,true),(7,false),(8,false),(9,false),(10,false),(11,false),(12,false)] (fun W=>W.cell? ⟨X,1,none⟩=some (.slice vo n vc)/\W.cell? ⟨w4.heap.size,0,none⟩=some (.bool brk)/\W.cell? ⟨w4.heap.size,1,none⟩=some (.bool false)/\W.cell? ⟨w4.heap.size,2,none⟩=some (.bool false)/\W.cell? ⟨w4.heap.size,3,none⟩=some (.int .i64 po)/\W.cell? ⟨w4.heap.size,4,none⟩=some (.slice pco pcn pcc)/\W.cell? ⟨w4.heap.size,5,none⟩=some (.slice pko pkn pkc)/\W.cell? ⟨w4.heap.size,6,none⟩=some (.int .i64 qo)/\W.cell? ⟨w4.heap.size,7,none⟩=some (.slice qco qcn qcc)/\W.cell? ⟨w4.heap.size,8,none⟩=some (.slice qko qkn qkc)) (fun j=>j==12) (by kernel_rfl) (by kernel_rfl) (fun j hj=>by have:=beq_iff_eq.1 hj;subst this;decide) rfl (by kernel_rfl) ⟨cx,c0,c1,c2,c3,c4,c5,c6,c7,c8⟩ ?_
  iterate 7 (refine av ?_ rfl (by kernel_rfl) (fun w' hS=>?_) ?_;(rotate_left;(obtain⟨s0,s1,s2,s3,s4,s5,s6,s7,s8,s9⟩:=hS;go_simp;with_reducible rfl);rotate_left))
  refine ar rfl (by kernel_rfl) fun KK hKK=>?_
  go_simp;obtain⟨w9,hw9⟩:∃w9,w9=(w8.alloc (.cells #[.bool brk,.bool false,.bool false,.int .i64 po,.slice pco pcn pcc,.slice pko pkn pkc,.int .i64 qo,.slice qco qcn qcc,.slice qko qkn qkc] 107)).drew:=⟨_,rfl⟩;rw[<- hw9];have b9:sZ w8.heap.size w8 w9:=by rw[hw9];exact below_box.drew
  have nw9:∀j u,[tn brk,.bool false,.bool false,.int .i64 po,.slice pco pcn pcc,.slice pko pkn pkc,.int .i64 qo,.slice qco qcn qcc,.slice qko qkn qkc][j]? =some u->w9.cell? ((⟨w8.heap.size,0,none⟩:Addr).add j)=some u:=by
   rw[hw9];exact zrH w8 _ _
  have sz9:w9.heap.size=w8.heap.size+1:=by rw[hw9];simp[heap_drew]
  have HB9:=hid b9;have HN9:=hid nw9;clear hw9 b9 nw9 sz9;have HC:=hid (fun(W:sG) (hW:∀b,b<w8.heap.size->(sP vo n vc).ownBlock≠some b->W.heap[b]? =w8.heap[b]?)=>show W.cell? ⟨X,1,none⟩=some (.slice vo n vc)/\W.cell? ⟨w4.heap.size,0,none⟩=some (.bool brk)/\W.cell? ⟨w4.heap.size,1,none⟩=some (.bool false)/\W.cell? ⟨w4.heap.size,2,none⟩=some (.bool false)/\W.cell? ⟨w4.heap.size,3,none⟩=some (.int .i64 po)/\W.cell? ⟨w4.heap.size,4,none⟩=some (.slice pco pcn pcc)/\W.cell? ⟨w4.heap.size,5,none⟩=some (.slice pko pkn pkc)/\W.cell? ⟨w4.heap.size,6,none⟩=some (.int .i64 qo)/\W.cell? ⟨w4.heap.size,7,none⟩=some (.slice qco qcn qcc)/\W.cell? ⟨w4.heap.size,8,none⟩=some (.slice qko qkn qkc) from by
   have e1:W.heap[X]? =w8.heap[X]? :=hW X xl8 (fun e=>HOn.out X e rfl)
   have e2:W.heap[w4.heap.size]? =w8.heap[w4.heap.size]? :=hW _ (tg w8 _ c0) (fun e=>by have:=HOw.out _ e;omega)
   exact⟨(sE e1).trans cx,(sE e2).trans c0,(sE e2).trans c1,(sE e2).trans c2,(sE e2).trans c3,(sE e2).trans c4,(sE e2).trans c5,(sE e2).trans c6,(sE e2).trans c7,(sE e2).trans c8⟩)
  refine hKK _ _ (fun _=>HC.out _ fun b hb _=>HB9.out.block b hb) ?_
  clear hKK cx c0 c1 c2 c3 c4 c5 c6 c7 c8;refine ar rfl (by kernel_rfl) fun KK hKK=>?_
  refine wp_append_lies _ _ _ 61 rfl B 107 iR (.agg #[.bool false,.bool false,.bool false,.int .i64 0,.slice none 0 0,.slice none 0 0,.int .i64 0,.slice none 0 0,.slice none 0 0]) 9 120 Tryz.underRules HIR.out.1 HIR.out.2.1 HIR.out.2.2.1 HIR.out.2.2.2 rfl (by decide) (.slice vo n vc) n xs rfl ⟨HX8.out.own.1,HX8.out.own.2.imp (fun e=>e) fun⟨q,cap,cur,k1,k2,k3,k4⟩=>⟨q,cap,cur,k1,k2,(HB9.out.block q (ae k3)).trans k3,k4⟩⟩ ⟨w8.heap.size,0,none⟩ 1 1 [tn brk,.bool false,.bool false,.int .i64 po,.slice pco pcn pcc,.slice pko pkn pkc,.int .i64 qo,.slice qco qcn qcc,.slice qko qkn qkc] rfl rfl HN9.out (fun u hu=>by simp at hu;rcases hu with h | h | h | h | h | h | h | h<;>rw[h]<;>rfl) (by decide) (by unfold maxLen;omega) (by omega) (by have:=HX8.out.lx;have:=HB9.out.size;omega) w9.heap.size rfl ?_
  intro g8 c8 w10 o10 gr10 hl10 hlt10;have HM:=hid (fun(w11:sG) (h11:w11=w10.setCell ⟨X,1,none⟩ (.slice (some ⟨g8,0,none⟩) (n+1) c8))=>dh.more (r:=⟨brk,false,false,pl,pr⟩) HX8.out HP1.out HP2.out rfl HB9.out o10 gr10 h11)
  have X10:w10.heap[X]? =w8.heap[X]? :=(gr10.block X (sM xl8 HB9.out.size) (fun e=>HOn.out X e.symm rfl)).trans (HB9.out.block X xl8)
  have f10:w10.frozen? ⟨X,1,none⟩=false:=sI w10 X 1 _ _ (X10.trans HX8.out.at_);have c10:w10.cell? ⟨X,1,none⟩=some (.slice vo n vc):=by rw[sD w10 X 1 _ _ _ (X10.trans HX8.out.at_)];rfl
  have HS10:=hid (HC.out w10 fun b hb hne=>(gr10.block b (sM hb HB9.out.size) (fun e=>hne e.symm)).trans (HB9.out.block b hb))
  refine hKK _ _ (fun _=>HC.out _ fun b hb hne=>(gr10.block b (sM hb HB9.out.size) (fun e=>hne e.symm)).trans (HB9.out.block b hb)) ?_
  clear hKK o10 gr10 hl10 hlt10 X10
  iterate 3 (refine ar rfl (by kernel_rfl) fun KK hKK=>?_;go_simp;refine hKK _ _ (fun _=>HS10.out) ?_;clear hKK)
  refine ar rfl (by kernel_rfl) fun KK hKK=>?_
  go_simp;refine hKK _ _ (fun h=>by cases h) ?_
  clear hKK;refine aQ (sV ?_);go_wp2;go_ret;obtain⟨m1,m2,m3⟩:=HM.out _ rfl;exact⟨rfl,HFr.out.trans m2,HFx.out.trans m3,_,_,_,_,m1⟩)
end Pt
end
section
open Ev Go.RowKit
namespace Pt
set_option maxRecDepth 100000 in
theorem pg (B X g nc:Nat) (vs:List sH) (vo:Option Addr) (n vc:Nat) (rs:List Rl) (xs:List sH) (rest:Bool) (w:sG) (s p L R:List UInt8) (k:Nat) (brk:Bool) (pl pr:ax) (hX:dh B w X g nc vs vo n vc rs xs rest false) (hn9:n<=60)
  (h1:aA 103 (.string ⟨s.toArray⟩) (.string ⟨p.toArray⟩)) (h2:aA 104 (.string ⟨p.toArray⟩) (.int .i64 k)) (hk:k<p.length) (hp9:p.length<=10000) (hR8:R.length<=10000) (hb:((p[k].toNat:Int)==47)=brk)
  (h3:aA 105 (.string ((⟨p.toArray⟩:ByteArray).extract 0 k)) (.string ⟨L.toArray⟩)) (h4:aA 105 (.string ((⟨p.toArray⟩:ByteArray).extract (k+1) p.length)) (.string ⟨R.toArray⟩)) (hL:L≠ [114,101,115,116]) (hL9:L.head? =some 94) (hL8:L.length<=10000) (hR9:R.getLast? ≠some 36)
  (h5:∀W,aN W g nc vs->sK Tryz.prog 106 #[.string ((⟨L.toArray⟩:ByteArray).extract 1 L.length),.slice (some ⟨g,0,none⟩) vs.length nc] W (dL g nc vs W pl))
  (h6:∀W,aN W g nc vs->sK Tryz.prog 106 #[.string ⟨R.toArray⟩,.slice (some ⟨g,0,none⟩) vs.length nc] W (dL g nc vs W pr)):
  sK Tryz.prog 72 #[.pointer (some ⟨X,0,none⟩),.string ⟨s.toArray⟩] w (LnQ B w X g nc vs (rs++[⟨brk,true,false,pl,pr⟩]) rest false):=by
 obtain⟨iR,hR0,hR1,hR2,hR3⟩:=info_parts Tryz.infoRule;have HIR:=hid (sW hR0 (sW hR1 (sW hR2 hR3)));clear hR0 hR1 hR2 hR3;have HX:=hid hX;have H1:=hid h1;have H2:=hid h2;have H3:=hid h3;have H4:=hid h4;have H5:=hid h5;have H6:=hid h6;clear hX h1 h2 h3 h4 h5 h6;go_enter Tryz.func72,Tryz.ntmps72;go_wp2_with fail;refine(H1.out w).mono ?_;rintro e w1 ⟨rfl,b1⟩;have HX1:=hid (HX.out.below b1);have HB1:=hid b1;clear b1;have p0:p.isEmpty=false:=by cases p with
  | nil=>simp at hk
  | cons a b=>rfl
 have p1:p≠ []:=by cases p with
  | nil=>simp at hk
  | cons a b=>simp
 go_wp2_with fail;refine(H2.out w1).mono ?_;rintro e w2 ⟨rfl,b2⟩;have HX2:=hid (HX1.out.below b2);have HB2:=hid (HB1.out.trans (b2.mono HB1.out.size));clear b2 HX1 HB1;have x1:w2.cell? ⟨X,1,none⟩=some (.slice vo n vc):=by rw[sD w2 X 1 _ _ _ HX2.out.at_];rfl
 have x3:w2.cell? ⟨X,3,none⟩=some (.bool false):=by rw[sD w2 X 3 _ _ _ HX2.out.at_];rfl
 have k0:(0:Int)<=(k:Int):=by omega
 have k1:(k:Int)<(p.length:Int):=by omega
 have k2:¬(k:Int)<0:=by omega
 have d1:decide ((k:Int)<0)=false:=decide_eq_false (by omega)
 have k3:(k:Int)<=(p.length:Int):=by omega
 have k4:(k:Int)+1<=(p.length:Int):=by omega
 go_wp2_with fail;have e9:((((⟨p.toArray⟩:ByteArray)[k]'(by show k<p.toArray.size;simpa using hk)).toNat:Int)==47)=brk:=hb
 rw[e9];clear e9 hb;have e8:td.wrap ((k:Int)+1)=(k:Int)+1:=by unfold sX sY sU;simp;omega
 have k5:(0:Int)<=(k:Int)+1:=by omega
 refine am [(0,true),(1,true),(2,true),(4,true),(5,true),(6,true),(7,true),(3,false),(8,false),(9,false),(10,false)] (fun _=>True) (fun _=>false) (by kernel_rfl) (by kernel_rfl) (fun j hj=>by cases hj) rfl (by kernel_rfl) trivial ?_
 iterate 7 (refine av ?_ rfl (by kernel_rfl) (fun w' hS=>?_) ?_;(rotate_left;(go_simp;with_reducible rfl);rotate_left))
 refine ar rfl (by kernel_rfl) fun KK hKK=>?_
 go_simp;refine(H3.out w2.drew).mono ?_;rintro e w3 ⟨rfl,b3⟩;have HB3:=hid (show sZ w2.heap.size w2 w3 from⟨b3.os,b3.tape,b3.output,b3.size,b3.block⟩)
 clear b3;refine hKK _ _ (fun _=>trivial) ?_
 clear hKK;refine ar rfl (by kernel_rfl) fun KK hKK=>?_
 go_simp;refine(H4.out w3).mono ?_;rintro e w4 ⟨rfl,b4⟩;have HB4:=hid (show sZ w2.heap.size w2 w4 from HB3.out.trans (b4.mono HB3.out.size))
 clear b4 HB3;refine hKK _ _ (fun _=>trivial) ?_
 clear hKK;refine ar rfl (by kernel_rfl) fun KK hKK=>?_
 go_simp;refine hKK _ _ (fun _=>trivial) ?_
 clear hKK;refine ar rfl (by kernel_rfl) fun KK hKK=>?_
 go_simp;refine hKK _ _ (fun _=>trivial) ?_
 clear hKK;refine aQ (sV ?_);have HX4:=hid (HX2.out.below HB4.out);have HBw:=hid (HB2.out.trans (HB4.out.mono HB2.out.size));have y1:w4.cell? ⟨X,1,none⟩=some (.slice vo n vc):=by rw[sD w4 X 1 _ _ _ HX4.out.at_];rfl
 have y0:w4.cell? ⟨X,0,none⟩=some (.slice (some ⟨g,0,none⟩) vs.length nc):=by rw[sD w4 X 0 _ _ _ HX4.out.at_];rfl
 have HXl:=hid (ae HX4.out.at_);have HBl:=hid (show B<=w.heap.size by have:=ae HX.out.at_;have:=HX.out.lx;omega)
 clear x1 x3 HX2 HB2 HB4 k2 k3 k4 k5 d1 e8 p0 p1 HX;have r1:(L== [114,101,115,116])=false:=by simpa using hL
 have n1:(n:Int)<64:=by omega
 have xl:X<w4.heap.size:=HXl.out;have hL0:L≠ []:=fun e=>by rw[e] at hL9;cases hL9
 ·skip
  have l2:L.isEmpty=false:=by cases L with
   | nil=>exact absurd rfl hL0
   | cons x y=>rfl
  have l3:(L== [])=false:=by simpa using hL0
  have l4:0<L.length:=sR.2 hL0;have l5:(0:Int)<(L.length:Int):=by omega
  have l6:(((((⟨L.toArray⟩:ByteArray)[0]'(by show 0<L.toArray.size;simpa using l4)).toNat:Int))==94)=true:=by
   have e1:L[0]=94:=by
    rw[ti,sL l4] at hL9;exact Option.some.inj hL9
   have e2:((⟨L.toArray⟩:ByteArray)[0]'(by show 0<L.toArray.size;simpa using l4))=94:=e1
   rw[e2]
   rfl
  have l7:(1:Int)<=(L.length:Int):=by omega
  rcases Classical.em (R=[]) with hR0 | hR0
  subst hR0;rotate_left;have r2:R.isEmpty=false:=by cases R with
   | nil=>exact absurd rfl hR0
   | cons x y=>rfl
  have r3:(R== [])=false:=by simpa using hR0
  have r4:0<R.length:=sR.2 hR0;have r5:td.wrap ((R.length:Int) - 1)=(R.length:Int) - 1:=by unfold sX sY sU;simp;omega
  have r6:(0:Int)<=(R.length:Int) - 1:=by omega
  have r7:(R.length:Int) - 1<(R.length:Int):=by omega
  have r8:((R.length:Int) - 1).toNat=R.length - 1:=by omega
  have r9:R.length - 1<R.length:=by omega
  have q2:(((((⟨R.toArray⟩:ByteArray)[R.length - 1]'(by show R.length - 1<R.toArray.size;simpa using r9)).toNat:Int))==36)=false:=by
   rw[beq_eq_false_iff_ne];intro e
   apply hR9
   have e1:R[R.length - 1]=36:=tj.1 (by
    have:(R[R.length - 1]).toNat=(36:Nat):=by exact_mod_cast e
    exact this)
   rw[tc,sL r9,e1]
  all_goals (
   go_wp2_with fail;refine(H5.out _ (HX4.out.nm.below below_box)).mono ?_;rintro e w5 ⟨u0,u1,u2,rfl,hp5,hn5,ho5⟩;obtain⟨po,pco,pcn,pcc,pko,pkn,pkc,rfl,rfl,rfl⟩:=bV.shape hp5;have HOw:=hid (fun(q:Nat) (hq:(sP vo n vc).ownBlock=some q)=>show q<w4.heap.size from by
    rcases HX4.out.own.2 with ⟨c1,_⟩ | ⟨q',cap,cur,c1,_,c3,_⟩
    ·rw[c1] at hq;cases hq
    ·rw[c1] at hq;cases hq;exact ae c3)
   have hx5:=(HX4.out.below below_box).oth ho5 hn5;have HX5:=hid hx5;have HP5:=hid hp5;have zz:w5.heap[w4.heap.size]? =some (.cells #[.bool brk,.bool true,.bool false,.int .i64 0,.slice none 0 0,.slice none 0 0,.int .i64 0,.slice none 0 0,.slice none 0 0] 107 (0,0)):=(ho5.block _ (by simp) (fun e=>by have:=HX4.out.lg;have:=HX4.out.lx;have:=HXl.out;omega)).trans (heap_alloc_new _ _)
   have HZ5:=hid zz;have HO5:=hid ho5;have v0:w5.cell? ⟨X,0,none⟩=some (.slice (some ⟨g,0,none⟩) vs.length nc):=by rw[sD w5 X 0 _ _ _ hx5.at_];rfl
   have xl5:X<w5.heap.size:=ae hx5.at_;clear hx5 hp5 hn5 ho5 zz y0 y1;go_wp2_with fail;refine(H6.out _ (HX5.out.nm.below below_box)).mono ?_;rintro e w7 ⟨s0,s1,s2,rfl,hp7,hn7,ho7⟩;obtain⟨qo,qco,qcn,qcc,qko,qkn,qkc,rfl,rfl,rfl⟩:=bV.shape hp7;have hx7:=(HX5.out.below below_box).oth ho7 hn7;have HX7:=hid hx7;have HP7:=hid hp7;have HPL:=hid (bV.kt ((HX5.out.nm.below below_box).kt ho7) _ _ _ _ (bV.kt (.of below_box) _ _ _ _ HP5.out));have HZ7:=hid ((ho7.block w4.heap.size (by have:=ae HZ5.out;simp;omega) (fun e=>by have:=HX4.out.lg;have:=HX4.out.lx;have:=HXl.out;omega)).trans ((sZ.heap_alloc _ _ _ (ae HZ5.out)).trans HZ5.out))
   have za:w7.heap[w5.heap.size]? =some (.cells #[.int .i64 po,.slice pco pcn pcc,.slice pko pkn pkc] 105 (0,0)):=(ho7.block _ (by simp) (fun e=>by have:=HX4.out.lg;have:=HX4.out.lx;omega)).trans (heap_alloc_new _ _)
   have HO7:=hid ho7;have a0:w7.cell? ⟨w5.heap.size,0,none⟩=some (.int .i64 po):=by rw[sD w7 _ 0 _ _ _ za];rfl
   have a1:w7.cell? ⟨w5.heap.size,1,none⟩=some (.slice pco pcn pcc):=by rw[sD w7 _ 1 _ _ _ za];rfl
   have a2:w7.cell? ⟨w5.heap.size,2,none⟩=some (.slice pko pkn pkc):=by rw[sD w7 _ 2 _ _ _ za];rfl
   have al:w5.heap.size<w7.heap.size:=ae za;have zl:w4.heap.size<w7.heap.size:=ae HZ7.out;have z0:w7.cell? ⟨w4.heap.size,0,none⟩=some (.bool brk):=by rw[sD w7 _ 0 _ _ _ HZ7.out];rfl
   have z1:w7.cell? ⟨w4.heap.size,1,none⟩=some (.bool true):=by rw[sD w7 _ 1 _ _ _ HZ7.out];rfl
   have z2:w7.cell? ⟨w4.heap.size,2,none⟩=some (.bool false):=by rw[sD w7 _ 2 _ _ _ HZ7.out];rfl
   have z3:w7.cell? ⟨w4.heap.size,3,none⟩=some (.int .i64 0):=by rw[sD w7 _ 3 _ _ _ HZ7.out];rfl
   have z4:w7.cell? ⟨w4.heap.size,4,none⟩=some (.slice none 0 0):=by rw[sD w7 _ 4 _ _ _ HZ7.out];rfl
   have z5:w7.cell? ⟨w4.heap.size,5,none⟩=some (.slice none 0 0):=by rw[sD w7 _ 5 _ _ _ HZ7.out];rfl
   have z6:w7.cell? ⟨w4.heap.size,6,none⟩=some (.int .i64 0):=by rw[sD w7 _ 6 _ _ _ HZ7.out];rfl
   have z7:w7.cell? ⟨w4.heap.size,7,none⟩=some (.slice none 0 0):=by rw[sD w7 _ 7 _ _ _ HZ7.out];rfl
   have z8:w7.cell? ⟨w4.heap.size,8,none⟩=some (.slice none 0 0):=by rw[sD w7 _ 8 _ _ _ HZ7.out];rfl
   have zf3:w7.frozen? ⟨w4.heap.size,3,none⟩=false:=sI w7 _ 3 _ _ HZ7.out;have zf4:w7.frozen? ⟨w4.heap.size,4,none⟩=false:=sI w7 _ 4 _ _ HZ7.out;have zf5:w7.frozen? ⟨w4.heap.size,5,none⟩=false:=sI w7 _ 5 _ _ HZ7.out;have zf6:w7.frozen? ⟨w4.heap.size,6,none⟩=false:=sI w7 _ 6 _ _ HZ7.out;have zf7:w7.frozen? ⟨w4.heap.size,7,none⟩=false:=sI w7 _ 7 _ _ HZ7.out;have zf8:w7.frozen? ⟨w4.heap.size,8,none⟩=false:=sI w7 _ 8 _ _ HZ7.out;have xl7:X<w7.heap.size:=ae hx7.at_;have x7:w7.cell? ⟨X,1,none⟩=some (.slice vo n vc):=by rw[sD w7 X 1 _ _ _ hx7.at_];rfl
   clear hx7 hp7 hn7 ho7 za v0;go_wp2_with fail;obtain⟨w8,hw8⟩:∃w8,w8=((((((w7.setCell ⟨w4.heap.size,3,none⟩ (.int .i64 po)).setCell ⟨w4.heap.size,4,none⟩ (.slice pco pcn pcc)).setCell ⟨w4.heap.size,5,none⟩ (.slice pko pkn pkc)).setCell ⟨w4.heap.size,6,none⟩ (.int .i64 qo)).setCell ⟨w4.heap.size,7,none⟩ (.slice qco qcn qcc)).setCell ⟨w4.heap.size,8,none⟩ (.slice qko qkn qkc)).alloc (.cells #[.int .i64 qo,.slice qco qcn qcc,.slice qko qkn qkc] 105):=⟨_,rfl⟩;rw[<- hw8];obtain⟨g0,g1,g2,g3,g4,g5⟩:=zca w7 w4.heap.size _ _ _ _ _ _ _ _ _ _ _ _ _ _ _ _ _ HZ7.out w8 hw8;clear hw8 z0 z1 z2 z3 z4 z5 z6 z7 z8 zf3 zf4 zf5 zf6 zf7 zf8 a0 a1 a2 x7;have hxz:X≠w4.heap.size:=by omega
   have X8:w8.heap[X]? =some (.cells #[.slice (some ⟨g,0,none⟩) vs.length nc,.slice vo n vc,.bool rest,.bool false] 87 (0,0)):=(g1 X xl7 hxz).trans HX7.out.at_;have ow8:w8.ownsRow B 107 9 (.slice vo n vc) n xs:=⟨HX7.out.own.1,HX7.out.own.2.imp (fun e=>e) fun⟨q,cap,cur,c1,c2,c3,c4⟩=>⟨q,cap,cur,c1,c2,(g1 q (ae c3) (fun e=>by
    have:=HOw.out q (by rw[c1];rfl)
    omega)).trans c3,c4⟩⟩
   have HX8:=hid (show dh B w8 X g nc vs vo n vc rs xs rest false from⟨X8,(by
    obtain⟨cur,h1,h2⟩:=HX7.out.nm;exact⟨cur,(g1 g (ae h1) (by have:=HX4.out.lg;have:=HX4.out.lx;omega)).trans h1,h2⟩),ow8,HX7.out.rul.kt (fun b c t fr hb ht=>(g1 b (ae hb) (fun e=>by
     rw[e,HZ7.out] at hb
     cases hb
     rcases ht with ht | ht<;>cases ht)).trans hb),HX7.out.hn,HX7.out.lx,HX7.out.lg⟩)
   have HKt:=hid (show KtP w7 w8 from fun b c t fr hb ht=>(g1 b (ae hb) (fun e=>by
     rw[e,HZ7.out] at hb
     cases hb
     rcases ht with ht | ht<;>cases ht)).trans hb)
   have HP1:=hid (bV.kt HKt.out _ _ _ _ HPL.out);have HP2:=hid (bV.kt HKt.out _ _ _ _ HP7.out);have HFr:=hid (show Fr B g w w8 from by
    have l1:=HX4.out.lx;have l2:=HX4.out.lg;have l3:=HXl.out;have f1:Fr B g w w4:=.of (.of HBw.out) (by have:=HBl.out;omega)
    have f2:Fr B g w4 w5:=(Fr.of (.of below_box) (by omega)).trans (.of HO5.out (by simp;omega))
    have f3:Fr B g w5 w7:=(Fr.of (.of below_box) (by omega)).trans (.of HO7.out (by simp;omega))
    exact f1.trans (f2.trans (f3.trans ⟨g3,g4,g5,by omega,fun b hb hne=>g1 b (by omega) (by omega)⟩)))
   have c0:w8.cell? ⟨w4.heap.size,0,none⟩=some (.bool brk):=by rw[sD w8 _ 0 _ _ _ g0];rfl
   have c1:w8.cell? ⟨w4.heap.size,1,none⟩=some (.bool true):=by rw[sD w8 _ 1 _ _ _ g0];rfl
   have c2:w8.cell? ⟨w4.heap.size,2,none⟩=some (.bool false):=by rw[sD w8 _ 2 _ _ _ g0];rfl
   have c3:w8.cell? ⟨w4.heap.size,3,none⟩=some (.int .i64 po):=by rw[sD w8 _ 3 _ _ _ g0];rfl
   have c4:w8.cell? ⟨w4.heap.size,4,none⟩=some (.slice pco pcn pcc):=by rw[sD w8 _ 4 _ _ _ g0];rfl
   have c5:w8.cell? ⟨w4.heap.size,5,none⟩=some (.slice pko pkn pkc):=by rw[sD w8 _ 5 _ _ _ g0];rfl
   have c6:w8.cell? ⟨w4.heap.size,6,none⟩=some (.int .i64 qo):=by rw[sD w8 _ 6 _ _ _ g0];rfl
   have c7:w8.cell? ⟨w4.heap.size,7,none⟩=some (.slice qco qcn qcc):=by rw[sD w8 _ 7 _ _ _ g0];rfl
   have c8:w8.cell? ⟨w4.heap.size,8,none⟩=some (.slice qko qkn qkc):=by rw[sD w8 _ 8 _ _ _ g0];rfl
   have cx:w8.cell? ⟨X,1,none⟩=some (.slice vo n vc):=by rw[sD w8 X 1 _ _ _ X8];rfl
   have xl8:X<w8.heap.size:=ae X8;have HOn:=hid (fun(b:Nat) (hb:(sP vo n vc).ownBlock=some b)=>show b≠X from fun e=>by
    rcases ow8.2 with ⟨k1,_⟩ | ⟨q',cap,cur,k1,_,k3,_⟩
    ·rw[k1] at hb;cases hb
    ·rw[k1] at hb;cases hb
     have e2:q'=X:=e;rw[e2,X8] at k3
     cases k3)
   have HFx:=hid (show Fx g X w w8 from by
    have f1:Fx g X w w4:=.of (.of HBw.out);have f2:Fx g X w4 w5:=(Fx.of (.of below_box)).trans (.of HO5.out);have f3:Fx g X w5 w7:=(Fx.of (.of below_box)).trans (.of HO7.out);intro b o hb k1 k2 k3;have q1:=f3 b o (f2 b o (f1 b o hb k1 k2 k3) k1 k2 k3) k1 k2 k3;rw[g1 b (ae q1) (by have:=ae hb;have:=HBw.out.size;omega)]
    exact q1)
   clear g0 g1 g2 g3 g4 g5 X8 ow8 HX7 HP5 HP7 HPL HKt HZ5 HZ7 HO5 HO7 HX5 xl5 xl7 al zl H5 H6;refine am [(0,true),(1,true),(2,true),(3,true),(4,true),(5,true),(6,true),(7,false),(8,false),(9,false),(10,false),(11,false),(12,false)] (fun W=>W.cell? ⟨X,1,none⟩=some (.slice vo n vc)/\W.cell? ⟨w4.heap.size,0,none⟩=some (.bool brk)/\W.cell? ⟨w4.heap.size,1,none⟩=some (.bool true)/\W.cell? ⟨w4.heap.size,2,none⟩=some (.bool false)/\W.cell? ⟨w4.heap.size,3,none⟩=some (.int .i64 po)/\W.cell? ⟨w4.heap.size,4,none⟩=some (.slice pco pcn pcc)/\W.cell? ⟨w4.heap.size,5,none⟩=some (.slice pko pkn pkc)/\W.cell? ⟨w4.heap.size,6,none⟩=some (.int .i64 qo)/\W.cell? ⟨w4.heap.size,7,none⟩=some (.slice qco qcn qcc)/\W.cell? ⟨w4.heap.size,8,none⟩=some (.slice qko qkn qkc)) (fun j=>j==12) (by kernel_rfl) (by kernel_rfl) (fun j hj=>by have:=beq_iff_eq.1 hj;subst this;decide) rfl (by kernel_rfl) ⟨cx,c0,c1,c2,c3,c4,c5,c6,c7,c8⟩ ?_
   iterate 7 (refine av ?_ rfl (by kernel_rfl) (fun w' hS=>?_) ?_;(rotate_left;(obtain⟨s0,s1,s2,s3,s4,s5,s6,s7,s8,s9⟩:=hS;go_simp;with_reducible rfl);rotate_left))
   refine ar rfl (by kernel_rfl) fun KK hKK=>?_
   go_simp;obtain⟨w9,hw9⟩:∃w9,w9=(w8.alloc (.cells #[.bool brk,.bool true,.bool false,.int .i64 po,.slice pco pcn pcc,.slice pko pkn pkc,.int .i64 qo,.slice qco qcn qcc,.slice qko qkn qkc] 107)).drew:=⟨_,rfl⟩;rw[<- hw9];have b9:sZ w8.heap.size w8 w9:=by rw[hw9];exact below_box.drew
   have nw9:∀j u,[tn brk,.bool true,.bool false,.int .i64 po,.slice pco pcn pcc,.slice pko pkn pkc,.int .i64 qo,.slice qco qcn qcc,.slice qko qkn qkc][j]? =some u->w9.cell? ((⟨w8.heap.size,0,none⟩:Addr).add j)=some u:=by
    rw[hw9];exact zrH w8 _ _
   have sz9:w9.heap.size=w8.heap.size+1:=by rw[hw9];simp[heap_drew]
   have HB9:=hid b9;have HN9:=hid nw9;clear hw9 b9 nw9 sz9;have HC:=hid (fun(W:sG) (hW:∀b,b<w8.heap.size->(sP vo n vc).ownBlock≠some b->W.heap[b]? =w8.heap[b]?)=>show W.cell? ⟨X,1,none⟩=some (.slice vo n vc)/\W.cell? ⟨w4.heap.size,0,none⟩=some (.bool brk)/\W.cell? ⟨w4.heap.size,1,none⟩=some (.bool true)/\W.cell? ⟨w4.heap.size,2,none⟩=some (.bool false)/\W.cell? ⟨w4.heap.size,3,none⟩=some (.int .i64 po)/\W.cell? ⟨w4.heap.size,4,none⟩=some (.slice pco pcn pcc)/\W.cell? ⟨w4.heap.size,5,none⟩=some (.slice pko pkn pkc)/\W.cell? ⟨w4.heap.size,6,none⟩=some (.int .i64 qo)/\W.cell? ⟨w4.heap.size,7,none⟩=some (.slice qco qcn qcc)/\W.cell? ⟨w4.heap.size,8,none⟩=some (.slice qko qkn qkc) from by
    have e1:W.heap[X]? =w8.heap[X]? :=hW X xl8 (fun e=>HOn.out X e rfl)
    have e2:W.heap[w4.heap.size]? =w8.heap[w4.heap.size]? :=hW _ (tg w8 _ c0) (fun e=>by have:=HOw.out _ e;omega)
    exact⟨(sE e1).trans cx,(sE e2).trans c0,(sE e2).trans c1,(sE e2).trans c2,(sE e2).trans c3,(sE e2).trans c4,(sE e2).trans c5,(sE e2).trans c6,(sE e2).trans c7,(sE e2).trans c8⟩)
   refine hKK _ _ (fun _=>HC.out _ fun b hb _=>HB9.out.block b hb) ?_
   clear hKK cx c0 c1 c2 c3 c4 c5 c6 c7 c8;refine ar rfl (by kernel_rfl) fun KK hKK=>?_
   refine wp_append_lies _ _ _ 61 rfl B 107 iR (.agg #[.bool false,.bool false,.bool false,.int .i64 0,.slice none 0 0,.slice none 0 0,.int .i64 0,.slice none 0 0,.slice none 0 0]) 9 120 Tryz.underRules HIR.out.1 HIR.out.2.1 HIR.out.2.2.1 HIR.out.2.2.2 rfl (by decide) (.slice vo n vc) n xs rfl ⟨HX8.out.own.1,HX8.out.own.2.imp (fun e=>e) fun⟨q,cap,cur,k1,k2,k3,k4⟩=>⟨q,cap,cur,k1,k2,(HB9.out.block q (ae k3)).trans k3,k4⟩⟩ ⟨w8.heap.size,0,none⟩ 1 1 [tn brk,.bool true,.bool false,.int .i64 po,.slice pco pcn pcc,.slice pko pkn pkc,.int .i64 qo,.slice qco qcn qcc,.slice qko qkn qkc] rfl rfl HN9.out (fun u hu=>by simp at hu;rcases hu with h | h | h | h | h | h | h | h | h<;>rw[h]<;>rfl) (by decide) (by unfold maxLen;omega) (by omega) (by have:=HX8.out.lx;have:=HB9.out.size;omega) w9.heap.size rfl ?_
   intro g8 c8 w10 o10 gr10 hl10 hlt10;have HM:=hid (fun(w11:sG) (h11:w11=w10.setCell ⟨X,1,none⟩ (.slice (some ⟨g8,0,none⟩) (n+1) c8))=>dh.more (r:=⟨brk,true,false,pl,pr⟩) HX8.out HP1.out HP2.out rfl HB9.out o10 gr10 h11)
   have X10:w10.heap[X]? =w8.heap[X]? :=(gr10.block X (sM xl8 HB9.out.size) (fun e=>HOn.out X e.symm rfl)).trans (HB9.out.block X xl8)
   have f10:w10.frozen? ⟨X,1,none⟩=false:=sI w10 X 1 _ _ (X10.trans HX8.out.at_);have c10:w10.cell? ⟨X,1,none⟩=some (.slice vo n vc):=by rw[sD w10 X 1 _ _ _ (X10.trans HX8.out.at_)];rfl
   have HS10:=hid (HC.out w10 fun b hb hne=>(gr10.block b (sM hb HB9.out.size) (fun e=>hne e.symm)).trans (HB9.out.block b hb))
   refine hKK _ _ (fun _=>HC.out _ fun b hb hne=>(gr10.block b (sM hb HB9.out.size) (fun e=>hne e.symm)).trans (HB9.out.block b hb)) ?_
   clear hKK o10 gr10 hl10 hlt10 X10
   iterate 3 (refine ar rfl (by kernel_rfl) fun KK hKK=>?_;go_simp;refine hKK _ _ (fun _=>HS10.out) ?_;clear hKK)
   refine ar rfl (by kernel_rfl) fun KK hKK=>?_
   go_simp;refine hKK _ _ (fun h=>by cases h) ?_
   clear hKK;refine aQ (sV ?_);go_wp2;go_ret;obtain⟨m1,m2,m3⟩:=HM.out _ rfl;exact⟨rfl,HFr.out.trans m2,HFx.out.trans m3,_,_,_,_,m1⟩)
end Pt
end
section
open Ev Go.RowKit
namespace Pt
theorem zgk (B X g nc:Nat) (vs:List sH) (vo:Option Addr) (n vc:Nat) (rs:List Rl) (xs:List sH) (rest rested:Bool) (w:sG) (s:List UInt8) (hX:dh B w X g nc vs vo n vc rs xs rest rested)
  (h1:aA 103 (.string ⟨s.toArray⟩) (.string ⟨#[]⟩)):sK Tryz.prog 72 #[.pointer (some ⟨X,0,none⟩),.string ⟨s.toArray⟩] w (LnQ B w X g nc vs rs rest rested):=by
 have HX:=hid hX;have H1:=hid h1;clear hX h1;go_enter Tryz.func72,Tryz.ntmps72;go_wp2_with fail;refine(H1.out w).mono ?_;rintro e w1 ⟨rfl,b1⟩;have HX1:=hid (HX.out.below b1);have HB1:=hid b1;clear b1;go_wp2;go_ret;exact⟨rfl,.of (.of HB1.out) (by have:=ae HX.out.at_;have:=HX.out.lx;omega),.of (.of HB1.out),vo,n,vc,xs,HX1.out⟩
def PrQ (g:Nat) (w:sG) (rs:List Rl) (rest:Bool) (e:Ending) (w':sG):Prop:=∃ro rc,e= .returned (.tuple #[.agg #[.slice ro rs.length rc,.bool rest],.int .i64 0,.int .i64 0])/\zbF w' ro rs/\Oth g w w'
theorem dh.rules {B:Nat} {w:sG} {X g nc:Nat} {vs:List sH} {vo:Option Addr} {n vc:Nat} {rs:List Rl} {xs:List sH} {rest rested:Bool} (h:dh B w X g nc vs vo n vc rs xs rest rested):zbF w vo rs:=fun j r hj=>by
 obtain⟨l0,l1,l2,r0,r1,r2,a0,a1,a2,a3,a4,a5,a6,a7,a8,p1,p2⟩:=h.rul j r hj;have hjl:=(sO.1 hj).1;have hn:=h.hn
 rcases h.own.2 with ⟨_,e⟩ | ⟨q,cap,cur,k1,k2,k3,k4,k5,k6,k7⟩
 ·omega
 ·cases k1
  have hc:∀i v,i<n * 9->xs[i]? =some v->w.cell? ⟨q,i,none⟩=some v:=fun i v hi hv=>by
   rw[sD w q i cur _ _ k3];rw[<- k7,sS hi] at hv
   simpa using hv
  refine⟨q,0,l0,l1,l2,r0,r1,r2,rfl,ae k3,?_,?_,?_,?_,?_,?_,?_,?_,?_,bV.to _ _ _ _ p1,bV.to _ _ _ _ p2⟩
  all_goals (rw[Nat.zero_add];refine hc _ _ (by omega) ?_;assumption)
set_option maxRecDepth 100000 in
theorem zfE (text:List UInt8) (ht:text.length<=16384) (vs:List sH) (g nc:Nat) (ls:List (List UInt8)) (T:Nat->List Rl) (Rst Rd:Nat->Bool) (w:sG) (hN:aN w g nc vs) (hl9:ls.length<=1000) (hT:T 0=[]) (hR:Rst 0=true) (hD:Rd 0=false)
  (h1:∀W,aN W g nc vs->sK Tryz.prog 70 #[.slice (some ⟨g,0,none⟩) vs.length nc] W fun e w'=>e= .returned (.bool true)/\aN w' g nc vs/\Oth g W w')
  (h2:∀W:sG,sK Tryz.prog 71 #[.string ⟨text.toArray⟩] W fun e w'=>∃vo vc,e= .returned (.slice vo ls.length vc)/\zpi W.heap.size w' vo ls/\sZ W.heap.size W w')
  (h3:∀(j:Nat) (s:List UInt8),ls[j]? =some s->∀(B X:Nat) (vo:Option Addr) (n vc:Nat) (xs:List sH) (W:sG),dh B W X g nc vs vo n vc (T j) xs (Rst j) (Rd j)->sK Tryz.prog 72 #[.pointer (some ⟨X,0,none⟩),.string ⟨s.toArray⟩] W (LnQ B W X g nc vs (T (j+1)) (Rst (j+1)) (Rd (j+1)))):
  sK Tryz.prog 45 #[.string ⟨text.toArray⟩,.slice (some ⟨g,0,none⟩) vs.length nc] w (PrQ g w (T ls.length) (Rst ls.length)):=by
 have HN:=hid hN;have H1:=hid h1;have H2:=hid h2;have H3:=hid h3;have HT:=hid (sW hT (sW hR hD));have HG:=hid (show g<w.heap.size by obtain⟨cur,k,_⟩:=hN;exact ae k)
 clear hN h1 h2 h3 hT hR hD;have t1:¬(16384:Int)<(text.length:Int):=by omega
 go_enter Tryz.func45,Tryz.ntmps45;go_wp2_with fail;refine(H1.out _ (HN.out.below below_box)).mono ?_;rintro e w1 ⟨rfl,n1,o1⟩;have HN1:=hid n1;have HO1:=hid ((Oth.of below_box).trans o1);have Z1:w1.heap[w.heap.size]? =some (.cells #[.slice none 0 0,.bool false] 63 (0,0)):=(o1.block _ (by simp) (by have:=HG.out;omega)).trans (heap_alloc_new _ _)
 have HZ1:=hid Z1;clear n1 o1 Z1 H1;go_wp2_with fail;refine(H2.out _).mono ?_;rintro e w3 ⟨lo,lc,rfl,hL,b3⟩;obtain⟨X,hX⟩:∃X,X=w1.heap.size:=⟨_,rfl⟩;have HX3:=hid (show dh w.heap.size w3 X g nc vs none 0 0 (T 0) [] (Rst 0) (Rd 0) from by
  rw[HT.out.1,HT.out.2.1,HT.out.2.2,hX];refine dh.below (w:=w1.alloc _) ⟨heap_alloc_new _ _,HN1.out.below below_box,sG.ownsRow_nil _ _ _ _,fun j r hj=>by simp at hj,rfl,HO1.out.size,HG.out⟩ b3)
 have HF3:=hid (show Fr w.heap.size g w w3 from(Fr.of HO1.out (tk _)).trans ((Fr.of (.of below_box) HO1.out.size).trans (Fr.of (.of b3) (by have:=HO1.out.size;simp;omega))))
 have HZ3:=hid ((b3.block _ (by have:=ae HZ1.out;simp;omega)).trans ((sZ.heap_alloc _ _ _ (ae HZ1.out)).trans HZ1.out))
 have HL3:=hid (show zpi (X+1) w3 lo ls from by rw[hX];simpa using hL)
 have HXw:=hid (show w.heap.size<X from by rw[hX];exact ae HZ1.out)
 rw[<- hX];clear hL b3 hX H2;obtain⟨m,hm⟩:∃m,m=ls.length:=⟨_,rfl⟩;rw[<- hm] at hl9⊢;have HM:=hid hm;clear hm;go_wp2;go_loopw [9] (fun y wr=>∃i:Nat,y= .int .i64 i/\i<=m/\Hid (∃vo n vc xs,dh w.heap.size wr X g nc vs vo n vc (T i) xs (Rst i) (Rd i))/\Hid (Fr w.heap.size g w wr)/\Hid (wr.heap[w.heap.size]? =some (.cells #[.slice none 0 0,.bool false] 63 (0,0)))/\Hid (zpi (X+1) wr lo ls)) (fun y _=>m - (intOf y).toNat)
 case atStart=>exact⟨0,rfl,Nat.zero_le _,hid ⟨_,_,_,_,HX3.out⟩,HF3,HZ3,HL3⟩
 case round=>
  clear HX3 HF3 HZ3 HL3;obtain⟨i,rfl,hi,HX,HF,HZ,HL⟩:=hrel;obtain⟨vo,n,vc,xs,hx⟩:=HX.out
  by_cases hlt:i<m
  ·have i0:(0:Int)<=(i:Int):=by omega
   have i1:(i:Int)<(m:Int):=by omega
   have hil:i<ls.length:=by have:=HM.out;omega
   obtain⟨b,o,c,fr,rfl,hb,hh,hc⟩:=HL.out i ls[i] (sL hil);have c1:wr.cell? ⟨b,o+i,none⟩=some (.string ⟨(ls[i]).toArray⟩):=by rw[sD wr b _ c _ _ hh];exact hc
   have HLn:=hid (H3.out i ls[i] (sL hil) w.heap.size X vo n vc xs wr hx);obtain⟨s,hs⟩:∃s,s=ls[i]:=⟨_,rfl⟩;rw[<- hs] at c1 HLn;clear hh hc hs hb hx;go_wp2_with fail;refine HLn.out.mono ?_;rintro e w4 ⟨rfl,f4,x4,r4⟩;have HX4:=hid r4;have HF4:=hid (HF.out.trans f4);have HZ4:=hid (x4 _ _ HZ.out (by have:=HG.out;omega) (by have:=HXw.out;omega) (fun c fr e=>by cases e))
   have HL4:=hid (show zpi (X+1) w4 (some ⟨b,o,none⟩) ls from fun j s hj=>by
    obtain⟨b2,o2,c2,fr2,k1,k2,k3,k4⟩:=HL.out j s hj;exact⟨b2,o2,c2,fr2,k1,k2,x4 _ _ k3 (by have:=HG.out;have:=HXw.out;omega) (by omega) (fun c fr e=>by cases e),k4⟩)
   clear f4 x4 r4 c1 HLn;go_wp2;go_roundw
   case rel=>exact⟨i+1,by go_num,by omega,HX4,HF4,HZ4,HL4⟩
   case measure=>simp[intOf];omega
  ·have i1:¬(i:Int)<(m:Int):=by omega
   have e:i=m:=by omega
   subst e;have HXx:=hid hx;have x1:wr.cell? ⟨X,1,none⟩=some (.slice vo n vc):=by rw[sD wr X 1 _ _ _ hx.at_];rfl
   have x2:wr.cell? ⟨X,2,none⟩=some (.bool (Rst i)):=by rw[sD wr X 2 _ _ _ hx.at_];rfl
   have z0:wr.cell? ⟨w.heap.size,0,none⟩=some (.slice none 0 0):=by rw[sD wr _ 0 _ _ _ HZ.out];rfl
   have z1:wr.cell? ⟨w.heap.size,1,none⟩=some (.bool false):=by rw[sD wr _ 1 _ _ _ HZ.out];rfl
   have f0:=sI wr _ 0 _ _ HZ.out;have f1:=sI wr _ 1 _ _ HZ.out;clear hx;go_wp2;obtain⟨w5,hw5⟩:∃w5,w5=(wr.setCell ⟨w.heap.size,0,none⟩ (.slice vo n vc)).setCell ⟨w.heap.size,1,none⟩ (.bool (Rst i)):=⟨_,rfl⟩;rw[<- hw5];have k5:di w.heap.size wr w5:=by rw[hw5];exact(di.set _ 0 wr _).trans (di.set _ 1 _ _)
   have z5:w5.heap[w.heap.size]? =some (.cells #[.slice vo n vc,.bool (Rst i)] 63 (0,0)):=by
    have h0:=sJ wr w.heap.size 0 _ _ (.slice vo n vc) HZ.out;rw[hw5,sJ _ w.heap.size 1 _ _ _ h0]
    rfl
   have y0:w5.cell? ⟨w.heap.size,0,none⟩=some (.slice vo n vc):=by rw[sD w5 _ 0 _ _ _ z5];rfl
   have y1:w5.cell? ⟨w.heap.size,1,none⟩=some (.bool (Rst i)):=by rw[sD w5 _ 1 _ _ _ z5];rfl
   refine bodyPost_ret (v:=.tuple #[.agg #[.slice vo n vc,.bool (Rst i)],.int .i64 0,.int .i64 0]) ?_ rfl ?_
   ·simp[results,Tryz.f45,go_sem,y0,y1]
   ·rw[<- HM.out]
    refine⟨vo,vc,by rw[HXx.out.hn],?_,?_⟩
    ·have r5:dh w.heap.size w5 X g nc vs vo n vc (T i) xs (Rst i) (Rd i):=by
      refine⟨(k5.block X (by have:=HXw.out;omega)).trans HXx.out.at_,?_,⟨HXx.out.own.1,HXx.out.own.2.imp (fun e=>e) fun⟨q,cap,cur,c1,c2,c3,c4⟩=>⟨q,cap,cur,c1,c2,(k5.block q (fun e=>by rw[e,HZ.out] at c3;cases c3)).trans c3,c4⟩⟩,HXx.out.rul.kt (fun b c t fr hb ht=>(k5.block b (fun e=>by
       rw[e,HZ.out] at hb
       cases hb
       rcases ht with ht | ht<;>cases ht)).trans hb),HXx.out.hn,HXx.out.lx,HXx.out.lg⟩
      obtain⟨cur,h1,h2⟩:=HXx.out.nm;exact⟨cur,(k5.block g (by have:=HG.out;omega)).trans h1,h2⟩
     exact r5.rules
    ·exact⟨k5.os.trans HF.out.os,k5.tape.trans HF.out.tape,k5.output.trans HF.out.output,by rw[k5.size];exact HF.out.size,fun b hb hne=>(k5.block b (by omega)).trans (HF.out.block b hb hne)⟩
end Pt
end
section
open Ev Go.RowKit
namespace Pt
def ah:List sH:=[.string ⟨#[79,116,104,101,114]⟩,.string ⟨#[66,107]⟩,.string ⟨#[67,114]⟩,.string ⟨#[76,102]⟩,.string ⟨#[83,112]⟩,.string ⟨#[90,119]⟩,.string ⟨#[87,106]⟩,.string ⟨#[71,108]⟩,.string ⟨#[67,109]⟩,.string ⟨#[79,112]⟩,.string ⟨#[67,112]⟩,.string ⟨#[67,108]⟩,.string ⟨#[81,117]⟩,.string ⟨#[69,120]⟩,.string ⟨#[73,115]⟩,.string ⟨#[83,121]⟩,.string ⟨#[72,121]⟩,.string ⟨#[66,97]⟩,.string ⟨#[68,97,115,104]⟩,.string ⟨#[73,110]⟩,.string ⟨#[78,117]⟩,.string ⟨#[80,111]⟩,.string ⟨#[80,114]⟩,.string ⟨#[73,100]⟩,.string ⟨#[78,115]⟩,.string ⟨#[82,105]⟩]
theorem ai:bA ah=true:=by kernel_rfl
theorem zej:zlu (evF Tryz.prog oV 1000000 (ml Tryz.prog oV) 60) 70 ah=true:=by kernel_rfl
theorem lnOv:zvP Tryz.prog (ovN 70 ah):=zsI (iF dN (fun _ hc=>fR mixed dN hc) 60) ai (by decide) zej
noncomputable def bk:aH:=evG Tryz.prog oV 1000000 (ml Tryz.prog oV) (ovN 70 ah) 60
theorem aw:bw Tryz.prog bk:=pH dN (fun _ hc=>fR mixed dN hc) lnOv 60
def znv:ax:=.mk 1 [2] []
def zrT:ByteArray:=⟨#[67,114]⟩
def znt:ax:=.mk 1 [3] []
def zrS:ByteArray:=⟨#[76,102]⟩
def znh:ax:=.mk 1 [1,2,3] []
def zrR:ByteArray:=⟨#[91,66,107,32,67,114,32,76,102,93]⟩
def bT:ax:=.mk 0 [] []
def zrQ:ByteArray:=⟨#[]⟩
def zmK:ax:=.mk 1 [1,2,3,4,5] []
def zrP:ByteArray:=⟨#[91,66,107,32,67,114,32,76,102,32,83,112,32,90,119,93]⟩
def zmz:ax:=.mk 2 [] [(.mk 1 [5] []),(.mk 4 [] [(.mk 1 [4] [])])]
def zrO:ByteArray:=⟨#[90,119,32,83,112,42]⟩
def zmx:ax:=.mk 1 [0,6,7,8,9,10,11,12,13,14,15,16,17,18,19,20,21,22,23,24,25] []
def zrN:ByteArray:=⟨#[91,94,66,107,32,67,114,32,76,102,32,83,112,32,90,119,93]⟩
def zmv:ax:=.mk 1 [8] []
def zrM:ByteArray:=⟨#[67,109]⟩
def zmt:ax:=.mk 1 [6] []
def zrL:ByteArray:=⟨#[87,106]⟩
def zmr:ax:=.mk 2 [] [(.mk 1 [6] []),(.mk 4 [] [(.mk 1 [8] [])])]
def zrK:ByteArray:=⟨#[87,106,32,67,109,42]⟩
def zei:ax:=.mk 2 [] [(.mk 1 [7] []),(.mk 4 [] [(.mk 1 [8] [])])]
def zns:ByteArray:=⟨#[71,108,32,67,109,42]⟩
def zeg:ax:=.mk 2 [] [(.mk 1 [0,1,2,3,5,6,7,9,10,11,12,13,14,15,18,19,20,21,22,23,24,25] []),(.mk 4 [] [(.mk 1 [8] [])])]
def znr:ByteArray:=⟨#[91,94,83,112,32,66,97,32,72,121,32,67,109,93,32,67,109,42]⟩
def mP:ax:=.mk 1 [7] []
def znq:ByteArray:=⟨#[71,108]⟩
def mN:ax:=.mk 2 [] [(.mk 1 [8] []),(.mk 4 [] [(.mk 1 [8] [])])]
def znp:ByteArray:=⟨#[32,67,109,32,67,109,42]⟩
def zed:ax:=.mk 1 [10,11,13,14,15] []
def zno:ByteArray:=⟨#[91,67,108,32,67,112,32,69,120,32,73,115,32,83,121,93]⟩
def zeb:ax:=.mk 2 [] [(.mk 1 [9] []),(.mk 4 [] [(.mk 1 [8] [])]),(.mk 4 [] [(.mk 1 [4] [])])]
def znn:ByteArray:=⟨#[79,112,32,67,109,42,32,83,112,42]⟩
def zdZ:ax:=.mk 2 [] [(.mk 1 [12] []),(.mk 4 [] [(.mk 1 [8] [])]),(.mk 4 [] [(.mk 1 [4] [])])]
def znm:ByteArray:=⟨#[81,117,32,67,109,42,32,83,112,42]⟩
def mM:ax:=.mk 1 [9] []
def znl:ByteArray:=⟨#[79,112]⟩
def zdX:ax:=.mk 2 [] [(.mk 1 [10,11] []),(.mk 4 [] [(.mk 1 [8] [])]),(.mk 4 [] [(.mk 1 [4] [])])]
def znk:ByteArray:=⟨#[91,67,108,32,67,112,93,32,67,109,42,32,83,112,42]⟩
def zdV:ax:=.mk 1 [24] []
def znj:ByteArray:=⟨#[78,115]⟩
def zdT:ax:=.mk 2 [] [(.mk 1 [18] []),(.mk 4 [] [(.mk 1 [8] [])]),(.mk 4 [] [(.mk 1 [4] [])])]
def zng:ByteArray:=⟨#[68,97,115,104,32,67,109,42,32,83,112,42]⟩
def zdR:ax:=.mk 1 [18] []
def znf:ByteArray:=⟨#[68,97,115,104]⟩
def zdP:ax:=.mk 1 [4] []
def zne:ByteArray:=⟨#[83,112]⟩
def zdN:ax:=.mk 1 [12] []
def znd:ByteArray:=⟨#[81,117]⟩
def zdL:ax:=.mk 2 [] [(.mk 1 [12] []),(.mk 4 [] [(.mk 1 [8] [])])]
def znc:ByteArray:=⟨#[81,117,32,67,109,42]⟩
def zdJ:ax:=.mk 1 [16,17,24] []
def znb:ByteArray:=⟨#[91,66,97,32,72,121,32,78,115,93]⟩
def zdH:ax:=.mk 1 [19] []
def zna:ByteArray:=⟨#[73,110]⟩
def iu:ax:=.mk 2 [] [(.mk 1 [0] []),(.mk 4 [] [(.mk 1 [8] [])])]
def zmZ:ByteArray:=⟨#[79,116,104,101,114,32,67,109,42]⟩
def mK:ax:=.mk 1 [20] []
def zmY:ByteArray:=⟨#[78,117]⟩
def zdF:ax:=.mk 2 [] [(.mk 1 [20] []),(.mk 4 [] [(.mk 1 [8] [])])]
def zmX:ByteArray:=⟨#[78,117,32,67,109,42]⟩
def fb:ax:=.mk 1 [0] []
def zmV:ByteArray:=⟨#[79,116,104,101,114]⟩
def zdD:ax:=.mk 2 [] [(.mk 1 [22] []),(.mk 4 [] [(.mk 1 [8] [])])]
def zmU:ByteArray:=⟨#[80,114,32,67,109,42]⟩
def zdB:ax:=.mk 1 [23] []
def zmT:ByteArray:=⟨#[73,100]⟩
def zdz:ax:=.mk 2 [] [(.mk 1 [23] []),(.mk 4 [] [(.mk 1 [8] [])])]
def zmS:ByteArray:=⟨#[73,100,32,67,109,42]⟩
def zdx:ax:=.mk 1 [21] []
def zmR:ByteArray:=⟨#[80,111]⟩
def zdv:ax:=.mk 2 [] [(.mk 1 [21,22] []),(.mk 4 [] [(.mk 1 [8] [])])]
def zmQ:ByteArray:=⟨#[91,80,114,32,80,111,93,32,67,109,42]⟩
def zdt:ax:=.mk 1 [21,22] []
def zmP:ByteArray:=⟨#[91,80,114,32,80,111,93]⟩
def rk:ax:=.mk 2 [] [(.mk 1 [20] []),(.mk 4 [] [(.mk 1 [8] [])]),(.mk 6 [] [(.mk 1 [14,15] [])]),(.mk 4 [] [(.mk 1 [8] [])]),(.mk 6 [] [(.mk 1 [10,11] [])]),(.mk 4 [] [(.mk 1 [8] [])])]
def zmO:ByteArray:=⟨#[78,117,32,67,109,42,32,91,73,115,32,83,121,93,63,32,67,109,42,32,91,67,108,32,67,112,93,63,32,67,109,42]⟩
def zdq:ax:=.mk 1 [21,22] []
def zmN:ByteArray:=⟨#[91,80,111,32,80,114,93]⟩
def zdo:ax:=.mk 2 [] [(.mk 1 [21,22] []),(.mk 4 [] [(.mk 1 [8] [])])]
def zmM:ByteArray:=⟨#[91,80,111,32,80,114,93,32,67,109,42]⟩
def pf:ax:=.mk 2 [] [(.mk 6 [] [(.mk 3 [] [(.mk 1 [9] []),(.mk 1 [16] [])])]),(.mk 1 [20] [])]
def zmJ:ByteArray:=⟨#[40,79,112,32,124,32,72,121,41,63,32,78,117]⟩
def zdl:ax:=.mk 2 [] [(.mk 1 [14,15,16,20] []),(.mk 4 [] [(.mk 1 [8] [])])]
def zmI:ByteArray:=⟨#[91,72,121,32,73,115,32,83,121,32,78,117,93,32,67,109,42]⟩
def zdj:ax:=.mk 2 [] [(.mk 1 [14] []),(.mk 4 [] [(.mk 1 [8] [])])]
def zmH:ByteArray:=⟨#[73,115,32,67,109,42]⟩
def zdh:ax:=.mk 2 [] [(.mk 1 [0,20] []),(.mk 4 [] [(.mk 1 [8] [])])]
def zmG:ByteArray:=⟨#[91,79,116,104,101,114,32,78,117,93,32,67,109,42]⟩
def zdf:ax:=.mk 2 [] [(.mk 1 [10] []),(.mk 4 [] [(.mk 1 [8] [])])]
def zmF:ByteArray:=⟨#[67,112,32,67,109,42]⟩
def zdd:ax:=.mk 1 [0,20] []
def zmE:ByteArray:=⟨#[91,79,116,104,101,114,32,78,117,93]⟩
def rj:ax:=.mk 2 [] [(.mk 4 [] [(.mk 1 [8] [])]),(.mk 4 [] [(.mk 2 [] [(.mk 1 [25] []),(.mk 4 [] [(.mk 1 [8] [])]),(.mk 1 [25] []),(.mk 4 [] [(.mk 1 [8] [])])])]),(.mk 1 [25] []),(.mk 4 [] [(.mk 1 [8] [])])]
def zmD:ByteArray:=⟨#[32,67,109,42,32,40,82,105,32,67,109,42,32,82,105,32,67,109,42,41,42,32,82,105,32,67,109,42]⟩
def mI:ax:=.mk 1 [25] []
def zmC:ByteArray:=⟨#[82,105]⟩
def pe:ax:=.mk 2 [] [(.mk 1 [0,1,2,3,4,5,6,7,9,10,11,12,13,14,15,16,17,18,19,20,21,22,23,24] []),(.mk 4 [] [(.mk 1 [8] [])]),(.mk 4 [] [(.mk 2 [] [(.mk 1 [25] []),(.mk 4 [] [(.mk 1 [8] [])]),(.mk 1 [25] []),(.mk 4 [] [(.mk 1 [8] [])])])]),(.mk 1 [25] []),(.mk 4 [] [(.mk 1 [8] [])])]
def zmB:ByteArray:=⟨#[91,94,82,105,32,67,109,93,32,67,109,42,32,40,82,105,32,67,109,42,32,82,105,32,67,109,42,41,42,32,82,105,32,67,109,42]⟩
end Pt
end
section
open Go.RowKit
namespace Pt
def qp:List Rl:=[
 ⟨false,false,false,znv,znt⟩,
 ⟨true,false,false,znh,bT⟩,
 ⟨false,false,false,bT,zmK⟩,
 ⟨true,false,false,zmz,bT⟩,
 ⟨false,false,false,zmx,zmv⟩,
 ⟨false,false,false,bT,zmt⟩,
 ⟨false,false,false,zmr,bT⟩,
 ⟨false,false,false,zei,bT⟩,
 ⟨false,false,false,zeg,mP⟩,
 ⟨false,true,false,mN,mP⟩,
 ⟨false,false,false,bT,zed⟩,
 ⟨false,false,false,zeb,bT⟩,
 ⟨false,false,false,zdZ,mM⟩,
 ⟨false,false,false,zdX,zdV⟩,
 ⟨false,false,false,zdT,zdR⟩,
 ⟨true,false,false,zdP,bT⟩,
 ⟨false,false,false,bT,zdN⟩,
 ⟨false,false,false,zdL,bT⟩,
 ⟨false,false,false,bT,zdJ⟩,
 ⟨false,false,false,bT,zdH⟩,
 ⟨false,false,false,iu,mK⟩,
 ⟨false,false,false,zdF,fb⟩,
 ⟨false,false,false,zdD,zdB⟩,
 ⟨false,false,false,zdz,zdx⟩,
 ⟨false,false,false,zdv,fb⟩,
 ⟨false,false,false,iu,zdt⟩,
 ⟨false,false,false,rk,zdq⟩,
 ⟨false,false,false,zdo,pf⟩,
 ⟨false,false,false,zdl,mK⟩,
 ⟨false,false,false,iu,fb⟩,
 ⟨false,false,false,zdj,fb⟩,
 ⟨false,false,false,zdh,mM⟩,
 ⟨false,false,false,zdf,zdd⟩,
 ⟨false,true,false,rj,mI⟩,
 ⟨false,false,false,pe,mI⟩]
end Pt
end
section
open Ev Go.RowKit
namespace Pt
theorem dh.rest {B:Nat} {w w1 w2:sG} {X g nc:Nat} {vs:List sH} {vo:Option Addr} {n vc:Nat} {rs:List Rl} {xs:List sH} {rest brk:Bool} (h:dh B w X g nc vs vo n vc rs xs rest false) (h1:w1=w.setCell ⟨X,2,none⟩ (.bool brk)) (h2:w2=w1.setCell ⟨X,3,none⟩ (.bool true)):
  dh B w2 X g nc vs vo n vc rs xs brk true/\Fr B g w w2/\Fx g X w w2:=by
 have lx:=h.lx;have lg:=h.lg;have k1:di X w w1:=by rw[h1];exact di.set X 2 w _
 have k2:di X w w2:=by rw[h2];exact k1.trans (di.set X 3 w1 _)
 have e1:w1.heap[X]? =some (.cells #[.slice (some ⟨g,0,none⟩) vs.length nc,.slice vo n vc,.bool brk,.bool false] 87 (0,0)):=by rw[h1,sJ w X 2 _ _ _ h.at_];rfl
 have e2:w2.heap[X]? =some (.cells #[.slice (some ⟨g,0,none⟩) vs.length nc,.slice vo n vc,.bool brk,.bool true] 87 (0,0)):=by rw[h2,sJ w1 X 3 _ _ _ e1];rfl
 refine⟨⟨e2,?_,⟨h.own.1,h.own.2.imp (fun e=>e) fun⟨q,cap,cur,c1,c2,c3,c4⟩=>⟨q,cap,cur,c1,c2,(k2.block q (fun e=>by
  rw[e,h.at_] at c3
  cases c3)).trans c3,c4⟩⟩,h.rul.kt (fun b c t fr hb ht=>(k2.block b (fun e=>by
  rw[e,h.at_] at hb
  cases hb
  rcases ht with ht | ht<;>cases ht)).trans hb),h.hn,lx,lg⟩,⟨k2.os,k2.tape,k2.output,by rw[k2.size];exact tk _,fun b hb _=>k2.block b (by omega)⟩,fun b o hb _ hne _=>(k2.block b hne).trans hb⟩
 obtain⟨cur,a1,a2⟩:=h.nm;exact⟨cur,(k2.block g (by omega)).trans a1,a2⟩
set_option maxRecDepth 100000 in
theorem zkh (B X g nc:Nat) (vs:List sH) (vo:Option Addr) (n vc:Nat) (rs:List Rl) (xs:List sH) (rest:Bool) (w:sG) (s p:List UInt8) (k:Nat) (brk:Bool) (hX:dh B w X g nc vs vo n vc rs xs rest false)
  (h1:aA 103 (.string ⟨s.toArray⟩) (.string ⟨p.toArray⟩)) (h2:aA 104 (.string ⟨p.toArray⟩) (.int .i64 k)) (hk:k<p.length) (hp9:p.length<=10000) (hb:((p[k].toNat:Int)==47)=brk)
  (h3:aA 105 (.string ((⟨p.toArray⟩:ByteArray).extract 0 k)) (.string ⟨#[114,101,115,116]⟩)) (h4:aA 105 (.string ((⟨p.toArray⟩:ByteArray).extract (k+1) p.length)) (.string ⟨#[]⟩)):
  sK Tryz.prog 72 #[.pointer (some ⟨X,0,none⟩),.string ⟨s.toArray⟩] w (LnQ B w X g nc vs rs brk true):=by
 have HX:=hid hX;have H1:=hid h1;have H2:=hid h2;have H3:=hid h3;have H4:=hid h4;clear hX h1 h2 h3 h4;go_enter Tryz.func72,Tryz.ntmps72;go_wp2_with fail;refine(H1.out w).mono ?_;rintro e w1 ⟨rfl,b1⟩;have HX1:=hid (HX.out.below b1);have HB1:=hid b1;clear b1;have p0:p.isEmpty=false:=by cases p with
  | nil=>simp at hk
  | cons a b=>rfl
 have p1:p≠ []:=by cases p with
  | nil=>simp at hk
  | cons a b=>simp
 go_wp2_with fail;refine(H2.out w1).mono ?_;rintro e w2 ⟨rfl,b2⟩;have HX2:=hid (HX1.out.below b2);have HB2:=hid (HB1.out.trans (b2.mono HB1.out.size));clear b2 HX1 HB1;have x3:w2.cell? ⟨X,3,none⟩=some (.bool false):=by rw[sD w2 X 3 _ _ _ HX2.out.at_];rfl
 have k0:(0:Int)<=(k:Int):=by omega
 have k1:(k:Int)<(p.length:Int):=by omega
 have k2:¬(k:Int)<0:=by omega
 have d1:decide ((k:Int)<0)=false:=decide_eq_false (by omega)
 have k3:(k:Int)<=(p.length:Int):=by omega
 have k4:(k:Int)+1<=(p.length:Int):=by omega
 go_wp2_with fail;have e9:((((⟨p.toArray⟩:ByteArray)[k]'(by show k<p.toArray.size;simpa using hk)).toNat:Int)==47)=brk:=hb
 rw[e9];clear e9 hb;have e8:td.wrap ((k:Int)+1)=(k:Int)+1:=by unfold sX sY sU;simp;omega
 have k5:(0:Int)<=(k:Int)+1:=by omega
 refine am [(0,true),(1,true),(2,true),(4,true),(5,true),(6,true),(7,true),(3,false),(8,false),(9,false),(10,false)] (fun _=>True) (fun _=>false) (by kernel_rfl) (by kernel_rfl) (fun j hj=>by cases hj) rfl (by kernel_rfl) trivial ?_
 iterate 7 (refine av ?_ rfl (by kernel_rfl) (fun w' hS=>?_) ?_;(rotate_left;(go_simp;with_reducible rfl);rotate_left))
 refine ar rfl (by kernel_rfl) fun KK hKK=>?_
 go_simp;refine(H3.out w2.drew).mono ?_;rintro e w3 ⟨rfl,b3⟩;have HB3:=hid (show sZ w2.heap.size w2 w3 from⟨b3.os,b3.tape,b3.output,b3.size,b3.block⟩)
 clear b3;refine hKK _ _ (fun _=>trivial) ?_
 clear hKK;refine ar rfl (by kernel_rfl) fun KK hKK=>?_
 go_simp;refine(H4.out w3).mono ?_;rintro e w4 ⟨rfl,b4⟩;have HB4:=hid (show sZ w2.heap.size w2 w4 from HB3.out.trans (b4.mono HB3.out.size))
 clear b4 HB3;refine hKK _ _ (fun _=>trivial) ?_
 clear hKK;refine ar rfl (by kernel_rfl) fun KK hKK=>?_
 go_simp;refine hKK _ _ (fun _=>trivial) ?_
 clear hKK;refine ar rfl (by kernel_rfl) fun KK hKK=>?_
 go_simp;refine hKK _ _ (fun _=>trivial) ?_
 clear hKK;refine aQ (sV ?_);have HX4:=hid (HX2.out.below HB4.out);have HBw:=hid (HB2.out.trans (HB4.out.mono HB2.out.size));have HF4:=hid (show Fr B g w w4 from .of (.of HBw.out) (by have:=ae HX.out.at_;have:=HX.out.lx;omega))
 have HFx:=hid (show Fx g X w w4 from .of (.of HBw.out))
 have y2:w4.cell? ⟨X,2,none⟩=some (.bool rest):=by rw[sD w4 X 2 _ _ _ HX4.out.at_];rfl
 have f2:w4.frozen? ⟨X,2,none⟩=false:=sI w4 X 2 _ _ HX4.out.at_;have HR:=hid (fun(u1 u2:sG) (e1:u1=w4.setCell ⟨X,2,none⟩ (.bool brk)) (e2:u2=u1.setCell ⟨X,3,none⟩ (.bool true))=>dh.rest HX4.out e1 e2)
 have m3:(w4.setCell ⟨X,2,none⟩ (.bool brk)).cell? ⟨X,3,none⟩=some (.bool false):=by rw[sD _ X 3 _ _ _ (sJ w4 X 2 _ _ (.bool brk) HX4.out.at_)];rfl
 have m4:(w4.setCell ⟨X,2,none⟩ (.bool brk)).frozen? ⟨X,3,none⟩=false:=sI _ X 3 _ _ (sJ w4 X 2 _ _ (.bool brk) HX4.out.at_);have xl:X<w4.heap.size:=ae HX4.out.at_;clear x3 HX2 HB2 HB4 k2 k3 k4 k5 d1 e8 p0 p1 HX;go_wp2;go_ret;obtain⟨r1,r2,r3⟩:=HR.out _ _ rfl rfl;exact⟨rfl,HF4.out.trans r2,HFx.out.trans r3,_,_,_,_,r1⟩
end Pt
end
section
open Ev Go.RowKit
namespace Pt
theorem zmy:bj bk 106 zrO ah zmz=true:=by kernel_rfl
theorem zge (g nc:Nat) (w:sG) (hN:aN w g nc ah):sK Tryz.prog 106 #[.string zrO,.slice (some ⟨g,0,none⟩) 26 nc] w (dL g nc ah w zmz):=ak aw ai zmy g nc w hN
theorem zka:bj bk 106 znp ah mN=true:=by kernel_rfl
theorem zee (g nc:Nat) (w:sG) (hN:aN w g nc ah):sK Tryz.prog 106 #[.string znp,.slice (some ⟨g,0,none⟩) 26 nc] w (dL g nc ah w mN):=ak aw ai zka g nc w hN
theorem zjY:bj bk 106 znn ah zeb=true:=by kernel_rfl
theorem zea (g nc:Nat) (w:sG) (hN:aN w g nc ah):sK Tryz.prog 106 #[.string znn,.slice (some ⟨g,0,none⟩) 26 nc] w (dL g nc ah w zeb):=ak aw ai zjY g nc w hN
theorem zjU:bj bk 106 znj ah zdV=true:=by kernel_rfl
theorem zdU (g nc:Nat) (w:sG) (hN:aN w g nc ah):sK Tryz.prog 106 #[.string znj,.slice (some ⟨g,0,none⟩) 26 nc] w (dL g nc ah w zdV):=ak aw ai zjU g nc w hN
theorem zjS:bj bk 106 znf ah zdR=true:=by kernel_rfl
theorem zdQ (g nc:Nat) (w:sG) (hN:aN w g nc ah):sK Tryz.prog 106 #[.string znf,.slice (some ⟨g,0,none⟩) 26 nc] w (dL g nc ah w zdR):=ak aw ai zjS g nc w hN
theorem zjI:bj bk 106 zmU ah zdD=true:=by kernel_rfl
theorem zdC (g nc:Nat) (w:sG) (hN:aN w g nc ah):sK Tryz.prog 106 #[.string zmU,.slice (some ⟨g,0,none⟩) 26 nc] w (dL g nc ah w zdD):=ak aw ai zjI g nc w hN
theorem zjH:bj bk 106 zmT ah zdB=true:=by kernel_rfl
theorem zdA (g nc:Nat) (w:sG) (hN:aN w g nc ah):sK Tryz.prog 106 #[.string zmT,.slice (some ⟨g,0,none⟩) 26 nc] w (dL g nc ah w zdB):=ak aw ai zjH g nc w hN
theorem zjw:bj bk 106 zmG ah zdh=true:=by kernel_rfl
theorem zdg (g nc:Nat) (w:sG) (hN:aN w g nc ah):sK Tryz.prog 106 #[.string zmG,.slice (some ⟨g,0,none⟩) 26 nc] w (dL g nc ah w zdh):=ak aw ai zjw g nc w hN
theorem zjr:bj bk 106 zmB ah pe=true:=by kernel_rfl
theorem zda (g nc:Nat) (w:sG) (hN:aN w g nc ah):sK Tryz.prog 106 #[.string zmB,.slice (some ⟨g,0,none⟩) 26 nc] w (dL g nc ah w pe):=ak aw ai zjr g nc w hN
end Pt
end
section
open Ev Go.RowKit
namespace Pt
theorem zni:bj bk 106 zrS ah znt=true:=by kernel_rfl
theorem zgh (g nc:Nat) (w:sG) (hN:aN w g nc ah):sK Tryz.prog 106 #[.string zrS,.slice (some ⟨g,0,none⟩) 26 nc] w (dL g nc ah w znt):=ak aw ai zni g nc w hN
theorem zmL:bj bk 106 zrQ ah bT=true:=by kernel_rfl
theorem ba (g nc:Nat) (w:sG) (hN:aN w g nc ah):sK Tryz.prog 106 #[.string zrQ,.slice (some ⟨g,0,none⟩) 26 nc] w (dL g nc ah w bT):=ak aw ai zmL g nc w hN
theorem zkd:bj bk 106 zns ah zei=true:=by kernel_rfl
theorem zeh (g nc:Nat) (w:sG) (hN:aN w g nc ah):sK Tryz.prog 106 #[.string zns,.slice (some ⟨g,0,none⟩) 26 nc] w (dL g nc ah w zei):=ak aw ai zkd g nc w hN
theorem zkb:bj bk 106 znq ah mP=true:=by kernel_rfl
theorem mO (g nc:Nat) (w:sG) (hN:aN w g nc ah):sK Tryz.prog 106 #[.string znq,.slice (some ⟨g,0,none⟩) 26 nc] w (dL g nc ah w mP):=ak aw ai zkb g nc w hN
theorem zjV:bj bk 106 znk ah zdX=true:=by kernel_rfl
theorem zdW (g nc:Nat) (w:sG) (hN:aN w g nc ah):sK Tryz.prog 106 #[.string znk,.slice (some ⟨g,0,none⟩) 26 nc] w (dL g nc ah w zdX):=ak aw ai zjV g nc w hN
theorem zjN:bj bk 106 zna ah zdH=true:=by kernel_rfl
theorem zdG (g nc:Nat) (w:sG) (hN:aN w g nc ah):sK Tryz.prog 106 #[.string zna,.slice (some ⟨g,0,none⟩) 26 nc] w (dL g nc ah w zdH):=ak aw ai zjN g nc w hN
theorem zjC:bj bk 106 zmO ah rk=true:=by kernel_rfl
theorem zdr (g nc:Nat) (w:sG) (hN:aN w g nc ah):sK Tryz.prog 106 #[.string zmO,.slice (some ⟨g,0,none⟩) 26 nc] w (dL g nc ah w rk):=ak aw ai zjC g nc w hN
theorem zjA:bj bk 106 zmM ah zdo=true:=by kernel_rfl
theorem zdn (g nc:Nat) (w:sG) (hN:aN w g nc ah):sK Tryz.prog 106 #[.string zmM,.slice (some ⟨g,0,none⟩) 26 nc] w (dL g nc ah w zdo):=ak aw ai zjA g nc w hN
theorem zjx:bj bk 106 zmH ah zdj=true:=by kernel_rfl
theorem zdi (g nc:Nat) (w:sG) (hN:aN w g nc ah):sK Tryz.prog 106 #[.string zmH,.slice (some ⟨g,0,none⟩) 26 nc] w (dL g nc ah w zdj):=ak aw ai zjx g nc w hN
theorem zju:bj bk 106 zmE ah zdd=true:=by kernel_rfl
theorem zdc (g nc:Nat) (w:sG) (hN:aN w g nc ah):sK Tryz.prog 106 #[.string zmE,.slice (some ⟨g,0,none⟩) 26 nc] w (dL g nc ah w zdd):=ak aw ai zju g nc w hN
end Pt
end
section
open Ev Go.RowKit
namespace Pt
theorem zjZ:bj bk 106 zno ah zed=true:=by kernel_rfl
theorem zec (g nc:Nat) (w:sG) (hN:aN w g nc ah):sK Tryz.prog 106 #[.string zno,.slice (some ⟨g,0,none⟩) 26 nc] w (dL g nc ah w zed):=ak aw ai zjZ g nc w hN
theorem zjR:bj bk 106 zne ah zdP=true:=by kernel_rfl
theorem zdO (g nc:Nat) (w:sG) (hN:aN w g nc ah):sK Tryz.prog 106 #[.string zne,.slice (some ⟨g,0,none⟩) 26 nc] w (dL g nc ah w zdP):=ak aw ai zjR g nc w hN
theorem zjO:bj bk 106 znb ah zdJ=true:=by kernel_rfl
theorem zdI (g nc:Nat) (w:sG) (hN:aN w g nc ah):sK Tryz.prog 106 #[.string znb,.slice (some ⟨g,0,none⟩) 26 nc] w (dL g nc ah w zdJ):=ak aw ai zjO g nc w hN
theorem zjK:bj bk 106 zmX ah zdF=true:=by kernel_rfl
theorem zdE (g nc:Nat) (w:sG) (hN:aN w g nc ah):sK Tryz.prog 106 #[.string zmX,.slice (some ⟨g,0,none⟩) 26 nc] w (dL g nc ah w zdF):=ak aw ai zjK g nc w hN
theorem zjJ:bj bk 106 zmV ah fb=true:=by kernel_rfl
theorem fa (g nc:Nat) (w:sG) (hN:aN w g nc ah):sK Tryz.prog 106 #[.string zmV,.slice (some ⟨g,0,none⟩) 26 nc] w (dL g nc ah w fb):=ak aw ai zjJ g nc w hN
theorem zjF:bj bk 106 zmR ah zdx=true:=by kernel_rfl
theorem zdw (g nc:Nat) (w:sG) (hN:aN w g nc ah):sK Tryz.prog 106 #[.string zmR,.slice (some ⟨g,0,none⟩) 26 nc] w (dL g nc ah w zdx):=ak aw ai zjF g nc w hN
theorem zjE:bj bk 106 zmQ ah zdv=true:=by kernel_rfl
theorem zdu (g nc:Nat) (w:sG) (hN:aN w g nc ah):sK Tryz.prog 106 #[.string zmQ,.slice (some ⟨g,0,none⟩) 26 nc] w (dL g nc ah w zdv):=ak aw ai zjE g nc w hN
theorem zjB:bj bk 106 zmN ah zdq=true:=by kernel_rfl
theorem zdp (g nc:Nat) (w:sG) (hN:aN w g nc ah):sK Tryz.prog 106 #[.string zmN,.slice (some ⟨g,0,none⟩) 26 nc] w (dL g nc ah w zdq):=ak aw ai zjB g nc w hN
theorem zjt:bj bk 106 zmD ah rj=true:=by kernel_rfl
theorem zdb (g nc:Nat) (w:sG) (hN:aN w g nc ah):sK Tryz.prog 106 #[.string zmD,.slice (some ⟨g,0,none⟩) 26 nc] w (dL g nc ah w rj):=ak aw ai zjt g nc w hN
end Pt
end
section
open Ev Go.RowKit
namespace Pt
theorem znu:bj bk 106 zrT ah znv=true:=by kernel_rfl
theorem zgi (g nc:Nat) (w:sG) (hN:aN w g nc ah):sK Tryz.prog 106 #[.string zrT,.slice (some ⟨g,0,none⟩) 26 nc] w (dL g nc ah w znv):=ak aw ai znu g nc w hN
theorem zmA:bj bk 106 zrP ah zmK=true:=by kernel_rfl
theorem zgf (g nc:Nat) (w:sG) (hN:aN w g nc ah):sK Tryz.prog 106 #[.string zrP,.slice (some ⟨g,0,none⟩) 26 nc] w (dL g nc ah w zmK):=ak aw ai zmA g nc w hN
theorem zms:bj bk 106 zrL ah zmt=true:=by kernel_rfl
theorem zgb (g nc:Nat) (w:sG) (hN:aN w g nc ah):sK Tryz.prog 106 #[.string zrL,.slice (some ⟨g,0,none⟩) 26 nc] w (dL g nc ah w zmt):=ak aw ai zms g nc w hN
theorem zmq:bj bk 106 zrK ah zmr=true:=by kernel_rfl
theorem zga (g nc:Nat) (w:sG) (hN:aN w g nc ah):sK Tryz.prog 106 #[.string zrK,.slice (some ⟨g,0,none⟩) 26 nc] w (dL g nc ah w zmr):=ak aw ai zmq g nc w hN
theorem zkc:bj bk 106 znr ah zeg=true:=by kernel_rfl
theorem zef (g nc:Nat) (w:sG) (hN:aN w g nc ah):sK Tryz.prog 106 #[.string znr,.slice (some ⟨g,0,none⟩) 26 nc] w (dL g nc ah w zeg):=ak aw ai zkc g nc w hN
theorem zjX:bj bk 106 znm ah zdZ=true:=by kernel_rfl
theorem zdY (g nc:Nat) (w:sG) (hN:aN w g nc ah):sK Tryz.prog 106 #[.string znm,.slice (some ⟨g,0,none⟩) 26 nc] w (dL g nc ah w zdZ):=ak aw ai zjX g nc w hN
theorem zjQ:bj bk 106 znd ah zdN=true:=by kernel_rfl
theorem zdM (g nc:Nat) (w:sG) (hN:aN w g nc ah):sK Tryz.prog 106 #[.string znd,.slice (some ⟨g,0,none⟩) 26 nc] w (dL g nc ah w zdN):=ak aw ai zjQ g nc w hN
theorem zjG:bj bk 106 zmS ah zdz=true:=by kernel_rfl
theorem zdy (g nc:Nat) (w:sG) (hN:aN w g nc ah):sK Tryz.prog 106 #[.string zmS,.slice (some ⟨g,0,none⟩) 26 nc] w (dL g nc ah w zdz):=ak aw ai zjG g nc w hN
theorem zjD:bj bk 106 zmP ah zdt=true:=by kernel_rfl
theorem zds (g nc:Nat) (w:sG) (hN:aN w g nc ah):sK Tryz.prog 106 #[.string zmP,.slice (some ⟨g,0,none⟩) 26 nc] w (dL g nc ah w zdt):=ak aw ai zjD g nc w hN
theorem zjz:bj bk 106 zmJ ah pf=true:=by kernel_rfl
theorem zdm (g nc:Nat) (w:sG) (hN:aN w g nc ah):sK Tryz.prog 106 #[.string zmJ,.slice (some ⟨g,0,none⟩) 26 nc] w (dL g nc ah w pf):=ak aw ai zjz g nc w hN
theorem zjs:bj bk 106 zmC ah mI=true:=by kernel_rfl
theorem mH (g nc:Nat) (w:sG) (hN:aN w g nc ah):sK Tryz.prog 106 #[.string zmC,.slice (some ⟨g,0,none⟩) 26 nc] w (dL g nc ah w mI):=ak aw ai zjs g nc w hN
end Pt
end
section
open Ev Go.RowKit
namespace Pt
theorem zmW:bj bk 106 zrR ah znh=true:=by kernel_rfl
theorem zgg (g nc:Nat) (w:sG) (hN:aN w g nc ah):sK Tryz.prog 106 #[.string zrR,.slice (some ⟨g,0,none⟩) 26 nc] w (dL g nc ah w znh):=ak aw ai zmW g nc w hN
theorem zmw:bj bk 106 zrN ah zmx=true:=by kernel_rfl
theorem zgd (g nc:Nat) (w:sG) (hN:aN w g nc ah):sK Tryz.prog 106 #[.string zrN,.slice (some ⟨g,0,none⟩) 26 nc] w (dL g nc ah w zmx):=ak aw ai zmw g nc w hN
theorem zmu:bj bk 106 zrM ah zmv=true:=by kernel_rfl
theorem zgc (g nc:Nat) (w:sG) (hN:aN w g nc ah):sK Tryz.prog 106 #[.string zrM,.slice (some ⟨g,0,none⟩) 26 nc] w (dL g nc ah w zmv):=ak aw ai zmu g nc w hN
theorem zjW:bj bk 106 znl ah mM=true:=by kernel_rfl
theorem mL (g nc:Nat) (w:sG) (hN:aN w g nc ah):sK Tryz.prog 106 #[.string znl,.slice (some ⟨g,0,none⟩) 26 nc] w (dL g nc ah w mM):=ak aw ai zjW g nc w hN
theorem zjT:bj bk 106 zng ah zdT=true:=by kernel_rfl
theorem zdS (g nc:Nat) (w:sG) (hN:aN w g nc ah):sK Tryz.prog 106 #[.string zng,.slice (some ⟨g,0,none⟩) 26 nc] w (dL g nc ah w zdT):=ak aw ai zjT g nc w hN
theorem zjP:bj bk 106 znc ah zdL=true:=by kernel_rfl
theorem zdK (g nc:Nat) (w:sG) (hN:aN w g nc ah):sK Tryz.prog 106 #[.string znc,.slice (some ⟨g,0,none⟩) 26 nc] w (dL g nc ah w zdL):=ak aw ai zjP g nc w hN
theorem zjM:bj bk 106 zmZ ah iu=true:=by kernel_rfl
theorem ir (g nc:Nat) (w:sG) (hN:aN w g nc ah):sK Tryz.prog 106 #[.string zmZ,.slice (some ⟨g,0,none⟩) 26 nc] w (dL g nc ah w iu):=ak aw ai zjM g nc w hN
theorem zjL:bj bk 106 zmY ah mK=true:=by kernel_rfl
theorem mJ (g nc:Nat) (w:sG) (hN:aN w g nc ah):sK Tryz.prog 106 #[.string zmY,.slice (some ⟨g,0,none⟩) 26 nc] w (dL g nc ah w mK):=ak aw ai zjL g nc w hN
theorem zjy:bj bk 106 zmI ah zdl=true:=by kernel_rfl
theorem zdk (g nc:Nat) (w:sG) (hN:aN w g nc ah):sK Tryz.prog 106 #[.string zmI,.slice (some ⟨g,0,none⟩) 26 nc] w (dL g nc ah w zdl):=ak aw ai zjy g nc w hN
theorem zjv:bj bk 106 zmF ah zdf=true:=by kernel_rfl
theorem zde (g nc:Nat) (w:sG) (hN:aN w g nc ah):sK Tryz.prog 106 #[.string zmF,.slice (some ⟨g,0,none⟩) 26 nc] w (dL g nc ah w zdf):=ak aw ai zjv g nc w hN
end Pt
end
end Go.Proofs.YtbbapnpdfcgjnaaGreatDoor
