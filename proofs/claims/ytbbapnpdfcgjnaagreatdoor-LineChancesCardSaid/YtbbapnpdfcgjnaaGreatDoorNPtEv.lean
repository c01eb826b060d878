/- PtEv, PtLine2, PtLine3, PtPs, PtRunLi0, PtLiR, PtRest, PtRunLi1, PtRunLi2, PtRunLi3, PtRunLi4, PtRunLi5: parts of the proof, joined. -/
import Derived.Test.YtbbapnpdfcgjnaaGreatDoorNSdSome
import Derived.Test.YtbbapnpdfcgjnaaGreatDoorNPtBas
open Go renaming cell_of_row->sH, World->sJ, Value->sK, frozen_of_row->sL, heap_setCell_same->sM, Calls->sN, FuncId->tz
open Go.World renaming cell?_of_block->sI, block_lt_of_cell?->tm
open List renaming getElem?_eq_getElem->sO, getElem?_eq_some_iff->sR, length_pos_iff->sU, getElem?_take_of_lt->sV, getElem?_append_right->te, getElem?_append_left->tf, getLast?_eq_getElem?->tg, head?_eq_getElem?->tn, getElem?_drop->tr, drop_zero->tB
open Nat renaming lt_of_lt_of_le->sP, le_of_ble_eq_true->sT, beq->sW, le_refl->tq, le_trans->tu, ble->tC
open Bool renaming and_eq_true->sQ
open Go.Value renaming slice->sS, bool->tt
open Go.IntKind renaming signed->sX, wrap->ta, bits->tc, i64->ti
open Go.NoPanic renaming normal->sY
open And renaming intro->sZ
open Go.RowKit renaming Below->td
open Array renaming toList_inj->tj
open UInt8 renaming toNat_inj->tp
set_option maxHeartbeats 64000000
namespace Go.Proofs.YtbbapnpdfcgjnaaGreatDoor
section
open Ev Go.RowKit
namespace Pt
structure Oth (g:Nat) (w w':sJ):Prop where
 os:w'.os=w.os
 tape:w'.tape=w.tape
 output:w'.output=w.output
 size:w.heap.size<=w'.heap.size
 block:∀b,b<w.heap.size->b≠g->w'.heap[b]? =w.heap[b]?
theorem Oth.trans {g:Nat} {w v u:sJ} (h:Oth g w v) (k:Oth g v u):Oth g w u:=⟨k.os.trans h.os,k.tape.trans h.tape,k.output.trans h.output,tu h.size k.size,fun b hb hne=>(k.block b (sP hb h.size) hne).trans (h.block b hb hne)⟩
theorem Oth.of {g:Nat} {w w':sJ} (h:td w.heap.size w w'):Oth g w w':=⟨h.os,h.tape,h.output,h.size,fun b hb _=>h.block b hb⟩
theorem Oth.below {g B:Nat} {w w':sJ} (h:Oth g w w') (hB:B<=w.heap.size) (hg:B<=g):td B w w':=⟨h.os,h.tape,h.output,h.size,fun b hb=>h.block b (by omega) (by omega)⟩
def RdIx (w:sJ) (ao:Option Addr) (l:List Int):Prop:=∀(k:Nat) (z:Int),l[k]? =some z->∃b o c fr,ao=some ⟨b,o,none⟩/\w.heap[b]? =some (.cells c 3 fr)/\c[o+k]? =some (.int .i64 z)
mutual
def bW (w:sJ):aw->sK->sK->sK->Prop
 | .mk op cls kids,v0,v1,v2=>v0= .int .i64 op/\(∃co cc,v1= .slice co cls.length cc/\RdIx w co cls/\cls.length<=1000000)/\(∃ko kc,v2= .slice ko kids.length kc/\gM w kids ko 0/\kids.length<=1000000/\kids.length<=kc)
def gM (w:sJ):List aw->Option Addr->Nat->Prop
 | [],_,_=>True
 | p::ps,ko,i=>(∃b o c fr,ko=some ⟨b,o,none⟩/\w.heap[b]? =some (.cells c 105 fr)/\∃v0 v1 v2,c[o+i * 3]? =some v0/\c[o+i * 3+1]? =some v1/\c[o+i * 3+2]? =some v2/\bW w p v0 v1 v2)/\gM w ps ko (i+1)
end
def KtP (w w':sJ):Prop:=∀(b:Nat) (c:Array sK) (t:TypeId) (fr:Nat × Nat),w.heap[b]? =some (.cells c t fr)->(t=3\/t=105)->w'.heap[b]? =some (.cells c t fr)
theorem KtP.of {w w':sJ} (h:td w.heap.size w w'):KtP w w':=fun b _ _ _ hb _=>(h.block b (ae hb)).trans hb
mutual
theorem bW.to {w:sJ}:∀(p:aw) (v0 v1 v2:sK),bW w p v0 v1 v2->ct w p v0 v1 v2
 | .mk op cls kids,v0,v1,v2,h=>by
  unfold bW at h;unfold ct;obtain⟨h1,⟨co,cc,h2,h3,h4⟩,ko,kc,h5,h6,h7⟩:=h;refine⟨h1,⟨co,cc,h2,fun k z hk=>?_,h4⟩,ko,kc,h5,gM.to kids ko 0 h6,h7⟩
  obtain⟨b,o,c,fr,a1,a2,a3⟩:=h3 k z hk;exact⟨_,a1,ae a2,by rw[Addr.add_lit,sH w b _ c _ _ a2];exact a3⟩
theorem gM.to {w:sJ}:∀(ps:List aw) (ko:Option Addr) (i:Nat),gM w ps ko i->gh w ps ko i
 | [],_,_,_=>by unfold gh;trivial
 | p::ps,ko,i,h=>by
  unfold gM at h;unfold gh;obtain⟨⟨b,o,c,fr,h1,h2,v0,v1,v2,h3,h4,h5,h6⟩,h7⟩:=h;exact⟨⟨b,o,h1,ae h2,v0,v1,v2,by rw[sH w b _ c _ _ h2];exact h3,by rw[sH w b _ c _ _ h2];exact h4,by rw[sH w b _ c _ _ h2];exact h5,bW.to p _ _ _ h6⟩,gM.to ps ko (i+1) h7⟩
end
mutual
theorem bW.kt {w w':sJ} (ho:KtP w w'):∀(p:aw) (v0 v1 v2:sK),bW w p v0 v1 v2->bW w' p v0 v1 v2
 | .mk op cls kids,v0,v1,v2,h=>by
  unfold bW at h⊢;obtain⟨h1,⟨co,cc,h2,h3,h4⟩,ko,kc,h5,h6,h7⟩:=h;refine⟨h1,⟨co,cc,h2,fun k z hk=>?_,h4⟩,ko,kc,h5,gM.kt ho kids ko 0 h6,h7⟩
  obtain⟨b,o,c,fr,a1,a2,a3⟩:=h3 k z hk;exact⟨b,o,c,fr,a1,ho b c _ fr a2 (.inl rfl),a3⟩
theorem gM.kt {w w':sJ} (ho:KtP w w'):∀(ps:List aw) (ko:Option Addr) (i:Nat),gM w ps ko i->gM w' ps ko i
 | [],_,_,_=>by unfold gM;trivial
 | p::ps,ko,i,h=>by
  unfold gM at h⊢;obtain⟨⟨b,o,c,fr,h1,h2,v0,v1,v2,h3,h4,h5,h6⟩,h7⟩:=h;exact⟨⟨b,o,c,fr,h1,ho b c _ fr h2 (.inr rfl),v0,v1,v2,h3,h4,h5,bW.kt ho p _ _ _ h6⟩,gM.kt ho ps ko (i+1) h7⟩
end
noncomputable def zgY (A:AW) (u:sK) (n:Nat) (es t:Nat) (k:List sK->Bool):Bool:=match u with
 | .slice none m _=>sW m n&&sW n 0
 | .slice (some a) m c=>sW m n&&(tC n c&&match n with
  | 0=>true
  | _=>match A.get a.block with
   | some (.cells vs t' _ _ _)=>sW t' t&&(tC (a.off+n * es) vs.length)&&k (vs.drop a.off)
   | _=>false)
 | _=>false
theorem zbU {A:AW} {μ:Mu} {w:sJ} {u v:sK} {n es t:Nat} {k:List sK->Bool} (h:zgY A u n es t k=true) (W:WR μ A w) (hv:VR μ u v):
  ∃vo vc,v= .slice vo n vc/\n<=vc/\(n=0\/∃b o c fr us,vo=some ⟨b,o,none⟩/\w.heap[b]? =some (.cells c t fr)/\(∃i oi li,A.get i=some oi/\μ i=some li/\li.b=b)/\k us=true/\n * es<=us.length/\∀(j:Nat) (x:sK),us[j]? =some x->∃y,c[o+j]? =some y/\VR μ x y):=by
 unfold zgY at h
 split at h
 ·rename_i m c
  simp only[sQ] at h
  have e1:=dM h.1;have e2:=dM h.2;subst e1
  simp only[VR] at hv
  exact⟨none,c,hv,by omega,.inl e2⟩
 ·rename_i a m c
  simp only[sQ] at h
  have e1:=dM h.1;subst e1
  simp only[VR] at hv
  obtain⟨a',c',rfl,hs⟩:=hv;have h20:=h.2;refine⟨some a',c',rfl,?_,?_⟩
  ·rcases hs with ⟨_,h3,_⟩ | ⟨_,h3⟩
   ·rw[h3];exact sT h20.1
   ·rcases h3 with ⟨h3,_⟩ | ⟨_,h4,_⟩
    ·omega
    ·exact h4
  by_cases hm:m=0
  ·exact .inl hm
  obtain⟨q,rfl⟩:∃q,m=q+1:=⟨m - 1,by omega⟩
  have h2:=h20.2
  simp only[] at h2
  split at h2
  ·rename_i vs t' op fz e hobj
   simp only[sQ] at h2
   obtain⟨⟨e3,e4⟩,hk⟩:=h2;have e4':=sT e4;have e3':=dM e3;subst e3';have hl:∃l,μ a.block=some l/\a'=⟨l.b,l.d+a.off,none⟩:=by
    rcases hs with ⟨_,_,h3,l,h4,h5⟩ | ⟨_,h3⟩
    ·exact⟨l,h4,h5⟩
    ·rcases h3 with ⟨h3,_⟩ | ⟨_,_,l,h4,h5,_⟩
     ·omega
     ·exact⟨l,h4,h5⟩
   obtain⟨l,hl1,rfl⟩:=hl;obtain⟨o',g1,c2,fr,rfl,g3,g4,g5,g6,g7,g8⟩:=W.has _ _ _ hobj hl1;refine .inr ⟨l.b,l.d+a.off,c2,fr,vs.drop a.off,rfl,g1,⟨_,_,l,hobj,hl1,rfl⟩,hk,by rw[List.length_drop];omega,fun j x hj=>?_⟩
   rw[tr] at hj;obtain⟨y,hy,hxy⟩:=g7.get hj;have hjl:=(sR.1 hj).1;rw[sV hjl,tr] at hy;refine⟨y,?_,hxy⟩;rw[<- hy]
   simp[Nat.add_assoc]
  ·cases h2
 ·cases h
def zqT (g:aw->sK->sK->sK->Bool):List aw->List sK->Bool
 | [],_=>true
 | p::ps,v0::v1::v2::vs=>g p v0 v1 v2&&zqT g ps vs
 | _,_=>false
noncomputable def zom (A:AW):Nat->aw->sK->sK->sK->Bool
 | 0,_,_,_,_=>false
 | f+1,.mk op cls kids,u0,u1,u2=>veq u0 (.int .i64 op)&&tC cls.length 1000000&&tC kids.length 1000000&&zgY A u1 cls.length 1 3 (fun vs=>pZ (vs.take cls.length) (cls.map fun z=>.int .i64 z))&&zgY A u2 kids.length 3 105 (zqT (zom A f) kids)
theorem ziq {g:aw->sK->sK->sK->Bool} {w:sJ} {μ:Mu} {b o:Nat} {c:Array sK} {fr:Nat × Nat} (hb:w.heap[b]? =some (.cells c 105 fr)):∀(ps:List aw) (i:Nat) (us:List sK),(∀p∈ps,∀u0 u1 u2 v0 v1 v2,g p u0 u1 u2=true->VR μ u0 v0->VR μ u1 v1->VR μ u2 v2->bW w p v0 v1 v2)->zqT g ps us=true->
  (∀(j:Nat) (x:sK),us[j]? =some x->∃y,c[o+i * 3+j]? =some y/\VR μ x y)->gM w ps (some ⟨b,o,none⟩) i
 | [],i,us,_,_,_=>by unfold gM;trivial
 | p::ps,i,us,hg,h,hc=>by
  match us,h with
  | v0::v1::v2::vs,h=>
   simp only[zqT,sQ] at h
   unfold gM;obtain⟨y0,c0,r0⟩:=hc 0 v0 rfl;obtain⟨y1,c1,r1⟩:=hc 1 v1 rfl;obtain⟨y2,c2,r2⟩:=hc 2 v2 rfl;refine⟨⟨b,o,c,fr,rfl,hb,y0,y1,y2,c0,c1,c2,hg p (List.mem_cons_self ..) _ _ _ _ _ _ h.1 r0 r1 r2⟩,ziq hb ps (i+1) vs (fun q hq=>hg q (List.mem_cons_of_mem _ hq)) h.2 fun j x hj=>?_⟩
   obtain⟨y,h1,h2⟩:=hc (j+3) x (by simpa using hj)
   refine⟨y,?_,h2⟩;rw[show o+(i+1) * 3+j=o+i * 3+(j+3) by omega]
   exact h1
theorem zij {A:AW} {μ:Mu} {w:sJ} (W:WR μ A w):∀(f:Nat) (p:aw) (u0 u1 u2 v0 v1 v2:sK),zom A f p u0 u1 u2=true->VR μ u0 v0->VR μ u1 v1->VR μ u2 v2->bW w p v0 v1 v2
 | 0,_,_,_,_,_,_,_,h,_,_,_=>by simp[zom] at h
 | f+1,.mk op cls kids,u0,u1,u2,v0,v1,v2,h,r0,r1,r2=>by
  simp only[zom,sQ] at h
  obtain⟨⟨⟨⟨h1,h2⟩,h3⟩,h4⟩,h5⟩:=h;have e0:=lz h1;subst e0;unfold bW;refine⟨by simpa[VR] using r0,?_,?_⟩
  ·obtain⟨vo,vc,e1,_,e2⟩:=zbU h4 W r1
   refine⟨vo,vc,e1,fun k z hk=>?_,sT h2⟩
   have hkl:=(sR.1 hk).1
   rcases e2 with e2 | ⟨b,o,c,fr,us,rfl,hb,_,hv,hn,hc⟩
   ·omega
   ·have e3:=eT hv
    have e4:us[k]? =some (.int .i64 z):=by
     have:(us.take cls.length)[k]? =some (.int .i64 z):=by rw[e3,List.getElem?_map,hk];rfl
     rwa [sV hkl] at this
    obtain⟨y,hy,hr⟩:=hc k _ e4
    simp only[VR] at hr
    subst hr;exact⟨b,o,c,fr,rfl,hb,hy⟩
  ·obtain⟨vo,vc,e1,e9,e2⟩:=zbU h5 W r2
   refine⟨vo,vc,e1,?_,sT h3,e9⟩
   rcases e2 with e2 | ⟨b,o,c,fr,us,rfl,hb,_,hv,hn,hc⟩
   ·rw[List.length_eq_zero_iff.1 e2];unfold gM;trivial
   ·exact ziq hb kids 0 us (fun p _ u0 u1 u2 v0 v1 v2 hp a0 a1 a2=>zij W f p u0 u1 u2 v0 v1 v2 hp a0 a1 a2) hv (by simpa using hc)
noncomputable def nmO (vs:List sK):bm:=.cells vs 9 true none 1
noncomputable def nmA (vs:List sK):AW:=(⟨[],.nil,ng⟩:AW).push (nmO vs)
theorem nB {vs:List sK} {i:Nat} {o:bm} (h:(nmA vs).get i=some o):i=ng/\o=nmO vs:=by
 unfold nmA at h;rw[AW.get_push] at h
 split at h
 ·rename_i e;exact⟨e,(Option.some.inj h).symm⟩
 ·exfalso
  have h':(Tr.nil:Tr bm).get i=some o:=h;rw[Tr.get_nil] at h'
  cases h'
theorem eV:mu0 ng=none:=rfl
theorem znt {i:Nat} (h:ng<i):il i=none:=by
 cases hg:il i with
 | none=>rfl
 | some s=>exact absurd (zhL hg) (by omega)
theorem zlC {w:sJ} {vs:List sK} {l:Ev.pV} {o':Obj} (hf:bA vs=true) (hh:w.heap[l.b]? =some o') (μ:Mu) (ho:OR μ l (nmO vs) o'):WR (mu0.add ng l) (nmA vs) w:=by
 refine⟨fun i o li hi hl=>?_,fun i j oi oj li lj hi hj _ _ _=>?_,fun i hi=>?_⟩
 ·obtain⟨rfl,rfl⟩:=nB hi
  rw[Mu.add_get eV] at hl
  cases hl
  refine⟨o',hh,?_⟩
  simp only[nmO,OR] at ho⊢
  obtain⟨c,fr,h1,h2,h3,h4,h5,h6,h7⟩:=ho;refine⟨c,fr,h1,h2,h3,h4,h5,?_,h7⟩;rw[bI hf h6];exact bk hf
 ·rw[(nB hi).1,(nB hj).1]
 ·have h1:(nmA vs).next=ng+1:=rfl
  rw[Mu.add_ne (by omega)]
  show(il i).map (fun s=>(⟨i,0,s.1,s.2⟩:Ev.pV))=none
  rw[znt (by omega)]
  rfl
theorem zfj {w w':sJ} {vs:List sK} {l:Ev.pV} {μ:Mu} {A':AW} (E:bB (mu0.add ng l) (nmA vs) w μ A' w'):Oth l.b w w':=⟨E.os,E.tape,E.output,E.size,fun b hb hne=>E.stay b hb fun i o li hi hl=>by
 obtain⟨rfl,rfl⟩:=nB hi;rw[Mu.add_get eV] at hl
 cases hl
 exact fun e=>hne e.symm⟩
theorem zsp {w w':sJ} {A:AW} {μ:Mu} {l:Ev.pV} {o':Obj} {o:bm} (W:WR μ A w) (hO:Oth l.b w w') (hA:A.get ng=some o) (hl:μ ng=some l) (h1:w'.heap[l.b]? =some o') (h2:OR μ l o o'):WR μ A w'/\bB μ A w μ A w':=by
 refine⟨⟨fun i oi li hi hli=>?_,W.inj,W.dom⟩,Le.refl _,hO.size,hO.tape,hO.os,hO.output,fun b hb hne=>hO.block b hb fun e=>hne ng o l hA hl e.symm,fun i oi li hi hli=>.inr ⟨i,oi,li,hi,hli,rfl⟩,tq _,fun _ _=>rfl⟩
 by_cases e:i=ng
 ·subst e
  rw[hA] at hi
  cases hi
  rw[hl] at hli
  cases hli
  exact⟨o',h1,h2⟩
 ·obtain⟨o2,h3,h4⟩:=W.has i oi li hi hli
  refine⟨o2,?_,h4⟩;rw[hO.block li.b (W.lt hi hli) fun e2=>e (W.inj i ng oi o li l hi hA hli hl e2)]
  exact h3
noncomputable def nmV (n:Nat):sK:=.slice (some ⟨ng,0,none⟩) n nX
noncomputable def zvn (vs:List sK):Except String (AE × AW)->Bool
 | .ok (.ret u,A)=>veq u (.bool true)&&(match A.get ng with
  | some o=>ia o (nmO vs)
  | none=>false)
 | _=>false
noncomputable def zkW (call:aG) (f:tz) (vs:List sK):Bool:=zvn vs (call false f [nmV vs.length] (nmA vs))
noncomputable def ovN (f0:tz) (vs:List sK):OvT:=fun f args A=>bif sW f f0 then (match args with
 | [.slice (some ⟨b,0,none⟩) n c]=>bif sW b ng&&sW n vs.length&&sW c nX&&(match A.get ng with
  | some o=>ia o (nmO vs)
  | none=>false) then some (.bool true,A) else none
 | _=>none) else none
theorem zso {P:Program} {call:aG} {f0:tz} {vs:List sK} (hcall:bv P call) (hf:bA vs=true) (hn:vs.length≠0) (h:zkW call f0 vs=true):zvu P (ovN f0 vs):=by
 intro f args A v A' ho μ w args' W hargs;unfold ovN at ho
 cases hb:sW f f0 with
 | false=>rw[hb] at ho;cases ho
 | true=>
  rw[hb,cond_true] at ho;have e0:=dM hb;subst e0
  split at ho
  ·rename_i b n c
   cases hc:(sW b ng&&sW n vs.length&&sW c nX&&(match A.get ng with
    | some o=>ia o (nmO vs)
    | none=>false)) with
   | false=>rw[hc] at ho;cases ho
   | true=>
    rw[hc,cond_true] at ho
    cases ho
    simp only[sQ] at hc
    obtain⟨⟨⟨c1,c2⟩,c3⟩,c4⟩:=hc;have e1:=dM c1;have e2:=dM c2;have e3:=dM c3;subst e1 e2 e3
    split at c4
    ·rename_i o hA
     have e4:=eD c4;subst e4
     simp only[LR] at hargs
     obtain⟨y,t,q1,hv,rfl⟩:=hargs;have e5:args'=#[y]:=tj.1 q1;subst e5;have hv':=hv
     simp only[VR] at hv
     obtain⟨a',c',rfl,hs⟩:=hv
     rcases hs with ⟨h1,_⟩ | ⟨_,h2⟩
     ·exact absurd rfl h1
     ·rcases h2 with ⟨h2,_⟩ | ⟨h3,h4,l,h5,h6,h7⟩
      ·exact absurd h2 hn
      ·simp only at h5 h6 h7
       subst h6;obtain⟨o',g1,g2⟩:=W.has ng _ l hA h5;have W0:=zlC hf g1 μ g2;unfold zkW zvn at h
       split at h
       ·rename_i u A2 hr
        rw[sQ] at h;have e6:=lz h.1;subst e6;have h8:=h.2
        split at h8
        ·rename_i o2 hA2
         have e7:=eD h8;subst e7;refine(hcall.fn f _ _ _ A2 hr (mu0.add ng l) w #[.slice (some ⟨l.b,l.d+0,none⟩) vs.length c'] W0 ?_).mono fun e w' ⟨μ',he,W',E⟩=>?_
         ·simp only[LR,nmV]
          refine⟨_,[],rfl,?_,rfl⟩
          simp only[VR]
          exact⟨_,c',rfl,.inr ⟨rfl,.inr ⟨rfl,h4,l,Mu.add_get eV,rfl,h7⟩⟩⟩
         ·have hl2:μ' ng=some l:=(E.le ng l (Mu.add_get eV))
          obtain⟨o3,k1,k2⟩:=W'.has ng _ l hA2 hl2;have k3:OR μ l (nmO vs) o3:=by
           simp only[nmO,OR] at k2⊢
           obtain⟨c,fr,a1,a2,a3,a4,a5,a6,a7⟩:=k2;refine⟨c,fr,a1,a2,a3,a4,a5,?_,a7⟩;rw[bI hf a6];exact bk hf
          obtain⟨W2,E2⟩:=zsp W (zfj E) hA h5 k1 k3;refine⟨μ,?_,W2,E2⟩
          cases e with
          | returned v=>simp only[ER,VR] at he⊢;exact he
          | panicked ch=>exact he.elim
          | outgrown=>exact he.elim
        ·cases h8
       ·cases h
    ·cases c4
  ·cases ho
def aM (w:sJ) (g nc:Nat) (vs:List sK):Prop:=∃cur:Array sK,w.heap[g]? =some (.cells cur 9 (0,0))/\cur.size=nc/\vs.length<=nc/\cur.toList.take vs.length=vs
theorem aM.kt {w w':sJ} {g nc:Nat} {vs:List sK} (h:aM w g nc vs) (ho:Oth g w w'):KtP w w':=fun b c t fr hb ht=>by
 obtain⟨cur,h1,_⟩:=h;rw[ho.block b (ae hb) (fun e=>by
  rw[e,h1] at hb
  cases hb
  rcases ht with ht | ht<;>cases ht)]
 exact hb
noncomputable def okT (vs:List sK) (p:aw):Except String (AE × AW)->Bool
 | .ok (.ret (.tuple ⟨[.agg ⟨[a,b,c]⟩,x,y]⟩),A)=>pZ [x,y] [.int .i64 0,.int .i64 0]&&zom A 20 p a b c&&(match A.get ng with
  | some o=>ia o (nmO vs)
  | none=>false)
 | _=>false
noncomputable def bi (call:aG) (f:tz) (text:ByteArray) (vs:List sK) (p:aw):Bool:=okT vs p (call false f [.string text,nmV vs.length] (nmA vs))
def dH (g nc:Nat) (vs:List sK) (w:sJ) (p:aw) (e:Ending) (w':sJ):Prop:=∃v0 v1 v2,e= .returned (.tuple #[.agg #[v0,v1,v2],.int .i64 0,.int .i64 0])/\bW w' p v0 v1 v2/\aM w' g nc vs/\Oth g w w'
theorem aj {P:Program} {call:aG} {f:tz} {text:ByteArray} {vs:List sK} {p:aw} (hcall:bv P call) (hf:bA vs=true) (h:bi call f text vs p=true) (g nc:Nat) (w:sJ) (hN:aM w g nc vs):
  sN P f #[.string text,.slice (some ⟨g,0,none⟩) vs.length nc] w (dH g nc vs w p):=by
 obtain⟨cur,hh,hsz,hnc,ht⟩:=hN;have W0:WR (mu0.add ng ⟨g,0,nc,1⟩) (nmA vs) w:=zlC (l:=⟨g,0,nc,1⟩) hf hh mu0 (by
  unfold nmO OR;refine⟨cur,(0,0),rfl,hsz,by simpa using hnc,(fun e=>by cases e),rfl,?_,rfl⟩
  show LR mu0 vs ((cur.toList.drop 0).take vs.length)
  rw[tB,ht];exact bk hf)
 unfold bi okT at h
 split at h
 ·rename_i a b c x y A hr
  refine(hcall.fn f _ _ _ A hr _ w #[.string text,.slice (some ⟨g,0,none⟩) vs.length nc] W0 ?_).mono fun e w' ⟨μ',he,W',E⟩=>?_
  ·simp only[LR,nmV]
   refine⟨_,[.slice (some ⟨g,0,none⟩) vs.length nc],rfl,by simp[VR],_,[],rfl,?_,rfl⟩
   simp only[VR]
   exact⟨_,nc,rfl,.inr ⟨rfl,.inr ⟨rfl,hnc,⟨g,0,nc,1⟩,Mu.add_get eV,rfl,by simp⟩⟩⟩
  ·simp only[sQ] at h
   obtain⟨⟨h1,h2⟩,h3⟩:=h
   split at h3
   ·rename_i o2 hA2
    have e7:=eD h3;subst e7;have hl2:μ' ng=some ⟨g,0,nc,1⟩:=E.le ng _ (Mu.add_get eV);have e1:=eT h1
    simp only[List.cons.injEq,and_true] at e1
    obtain⟨rfl,rfl⟩:=e1
    cases e with
    | returned v=>
     simp only[ER,VR] at he
     obtain⟨ys,rfl,hl⟩:=he
     simp only[LR] at hl
     obtain⟨y1,t1,q1,⟨zs,rfl,hz⟩,y2,t2,rfl,h8,y3,t3,rfl,h9,rfl⟩:=hl
     simp only[VR] at h8 h9
     subst h8 h9
     simp only[LR] at hz
     obtain⟨z1,s1,p1,r1,z2,s2,rfl,r2,z3,s3,rfl,r3,rfl⟩:=hz;have e2:zs=#[z1,z2,z3]:=tj.1 p1;subst e2;have e3:ys=#[.agg #[z1,z2,z3],.int .i64 0,.int .i64 0]:=tj.1 q1;subst e3;obtain⟨o3,k1,k2⟩:=W'.has ng _ _ hA2 hl2;refine⟨z1,z2,z3,rfl,zij W' 20 p _ _ _ _ _ _ h2 r1 r2 r3,?_,zfj E⟩
     simp only[nmO,OR] at k2
     obtain⟨c2,fr,rfl,a2,a3,a4,a5,a6,a7⟩:=k2
     simp only[FZ] at a7
     subst a7;refine⟨c2,k1,a2,hnc,?_⟩;have:=bI hf a6
     simpa using this
    | panicked ch=>exact he.elim
    | outgrown=>exact he.elim
   ·cases h3
 ·cases h
theorem zlI {P:Program} {call:aG} {f:tz} {vs:List sK} (hcall:bv P call) (hf:bA vs=true) (h:zkW call f vs=true) (g nc:Nat) (w:sJ) (hN:aM w g nc vs):
  sN P f #[.slice (some ⟨g,0,none⟩) vs.length nc] w fun e w'=>e= .returned (.bool true)/\aM w' g nc vs/\Oth g w w':=by
 obtain⟨cur,hh,hsz,hnc,ht⟩:=hN;have W0:WR (mu0.add ng ⟨g,0,nc,1⟩) (nmA vs) w:=zlC (l:=⟨g,0,nc,1⟩) hf hh mu0 (by
  unfold nmO OR;refine⟨cur,(0,0),rfl,hsz,by simpa using hnc,(fun e=>by cases e),rfl,?_,rfl⟩
  show LR mu0 vs ((cur.toList.drop 0).take vs.length)
  rw[tB,ht];exact bk hf)
 unfold zkW zvn at h
 split at h
 ·rename_i u A hr
  refine(hcall.fn f _ _ _ A hr _ w #[.slice (some ⟨g,0,none⟩) vs.length nc] W0 ?_).mono fun e w' ⟨μ',he,W',E⟩=>?_
  ·simp only[LR,nmV]
   refine⟨_,[],rfl,?_,rfl⟩
   simp only[VR]
   exact⟨_,nc,rfl,.inr ⟨rfl,.inr ⟨rfl,hnc,⟨g,0,nc,1⟩,Mu.add_get eV,rfl,by simp⟩⟩⟩
  ·simp only[sQ] at h
   obtain⟨h1,h3⟩:=h
   split at h3
   ·rename_i o2 hA2
    have e7:=eD h3;subst e7;have e8:=lz h1;subst e8;have hl2:μ' ng=some ⟨g,0,nc,1⟩:=E.le ng _ (Mu.add_get eV)
    cases e with
    | returned v=>
     simp only[ER,VR] at he
     subst he;obtain⟨o3,k1,k2⟩:=W'.has ng _ _ hA2 hl2;refine⟨rfl,?_,zfj E⟩
     simp only[nmO,OR] at k2
     obtain⟨c2,fr,rfl,a2,a3,a4,a5,a6,a7⟩:=k2
     simp only[FZ] at a7
     subst a7;refine⟨c2,k1,a2,hnc,?_⟩;have:=bI hf a6
     simpa using this
    | panicked ch=>exact he.elim
    | outgrown=>exact he.elim
   ·cases h3
 ·cases h
def zoL (B:Nat) (w:sJ) (ao:Option Addr) (ls:List (List UInt8)):Prop:=∀(j:Nat) (s:List UInt8),ls[j]? =some s->∃b o c fr,ao=some ⟨b,o,none⟩/\B<=b/\w.heap[b]? =some (.cells c 9 fr)/\c[o+j]? =some (.string ⟨s.toArray⟩)
end Pt
end
section
open Ev Go.RowKit
namespace Pt
def RlX (w:sJ) (rs:List Rl) (xs:List sK):Prop:=∀(j:Nat) (r:Rl),rs[j]? =some r->∃l0 l1 l2 r0 r1 r2,xs[j * 9]? =some (.bool r.brk)/\xs[j * 9+1]? =some (.bool r.st)/\xs[j * 9+2]? =some (.bool r.en)∧
 xs[j * 9+3]? =some l0/\xs[j * 9+4]? =some l1/\xs[j * 9+5]? =some l2/\xs[j * 9+6]? =some r0/\xs[j * 9+7]? =some r1/\xs[j * 9+8]? =some r2/\bW w r.left l0 l1 l2/\bW w r.right r0 r1 r2
theorem RlX.kt {w w':sJ} {rs:List Rl} {xs:List sK} (h:RlX w rs xs) (ho:KtP w w'):RlX w' rs xs:=fun j r hj=>by
 obtain⟨l0,l1,l2,r0,r1,r2,a0,a1,a2,a3,a4,a5,a6,a7,a8,p1,p2⟩:=h j r hj;exact⟨l0,l1,l2,r0,r1,r2,a0,a1,a2,a3,a4,a5,a6,a7,a8,bW.kt ho _ _ _ _ p1,bW.kt ho _ _ _ _ p2⟩
structure db (B:Nat) (w:sJ) (X g nc:Nat) (vs:List sK) (vo:Option Addr) (n vc:Nat) (rs:List Rl) (xs:List sK) (rest rested:Bool):Prop where
 at_:w.heap[X]? =some (.cells #[.slice (some ⟨g,0,none⟩) vs.length nc,.slice vo n vc,.bool rest,.bool rested] 87 (0,0))
 nm:aM w g nc vs
 own:w.ownsRow B 107 9 (.slice vo n vc) n xs
 rul:RlX w rs xs
 hn:n=rs.length
 lx:B<=X
 lg:g<B
theorem db.oth {B:Nat} {w w':sJ} {X g nc:Nat} {vs:List sK} {vo:Option Addr} {n vc:Nat} {rs:List Rl} {xs:List sK} {rest rested:Bool} (h:db B w X g nc vs vo n vc rs xs rest rested) (ho:Oth g w w') (hN:aM w' g nc vs):db B w' X g nc vs vo n vc rs xs rest rested:=by
 have:=h.lx;have:=h.lg;refine⟨(ho.block X (ae h.at_) (by omega)).trans h.at_,hN,⟨h.own.1,h.own.2.imp (fun e=>e) fun⟨q,cap,cur,a1,a2,a3,a4⟩=>⟨q,cap,cur,a1,a2,(ho.block q (ae a3) (by omega)).trans a3,a4⟩⟩,h.rul.kt (h.nm.kt ho),h.hn,h.lx,h.lg⟩
theorem aM.below {w w':sJ} {g nc:Nat} {vs:List sK} (h:aM w g nc vs) (hb:td w.heap.size w w'):aM w' g nc vs:=by
 obtain⟨cur,h1,h2⟩:=h;exact⟨cur,(hb.block g (ae h1)).trans h1,h2⟩
theorem db.below {B:Nat} {w w':sJ} {X g nc:Nat} {vs:List sK} {vo:Option Addr} {n vc:Nat} {rs:List Rl} {xs:List sK} {rest rested:Bool} (h:db B w X g nc vs vo n vc rs xs rest rested) (hb:td w.heap.size w w'):db B w' X g nc vs vo n vc rs xs rest rested:=h.oth (.of hb) (h.nm.below hb)
structure Fr (B g:Nat) (w w':sJ):Prop where
 os:w'.os=w.os
 tape:w'.tape=w.tape
 output:w'.output=w.output
 size:w.heap.size<=w'.heap.size
 block:∀b,b<B->b≠g->w'.heap[b]? =w.heap[b]?
theorem Fr.trans {B g:Nat} {w v u:sJ} (h:Fr B g w v) (k:Fr B g v u):Fr B g w u:=⟨k.os.trans h.os,k.tape.trans h.tape,k.output.trans h.output,tu h.size k.size,fun b hb hne=>(k.block b hb hne).trans (h.block b hb hne)⟩
theorem Fr.of {B g:Nat} {w w':sJ} (h:Oth g w w') (hB:B<=w.heap.size):Fr B g w w':=⟨h.os,h.tape,h.output,h.size,fun b hb hne=>h.block b (by omega) hne⟩
def Fx (g X:Nat) (w w':sJ):Prop:=∀(b:Nat) (o:Obj),w.heap[b]? =some o->b≠g->b≠X->(∀c fr,o≠ .cells c 107 fr)->w'.heap[b]? =some o
theorem Fx.trans {g X:Nat} {w v u:sJ} (h:Fx g X w v) (k:Fx g X v u):Fx g X w u:=fun b o hb h1 h2 h3=>k b o (h b o hb h1 h2 h3) h1 h2 h3
theorem Fx.of {g X:Nat} {w w':sJ} (h:Oth g w w'):Fx g X w w':=fun b _ hb h1 _ _=>(h.block b (ae hb) h1).trans hb
def LnQ (B:Nat) (w:sJ) (X g nc:Nat) (vs:List sK) (rs:List Rl) (rest rested:Bool) (e:Ending) (w':sJ):Prop:=e= .returned (.int .i64 0)/\Fr B g w w'/\Fx g X w w'/\∃vo n vc xs,db B w' X g nc vs vo n vc rs xs rest rested
def az (f:tz) (a v:sK):Prop:=∀W,sN Tryz.prog f #[a] W fun e w'=>e= .returned v/\td W.heap.size W w'
theorem bW.shape {w:sJ}:∀{p:aw} {v0 v1 v2:sK},bW w p v0 v1 v2->∃(o:Int) (co:Option Addr) (cn cc:Nat) (ko:Option Addr) (kn kc:Nat),v0= .int .i64 o/\v1= .slice co cn cc/\v2= .slice ko kn kc
 | .mk op cls kids,v0,v1,v2,h=>by
  unfold bW at h;obtain⟨h1,⟨co,cc,h2,h3,h4⟩,ko,kc,h5,h6,h7⟩:=h;exact⟨op,co,_,cc,ko,_,kc,h1,h2,h5⟩
theorem zbI (w:sJ) (Z:Nat) (t:TypeId) (o:Obj) (a0 a1 a2 a3 a4 a5 a6 a7 a8 b3 b4 b5 b6 b7 b8:sK) (h:w.heap[Z]? =some (.cells #[a0,a1,a2,a3,a4,a5,a6,a7,a8] t (0,0))) (w8:sJ)
  (hw:w8=((((((w.setCell ⟨Z,3,none⟩ b3).setCell ⟨Z,4,none⟩ b4).setCell ⟨Z,5,none⟩ b5).setCell ⟨Z,6,none⟩ b6).setCell ⟨Z,7,none⟩ b7).setCell ⟨Z,8,none⟩ b8).alloc o):
  w8.heap[Z]? =some (.cells #[a0,a1,a2,b3,b4,b5,b6,b7,b8] t (0,0))/\(∀b,b<w.heap.size->b≠Z->w8.heap[b]? =w.heap[b]?)/\w8.heap.size=w.heap.size+1/\w8.os=w.os/\w8.tape=w.tape/\w8.output=w.output:=by
 have hz:=ae h;obtain⟨u3,e3⟩:∃u,u=w.setCell ⟨Z,3,none⟩ b3:=⟨_,rfl⟩;rw[<- e3] at hw;have k3:dd Z w u3:=by rw[e3];exact dd.set Z 3 w b3
 have h3:u3.heap[Z]? =some (.cells #[a0,a1,a2,b3,a4,a5,a6,a7,a8] t (0,0)):=by rw[e3,sM w Z 3 _ t b3 h];rfl
 obtain⟨u4,e4⟩:∃u,u=u3.setCell ⟨Z,4,none⟩ b4:=⟨_,rfl⟩;rw[<- e4] at hw;have k4:dd Z w u4:=by rw[e4];exact k3.trans (dd.set Z 4 u3 b4)
 have h4:u4.heap[Z]? =some (.cells #[a0,a1,a2,b3,b4,a5,a6,a7,a8] t (0,0)):=by rw[e4,sM u3 Z 4 _ t b4 h3];rfl
 obtain⟨u5,e5⟩:∃u,u=u4.setCell ⟨Z,5,none⟩ b5:=⟨_,rfl⟩;rw[<- e5] at hw;have k5:dd Z w u5:=by rw[e5];exact k4.trans (dd.set Z 5 u4 b5)
 have h5:u5.heap[Z]? =some (.cells #[a0,a1,a2,b3,b4,b5,a6,a7,a8] t (0,0)):=by rw[e5,sM u4 Z 5 _ t b5 h4];rfl
 obtain⟨u6,e6⟩:∃u,u=u5.setCell ⟨Z,6,none⟩ b6:=⟨_,rfl⟩;rw[<- e6] at hw;have k6:dd Z w u6:=by rw[e6];exact k5.trans (dd.set Z 6 u5 b6)
 have h6:u6.heap[Z]? =some (.cells #[a0,a1,a2,b3,b4,b5,b6,a7,a8] t (0,0)):=by rw[e6,sM u5 Z 6 _ t b6 h5];rfl
 obtain⟨u7,e7⟩:∃u,u=u6.setCell ⟨Z,7,none⟩ b7:=⟨_,rfl⟩;rw[<- e7] at hw;have k7:dd Z w u7:=by rw[e7];exact k6.trans (dd.set Z 7 u6 b7)
 have h7:u7.heap[Z]? =some (.cells #[a0,a1,a2,b3,b4,b5,b6,b7,a8] t (0,0)):=by rw[e7,sM u6 Z 7 _ t b7 h6];rfl
 obtain⟨u8,e8⟩:∃u,u=u7.setCell ⟨Z,8,none⟩ b8:=⟨_,rfl⟩;rw[<- e8] at hw;have k8:dd Z w u8:=by rw[e8];exact k7.trans (dd.set Z 8 u7 b8)
 have h8:u8.heap[Z]? =some (.cells #[a0,a1,a2,b3,b4,b5,b6,b7,b8] t (0,0)):=by rw[e8,sM u7 Z 8 _ t b8 h7];rfl
 have kb:=below_box (w:=u8) (o:=o);rw[<- hw] at kb;have hs:w8.heap.size=u8.heap.size+1:=by rw[hw];simp
 exact⟨(kb.block Z (ae h8)).trans h8,fun b hb hne=>(kb.block b (by rw[k8.size];exact hb)).trans (k8.block b hne),by rw[hs,k8.size],kb.os.trans k8.os,kb.tape.trans k8.tape,kb.output.trans k8.output⟩
theorem Tryz.infoRule:(Tryz.prog.info? 107).map (fun i=>(i.zero,i.size,i.bytes))=some (some (.agg #[.bool false,.bool false,.bool false,.int .i64 0,.slice none 0 0,.slice none 0 0,.int .i64 0,.slice none 0 0,.slice none 0 0]),9,120):=by kernel_rfl
theorem Tryz.underRules:Tryz.prog.underlying 61=some (.slice 107):=by kernel_rfl
theorem RlX.snoc {w:sJ} {rs:List Rl} {xs:List sK} {r:Rl} {l0 l1 l2 r0 r1 r2:sK} (h:RlX w rs xs) (hx:xs.length=rs.length * 9) (p1:bW w r.left l0 l1 l2) (p2:bW w r.right r0 r1 r2):RlX w (rs++[r]) (xs++[.bool r.brk,.bool r.st,.bool r.en,l0,l1,l2,r0,r1,r2]):=fun j q hj=>by
 by_cases e:j<rs.length
 ·rw[tf e] at hj
  obtain⟨k0,k1,k2,m0,m1,m2,a0,a1,a2,a3,a4,a5,a6,a7,a8,q1,q2⟩:=h j q hj;refine⟨k0,k1,k2,m0,m1,m2,?_,?_,?_,?_,?_,?_,?_,?_,?_,q1,q2⟩
  all_goals (rw[tf (by omega)];assumption)
 ·have e2:j=rs.length:=by
   have:=(sR.1 hj).1
   simp at this
   omega
  subst e2;rw[te (tq _),Nat.sub_self] at hj
  simp at hj
  subst hj;refine⟨l0,l1,l2,r0,r1,r2,?_,?_,?_,?_,?_,?_,?_,?_,?_,p1,p2⟩
  all_goals (rw[te (by omega)];rw[hx];simp)
theorem zro (w:sJ) (v:Array sK) (T:TypeId):∀j u,v.toList[j]? =some u->(w.alloc (.cells v T)).cell? ((⟨w.heap.size,0,none⟩:Addr).add j)=some u:=sJ.news_of_block (cs:=v) (heap_alloc_new w _)
theorem db.more {B:Nat} {w8 w9 w10 w11:sJ} {X g nc:Nat} {vs:List sK} {vo:Option Addr} {n vc:Nat} {rs:List Rl} {xs ys:List sK} {rest:Bool} {r:Rl} {l0 l1 l2 r0 r1 r2:sK} {g8 c8:Nat}
  (h:db B w8 X g nc vs vo n vc rs xs rest false) (p1:bW w8 r.left l0 l1 l2) (p2:bW w8 r.right r0 r1 r2) (hy:ys=[.bool r.brk,.bool r.st,.bool r.en,l0,l1,l2,r0,r1,r2]) (h9:td w8.heap.size w8 w9) (o10:w10.ownsRow B 107 9 (.slice (some ⟨g8,0,none⟩) (n+1) c8) (n+1) (xs++ys)) (gr:sJ.grownBy w9 w10 (sS vo n vc).ownBlock)
  (h11:w11=w10.setCell ⟨X,1,none⟩ (.slice (some ⟨g8,0,none⟩) (n+1) c8)):db B w11 X g nc vs (some ⟨g8,0,none⟩) (n+1) c8 (rs++[r]) (xs++ys) rest false/\Fr B g w8 w11/\Fx g X w8 w11:=by
 have lx:=h.lx;have lg:=h.lg;have hX:=ae h.at_;have ow:∀q,(sS vo n vc).ownBlock=some q->B<=q/\∃cur,w8.heap[q]? =some (.cells cur 107 (0,0)):=fun q hq=>by
  rcases h.own.2 with ⟨c1,_⟩ | ⟨q',cap,cur,c1,c2,c3,_⟩
  ·rw[c1] at hq;cases hq
  ·rw[c1] at hq;cases hq;exact⟨c2,cur,c3⟩
 have st:∀b,b<w8.heap.size->(sS vo n vc).ownBlock≠some b->w10.heap[b]? =w8.heap[b]? :=fun b hb hne=>(gr.block b (sP hb h9.size) (fun e=>hne e.symm)).trans (h9.block b hb)
 have so:∀(b:Nat) (c:Array sK) (t:TypeId) (fr:Nat × Nat),w8.heap[b]? =some (.cells c t fr)->t≠107->w10.heap[b]? =some (.cells c t fr):=fun b c t fr hb ht=>(st b (ae hb) (fun e=>by
  obtain⟨_,cur,h3⟩:=ow b e;rw[hb] at h3
  cases h3
  exact ht rfl)).trans hb
 have X10:=so X _ _ _ h.at_ (by decide)
 have k11:dd X w10 w11:=by rw[h11];exact dd.set X 1 w10 _
 have gX:(some g8:Option Nat)≠some X:=fun e=>by
  cases e
  rcases o10.2 with ⟨c1,_⟩ | ⟨q',cap,cur,c1,c2,c3,_⟩
  ·cases c1
  ·cases c1
   rw[X10] at c3
   cases c3
 have kt:KtP w8 w11:=fun b c t fr hb ht=>(k11.block b (fun e=>by
  rw[e,h.at_] at hb
  cases hb
  rcases ht with ht | ht<;>cases ht)).trans (so b c t fr hb (by rcases ht with rfl | rfl<;>decide))
 have hx:xs.length=rs.length * 9:=by have:=h.own.1;have:=h.hn;omega
 refine⟨⟨?_,?_,⟨o10.1,o10.2.imp (fun e=>e) fun⟨q,cap,cur,c1,c2,c3,c4⟩=>⟨q,cap,cur,c1,c2,(k11.block q (fun e=>by cases c1;exact gX (by rw[e]))).trans c3,c4⟩⟩,?_,by rw[h.hn];simp,lx,lg⟩,?_,fun b o hb h1 h2 h3=>(k11.block b h2).trans ((st b (ae hb) (fun e=>by
  obtain⟨_,cur,h4⟩:=ow b e;rw[hb] at h4
  cases h4
  exact h3 _ _ rfl)).trans hb)⟩
 ·rw[h11,sM w10 X 1 _ _ _ X10];rfl
 ·obtain⟨cur,h1,h2⟩:=h.nm
  exact⟨cur,(k11.block g (by omega)).trans (so g cur 9 (0,0) h1 (by decide)),h2⟩
 ·rw[hy]
  exact(h.rul.kt kt).snoc hx (bW.kt kt _ _ _ _ p1) (bW.kt kt _ _ _ _ p2)
 ·refine⟨k11.os.trans (gr.os.trans h9.os),k11.tape.trans (gr.tape.trans h9.tape),k11.output.trans (gr.output.trans h9.output),?_,fun b hb hne=>?_⟩
  ·rw[k11.size];exact tu h9.size gr.size
  ·rw[k11.block b (by omega)]
   exact st b (by omega) (fun e=>by have:=(ow b e).1;omega)
set_option maxRecDepth 100000 in
theorem ax (B X g nc:Nat) (vs:List sK) (vo:Option Addr) (n vc:Nat) (rs:List Rl) (xs:List sK) (rest:Bool) (w:sJ) (s p L R:List UInt8) (k:Nat) (brk:Bool) (pl pr:aw) (hX:db B w X g nc vs vo n vc rs xs rest false) (hn9:n<=60)
  (h1:az 103 (.string ⟨s.toArray⟩) (.string ⟨p.toArray⟩)) (h2:az 104 (.string ⟨p.toArray⟩) (.int .i64 k)) (hk:k<p.length) (hp9:p.length<=10000) (hR8:R.length<=10000) (hb:((p[k].toNat:Int)==47)=brk)
  (h3:az 105 (.string ((⟨p.toArray⟩:ByteArray).extract 0 k)) (.string ⟨L.toArray⟩)) (h4:az 105 (.string ((⟨p.toArray⟩:ByteArray).extract (k+1) p.length)) (.string ⟨R.toArray⟩)) (hL:L≠ [114,101,115,116]) (hL9:L.head? ≠some 94) (hR9:R.getLast? ≠some 36)
  (h5:∀W,aM W g nc vs->sN Tryz.prog 106 #[.string ⟨L.toArray⟩,.slice (some ⟨g,0,none⟩) vs.length nc] W (dH g nc vs W pl))
  (h6:∀W,aM W g nc vs->sN Tryz.prog 106 #[.string ⟨R.toArray⟩,.slice (some ⟨g,0,none⟩) vs.length nc] W (dH g nc vs W pr)):
  sN Tryz.prog 72 #[.pointer (some ⟨X,0,none⟩),.string ⟨s.toArray⟩] w (LnQ B w X g nc vs (rs++[⟨brk,false,false,pl,pr⟩]) rest false):=by
 obtain⟨iR,hR0,hR1,hR2,hR3⟩:=info_parts Tryz.infoRule;have HIR:=hid (sZ hR0 (sZ hR1 (sZ hR2 hR3)));clear hR0 hR1 hR2 hR3;have HX:=hid hX;have H1:=hid h1;have H2:=hid h2;have H3:=hid h3;have H4:=hid h4;have H5:=hid h5;have H6:=hid h6;clear hX h1 h2 h3 h4 h5 h6;go_enter Tryz.func72,Tryz.ntmps72;go_wp2_with fail;refine(H1.out w).mono ?_;rintro e w1 ⟨rfl,b1⟩;have HX1:=hid (HX.out.below b1);have HB1:=hid b1;clear b1;have p0:p.isEmpty=false:=by cases p with
  | nil=>simp at hk
  | cons a b=>rfl
 have p1:p≠ []:=by cases p with
  | nil=>simp at hk
  | cons a b=>simp
 go_wp2_with fail;refine(H2.out w1).mono ?_;rintro e w2 ⟨rfl,b2⟩;have HX2:=hid (HX1.out.below b2);have HB2:=hid (HB1.out.trans (b2.mono HB1.out.size));clear b2 HX1 HB1;have x1:w2.cell? ⟨X,1,none⟩=some (.slice vo n vc):=by rw[sH w2 X 1 _ _ _ HX2.out.at_];rfl
 have x3:w2.cell? ⟨X,3,none⟩=some (.bool false):=by rw[sH w2 X 3 _ _ _ HX2.out.at_];rfl
 have k0:(0:Int)<=(k:Int):=by omega
 have k1:(k:Int)<(p.length:Int):=by omega
 have k2:¬(k:Int)<0:=by omega
 have d1:decide ((k:Int)<0)=false:=decide_eq_false (by omega)
 have k3:(k:Int)<=(p.length:Int):=by omega
 have k4:(k:Int)+1<=(p.length:Int):=by omega
 go_wp2_with fail;have e9:((((⟨p.toArray⟩:ByteArray)[k]'(by show k<p.toArray.size;simpa using hk)).toNat:Int)==47)=brk:=hb
 rw[e9];clear e9 hb;have e8:ti.wrap ((k:Int)+1)=(k:Int)+1:=by unfold ta tc sX;simp;omega
 have k5:(0:Int)<=(k:Int)+1:=by omega
 refine ak [(0,true),(1,true),(2,true),(4,true),(5,true),(6,true),(7,true),(3,false),(8,false),(9,false),(10,false)] (fun _=>True) (fun _=>false) (by kernel_rfl) (by kernel_rfl) (fun j hj=>by cases hj) rfl (by kernel_rfl) trivial ?_
 iterate 7 (refine au ?_ rfl (by kernel_rfl) (fun w' hS=>?_) ?_;(rotate_left;(go_simp;with_reducible rfl);rotate_left))
 refine am rfl (by kernel_rfl) fun KK hKK=>?_
 go_simp;refine(H3.out w2.drew).mono ?_;rintro e w3 ⟨rfl,b3⟩;have HB3:=hid (show td w2.heap.size w2 w3 from⟨b3.os,b3.tape,b3.output,b3.size,b3.block⟩)
 clear b3;refine hKK _ _ (fun _=>trivial) ?_
 clear hKK;refine am rfl (by kernel_rfl) fun KK hKK=>?_
 go_simp;refine(H4.out w3).mono ?_;rintro e w4 ⟨rfl,b4⟩;have HB4:=hid (show td w2.heap.size w2 w4 from HB3.out.trans (b4.mono HB3.out.size))
 clear b4 HB3;refine hKK _ _ (fun _=>trivial) ?_
 clear hKK;refine am rfl (by kernel_rfl) fun KK hKK=>?_
 go_simp;refine hKK _ _ (fun _=>trivial) ?_
 clear hKK;refine am rfl (by kernel_rfl) fun KK hKK=>?_
 go_simp;refine hKK _ _ (fun _=>trivial) ?_
 clear hKK;refine aP (sY ?_);have HX4:=hid (HX2.out.below HB4.out);have HBw:=hid (HB2.out.trans (HB4.out.mono HB2.out.size));have y1:w4.cell? ⟨X,1,none⟩=some (.slice vo n vc):=by rw[sH w4 X 1 _ _ _ HX4.out.at_];rfl
 have y0:w4.cell? ⟨X,0,none⟩=some (.slice (some ⟨g,0,none⟩) vs.length nc):=by rw[sH w4 X 0 _ _ _ HX4.out.at_];rfl
 have HXl:=hid (ae HX4.out.at_);have HBl:=hid (show B<=w.heap.size by have:=ae HX.out.at_;have:=HX.out.lx;omega)
 clear x1 x3 HX2 HB2 HB4 k2 k3 k4 k5 d1 e8 p0 p1 HX;have r1:(L== [114,101,115,116])=false:=by simpa using hL
 have n1:(n:Int)<64:=by omega
 have xl:X<w4.heap.size:=HXl.out
 rcases Classical.em (L=[]) with hL0 | hL0
 subst hL0;rotate_left;have l2:L.isEmpty=false:=by cases L with
  | nil=>exact absurd rfl hL0
  | cons x y=>rfl
 have l3:(L== [])=false:=by simpa using hL0
 have l4:0<L.length:=sU.2 hL0;have l5:(0:Int)<(L.length:Int):=by omega
 have l6:(((((⟨L.toArray⟩:ByteArray)[0]'(by show 0<L.toArray.size;simpa using l4)).toNat:Int))==94)=false:=by
  rw[beq_eq_false_iff_ne];intro e
  apply hL9
  have e1:L[0]=94:=tp.1 (by
   have:(L[0]).toNat=(94:Nat):=by exact_mod_cast e
   exact this)
  rw[tn,sO l4,e1]
 all_goals (
  rcases Classical.em (R=[]) with hR0 | hR0
  subst hR0;rotate_left;have r2:R.isEmpty=false:=by cases R with
   | nil=>exact absurd rfl hR0
   | cons x y=>rfl
  have r3:(R== [])=false:=by simpa using hR0
  have r4:0<R.length:=sU.2 hR0;have r5:ti.wrap ((R.length:Int) - 1)=(R.length:Int) - 1:=by unfold ta tc sX;simp;omega
  have r6:(0:Int)<=(R.length:Int) - 1:=by omega
  have r7:(R.length:Int) - 1<(R.length:Int):=by omega
  have r8:((R.length:Int) - 1).toNat=R.length - 1:=by omega
  have r9:R.length - 1<R.length:=by omega
  have q2:(((((⟨R.toArray⟩:ByteArray)[R.length - 1]'(by show R.length - 1<R.toArray.size;simpa using r9)).toNat:Int))==36)=false:=by
   rw[beq_eq_false_iff_ne];intro e
   apply hR9
   have e1:R[R.length - 1]=36:=tp.1 (by
    have:(R[R.length - 1]).toNat=(36:Nat):=by exact_mod_cast e
    exact this)
   rw[tg,sO r9,e1])
 all_goals (
  go_wp2_with fail;refine(H5.out _ (HX4.out.nm.below below_box)).mono ?_;rintro e w5 ⟨u0,u1,u2,rfl,hp5,hn5,ho5⟩;obtain⟨po,pco,pcn,pcc,pko,pkn,pkc,rfl,rfl,rfl⟩:=bW.shape hp5;have HOw:=hid (fun(q:Nat) (hq:(sS vo n vc).ownBlock=some q)=>show q<w4.heap.size from by
   rcases HX4.out.own.2 with ⟨c1,_⟩ | ⟨q',cap,cur,c1,_,c3,_⟩
   ·rw[c1] at hq;cases hq
   ·rw[c1] at hq;cases hq;exact ae c3)
  have hx5:=(HX4.out.below below_box).oth ho5 hn5;have HX5:=hid hx5;have HP5:=hid hp5;have zz:w5.heap[w4.heap.size]? =some (.cells #[.bool brk,.bool false,.bool false,.int .i64 0,.slice none 0 0,.slice none 0 0,.int .i64 0,.slice none 0 0,.slice none 0 0] 107 (0,0)):=(ho5.block _ (by simp) (fun e=>by have:=HX4.out.lg;have:=HX4.out.lx;have:=HXl.out;omega)).trans (heap_alloc_new _ _)
  have HZ5:=hid zz;have HO5:=hid ho5;have v0:w5.cell? ⟨X,0,none⟩=some (.slice (some ⟨g,0,none⟩) vs.length nc):=by rw[sH w5 X 0 _ _ _ hx5.at_];rfl
  have xl5:X<w5.heap.size:=ae hx5.at_;clear hx5 hp5 hn5 ho5 zz y0 y1;go_wp2_with fail;refine(H6.out _ (HX5.out.nm.below below_box)).mono ?_;rintro e w7 ⟨s0,s1,s2,rfl,hp7,hn7,ho7⟩;obtain⟨qo,qco,qcn,qcc,qko,qkn,qkc,rfl,rfl,rfl⟩:=bW.shape hp7;have hx7:=(HX5.out.below below_box).oth ho7 hn7;have HX7:=hid hx7;have HP7:=hid hp7;have HPL:=hid (bW.kt ((HX5.out.nm.below below_box).kt ho7) _ _ _ _ (bW.kt (.of below_box) _ _ _ _ HP5.out));have HZ7:=hid ((ho7.block w4.heap.size (by have:=ae HZ5.out;simp;omega) (fun e=>by have:=HX4.out.lg;have:=HX4.out.lx;have:=HXl.out;omega)).trans ((td.heap_alloc _ _ _ (ae HZ5.out)).trans HZ5.out))
  have za:w7.heap[w5.heap.size]? =some (.cells #[.int .i64 po,.slice pco pcn pcc,.slice pko pkn pkc] 105 (0,0)):=(ho7.block _ (by simp) (fun e=>by have:=HX4.out.lg;have:=HX4.out.lx;omega)).trans (heap_alloc_new _ _)
  have HO7:=hid ho7;have a0:w7.cell? ⟨w5.heap.size,0,none⟩=some (.int .i64 po):=by rw[sH w7 _ 0 _ _ _ za];rfl
  have a1:w7.cell? ⟨w5.heap.size,1,none⟩=some (.slice pco pcn pcc):=by rw[sH w7 _ 1 _ _ _ za];rfl
  have a2:w7.cell? ⟨w5.heap.size,2,none⟩=some (.slice pko pkn pkc):=by rw[sH w7 _ 2 _ _ _ za];rfl
  have al:w5.heap.size<w7.heap.size:=ae za;have zl:w4.heap.size<w7.heap.size:=ae HZ7.out;have z0:w7.cell? ⟨w4.heap.size,0,none⟩=some (.bool brk):=by rw[sH w7 _ 0 _ _ _ HZ7.out];rfl
  have z1:w7.cell? ⟨w4.heap.size,1,none⟩=some (.bool false):=by rw[sH w7 _ 1 _ _ _ HZ7.out];rfl
  have z2:w7.cell? ⟨w4.heap.size,2,none⟩=some (.bool false):=by rw[sH w7 _ 2 _ _ _ HZ7.out];rfl
  have z3:w7.cell? ⟨w4.heap.size,3,none⟩=some (.int .i64 0):=by rw[sH w7 _ 3 _ _ _ HZ7.out];rfl
  have z4:w7.cell? ⟨w4.heap.size,4,none⟩=some (.slice none 0 0):=by rw[sH w7 _ 4 _ _ _ HZ7.out];rfl
  have z5:w7.cell? ⟨w4.heap.size,5,none⟩=some (.slice none 0 0):=by rw[sH w7 _ 5 _ _ _ HZ7.out];rfl
  have z6:w7.cell? ⟨w4.heap.size,6,none⟩=some (.int .i64 0):=by rw[sH w7 _ 6 _ _ _ HZ7.out];rfl
  have z7:w7.cell? ⟨w4.heap.size,7,none⟩=some (.slice none 0 0):=by rw[sH w7 _ 7 _ _ _ HZ7.out];rfl
  have z8:w7.cell? ⟨w4.heap.size,8,none⟩=some (.slice none 0 0):=by rw[sH w7 _ 8 _ _ _ HZ7.out];rfl
  have zf3:w7.frozen? ⟨w4.heap.size,3,none⟩=false:=sL w7 _ 3 _ _ HZ7.out;have zf4:w7.frozen? ⟨w4.heap.size,4,none⟩=false:=sL w7 _ 4 _ _ HZ7.out;have zf5:w7.frozen? ⟨w4.heap.size,5,none⟩=false:=sL w7 _ 5 _ _ HZ7.out;have zf6:w7.frozen? ⟨w4.heap.size,6,none⟩=false:=sL w7 _ 6 _ _ HZ7.out;have zf7:w7.frozen? ⟨w4.heap.size,7,none⟩=false:=sL w7 _ 7 _ _ HZ7.out;have zf8:w7.frozen? ⟨w4.heap.size,8,none⟩=false:=sL w7 _ 8 _ _ HZ7.out;have xl7:X<w7.heap.size:=ae hx7.at_;have x7:w7.cell? ⟨X,1,none⟩=some (.slice vo n vc):=by rw[sH w7 X 1 _ _ _ hx7.at_];rfl
  clear hx7 hp7 hn7 ho7 za v0;go_wp2_with fail;obtain⟨w8,hw8⟩:∃w8,w8=((((((w7.setCell ⟨w4.heap.size,3,none⟩ (.int .i64 po)).setCell ⟨w4.heap.size,4,none⟩ (.slice pco pcn pcc)).setCell ⟨w4.heap.size,5,none⟩ (.slice pko pkn pkc)).setCell ⟨w4.heap.size,6,none⟩ (.int .i64 qo)).setCell ⟨w4.heap.size,7,none⟩ (.slice qco qcn qcc)).setCell ⟨w4.heap.size,8,none⟩ (.slice qko qkn qkc)).alloc (.cells #[.int .i64 qo,.slice qco qcn qcc,.slice qko qkn qkc] 105):=⟨_,rfl⟩;rw[<- hw8];obtain⟨g0,g1,g2,g3,g4,g5⟩:=zbI w7 w4.heap.size _ _ _ _ _ _ _ _ _ _ _ _ _ _ _ _ _ HZ7.out w8 hw8;clear hw8 z0 z1 z2 z3 z4 z5 z6 z7 z8 zf3 zf4 zf5 zf6 zf7 zf8 a0 a1 a2 x7;have hxz:X≠w4.heap.size:=by omega
  have X8:w8.heap[X]? =some (.cells #[.slice (some ⟨g,0,none⟩) vs.length nc,.slice vo n vc,.bool rest,.bool false] 87 (0,0)):=(g1 X xl7 hxz).trans HX7.out.at_;have ow8:w8.ownsRow B 107 9 (.slice vo n vc) n xs:=⟨HX7.out.own.1,HX7.out.own.2.imp (fun e=>e) fun⟨q,cap,cur,c1,c2,c3,c4⟩=>⟨q,cap,cur,c1,c2,(g1 q (ae c3) (fun e=>by
   have:=HOw.out q (by rw[c1];rfl)
   omega)).trans c3,c4⟩⟩
  have HX8:=hid (show db B w8 X g nc vs vo n vc rs xs rest false from⟨X8,(by
   obtain⟨cur,h1,h2⟩:=HX7.out.nm;exact⟨cur,(g1 g (ae h1) (by have:=HX4.out.lg;have:=HX4.out.lx;omega)).trans h1,h2⟩),ow8,HX7.out.rul.kt (fun b c t fr hb ht=>(g1 b (ae hb) (fun e=>by
    rw[e,HZ7.out] at hb
    cases hb
    rcases ht with ht | ht<;>cases ht)).trans hb),HX7.out.hn,HX7.out.lx,HX7.out.lg⟩)
  have HKt:=hid (show KtP w7 w8 from fun b c t fr hb ht=>(g1 b (ae hb) (fun e=>by
    rw[e,HZ7.out] at hb
    cases hb
    rcases ht with ht | ht<;>cases ht)).trans hb)
  have HP1:=hid (bW.kt HKt.out _ _ _ _ HPL.out);have HP2:=hid (bW.kt HKt.out _ _ _ _ HP7.out);have HFr:=hid (show Fr B g w w8 from by
   have l1:=HX4.out.lx;have l2:=HX4.out.lg;have l3:=HXl.out;have f1:Fr B g w w4:=.of (.of HBw.out) (by have:=HBl.out;omega)
   have f2:Fr B g w4 w5:=(Fr.of (.of below_box) (by omega)).trans (.of HO5.out (by simp;omega))
   have f3:Fr B g w5 w7:=(Fr.of (.of below_box) (by omega)).trans (.of HO7.out (by simp;omega))
   exact f1.trans (f2.trans (f3.trans ⟨g3,g4,g5,by omega,fun b hb hne=>g1 b (by omega) (by omega)⟩)))
  have c0:w8.cell? ⟨w4.heap.size,0,none⟩=some (.bool brk):=by rw[sH w8 _ 0 _ _ _ g0];rfl
  have c1:w8.cell? ⟨w4.heap.size,1,none⟩=some (.bool false):=by rw[sH w8 _ 1 _ _ _ g0];rfl
  have c2:w8.cell? ⟨w4.heap.size,2,none⟩=some (.bool false):=by rw[sH w8 _ 2 _ _ _ g0];rfl
  have c3:w8.cell? ⟨w4.heap.size,3,none⟩=some (.int .i64 po):=by rw[sH w8 _ 3 _ _ _ g0];rfl
  have c4:w8.cell? ⟨w4.heap.size,4,none⟩=some (.slice pco pcn pcc):=by rw[sH w8 _ 4 _ _ _ g0];rfl
  have c5:w8.cell? ⟨w4.heap.size,5,none⟩=some (.slice pko pkn pkc):=by rw[sH w8 _ 5 _ _ _ g0];rfl
  have c6:w8.cell? ⟨w4.heap.size,6,none⟩=some (.int .i64 qo):=by rw[sH w8 _ 6 _ _ _ g0];rfl
  have c7:w8.cell? ⟨w4.heap.size,7,none⟩=some (.slice qco qcn qcc):=by rw[sH w8 _ 7 _ _ _ g0];rfl
  have c8:w8.cell? ⟨w4.heap.size,8,none⟩=some (.slice qko qkn qkc):=by rw[sH w8 _ 8 _ _ _ g0];rfl
  have cx:w8.cell? ⟨X,1,none⟩=some (.slice vo n vc):=by rw[sH w8 X 1 _ _ _ X8];rfl
  have xl8:X<w8.heap.size:=ae X8;have HOn:=hid (fun(b:Nat) (hb:(sS vo n vc).ownBlock=some b)=>show b≠X from fun e=>by
   rcases ow8.2 with ⟨k1,_⟩ | ⟨q',cap,cur,k1,_,k3,_⟩
   ·rw[k1] at hb;cases hb
   ·rw[k1] at hb;cases hb
    have e2:q'=X:=e;rw[e2,X8] at k3
    cases k3)
  have HFx:=hid (show Fx g X w w8 from by
   have f1:Fx g X w w4:=.of (.of HBw.out);have f2:Fx g X w4 w5:=(Fx.of (.of below_box)).trans (.of HO5.out);have f3:Fx g X w5 w7:=(Fx.of (.of below_box)).trans (.of HO7.out);intro b o hb k1 k2 k3;have q1:=f3 b o (f2 b o (f1 b o hb k1 k2 k3) k1 k2 k3) k1 k2 k3;rw[g1 b (ae q1) (by have:=ae hb;have:=HBw.out.size;omega)]
   exact q1)
  clear g0 g1 g2 g3 g4 g5 X8 ow8 HX7 HP5 HP7 HPL HKt HZ5 HZ7 HO5 HO7 HX5 xl5 xl7 al zl H5 H6;refine ak [(0,true),(1,true),(2,true),(3,true),(4,true),(5,true),(6,true),(7,false),(8,false),(9,false),(10,false),(11,false),(12,false)] (fun W=>W.cell? ⟨X,1,none⟩=some (.slice vo n vc)/\W.cell? ⟨w4.heap.size,0,none⟩=some (.bool brk)/\W.cell? ⟨w4.heap.size,1,none⟩=some (.bool false)/\W.cell? ⟨w4.heap.size,2,none⟩=some (.bool false)/\W.cell? ⟨w4.heap.size,3,none⟩=some (.int .i64 po)/\W.cell? ⟨w4.heap.size,4,none⟩=some (.slice pco pcn pcc)/\W.cell? ⟨w4.heap.size,5,none⟩=some (.slice pko pkn pkc)/\W.cell? ⟨w4.heap.size,6,none⟩=some (.int .i64 qo)/\W.cell? ⟨w4.heap.size,7,none⟩=some (.slice qco qcn qcc)/\W.cell? ⟨w4.heap.size,8,none⟩=some (.slice qko qkn qkc)) (fun j=>j==12) (by kernel_rfl) (by kernel_rfl) (fun j hj=>by have:=beq_iff_eq.1 hj;subst this;decide) rfl (by kernel_rfl) ⟨cx,c0,c1,c2,c3,c4,c5,c6,c7,c8⟩ ?_
  iterate 7 (refine au ?_ rfl (by kernel_rfl) (fun w' hS=>?_) ?_;(rotate_left;(obtain⟨s0,s1,s2,s3,s4,s5,s6,s7,s8,s9⟩:=hS;go_simp;with_reducible rfl);rotate_left))
  refine am rfl (by kernel_rfl) fun KK hKK=>?_
  go_simp;obtain⟨w9,hw9⟩:∃w9,w9=(w8.alloc (.cells #[.bool brk,.bool false,.bool false,.int .i64 po,.slice pco pcn pcc,.slice pko pkn pkc,.int .i64 qo,.slice qco qcn qcc,.slice qko qkn qkc] 107)).drew:=⟨_,rfl⟩;rw[<- hw9];have b9:td w8.heap.size w8 w9:=by rw[hw9];exact below_box.drew
  have nw9:∀j u,[tt brk,.bool false,.bool false,.int .i64 po,.slice pco pcn pcc,.slice pko pkn pkc,.int .i64 qo,.slice qco qcn qcc,.slice qko qkn qkc][j]? =some u->w9.cell? ((⟨w8.heap.size,0,none⟩:Addr).add j)=some u:=by
   rw[hw9];exact zro w8 _ _
  have sz9:w9.heap.size=w8.heap.size+1:=by rw[hw9];simp[heap_drew]
  have HB9:=hid b9;have HN9:=hid nw9;clear hw9 b9 nw9 sz9;have HC:=hid (fun(W:sJ) (hW:∀b,b<w8.heap.size->(sS vo n vc).ownBlock≠some b->W.heap[b]? =w8.heap[b]?)=>show W.cell? ⟨X,1,none⟩=some (.slice vo n vc)/\W.cell? ⟨w4.heap.size,0,none⟩=some (.bool brk)/\W.cell? ⟨w4.heap.size,1,none⟩=some (.bool false)/\W.cell? ⟨w4.heap.size,2,none⟩=some (.bool false)/\W.cell? ⟨w4.heap.size,3,none⟩=some (.int .i64 po)/\W.cell? ⟨w4.heap.size,4,none⟩=some (.slice pco pcn pcc)/\W.cell? ⟨w4.heap.size,5,none⟩=some (.slice pko pkn pkc)/\W.cell? ⟨w4.heap.size,6,none⟩=some (.int .i64 qo)/\W.cell? ⟨w4.heap.size,7,none⟩=some (.slice qco qcn qcc)/\W.cell? ⟨w4.heap.size,8,none⟩=some (.slice qko qkn qkc) from by
   have e1:W.heap[X]? =w8.heap[X]? :=hW X xl8 (fun e=>HOn.out X e rfl)
   have e2:W.heap[w4.heap.size]? =w8.heap[w4.heap.size]? :=hW _ (tm w8 _ c0) (fun e=>by have:=HOw.out _ e;omega)
   exact⟨(sI e1).trans cx,(sI e2).trans c0,(sI e2).trans c1,(sI e2).trans c2,(sI e2).trans c3,(sI e2).trans c4,(sI e2).trans c5,(sI e2).trans c6,(sI e2).trans c7,(sI e2).trans c8⟩)
  refine hKK _ _ (fun _=>HC.out _ fun b hb _=>HB9.out.block b hb) ?_
  clear hKK cx c0 c1 c2 c3 c4 c5 c6 c7 c8;refine am rfl (by kernel_rfl) fun KK hKK=>?_
  refine wp_append_lies _ _ _ 61 rfl B 107 iR (.agg #[.bool false,.bool false,.bool false,.int .i64 0,.slice none 0 0,.slice none 0 0,.int .i64 0,.slice none 0 0,.slice none 0 0]) 9 120 Tryz.underRules HIR.out.1 HIR.out.2.1 HIR.out.2.2.1 HIR.out.2.2.2 rfl (by decide) (.slice vo n vc) n xs rfl ⟨HX8.out.own.1,HX8.out.own.2.imp (fun e=>e) fun⟨q,cap,cur,k1,k2,k3,k4⟩=>⟨q,cap,cur,k1,k2,(HB9.out.block q (ae k3)).trans k3,k4⟩⟩ ⟨w8.heap.size,0,none⟩ 1 1 [tt brk,.bool false,.bool false,.int .i64 po,.slice pco pcn pcc,.slice pko pkn pkc,.int .i64 qo,.slice qco qcn qcc,.slice qko qkn qkc] rfl rfl HN9.out (fun u hu=>by simp at hu;rcases hu with h | h | h | h | h | h | h | h<;>rw[h]<;>rfl) (by decide) (by unfold maxLen;omega) (by omega) (by have:=HX8.out.lx;have:=HB9.out.size;omega) w9.heap.size rfl ?_
  intro g8 c8 w10 o10 gr10 hl10 hlt10;have HM:=hid (fun(w11:sJ) (h11:w11=w10.setCell ⟨X,1,none⟩ (.slice (some ⟨g8,0,none⟩) (n+1) c8))=>db.more (r:=⟨brk,false,false,pl,pr⟩) HX8.out HP1.out HP2.out rfl HB9.out o10 gr10 h11)
  have X10:w10.heap[X]? =w8.heap[X]? :=(gr10.block X (sP xl8 HB9.out.size) (fun e=>HOn.out X e.symm rfl)).trans (HB9.out.block X xl8)
  have f10:w10.frozen? ⟨X,1,none⟩=false:=sL w10 X 1 _ _ (X10.trans HX8.out.at_);have c10:w10.cell? ⟨X,1,none⟩=some (.slice vo n vc):=by rw[sH w10 X 1 _ _ _ (X10.trans HX8.out.at_)];rfl
  have HS10:=hid (HC.out w10 fun b hb hne=>(gr10.block b (sP hb HB9.out.size) (fun e=>hne e.symm)).trans (HB9.out.block b hb))
  refine hKK _ _ (fun _=>HC.out _ fun b hb hne=>(gr10.block b (sP hb HB9.out.size) (fun e=>hne e.symm)).trans (HB9.out.block b hb)) ?_
  clear hKK o10 gr10 hl10 hlt10 X10
  iterate 3 (refine am rfl (by kernel_rfl) fun KK hKK=>?_;go_simp;refine hKK _ _ (fun _=>HS10.out) ?_;clear hKK)
  refine am rfl (by kernel_rfl) fun KK hKK=>?_
  go_simp;refine hKK _ _ (fun h=>by cases h) ?_
  clear hKK;refine aP (sY ?_);go_wp2;go_ret;obtain⟨m1,m2,m3⟩:=HM.out _ rfl;exact⟨rfl,HFr.out.trans m2,HFx.out.trans m3,_,_,_,_,m1⟩)
end Pt
end
section
open Ev Go.RowKit
namespace Pt
set_option maxRecDepth 100000 in
theorem oZ (B X g nc:Nat) (vs:List sK) (vo:Option Addr) (n vc:Nat) (rs:List Rl) (xs:List sK) (rest:Bool) (w:sJ) (s p L R:List UInt8) (k:Nat) (brk:Bool) (pl pr:aw) (hX:db B w X g nc vs vo n vc rs xs rest false) (hn9:n<=60)
  (h1:az 103 (.string ⟨s.toArray⟩) (.string ⟨p.toArray⟩)) (h2:az 104 (.string ⟨p.toArray⟩) (.int .i64 k)) (hk:k<p.length) (hp9:p.length<=10000) (hR8:R.length<=10000) (hb:((p[k].toNat:Int)==47)=brk)
  (h3:az 105 (.string ((⟨p.toArray⟩:ByteArray).extract 0 k)) (.string ⟨L.toArray⟩)) (h4:az 105 (.string ((⟨p.toArray⟩:ByteArray).extract (k+1) p.length)) (.string ⟨R.toArray⟩)) (hL:L≠ [114,101,115,116]) (hL9:L.head? =some 94) (hL8:L.length<=10000) (hR9:R.getLast? ≠some 36)
  (h5:∀W,aM W g nc vs->sN Tryz.prog 106 #[.string ((⟨L.toArray⟩:ByteArray).extract 1 L.length),.slice (some ⟨g,0,none⟩) vs.length nc] W (dH g nc vs W pl))
  (h6:∀W,aM W g nc vs->sN Tryz.prog 106 #[.string ⟨R.toArray⟩,.slice (some ⟨g,0,none⟩) vs.length nc] W (dH g nc vs W pr)):
  sN Tryz.prog 72 #[.pointer (some ⟨X,0,none⟩),.string ⟨s.toArray⟩] w (LnQ B w X g nc vs (rs++[⟨brk,true,false,pl,pr⟩]) rest false):=by
 obtain⟨iR,hR0,hR1,hR2,hR3⟩:=info_parts Tryz.infoRule;have HIR:=hid (sZ hR0 (sZ hR1 (sZ hR2 hR3)));clear hR0 hR1 hR2 hR3;have HX:=hid hX;have H1:=hid h1;have H2:=hid h2;have H3:=hid h3;have H4:=hid h4;have H5:=hid h5;have H6:=hid h6;clear hX h1 h2 h3 h4 h5 h6;go_enter Tryz.func72,Tryz.ntmps72;go_wp2_with fail;refine(H1.out w).mono ?_;rintro e w1 ⟨rfl,b1⟩;have HX1:=hid (HX.out.below b1);have HB1:=hid b1;clear b1;have p0:p.isEmpty=false:=by cases p with
  | nil=>simp at hk
  | cons a b=>rfl
 have p1:p≠ []:=by cases p with
  | nil=>simp at hk
  | cons a b=>simp
 go_wp2_with fail;refine(H2.out w1).mono ?_;rintro e w2 ⟨rfl,b2⟩;have HX2:=hid (HX1.out.below b2);have HB2:=hid (HB1.out.trans (b2.mono HB1.out.size));clear b2 HX1 HB1;have x1:w2.cell? ⟨X,1,none⟩=some (.slice vo n vc):=by rw[sH w2 X 1 _ _ _ HX2.out.at_];rfl
 have x3:w2.cell? ⟨X,3,none⟩=some (.bool false):=by rw[sH w2 X 3 _ _ _ HX2.out.at_];rfl
 have k0:(0:Int)<=(k:Int):=by omega
 have k1:(k:Int)<(p.length:Int):=by omega
 have k2:¬(k:Int)<0:=by omega
 have d1:decide ((k:Int)<0)=false:=decide_eq_false (by omega)
 have k3:(k:Int)<=(p.length:Int):=by omega
 have k4:(k:Int)+1<=(p.length:Int):=by omega
 go_wp2_with fail;have e9:((((⟨p.toArray⟩:ByteArray)[k]'(by show k<p.toArray.size;simpa using hk)).toNat:Int)==47)=brk:=hb
 rw[e9];clear e9 hb;have e8:ti.wrap ((k:Int)+1)=(k:Int)+1:=by unfold ta tc sX;simp;omega
 have k5:(0:Int)<=(k:Int)+1:=by omega
 refine ak [(0,true),(1,true),(2,true),(4,true),(5,true),(6,true),(7,true),(3,false),(8,false),(9,false),(10,false)] (fun _=>True) (fun _=>false) (by kernel_rfl) (by kernel_rfl) (fun j hj=>by cases hj) rfl (by kernel_rfl) trivial ?_
 iterate 7 (refine au ?_ rfl (by kernel_rfl) (fun w' hS=>?_) ?_;(rotate_left;(go_simp;with_reducible rfl);rotate_left))
 refine am rfl (by kernel_rfl) fun KK hKK=>?_
 go_simp;refine(H3.out w2.drew).mono ?_;rintro e w3 ⟨rfl,b3⟩;have HB3:=hid (show td w2.heap.size w2 w3 from⟨b3.os,b3.tape,b3.output,b3.size,b3.block⟩)
 clear b3;refine hKK _ _ (fun _=>trivial) ?_
 clear hKK;refine am rfl (by kernel_rfl) fun KK hKK=>?_
 go_simp;refine(H4.out w3).mono ?_;rintro e w4 ⟨rfl,b4⟩;have HB4:=hid (show td w2.heap.size w2 w4 from HB3.out.trans (b4.mono HB3.out.size))
 clear b4 HB3;refine hKK _ _ (fun _=>trivial) ?_
 clear hKK;refine am rfl (by kernel_rfl) fun KK hKK=>?_
 go_simp;refine hKK _ _ (fun _=>trivial) ?_
 clear hKK;refine am rfl (by kernel_rfl) fun KK hKK=>?_
 go_simp;refine hKK _ _ (fun _=>trivial) ?_
 clear hKK;refine aP (sY ?_);have HX4:=hid (HX2.out.below HB4.out);have HBw:=hid (HB2.out.trans (HB4.out.mono HB2.out.size));have y1:w4.cell? ⟨X,1,none⟩=some (.slice vo n vc):=by rw[sH w4 X 1 _ _ _ HX4.out.at_];rfl
 have y0:w4.cell? ⟨X,0,none⟩=some (.slice (some ⟨g,0,none⟩) vs.length nc):=by rw[sH w4 X 0 _ _ _ HX4.out.at_];rfl
 have HXl:=hid (ae HX4.out.at_);have HBl:=hid (show B<=w.heap.size by have:=ae HX.out.at_;have:=HX.out.lx;omega)
 clear x1 x3 HX2 HB2 HB4 k2 k3 k4 k5 d1 e8 p0 p1 HX;have r1:(L== [114,101,115,116])=false:=by simpa using hL
 have n1:(n:Int)<64:=by omega
 have xl:X<w4.heap.size:=HXl.out;have hL0:L≠ []:=fun e=>by rw[e] at hL9;cases hL9
 ·skip
  have l2:L.isEmpty=false:=by cases L with
   | nil=>exact absurd rfl hL0
   | cons x y=>rfl
  have l3:(L== [])=false:=by simpa using hL0
  have l4:0<L.length:=sU.2 hL0;have l5:(0:Int)<(L.length:Int):=by omega
  have l6:(((((⟨L.toArray⟩:ByteArray)[0]'(by show 0<L.toArray.size;simpa using l4)).toNat:Int))==94)=true:=by
   have e1:L[0]=94:=by
    rw[tn,sO l4] at hL9;exact Option.some.inj hL9
   have e2:((⟨L.toArray⟩:ByteArray)[0]'(by show 0<L.toArray.size;simpa using l4))=94:=e1
   rw[e2]
   rfl
  have l7:(1:Int)<=(L.length:Int):=by omega
  rcases Classical.em (R=[]) with hR0 | hR0
  subst hR0;rotate_left;have r2:R.isEmpty=false:=by cases R with
   | nil=>exact absurd rfl hR0
   | cons x y=>rfl
  have r3:(R== [])=false:=by simpa using hR0
  have r4:0<R.length:=sU.2 hR0;have r5:ti.wrap ((R.length:Int) - 1)=(R.length:Int) - 1:=by unfold ta tc sX;simp;omega
  have r6:(0:Int)<=(R.length:Int) - 1:=by omega
  have r7:(R.length:Int) - 1<(R.length:Int):=by omega
  have r8:((R.length:Int) - 1).toNat=R.length - 1:=by omega
  have r9:R.length - 1<R.length:=by omega
  have q2:(((((⟨R.toArray⟩:ByteArray)[R.length - 1]'(by show R.length - 1<R.toArray.size;simpa using r9)).toNat:Int))==36)=false:=by
   rw[beq_eq_false_iff_ne];intro e
   apply hR9
   have e1:R[R.length - 1]=36:=tp.1 (by
    have:(R[R.length - 1]).toNat=(36:Nat):=by exact_mod_cast e
    exact this)
   rw[tg,sO r9,e1]
  all_goals (
   go_wp2_with fail;refine(H5.out _ (HX4.out.nm.below below_box)).mono ?_;rintro e w5 ⟨u0,u1,u2,rfl,hp5,hn5,ho5⟩;obtain⟨po,pco,pcn,pcc,pko,pkn,pkc,rfl,rfl,rfl⟩:=bW.shape hp5;have HOw:=hid (fun(q:Nat) (hq:(sS vo n vc).ownBlock=some q)=>show q<w4.heap.size from by
    rcases HX4.out.own.2 with ⟨c1,_⟩ | ⟨q',cap,cur,c1,_,c3,_⟩
    ·rw[c1] at hq;cases hq
    ·rw[c1] at hq;cases hq;exact ae c3)
   have hx5:=(HX4.out.below below_box).oth ho5 hn5;have HX5:=hid hx5;have HP5:=hid hp5;have zz:w5.heap[w4.heap.size]? =some (.cells #[.bool brk,.bool true,.bool false,.int .i64 0,.slice none 0 0,.slice none 0 0,.int .i64 0,.slice none 0 0,.slice none 0 0] 107 (0,0)):=(ho5.block _ (by simp) (fun e=>by have:=HX4.out.lg;have:=HX4.out.lx;have:=HXl.out;omega)).trans (heap_alloc_new _ _)
   have HZ5:=hid zz;have HO5:=hid ho5;have v0:w5.cell? ⟨X,0,none⟩=some (.slice (some ⟨g,0,none⟩) vs.length nc):=by rw[sH w5 X 0 _ _ _ hx5.at_];rfl
   have xl5:X<w5.heap.size:=ae hx5.at_;clear hx5 hp5 hn5 ho5 zz y0 y1;go_wp2_with fail;refine(H6.out _ (HX5.out.nm.below below_box)).mono ?_;rintro e w7 ⟨s0,s1,s2,rfl,hp7,hn7,ho7⟩;obtain⟨qo,qco,qcn,qcc,qko,qkn,qkc,rfl,rfl,rfl⟩:=bW.shape hp7;have hx7:=(HX5.out.below below_box).oth ho7 hn7;have HX7:=hid hx7;have HP7:=hid hp7;have HPL:=hid (bW.kt ((HX5.out.nm.below below_box).kt ho7) _ _ _ _ (bW.kt (.of below_box) _ _ _ _ HP5.out));have HZ7:=hid ((ho7.block w4.heap.size (by have:=ae HZ5.out;simp;omega) (fun e=>by have:=HX4.out.lg;have:=HX4.out.lx;have:=HXl.out;omega)).trans ((td.heap_alloc _ _ _ (ae HZ5.out)).trans HZ5.out))
   have za:w7.heap[w5.heap.size]? =some (.cells #[.int .i64 po,.slice pco pcn pcc,.slice pko pkn pkc] 105 (0,0)):=(ho7.block _ (by simp) (fun e=>by have:=HX4.out.lg;have:=HX4.out.lx;omega)).trans (heap_alloc_new _ _)
   have HO7:=hid ho7;have a0:w7.cell? ⟨w5.heap.size,0,none⟩=some (.int .i64 po):=by rw[sH w7 _ 0 _ _ _ za];rfl
   have a1:w7.cell? ⟨w5.heap.size,1,none⟩=some (.slice pco pcn pcc):=by rw[sH w7 _ 1 _ _ _ za];rfl
   have a2:w7.cell? ⟨w5.heap.size,2,none⟩=some (.slice pko pkn pkc):=by rw[sH w7 _ 2 _ _ _ za];rfl
   have al:w5.heap.size<w7.heap.size:=ae za;have zl:w4.heap.size<w7.heap.size:=ae HZ7.out;have z0:w7.cell? ⟨w4.heap.size,0,none⟩=some (.bool brk):=by rw[sH w7 _ 0 _ _ _ HZ7.out];rfl
   have z1:w7.cell? ⟨w4.heap.size,1,none⟩=some (.bool true):=by rw[sH w7 _ 1 _ _ _ HZ7.out];rfl
   have z2:w7.cell? ⟨w4.heap.size,2,none⟩=some (.bool false):=by rw[sH w7 _ 2 _ _ _ HZ7.out];rfl
   have z3:w7.cell? ⟨w4.heap.size,3,none⟩=some (.int .i64 0):=by rw[sH w7 _ 3 _ _ _ HZ7.out];rfl
   have z4:w7.cell? ⟨w4.heap.size,4,none⟩=some (.slice none 0 0):=by rw[sH w7 _ 4 _ _ _ HZ7.out];rfl
   have z5:w7.cell? ⟨w4.heap.size,5,none⟩=some (.slice none 0 0):=by rw[sH w7 _ 5 _ _ _ HZ7.out];rfl
   have z6:w7.cell? ⟨w4.heap.size,6,none⟩=some (.int .i64 0):=by rw[sH w7 _ 6 _ _ _ HZ7.out];rfl
   have z7:w7.cell? ⟨w4.heap.size,7,none⟩=some (.slice none 0 0):=by rw[sH w7 _ 7 _ _ _ HZ7.out];rfl
   have z8:w7.cell? ⟨w4.heap.size,8,none⟩=some (.slice none 0 0):=by rw[sH w7 _ 8 _ _ _ HZ7.out];rfl
   have zf3:w7.frozen? ⟨w4.heap.size,3,none⟩=false:=sL w7 _ 3 _ _ HZ7.out;have zf4:w7.frozen? ⟨w4.heap.size,4,none⟩=false:=sL w7 _ 4 _ _ HZ7.out;have zf5:w7.frozen? ⟨w4.heap.size,5,none⟩=false:=sL w7 _ 5 _ _ HZ7.out;have zf6:w7.frozen? ⟨w4.heap.size,6,none⟩=false:=sL w7 _ 6 _ _ HZ7.out;have zf7:w7.frozen? ⟨w4.heap.size,7,none⟩=false:=sL w7 _ 7 _ _ HZ7.out;have zf8:w7.frozen? ⟨w4.heap.size,8,none⟩=false:=sL w7 _ 8 _ _ HZ7.out;have xl7:X<w7.heap.size:=ae hx7.at_;have x7:w7.cell? ⟨X,1,none⟩=some (.slice vo n vc):=by rw[sH w7 X 1 _ _ _ hx7.at_];rfl
   clear hx7 hp7 hn7 ho7 za v0;go_wp2_with fail;obtain⟨w8,hw8⟩:∃w8,w8=((((((w7.setCell ⟨w4.heap.size,3,none⟩ (.int .i64 po)).setCell ⟨w4.heap.size,4,none⟩ (.slice pco pcn pcc)).setCell ⟨w4.heap.size,5,none⟩ (.slice pko pkn pkc)).setCell ⟨w4.heap.size,6,none⟩ (.int .i64 qo)).setCell ⟨w4.heap.size,7,none⟩ (.slice qco qcn qcc)).setCell ⟨w4.heap.size,8,none⟩ (.slice qko qkn qkc)).alloc (.cells #[.int .i64 qo,.slice qco qcn qcc,.slice qko qkn qkc] 105):=⟨_,rfl⟩;rw[<- hw8];obtain⟨g0,g1,g2,g3,g4,g5⟩:=zbI w7 w4.heap.size _ _ _ _ _ _ _ _ _ _ _ _ _ _ _ _ _ HZ7.out w8 hw8;clear hw8 z0 z1 z2 z3 z4 z5 z6 z7 z8 zf3 zf4 zf5 zf6 zf7 zf8 a0 a1 a2 x7;have hxz:X≠w4.heap.size:=by omega
   have X8:w8.heap[X]? =some (.cells #[.slice (some ⟨g,0,none⟩) vs.length nc,.slice vo n vc,.bool rest,.bool false] 87 (0,0)):=(g1 X xl7 hxz).trans HX7.out.at_;have ow8:w8.ownsRow B 107 9 (.slice vo n vc) n xs:=⟨HX7.out.own.1,HX7.out.own.2.imp (fun e=>e) fun⟨q,cap,cur,c1,c2,c3,c4⟩=>⟨q,cap,cur,c1,c2,(g1 q (ae c3) (fun e=>by
    have:=HOw.out q (by rw[c1];rfl)
    omega)).trans c3,c4⟩⟩
   have HX8:=hid (show db B w8 X g nc vs vo n vc rs xs rest false from⟨X8,(by
    obtain⟨cur,h1,h2⟩:=HX7.out.nm;exact⟨cur,(g1 g (ae h1) (by have:=HX4.out.lg;have:=HX4.out.lx;omega)).trans h1,h2⟩),ow8,HX7.out.rul.kt (fun b c t fr hb ht=>(g1 b (ae hb) (fun e=>by
     rw[e,HZ7.out] at hb
     cases hb
     rcases ht with ht | ht<;>cases ht)).trans hb),HX7.out.hn,HX7.out.lx,HX7.out.lg⟩)
   have HKt:=hid (show KtP w7 w8 from fun b c t fr hb ht=>(g1 b (ae hb) (fun e=>by
     rw[e,HZ7.out] at hb
     cases hb
     rcases ht with ht | ht<;>cases ht)).trans hb)
   have HP1:=hid (bW.kt HKt.out _ _ _ _ HPL.out);have HP2:=hid (bW.kt HKt.out _ _ _ _ HP7.out);have HFr:=hid (show Fr B g w w8 from by
    have l1:=HX4.out.lx;have l2:=HX4.out.lg;have l3:=HXl.out;have f1:Fr B g w w4:=.of (.of HBw.out) (by have:=HBl.out;omega)
    have f2:Fr B g w4 w5:=(Fr.of (.of below_box) (by omega)).trans (.of HO5.out (by simp;omega))
    have f3:Fr B g w5 w7:=(Fr.of (.of below_box) (by omega)).trans (.of HO7.out (by simp;omega))
    exact f1.trans (f2.trans (f3.trans ⟨g3,g4,g5,by omega,fun b hb hne=>g1 b (by omega) (by omega)⟩)))
   have c0:w8.cell? ⟨w4.heap.size,0,none⟩=some (.bool brk):=by rw[sH w8 _ 0 _ _ _ g0];rfl
   have c1:w8.cell? ⟨w4.heap.size,1,none⟩=some (.bool true):=by rw[sH w8 _ 1 _ _ _ g0];rfl
   have c2:w8.cell? ⟨w4.heap.size,2,none⟩=some (.bool false):=by rw[sH w8 _ 2 _ _ _ g0];rfl
   have c3:w8.cell? ⟨w4.heap.size,3,none⟩=some (.int .i64 po):=by rw[sH w8 _ 3 _ _ _ g0];rfl
   have c4:w8.cell? ⟨w4.heap.size,4,none⟩=some (.slice pco pcn pcc):=by rw[sH w8 _ 4 _ _ _ g0];rfl
   have c5:w8.cell? ⟨w4.heap.size,5,none⟩=some (.slice pko pkn pkc):=by rw[sH w8 _ 5 _ _ _ g0];rfl
   have c6:w8.cell? ⟨w4.heap.size,6,none⟩=some (.int .i64 qo):=by rw[sH w8 _ 6 _ _ _ g0];rfl
   have c7:w8.cell? ⟨w4.heap.size,7,none⟩=some (.slice qco qcn qcc):=by rw[sH w8 _ 7 _ _ _ g0];rfl
   have c8:w8.cell? ⟨w4.heap.size,8,none⟩=some (.slice qko qkn qkc):=by rw[sH w8 _ 8 _ _ _ g0];rfl
   have cx:w8.cell? ⟨X,1,none⟩=some (.slice vo n vc):=by rw[sH w8 X 1 _ _ _ X8];rfl
   have xl8:X<w8.heap.size:=ae X8;have HOn:=hid (fun(b:Nat) (hb:(sS vo n vc).ownBlock=some b)=>show b≠X from fun e=>by
    rcases ow8.2 with ⟨k1,_⟩ | ⟨q',cap,cur,k1,_,k3,_⟩
    ·rw[k1] at hb;cases hb
    ·rw[k1] at hb;cases hb
     have e2:q'=X:=e;rw[e2,X8] at k3
     cases k3)
   have HFx:=hid (show Fx g X w w8 from by
    have f1:Fx g X w w4:=.of (.of HBw.out);have f2:Fx g X w4 w5:=(Fx.of (.of below_box)).trans (.of HO5.out);have f3:Fx g X w5 w7:=(Fx.of (.of below_box)).trans (.of HO7.out);intro b o hb k1 k2 k3;have q1:=f3 b o (f2 b o (f1 b o hb k1 k2 k3) k1 k2 k3) k1 k2 k3;rw[g1 b (ae q1) (by have:=ae hb;have:=HBw.out.size;omega)]
    exact q1)
   clear g0 g1 g2 g3 g4 g5 X8 ow8 HX7 HP5 HP7 HPL HKt HZ5 HZ7 HO5 HO7 HX5 xl5 xl7 al zl H5 H6;refine ak [(0,true),(1,true),(2,true),(3,true),(4,true),(5,true),(6,true),(7,false),(8,false),(9,false),(10,false),(11,false),(12,false)] (fun W=>W.cell? ⟨X,1,none⟩=some (.slice vo n vc)/\W.cell? ⟨w4.heap.size,0,none⟩=some (.bool brk)/\W.cell? ⟨w4.heap.size,1,none⟩=some (.bool true)/\W.cell? ⟨w4.heap.size,2,none⟩=some (.bool false)/\W.cell? ⟨w4.heap.size,3,none⟩=some (.int .i64 po)/\W.cell? ⟨w4.heap.size,4,none⟩=some (.slice pco pcn pcc)/\W.cell? ⟨w4.heap.size,5,none⟩=some (.slice pko pkn pkc)/\W.cell? ⟨w4.heap.size,6,none⟩=some (.int .i64 qo)/\W.cell? ⟨w4.heap.size,7,none⟩=some (.slice qco qcn qcc)/\W.cell? ⟨w4.heap.size,8,none⟩=some (.slice qko qkn qkc)) (fun j=>j==12) (by kernel_rfl) (by kernel_rfl) (fun j hj=>by have:=beq_iff_eq.1 hj;subst this;decide) rfl (by kernel_rfl) ⟨cx,c0,c1,c2,c3,c4,c5,c6,c7,c8⟩ ?_
   iterate 7 (refine au ?_ rfl (by kernel_rfl) (fun w' hS=>?_) ?_;(rotate_left;(obtain⟨s0,s1,s2,s3,s4,s5,s6,s7,s8,s9⟩:=hS;go_simp;with_reducible rfl);rotate_left))
   refine am rfl (by kernel_rfl) fun KK hKK=>?_
   go_simp;obtain⟨w9,hw9⟩:∃w9,w9=(w8.alloc (.cells #[.bool brk,.bool true,.bool false,.int .i64 po,.slice pco pcn pcc,.slice pko pkn pkc,.int .i64 qo,.slice qco qcn qcc,.slice qko qkn qkc] 107)).drew:=⟨_,rfl⟩;rw[<- hw9];have b9:td w8.heap.size w8 w9:=by rw[hw9];exact below_box.drew
   have nw9:∀j u,[tt brk,.bool true,.bool false,.int .i64 po,.slice pco pcn pcc,.slice pko pkn pkc,.int .i64 qo,.slice qco qcn qcc,.slice qko qkn qkc][j]? =some u->w9.cell? ((⟨w8.heap.size,0,none⟩:Addr).add j)=some u:=by
    rw[hw9];exact zro w8 _ _
   have sz9:w9.heap.size=w8.heap.size+1:=by rw[hw9];simp[heap_drew]
   have HB9:=hid b9;have HN9:=hid nw9;clear hw9 b9 nw9 sz9;have HC:=hid (fun(W:sJ) (hW:∀b,b<w8.heap.size->(sS vo n vc).ownBlock≠some b->W.heap[b]? =w8.heap[b]?)=>show W.cell? ⟨X,1,none⟩=some (.slice vo n vc)/\W.cell? ⟨w4.heap.size,0,none⟩=some (.bool brk)/\W.cell? ⟨w4.heap.size,1,none⟩=some (.bool true)/\W.cell? ⟨w4.heap.size,2,none⟩=some (.bool false)/\W.cell? ⟨w4.heap.size,3,none⟩=some (.int .i64 po)/\W.cell? ⟨w4.heap.size,4,none⟩=some (.slice pco pcn pcc)/\W.cell? ⟨w4.heap.size,5,none⟩=some (.slice pko pkn pkc)/\W.cell? ⟨w4.heap.size,6,none⟩=some (.int .i64 qo)/\W.cell? ⟨w4.heap.size,7,none⟩=some (.slice qco qcn qcc)/\W.cell? ⟨w4.heap.size,8,none⟩=some (.slice qko qkn qkc) from by
    have e1:W.heap[X]? =w8.heap[X]? :=hW X xl8 (fun e=>HOn.out X e rfl)
    have e2:W.heap[w4.heap.size]? =w8.heap[w4.heap.size]? :=hW _ (tm w8 _ c0) (fun e=>by have:=HOw.out _ e;omega)
    exact⟨(sI e1).trans cx,(sI e2).trans c0,(sI e2).trans c1,(sI e2).trans c2,(sI e2).trans c3,(sI e2).trans c4,(sI e2).trans c5,(sI e2).trans c6,(sI e2).trans c7,(sI e2).trans c8⟩)
   refine hKK _ _ (fun _=>HC.out _ fun b hb _=>HB9.out.block b hb) ?_
   clear hKK cx c0 c1 c2 c3 c4 c5 c6 c7 c8;refine am rfl (by kernel_rfl) fun KK hKK=>?_
   refine wp_append_lies _ _ _ 61 rfl B 107 iR (.agg #[.bool false,.bool false,.bool false,.int .i64 0,.slice none 0 0,.slice none 0 0,.int .i64 0,.slice none 0 0,.slice none 0 0]) 9 120 Tryz.underRules HIR.out.1 HIR.out.2.1 HIR.out.2.2.1 HIR.out.2.2.2 rfl (by decide) (.slice vo n vc) n xs rfl ⟨HX8.out.own.1,HX8.out.own.2.imp (fun e=>e) fun⟨q,cap,cur,k1,k2,k3,k4⟩=>⟨q,cap,cur,k1,k2,(HB9.out.block q (ae k3)).trans k3,k4⟩⟩ ⟨w8.heap.size,0,none⟩ 1 1 [tt brk,.bool true,.bool false,.int .i64 po,.slice pco pcn pcc,.slice pko pkn pkc,.int .i64 qo,.slice qco qcn qcc,.slice qko qkn qkc] rfl rfl HN9.out (fun u hu=>by simp at hu;rcases hu with h | h | h | h | h | h | h | h | h<;>rw[h]<;>rfl) (by decide) (by unfold maxLen;omega) (by omega) (by have:=HX8.out.lx;have:=HB9.out.size;omega) w9.heap.size rfl ?_
   intro g8 c8 w10 o10 gr10 hl10 hlt10;have HM:=hid (fun(w11:sJ) (h11:w11=w10.setCell ⟨X,1,none⟩ (.slice (some ⟨g8,0,none⟩) (n+1) c8))=>db.more (r:=⟨brk,true,false,pl,pr⟩) HX8.out HP1.out HP2.out rfl HB9.out o10 gr10 h11)
   have X10:w10.heap[X]? =w8.heap[X]? :=(gr10.block X (sP xl8 HB9.out.size) (fun e=>HOn.out X e.symm rfl)).trans (HB9.out.block X xl8)
   have f10:w10.frozen? ⟨X,1,none⟩=false:=sL w10 X 1 _ _ (X10.trans HX8.out.at_);have c10:w10.cell? ⟨X,1,none⟩=some (.slice vo n vc):=by rw[sH w10 X 1 _ _ _ (X10.trans HX8.out.at_)];rfl
   have HS10:=hid (HC.out w10 fun b hb hne=>(gr10.block b (sP hb HB9.out.size) (fun e=>hne e.symm)).trans (HB9.out.block b hb))
   refine hKK _ _ (fun _=>HC.out _ fun b hb hne=>(gr10.block b (sP hb HB9.out.size) (fun e=>hne e.symm)).trans (HB9.out.block b hb)) ?_
   clear hKK o10 gr10 hl10 hlt10 X10
   iterate 3 (refine am rfl (by kernel_rfl) fun KK hKK=>?_;go_simp;refine hKK _ _ (fun _=>HS10.out) ?_;clear hKK)
   refine am rfl (by kernel_rfl) fun KK hKK=>?_
   go_simp;refine hKK _ _ (fun h=>by cases h) ?_
   clear hKK;refine aP (sY ?_);go_wp2;go_ret;obtain⟨m1,m2,m3⟩:=HM.out _ rfl;exact⟨rfl,HFr.out.trans m2,HFx.out.trans m3,_,_,_,_,m1⟩)
end Pt
end
section
open Ev Go.RowKit
namespace Pt
theorem zfO (B X g nc:Nat) (vs:List sK) (vo:Option Addr) (n vc:Nat) (rs:List Rl) (xs:List sK) (rest rested:Bool) (w:sJ) (s:List UInt8) (hX:db B w X g nc vs vo n vc rs xs rest rested)
  (h1:az 103 (.string ⟨s.toArray⟩) (.string ⟨#[]⟩)):sN Tryz.prog 72 #[.pointer (some ⟨X,0,none⟩),.string ⟨s.toArray⟩] w (LnQ B w X g nc vs rs rest rested):=by
 have HX:=hid hX;have H1:=hid h1;clear hX h1;go_enter Tryz.func72,Tryz.ntmps72;go_wp2_with fail;refine(H1.out w).mono ?_;rintro e w1 ⟨rfl,b1⟩;have HX1:=hid (HX.out.below b1);have HB1:=hid b1;clear b1;go_wp2;go_ret;exact⟨rfl,.of (.of HB1.out) (by have:=ae HX.out.at_;have:=HX.out.lx;omega),.of (.of HB1.out),vo,n,vc,xs,HX1.out⟩
def PrQ (g:Nat) (w:sJ) (rs:List Rl) (rest:Bool) (e:Ending) (w':sJ):Prop:=∃ro rc,e= .returned (.tuple #[.agg #[.slice ro rs.length rc,.bool rest],.int .i64 0,.int .i64 0])/\zbn w' ro rs/\Oth g w w'
theorem db.rules {B:Nat} {w:sJ} {X g nc:Nat} {vs:List sK} {vo:Option Addr} {n vc:Nat} {rs:List Rl} {xs:List sK} {rest rested:Bool} (h:db B w X g nc vs vo n vc rs xs rest rested):zbn w vo rs:=fun j r hj=>by
 obtain⟨l0,l1,l2,r0,r1,r2,a0,a1,a2,a3,a4,a5,a6,a7,a8,p1,p2⟩:=h.rul j r hj;have hjl:=(sR.1 hj).1;have hn:=h.hn
 rcases h.own.2 with ⟨_,e⟩ | ⟨q,cap,cur,k1,k2,k3,k4,k5,k6,k7⟩
 ·omega
 ·cases k1
  have hc:∀i v,i<n * 9->xs[i]? =some v->w.cell? ⟨q,i,none⟩=some v:=fun i v hi hv=>by
   rw[sH w q i cur _ _ k3];rw[<- k7,sV hi] at hv
   simpa using hv
  refine⟨q,0,l0,l1,l2,r0,r1,r2,rfl,ae k3,?_,?_,?_,?_,?_,?_,?_,?_,?_,bW.to _ _ _ _ p1,bW.to _ _ _ _ p2⟩
  all_goals (rw[Nat.zero_add];refine hc _ _ (by omega) ?_;assumption)
set_option maxRecDepth 100000 in
theorem zfi (text:List UInt8) (ht:text.length<=16384) (vs:List sK) (g nc:Nat) (ls:List (List UInt8)) (T:Nat->List Rl) (Rst Rd:Nat->Bool) (w:sJ) (hN:aM w g nc vs) (hl9:ls.length<=1000) (hT:T 0=[]) (hR:Rst 0=true) (hD:Rd 0=false)
  (h1:∀W,aM W g nc vs->sN Tryz.prog 70 #[.slice (some ⟨g,0,none⟩) vs.length nc] W fun e w'=>e= .returned (.bool true)/\aM w' g nc vs/\Oth g W w')
  (h2:∀W:sJ,sN Tryz.prog 71 #[.string ⟨text.toArray⟩] W fun e w'=>∃vo vc,e= .returned (.slice vo ls.length vc)/\zoL W.heap.size w' vo ls/\td W.heap.size W w')
  (h3:∀(j:Nat) (s:List UInt8),ls[j]? =some s->∀(B X:Nat) (vo:Option Addr) (n vc:Nat) (xs:List sK) (W:sJ),db B W X g nc vs vo n vc (T j) xs (Rst j) (Rd j)->sN Tryz.prog 72 #[.pointer (some ⟨X,0,none⟩),.string ⟨s.toArray⟩] W (LnQ B W X g nc vs (T (j+1)) (Rst (j+1)) (Rd (j+1)))):
  sN Tryz.prog 45 #[.string ⟨text.toArray⟩,.slice (some ⟨g,0,none⟩) vs.length nc] w (PrQ g w (T ls.length) (Rst ls.length)):=by
 have HN:=hid hN;have H1:=hid h1;have H2:=hid h2;have H3:=hid h3;have HT:=hid (sZ hT (sZ hR hD));have HG:=hid (show g<w.heap.size by obtain⟨cur,k,_⟩:=hN;exact ae k)
 clear hN h1 h2 h3 hT hR hD;have t1:¬(16384:Int)<(text.length:Int):=by omega
 go_enter Tryz.func45,Tryz.ntmps45;go_wp2_with fail;refine(H1.out _ (HN.out.below below_box)).mono ?_;rintro e w1 ⟨rfl,n1,o1⟩;have HN1:=hid n1;have HO1:=hid ((Oth.of below_box).trans o1);have Z1:w1.heap[w.heap.size]? =some (.cells #[.slice none 0 0,.bool false] 63 (0,0)):=(o1.block _ (by simp) (by have:=HG.out;omega)).trans (heap_alloc_new _ _)
 have HZ1:=hid Z1;clear n1 o1 Z1 H1;go_wp2_with fail;refine(H2.out _).mono ?_;rintro e w3 ⟨lo,lc,rfl,hL,b3⟩;obtain⟨X,hX⟩:∃X,X=w1.heap.size:=⟨_,rfl⟩;have HX3:=hid (show db w.heap.size w3 X g nc vs none 0 0 (T 0) [] (Rst 0) (Rd 0) from by
  rw[HT.out.1,HT.out.2.1,HT.out.2.2,hX];refine db.below (w:=w1.alloc _) ⟨heap_alloc_new _ _,HN1.out.below below_box,sJ.ownsRow_nil _ _ _ _,fun j r hj=>by simp at hj,rfl,HO1.out.size,HG.out⟩ b3)
 have HF3:=hid (show Fr w.heap.size g w w3 from(Fr.of HO1.out (tq _)).trans ((Fr.of (.of below_box) HO1.out.size).trans (Fr.of (.of b3) (by have:=HO1.out.size;simp;omega))))
 have HZ3:=hid ((b3.block _ (by have:=ae HZ1.out;simp;omega)).trans ((td.heap_alloc _ _ _ (ae HZ1.out)).trans HZ1.out))
 have HL3:=hid (show zoL (X+1) w3 lo ls from by rw[hX];simpa using hL)
 have HXw:=hid (show w.heap.size<X from by rw[hX];exact ae HZ1.out)
 rw[<- hX];clear hL b3 hX H2;obtain⟨m,hm⟩:∃m,m=ls.length:=⟨_,rfl⟩;rw[<- hm] at hl9⊢;have HM:=hid hm;clear hm;go_wp2;go_loopw [9] (fun y wr=>∃i:Nat,y= .int .i64 i/\i<=m/\Hid (∃vo n vc xs,db w.heap.size wr X g nc vs vo n vc (T i) xs (Rst i) (Rd i))/\Hid (Fr w.heap.size g w wr)/\Hid (wr.heap[w.heap.size]? =some (.cells #[.slice none 0 0,.bool false] 63 (0,0)))/\Hid (zoL (X+1) wr lo ls)) (fun y _=>m - (intOf y).toNat)
 case atStart=>exact⟨0,rfl,Nat.zero_le _,hid ⟨_,_,_,_,HX3.out⟩,HF3,HZ3,HL3⟩
 case round=>
  clear HX3 HF3 HZ3 HL3;obtain⟨i,rfl,hi,HX,HF,HZ,HL⟩:=hrel;obtain⟨vo,n,vc,xs,hx⟩:=HX.out
  by_cases hlt:i<m
  ·have i0:(0:Int)<=(i:Int):=by omega
   have i1:(i:Int)<(m:Int):=by omega
   have hil:i<ls.length:=by have:=HM.out;omega
   obtain⟨b,o,c,fr,rfl,hb,hh,hc⟩:=HL.out i ls[i] (sO hil);have c1:wr.cell? ⟨b,o+i,none⟩=some (.string ⟨(ls[i]).toArray⟩):=by rw[sH wr b _ c _ _ hh];exact hc
   have HLn:=hid (H3.out i ls[i] (sO hil) w.heap.size X vo n vc xs wr hx);obtain⟨s,hs⟩:∃s,s=ls[i]:=⟨_,rfl⟩;rw[<- hs] at c1 HLn;clear hh hc hs hb hx;go_wp2_with fail;refine HLn.out.mono ?_;rintro e w4 ⟨rfl,f4,x4,r4⟩;have HX4:=hid r4;have HF4:=hid (HF.out.trans f4);have HZ4:=hid (x4 _ _ HZ.out (by have:=HG.out;omega) (by have:=HXw.out;omega) (fun c fr e=>by cases e))
   have HL4:=hid (show zoL (X+1) w4 (some ⟨b,o,none⟩) ls from fun j s hj=>by
    obtain⟨b2,o2,c2,fr2,k1,k2,k3,k4⟩:=HL.out j s hj;exact⟨b2,o2,c2,fr2,k1,k2,x4 _ _ k3 (by have:=HG.out;have:=HXw.out;omega) (by omega) (fun c fr e=>by cases e),k4⟩)
   clear f4 x4 r4 c1 HLn;go_wp2;go_roundw
   case rel=>exact⟨i+1,by go_num,by omega,HX4,HF4,HZ4,HL4⟩
   case measure=>simp[intOf];omega
  ·have i1:¬(i:Int)<(m:Int):=by omega
   have e:i=m:=by omega
   subst e;have HXx:=hid hx;have x1:wr.cell? ⟨X,1,none⟩=some (.slice vo n vc):=by rw[sH wr X 1 _ _ _ hx.at_];rfl
   have x2:wr.cell? ⟨X,2,none⟩=some (.bool (Rst i)):=by rw[sH wr X 2 _ _ _ hx.at_];rfl
   have z0:wr.cell? ⟨w.heap.size,0,none⟩=some (.slice none 0 0):=by rw[sH wr _ 0 _ _ _ HZ.out];rfl
   have z1:wr.cell? ⟨w.heap.size,1,none⟩=some (.bool false):=by rw[sH wr _ 1 _ _ _ HZ.out];rfl
   have f0:=sL wr _ 0 _ _ HZ.out;have f1:=sL wr _ 1 _ _ HZ.out;clear hx;go_wp2;obtain⟨w5,hw5⟩:∃w5,w5=(wr.setCell ⟨w.heap.size,0,none⟩ (.slice vo n vc)).setCell ⟨w.heap.size,1,none⟩ (.bool (Rst i)):=⟨_,rfl⟩;rw[<- hw5];have k5:dd w.heap.size wr w5:=by rw[hw5];exact(dd.set _ 0 wr _).trans (dd.set _ 1 _ _)
   have z5:w5.heap[w.heap.size]? =some (.cells #[.slice vo n vc,.bool (Rst i)] 63 (0,0)):=by
    have h0:=sM wr w.heap.size 0 _ _ (.slice vo n vc) HZ.out;rw[hw5,sM _ w.heap.size 1 _ _ _ h0]
    rfl
   have y0:w5.cell? ⟨w.heap.size,0,none⟩=some (.slice vo n vc):=by rw[sH w5 _ 0 _ _ _ z5];rfl
   have y1:w5.cell? ⟨w.heap.size,1,none⟩=some (.bool (Rst i)):=by rw[sH w5 _ 1 _ _ _ z5];rfl
   refine bodyPost_ret (v:=.tuple #[.agg #[.slice vo n vc,.bool (Rst i)],.int .i64 0,.int .i64 0]) ?_ rfl ?_
   ·simp[results,Tryz.f45,go_sem,y0,y1]
   ·rw[<- HM.out]
    refine⟨vo,vc,by rw[HXx.out.hn],?_,?_⟩
    ·have r5:db w.heap.size w5 X g nc vs vo n vc (T i) xs (Rst i) (Rd i):=by
      refine⟨(k5.block X (by have:=HXw.out;omega)).trans HXx.out.at_,?_,⟨HXx.out.own.1,HXx.out.own.2.imp (fun e=>e) fun⟨q,cap,cur,c1,c2,c3,c4⟩=>⟨q,cap,cur,c1,c2,(k5.block q (fun e=>by rw[e,HZ.out] at c3;cases c3)).trans c3,c4⟩⟩,HXx.out.rul.kt (fun b c t fr hb ht=>(k5.block b (fun e=>by
       rw[e,HZ.out] at hb
       cases hb
       rcases ht with ht | ht<;>cases ht)).trans hb),HXx.out.hn,HXx.out.lx,HXx.out.lg⟩
      obtain⟨cur,h1,h2⟩:=HXx.out.nm;exact⟨cur,(k5.block g (by have:=HG.out;omega)).trans h1,h2⟩
     exact r5.rules
    ·exact⟨k5.os.trans HF.out.os,k5.tape.trans HF.out.tape,k5.output.trans HF.out.output,by rw[k5.size];exact HF.out.size,fun b hb hne=>(k5.block b (by omega)).trans (HF.out.block b hb hne)⟩
end Pt
end
section
open Ev Go.RowKit
namespace Pt
def ah:List sK:=[.string ⟨#[79,116,104,101,114]⟩,.string ⟨#[66,107]⟩,.string ⟨#[67,114]⟩,.string ⟨#[76,102]⟩,.string ⟨#[83,112]⟩,.string ⟨#[90,119]⟩,.string ⟨#[87,106]⟩,.string ⟨#[71,108]⟩,.string ⟨#[67,109]⟩,.string ⟨#[79,112]⟩,.string ⟨#[67,112]⟩,.string ⟨#[67,108]⟩,.string ⟨#[81,117]⟩,.string ⟨#[69,120]⟩,.string ⟨#[73,115]⟩,.string ⟨#[83,121]⟩,.string ⟨#[72,121]⟩,.string ⟨#[66,97]⟩,.string ⟨#[68,97,115,104]⟩,.string ⟨#[73,110]⟩,.string ⟨#[78,117]⟩,.string ⟨#[80,111]⟩,.string ⟨#[80,114]⟩,.string ⟨#[73,100]⟩,.string ⟨#[78,115]⟩,.string ⟨#[82,105]⟩]
theorem ai:bA ah=true:=by kernel_rfl
theorem zdM:zkW (evF Tryz.prog oN 1000000 (ma Tryz.prog oN) 60) 70 ah=true:=by kernel_rfl
theorem lnOv:zvu Tryz.prog (ovN 70 ah):=zso (iw dJ (fun _ hc=>fK mixed dJ hc) 60) ai (by decide) zdM
noncomputable def bj:aG:=evG Tryz.prog oN 1000000 (ma Tryz.prog oN) (ovN 70 ah) 60
theorem av:bv Tryz.prog bj:=py dJ (fun _ hc=>fK mixed dJ hc) lnOv 60
def zmX:aw:=.mk 1 [2] []
def zrA:ByteArray:=⟨#[67,114]⟩
def zmV:aw:=.mk 1 [3] []
def zrz:ByteArray:=⟨#[76,102]⟩
def zmJ:aw:=.mk 1 [1,2,3] []
def zry:ByteArray:=⟨#[91,66,107,32,67,114,32,76,102,93]⟩
def bU:aw:=.mk 0 [] []
def zrx:ByteArray:=⟨#[]⟩
def zmm:aw:=.mk 1 [1,2,3,4,5] []
def zrw:ByteArray:=⟨#[91,66,107,32,67,114,32,76,102,32,83,112,32,90,119,93]⟩
def zmb:aw:=.mk 2 [] [(.mk 1 [5] []),(.mk 4 [] [(.mk 1 [4] [])])]
def zrv:ByteArray:=⟨#[90,119,32,83,112,42]⟩
def zlZ:aw:=.mk 1 [0,6,7,8,9,10,11,12,13,14,15,16,17,18,19,20,21,22,23,24,25] []
def zru:ByteArray:=⟨#[91,94,66,107,32,67,114,32,76,102,32,83,112,32,90,119,93]⟩
def zlX:aw:=.mk 1 [8] []
def zrt:ByteArray:=⟨#[67,109]⟩
def zlV:aw:=.mk 1 [6] []
def zrs:ByteArray:=⟨#[87,106]⟩
def zlT:aw:=.mk 2 [] [(.mk 1 [6] []),(.mk 4 [] [(.mk 1 [8] [])])]
def zrr:ByteArray:=⟨#[87,106,32,67,109,42]⟩
def zdL:aw:=.mk 2 [] [(.mk 1 [7] []),(.mk 4 [] [(.mk 1 [8] [])])]
def zmU:ByteArray:=⟨#[71,108,32,67,109,42]⟩
def zdJ:aw:=.mk 2 [] [(.mk 1 [0,1,2,3,5,6,7,9,10,11,12,13,14,15,18,19,20,21,22,23,24,25] []),(.mk 4 [] [(.mk 1 [8] [])])]
def zmT:ByteArray:=⟨#[91,94,83,112,32,66,97,32,72,121,32,67,109,93,32,67,109,42]⟩
def mI:aw:=.mk 1 [7] []
def zmS:ByteArray:=⟨#[71,108]⟩
def mG:aw:=.mk 2 [] [(.mk 1 [8] []),(.mk 4 [] [(.mk 1 [8] [])])]
def zmR:ByteArray:=⟨#[32,67,109,32,67,109,42]⟩
def zdG:aw:=.mk 1 [10,11,13,14,15] []
def zmQ:ByteArray:=⟨#[91,67,108,32,67,112,32,69,120,32,73,115,32,83,121,93]⟩
def zdE:aw:=.mk 2 [] [(.mk 1 [9] []),(.mk 4 [] [(.mk 1 [8] [])]),(.mk 4 [] [(.mk 1 [4] [])])]
def zmP:ByteArray:=⟨#[79,112,32,67,109,42,32,83,112,42]⟩
def zdC:aw:=.mk 2 [] [(.mk 1 [12] []),(.mk 4 [] [(.mk 1 [8] [])]),(.mk 4 [] [(.mk 1 [4] [])])]
def zmO:ByteArray:=⟨#[81,117,32,67,109,42,32,83,112,42]⟩
def mF:aw:=.mk 1 [9] []
def zmN:ByteArray:=⟨#[79,112]⟩
def zdA:aw:=.mk 2 [] [(.mk 1 [10,11] []),(.mk 4 [] [(.mk 1 [8] [])]),(.mk 4 [] [(.mk 1 [4] [])])]
def zmM:ByteArray:=⟨#[91,67,108,32,67,112,93,32,67,109,42,32,83,112,42]⟩
def zdy:aw:=.mk 1 [24] []
def zmL:ByteArray:=⟨#[78,115]⟩
def zdw:aw:=.mk 2 [] [(.mk 1 [18] []),(.mk 4 [] [(.mk 1 [8] [])]),(.mk 4 [] [(.mk 1 [4] [])])]
def zmI:ByteArray:=⟨#[68,97,115,104,32,67,109,42,32,83,112,42]⟩
def zdu:aw:=.mk 1 [18] []
def zmH:ByteArray:=⟨#[68,97,115,104]⟩
def zds:aw:=.mk 1 [4] []
def zmG:ByteArray:=⟨#[83,112]⟩
def zdq:aw:=.mk 1 [12] []
def zmF:ByteArray:=⟨#[81,117]⟩
def zdo:aw:=.mk 2 [] [(.mk 1 [12] []),(.mk 4 [] [(.mk 1 [8] [])])]
def zmE:ByteArray:=⟨#[81,117,32,67,109,42]⟩
def zdm:aw:=.mk 1 [16,17,24] []
def zmD:ByteArray:=⟨#[91,66,97,32,72,121,32,78,115,93]⟩
def zdk:aw:=.mk 1 [19] []
def zmC:ByteArray:=⟨#[73,110]⟩
def ij:aw:=.mk 2 [] [(.mk 1 [0] []),(.mk 4 [] [(.mk 1 [8] [])])]
def zmB:ByteArray:=⟨#[79,116,104,101,114,32,67,109,42]⟩
def mD:aw:=.mk 1 [20] []
def zmA:ByteArray:=⟨#[78,117]⟩
def zdi:aw:=.mk 2 [] [(.mk 1 [20] []),(.mk 4 [] [(.mk 1 [8] [])])]
def zmz:ByteArray:=⟨#[78,117,32,67,109,42]⟩
def eZ:aw:=.mk 1 [0] []
def zmx:ByteArray:=⟨#[79,116,104,101,114]⟩
def zdg:aw:=.mk 2 [] [(.mk 1 [22] []),(.mk 4 [] [(.mk 1 [8] [])])]
def zmw:ByteArray:=⟨#[80,114,32,67,109,42]⟩
def zde:aw:=.mk 1 [23] []
def zmv:ByteArray:=⟨#[73,100]⟩
def zdc:aw:=.mk 2 [] [(.mk 1 [23] []),(.mk 4 [] [(.mk 1 [8] [])])]
def zmu:ByteArray:=⟨#[73,100,32,67,109,42]⟩
def zda:aw:=.mk 1 [21] []
def zmt:ByteArray:=⟨#[80,111]⟩
def zcY:aw:=.mk 2 [] [(.mk 1 [21,22] []),(.mk 4 [] [(.mk 1 [8] [])])]
def zms:ByteArray:=⟨#[91,80,114,32,80,111,93,32,67,109,42]⟩
def zcW:aw:=.mk 1 [21,22] []
def zmr:ByteArray:=⟨#[91,80,114,32,80,111,93]⟩
def qU:aw:=.mk 2 [] [(.mk 1 [20] []),(.mk 4 [] [(.mk 1 [8] [])]),(.mk 6 [] [(.mk 1 [14,15] [])]),(.mk 4 [] [(.mk 1 [8] [])]),(.mk 6 [] [(.mk 1 [10,11] [])]),(.mk 4 [] [(.mk 1 [8] [])])]
def zmq:ByteArray:=⟨#[78,117,32,67,109,42,32,91,73,115,32,83,121,93,63,32,67,109,42,32,91,67,108,32,67,112,93,63,32,67,109,42]⟩
def zcT:aw:=.mk 1 [21,22] []
def zmp:ByteArray:=⟨#[91,80,111,32,80,114,93]⟩
def zcR:aw:=.mk 2 [] [(.mk 1 [21,22] []),(.mk 4 [] [(.mk 1 [8] [])])]
def zmo:ByteArray:=⟨#[91,80,111,32,80,114,93,32,67,109,42]⟩
def oY:aw:=.mk 2 [] [(.mk 6 [] [(.mk 3 [] [(.mk 1 [9] []),(.mk 1 [16] [])])]),(.mk 1 [20] [])]
def zml:ByteArray:=⟨#[40,79,112,32,124,32,72,121,41,63,32,78,117]⟩
def zcO:aw:=.mk 2 [] [(.mk 1 [14,15,16,20] []),(.mk 4 [] [(.mk 1 [8] [])])]
def zmk:ByteArray:=⟨#[91,72,121,32,73,115,32,83,121,32,78,117,93,32,67,109,42]⟩
def zcM:aw:=.mk 2 [] [(.mk 1 [14] []),(.mk 4 [] [(.mk 1 [8] [])])]
def zmj:ByteArray:=⟨#[73,115,32,67,109,42]⟩
def zcK:aw:=.mk 2 [] [(.mk 1 [0,20] []),(.mk 4 [] [(.mk 1 [8] [])])]
def zmi:ByteArray:=⟨#[91,79,116,104,101,114,32,78,117,93,32,67,109,42]⟩
def zcI:aw:=.mk 2 [] [(.mk 1 [10] []),(.mk 4 [] [(.mk 1 [8] [])])]
def zmh:ByteArray:=⟨#[67,112,32,67,109,42]⟩
def zcG:aw:=.mk 1 [0,20] []
def zmg:ByteArray:=⟨#[91,79,116,104,101,114,32,78,117,93]⟩
def qT:aw:=.mk 2 [] [(.mk 4 [] [(.mk 1 [8] [])]),(.mk 4 [] [(.mk 2 [] [(.mk 1 [25] []),(.mk 4 [] [(.mk 1 [8] [])]),(.mk 1 [25] []),(.mk 4 [] [(.mk 1 [8] [])])])]),(.mk 1 [25] []),(.mk 4 [] [(.mk 1 [8] [])])]
def zmf:ByteArray:=⟨#[32,67,109,42,32,40,82,105,32,67,109,42,32,82,105,32,67,109,42,41,42,32,82,105,32,67,109,42]⟩
def mB:aw:=.mk 1 [25] []
def zme:ByteArray:=⟨#[82,105]⟩
def oX:aw:=.mk 2 [] [(.mk 1 [0,1,2,3,4,5,6,7,9,10,11,12,13,14,15,16,17,18,19,20,21,22,23,24] []),(.mk 4 [] [(.mk 1 [8] [])]),(.mk 4 [] [(.mk 2 [] [(.mk 1 [25] []),(.mk 4 [] [(.mk 1 [8] [])]),(.mk 1 [25] []),(.mk 4 [] [(.mk 1 [8] [])])])]),(.mk 1 [25] []),(.mk 4 [] [(.mk 1 [8] [])])]
def zmd:ByteArray:=⟨#[91,94,82,105,32,67,109,93,32,67,109,42,32,40,82,105,32,67,109,42,32,82,105,32,67,109,42,41,42,32,82,105,32,67,109,42]⟩
end Pt
end
section
open Go.RowKit
namespace Pt
def qa:List Rl:=[
 ⟨false,false,false,zmX,zmV⟩,
 ⟨true,false,false,zmJ,bU⟩,
 ⟨false,false,false,bU,zmm⟩,
 ⟨true,false,false,zmb,bU⟩,
 ⟨false,false,false,zlZ,zlX⟩,
 ⟨false,false,false,bU,zlV⟩,
 ⟨false,false,false,zlT,bU⟩,
 ⟨false,false,false,zdL,bU⟩,
 ⟨false,false,false,zdJ,mI⟩,
 ⟨false,true,false,mG,mI⟩,
 ⟨false,false,false,bU,zdG⟩,
 ⟨false,false,false,zdE,bU⟩,
 ⟨false,false,false,zdC,mF⟩,
 ⟨false,false,false,zdA,zdy⟩,
 ⟨false,false,false,zdw,zdu⟩,
 ⟨true,false,false,zds,bU⟩,
 ⟨false,false,false,bU,zdq⟩,
 ⟨false,false,false,zdo,bU⟩,
 ⟨false,false,false,bU,zdm⟩,
 ⟨false,false,false,bU,zdk⟩,
 ⟨false,false,false,ij,mD⟩,
 ⟨false,false,false,zdi,eZ⟩,
 ⟨false,false,false,zdg,zde⟩,
 ⟨false,false,false,zdc,zda⟩,
 ⟨false,false,false,zcY,eZ⟩,
 ⟨false,false,false,ij,zcW⟩,
 ⟨false,false,false,qU,zcT⟩,
 ⟨false,false,false,zcR,oY⟩,
 ⟨false,false,false,zcO,mD⟩,
 ⟨false,false,false,ij,eZ⟩,
 ⟨false,false,false,zcM,eZ⟩,
 ⟨false,false,false,zcK,mF⟩,
 ⟨false,false,false,zcI,zcG⟩,
 ⟨false,true,false,qT,mB⟩,
 ⟨false,false,false,oX,mB⟩]
end Pt
end
section
open Ev Go.RowKit
namespace Pt
theorem db.rest {B:Nat} {w w1 w2:sJ} {X g nc:Nat} {vs:List sK} {vo:Option Addr} {n vc:Nat} {rs:List Rl} {xs:List sK} {rest brk:Bool} (h:db B w X g nc vs vo n vc rs xs rest false) (h1:w1=w.setCell ⟨X,2,none⟩ (.bool brk)) (h2:w2=w1.setCell ⟨X,3,none⟩ (.bool true)):
  db B w2 X g nc vs vo n vc rs xs brk true/\Fr B g w w2/\Fx g X w w2:=by
 have lx:=h.lx;have lg:=h.lg;have k1:dd X w w1:=by rw[h1];exact dd.set X 2 w _
 have k2:dd X w w2:=by rw[h2];exact k1.trans (dd.set X 3 w1 _)
 have e1:w1.heap[X]? =some (.cells #[.slice (some ⟨g,0,none⟩) vs.length nc,.slice vo n vc,.bool brk,.bool false] 87 (0,0)):=by rw[h1,sM w X 2 _ _ _ h.at_];rfl
 have e2:w2.heap[X]? =some (.cells #[.slice (some ⟨g,0,none⟩) vs.length nc,.slice vo n vc,.bool brk,.bool true] 87 (0,0)):=by rw[h2,sM w1 X 3 _ _ _ e1];rfl
 refine⟨⟨e2,?_,⟨h.own.1,h.own.2.imp (fun e=>e) fun⟨q,cap,cur,c1,c2,c3,c4⟩=>⟨q,cap,cur,c1,c2,(k2.block q (fun e=>by
  rw[e,h.at_] at c3
  cases c3)).trans c3,c4⟩⟩,h.rul.kt (fun b c t fr hb ht=>(k2.block b (fun e=>by
  rw[e,h.at_] at hb
  cases hb
  rcases ht with ht | ht<;>cases ht)).trans hb),h.hn,lx,lg⟩,⟨k2.os,k2.tape,k2.output,by rw[k2.size];exact tq _,fun b hb _=>k2.block b (by omega)⟩,fun b o hb _ hne _=>(k2.block b hne).trans hb⟩
 obtain⟨cur,a1,a2⟩:=h.nm;exact⟨cur,(k2.block g (by omega)).trans a1,a2⟩
set_option maxRecDepth 100000 in
theorem zjG (B X g nc:Nat) (vs:List sK) (vo:Option Addr) (n vc:Nat) (rs:List Rl) (xs:List sK) (rest:Bool) (w:sJ) (s p:List UInt8) (k:Nat) (brk:Bool) (hX:db B w X g nc vs vo n vc rs xs rest false)
  (h1:az 103 (.string ⟨s.toArray⟩) (.string ⟨p.toArray⟩)) (h2:az 104 (.string ⟨p.toArray⟩) (.int .i64 k)) (hk:k<p.length) (hp9:p.length<=10000) (hb:((p[k].toNat:Int)==47)=brk)
  (h3:az 105 (.string ((⟨p.toArray⟩:ByteArray).extract 0 k)) (.string ⟨#[114,101,115,116]⟩)) (h4:az 105 (.string ((⟨p.toArray⟩:ByteArray).extract (k+1) p.length)) (.string ⟨#[]⟩)):
  sN Tryz.prog 72 #[.pointer (some ⟨X,0,none⟩),.string ⟨s.toArray⟩] w (LnQ B w X g nc vs rs brk true):=by
 have HX:=hid hX;have H1:=hid h1;have H2:=hid h2;have H3:=hid h3;have H4:=hid h4;clear hX h1 h2 h3 h4;go_enter Tryz.func72,Tryz.ntmps72;go_wp2_with fail;refine(H1.out w).mono ?_;rintro e w1 ⟨rfl,b1⟩;have HX1:=hid (HX.out.below b1);have HB1:=hid b1;clear b1;have p0:p.isEmpty=false:=by cases p with
  | nil=>simp at hk
  | cons a b=>rfl
 have p1:p≠ []:=by cases p with
  | nil=>simp at hk
  | cons a b=>simp
 go_wp2_with fail;refine(H2.out w1).mono ?_;rintro e w2 ⟨rfl,b2⟩;have HX2:=hid (HX1.out.below b2);have HB2:=hid (HB1.out.trans (b2.mono HB1.out.size));clear b2 HX1 HB1;have x3:w2.cell? ⟨X,3,none⟩=some (.bool false):=by rw[sH w2 X 3 _ _ _ HX2.out.at_];rfl
 have k0:(0:Int)<=(k:Int):=by omega
 have k1:(k:Int)<(p.length:Int):=by omega
 have k2:¬(k:Int)<0:=by omega
 have d1:decide ((k:Int)<0)=false:=decide_eq_false (by omega)
 have k3:(k:Int)<=(p.length:Int):=by omega
 have k4:(k:Int)+1<=(p.length:Int):=by omega
 go_wp2_with fail;have e9:((((⟨p.toArray⟩:ByteArray)[k]'(by show k<p.toArray.size;simpa using hk)).toNat:Int)==47)=brk:=hb
 rw[e9];clear e9 hb;have e8:ti.wrap ((k:Int)+1)=(k:Int)+1:=by unfold ta tc sX;simp;omega
 have k5:(0:Int)<=(k:Int)+1:=by omega
 refine ak [(0,true),(1,true),(2,true),(4,true),(5,true),(6,true),(7,true),(3,false),(8,false),(9,false),(10,false)] (fun _=>True) (fun _=>false) (by kernel_rfl) (by kernel_rfl) (fun j hj=>by cases hj) rfl (by kernel_rfl) trivial ?_
 iterate 7 (refine au ?_ rfl (by kernel_rfl) (fun w' hS=>?_) ?_;(rotate_left;(go_simp;with_reducible rfl);rotate_left))
 refine am rfl (by kernel_rfl) fun KK hKK=>?_
 go_simp;refine(H3.out w2.drew).mono ?_;rintro e w3 ⟨rfl,b3⟩;have HB3:=hid (show td w2.heap.size w2 w3 from⟨b3.os,b3.tape,b3.output,b3.size,b3.block⟩)
 clear b3;refine hKK _ _ (fun _=>trivial) ?_
 clear hKK;refine am rfl (by kernel_rfl) fun KK hKK=>?_
 go_simp;refine(H4.out w3).mono ?_;rintro e w4 ⟨rfl,b4⟩;have HB4:=hid (show td w2.heap.size w2 w4 from HB3.out.trans (b4.mono HB3.out.size))
 clear b4 HB3;refine hKK _ _ (fun _=>trivial) ?_
 clear hKK;refine am rfl (by kernel_rfl) fun KK hKK=>?_
 go_simp;refine hKK _ _ (fun _=>trivial) ?_
 clear hKK;refine am rfl (by kernel_rfl) fun KK hKK=>?_
 go_simp;refine hKK _ _ (fun _=>trivial) ?_
 clear hKK;refine aP (sY ?_);have HX4:=hid (HX2.out.below HB4.out);have HBw:=hid (HB2.out.trans (HB4.out.mono HB2.out.size));have HF4:=hid (show Fr B g w w4 from .of (.of HBw.out) (by have:=ae HX.out.at_;have:=HX.out.lx;omega))
 have HFx:=hid (show Fx g X w w4 from .of (.of HBw.out))
 have y2:w4.cell? ⟨X,2,none⟩=some (.bool rest):=by rw[sH w4 X 2 _ _ _ HX4.out.at_];rfl
 have f2:w4.frozen? ⟨X,2,none⟩=false:=sL w4 X 2 _ _ HX4.out.at_;have HR:=hid (fun(u1 u2:sJ) (e1:u1=w4.setCell ⟨X,2,none⟩ (.bool brk)) (e2:u2=u1.setCell ⟨X,3,none⟩ (.bool true))=>db.rest HX4.out e1 e2)
 have m3:(w4.setCell ⟨X,2,none⟩ (.bool brk)).cell? ⟨X,3,none⟩=some (.bool false):=by rw[sH _ X 3 _ _ _ (sM w4 X 2 _ _ (.bool brk) HX4.out.at_)];rfl
 have m4:(w4.setCell ⟨X,2,none⟩ (.bool brk)).frozen? ⟨X,3,none⟩=false:=sL _ X 3 _ _ (sM w4 X 2 _ _ (.bool brk) HX4.out.at_);have xl:X<w4.heap.size:=ae HX4.out.at_;clear x3 HX2 HB2 HB4 k2 k3 k4 k5 d1 e8 p0 p1 HX;go_wp2;go_ret;obtain⟨r1,r2,r3⟩:=HR.out _ _ rfl rfl;exact⟨rfl,HF4.out.trans r2,HFx.out.trans r3,_,_,_,_,r1⟩
end Pt
end
section
open Ev Go.RowKit
namespace Pt
theorem zma:bi bj 106 zrv ah zmb=true:=by kernel_rfl
theorem zfI (g nc:Nat) (w:sJ) (hN:aM w g nc ah):sN Tryz.prog 106 #[.string zrv,.slice (some ⟨g,0,none⟩) 26 nc] w (dH g nc ah w zmb):=aj av ai zma g nc w hN
theorem zjA:bi bj 106 zmR ah mG=true:=by kernel_rfl
theorem zdH (g nc:Nat) (w:sJ) (hN:aM w g nc ah):sN Tryz.prog 106 #[.string zmR,.slice (some ⟨g,0,none⟩) 26 nc] w (dH g nc ah w mG):=aj av ai zjA g nc w hN
theorem zjy:bi bj 106 zmP ah zdE=true:=by kernel_rfl
theorem zdD (g nc:Nat) (w:sJ) (hN:aM w g nc ah):sN Tryz.prog 106 #[.string zmP,.slice (some ⟨g,0,none⟩) 26 nc] w (dH g nc ah w zdE):=aj av ai zjy g nc w hN
theorem zju:bi bj 106 zmL ah zdy=true:=by kernel_rfl
theorem zdx (g nc:Nat) (w:sJ) (hN:aM w g nc ah):sN Tryz.prog 106 #[.string zmL,.slice (some ⟨g,0,none⟩) 26 nc] w (dH g nc ah w zdy):=aj av ai zju g nc w hN
theorem zjs:bi bj 106 zmH ah zdu=true:=by kernel_rfl
theorem zdt (g nc:Nat) (w:sJ) (hN:aM w g nc ah):sN Tryz.prog 106 #[.string zmH,.slice (some ⟨g,0,none⟩) 26 nc] w (dH g nc ah w zdu):=aj av ai zjs g nc w hN
theorem zji:bi bj 106 zmw ah zdg=true:=by kernel_rfl
theorem zdf (g nc:Nat) (w:sJ) (hN:aM w g nc ah):sN Tryz.prog 106 #[.string zmw,.slice (some ⟨g,0,none⟩) 26 nc] w (dH g nc ah w zdg):=aj av ai zji g nc w hN
theorem zjh:bi bj 106 zmv ah zde=true:=by kernel_rfl
theorem zdd (g nc:Nat) (w:sJ) (hN:aM w g nc ah):sN Tryz.prog 106 #[.string zmv,.slice (some ⟨g,0,none⟩) 26 nc] w (dH g nc ah w zde):=aj av ai zjh g nc w hN
theorem ziW:bi bj 106 zmi ah zcK=true:=by kernel_rfl
theorem zcJ (g nc:Nat) (w:sJ) (hN:aM w g nc ah):sN Tryz.prog 106 #[.string zmi,.slice (some ⟨g,0,none⟩) 26 nc] w (dH g nc ah w zcK):=aj av ai ziW g nc w hN
theorem ziR:bi bj 106 zmd ah oX=true:=by kernel_rfl
theorem zcD (g nc:Nat) (w:sJ) (hN:aM w g nc ah):sN Tryz.prog 106 #[.string zmd,.slice (some ⟨g,0,none⟩) 26 nc] w (dH g nc ah w oX):=aj av ai ziR g nc w hN
end Pt
end
section
open Ev Go.RowKit
namespace Pt
theorem zmK:bi bj 106 zrz ah zmV=true:=by kernel_rfl
theorem zfL (g nc:Nat) (w:sJ) (hN:aM w g nc ah):sN Tryz.prog 106 #[.string zrz,.slice (some ⟨g,0,none⟩) 26 nc] w (dH g nc ah w zmV):=aj av ai zmK g nc w hN
theorem zmn:bi bj 106 zrx ah bU=true:=by kernel_rfl
theorem aZ (g nc:Nat) (w:sJ) (hN:aM w g nc ah):sN Tryz.prog 106 #[.string zrx,.slice (some ⟨g,0,none⟩) 26 nc] w (dH g nc ah w bU):=aj av ai zmn g nc w hN
theorem zjD:bi bj 106 zmU ah zdL=true:=by kernel_rfl
theorem zdK (g nc:Nat) (w:sJ) (hN:aM w g nc ah):sN Tryz.prog 106 #[.string zmU,.slice (some ⟨g,0,none⟩) 26 nc] w (dH g nc ah w zdL):=aj av ai zjD g nc w hN
theorem zjB:bi bj 106 zmS ah mI=true:=by kernel_rfl
theorem mH (g nc:Nat) (w:sJ) (hN:aM w g nc ah):sN Tryz.prog 106 #[.string zmS,.slice (some ⟨g,0,none⟩) 26 nc] w (dH g nc ah w mI):=aj av ai zjB g nc w hN
theorem zjv:bi bj 106 zmM ah zdA=true:=by kernel_rfl
theorem zdz (g nc:Nat) (w:sJ) (hN:aM w g nc ah):sN Tryz.prog 106 #[.string zmM,.slice (some ⟨g,0,none⟩) 26 nc] w (dH g nc ah w zdA):=aj av ai zjv g nc w hN
theorem zjn:bi bj 106 zmC ah zdk=true:=by kernel_rfl
theorem zdj (g nc:Nat) (w:sJ) (hN:aM w g nc ah):sN Tryz.prog 106 #[.string zmC,.slice (some ⟨g,0,none⟩) 26 nc] w (dH g nc ah w zdk):=aj av ai zjn g nc w hN
theorem zjc:bi bj 106 zmq ah qU=true:=by kernel_rfl
theorem zcU (g nc:Nat) (w:sJ) (hN:aM w g nc ah):sN Tryz.prog 106 #[.string zmq,.slice (some ⟨g,0,none⟩) 26 nc] w (dH g nc ah w qU):=aj av ai zjc g nc w hN
theorem zja:bi bj 106 zmo ah zcR=true:=by kernel_rfl
theorem zcQ (g nc:Nat) (w:sJ) (hN:aM w g nc ah):sN Tryz.prog 106 #[.string zmo,.slice (some ⟨g,0,none⟩) 26 nc] w (dH g nc ah w zcR):=aj av ai zja g nc w hN
theorem ziX:bi bj 106 zmj ah zcM=true:=by kernel_rfl
theorem zcL (g nc:Nat) (w:sJ) (hN:aM w g nc ah):sN Tryz.prog 106 #[.string zmj,.slice (some ⟨g,0,none⟩) 26 nc] w (dH g nc ah w zcM):=aj av ai ziX g nc w hN
theorem ziU:bi bj 106 zmg ah zcG=true:=by kernel_rfl
theorem zcF (g nc:Nat) (w:sJ) (hN:aM w g nc ah):sN Tryz.prog 106 #[.string zmg,.slice (some ⟨g,0,none⟩) 26 nc] w (dH g nc ah w zcG):=aj av ai ziU g nc w hN
end Pt
end
section
open Ev Go.RowKit
namespace Pt
theorem zjz:bi bj 106 zmQ ah zdG=true:=by kernel_rfl
theorem zdF (g nc:Nat) (w:sJ) (hN:aM w g nc ah):sN Tryz.prog 106 #[.string zmQ,.slice (some ⟨g,0,none⟩) 26 nc] w (dH g nc ah w zdG):=aj av ai zjz g nc w hN
theorem zjr:bi bj 106 zmG ah zds=true:=by kernel_rfl
theorem zdr (g nc:Nat) (w:sJ) (hN:aM w g nc ah):sN Tryz.prog 106 #[.string zmG,.slice (some ⟨g,0,none⟩) 26 nc] w (dH g nc ah w zds):=aj av ai zjr g nc w hN
theorem zjo:bi bj 106 zmD ah zdm=true:=by kernel_rfl
theorem zdl (g nc:Nat) (w:sJ) (hN:aM w g nc ah):sN Tryz.prog 106 #[.string zmD,.slice (some ⟨g,0,none⟩) 26 nc] w (dH g nc ah w zdm):=aj av ai zjo g nc w hN
theorem zjk:bi bj 106 zmz ah zdi=true:=by kernel_rfl
theorem zdh (g nc:Nat) (w:sJ) (hN:aM w g nc ah):sN Tryz.prog 106 #[.string zmz,.slice (some ⟨g,0,none⟩) 26 nc] w (dH g nc ah w zdi):=aj av ai zjk g nc w hN
theorem zjj:bi bj 106 zmx ah eZ=true:=by kernel_rfl
theorem eY (g nc:Nat) (w:sJ) (hN:aM w g nc ah):sN Tryz.prog 106 #[.string zmx,.slice (some ⟨g,0,none⟩) 26 nc] w (dH g nc ah w eZ):=aj av ai zjj g nc w hN
theorem zjf:bi bj 106 zmt ah zda=true:=by kernel_rfl
theorem zcZ (g nc:Nat) (w:sJ) (hN:aM w g nc ah):sN Tryz.prog 106 #[.string zmt,.slice (some ⟨g,0,none⟩) 26 nc] w (dH g nc ah w zda):=aj av ai zjf g nc w hN
theorem zje:bi bj 106 zms ah zcY=true:=by kernel_rfl
theorem zcX (g nc:Nat) (w:sJ) (hN:aM w g nc ah):sN Tryz.prog 106 #[.string zms,.slice (some ⟨g,0,none⟩) 26 nc] w (dH g nc ah w zcY):=aj av ai zje g nc w hN
theorem zjb:bi bj 106 zmp ah zcT=true:=by kernel_rfl
theorem zcS (g nc:Nat) (w:sJ) (hN:aM w g nc ah):sN Tryz.prog 106 #[.string zmp,.slice (some ⟨g,0,none⟩) 26 nc] w (dH g nc ah w zcT):=aj av ai zjb g nc w hN
theorem ziT:bi bj 106 zmf ah qT=true:=by kernel_rfl
theorem zcE (g nc:Nat) (w:sJ) (hN:aM w g nc ah):sN Tryz.prog 106 #[.string zmf,.slice (some ⟨g,0,none⟩) 26 nc] w (dH g nc ah w qT):=aj av ai ziT g nc w hN
end Pt
end
section
open Ev Go.RowKit
namespace Pt
theorem zmW:bi bj 106 zrA ah zmX=true:=by kernel_rfl
theorem zfM (g nc:Nat) (w:sJ) (hN:aM w g nc ah):sN Tryz.prog 106 #[.string zrA,.slice (some ⟨g,0,none⟩) 26 nc] w (dH g nc ah w zmX):=aj av ai zmW g nc w hN
theorem zmc:bi bj 106 zrw ah zmm=true:=by kernel_rfl
theorem zfJ (g nc:Nat) (w:sJ) (hN:aM w g nc ah):sN Tryz.prog 106 #[.string zrw,.slice (some ⟨g,0,none⟩) 26 nc] w (dH g nc ah w zmm):=aj av ai zmc g nc w hN
theorem zlU:bi bj 106 zrs ah zlV=true:=by kernel_rfl
theorem zfF (g nc:Nat) (w:sJ) (hN:aM w g nc ah):sN Tryz.prog 106 #[.string zrs,.slice (some ⟨g,0,none⟩) 26 nc] w (dH g nc ah w zlV):=aj av ai zlU g nc w hN
theorem zlS:bi bj 106 zrr ah zlT=true:=by kernel_rfl
theorem zfE (g nc:Nat) (w:sJ) (hN:aM w g nc ah):sN Tryz.prog 106 #[.string zrr,.slice (some ⟨g,0,none⟩) 26 nc] w (dH g nc ah w zlT):=aj av ai zlS g nc w hN
theorem zjC:bi bj 106 zmT ah zdJ=true:=by kernel_rfl
theorem zdI (g nc:Nat) (w:sJ) (hN:aM w g nc ah):sN Tryz.prog 106 #[.string zmT,.slice (some ⟨g,0,none⟩) 26 nc] w (dH g nc ah w zdJ):=aj av ai zjC g nc w hN
theorem zjx:bi bj 106 zmO ah zdC=true:=by kernel_rfl
theorem zdB (g nc:Nat) (w:sJ) (hN:aM w g nc ah):sN Tryz.prog 106 #[.string zmO,.slice (some ⟨g,0,none⟩) 26 nc] w (dH g nc ah w zdC):=aj av ai zjx g nc w hN
theorem zjq:bi bj 106 zmF ah zdq=true:=by kernel_rfl
theorem zdp (g nc:Nat) (w:sJ) (hN:aM w g nc ah):sN Tryz.prog 106 #[.string zmF,.slice (some ⟨g,0,none⟩) 26 nc] w (dH g nc ah w zdq):=aj av ai zjq g nc w hN
theorem zjg:bi bj 106 zmu ah zdc=true:=by kernel_rfl
theorem zdb (g nc:Nat) (w:sJ) (hN:aM w g nc ah):sN Tryz.prog 106 #[.string zmu,.slice (some ⟨g,0,none⟩) 26 nc] w (dH g nc ah w zdc):=aj av ai zjg g nc w hN
theorem zjd:bi bj 106 zmr ah zcW=true:=by kernel_rfl
theorem zcV (g nc:Nat) (w:sJ) (hN:aM w g nc ah):sN Tryz.prog 106 #[.string zmr,.slice (some ⟨g,0,none⟩) 26 nc] w (dH g nc ah w zcW):=aj av ai zjd g nc w hN
theorem ziZ:bi bj 106 zml ah oY=true:=by kernel_rfl
theorem zcP (g nc:Nat) (w:sJ) (hN:aM w g nc ah):sN Tryz.prog 106 #[.string zml,.slice (some ⟨g,0,none⟩) 26 nc] w (dH g nc ah w oY):=aj av ai ziZ g nc w hN
theorem ziS:bi bj 106 zme ah mB=true:=by kernel_rfl
theorem mA (g nc:Nat) (w:sJ) (hN:aM w g nc ah):sN Tryz.prog 106 #[.string zme,.slice (some ⟨g,0,none⟩) 26 nc] w (dH g nc ah w mB):=aj av ai ziS g nc w hN
end Pt
end
section
open Ev Go.RowKit
namespace Pt
theorem zmy:bi bj 106 zry ah zmJ=true:=by kernel_rfl
theorem zfK (g nc:Nat) (w:sJ) (hN:aM w g nc ah):sN Tryz.prog 106 #[.string zry,.slice (some ⟨g,0,none⟩) 26 nc] w (dH g nc ah w zmJ):=aj av ai zmy g nc w hN
theorem zlY:bi bj 106 zru ah zlZ=true:=by kernel_rfl
theorem zfH (g nc:Nat) (w:sJ) (hN:aM w g nc ah):sN Tryz.prog 106 #[.string zru,.slice (some ⟨g,0,none⟩) 26 nc] w (dH g nc ah w zlZ):=aj av ai zlY g nc w hN
theorem zlW:bi bj 106 zrt ah zlX=true:=by kernel_rfl
theorem zfG (g nc:Nat) (w:sJ) (hN:aM w g nc ah):sN Tryz.prog 106 #[.string zrt,.slice (some ⟨g,0,none⟩) 26 nc] w (dH g nc ah w zlX):=aj av ai zlW g nc w hN
theorem zjw:bi bj 106 zmN ah mF=true:=by kernel_rfl
theorem mE (g nc:Nat) (w:sJ) (hN:aM w g nc ah):sN Tryz.prog 106 #[.string zmN,.slice (some ⟨g,0,none⟩) 26 nc] w (dH g nc ah w mF):=aj av ai zjw g nc w hN
theorem zjt:bi bj 106 zmI ah zdw=true:=by kernel_rfl
theorem zdv (g nc:Nat) (w:sJ) (hN:aM w g nc ah):sN Tryz.prog 106 #[.string zmI,.slice (some ⟨g,0,none⟩) 26 nc] w (dH g nc ah w zdw):=aj av ai zjt g nc w hN
theorem zjp:bi bj 106 zmE ah zdo=true:=by kernel_rfl
theorem zdn (g nc:Nat) (w:sJ) (hN:aM w g nc ah):sN Tryz.prog 106 #[.string zmE,.slice (some ⟨g,0,none⟩) 26 nc] w (dH g nc ah w zdo):=aj av ai zjp g nc w hN
theorem zjm:bi bj 106 zmB ah ij=true:=by kernel_rfl
theorem ig (g nc:Nat) (w:sJ) (hN:aM w g nc ah):sN Tryz.prog 106 #[.string zmB,.slice (some ⟨g,0,none⟩) 26 nc] w (dH g nc ah w ij):=aj av ai zjm g nc w hN
theorem zjl:bi bj 106 zmA ah mD=true:=by kernel_rfl
theorem mC (g nc:Nat) (w:sJ) (hN:aM w g nc ah):sN Tryz.prog 106 #[.string zmA,.slice (some ⟨g,0,none⟩) 26 nc] w (dH g nc ah w mD):=aj av ai zjl g nc w hN
theorem ziY:bi bj 106 zmk ah zcO=true:=by kernel_rfl
theorem zcN (g nc:Nat) (w:sJ) (hN:aM w g nc ah):sN Tryz.prog 106 #[.string zmk,.slice (some ⟨g,0,none⟩) 26 nc] w (dH g nc ah w zcO):=aj av ai ziY g nc w hN
theorem ziV:bi bj 106 zmh ah zcI=true:=by kernel_rfl
theorem zcH (g nc:Nat) (w:sJ) (hN:aM w g nc ah):sN Tryz.prog 106 #[.string zmh,.slice (some ⟨g,0,none⟩) 26 nc] w (dH g nc ah w zcI):=aj av ai ziV g nc w hN
end Pt
end
end Go.Proofs.YtbbapnpdfcgjnaaGreatDoor
