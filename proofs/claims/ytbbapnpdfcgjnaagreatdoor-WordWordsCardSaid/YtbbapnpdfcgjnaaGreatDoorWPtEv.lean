/- PtEv, PtRunWo0, PtWoR, WoMath, WoLoc, PtLine2, PtLine3, PtPs, PtRest, PtRunWo1, PtRunWo2, PtRunWo3, PtRunWo4, PtRunWo5: parts of the proof, joined. -/
import Derived.Test.YtbbapnpdfcgjnaaGreatDoorWPtFun1
import Derived.Test.YtbbapnpdfcgjnaaGreatDoorWPtBas
open Go renaming cell_of_row->sD, World->sI, Value->sK, frozen_of_row->sN, heap_setCell_same->sO, Calls->sP, FuncId->tX
open Bool renaming and_eq_true->sE, or_eq_true->sQ, and_false->tQ, or_true->tV, false_and->ud, false_or->ue, true_and->uf
open Go.World renaming cell?_of_block->sG, block_lt_of_cell?->tJ
open List renaming headD_cons->sH, getD_eq_getElem?_getD->sJ, getElem?_eq_getElem->sL, getElem?_eq_some_iff->sM, dropWhile_cons_of_neg->sT, not_mem_nil->sV, mem_cons->sW, dropWhile_cons_of_pos->sX, mem_singleton->sZ, tail_cons->td, mem_of_getElem?->te, all_eq_true->tf, cons_append->tg, length_pos_iff->ti, getElem?_take_of_lt->tj, dropWhile_append->tq, exists_cons_of_ne_nil->tB, getElem?_append_right->tC, drop_eq_getElem_cons->tD, getElem?_append_left->tE, getLast?_eq_getElem?->tF, head?_eq_getElem?->tL, eq_nil_or_concat->tN, concat_eq_append->tO, mem_range->tP, reverse_append->tR, all_cons->tS, getElem?_drop->tT, mem_reverse->tY, append_inj'->tZ, drop_zero->t7, range->t8, headD_nil->ua
open Nat renaming lt_of_lt_of_le->sR, add_sub_cancel->sS, le_refl->sU, eq_or_lt_of_le->sY, le_of_ble_eq_true->tc, beq->tk, mod_two_eq_zero_or_one->tA, le_trans->tK, ble->ug, le_of_lt->uh, lt_or_ge->ui, add_zero->uj
open Go.Value renaming slice->ta, bool->tU
open Go.IntKind renaming signed->tn, wrap->tu, bits->tw, i64->tG
open Go.NoPanic renaming normal->tp
open And renaming intro->tr
open Go.RowKit renaming Below->tz
open Array renaming toList_inj->tH
open UInt8 renaming toNat_inj->tM
set_option maxHeartbeats 64000000
namespace Go.Proofs.YtbbapnpdfcgjnaaGreatDoor
section
open Ev Go.RowKit
namespace Pt
structure Oth(g:Nat)(w w':sI):Prop where
 os:w'.os=w.os
 tape:w'.tape=w.tape
 output:w'.output=w.output
 size:w.heap.size<=w'.heap.size
 block:∀b,b<w.heap.size->b≠g->w'.heap[b]?=w.heap[b]?
theorem Oth.trans{g:Nat}{w v u:sI}(h:Oth g w v)(k:Oth g v u):Oth g w u:=⟨k.os.trans h.os,k.tape.trans h.tape,k.output.trans h.output,tK h.size k.size,fun b hb hne=>(k.block b (sR hb h.size) hne).trans (h.block b hb hne)⟩
theorem Oth.of{g:Nat}{w w':sI}(h:tz w.heap.size w w'):Oth g w w':=⟨h.os,h.tape,h.output,h.size,fun b hb _=>h.block b hb⟩
theorem Oth.below{g B:Nat}{w w':sI}(h:Oth g w w')(hB:B<=w.heap.size)(hg:B<=g):tz B w w':=⟨h.os,h.tape,h.output,h.size,fun b hb=>h.block b (by omega) (by omega)⟩
def RdIx(w:sI)(ao:Option Addr)(l:List Int):Prop:=∀(k:Nat)(z:Int),l[k]?=some z->∃b o c fr,ao=some ⟨b,o,none⟩/\w.heap[b]?=some (.cells c 3 fr)/\c[o+k]?=some (.int .i64 z)
mutual
def bX(w:sI):aA->sK->sK->sK->Prop
 |.mk op cls kids,v0,v1,v2=>v0=.int .i64 op/\(∃co cc,v1=.slice co cls.length cc/\RdIx w co cls/\cls.length<=1000000)/\(∃ko kc,v2=.slice ko kids.length kc/\ij w kids ko 0/\kids.length<=1000000/\kids.length<=kc)
def ij(w:sI):List aA->Option Addr->Nat->Prop
 |[],_,_=>True
 |p::ps,ko,i=>(∃b o c fr,ko=some ⟨b,o,none⟩/\w.heap[b]?=some (.cells c 105 fr)/\∃v0 v1 v2,c[o+i*3]?=some v0/\c[o+i*3+1]?=some v1/\c[o+i*3+2]?=some v2/\bX w p v0 v1 v2)/\ij w ps ko (i+1)
end
def KtP(w w':sI):Prop:=∀(b:Nat)(c:Array sK)(t:TypeId)(fr:Nat×Nat),w.heap[b]?=some (.cells c t fr)->(t=3\/t=105)->w'.heap[b]?=some (.cells c t fr)
theorem KtP.of{w w':sI}(h:tz w.heap.size w w'):KtP w w':=fun b _ _ _ hb _=>(h.block b (ag hb)).trans hb
mutual
theorem bX.to{w:sI}:∀(p:aA)(v0 v1 v2:sK),bX w p v0 v1 v2->cv w p v0 v1 v2
 |.mk op cls kids,v0,v1,v2,h=>by unfold bX at h;unfold cv;obtain⟨h1,⟨co,cc,h2,h3,h4⟩,ko,kc,h5,h6,h7⟩:=h;refine⟨h1,⟨co,cc,h2,fun k z hk=>?_,h4⟩,ko,kc,h5,ij.to kids ko 0 h6,h7⟩;obtain⟨b,o,c,fr,a1,a2,a3⟩:=h3 k z hk;exact⟨_,a1,ag a2,by rw[Addr.add_lit,sD w b _ c _ _ a2];exact a3⟩
theorem ij.to{w:sI}:∀(ps:List aA)(ko:Option Addr)(i:Nat),ij w ps ko i->gA w ps ko i
 |[],_,_,_=>by unfold gA;trivial
 |p::ps,ko,i,h=>by unfold ij at h;unfold gA;obtain⟨⟨b,o,c,fr,h1,h2,v0,v1,v2,h3,h4,h5,h6⟩,h7⟩:=h;exact⟨⟨b,o,h1,ag h2,v0,v1,v2,by rw[sD w b _ c _ _ h2];exact h3,by rw[sD w b _ c _ _ h2];exact h4,by rw[sD w b _ c _ _ h2];exact h5,bX.to p _ _ _ h6⟩,ij.to ps ko (i+1) h7⟩
end
mutual
theorem bX.kt{w w':sI}(ho:KtP w w'):∀(p:aA)(v0 v1 v2:sK),bX w p v0 v1 v2->bX w' p v0 v1 v2
 |.mk op cls kids,v0,v1,v2,h=>by unfold bX at h⊢;obtain⟨h1,⟨co,cc,h2,h3,h4⟩,ko,kc,h5,h6,h7⟩:=h;refine⟨h1,⟨co,cc,h2,fun k z hk=>?_,h4⟩,ko,kc,h5,ij.kt ho kids ko 0 h6,h7⟩;obtain⟨b,o,c,fr,a1,a2,a3⟩:=h3 k z hk;exact⟨b,o,c,fr,a1,ho b c _ fr a2 (.inl rfl),a3⟩
theorem ij.kt{w w':sI}(ho:KtP w w'):∀(ps:List aA)(ko:Option Addr)(i:Nat),ij w ps ko i->ij w' ps ko i
 |[],_,_,_=>by unfold ij;trivial
 |p::ps,ko,i,h=>by unfold ij at h⊢;obtain⟨⟨b,o,c,fr,h1,h2,v0,v1,v2,h3,h4,h5,h6⟩,h7⟩:=h;exact⟨⟨b,o,c,fr,h1,ho b c _ fr h2 (.inr rfl),v0,v1,v2,h3,h4,h5,bX.kt ho p _ _ _ h6⟩,ij.kt ho ps ko (i+1) h7⟩
end
noncomputable def ziq(A:AW)(u:sK)(n:Nat)(es t:Nat)(k:List sK->Bool):Bool:=match u with
 |.slice none m _=>tk m n&&tk n 0
 |.slice (some a) m c=>tk m n&&(ug n c&&match n with
  |0=>true
  |_=>match A.get a.block with
   |some (.cells vs t' _ _ _)=>tk t' t&&(ug (a.off+n*es) vs.length)&&k (vs.drop a.off)
   |_=>false)
 |_=>false
theorem zeb{A:AW}{μ:Mu}{w:sI}{u v:sK}{n es t:Nat}{k:List sK->Bool}(h:ziq A u n es t k=true)(W:WR μ A w)(hv:VR μ u v):
  ∃vo vc,v=.slice vo n vc/\n<=vc/\(n=0\/∃b o c fr us,vo=some ⟨b,o,none⟩/\w.heap[b]?=some (.cells c t fr)/\(∃i oi li,A.get i=some oi/\μ i=some li/\li.b=b)/\k us=true/\n*es<=us.length/\∀(j:Nat)(x:sK),us[j]?=some x->∃y,c[o+j]?=some y/\VR μ x y):=by
 unfold ziq at h;split at h
 ·rename_i m c;simp only[sE]at h;have e1:=dV h.1;have e2:=dV h.2;subst e1;simp only[VR]at hv;exact⟨none,c,hv,by omega,.inl e2⟩
 ·rename_i a m c;simp only[sE]at h;have e1:=dV h.1;subst e1;simp only[VR]at hv;obtain⟨a',c',rfl,hs⟩:=hv;have h20:=h.2;refine⟨some a',c',rfl,?_,?_⟩
  ·rcases hs with ⟨_,h3,_⟩|⟨_,h3⟩
   ·rw[h3];exact tc h20.1
   ·rcases h3 with ⟨h3,_⟩|⟨_,h4,_⟩
    ·omega
    ·exact h4
  by_cases hm:m=0
  ·exact .inl hm
  obtain⟨q,rfl⟩:∃q,m=q+1:=⟨m-1,by omega⟩;have h2:=h20.2;simp only[]at h2;split at h2
  ·rename_i vs t' op fz e hobj;simp only[sE]at h2;obtain⟨⟨e3,e4⟩,hk⟩:=h2;have e4':=tc e4;have e3':=dV e3;subst e3';have hl:∃l,μ a.block=some l/\a'=⟨l.b,l.d+a.off,none⟩:=by
    rcases hs with ⟨_,_,h3,l,h4,h5⟩|⟨_,h3⟩
    ·exact⟨l,h4,h5⟩
    ·rcases h3 with ⟨h3,_⟩|⟨_,_,l,h4,h5,_⟩
     ·omega
     ·exact⟨l,h4,h5⟩
   obtain⟨l,hl1,rfl⟩:=hl;obtain⟨o',g1,c2,fr,rfl,g3,g4,g5,g6,g7,g8⟩:=W.has _ _ _ hobj hl1;refine .inr ⟨l.b,l.d+a.off,c2,fr,vs.drop a.off,rfl,g1,⟨_,_,l,hobj,hl1,rfl⟩,hk,by rw[List.length_drop];omega,fun j x hj=>?_⟩;rw[tT]at hj;obtain⟨y,hy,hxy⟩:=g7.get hj;have hjl:=(sM.1 hj).1;rw[tj hjl,tT]at hy;refine⟨y,?_,hxy⟩;rw[<-hy];simp[Nat.add_assoc]
  ·cases h2
 ·cases h
def zrQ(g:aA->sK->sK->sK->Bool):List aA->List sK->Bool
 |[],_=>true
 |p::ps,v0::v1::v2::vs=>g p v0 v1 v2&&zrQ g ps vs
 |_,_=>false
noncomputable def zpk(A:AW):Nat->aA->sK->sK->sK->Bool
 |0,_,_,_,_=>false
 |f+1,.mk op cls kids,u0,u1,u2=>veq u0 (.int .i64 op)&&ug cls.length 1000000&&ug kids.length 1000000&&ziq A u1 cls.length 1 3 (fun vs=>rz (vs.take cls.length) (cls.map fun z=>.int .i64 z))&&ziq A u2 kids.length 3 105 (zrQ (zpk A f) kids)
theorem zjF{g:aA->sK->sK->sK->Bool}{w:sI}{μ:Mu}{b o:Nat}{c:Array sK}{fr:Nat×Nat}(hb:w.heap[b]?=some (.cells c 105 fr)):∀(ps:List aA)(i:Nat)(us:List sK),(∀p∈ps,∀u0 u1 u2 v0 v1 v2,g p u0 u1 u2=true->VR μ u0 v0->VR μ u1 v1->VR μ u2 v2->bX w p v0 v1 v2)->zrQ g ps us=true->
  (∀(j:Nat)(x:sK),us[j]?=some x->∃y,c[o+i*3+j]?=some y/\VR μ x y)->ij w ps (some ⟨b,o,none⟩) i
 |[],i,us,_,_,_=>by unfold ij;trivial
 |p::ps,i,us,hg,h,hc=>by
  match us,h with
  |v0::v1::v2::vs,h=>simp only[zrQ,sE]at h;unfold ij;obtain⟨y0,c0,r0⟩:=hc 0 v0 rfl;obtain⟨y1,c1,r1⟩:=hc 1 v1 rfl;obtain⟨y2,c2,r2⟩:=hc 2 v2 rfl;refine⟨⟨b,o,c,fr,rfl,hb,y0,y1,y2,c0,c1,c2,hg p (List.mem_cons_self ..) _ _ _ _ _ _ h.1 r0 r1 r2⟩,zjF hb ps (i+1) vs (fun q hq=>hg q (List.mem_cons_of_mem _ hq)) h.2 fun j x hj=>?_⟩;obtain⟨y,h1,h2⟩:=hc (j+3) x (by simpa using hj);refine⟨y,?_,h2⟩;rw[show o+(i+1)*3+j=o+i*3+(j+3) by omega];exact h1
theorem zjw{A:AW}{μ:Mu}{w:sI}(W:WR μ A w):∀(f:Nat)(p:aA)(u0 u1 u2 v0 v1 v2:sK),zpk A f p u0 u1 u2=true->VR μ u0 v0->VR μ u1 v1->VR μ u2 v2->bX w p v0 v1 v2
 |0,_,_,_,_,_,_,_,h,_,_,_=>by simp[zpk]at h
 |f+1,.mk op cls kids,u0,u1,u2,v0,v1,v2,h,r0,r1,r2=>by
  simp only[zpk,sE]at h;obtain⟨⟨⟨⟨h1,h2⟩,h3⟩,h4⟩,h5⟩:=h;have e0:=mq h1;subst e0;unfold bX;refine⟨by simpa[VR]using r0,?_,?_⟩
  ·obtain⟨vo,vc,e1,_,e2⟩:=zeb h4 W r1;refine⟨vo,vc,e1,fun k z hk=>?_,tc h2⟩;have hkl:=(sM.1 hk).1;rcases e2 with e2|⟨b,o,c,fr,us,rfl,hb,_,hv,hn,hc⟩
   ·omega
   ·have e3:=eZ hv;have e4:us[k]?=some (.int .i64 z):=by
     have:(us.take cls.length)[k]?=some (.int .i64 z):=by rw[e3,List.getElem?_map,hk];rfl
     rwa [tj hkl]at this
    obtain⟨y,hy,hr⟩:=hc k _ e4;simp only[VR]at hr;subst hr;exact⟨b,o,c,fr,rfl,hb,hy⟩
  ·obtain⟨vo,vc,e1,e9,e2⟩:=zeb h5 W r2;refine⟨vo,vc,e1,?_,tc h3,e9⟩;rcases e2 with e2|⟨b,o,c,fr,us,rfl,hb,_,hv,hn,hc⟩
   ·rw[List.length_eq_zero_iff.1 e2];unfold ij;trivial
   ·exact zjF hb kids 0 us (fun p _ u0 u1 u2 v0 v1 v2 hp a0 a1 a2=>zjw W f p u0 u1 u2 v0 v1 v2 hp a0 a1 a2) hv (by simpa using hc)
noncomputable def nmO(vs:List sK):bz:=.cells vs 9 true none 1
noncomputable def nmA(vs:List sK):AW:=(⟨[],.nil,ng⟩:AW).push (nmO vs)
theorem oF{vs:List sK}{i:Nat}{o:bz}(h:(nmA vs).get i=some o):i=ng/\o=nmO vs:=by
 unfold nmA at h;rw[AW.get_push]at h;split at h
 ·rename_i e;exact⟨e,(Option.some.inj h).symm⟩
 ·exfalso;have h':(Tr.nil:Tr bz).get i=some o:=h;rw[Tr.get_nil]at h';cases h'
theorem ff:mu0 ng=none:=rfl
theorem zor{i:Nat}(h:ng<i):iK i=none:=by
 cases hg:iK i with
 |none=>rfl
 |some s=>exact absurd (ziX hg) (by omega)
theorem znB{w:sI}{vs:List sK}{l:Ev.qX}{o':Obj}(hf:bF vs=true)(hh:w.heap[l.b]?=some o')(μ:Mu)(ho:OR μ l (nmO vs) o'):WR (mu0.add ng l) (nmA vs) w:=by
 refine⟨fun i o li hi hl=>?_,fun i j oi oj li lj hi hj _ _ _=>?_,fun i hi=>?_⟩
 ·obtain⟨rfl,rfl⟩:=oF hi;rw[Mu.add_get ff]at hl;cases hl;refine⟨o',hh,?_⟩;simp only[nmO,OR]at ho⊢;obtain⟨c,fr,h1,h2,h3,h4,h5,h6,h7⟩:=ho;refine⟨c,fr,h1,h2,h3,h4,h5,?_,h7⟩;rw[bM hf h6];exact br hf
 ·rw[(oF hi).1,(oF hj).1]
 ·have h1:(nmA vs).next=ng+1:=rfl
  rw[Mu.add_ne (by omega)];show(iK i).map (fun s=>(⟨i,0,s.1,s.2⟩:Ev.qX))=none;rw[zor (by omega)];rfl
theorem zgC{w w':sI}{vs:List sK}{l:Ev.qX}{μ:Mu}{A':AW}(E:bG (mu0.add ng l) (nmA vs) w μ A' w'):Oth l.b w w':=⟨E.os,E.tape,E.output,E.size,fun b hb hne=>E.stay b hb fun i o li hi hl=>by obtain⟨rfl,rfl⟩:=oF hi;rw[Mu.add_get ff]at hl;cases hl;exact fun e=>hne e.symm⟩
theorem zuD{w w':sI}{A:AW}{μ:Mu}{l:Ev.qX}{o':Obj}{o:bz}(W:WR μ A w)(hO:Oth l.b w w')(hA:A.get ng=some o)(hl:μ ng=some l)(h1:w'.heap[l.b]?=some o')(h2:OR μ l o o'):WR μ A w'/\bG μ A w μ A w':=by
 refine⟨⟨fun i oi li hi hli=>?_,W.inj,W.dom⟩,Le.refl _,hO.size,hO.tape,hO.os,hO.output,fun b hb hne=>hO.block b hb fun e=>hne ng o l hA hl e.symm,fun i oi li hi hli=>.inr ⟨i,oi,li,hi,hli,rfl⟩,sU _,fun _ _=>rfl⟩;by_cases e:i=ng
 ·subst e;rw[hA]at hi;cases hi;rw[hl]at hli;cases hli;exact⟨o',h1,h2⟩
 ·obtain⟨o2,h3,h4⟩:=W.has i oi li hi hli;refine⟨o2,?_,h4⟩;rw[hO.block li.b (W.lt hi hli) fun e2=>e (W.inj i ng oi o li l hi hA hli hl e2)];exact h3
noncomputable def nmV(n:Nat):sK:=.slice (some ⟨ng,0,none⟩) n px
noncomputable def zvk(vs:List sK):Except String (AE×AW)->Bool
 |.ok (.ret u,A)=>veq u (.bool true)&&(match A.get ng with
  |some o=>iF o (nmO vs)
  |none=>false)
 |_=>false
noncomputable def zmZ(call:aG)(f:tX)(vs:List sK):Bool:=zvk vs (call false f [nmV vs.length] (nmA vs))
noncomputable def ovN(f0:tX)(vs:List sK):OvT:=fun f args A=>bif tk f f0 then (match args with
 |[.slice (some ⟨b,0,none⟩) n c]=>bif tk b ng&&tk n vs.length&&tk c px&&(match A.get ng with
  |some o=>iF o (nmO vs)
  |none=>false)then some (.bool true,A)else none
 |_=>none)else none
theorem zuC{P:Program}{call:aG}{f0:tX}{vs:List sK}(hcall:bC P call)(hf:bF vs=true)(hn:vs.length≠0)(h:zmZ call f0 vs=true):zvv P (ovN f0 vs):=by
 intro f args A v A' ho μ w args' W hargs;unfold ovN at ho;cases hb:tk f f0 with
 |false=>rw[hb]at ho;cases ho
 |true=>
  rw[hb,cond_true]at ho;have e0:=dV hb;subst e0;split at ho
  ·rename_i b n c;cases hc:(tk b ng&&tk n vs.length&&tk c px&&(match A.get ng with
    |some o=>iF o (nmO vs)
    |none=>false))with
   |false=>rw[hc]at ho;cases ho
   |true=>
    rw[hc,cond_true]at ho;cases ho;simp only[sE]at hc;obtain⟨⟨⟨c1,c2⟩,c3⟩,c4⟩:=hc;have e1:=dV c1;have e2:=dV c2;have e3:=dV c3;subst e1 e2 e3;split at c4
    ·rename_i o hA;have e4:=eL c4;subst e4;simp only[LR]at hargs;obtain⟨y,t,q1,hv,rfl⟩:=hargs;have e5:args'=#[y]:=tH.1 q1;subst e5;have hv':=hv;simp only[VR]at hv;obtain⟨a',c',rfl,hs⟩:=hv;rcases hs with ⟨h1,_⟩|⟨_,h2⟩
     ·exact absurd rfl h1
     ·rcases h2 with ⟨h2,_⟩|⟨h3,h4,l,h5,h6,h7⟩
      ·exact absurd h2 hn
      ·simp only at h5 h6 h7;subst h6;obtain⟨o',g1,g2⟩:=W.has ng _ l hA h5;have W0:=znB hf g1 μ g2;unfold zmZ zvk at h;split at h
       ·rename_i u A2 hr;rw[sE]at h;have e6:=mq h.1;subst e6;have h8:=h.2;split at h8
        ·rename_i o2 hA2;have e7:=eL h8;subst e7;refine(hcall.fn f _ _ _ A2 hr (mu0.add ng l) w #[.slice (some ⟨l.b,l.d+0,none⟩) vs.length c'] W0 ?_).mono fun e w' ⟨μ',he,W',E⟩=>?_
         ·simp only[LR,nmV];refine⟨_,[],rfl,?_,rfl⟩;simp only[VR];exact⟨_,c',rfl,.inr ⟨rfl,.inr ⟨rfl,h4,l,Mu.add_get ff,rfl,h7⟩⟩⟩
         ·have hl2:μ' ng=some l:=(E.le ng l (Mu.add_get ff));obtain⟨o3,k1,k2⟩:=W'.has ng _ l hA2 hl2;have k3:OR μ l (nmO vs) o3:=by simp only[nmO,OR]at k2⊢;obtain⟨c,fr,a1,a2,a3,a4,a5,a6,a7⟩:=k2;refine⟨c,fr,a1,a2,a3,a4,a5,?_,a7⟩;rw[bM hf a6];exact br hf
          obtain⟨W2,E2⟩:=zuD W (zgC E) hA h5 k1 k3;refine⟨μ,?_,W2,E2⟩;cases e with
          |returned v=>simp only[ER,VR]at he⊢;exact he
          |panicked ch=>exact he.elim
          |outgrown=>exact he.elim
        ·cases h8
       ·cases h
    ·cases c4
  ·cases ho
def bu(w:sI)(g nc:Nat)(vs:List sK):Prop:=∃cur:Array sK,w.heap[g]?=some (.cells cur 9 (0,0))/\cur.size=nc/\vs.length<=nc/\cur.toList.take vs.length=vs
theorem bu.kt{w w':sI}{g nc:Nat}{vs:List sK}(h:bu w g nc vs)(ho:Oth g w w'):KtP w w':=fun b c t fr hb ht=>by obtain⟨cur,h1,_⟩:=h;rw[ho.block b (ag hb) (fun e=>by rw[e,h1]at hb;cases hb;rcases ht with ht|ht<;>cases ht)];exact hb
noncomputable def okT(vs:List sK)(p:aA):Except String (AE×AW)->Bool
 |.ok (.ret (.tuple ⟨[.agg ⟨[a,b,c]⟩,x,y]⟩),A)=>rz [x,y] [.int .i64 0,.int .i64 0]&&zpk A 20 p a b c&&(match A.get ng with
  |some o=>iF o (nmO vs)
  |none=>false)
 |_=>false
noncomputable def cL(call:aG)(f:tX)(text:ByteArray)(vs:List sK)(p:aA):Bool:=okT vs p (call false f [.string text,nmV vs.length] (nmA vs))
def i7(g nc:Nat)(vs:List sK)(w:sI)(p:aA)(e:Ending)(w':sI):Prop:=∃v0 v1 v2,e=.returned (.tuple #[.agg #[v0,v1,v2],.int .i64 0,.int .i64 0])/\bX w' p v0 v1 v2/\bu w' g nc vs/\Oth g w w'
theorem aE{P:Program}{call:aG}{f:tX}{text:ByteArray}{vs:List sK}{p:aA}(hcall:bC P call)(hf:bF vs=true)(h:cL call f text vs p=true)(g nc:Nat)(w:sI)(hN:bu w g nc vs):
  sP P f #[.string text,.slice (some ⟨g,0,none⟩) vs.length nc] w (i7 g nc vs w p):=by
 obtain⟨cur,hh,hsz,hnc,ht⟩:=hN;have W0:WR (mu0.add ng ⟨g,0,nc,1⟩) (nmA vs) w:=znB (l:=⟨g,0,nc,1⟩) hf hh mu0 (by unfold nmO OR;refine⟨cur,(0,0),rfl,hsz,by simpa using hnc,(fun e=>by cases e),rfl,?_,rfl⟩;show LR mu0 vs ((cur.toList.drop 0).take vs.length);rw[t7,ht];exact br hf);unfold cL okT at h;split at h
 ·rename_i a b c x y A hr;refine(hcall.fn f _ _ _ A hr _ w #[.string text,.slice (some ⟨g,0,none⟩) vs.length nc] W0 ?_).mono fun e w' ⟨μ',he,W',E⟩=>?_
  ·simp only[LR,nmV];refine⟨_,[.slice (some ⟨g,0,none⟩) vs.length nc],rfl,by simp[VR],_,[],rfl,?_,rfl⟩;simp only[VR];exact⟨_,nc,rfl,.inr ⟨rfl,.inr ⟨rfl,hnc,⟨g,0,nc,1⟩,Mu.add_get ff,rfl,by simp⟩⟩⟩
  ·simp only[sE]at h;obtain⟨⟨h1,h2⟩,h3⟩:=h;split at h3
   ·rename_i o2 hA2;have e7:=eL h3;subst e7;have hl2:μ' ng=some ⟨g,0,nc,1⟩:=E.le ng _ (Mu.add_get ff);have e1:=eZ h1;simp only[List.cons.injEq,and_true]at e1;obtain⟨rfl,rfl⟩:=e1;cases e with
    |returned v=>simp only[ER,VR]at he;obtain⟨ys,rfl,hl⟩:=he;simp only[LR]at hl;obtain⟨y1,t1,q1,⟨zs,rfl,hz⟩,y2,t2,rfl,h8,y3,t3,rfl,h9,rfl⟩:=hl;simp only[VR]at h8 h9;subst h8 h9;simp only[LR]at hz;obtain⟨z1,s1,p1,r1,z2,s2,rfl,r2,z3,s3,rfl,r3,rfl⟩:=hz;have e2:zs=#[z1,z2,z3]:=tH.1 p1;subst e2;have e3:ys=#[.agg #[z1,z2,z3],.int .i64 0,.int .i64 0]:=tH.1 q1;subst e3;obtain⟨o3,k1,k2⟩:=W'.has ng _ _ hA2 hl2;refine⟨z1,z2,z3,rfl,zjw W' 20 p _ _ _ _ _ _ h2 r1 r2 r3,?_,zgC E⟩;simp only[nmO,OR]at k2;obtain⟨c2,fr,rfl,a2,a3,a4,a5,a6,a7⟩:=k2;simp only[FZ]at a7;subst a7;refine⟨c2,k1,a2,hnc,?_⟩;have:=bM hf a6;simpa using this
    |panicked ch=>exact he.elim
    |outgrown=>exact he.elim
   ·cases h3
 ·cases h
theorem znH{P:Program}{call:aG}{f:tX}{vs:List sK}(hcall:bC P call)(hf:bF vs=true)(h:zmZ call f vs=true)(g nc:Nat)(w:sI)(hN:bu w g nc vs):
  sP P f #[.slice (some ⟨g,0,none⟩) vs.length nc] w fun e w'=>e=.returned (.bool true)/\bu w' g nc vs/\Oth g w w':=by
 obtain⟨cur,hh,hsz,hnc,ht⟩:=hN;have W0:WR (mu0.add ng ⟨g,0,nc,1⟩) (nmA vs) w:=znB (l:=⟨g,0,nc,1⟩) hf hh mu0 (by unfold nmO OR;refine⟨cur,(0,0),rfl,hsz,by simpa using hnc,(fun e=>by cases e),rfl,?_,rfl⟩;show LR mu0 vs ((cur.toList.drop 0).take vs.length);rw[t7,ht];exact br hf);unfold zmZ zvk at h;split at h
 ·rename_i u A hr;refine(hcall.fn f _ _ _ A hr _ w #[.slice (some ⟨g,0,none⟩) vs.length nc] W0 ?_).mono fun e w' ⟨μ',he,W',E⟩=>?_
  ·simp only[LR,nmV];refine⟨_,[],rfl,?_,rfl⟩;simp only[VR];exact⟨_,nc,rfl,.inr ⟨rfl,.inr ⟨rfl,hnc,⟨g,0,nc,1⟩,Mu.add_get ff,rfl,by simp⟩⟩⟩
  ·simp only[sE]at h;obtain⟨h1,h3⟩:=h;split at h3
   ·rename_i o2 hA2;have e7:=eL h3;subst e7;have e8:=mq h1;subst e8;have hl2:μ' ng=some ⟨g,0,nc,1⟩:=E.le ng _ (Mu.add_get ff);cases e with
    |returned v=>simp only[ER,VR]at he;subst he;obtain⟨o3,k1,k2⟩:=W'.has ng _ _ hA2 hl2;refine⟨rfl,?_,zgC E⟩;simp only[nmO,OR]at k2;obtain⟨c2,fr,rfl,a2,a3,a4,a5,a6,a7⟩:=k2;simp only[FZ]at a7;subst a7;refine⟨c2,k1,a2,hnc,?_⟩;have:=bM hf a6;simpa using this
    |panicked ch=>exact he.elim
    |outgrown=>exact he.elim
   ·cases h3
 ·cases h
def zpN(B:Nat)(w:sI)(ao:Option Addr)(ls:List (List UInt8)):Prop:=∀(j:Nat)(s:List UInt8),ls[j]?=some s->∃b o c fr,ao=some ⟨b,o,none⟩/\B<=b/\w.heap[b]?=some (.cells c 9 fr)/\c[o+j]?=some (.string ⟨s.toArray⟩)
end Pt
end
section
open Ev Go.RowKit
namespace Pt
def av:List sK:=[.string ⟨#[79,116,104,101,114]⟩,.string ⟨#[67,114]⟩,.string ⟨#[76,102]⟩,.string ⟨#[78,101,119,108,105,110,101]⟩,.string ⟨#[69,120,116,101,110,100]⟩,.string ⟨#[90,119,106]⟩,.string ⟨#[70,111,114,109,97,116]⟩,.string ⟨#[82,101,103,105,111,110]⟩,.string ⟨#[75,97,116,97,107,97,110,97]⟩,.string ⟨#[72,101,98,114,101,119]⟩,.string ⟨#[76,101,116,116,101,114]⟩,.string ⟨#[81,117,111,116,101]⟩,.string ⟨#[68,111,117,98,108,101]⟩,.string ⟨#[77,105,100,78,117,109,76,101,116]⟩,.string ⟨#[77,105,100,76,101,116,116,101,114]⟩,.string ⟨#[77,105,100,78,117,109]⟩,.string ⟨#[68,105,103,105,116]⟩,.string ⟨#[76,111,119]⟩,.string ⟨#[83,112,97,99,101]⟩,.string ⟨#[80,105,99,116]⟩]
theorem ax:bF av=true:=by kernel_rfl
theorem zdw:zmZ (evF Tryz.prog nG 1000000 (mT Tryz.prog nG) 60) 70 av=true:=by kernel_rfl
theorem wdOv:zvv Tryz.prog (ovN 70 av):=zuC (iS dy (fun _ hc=>gh mixed dy hc) 60) ax (by decide) zdw
noncomputable def cY:aG:=evG Tryz.prog nG 1000000 (mT Tryz.prog nG) (ovN 70 av) 60
theorem aK:bC Tryz.prog cY:=qz dy (fun _ hc=>gh mixed dy hc) wdOv 60
def zmv:aA:=.mk 1 [1] []
def zsp:ByteArray:=⟨#[67,114]⟩
def zmt:aA:=.mk 1 [2] []
def zso:ByteArray:=⟨#[76,102]⟩
def zdo:aA:=.mk 1 [1,2,3] []
def zsn:ByteArray:=⟨#[91,78,101,119,108,105,110,101,32,67,114,32,76,102,93]⟩
def pk:aA:=.mk 0 [] []
def zsm:ByteArray:=⟨#[]⟩
def zlV:aA:=.mk 1 [5] []
def zsl:ByteArray:=⟨#[90,119,106]⟩
def zlT:aA:=.mk 1 [19] []
def zsk:ByteArray:=⟨#[80,105,99,116]⟩
def zfX:aA:=.mk 1 [18] []
def zsj:ByteArray:=⟨#[83,112,97,99,101]⟩
def zlQ:aA:=.mk 1 [4,5,6] []
def zsi:ByteArray:=⟨#[91,69,120,116,101,110,100,32,70,111,114,109,97,116,32,90,119,106,93]⟩
def kR:aA:=.mk 2 [] [(.mk 1 [9,10] []),(.mk 4 [] [(.mk 1 [4,5,6] [])])]
def zsh:ByteArray:=⟨#[91,76,101,116,116,101,114,32,72,101,98,114,101,119,93,32,91,69,120,116,101,110,100,32,70,111,114,109,97,116,32,90,119,106,93,42]⟩
def kQ:aA:=.mk 1 [9,10] []
def zsg:ByteArray:=⟨#[91,76,101,116,116,101,114,32,72,101,98,114,101,119,93]⟩
def sq:aA:=.mk 2 [] [(.mk 1 [11,13,14] []),(.mk 4 [] [(.mk 1 [4,5,6] [])]),(.mk 1 [9,10] [])]
def zms:ByteArray:=⟨#[91,77,105,100,76,101,116,116,101,114,32,77,105,100,78,117,109,76,101,116,32,81,117,111,116,101,93,32,91,69,120,116,101,110,100,32,70,111,114,109,97,116,32,90,119,106,93,42,32,91,76,101,116,116,101,114,32,72,101,98,114,101,119,93]⟩
def sk:aA:=.mk 2 [] [(.mk 1 [9,10] []),(.mk 4 [] [(.mk 1 [4,5,6] [])]),(.mk 1 [11,13,14] []),(.mk 4 [] [(.mk 1 [4,5,6] [])])]
def zmr:ByteArray:=⟨#[91,76,101,116,116,101,114,32,72,101,98,114,101,119,93,32,91,69,120,116,101,110,100,32,70,111,114,109,97,116,32,90,119,106,93,42,32,91,77,105,100,76,101,116,116,101,114,32,77,105,100,78,117,109,76,101,116,32,81,117,111,116,101,93,32,91,69,120,116,101,110,100,32,70,111,114,109,97,116,32,90,119,106,93,42]⟩
def jJ:aA:=.mk 2 [] [(.mk 1 [9] []),(.mk 4 [] [(.mk 1 [4,5,6] [])])]
def zmq:ByteArray:=⟨#[72,101,98,114,101,119,32,91,69,120,116,101,110,100,32,70,111,114,109,97,116,32,90,119,106,93,42]⟩
def sj:aA:=.mk 1 [11] []
def zmp:ByteArray:=⟨#[81,117,111,116,101]⟩
def si:aA:=.mk 2 [] [(.mk 1 [12] []),(.mk 4 [] [(.mk 1 [4,5,6] [])]),(.mk 1 [9] [])]
def zmo:ByteArray:=⟨#[68,111,117,98,108,101,32,91,69,120,116,101,110,100,32,70,111,114,109,97,116,32,90,119,106,93,42,32,72,101,98,114,101,119]⟩
def sh:aA:=.mk 2 [] [(.mk 1 [9] []),(.mk 4 [] [(.mk 1 [4,5,6] [])]),(.mk 1 [12] []),(.mk 4 [] [(.mk 1 [4,5,6] [])])]
def zmn:ByteArray:=⟨#[72,101,98,114,101,119,32,91,69,120,116,101,110,100,32,70,111,114,109,97,116,32,90,119,106,93,42,32,68,111,117,98,108,101,32,91,69,120,116,101,110,100,32,70,111,114,109,97,116,32,90,119,106,93,42]⟩
def sg:aA:=.mk 1 [9] []
def zmm:ByteArray:=⟨#[72,101,98,114,101,119]⟩
def eY:aA:=.mk 2 [] [(.mk 1 [16] []),(.mk 4 [] [(.mk 1 [4,5,6] [])])]
def zml:ByteArray:=⟨#[68,105,103,105,116,32,91,69,120,116,101,110,100,32,70,111,114,109,97,116,32,90,119,106,93,42]⟩
def eX:aA:=.mk 1 [16] []
def zmk:ByteArray:=⟨#[68,105,103,105,116]⟩
def sf:aA:=.mk 2 [] [(.mk 1 [16] []),(.mk 4 [] [(.mk 1 [4,5,6] [])]),(.mk 1 [11,13,15] []),(.mk 4 [] [(.mk 1 [4,5,6] [])])]
def zmj:ByteArray:=⟨#[68,105,103,105,116,32,91,69,120,116,101,110,100,32,70,111,114,109,97,116,32,90,119,106,93,42,32,91,77,105,100,78,117,109,32,77,105,100,78,117,109,76,101,116,32,81,117,111,116,101,93,32,91,69,120,116,101,110,100,32,70,111,114,109,97,116,32,90,119,106,93,42]⟩
def se:aA:=.mk 2 [] [(.mk 1 [11,13,15] []),(.mk 4 [] [(.mk 1 [4,5,6] [])]),(.mk 1 [16] [])]
def zmh:ByteArray:=⟨#[91,77,105,100,78,117,109,32,77,105,100,78,117,109,76,101,116,32,81,117,111,116,101,93,32,91,69,120,116,101,110,100,32,70,111,114,109,97,116,32,90,119,106,93,42,32,68,105,103,105,116]⟩
def sb:aA:=.mk 2 [] [(.mk 1 [8] []),(.mk 4 [] [(.mk 1 [4,5,6] [])])]
def zmg:ByteArray:=⟨#[75,97,116,97,107,97,110,97,32,91,69,120,116,101,110,100,32,70,111,114,109,97,116,32,90,119,106,93,42]⟩
def sa:aA:=.mk 1 [8] []
def zmf:ByteArray:=⟨#[75,97,116,97,107,97,110,97]⟩
def rY:aA:=.mk 2 [] [(.mk 1 [8,9,10,16,17] []),(.mk 4 [] [(.mk 1 [4,5,6] [])])]
def zme:ByteArray:=⟨#[91,76,101,116,116,101,114,32,72,101,98,114,101,119,32,68,105,103,105,116,32,75,97,116,97,107,97,110,97,32,76,111,119,93,32,91,69,120,116,101,110,100,32,70,111,114,109,97,116,32,90,119,106,93,42]⟩
def rX:aA:=.mk 1 [17] []
def zmd:ByteArray:=⟨#[76,111,119]⟩
def rW:aA:=.mk 2 [] [(.mk 1 [17] []),(.mk 4 [] [(.mk 1 [4,5,6] [])])]
def zmc:ByteArray:=⟨#[76,111,119,32,91,69,120,116,101,110,100,32,70,111,114,109,97,116,32,90,119,106,93,42]⟩
def rV:aA:=.mk 1 [8,9,10,16] []
def zmb:ByteArray:=⟨#[91,76,101,116,116,101,114,32,72,101,98,114,101,119,32,68,105,103,105,116,32,75,97,116,97,107,97,110,97,93]⟩
def pn:aA:=.mk 2 [] [(.mk 4 [] [(.mk 1 [4,5,6] [])]),(.mk 4 [] [(.mk 2 [] [(.mk 1 [7] []),(.mk 4 [] [(.mk 1 [4,5,6] [])]),(.mk 1 [7] []),(.mk 4 [] [(.mk 1 [4,5,6] [])])])]),(.mk 1 [7] []),(.mk 4 [] [(.mk 1 [4,5,6] [])])]
def zma:ByteArray:=⟨#[32,91,69,120,116,101,110,100,32,70,111,114,109,97,116,32,90,119,106,93,42,32,40,82,101,103,105,111,110,32,91,69,120,116,101,110,100,32,70,111,114,109,97,116,32,90,119,106,93,42,32,82,101,103,105,111,110,32,91,69,120,116,101,110,100,32,70,111,114,109,97,116,32,90,119,106,93,42,41,42,32,82,101,103,105,111,110,32,91,69,120,116,101,110,100,32,70,111,114,109,97,116,32,90,119,106,93,42]⟩
def jI:aA:=.mk 1 [7] []
def zlZ:ByteArray:=⟨#[82,101,103,105,111,110]⟩
def ni:aA:=.mk 2 [] [(.mk 1 [0,1,2,3,8,9,10,11,12,13,14,15,16,17,18,19] []),(.mk 4 [] [(.mk 1 [4,5,6] [])]),(.mk 4 [] [(.mk 2 [] [(.mk 1 [7] []),(.mk 4 [] [(.mk 1 [4,5,6] [])]),(.mk 1 [7] []),(.mk 4 [] [(.mk 1 [4,5,6] [])])])]),(.mk 1 [7] []),(.mk 4 [] [(.mk 1 [4,5,6] [])])]
def zlY:ByteArray:=⟨#[91,94,82,101,103,105,111,110,32,69,120,116,101,110,100,32,70,111,114,109,97,116,32,90,119,106,93,32,91,69,120,116,101,110,100,32,70,111,114,109,97,116,32,90,119,106,93,42,32,40,82,101,103,105,111,110,32,91,69,120,116,101,110,100,32,70,111,114,109,97,116,32,90,119,106,93,42,32,82,101,103,105,111,110,32,91,69,120,116,101,110,100,32,70,111,114,109,97,116,32,90,119,106,93,42,41,42,32,82,101,103,105,111,110,32,91,69,120,116,101,110,100,32,70,111,114,109,97,116,32,90,119,106,93,42]⟩
end Pt
end
section
open Go.RowKit
namespace Pt
def rh:List Rl:=[
 ⟨false,false,false,zmv,zmt⟩,
 ⟨true,false,false,zdo,pk⟩,
 ⟨true,false,false,pk,zdo⟩,
 ⟨false,false,false,zlV,zlT⟩,
 ⟨false,false,false,zfX,zfX⟩,
 ⟨false,false,false,pk,zlQ⟩,
 ⟨false,false,false,kR,kQ⟩,
 ⟨false,false,false,kR,sq⟩,
 ⟨false,false,false,sk,kQ⟩,
 ⟨false,false,false,jJ,sj⟩,
 ⟨false,false,false,jJ,si⟩,
 ⟨false,false,false,sh,sg⟩,
 ⟨false,false,false,eY,eX⟩,
 ⟨false,false,false,kR,eX⟩,
 ⟨false,false,false,eY,kQ⟩,
 ⟨false,false,false,sf,eX⟩,
 ⟨false,false,false,eY,se⟩,
 ⟨false,false,false,sb,sa⟩,
 ⟨false,false,false,rY,rX⟩,
 ⟨false,false,false,rW,rV⟩,
 ⟨false,true,false,pn,jI⟩,
 ⟨false,false,false,ni,jI⟩]
end Pt
end
section
open Go.RowKit
namespace Wo
open Pt
def ke(c:List Int)(k:Nat):List Int:=(c.take k).reverse
theorem zxe(c:List Int):ke c 0=[]:=rfl
theorem nQ{c:List Int}{k:Nat}(h:k<c.length):ke c (k+1)=c.getD k 0::ke c k:=by unfold ke;rw[List.take_succ_eq_append_getElem h,tR,sJ,sL h];rfl
def stp(c:List Int)(f:Int->Bool):Nat->Nat
 |0=>0
 |k+1=>if f (c.getD k 0)then stp c f k else k+1
theorem stp_le(c:List Int)(f:Int->Bool):∀k,stp c f k<=k
 |0=>sU _
 |k+1=>by unfold stp;have:=stp_le c f k;split<;>omega
theorem zgk(c:List Int)(f:Int->Bool):∀k,k<=c.length->(ke c k).dropWhile f=ke c (stp c f k)
 |0,_=>rfl
 |k+1,h=>by
  rw[nQ (by omega)];unfold stp;cases hf:f (c.getD k 0)with
  |true=>rw[sX hf,if_pos rfl];exact zgk c f k (by omega)
  |false=>rw[sT (by rw[hf];simp),if_neg (by simp),nQ (by omega)]
theorem pB(c:List Int)(f:Int->Bool):∀k m,stp c f k<=m->m<k->f (c.getD m 0)=true
 |0,m,_,h=>by omega
 |k+1,m,h1,h2=>by
  unfold stp at h1;split at h1
  ·rename_i hf;rcases sY (Nat.le_of_lt_succ h2)with e|e
   ·exact e ▸ hf
   ·exact pB c f k m h1 e
  ·omega
theorem zbj(c:List Int)(f:Int->Bool):∀k,0<stp c f k->f (c.getD (stp c f k-1) 0)=false
 |0,h=>by unfold stp at h;omega
 |k+1,h=>by
  unfold stp at h⊢;split
  ·rename_i hf;rw[if_pos hf]at h;exact zbj c f k h
  ·rename_i hf;rw[sS];simpa using hf
theorem zgj{c:List Int}{f:Int->Bool}{j k:Nat}(hj:j<=k)(h1:∀m,j<=m->m<k->f (c.getD m 0)=true)(h2:j=0\/f (c.getD (j-1) 0)=false):stp c f k=j:=by
 rcases Nat.lt_trichotomy (stp c f k) j with h|h|h
 ·rcases h2 with h2|h2
  ·omega
  ·have:=pB c f k (j-1) (by omega) (by omega);rw[h2]at this;cases this
 ·exact h
 ·have h3:=zbj c f k (by omega);have h4:=stp_le c f k;rw[h1 _ (by omega) (by omega)]at h3;cases h3
theorem zfv{c:List Int}{k:Nat}(hk:k<=c.length){z:Int}(hz:z≠0):(ke c k).headD 0=z ↔ 0<k/\c.getD (k-1) 0=z:=by
 cases k with
 |zero=>rw[zxe];exact⟨fun h=>absurd h.symm hz,fun h=>by omega⟩
 |succ k=>rw[nQ (by omega),sH,sS];exact⟨fun h=>⟨by omega,h⟩,fun h=>h.2⟩
def bb(z:Int):Bool:=z==4||z==6||z==5
theorem mX(z:Int):bb z=true ↔ z∈([4,5,6]:List Int):=by unfold bb;simp only[sQ,beq_iff_eq,sW,sV,or_false];omega
theorem fh{c:List Int}{i:Nat}(h:i<c.length):c[i]?=some (c.getD i 0):=by rw[sJ,sL h];rfl
def Rw(c:List Int)(i k:Nat):Prop:=i<=k/\∀m,i<=m->m<k->∃z,c[m]?=some z/\z∈([4,5,6]:List Int)
theorem mz(c:List Int)(i k:Nat):cj (aX c (.mk 1 [4,5,6] [])) i k ↔ Rw c i k:=zmN c [4,5,6] [] i k
theorem zqA{c:List Int}{i k:Nat}(hk:k<=c.length):Rw c i k ↔ i<=k/\∀m,i<=m->m<k->bb (c.getD m 0)=true:=by unfold Rw;refine and_congr_right fun _=>forall_congr' fun m=>forall_congr' fun _=>forall_congr' fun hm=>?_;rw[mX,fh (by omega)];exact⟨fun⟨z,h1,h2⟩=>by cases h1;exact h2,fun h=>⟨_,rfl,h⟩⟩
def EnR(c T:List Int)(k:Nat):Prop:=∃i,(∃z,c[i]?=some z/\z∈T)/\Rw c (i+1) k
theorem enr{c T:List Int}(hT:∀z∈T,bb z=false/\z≠0){k:Nat}(hk:k<=c.length):EnR c T k ↔ ((ke c k).dropWhile bb).headD 0∈T:=by
 have hle:=stp_le c bb k;rw[zgk c _ k hk];constructor
 ·rintro ⟨i,⟨z,h1,h2⟩,h3⟩;have hil:=(sM.1 h1).1;obtain⟨h4,h5⟩:=(zqA hk).1 h3;have hz:c.getD i 0=z:=by rw[sJ,h1];rfl
  have e:=zgj (f:=bb) h4 h5 (.inr (by rw[sS,hz];exact(hT z h2).1));rw[e,nQ hil,sH,hz];exact h2
 ·intro h;obtain⟨z,hz⟩:=aj ((ke c (stp c bb k)).headD 0);rw[<-hz]at h;obtain⟨h1,h2⟩:=(zfv (by omega) (hT z h).2).1 hz.symm;refine⟨stp c bb k-1,⟨z,?_,h⟩,?_⟩
  ·rw[fh (by omega),h2]
  ·rw[show stp c bb k-1+1=stp c bb k by omega];exact(zqA hk).2 ⟨hle,fun m h3 h4=>pB c _ k m h3 h4⟩
theorem zxa(c T:List Int)(k:Nat):En c (.mk 2 [] [(.mk 1 T []),(.mk 4 [] [(.mk 1 [4,5,6] [])])]) k ↔ EnR c T k:=by
 unfold En EnR;simp only[zkQ,mJ,mK,zkP,mz,rG];constructor
 ·rintro ⟨i,_,_,⟨rfl,z,h1,h2⟩,_,h3,rfl⟩;exact⟨i,⟨z,h1,h2⟩,h3⟩
 ·rintro ⟨i,⟨z,h1,h2⟩,h3⟩;have:=h3.1;exact⟨i,by omega,i+1,⟨rfl,z,h1,h2⟩,k,h3,rfl⟩
theorem zwZ{c T M:List Int}(hT:∀z∈T,bb z=false/\z≠0)(hM:∀z∈M,bb z=false/\z≠0){k:Nat}(hk:k<=c.length):
  En c (.mk 2 [] [(.mk 1 T []),(.mk 4 [] [(.mk 1 [4,5,6] [])]),(.mk 1 M []),(.mk 4 [] [(.mk 1 [4,5,6] [])])]) k ↔ (((ke c k).dropWhile bb).headD 0∈M/\((((ke c k).dropWhile bb).tail).dropWhile bb).headD 0∈T):=by
 have hle:=stp_le c bb k;have e0:En c (.mk 2 [] [(.mk 1 T []),(.mk 4 [] [(.mk 1 [4,5,6] [])]),(.mk 1 M []),(.mk 4 [] [(.mk 1 [4,5,6] [])])]) k ↔ ∃m,(∃z,c[m]?=some z/\z∈M)/\Rw c (m+1) k/\EnR c T m:=by
  unfold En EnR;simp only[zkQ,mJ,mK,zkP,mz,rG];constructor
  ·rintro ⟨i,_,_,⟨rfl,z,h1,h2⟩,m,h3,_,⟨rfl,y,h4,h5⟩,_,h6,rfl⟩;exact⟨m,⟨y,h4,h5⟩,h6,i,⟨z,h1,h2⟩,h3⟩
  ·rintro ⟨m,⟨y,h4,h5⟩,h6,i,⟨z,h1,h2⟩,h3⟩;have:=h3.1;have:=h6.1;exact⟨i,by omega,i+1,⟨rfl,z,h1,h2⟩,m,h3,m+1,⟨rfl,y,h4,h5⟩,k,h6,rfl⟩
 rw[e0,zgk c _ k hk];constructor
 ·rintro ⟨m,⟨y,h1,h2⟩,h3,h4⟩;have hml:=(sM.1 h1).1;obtain⟨h5,h6⟩:=(zqA hk).1 h3;have hz:c.getD m 0=y:=by rw[sJ,h1];rfl
  have e:=zgj (f:=bb) h5 h6 (.inr (by rw[sS,hz];exact(hM y h2).1));rw[e,nQ hml,sH,td,hz];exact⟨h2,(enr hT (uh hml)).1 h4⟩
 ·rintro ⟨h1,h2⟩;obtain⟨y,hy⟩:=aj ((ke c (stp c bb k)).headD 0);rw[<-hy]at h1;obtain⟨h3,h4⟩:=(zfv (by omega) (hM y h1).2).1 hy.symm;obtain⟨m,hm⟩:∃m,stp c bb k=m+1:=⟨stp c bb k-1,by omega⟩;rw[hm]at h2 h4 hle;rw[nQ (by omega),td]at h2;rw[sS]at h4;exact⟨m,⟨y,by rw[fh (by omega),h4],h1⟩,(zqA hk).2 ⟨hle,fun j h5 h6=>pB c _ k j (by omega) h6⟩,(enr hT (by omega)).2 h2⟩
theorem en_1{c T:List Int}{k:Nat}(hk:0<k):En c (.mk 1 T []) k ↔ ∃z,c[k-1]?=some z/\z∈T:=by
 unfold En;simp only[rG];constructor
 ·rintro ⟨i,_,rfl,h⟩;exact h
 ·intro h;exact⟨k-1,by omega,by omega,h⟩
theorem en_0(c:List Int)(k:Nat):En c (.mk 0 [] []) k:=⟨k,sU _,(zwL _ _ _).2 rfl⟩
theorem sw_0(c:List Int){k:Nat}(hk:k<=c.length):Sw c (.mk 0 [] []) k:=⟨k,sU _,hk,(zwL _ _ _).2 rfl⟩
theorem sw_1{c T:List Int}{k:Nat}:Sw c (.mk 1 T []) k ↔ ∃z,c[k]?=some z/\z∈T:=by
 unfold Sw;simp only[rG];constructor
 ·rintro ⟨_,_,_,rfl,h⟩;exact h
 ·rintro ⟨z,h1,h2⟩;have:=(sM.1 h1).1;exact⟨k+1,by omega,by omega,rfl,z,h1,h2⟩
theorem zsv{c U:List Int}(hU:∀z∈U,bb z=false/\z≠0):∀(n k:Nat),c.length-k<=n->((∃m,Rw c k m/\∃z,c[m]?=some z/\z∈U) ↔ ((c.drop k).dropWhile bb).headD 0∈U)
 |n,k,hn=>by
  by_cases hk:k<c.length
  ·cases n with
   |zero=>omega
   |succ n=>
    have hg:=fh hk;have hd:c.drop k=c.getD k 0::c.drop (k+1):=by rw[tD hk,sJ,sL hk];rfl
    rw[hd];generalize c.getD k 0=z at hg;cases hf:bb z with
    |true=>
     rw[sX hf,<-zsv hU n (k+1) (by omega)];constructor
     ·rintro ⟨m,h1,y,h2,h3⟩;have h0:=h1.1;have:k≠m:=fun e=>by subst e;rw[hg]at h2;cases h2;rw[(hU _ h3).1]at hf;cases hf
      exact⟨m,⟨by omega,fun j h4 h5=>h1.2 j (by omega) h5⟩,y,h2,h3⟩
     ·rintro ⟨m,h1,h2⟩;have h0:=h1.1;refine⟨m,⟨by omega,fun j h4 h5=>?_⟩,h2⟩;rcases sY h4 with e|e
      ·exact e ▸ ⟨z,hg,(mX z).1 hf⟩
      ·exact h1.2 j e h5
    |false=>
     rw[sT (by rw[hf];simp),sH];constructor
     ·rintro ⟨m,h1,y,h2,h3⟩;rcases sY h1.1 with e|e
      ·subst e;rw[hg]at h2;cases h2;exact h3
      ·obtain⟨x,h4,h5⟩:=h1.2 k (sU _) e;rw[hg]at h4;cases h4;rw[(mX _).2 h5]at hf;cases hf
     ·intro h;exact⟨k,⟨sU _,fun j h1 h2=>by omega⟩,z,hg,h⟩
  ·rw[List.drop_of_length_le (by omega)];constructor
   ·rintro ⟨m,h1,y,h2,_⟩;have:=(sM.1 h2).1;have:=h1.1;omega
   ·intro h;exact absurd rfl (hU _ h).2
theorem zws{c T U:List Int}(hU:∀z∈U,bb z=false/\z≠0){k:Nat}:Sw c (.mk 2 [] [(.mk 1 T []),(.mk 4 [] [(.mk 1 [4,5,6] [])]),(.mk 1 U [])]) k ↔ ((∃z,c[k]?=some z/\z∈T)/\((c.drop (k+1)).dropWhile bb).headD 0∈U):=by
 rw[<-zsv hU _ (k+1) (sU _)];unfold Sw;simp only[zkQ,mJ,mK,zkP,mz,rG];constructor
 ·rintro ⟨_,_,_,_,⟨rfl,h1⟩,m,h2,_,⟨rfl,h3⟩,rfl⟩;exact⟨h1,m,h2,h3⟩
 ·rintro ⟨h1,m,h2,z,h3,h4⟩;have:=(sM.1 h3).1;have:=h2.1;exact⟨m+1,by omega,by omega,k+1,⟨rfl,h1⟩,m,h2,m+1,⟨rfl,z,h3,h4⟩,rfl⟩
def rgc(z:Int):Bool:=z==7||bb z
def kM:List Int->Bool->Bool
 |[],o=>o
 |z::l,o=>if z==7 then kM l (!o)else if bb z then kM l o else o
def cnt(c:List Int)(i:Nat):Nat->Nat
 |0=>0
 |k+1=>if i<=k then (cnt c i k+if c.getD k 0==7 then 1 else 0)else 0
theorem qG{c:List Int}{i k:Nat}(h:i<=k):cnt c i (k+1)=cnt c i k+if c.getD k 0==7 then 1 else 0:=by
 conv=>lhs;unfold cnt
 rw[if_pos h]
theorem qI(c:List Int)(i:Nat):cnt c i i=0:=by
 cases i with
 |zero=>rfl
 |succ k=>unfold cnt;rw[if_neg (by omega)]
theorem fq(c:List Int){i j:Nat}(hij:i<=j):∀k,j<=k->cnt c i k=cnt c i j+cnt c j k
 |0,h=>by
  obtain rfl:j=0:=by omega
  rfl
 |k+1,h=>by
  rcases sY h with e|e
  ·rw[<-e,qI];rfl
  ·rw[qG (by omega),qG (by omega:j<=k),fq c hij k (by omega)];omega
theorem qH{c:List Int}{i:Nat}:∀k,Rw c i k->cnt c i k=0
 |0,_=>rfl
 |k+1,h=>by
  rcases sY h.1 with e|e
  ·rw[<-e,qI]
  ·rw[qG (by omega),qH k ⟨by omega,fun m h1 h2=>h.2 m h1 (by omega)⟩];obtain⟨z,h1,h2⟩:=h.2 k (by omega) (by omega);have hz:c.getD k 0=z:=by rw[sJ,h1];rfl
   rw[hz];have:(z==7)=false:=by rw[beq_eq_false_iff_ne];rintro rfl;revert h2;decide
   rw[this];rfl
theorem zcs{c:List Int}{i:Nat}(h:c[i]?=some 7):cnt c i (i+1)=1:=by
 rw[qG (sU _),qI];have hz:c.getD i 0=7:=by rw[sJ,h];rfl
 rw[hz];rfl
def Rg(c:List Int)(i k:Nat):Prop:=i<=k/\∀m,i<=m->m<k->∃z,c[m]?=some z/\rgc z=true
theorem Rg.nil(c:List Int)(i:Nat):Rg c i i:=⟨sU _,fun m h1 h2=>by omega⟩
theorem Rg.trans{c:List Int}{i j k:Nat}(h:Rg c i j)(h2:Rg c j k):Rg c i k:=⟨tK h.1 h2.1,fun m h3 h4=>by
 rcases ui m j with e|e
 ·exact h.2 m h3 e
 ·exact h2.2 m e h4⟩
theorem Rw.rg{c:List Int}{i k:Nat}(h:Rw c i k):Rg c i k:=⟨h.1,fun m h1 h2=>by obtain⟨z,h3,h4⟩:=h.2 m h1 h2;exact⟨z,h3,by unfold rgc;rw[(mX z).2 h4,tV]⟩⟩
theorem Rg.one{c:List Int}{i:Nat}(h:c[i]?=some 7):Rg c i (i+1):=⟨by omega,fun m h1 h2=>by
 obtain rfl:m=i:=by omega
 exact⟨7,h,by decide⟩⟩
def nh:aA:=.mk 2 [] [(.mk 1 [7] []),(.mk 4 [] [(.mk 1 [4,5,6] [])]),(.mk 1 [7] []),(.mk 4 [] [(.mk 1 [4,5,6] [])])]
theorem ziK(c:List Int)(i k:Nat):aX c nh i k ↔ c[i]?=some 7/\∃m,Rw c (i+1) m/\c[m]?=some 7/\Rw c (m+1) k:=by
 unfold nh;simp only[zkQ,mJ,mK,zkP,mz,rG,sZ];constructor
 ·rintro ⟨_,⟨rfl,z,h1,rfl⟩,m,h2,_,⟨rfl,y,h3,rfl⟩,_,h4,rfl⟩;exact⟨h1,m,h2,h3,h4⟩
 ·rintro ⟨h1,m,h2,h3,h4⟩;exact⟨_,⟨rfl,7,h1,rfl⟩,m,h2,_,⟨rfl,7,h3,rfl⟩,k,h4,rfl⟩
theorem zqq{c:List Int}{i k:Nat}(h:aX c nh i k):Rg c i k/\cnt c i k=2:=by obtain⟨h1,m,h2,h3,h4⟩:=(ziK c i k).1 h;have q1:=h2.1;have q2:=h4.1;refine⟨(((Rg.one h1).trans h2.rg).trans (Rg.one h3)).trans h4.rg,?_⟩;rw[fq c (by omega:i<=i+1) k (by omega),fq c (by omega:i+1<=m) k (by omega),fq c (by omega:m<=m+1) k (by omega),zcs h1,qH m h2,zcs h3,qH k h4]
theorem zmP{c:List Int}{i k:Nat}(h:cj (aX c nh) i k):Rg c i k/\cnt c i k%2=0:=by
 induction h with
 |refl i=>exact⟨.nil c i,by rw[qI]⟩
 |step h1 _ ih=>obtain⟨q1,q2⟩:=zqq h1;obtain⟨q3,q4⟩:=ih;refine⟨q1.trans q3,?_⟩;rw[fq c q1.1 _ q3.1];omega
theorem Rw.nil(c:List Int)(i:Nat):Rw c i i:=⟨sU _,fun m h1 h2=>by omega⟩
theorem Rw.snoc{c:List Int}{i k:Nat}{z:Int}(h:Rw c i k)(h1:c[k]?=some z)(h2:bb z=true):Rw c i (k+1):=⟨Nat.le_succ_of_le h.1,fun m h3 h4=>by
 rcases ui m k with e|e
 ·exact h.2 m h3 e
 ·obtain rfl:m=k:=by omega
  exact⟨z,h1,(mX z).1 h2⟩⟩
def Ev(c:List Int)(i k:Nat):Prop:=Rw c i k\/∃j x m,Rw c i j/\cj (aX c nh) j x/\c[x]?=some 7/\Rw c (x+1) m/\c[m]?=some 7/\Rw c (m+1) k
def Od(c:List Int)(i k:Nat):Prop:=∃j x,Rw c i j/\cj (aX c nh) j x/\c[x]?=some 7/\Rw c (x+1) k
theorem zrt{c:List Int}{i k:Nat}(h:Ev c i k):∃j,Rw c i j/\cj (aX c nh) j k:=by
 rcases h with h|⟨j,x,m,h1,h2,h3,h4,h5,h6⟩
 ·exact⟨k,h,.refl k⟩
 ·exact⟨j,h1,h2.trans (.step ((ziK c x k).2 ⟨h3,m,h4,h5,h6⟩) (.refl k))⟩
theorem zsM(c:List Int)(i:Nat):∀k,Rg c i k->(cnt c i k%2=0->Ev c i k)/\(cnt c i k%2=1->Od c i k)
 |0,h=>by
  obtain rfl:i=0:=by have:=h.1;omega
  exact⟨fun _=>.inl (.nil c 0),fun e=>by rw[qI]at e;cases e⟩
 |k+1,h=>by
  rcases sY h.1 with e|e
  ·subst e;exact⟨fun _=>.inl (.nil c _),fun e=>by rw[qI]at e;cases e⟩
  ·obtain⟨h1,h2⟩:=zsM c i k ⟨by omega,fun m h3 h4=>h.2 m h3 (by omega)⟩;obtain⟨z,hz,hr⟩:=h.2 k (by omega) (by omega);have hzg:c.getD k 0=z:=by rw[sJ,hz];rfl
   rw[qG (by omega),hzg];unfold rgc at hr;cases h7:(z==7)with
   |true=>
    rw[if_pos rfl];have hz7:z=7:=eq_of_beq h7;subst hz7;constructor
    ·intro e2;obtain⟨j,x,k1,k2,k3,k4⟩:=h2 (by omega);exact .inr ⟨j,x,k,k1,k2,k3,k4,hz,.nil c _⟩
    ·intro e2;obtain⟨j,k1,k2⟩:=zrt (h1 (by omega));exact⟨j,k,k1,k2,hz,.nil c _⟩
   |false=>
    rw[if_neg (by simp),uj];rw[h7,ue]at hr;constructor
    ·intro e2;rcases h1 e2 with h3|⟨j,x,m,k1,k2,k3,k4,k5,k6⟩
     ·exact .inl (h3.snoc hz hr)
     ·exact .inr ⟨j,x,m,k1,k2,k3,k4,k5,k6.snoc hz hr⟩
    ·intro e2;obtain⟨j,x,k1,k2,k3,k4⟩:=h2 e2;exact⟨j,x,k1,k2,k3,k4.snoc hz hr⟩
theorem zbJ{c:List Int}{i k:Nat}(h:Od c i k):Rg c i k/\cnt c i k%2=1:=by obtain⟨j,x,h1,h2,h3,h4⟩:=h;obtain⟨q1,q2⟩:=zmP h2;have q3:=h1.1;have q4:=q1.1;have q5:=h4.1;refine⟨((h1.rg.trans q1).trans (Rg.one h3)).trans h4.rg,?_⟩;rw[fq c q3 k (by omega),fq c q4 k (by omega),fq c (by omega:x<=x+1) k (by omega),qH j h1,zcs h3,qH k h4];omega
theorem zsw(c:List Int)(i k:Nat):Od c i k ↔ Rg c i k/\cnt c i k%2=1:=⟨zbJ,fun h=>(zsM c i k h.1).2 h.2⟩
theorem zuP(c:List Int)(i k:Nat):aX c pn i k ↔ Od c i k:=by
 unfold pn Od;simp only[zkQ,mJ,mK,zkP,mz,rG,sZ];have e:(fun i j=>aX c (.mk 2 [] [(.mk 1 [7] []),(.mk 4 [] [(.mk 1 [4,5,6] [])]),(.mk 1 [7] []),(.mk 4 [] [(.mk 1 [4,5,6] [])])]) i j)=aX c nh:=rfl;constructor
 ·rintro ⟨j,h1,x,h2,_,⟨rfl,z,h3,rfl⟩,_,h4,rfl⟩;exact⟨j,x,h1,h2,h3,h4⟩
 ·rintro ⟨j,x,h1,h2,h3,h4⟩;exact⟨j,h1,x,h2,_,⟨rfl,7,h3,rfl⟩,k,h4,rfl⟩
theorem zny(c:List Int):∀k,k<=c.length->∀o,kM (ke c k) o=(o != (cnt c (stp c rgc k) k%2==1))
 |0,_,o=>by cases o<;>rfl
 |k+1,hk,o=>by
  have hle:=stp_le c rgc k;have ih:=zny c k (by omega);rw[nQ (by omega)];unfold kM stp;cases h7:(c.getD k 0==7)with
  |true=>
   have hr:rgc (c.getD k 0)=true:=by unfold rgc;rw[h7];rfl
   rw[if_pos rfl,if_pos hr,ih (!o),qG hle,h7,if_pos rfl];generalize cnt c (stp c rgc k) k=n;rcases tA n with e|e
   ·rw[e,show(n+1)%2=1 by omega];cases o<;>rfl
   ·rw[e,show(n+1)%2=0 by omega];cases o<;>rfl
  |false=>
   cases hc:bb (c.getD k 0)with
   |true=>
    have hr:rgc (c.getD k 0)=true:=by unfold rgc;rw[hc,tV]
    rw[if_neg (by simp),if_pos rfl,if_pos hr,ih o,qG hle,h7,if_neg (by simp),uj]
   |false=>
    have hr:rgc (c.getD k 0)=false:=by unfold rgc;rw[h7,hc];rfl
    rw[if_neg (by simp),if_neg (by simp),if_neg (by rw[hr];simp),qI];cases o<;>rfl
def Cls(c:List Int):Prop:=∀z∈c,0<=z/\z<=19
def LR:List Int:=[0,1,2,3,8,9,10,11,12,13,14,15,16,17,18,19]
theorem zsz{z:Int}(h:0<=z/\z<=19):z∈LR ↔ rgc z=false:=by
 obtain⟨n,rfl⟩:∃n:Nat,z=n:=⟨z.toNat,by omega⟩;have H:((t8 20).all fun(n:Nat)=>decide ((n:Int)∈LR)== !rgc (n:Int))=true:=by decide
 have h1:=eq_of_beq (tf.1 H n (tP.2 (by omega)));rw[<-decide_eq_true_iff (p:=(n:Int)∈LR),h1];simp
def Od2(c:List Int)(k:Nat):Prop:=∃i,(∃z,c[i]?=some z/\z∈LR)/\Od c (i+1) k
theorem zxb(c:List Int)(k:Nat):En c ni k ↔ Od2 c k:=by
 have e:∀i,aX c ni i k ↔ (∃z,c[i]?=some z/\z∈LR)/\Od c (i+1) k:=fun i=>by
  unfold ni Od LR;simp only[zkQ,mJ,mK,zkP,mz,rG];constructor
  ·rintro ⟨_,⟨rfl,h0⟩,j,h1,x,h2,_,⟨rfl,z,h3,hz⟩,_,h4,rfl⟩;rw[sZ]at hz;subst hz;exact⟨h0,j,x,h1,h2,h3,h4⟩
  ·rintro ⟨h0,j,x,h1,h2,h3,h4⟩;exact⟨_,⟨rfl,h0⟩,j,h1,x,h2,_,⟨rfl,7,h3,by simp⟩,k,h4,rfl⟩
 unfold En Od2;constructor
 ·rintro ⟨i,_,h⟩;exact⟨i,(e i).1 h⟩
 ·rintro ⟨i,h⟩;have:=(zbJ h.2).1.1;exact⟨i,by omega,(e i).2 h⟩
theorem znj{c:List Int}{i k:Nat}(h:Rg c i k)(h2:i=0\/rgc (c.getD (i-1) 0)=false):stp c rgc k=i:=
 zgj h.1 (fun m h3 h4=>by obtain⟨z,h5,h6⟩:=h.2 m h3 h4;rw[sJ,h5];exact h6) h2
theorem zuG{c:List Int}(hc:Cls c){k:Nat}(hk:k<=c.length):(Od c 0 k\/Od2 c k) ↔ kM (ke c k) false=true:=by
 have hle:=stp_le c rgc k;rw[zny c k hk];have hrg:Rg c (stp c rgc k) k:=⟨hle,fun m h1 h2=>⟨_,fh (by omega),pB c rgc k m h1 h2⟩⟩;constructor
 ·rintro (h|⟨i,⟨z,h1,h2⟩,h3⟩)
  ·obtain⟨h4,h5⟩:=zbJ h;rw[znj h4 (.inl rfl),h5];rfl
  ·obtain⟨h4,h5⟩:=zbJ h3;have hz:c.getD i 0=z:=by rw[sJ,h1];rfl
   rw[znj h4 (.inr (by rw[sS,hz];exact(zsz (hc z (te h1))).1 h2)),h5];rfl
 ·intro h;have ho:cnt c (stp c rgc k) k%2=1:=by
   rcases tA (cnt c (stp c rgc k) k)with e|e
   ·rw[e]at h;cases h
   ·exact e
  rcases Nat.eq_zero_or_pos (stp c rgc k)with e|e
  ·left;rw[e]at hrg ho;exact(zsw c 0 k).2 ⟨hrg,ho⟩
  ·right;obtain⟨i,hi⟩:∃i,stp c rgc k=i+1:=⟨stp c rgc k-1,by omega⟩;have ht:=zbj c rgc k e;rw[hi]at hrg ho ht hle;rw[sS]at ht;have hg:=fh (c:=c) (i:=i) (by omega);exact⟨i,⟨_,hg,(zsz (hc _ (te hg))).2 ht⟩,(zsw c (i+1) k).2 ⟨hrg,ho⟩⟩
theorem p6:∀A:List Int,kM A false=true->(A.dropWhile bb).headD 0=7
 |[],h=>by cases h
 |z::l,h=>by
  unfold kM at h;cases h7:(z==7)with
  |true=>have:z=7:=eq_of_beq h7;subst this;rfl
  |false=>
   rw[h7,if_neg (by simp)]at h;cases hc:bb z with
   |true=>rw[hc,if_pos rfl]at h;rw[sX hc];exact p6 l h
   |false=>rw[hc,if_neg (by simp)]at h;cases h
def ltr(c:Int):Bool:=c==10||c==9
def eB(c:Int):Bool:=c==1||c==2||c==3
def tog(a b:Int):Bool:=
 if a==10 then ltr b||b==16||b==17 else if a==16 then ltr b||b==16||b==17 else if a==9 then ltr b||b==16||b==17||b==11 else
 if a==8 then b==8||b==17 else if a==17 then ltr b||b==8||b==16||b==17 else false
def mdl(c:Int):Bool:=c==14||c==15||c==13||c==11||c==12
def zvn(m:Int)(al a16 a9 bl b16 b9:Bool):Bool:=if m==14 then al&&bl else if m==15 then a16&&b16 else if m==13 then al&&bl||a16&&b16 else if m==11 then al&&bl||a16&&b16 else if m==12 then a9&&b9 else false
def bri(a m b:Int):Bool:=
 if m==14 then ltr a&&ltr b else if m==15 then a==16&&b==16 else if m==13 then ltr a&&ltr b||a==16&&b==16 else if m==11 then ltr a&&ltr b||a==16&&b==16 else if m==12 then a==9&&b==9 else false
theorem zpm(a m b:Int):bri a m b=zvn m (ltr a) (a==16) (a==9) (ltr b) (b==16) (b==9):=rfl
def wjL(A B:List Int):Bool:=
 if tog ((A.dropWhile bb).headD 0) (B.headD 0)then true else
 if (A.dropWhile bb).headD 0==7&&B.headD 0==7 then kM A false else
 if mdl (B.headD 0)then bri ((A.dropWhile bb).headD 0) (B.headD 0) ((B.tail.dropWhile bb).headD 0)else
 if mdl ((A.dropWhile bb).headD 0)then bri (((A.dropWhile bb).tail.dropWhile bb).headD 0) ((A.dropWhile bb).headD 0) (B.headD 0)else false
def wcL(A B:List Int):Bool:=
 if A.headD 0==1&&B.headD 0==2 then false else if eB (A.headD 0)then true else if eB (B.headD 0)then true else
 if A.headD 0==5&&B.headD 0==19 then false else if A.headD 0==18&&B.headD 0==18 then false else
 if bb (B.headD 0)then false else !wjL A B
def wdE(b s:Int)(fl f16 f9 nl n16 n9 o0 o1:Bool):Bool:=bif (ltr s)&&(ltr b)then false else bif (ltr s)&&((b==11||(b==13||b==14))&&nl)then false else bif ((s==11||(s==13||s==14))&&fl)&&(ltr b)then false else bif (s==9)&&(b==11)then false else bif (s==9)&&((b==12)&&n9)then false else bif ((s==12)&&f9)&&(b==9)then false else bif (s==16)&&(b==16)then false else bif (ltr s)&&(b==16)then false else bif (s==16)&&(ltr b)then false else bif ((s==11||(s==13||s==15))&&f16)&&(b==16)then false else bif (s==16)&&((b==11||(b==13||b==15))&&n16)then false else bif (s==8)&&(b==8)then false else bif ((s==8||(s==9||(s==10||(s==16||s==17)))))&&(b==17)then false else bif (s==17)&&((b==8||(b==9||(b==10||b==16))))then false else bif o0&&b==7 then false else bif o1&&b==7 then false else true
def wdF(b s:Int)(fl f16 f9 nl n16 n9 o:Bool):Bool:=
 !(if tog s b then true else if s==7&&b==7 then o else if mdl b then zvn b (ltr s) (s==16) (s==9) nl n16 n9 else if mdl s then zvn s fl f16 f9 (ltr b) (b==16) (b==9)else false)
def al2(p:Bool->Bool):Bool:=p true&&p false
theorem iZ{p:Bool->Bool}(h:al2 p=true)(x:Bool):p x=true:=by
 unfold al2 at h;rw[sE]at h;cases x
 ·exact h.2
 ·exact h.1
def wdB(b s:Int):Bool:=al2 fun fl=>al2 fun f16=>al2 fun f9=>al2 fun nl=>al2 fun n16=>al2 fun n9=>al2 fun o0=>al2 fun o1=>((o0||o1)&& !(s==7))||(wdE b s fl f16 f9 nl n16 n9 o0 o1==wdF b s fl f16 f9 nl n16 n9 (o0||o1))
theorem zqj:((t8 20).all fun b=>(t8 20).all fun s=>wdB b s)=true:=by decide+kernel
theorem zud{b s:Int}(hb:0<=b/\b<=19)(hs:0<=s/\s<=19)(fl f16 f9 nl n16 n9 o0 o1:Bool)(ho:(o0||o1)=true->s=7):wdE b s fl f16 f9 nl n16 n9 o0 o1=wdF b s fl f16 f9 nl n16 n9 (o0||o1):=by
 obtain⟨bn,rfl⟩:∃n:Nat,b=n:=⟨b.toNat,by omega⟩;obtain⟨sn,rfl⟩:∃n:Nat,s=n:=⟨s.toNat,by omega⟩;have k1:=tf.1 zqj bn (tP.2 (by omega));have k2:=tf.1 k1 sn (tP.2 (by omega));unfold wdB at k2;have k3:=iZ (iZ (iZ (iZ (iZ (iZ (iZ (iZ k2 fl) f16) f9) nl) n16) n9) o0) o1;rw[sQ]at k3;rcases k3 with k|k
 ·rw[sE]at k;have:=ho k.1;rw[this]at k;exact absurd k.2 (by decide)
 ·exact eq_of_beq k
theorem nH(x t:Int):x∈ [t] ↔ (x==t)=true:=by rw[sZ,beq_iff_eq]
theorem zeF(x:Int):x∈([9,10]:List Int) ↔ ltr x=true:=by unfold ltr;simp only[sW,sV,or_false,sQ,beq_iff_eq];omega
theorem zwH(x:Int):x∈([11,13,14]:List Int) ↔ (x==11||(x==13||x==14))=true:=by simp only[sW,sV,or_false,sQ,beq_iff_eq]
theorem zwG(x:Int):x∈([11,13,15]:List Int) ↔ (x==11||(x==13||x==15))=true:=by simp only[sW,sV,or_false,sQ,beq_iff_eq]
theorem m_a5(x:Int):x∈([8,9,10,16,17]:List Int) ↔ (x==8||(x==9||(x==10||(x==16||x==17))))=true:=by simp only[sW,sV,or_false,sQ,beq_iff_eq]
theorem m_a4(x:Int):x∈([8,9,10,16]:List Int) ↔ (x==8||(x==9||(x==10||x==16)))=true:=by simp only[sW,sV,or_false,sQ,beq_iff_eq]
theorem zsZ{c:List Int}(hc:Cls c){k:Nat}(hk:0<k)(hkn:k<c.length):dcd true c k rh=wcL (c.take k).reverse (c.drop k):=by
 have hkl:k<=c.length:=uh hkn;have ha:c[k-1]?=some (c.getD (k-1) 0):=fh (by omega);have hb:c[k]?=some (c.getD k 0):=fh hkn;have hA:(c.take k).reverse=ke c k:=rfl;have hAh:(ke c k).headD 0=c.getD (k-1) 0:=by obtain⟨j,rfl⟩:∃j,k=j+1:=⟨k-1,by omega⟩;rw[nQ (by omega),sH,sS]
 have hd:c.drop k=c.getD k 0::c.drop (k+1):=by rw[tD hkn,sJ,sL hkn];rfl
 have cA:=hc _ (te ha);have cB:=hc _ (te hb);have clA:∀z∈ke c k,0<=z/\z<=19:=fun z hz=>hc z (List.mem_of_mem_take (tY.1 hz));have cS:0<=((ke c k).dropWhile bb).headD 0/\((ke c k).dropWhile bb).headD 0<=19:=by
  cases e:(ke c k).dropWhile bb with
  |nil=>exact⟨by simp,by simp⟩
  |cons z Z=>exact clA z ((List.dropWhile_sublist _).subset (by rw[e];simp))
 have hO:=zuG hc hkl;have hOb:=p6 (ke c k);have nz:∀{T:List Int},(T.all fun z=> !bb z&& !(z==0))=true->∀z∈T,bb z=false/\z≠0:=fun h z hz=>by have:=tf.1 h z hz;rw[sE]at this;exact⟨by simpa using this.1,by simpa using this.2⟩
 have L1:∀(T:List Int),(T.all fun z=> !bb z&& !(z==0))=true->(En c (.mk 2 [] [(.mk 1 T []),(.mk 4 [] [(.mk 1 [4,5,6] [])])]) k ↔ ((ke c k).dropWhile bb).headD 0∈T):=fun T h=>(zxa c T k).trans (enr (nz h) hkl);have L2:∀(T M:List Int),(T.all fun z=> !bb z&& !(z==0))=true->(M.all fun z=> !bb z&& !(z==0))=true->(En c (.mk 2 [] [(.mk 1 T []),(.mk 4 [] [(.mk 1 [4,5,6] [])]),(.mk 1 M []),(.mk 4 [] [(.mk 1 [4,5,6] [])])]) k ↔ (((ke c k).dropWhile bb).headD 0∈M/\((((ke c k).dropWhile bb).tail).dropWhile bb).headD 0∈T)):=fun T M h h2=>zwZ (nz h) (nz h2) hkl;have R1:∀(T:List Int),Sw c (.mk 1 T []) k ↔ c.getD k 0∈T:=fun T=>by rw[sw_1,hb];exact⟨fun⟨z,h1,h2⟩=>by cases h1;exact h2,fun h=>⟨_,rfl,h⟩⟩
 have R2:∀(T U:List Int),(U.all fun z=> !bb z&& !(z==0))=true->(Sw c (.mk 2 [] [(.mk 1 T []),(.mk 4 [] [(.mk 1 [4,5,6] [])]),(.mk 1 U [])]) k ↔ (c.getD k 0∈T/\((c.drop (k+1)).dropWhile bb).headD 0∈U)):=fun T U h=>by rw[zws (nz h),hb];exact and_congr_left fun _=>⟨fun⟨z,h1,h2⟩=>by cases h1;exact h2,fun h=>⟨_,rfl,h⟩⟩
 have A1:∀(T:List Int),En c (.mk 1 T []) k ↔ c.getD (k-1) 0∈T:=fun T=>by rw[en_1 hk,ha];exact⟨fun⟨z,h1,h2⟩=>by cases h1;exact h2,fun h=>⟨_,rfl,h⟩⟩
 have A0:=en_0 c k;have S0:=sw_0 c hkl;have e2:wcL (c.take k).reverse (c.drop k)=(if c.getD (k-1) 0==1&&c.getD k 0==2 then false else if eB (c.getD (k-1) 0)then true else if eB (c.getD k 0)then true else
   if c.getD (k-1) 0==5&&c.getD k 0==19 then false else if c.getD (k-1) 0==18&&c.getD k 0==18 then false else if bb (c.getD k 0)then false else
   wdF (c.getD k 0) (((ke c k).dropWhile bb).headD 0) (ltr ((((ke c k).dropWhile bb).tail.dropWhile bb).headD 0)) (((((ke c k).dropWhile bb).tail.dropWhile bb).headD 0)==16) (((((ke c k).dropWhile bb).tail.dropWhile bb).headD 0)==9) (ltr (((c.drop (k+1)).dropWhile bb).headD 0)) ((((c.drop (k+1)).dropWhile bb).headD 0)==16) ((((c.drop (k+1)).dropWhile bb).headD 0)==9) (kM (ke c k) false)):=by
  unfold wcL wjL wdF;rw[hA,hAh,hd,sH,td,zpm,zpm]
 rw[e2];clear e2 hA hAh hd clA nz hc;generalize c.getD (k-1) 0=a at cA A1;generalize c.getD k 0=b at cB R1 R2;generalize ((ke c k).dropWhile bb).headD 0=s at cS L1 L2 hOb;generalize (((ke c k).dropWhile bb).tail.dropWhile bb).headD 0=fu at L2;generalize ((c.drop (k+1)).dropWhile bb).headD 0=on at R2;obtain⟨o0,ho0⟩:∃o:Bool,Od c 0 k ↔ o=true:=by
  by_cases h:Od c 0 k
  ·exact⟨true,by simp[h]⟩
  ·exact⟨false,by simp[h]⟩
 obtain⟨o1,ho1⟩:∃o:Bool,Od2 c k ↔ o=true:=by
  by_cases h:Od2 c k
  ·exact⟨true,by simp[h]⟩
  ·exact⟨false,by simp[h]⟩
 have hoo:kM (ke c k) false=(o0||o1):=by rw[Bool.eq_iff_iff,sQ,<-ho0,<-ho1];exact hO.symm
 have tail:dcd true c k [⟨false,false,false,kR,kQ⟩,⟨false,false,false,kR,sq⟩,⟨false,false,false,sk,kQ⟩,⟨false,false,false,jJ,sj⟩,⟨false,false,false,jJ,si⟩,⟨false,false,false,sh,sg⟩,⟨false,false,false,eY,eX⟩,⟨false,false,false,kR,eX⟩,⟨false,false,false,eY,kQ⟩,⟨false,false,false,sf,eX⟩,⟨false,false,false,eY,se⟩,⟨false,false,false,sb,sa⟩,⟨false,false,false,rY,rX⟩,⟨false,false,false,rW,rV⟩,⟨false,true,false,pn,jI⟩,⟨false,false,false,ni,jI⟩]=wdE b s (ltr fu) (fu==16) (fu==9) (ltr on) (on==16) (on==9) o0 o1:=by unfold wdE;rw[aU (d:=(ltr s)&&(ltr b)) (by rw[aM];unfold kR kQ;rw[L1 _ (by decide),R1,zeF s,zeF b];simp only[sE])];rw[aU (d:=(ltr s)&&((b==11||(b==13||b==14))&&ltr on)) (by rw[aM];unfold kR sq;rw[L1 _ (by decide),R2 _ _ (by decide),zeF s,zwH b,zeF on];simp only[sE])];rw[aU (d:=((s==11||(s==13||s==14))&&ltr fu)&&(ltr b)) (by rw[aM];unfold sk kQ;rw[L2 _ _ (by decide) (by decide),R1,zwH s,zeF fu,zeF b];simp only[sE])];rw[aU (d:=(s==9)&&(b==11)) (by rw[aM];unfold jJ sj;rw[L1 _ (by decide),R1,nH s 9,nH b 11];simp only[sE])];rw[aU (d:=(s==9)&&((b==12)&&(on==9))) (by rw[aM];unfold jJ si;rw[L1 _ (by decide),R2 _ _ (by decide),nH s 9,nH b 12,nH on 9];simp only[sE])];rw[aU (d:=((s==12)&&(fu==9))&&(b==9)) (by rw[aM];unfold sh sg;rw[L2 _ _ (by decide) (by decide),R1,nH s 12,nH fu 9,nH b 9];simp only[sE])];rw[aU (d:=(s==16)&&(b==16)) (by rw[aM];unfold eY eX;rw[L1 _ (by decide),R1,nH s 16,nH b 16];simp only[sE])];rw[aU (d:=(ltr s)&&(b==16)) (by rw[aM];unfold kR eX;rw[L1 _ (by decide),R1,zeF s,nH b 16];simp only[sE])];rw[aU (d:=(s==16)&&(ltr b)) (by rw[aM];unfold eY kQ;rw[L1 _ (by decide),R1,nH s 16,zeF b];simp only[sE])];rw[aU (d:=((s==11||(s==13||s==15))&&(fu==16))&&(b==16)) (by rw[aM];unfold sf eX;rw[L2 _ _ (by decide) (by decide),R1,zwG s,nH fu 16,nH b 16];simp only[sE])];rw[aU (d:=(s==16)&&((b==11||(b==13||b==15))&&(on==16))) (by rw[aM];unfold eY se;rw[L1 _ (by decide),R2 _ _ (by decide),nH s 16,zwG b,nH on 16];simp only[sE])];rw[aU (d:=(s==8)&&(b==8)) (by rw[aM];unfold sb sa;rw[L1 _ (by decide),R1,nH s 8,nH b 8];simp only[sE])];rw[aU (d:=((s==8||(s==9||(s==10||(s==16||s==17)))))&&(b==17)) (by rw[aM];unfold rY rX;rw[L1 _ (by decide),R1,m_a5 s,nH b 17];simp only[sE])];rw[aU (d:=(s==17)&&((b==8||(b==9||(b==10||b==16))))) (by rw[aM];unfold rW rV;rw[L1 _ (by decide),R1,nH s 17,m_a4 b];simp only[sE])];rw[aU (d:=o0&&b==7) (by rw[zll,zuP,ho0];unfold jI;rw[R1,sE,beq_iff_eq,sZ])];rw[aU (d:=o1&&b==7) (by rw[aM,zxb,ho1];unfold jI;rw[R1,sE,beq_iff_eq,sZ])];rw[zrA]
 rw[hoo,<-zud cB cS (ltr fu) (fu==16) (fu==9) (ltr on) (on==16) (on==9) o0 o1 (fun h=>hOb (by rw[hoo];exact h)),<-tail];unfold rh;rw[aU (d:=a==1&&b==2) (by rw[aM];unfold zmv zmt;rw[A1,R1,nH a 1,nH b 2,sE])];rw[aU (d:=eB a) (by rw[aM];unfold zdo pk;rw[A1];simp only[S0,and_true,sW,sV,or_false,eB,sQ,beq_iff_eq];omega)];rw[aU (d:=eB b) (by rw[aM];unfold zdo pk;rw[R1];simp only[A0,true_and,sW,sV,or_false,eB,sQ,beq_iff_eq];omega)];rw[aU (d:=a==5&&b==19) (by rw[aM];unfold zlV zlT;rw[A1,R1,nH a 5,nH b 19,sE])];rw[aU (d:=a==18&&b==18) (by rw[aM];unfold zfX;rw[A1,R1,nH a 18,nH b 18,sE])];rw[aU (d:=bb b) (by rw[aM];unfold pk zlQ;rw[R1,mX];simp only[A0,true_and])];simp only[Bool.cond_eq_ite]
end Wo
end
section
namespace Wo
theorem nft:¬(false=true):=by simp
theorem zcn{p:Int->Bool}:∀{l:List Int},l.dropWhile p=[] ↔ ∀x∈l,p x=true
 |[]=>by simp
 |z::l=>by
  cases h:p z with
  |true=>rw[sX h,zcn (l:=l)];simp[h]
  |false=>rw[sT (by rw[h];simp)];simp[h]
theorem zmA{p:Int->Bool}:∀{l:List Int} {x:Int},x∈l.takeWhile p->p x=true
 |[],x,h=>by cases h
 |z::l,x,h=>by
  cases hz:p z with
  |true=>
   rw[List.takeWhile_cons_of_pos hz]at h;rcases sW.1 h with rfl|h
   ·exact hz
   ·exact zmA h
  |false=>rw[List.takeWhile_cons_of_neg (by rw[hz];simp)]at h;cases h
theorem zez(z:Int)(l:List Int)(o:Bool):kM (z::l) o=if z==7 then kM l (!o)else if bb z then kM l o else o:=rfl
theorem zbH:∀(Y:List Int)(o:Bool),kM Y (!o)= !kM Y o
 |[],o=>rfl
 |y::Y,o=>by
  unfold kM;split
  ·exact zbH Y (!o)
  ·split
   ·exact zbH Y o
   ·rfl
theorem zbI:∀(X Y:List Int)(o:Bool),X.all rgc=true->kM (X++Y) o=kM Y (kM X o)
 |[],Y,o,_=>rfl
 |x::X,Y,o,h=>by
  rw[tS,sE]at h;rw[tg,zez,zez];cases h7:(x==7)with
  |true=>rw[if_pos rfl,if_pos rfl];exact zbI X Y (!o) h.2
  |false=>
   have hc:bb x=true:=by have:=h.1;unfold rgc at this;rw[h7,ue]at this;exact this
   rw[if_neg nft,if_neg nft,if_pos hc,if_pos hc];exact zbI X Y o h.2
theorem p5:∀(X Y:List Int)(o:Bool),X.all rgc=false->kM (X++Y) o=kM X o
 |[],Y,o,h=>by cases h
 |x::X,Y,o,h=>by
  rw[tg,zez,zez];cases h7:(x==7)with
  |true=>
   have:X.all rgc=false:=by rw[tS]at h;unfold rgc at h;rw[h7,Bool.true_or,uf]at h;exact h
   rw[if_pos rfl,if_pos rfl];exact p5 X Y (!o) this
  |false=>
   rw[if_neg nft,if_neg nft];cases hc:bb x with
   |true=>
    have:X.all rgc=false:=by rw[tS]at h;unfold rgc at h;rw[h7,hc,tV,uf]at h;exact h
    rw[if_pos rfl,if_pos rfl];exact p5 X Y o this
   |false=>rw[if_neg nft,if_neg nft]
theorem jA{y:Int}(h:eB y=true):y=1\/y=2\/y=3:=by unfold eB at h;simpa[or_assoc]using h
theorem zvj{y:Int}(h:bb y=true):y=4\/y=6\/y=5:=by unfold bb at h;simpa[or_assoc]using h
theorem zsQ(m b:Int):bri 0 m b=false:=by unfold bri;simp[ltr]
theorem zcu{y:Int}(h:eB y=true)(m b:Int):bri y m b=false:=by rcases jA h with rfl|rfl|rfl<;>simp[bri,ltr]
theorem zwp(b:Int):tog 0 b=false:=by simp[tog]
theorem zqs{y:Int}(h:eB y=true)(b:Int):tog y b=false:=by rcases jA h with rfl|rfl|rfl<;>simp[tog]
theorem zqT{y:Int}(h:eB y=true):mdl y=false:=by rcases jA h with rfl|rfl|rfl<;>rfl
theorem zju{y:Int}(h:eB y=true):bb y=false:=by rcases jA h with rfl|rfl|rfl<;>rfl
theorem zrD{Y R:List Int}{x:Int}(hx:bb x=true)(h:wcL Y (x::R)=true):eB (Y.headD 0)=true:=by
 unfold wcL at h;rw[sH,hx]at h;rcases zvj hx with rfl|rfl|rfl<;>
 ·cases he:eB (Y.headD 0)with
  |true=>rfl
  |false=>rw[he]at h;simp[eB]at h
theorem qQ{Y:List Int}(h:eB (Y.headD 0)=true):(Y.dropWhile bb).headD 0=Y.headD 0:=by
 cases Y with
 |nil=>rfl
 |cons y Y=>rw[sH]at h;rw[sT (by rw[zju h];simp)]
theorem ziB{Y:List Int}(h:eB (Y.headD 0)=true)(o:Bool):kM Y o=o:=by
 cases Y with
 |nil=>rfl
 |cons y Y=>rw[sH]at h;unfold kM;rw[if_neg (by rcases jA h with rfl|rfl|rfl<;>decide),if_neg (by rw[zju h];simp)]
theorem zpe{Y R:List Int}{x:Int}(hc:bb x=false)(he:eB x=false)(h19:x≠19)(h18:x≠18)(h:wcL Y (x::R)=true):eB (Y.headD 0)=true\/wjL Y (x::R)=false:=by
 unfold wcL at h;rw[sH,hc,he]at h;cases hy:eB (Y.headD 0)with
 |true=>exact .inl rfl
 |false=>
  right;rw[hy]at h;have e19:(x==19)=false:=beq_eq_false_iff_ne.2 h19;have e18:(x==18)=false:=beq_eq_false_iff_ne.2 h18;rw[e19,e18,tQ,tQ]at h;split at h
  ·cases h
  ·simpa using h
theorem zue(X Y B:List Int)(hX:X≠ [])(hB:B≠ [])(hb:Y=[]\/wcL Y (X.reverse++B)=true):wcL (X++Y) B=wcL X B:=by
 rcases hb with rfl|hb
 ·rw[List.append_nil]
 obtain⟨a,X',rfl⟩:=tB hX;obtain⟨b,B',rfl⟩:=tB hB;cases hcb:bb b with
 |true=>unfold wcL;rw[tg,sH,sH,sH,if_pos hcb,if_pos hcb]
 |false=>
  have hj:wjL (a::X'++Y) (b::B')=wjL (a::X') (b::B'):=by
   generalize a::X'=X at hX hb;obtain⟨U,x0,rfl⟩:∃U x0,X=U++[x0]:=by
    rcases tN X with h|⟨U,x0,h⟩
    ·exact absurd h hX
    ·exact⟨U,x0,by rw[h,tO]⟩
   rw[tR,List.reverse_singleton,List.singleton_append,tg]at hb;have hE:bb x0=true->eB (Y.headD 0)=true:=fun h=>zrD h hb;have hda:(U++[x0]++Y).dropWhile bb=if ((U++[x0]).dropWhile bb).isEmpty then Y.dropWhile bb else (U++[x0]).dropWhile bb++Y:=tq
   cases hD:(U++[x0]).dropWhile bb with
   |nil=>
    have hx:=zcn.1 hD x0 (by simp);have he:=hE hx;rw[hD]at hda;have hda2:(U++[x0]++Y).dropWhile bb=Y.dropWhile bb:=hda;have h1:wjL (U++[x0]++Y) (b::B')=false:=by
     unfold wjL;rw[hda2,qQ he,zqs he,zqT he,zcu he];have:(Y.headD 0==7)=false:=by rcases jA he with e|e|e<;>rw[e]<;>decide
     rw[this];simp
    have h2:wjL (U++[x0]) (b::B')=false:=by unfold wjL;rw[hD,ua,zwp,zsQ];simp[mdl]
    rw[h1,h2]
   |cons m Z=>
    have hm:bb m=false:=by have:=List.head?_dropWhile_not bb (U++[x0]);rw[hD]at this;simpa using this
    rw[hD]at hda;have hda2:(U++[x0]++Y).dropWhile bb=m::(Z++Y):=hda;have hodd:m=7->kM (U++[x0]++Y) false=kM (U++[x0]) false:=fun h7=>by
     cases hr:(U++[x0]).all rgc with
     |false=>exact p5 _ _ _ hr
     |true=>
      rw[zbI _ _ _ hr];have hY:kM Y false=false:=by
       cases hc:bb x0 with
       |true=>exact ziB (hE hc) false
       |false=>
        have hx:rgc x0=true:=tf.1 hr x0 (by simp);have hx7:x0=7:=by unfold rgc at hx;rw[hc,Bool.or_false]at hx;exact eq_of_beq hx
        subst hx7;rcases zpe (by decide) (by decide) (by decide) (by decide) hb with h|h
        ·exact ziB h false
        ·cases ho:kM Y false with
         |false=>rfl
         |true=>unfold wjL at h;rw[sH,p6 Y ho,ho]at h;simp[tog]at h
      cases kM (U++[x0]) false with
      |false=>exact hY
      |true=>have:=zbH Y false;rw[hY]at this;exact this
    have hfu:mdl m=true->bri (((Z++Y).dropWhile bb).headD 0) m b=bri ((Z.dropWhile bb).headD 0) m b:=fun hmd=>by
     have hza:(Z++Y).dropWhile bb=if (Z.dropWhile bb).isEmpty then Y.dropWhile bb else Z.dropWhile bb++Y:=tq
     cases hZ:Z.dropWhile bb with
     |cons z Z'=>rw[hZ]at hza;have hza2:(Z++Y).dropWhile bb=z::(Z'++Y):=hza;rw[hza2,sH,sH]
     |nil=>
      rw[hZ]at hza;have hza2:(Z++Y).dropWhile bb=Y.dropWhile bb:=hza;rw[hza2,ua,zsQ];cases hc:bb x0 with
      |true=>rw[qQ (hE hc)];exact zcu (hE hc) m b
      |false=>
       have hsp:(U++[x0]).takeWhile bb++m::Z=U++[x0]:=by rw[<-hD];exact List.takeWhile_append_dropWhile
       have hZn:Z=[]:=by
        rcases tN Z with h|⟨V,v,h⟩
        ·exact h
        ·exfalso;rw[tO]at h;have hv:bb v=true:=zcn.1 hZ v (by rw[h];simp);have h1:=tZ (show((U++[x0]).takeWhile bb++m::V)++[v]=U++[x0] by
          conv=>rhs;rw[<-hsp,h]
          simp) rfl
         have h2:v=x0:=by simpa using h1.2
         rw[h2,hc]at hv;cases hv
       subst hZn;have h1:=tZ hsp rfl;have hm0:m=x0:=by simpa using h1.2
       subst hm0;have hU:∀z∈U,bb z=true:=fun z hz=>by rw[<-h1.1]at hz;exact zmA hz
       have hb2:((U.reverse++b::B').dropWhile bb).headD 0=b:=by rw[tq,zcn.2 (fun z hz=>hU z (tY.1 hz))];show((b::B').dropWhile bb).headD 0=b;rw[sT (by rw[hcb];simp)];rfl
       have hmc:m=14\/m=15\/m=13\/m=11\/m=12:=by unfold mdl at hmd;simpa[or_assoc]using hmd
       rcases zpe hm (by rcases hmc with rfl|rfl|rfl|rfl|rfl<;>decide) (by omega) (by omega) hb with h|h
       ·rw[qQ h];exact zcu h m b
       ·unfold wjL at h;rw[sH,td,hb2,hmd]at h;have h7:(m==7)=false:=beq_eq_false_iff_ne.2 (by omega);rw[h7,tQ]at h;split at h
        ·cases h
        ·simpa using h
    unfold wjL;rw[hda2,hD,sH,sH,td,td,sH];cases h7:(m==7)with
    |true=>rw[hodd (eq_of_beq h7)];have:m=7:=eq_of_beq h7;subst this;rfl
    |false=>
     cases hmd:mdl m with
     |true=>rw[hfu hmd,ud];rfl
     |false=>rw[ud,if_neg nft,if_neg nft,if_neg nft,if_neg nft]
  unfold wcL;rw[hj,tg,sH,sH];rfl
end Wo
end
section
open Ev Go.RowKit
namespace Pt
def RlX(w:sI)(rs:List Rl)(xs:List sK):Prop:=∀(j:Nat)(r:Rl),rs[j]?=some r->∃l0 l1 l2 r0 r1 r2,xs[j*9]?=some (.bool r.brk)/\xs[j*9+1]?=some (.bool r.st)/\xs[j*9+2]?=some (.bool r.en)∧
 xs[j*9+3]?=some l0/\xs[j*9+4]?=some l1/\xs[j*9+5]?=some l2/\xs[j*9+6]?=some r0/\xs[j*9+7]?=some r1/\xs[j*9+8]?=some r2/\bX w r.left l0 l1 l2/\bX w r.right r0 r1 r2
theorem RlX.kt{w w':sI}{rs:List Rl}{xs:List sK}(h:RlX w rs xs)(ho:KtP w w'):RlX w' rs xs:=fun j r hj=>by obtain⟨l0,l1,l2,r0,r1,r2,a0,a1,a2,a3,a4,a5,a6,a7,a8,p1,p2⟩:=h j r hj;exact⟨l0,l1,l2,r0,r1,r2,a0,a1,a2,a3,a4,a5,a6,a7,a8,bX.kt ho _ _ _ _ p1,bX.kt ho _ _ _ _ p2⟩
structure dt(B:Nat)(w:sI)(X g nc:Nat)(vs:List sK)(vo:Option Addr)(n vc:Nat)(rs:List Rl)(xs:List sK)(rest rested:Bool):Prop where
 at_:w.heap[X]?=some (.cells #[.slice (some ⟨g,0,none⟩) vs.length nc,.slice vo n vc,.bool rest,.bool rested] 87 (0,0))
 nm:bu w g nc vs
 own:w.ownsRow B 107 9 (.slice vo n vc) n xs
 rul:RlX w rs xs
 hn:n=rs.length
 lx:B<=X
 lg:g<B
theorem dt.oth{B:Nat}{w w':sI}{X g nc:Nat}{vs:List sK}{vo:Option Addr}{n vc:Nat}{rs:List Rl}{xs:List sK}{rest rested:Bool}(h:dt B w X g nc vs vo n vc rs xs rest rested)(ho:Oth g w w')(hN:bu w' g nc vs):dt B w' X g nc vs vo n vc rs xs rest rested:=by have:=h.lx;have:=h.lg;refine⟨(ho.block X (ag h.at_) (by omega)).trans h.at_,hN,⟨h.own.1,h.own.2.imp (fun e=>e) fun⟨q,cap,cur,a1,a2,a3,a4⟩=>⟨q,cap,cur,a1,a2,(ho.block q (ag a3) (by omega)).trans a3,a4⟩⟩,h.rul.kt (h.nm.kt ho),h.hn,h.lx,h.lg⟩
theorem bu.below{w w':sI}{g nc:Nat}{vs:List sK}(h:bu w g nc vs)(hb:tz w.heap.size w w'):bu w' g nc vs:=by obtain⟨cur,h1,h2⟩:=h;exact⟨cur,(hb.block g (ag h1)).trans h1,h2⟩
theorem dt.below{B:Nat}{w w':sI}{X g nc:Nat}{vs:List sK}{vo:Option Addr}{n vc:Nat}{rs:List Rl}{xs:List sK}{rest rested:Bool}(h:dt B w X g nc vs vo n vc rs xs rest rested)(hb:tz w.heap.size w w'):dt B w' X g nc vs vo n vc rs xs rest rested:=h.oth (.of hb) (h.nm.below hb)
structure Fr(B g:Nat)(w w':sI):Prop where
 os:w'.os=w.os
 tape:w'.tape=w.tape
 output:w'.output=w.output
 size:w.heap.size<=w'.heap.size
 block:∀b,b<B->b≠g->w'.heap[b]?=w.heap[b]?
theorem Fr.trans{B g:Nat}{w v u:sI}(h:Fr B g w v)(k:Fr B g v u):Fr B g w u:=⟨k.os.trans h.os,k.tape.trans h.tape,k.output.trans h.output,tK h.size k.size,fun b hb hne=>(k.block b hb hne).trans (h.block b hb hne)⟩
theorem Fr.of{B g:Nat}{w w':sI}(h:Oth g w w')(hB:B<=w.heap.size):Fr B g w w':=⟨h.os,h.tape,h.output,h.size,fun b hb hne=>h.block b (by omega) hne⟩
def Fx(g X:Nat)(w w':sI):Prop:=∀(b:Nat)(o:Obj),w.heap[b]?=some o->b≠g->b≠X->(∀c fr,o≠ .cells c 107 fr)->w'.heap[b]?=some o
theorem Fx.trans{g X:Nat}{w v u:sI}(h:Fx g X w v)(k:Fx g X v u):Fx g X w u:=fun b o hb h1 h2 h3=>k b o (h b o hb h1 h2 h3) h1 h2 h3
theorem Fx.of{g X:Nat}{w w':sI}(h:Oth g w w'):Fx g X w w':=fun b _ hb h1 _ _=>(h.block b (ag hb) h1).trans hb
def LnQ(B:Nat)(w:sI)(X g nc:Nat)(vs:List sK)(rs:List Rl)(rest rested:Bool)(e:Ending)(w':sI):Prop:=e=.returned (.int .i64 0)/\Fr B g w w'/\Fx g X w w'/\∃vo n vc xs,dt B w' X g nc vs vo n vc rs xs rest rested
def aN(f:tX)(a v:sK):Prop:=∀W,sP Tryz.prog f #[a] W fun e w'=>e=.returned v/\tz W.heap.size W w'
theorem bX.shape{w:sI}:∀{p:aA} {v0 v1 v2:sK},bX w p v0 v1 v2->∃(o:Int)(co:Option Addr)(cn cc:Nat)(ko:Option Addr)(kn kc:Nat),v0=.int .i64 o/\v1=.slice co cn cc/\v2=.slice ko kn kc
 |.mk op cls kids,v0,v1,v2,h=>by unfold bX at h;obtain⟨h1,⟨co,cc,h2,h3,h4⟩,ko,kc,h5,h6,h7⟩:=h;exact⟨op,co,_,cc,ko,_,kc,h1,h2,h5⟩
theorem zdO(w:sI)(Z:Nat)(t:TypeId)(o:Obj)(a0 a1 a2 a3 a4 a5 a6 a7 a8 b3 b4 b5 b6 b7 b8:sK)(h:w.heap[Z]?=some (.cells #[a0,a1,a2,a3,a4,a5,a6,a7,a8] t (0,0)))(w8:sI)
  (hw:w8=((((((w.setCell ⟨Z,3,none⟩ b3).setCell ⟨Z,4,none⟩ b4).setCell ⟨Z,5,none⟩ b5).setCell ⟨Z,6,none⟩ b6).setCell ⟨Z,7,none⟩ b7).setCell ⟨Z,8,none⟩ b8).alloc o):
  w8.heap[Z]?=some (.cells #[a0,a1,a2,b3,b4,b5,b6,b7,b8] t (0,0))/\(∀b,b<w.heap.size->b≠Z->w8.heap[b]?=w.heap[b]?)/\w8.heap.size=w.heap.size+1/\w8.os=w.os/\w8.tape=w.tape/\w8.output=w.output:=by
 have hz:=ag h;obtain⟨u3,e3⟩:=aj (w.setCell ⟨Z,3,none⟩ b3);rw[<-e3]at hw;have k3:du Z w u3:=by rw[e3];exact du.set Z 3 w b3
 have h3:u3.heap[Z]?=some (.cells #[a0,a1,a2,b3,a4,a5,a6,a7,a8] t (0,0)):=by rw[e3,sO w Z 3 _ t b3 h];rfl
 obtain⟨u4,e4⟩:=aj (u3.setCell ⟨Z,4,none⟩ b4);rw[<-e4]at hw;have k4:du Z w u4:=by rw[e4];exact k3.trans (du.set Z 4 u3 b4)
 have h4:u4.heap[Z]?=some (.cells #[a0,a1,a2,b3,b4,a5,a6,a7,a8] t (0,0)):=by rw[e4,sO u3 Z 4 _ t b4 h3];rfl
 obtain⟨u5,e5⟩:=aj (u4.setCell ⟨Z,5,none⟩ b5);rw[<-e5]at hw;have k5:du Z w u5:=by rw[e5];exact k4.trans (du.set Z 5 u4 b5)
 have h5:u5.heap[Z]?=some (.cells #[a0,a1,a2,b3,b4,b5,a6,a7,a8] t (0,0)):=by rw[e5,sO u4 Z 5 _ t b5 h4];rfl
 obtain⟨u6,e6⟩:=aj (u5.setCell ⟨Z,6,none⟩ b6);rw[<-e6]at hw;have k6:du Z w u6:=by rw[e6];exact k5.trans (du.set Z 6 u5 b6)
 have h6:u6.heap[Z]?=some (.cells #[a0,a1,a2,b3,b4,b5,b6,a7,a8] t (0,0)):=by rw[e6,sO u5 Z 6 _ t b6 h5];rfl
 obtain⟨u7,e7⟩:=aj (u6.setCell ⟨Z,7,none⟩ b7);rw[<-e7]at hw;have k7:du Z w u7:=by rw[e7];exact k6.trans (du.set Z 7 u6 b7)
 have h7:u7.heap[Z]?=some (.cells #[a0,a1,a2,b3,b4,b5,b6,b7,a8] t (0,0)):=by rw[e7,sO u6 Z 7 _ t b7 h6];rfl
 obtain⟨u8,e8⟩:=aj (u7.setCell ⟨Z,8,none⟩ b8);rw[<-e8]at hw;have k8:du Z w u8:=by rw[e8];exact k7.trans (du.set Z 8 u7 b8)
 have h8:u8.heap[Z]?=some (.cells #[a0,a1,a2,b3,b4,b5,b6,b7,b8] t (0,0)):=by rw[e8,sO u7 Z 8 _ t b8 h7];rfl
 have kb:=af (w:=u8) (o:=o);rw[<-hw]at kb;have hs:w8.heap.size=u8.heap.size+1:=by rw[hw];simp
 exact⟨(kb.block Z (ag h8)).trans h8,fun b hb hne=>(kb.block b (by rw[k8.size];exact hb)).trans (k8.block b hne),by rw[hs,k8.size],kb.os.trans k8.os,kb.tape.trans k8.tape,kb.output.trans k8.output⟩
theorem Tryz.infoRule:(Tryz.prog.info? 107).map (fun i=>(i.zero,i.size,i.bytes))=some (some (.agg #[.bool false,.bool false,.bool false,.int .i64 0,.slice none 0 0,.slice none 0 0,.int .i64 0,.slice none 0 0,.slice none 0 0]),9,120):=by kernel_rfl
theorem Tryz.underRules:Tryz.prog.underlying 61=some (.slice 107):=by kernel_rfl
theorem RlX.snoc{w:sI}{rs:List Rl}{xs:List sK}{r:Rl}{l0 l1 l2 r0 r1 r2:sK}(h:RlX w rs xs)(hx:xs.length=rs.length*9)(p1:bX w r.left l0 l1 l2)(p2:bX w r.right r0 r1 r2):RlX w (rs++[r]) (xs++[.bool r.brk,.bool r.st,.bool r.en,l0,l1,l2,r0,r1,r2]):=fun j q hj=>by
 by_cases e:j<rs.length
 ·rw[tE e]at hj;obtain⟨k0,k1,k2,m0,m1,m2,a0,a1,a2,a3,a4,a5,a6,a7,a8,q1,q2⟩:=h j q hj;refine⟨k0,k1,k2,m0,m1,m2,?_,?_,?_,?_,?_,?_,?_,?_,?_,q1,q2⟩
  all_goals (rw[tE (by omega)];assumption)
 ·have e2:j=rs.length:=by have:=(sM.1 hj).1;simp at this;omega
  subst e2;rw[tC (sU _),Nat.sub_self]at hj;simp at hj;subst hj;refine⟨l0,l1,l2,r0,r1,r2,?_,?_,?_,?_,?_,?_,?_,?_,?_,p1,p2⟩
  all_goals (rw[tC (by omega)];rw[hx];simp)
theorem zsy(w:sI)(v:Array sK)(T:TypeId):∀j u,v.toList[j]?=some u->(w.alloc (.cells v T)).cell? ((⟨w.heap.size,0,none⟩:Addr).add j)=some u:=sI.news_of_block (cs:=v) (heap_alloc_new w _)
theorem dt.more{B:Nat}{w8 w9 w10 w11:sI}{X g nc:Nat}{vs:List sK}{vo:Option Addr}{n vc:Nat}{rs:List Rl}{xs ys:List sK}{rest:Bool}{r:Rl}{l0 l1 l2 r0 r1 r2:sK}{g8 c8:Nat}
  (h:dt B w8 X g nc vs vo n vc rs xs rest false) (p1:bX w8 r.left l0 l1 l2) (p2:bX w8 r.right r0 r1 r2) (hy:ys=[.bool r.brk,.bool r.st,.bool r.en,l0,l1,l2,r0,r1,r2]) (h9:tz w8.heap.size w8 w9) (o10:w10.ownsRow B 107 9 (.slice (some ⟨g8,0,none⟩) (n+1) c8) (n+1) (xs++ys)) (gr:sI.grownBy w9 w10 (ta vo n vc).ownBlock)
  (h11:w11=w10.setCell ⟨X,1,none⟩ (.slice (some ⟨g8,0,none⟩) (n+1) c8)):dt B w11 X g nc vs (some ⟨g8,0,none⟩) (n+1) c8 (rs++[r]) (xs++ys) rest false/\Fr B g w8 w11/\Fx g X w8 w11:=by
 have lx:=h.lx;have lg:=h.lg;have hX:=ag h.at_;have ow:∀q,(ta vo n vc).ownBlock=some q->B<=q/\∃cur,w8.heap[q]?=some (.cells cur 107 (0,0)):=fun q hq=>by
  rcases h.own.2 with ⟨c1,_⟩|⟨q',cap,cur,c1,c2,c3,_⟩
  ·rw[c1]at hq;cases hq
  ·rw[c1]at hq;cases hq;exact⟨c2,cur,c3⟩
 have st:∀b,b<w8.heap.size->(ta vo n vc).ownBlock≠some b->w10.heap[b]?=w8.heap[b]? :=fun b hb hne=>(gr.block b (sR hb h9.size) (fun e=>hne e.symm)).trans (h9.block b hb);have so:∀(b:Nat)(c:Array sK)(t:TypeId)(fr:Nat×Nat),w8.heap[b]?=some (.cells c t fr)->t≠107->w10.heap[b]?=some (.cells c t fr):=fun b c t fr hb ht=>(st b (ag hb) (fun e=>by obtain⟨_,cur,h3⟩:=ow b e;rw[hb]at h3;cases h3;exact ht rfl)).trans hb;have X10:=so X _ _ _ h.at_ (by decide);have k11:du X w10 w11:=by rw[h11];exact du.set X 1 w10 _
 have gX:(some g8:Option Nat)≠some X:=fun e=>by
  cases e;rcases o10.2 with ⟨c1,_⟩|⟨q',cap,cur,c1,c2,c3,_⟩
  ·cases c1
  ·cases c1;rw[X10]at c3;cases c3
 have kt:KtP w8 w11:=fun b c t fr hb ht=>(k11.block b (fun e=>by rw[e,h.at_]at hb;cases hb;rcases ht with ht|ht<;>cases ht)).trans (so b c t fr hb (by rcases ht with rfl|rfl<;>decide));have hx:xs.length=rs.length*9:=by have:=h.own.1;have:=h.hn;omega
 refine⟨⟨?_,?_,⟨o10.1,o10.2.imp (fun e=>e) fun⟨q,cap,cur,c1,c2,c3,c4⟩=>⟨q,cap,cur,c1,c2,(k11.block q (fun e=>by cases c1;exact gX (by rw[e]))).trans c3,c4⟩⟩,?_,by rw[h.hn];simp,lx,lg⟩,?_,fun b o hb h1 h2 h3=>(k11.block b h2).trans ((st b (ag hb) (fun e=>by obtain⟨_,cur,h4⟩:=ow b e;rw[hb]at h4;cases h4;exact h3 _ _ rfl)).trans hb)⟩
 ·rw[h11,sO w10 X 1 _ _ _ X10];rfl
 ·obtain⟨cur,h1,h2⟩:=h.nm;exact⟨cur,(k11.block g (by omega)).trans (so g cur 9 (0,0) h1 (by decide)),h2⟩
 ·rw[hy];exact(h.rul.kt kt).snoc hx (bX.kt kt _ _ _ _ p1) (bX.kt kt _ _ _ _ p2)
 ·refine⟨k11.os.trans (gr.os.trans h9.os),k11.tape.trans (gr.tape.trans h9.tape),k11.output.trans (gr.output.trans h9.output),?_,fun b hb hne=>?_⟩
  ·rw[k11.size];exact tK h9.size gr.size
  ·rw[k11.block b (by omega)];exact st b (by omega) (fun e=>by have:=(ow b e).1;omega)
set_option maxRecDepth 100000 in
theorem aL(B X g nc:Nat)(vs:List sK)(vo:Option Addr)(n vc:Nat)(rs:List Rl)(xs:List sK)(rest:Bool)(w:sI)(s p L R:List UInt8)(k:Nat)(brk:Bool)(pl pr:aA)(hX:dt B w X g nc vs vo n vc rs xs rest false)(hn9:n<=60)
  (h1:aN 103 (.string ⟨s.toArray⟩) (.string ⟨p.toArray⟩)) (h2:aN 104 (.string ⟨p.toArray⟩) (.int .i64 k)) (hk:k<p.length) (hp9:p.length<=10000) (hR8:R.length<=10000) (hb:((p[k].toNat:Int)==47)=brk)
  (h3:aN 105 (.string ((⟨p.toArray⟩:ByteArray).extract 0 k)) (.string ⟨L.toArray⟩)) (h4:aN 105 (.string ((⟨p.toArray⟩:ByteArray).extract (k+1) p.length)) (.string ⟨R.toArray⟩)) (hL:L≠ [114,101,115,116]) (hL9:L.head? ≠some 94) (hR9:R.getLast? ≠some 36)
  (h5:∀W,bu W g nc vs->sP Tryz.prog 106 #[.string ⟨L.toArray⟩,.slice (some ⟨g,0,none⟩) vs.length nc] W (i7 g nc vs W pl))
  (h6:∀W,bu W g nc vs->sP Tryz.prog 106 #[.string ⟨R.toArray⟩,.slice (some ⟨g,0,none⟩) vs.length nc] W (i7 g nc vs W pr)):
  sP Tryz.prog 72 #[.pointer (some ⟨X,0,none⟩),.string ⟨s.toArray⟩] w (LnQ B w X g nc vs (rs++[⟨brk,false,false,pl,pr⟩]) rest false):=by
 obtain⟨iR,hR0,hR1,hR2,hR3⟩:=info_parts Tryz.infoRule;have HIR:=aa (tr hR0 (tr hR1 (tr hR2 hR3)));clear hR0 hR1 hR2 hR3;have HX:=aa hX;have H1:=aa h1;have H2:=aa h2;have H3:=aa h3;have H4:=aa h4;have H5:=aa h5;have H6:=aa h6;clear hX h1 h2 h3 h4 h5 h6;go_enter Tryz.func72,Tryz.ntmps72;go_wp2_with fail;refine(H1.o w).mono ?_;rintro e w1 ⟨rfl,b1⟩;have HX1:=aa (HX.o.below b1);have HB1:=aa b1;clear b1;have p0:p.isEmpty=false:=by cases p with
  |nil=>simp at hk
  |cons a b=>rfl
 have p1:p≠ []:=by cases p with
  |nil=>simp at hk
  |cons a b=>simp
 go_wp2_with fail;refine(H2.o w1).mono ?_;rintro e w2 ⟨rfl,b2⟩;have HX2:=aa (HX1.o.below b2);have HB2:=aa (HB1.o.trans (b2.mono HB1.o.size));clear b2 HX1 HB1;have x1:w2.cell? ⟨X,1,none⟩=some (.slice vo n vc):=by rw[sD w2 X 1 _ _ _ HX2.o.at_];rfl
 have x3:w2.cell? ⟨X,3,none⟩=some (.bool false):=by rw[sD w2 X 3 _ _ _ HX2.o.at_];rfl
 have k0:(0:Int)<=(k:Int):=by omega
 have k1:(k:Int)<(p.length:Int):=by omega
 have k2:¬(k:Int)<0:=by omega
 have d1:decide ((k:Int)<0)=false:=decide_eq_false (by omega);have k3:(k:Int)<=(p.length:Int):=by omega
 have k4:(k:Int)+1<=(p.length:Int):=by omega
 go_wp2_with fail;have e9:((((⟨p.toArray⟩:ByteArray)[k]'(by show k<p.toArray.size;simpa using hk)).toNat:Int)==47)=brk:=hb;rw[e9];clear e9 hb;have e8:tG.wrap ((k:Int)+1)=(k:Int)+1:=by unfold tu tw tn;simp;omega
 have k5:(0:Int)<=(k:Int)+1:=by omega
 refine aw [(0,true),(1,true),(2,true),(4,true),(5,true),(6,true),(7,true),(3,false),(8,false),(9,false),(10,false)] (fun _=>True) (fun _=>false) (by kernel_rfl) (by kernel_rfl) (fun j hj=>by cases hj) rfl (by kernel_rfl) trivial ?_
 iterate 7 (refine aF ?_ rfl (by kernel_rfl) (fun w' hS=>?_) ?_;(rotate_left;(go_simp;with_reducible rfl);rotate_left))
 refine au rfl (by kernel_rfl) fun KK hKK=>?_;go_simp;refine(H3.o w2.drew).mono ?_;rintro e w3 ⟨rfl,b3⟩;have HB3:ae (tz w2.heap.size w2 w3):=aa ⟨b3.os,b3.tape,b3.output,b3.size,b3.block⟩;clear b3;refine hKK _ _ (fun _=>trivial) ?_;clear hKK;refine au rfl (by kernel_rfl) fun KK hKK=>?_;go_simp;refine(H4.o w3).mono ?_;rintro e w4 ⟨rfl,b4⟩;have HB4:ae (tz w2.heap.size w2 w4):=aa (HB3.o.trans (b4.mono HB3.o.size));clear b4 HB3;refine hKK _ _ (fun _=>trivial) ?_;clear hKK;refine au rfl (by kernel_rfl) fun KK hKK=>?_;go_simp;refine hKK _ _ (fun _=>trivial) ?_;clear hKK;refine au rfl (by kernel_rfl) fun KK hKK=>?_;go_simp;refine hKK _ _ (fun _=>trivial) ?_;clear hKK;refine ba (tp ?_);have HX4:=aa (HX2.o.below HB4.o);have HBw:=aa (HB2.o.trans (HB4.o.mono HB2.o.size));have y1:w4.cell? ⟨X,1,none⟩=some (.slice vo n vc):=by rw[sD w4 X 1 _ _ _ HX4.o.at_];rfl
 have y0:w4.cell? ⟨X,0,none⟩=some (.slice (some ⟨g,0,none⟩) vs.length nc):=by rw[sD w4 X 0 _ _ _ HX4.o.at_];rfl
 have HXl:=aa (ag HX4.o.at_);have HBl:ae (B<=w.heap.size):=aa (by have:=ag HX.o.at_;have:=HX.o.lx;omega);clear x1 x3 HX2 HB2 HB4 k2 k3 k4 k5 d1 e8 p0 p1 HX;have r1:(L== [114,101,115,116])=false:=by simpa using hL
 have n1:(n:Int)<64:=by omega
 have xl:X<w4.heap.size:=HXl.o;rcases Classical.em (L=[])with hL0|hL0;subst hL0;rotate_left;have l2:L.isEmpty=false:=by cases L with
  |nil=>exact absurd rfl hL0
  |cons x y=>rfl
 have l3:(L== [])=false:=by simpa using hL0
 have l4:0<L.length:=ti.2 hL0;have l5:(0:Int)<(L.length:Int):=by omega
 have l6:(((((⟨L.toArray⟩:ByteArray)[0]'(by show 0<L.toArray.size;simpa using l4)).toNat:Int))==94)=false:=by
  rw[beq_eq_false_iff_ne];intro e;apply hL9;have e1:L[0]=94:=tM.1 (by
   have:(L[0]).toNat=(94:Nat):=by exact_mod_cast e
   exact this)
  rw[tL,sL l4,e1]
 all_goals (
  rcases Classical.em (R=[])with hR0|hR0;subst hR0;rotate_left;have r2:R.isEmpty=false:=by cases R with
   |nil=>exact absurd rfl hR0
   |cons x y=>rfl
  have r3:(R== [])=false:=by simpa using hR0
  have r4:0<R.length:=ti.2 hR0;have r5:tG.wrap ((R.length:Int)-1)=(R.length:Int)-1:=by unfold tu tw tn;simp;omega
  have r6:(0:Int)<=(R.length:Int)-1:=by omega
  have r7:(R.length:Int)-1<(R.length:Int):=by omega
  have r8:((R.length:Int)-1).toNat=R.length-1:=by omega
  have r9:R.length-1<R.length:=by omega
  have q2:(((((⟨R.toArray⟩:ByteArray)[R.length-1]'(by show R.length-1<R.toArray.size;simpa using r9)).toNat:Int))==36)=false:=by
   rw[beq_eq_false_iff_ne];intro e;apply hR9;have e1:R[R.length-1]=36:=tM.1 (by
    have:(R[R.length-1]).toNat=(36:Nat):=by exact_mod_cast e
    exact this)
   rw[tF,sL r9,e1])
 all_goals (
  go_wp2_with fail;refine(H5.o _ (HX4.o.nm.below af)).mono ?_;rintro e w5 ⟨u0,u1,u2,rfl,hp5,hn5,ho5⟩;obtain⟨po,pco,pcn,pcc,pko,pkn,pkc,rfl,rfl,rfl⟩:=bX.shape hp5;have HOw:=aa (fun(q:Nat)(hq:(ta vo n vc).ownBlock=some q)=>show q<w4.heap.size from by
   rcases HX4.o.own.2 with ⟨c1,_⟩|⟨q',cap,cur,c1,_,c3,_⟩
   ·rw[c1]at hq;cases hq
   ·rw[c1]at hq;cases hq;exact ag c3)
  have hx5:=(HX4.o.below af).oth ho5 hn5;have HX5:=aa hx5;have HP5:=aa hp5;have zz:w5.heap[w4.heap.size]?=some (.cells #[.bool brk,.bool false,.bool false,.int .i64 0,.slice none 0 0,.slice none 0 0,.int .i64 0,.slice none 0 0,.slice none 0 0] 107 (0,0)):=(ho5.block _ (by simp) (fun e=>by have:=HX4.o.lg;have:=HX4.o.lx;have:=HXl.o;omega)).trans (heap_alloc_new _ _);have HZ5:=aa zz;have HO5:=aa ho5;have v0:w5.cell? ⟨X,0,none⟩=some (.slice (some ⟨g,0,none⟩) vs.length nc):=by rw[sD w5 X 0 _ _ _ hx5.at_];rfl
  have xl5:X<w5.heap.size:=ag hx5.at_;clear hx5 hp5 hn5 ho5 zz y0 y1;go_wp2_with fail;refine(H6.o _ (HX5.o.nm.below af)).mono ?_;rintro e w7 ⟨s0,s1,s2,rfl,hp7,hn7,ho7⟩;obtain⟨qo,qco,qcn,qcc,qko,qkn,qkc,rfl,rfl,rfl⟩:=bX.shape hp7;have hx7:=(HX5.o.below af).oth ho7 hn7;have HX7:=aa hx7;have HP7:=aa hp7;have HPL:=aa (bX.kt ((HX5.o.nm.below af).kt ho7) _ _ _ _ (bX.kt (.of af) _ _ _ _ HP5.o));have HZ7:=aa ((ho7.block w4.heap.size (by have:=ag HZ5.o;simp;omega) (fun e=>by have:=HX4.o.lg;have:=HX4.o.lx;have:=HXl.o;omega)).trans ((tz.heap_alloc _ _ _ (ag HZ5.o)).trans HZ5.o));have za:w7.heap[w5.heap.size]?=some (.cells #[.int .i64 po,.slice pco pcn pcc,.slice pko pkn pkc] 105 (0,0)):=(ho7.block _ (by simp) (fun e=>by have:=HX4.o.lg;have:=HX4.o.lx;omega)).trans (heap_alloc_new _ _);have HO7:=aa ho7;have a0:w7.cell? ⟨w5.heap.size,0,none⟩=some (.int .i64 po):=by rw[sD w7 _ 0 _ _ _ za];rfl
  have a1:w7.cell? ⟨w5.heap.size,1,none⟩=some (.slice pco pcn pcc):=by rw[sD w7 _ 1 _ _ _ za];rfl
  have a2:w7.cell? ⟨w5.heap.size,2,none⟩=some (.slice pko pkn pkc):=by rw[sD w7 _ 2 _ _ _ za];rfl
  have al:w5.heap.size<w7.heap.size:=ag za;have zl:w4.heap.size<w7.heap.size:=ag HZ7.o;have z0:w7.cell? ⟨w4.heap.size,0,none⟩=some (.bool brk):=by rw[sD w7 _ 0 _ _ _ HZ7.o];rfl
  have z1:w7.cell? ⟨w4.heap.size,1,none⟩=some (.bool false):=by rw[sD w7 _ 1 _ _ _ HZ7.o];rfl
  have z2:w7.cell? ⟨w4.heap.size,2,none⟩=some (.bool false):=by rw[sD w7 _ 2 _ _ _ HZ7.o];rfl
  have z3:w7.cell? ⟨w4.heap.size,3,none⟩=some (.int .i64 0):=by rw[sD w7 _ 3 _ _ _ HZ7.o];rfl
  have z4:w7.cell? ⟨w4.heap.size,4,none⟩=some (.slice none 0 0):=by rw[sD w7 _ 4 _ _ _ HZ7.o];rfl
  have z5:w7.cell? ⟨w4.heap.size,5,none⟩=some (.slice none 0 0):=by rw[sD w7 _ 5 _ _ _ HZ7.o];rfl
  have z6:w7.cell? ⟨w4.heap.size,6,none⟩=some (.int .i64 0):=by rw[sD w7 _ 6 _ _ _ HZ7.o];rfl
  have z7:w7.cell? ⟨w4.heap.size,7,none⟩=some (.slice none 0 0):=by rw[sD w7 _ 7 _ _ _ HZ7.o];rfl
  have z8:w7.cell? ⟨w4.heap.size,8,none⟩=some (.slice none 0 0):=by rw[sD w7 _ 8 _ _ _ HZ7.o];rfl
  have zf3:w7.frozen? ⟨w4.heap.size,3,none⟩=false:=sN w7 _ 3 _ _ HZ7.o;have zf4:w7.frozen? ⟨w4.heap.size,4,none⟩=false:=sN w7 _ 4 _ _ HZ7.o;have zf5:w7.frozen? ⟨w4.heap.size,5,none⟩=false:=sN w7 _ 5 _ _ HZ7.o;have zf6:w7.frozen? ⟨w4.heap.size,6,none⟩=false:=sN w7 _ 6 _ _ HZ7.o;have zf7:w7.frozen? ⟨w4.heap.size,7,none⟩=false:=sN w7 _ 7 _ _ HZ7.o;have zf8:w7.frozen? ⟨w4.heap.size,8,none⟩=false:=sN w7 _ 8 _ _ HZ7.o;have xl7:X<w7.heap.size:=ag hx7.at_;have x7:w7.cell? ⟨X,1,none⟩=some (.slice vo n vc):=by rw[sD w7 X 1 _ _ _ hx7.at_];rfl
  clear hx7 hp7 hn7 ho7 za v0;go_wp2_with fail;obtain⟨w8,hw8⟩:=aj (((((((w7.setCell ⟨w4.heap.size,3,none⟩ (.int .i64 po)).setCell ⟨w4.heap.size,4,none⟩ (.slice pco pcn pcc)).setCell ⟨w4.heap.size,5,none⟩ (.slice pko pkn pkc)).setCell ⟨w4.heap.size,6,none⟩ (.int .i64 qo)).setCell ⟨w4.heap.size,7,none⟩ (.slice qco qcn qcc)).setCell ⟨w4.heap.size,8,none⟩ (.slice qko qkn qkc)).alloc (.cells #[.int .i64 qo,.slice qco qcn qcc,.slice qko qkn qkc] 105));rw[<-hw8];obtain⟨g0,g1,g2,g3,g4,g5⟩:=zdO w7 w4.heap.size _ _ _ _ _ _ _ _ _ _ _ _ _ _ _ _ _ HZ7.o w8 hw8;clear hw8 z0 z1 z2 z3 z4 z5 z6 z7 z8 zf3 zf4 zf5 zf6 zf7 zf8 a0 a1 a2 x7;have hxz:X≠w4.heap.size:=by omega
  have X8:w8.heap[X]?=some (.cells #[.slice (some ⟨g,0,none⟩) vs.length nc,.slice vo n vc,.bool rest,.bool false] 87 (0,0)):=(g1 X xl7 hxz).trans HX7.o.at_;have ow8:w8.ownsRow B 107 9 (.slice vo n vc) n xs:=⟨HX7.o.own.1,HX7.o.own.2.imp (fun e=>e) fun⟨q,cap,cur,c1,c2,c3,c4⟩=>⟨q,cap,cur,c1,c2,(g1 q (ag c3) (fun e=>by have:=HOw.o q (by rw[c1];rfl);omega)).trans c3,c4⟩⟩;have HX8:ae (dt B w8 X g nc vs vo n vc rs xs rest false):=aa ⟨X8,(by obtain⟨cur,h1,h2⟩:=HX7.o.nm;exact⟨cur,(g1 g (ag h1) (by have:=HX4.o.lg;have:=HX4.o.lx;omega)).trans h1,h2⟩),ow8,HX7.o.rul.kt (fun b c t fr hb ht=>(g1 b (ag hb) (fun e=>by rw[e,HZ7.o]at hb;cases hb;rcases ht with ht|ht<;>cases ht)).trans hb),HX7.o.hn,HX7.o.lx,HX7.o.lg⟩;have HKt:ae (KtP w7 w8):=aa (fun b c t fr hb ht=>(g1 b (ag hb) (fun e=>by rw[e,HZ7.o]at hb;cases hb;rcases ht with ht|ht<;>cases ht)).trans hb);have HP1:=aa (bX.kt HKt.o _ _ _ _ HPL.o);have HP2:=aa (bX.kt HKt.o _ _ _ _ HP7.o);have HFr:ae (Fr B g w w8):=aa (by have l1:=HX4.o.lx;have l2:=HX4.o.lg;have l3:=HXl.o;have f1:Fr B g w w4:=.of (.of HBw.o) (by have:=HBl.o;omega);have f2:Fr B g w4 w5:=(Fr.of (.of af) (by omega)).trans (.of HO5.o (by simp;omega));have f3:Fr B g w5 w7:=(Fr.of (.of af) (by omega)).trans (.of HO7.o (by simp;omega));exact f1.trans (f2.trans (f3.trans ⟨g3,g4,g5,by omega,fun b hb hne=>g1 b (by omega) (by omega)⟩)));have c0:w8.cell? ⟨w4.heap.size,0,none⟩=some (.bool brk):=by rw[sD w8 _ 0 _ _ _ g0];rfl
  have c1:w8.cell? ⟨w4.heap.size,1,none⟩=some (.bool false):=by rw[sD w8 _ 1 _ _ _ g0];rfl
  have c2:w8.cell? ⟨w4.heap.size,2,none⟩=some (.bool false):=by rw[sD w8 _ 2 _ _ _ g0];rfl
  have c3:w8.cell? ⟨w4.heap.size,3,none⟩=some (.int .i64 po):=by rw[sD w8 _ 3 _ _ _ g0];rfl
  have c4:w8.cell? ⟨w4.heap.size,4,none⟩=some (.slice pco pcn pcc):=by rw[sD w8 _ 4 _ _ _ g0];rfl
  have c5:w8.cell? ⟨w4.heap.size,5,none⟩=some (.slice pko pkn pkc):=by rw[sD w8 _ 5 _ _ _ g0];rfl
  have c6:w8.cell? ⟨w4.heap.size,6,none⟩=some (.int .i64 qo):=by rw[sD w8 _ 6 _ _ _ g0];rfl
  have c7:w8.cell? ⟨w4.heap.size,7,none⟩=some (.slice qco qcn qcc):=by rw[sD w8 _ 7 _ _ _ g0];rfl
  have c8:w8.cell? ⟨w4.heap.size,8,none⟩=some (.slice qko qkn qkc):=by rw[sD w8 _ 8 _ _ _ g0];rfl
  have cx:w8.cell? ⟨X,1,none⟩=some (.slice vo n vc):=by rw[sD w8 X 1 _ _ _ X8];rfl
  have xl8:X<w8.heap.size:=ag X8;have HOn:=aa (fun(b:Nat)(hb:(ta vo n vc).ownBlock=some b)=>show b≠X from fun e=>by
   rcases ow8.2 with ⟨k1,_⟩|⟨q',cap,cur,k1,_,k3,_⟩
   ·rw[k1]at hb;cases hb
   ·rw[k1]at hb;cases hb;have e2:q'=X:=e;rw[e2,X8]at k3;cases k3)
  have HFx:ae (Fx g X w w8):=aa (by have f1:Fx g X w w4:=.of (.of HBw.o);have f2:Fx g X w4 w5:=(Fx.of (.of af)).trans (.of HO5.o);have f3:Fx g X w5 w7:=(Fx.of (.of af)).trans (.of HO7.o);intro b o hb k1 k2 k3;have q1:=f3 b o (f2 b o (f1 b o hb k1 k2 k3) k1 k2 k3) k1 k2 k3;rw[g1 b (ag q1) (by have:=ag hb;have:=HBw.o.size;omega)];exact q1);clear g0 g1 g2 g3 g4 g5 X8 ow8 HX7 HP5 HP7 HPL HKt HZ5 HZ7 HO5 HO7 HX5 xl5 xl7 al zl H5 H6;refine aw [(0,true),(1,true),(2,true),(3,true),(4,true),(5,true),(6,true),(7,false),(8,false),(9,false),(10,false),(11,false),(12,false)] (fun W=>W.cell? ⟨X,1,none⟩=some (.slice vo n vc)/\W.cell? ⟨w4.heap.size,0,none⟩=some (.bool brk)/\W.cell? ⟨w4.heap.size,1,none⟩=some (.bool false)/\W.cell? ⟨w4.heap.size,2,none⟩=some (.bool false)/\W.cell? ⟨w4.heap.size,3,none⟩=some (.int .i64 po)/\W.cell? ⟨w4.heap.size,4,none⟩=some (.slice pco pcn pcc)/\W.cell? ⟨w4.heap.size,5,none⟩=some (.slice pko pkn pkc)/\W.cell? ⟨w4.heap.size,6,none⟩=some (.int .i64 qo)/\W.cell? ⟨w4.heap.size,7,none⟩=some (.slice qco qcn qcc)/\W.cell? ⟨w4.heap.size,8,none⟩=some (.slice qko qkn qkc)) (fun j=>j==12) (by kernel_rfl) (by kernel_rfl) (fun j hj=>by have:=beq_iff_eq.1 hj;subst this;decide) rfl (by kernel_rfl) ⟨cx,c0,c1,c2,c3,c4,c5,c6,c7,c8⟩ ?_
  iterate 7 (refine aF ?_ rfl (by kernel_rfl) (fun w' hS=>?_) ?_;(rotate_left;(obtain⟨s0,s1,s2,s3,s4,s5,s6,s7,s8,s9⟩:=hS;go_simp;with_reducible rfl);rotate_left))
  refine au rfl (by kernel_rfl) fun KK hKK=>?_;go_simp;obtain⟨w9,hw9⟩:=aj ((w8.alloc (.cells #[.bool brk,.bool false,.bool false,.int .i64 po,.slice pco pcn pcc,.slice pko pkn pkc,.int .i64 qo,.slice qco qcn qcc,.slice qko qkn qkc] 107)).drew);rw[<-hw9];have b9:tz w8.heap.size w8 w9:=by rw[hw9];exact af.drew
  have nw9:∀j u,[tU brk,.bool false,.bool false,.int .i64 po,.slice pco pcn pcc,.slice pko pkn pkc,.int .i64 qo,.slice qco qcn qcc,.slice qko qkn qkc][j]?=some u->w9.cell? ((⟨w8.heap.size,0,none⟩:Addr).add j)=some u:=by rw[hw9];exact zsy w8 _ _
  have sz9:w9.heap.size=w8.heap.size+1:=by rw[hw9];simp[heap_drew]
  have HB9:=aa b9;have HN9:=aa nw9;clear hw9 b9 nw9 sz9;have HC:=aa (fun(W:sI)(hW:∀b,b<w8.heap.size->(ta vo n vc).ownBlock≠some b->W.heap[b]?=w8.heap[b]?)=>show W.cell? ⟨X,1,none⟩=some (.slice vo n vc)/\W.cell? ⟨w4.heap.size,0,none⟩=some (.bool brk)/\W.cell? ⟨w4.heap.size,1,none⟩=some (.bool false)/\W.cell? ⟨w4.heap.size,2,none⟩=some (.bool false)/\W.cell? ⟨w4.heap.size,3,none⟩=some (.int .i64 po)/\W.cell? ⟨w4.heap.size,4,none⟩=some (.slice pco pcn pcc)/\W.cell? ⟨w4.heap.size,5,none⟩=some (.slice pko pkn pkc)/\W.cell? ⟨w4.heap.size,6,none⟩=some (.int .i64 qo)/\W.cell? ⟨w4.heap.size,7,none⟩=some (.slice qco qcn qcc)/\W.cell? ⟨w4.heap.size,8,none⟩=some (.slice qko qkn qkc)from by have e1:W.heap[X]?=w8.heap[X]? :=hW X xl8 (fun e=>HOn.o X e rfl);have e2:W.heap[w4.heap.size]?=w8.heap[w4.heap.size]? :=hW _ (tJ w8 _ c0) (fun e=>by have:=HOw.o _ e;omega);exact⟨(sG e1).trans cx,(sG e2).trans c0,(sG e2).trans c1,(sG e2).trans c2,(sG e2).trans c3,(sG e2).trans c4,(sG e2).trans c5,(sG e2).trans c6,(sG e2).trans c7,(sG e2).trans c8⟩);refine hKK _ _ (fun _=>HC.o _ fun b hb _=>HB9.o.block b hb) ?_;clear hKK cx c0 c1 c2 c3 c4 c5 c6 c7 c8;refine au rfl (by kernel_rfl) fun KK hKK=>?_;refine wp_append_lies _ _ _ 61 rfl B 107 iR (.agg #[.bool false,.bool false,.bool false,.int .i64 0,.slice none 0 0,.slice none 0 0,.int .i64 0,.slice none 0 0,.slice none 0 0]) 9 120 Tryz.underRules HIR.o.1 HIR.o.2.1 HIR.o.2.2.1 HIR.o.2.2.2 rfl (by decide) (.slice vo n vc) n xs rfl ⟨HX8.o.own.1,HX8.o.own.2.imp (fun e=>e) fun⟨q,cap,cur,k1,k2,k3,k4⟩=>⟨q,cap,cur,k1,k2,(HB9.o.block q (ag k3)).trans k3,k4⟩⟩ ⟨w8.heap.size,0,none⟩ 1 1 [tU brk,.bool false,.bool false,.int .i64 po,.slice pco pcn pcc,.slice pko pkn pkc,.int .i64 qo,.slice qco qcn qcc,.slice qko qkn qkc] rfl rfl HN9.o (fun u hu=>by simp at hu;rcases hu with h|h|h|h|h|h|h|h<;>rw[h]<;>rfl) (by decide) (by unfold maxLen;omega) (by omega) (by have:=HX8.o.lx;have:=HB9.o.size;omega) w9.heap.size rfl ?_;intro g8 c8 w10 o10 gr10 hl10 hlt10;have HM:=aa (fun(w11:sI)(h11:w11=w10.setCell ⟨X,1,none⟩ (.slice (some ⟨g8,0,none⟩) (n+1) c8))=>dt.more (r:=⟨brk,false,false,pl,pr⟩) HX8.o HP1.o HP2.o rfl HB9.o o10 gr10 h11);have X10:w10.heap[X]?=w8.heap[X]? :=(gr10.block X (sR xl8 HB9.o.size) (fun e=>HOn.o X e.symm rfl)).trans (HB9.o.block X xl8);have f10:w10.frozen? ⟨X,1,none⟩=false:=sN w10 X 1 _ _ (X10.trans HX8.o.at_);have c10:w10.cell? ⟨X,1,none⟩=some (.slice vo n vc):=by rw[sD w10 X 1 _ _ _ (X10.trans HX8.o.at_)];rfl
  have HS10:=aa (HC.o w10 fun b hb hne=>(gr10.block b (sR hb HB9.o.size) (fun e=>hne e.symm)).trans (HB9.o.block b hb));refine hKK _ _ (fun _=>HC.o _ fun b hb hne=>(gr10.block b (sR hb HB9.o.size) (fun e=>hne e.symm)).trans (HB9.o.block b hb)) ?_;clear hKK o10 gr10 hl10 hlt10 X10
  iterate 3 (refine au rfl (by kernel_rfl) fun KK hKK=>?_;go_simp;refine hKK _ _ (fun _=>HS10.o) ?_;clear hKK)
  refine au rfl (by kernel_rfl) fun KK hKK=>?_;go_simp;refine hKK _ _ (fun h=>by cases h) ?_;clear hKK;refine ba (tp ?_);go_wp2;go_ret;obtain⟨m1,m2,m3⟩:=HM.o _ rfl;exact⟨rfl,HFr.o.trans m2,HFx.o.trans m3,_,_,_,_,m1⟩)
end Pt
end
section
open Ev Go.RowKit
namespace Pt
set_option maxRecDepth 100000 in
theorem zgQ(B X g nc:Nat)(vs:List sK)(vo:Option Addr)(n vc:Nat)(rs:List Rl)(xs:List sK)(rest:Bool)(w:sI)(s p L R:List UInt8)(k:Nat)(brk:Bool)(pl pr:aA)(hX:dt B w X g nc vs vo n vc rs xs rest false)(hn9:n<=60)
  (h1:aN 103 (.string ⟨s.toArray⟩) (.string ⟨p.toArray⟩)) (h2:aN 104 (.string ⟨p.toArray⟩) (.int .i64 k)) (hk:k<p.length) (hp9:p.length<=10000) (hR8:R.length<=10000) (hb:((p[k].toNat:Int)==47)=brk)
  (h3:aN 105 (.string ((⟨p.toArray⟩:ByteArray).extract 0 k)) (.string ⟨L.toArray⟩)) (h4:aN 105 (.string ((⟨p.toArray⟩:ByteArray).extract (k+1) p.length)) (.string ⟨R.toArray⟩)) (hL:L≠ [114,101,115,116]) (hL9:L.head? =some 94) (hL8:L.length<=10000) (hR9:R.getLast? ≠some 36)
  (h5:∀W,bu W g nc vs->sP Tryz.prog 106 #[.string ((⟨L.toArray⟩:ByteArray).extract 1 L.length),.slice (some ⟨g,0,none⟩) vs.length nc] W (i7 g nc vs W pl))
  (h6:∀W,bu W g nc vs->sP Tryz.prog 106 #[.string ⟨R.toArray⟩,.slice (some ⟨g,0,none⟩) vs.length nc] W (i7 g nc vs W pr)):
  sP Tryz.prog 72 #[.pointer (some ⟨X,0,none⟩),.string ⟨s.toArray⟩] w (LnQ B w X g nc vs (rs++[⟨brk,true,false,pl,pr⟩]) rest false):=by
 obtain⟨iR,hR0,hR1,hR2,hR3⟩:=info_parts Tryz.infoRule;have HIR:=aa (tr hR0 (tr hR1 (tr hR2 hR3)));clear hR0 hR1 hR2 hR3;have HX:=aa hX;have H1:=aa h1;have H2:=aa h2;have H3:=aa h3;have H4:=aa h4;have H5:=aa h5;have H6:=aa h6;clear hX h1 h2 h3 h4 h5 h6;go_enter Tryz.func72,Tryz.ntmps72;go_wp2_with fail;refine(H1.o w).mono ?_;rintro e w1 ⟨rfl,b1⟩;have HX1:=aa (HX.o.below b1);have HB1:=aa b1;clear b1;have p0:p.isEmpty=false:=by cases p with
  |nil=>simp at hk
  |cons a b=>rfl
 have p1:p≠ []:=by cases p with
  |nil=>simp at hk
  |cons a b=>simp
 go_wp2_with fail;refine(H2.o w1).mono ?_;rintro e w2 ⟨rfl,b2⟩;have HX2:=aa (HX1.o.below b2);have HB2:=aa (HB1.o.trans (b2.mono HB1.o.size));clear b2 HX1 HB1;have x1:w2.cell? ⟨X,1,none⟩=some (.slice vo n vc):=by rw[sD w2 X 1 _ _ _ HX2.o.at_];rfl
 have x3:w2.cell? ⟨X,3,none⟩=some (.bool false):=by rw[sD w2 X 3 _ _ _ HX2.o.at_];rfl
 have k0:(0:Int)<=(k:Int):=by omega
 have k1:(k:Int)<(p.length:Int):=by omega
 have k2:¬(k:Int)<0:=by omega
 have d1:decide ((k:Int)<0)=false:=decide_eq_false (by omega);have k3:(k:Int)<=(p.length:Int):=by omega
 have k4:(k:Int)+1<=(p.length:Int):=by omega
 go_wp2_with fail;have e9:((((⟨p.toArray⟩:ByteArray)[k]'(by show k<p.toArray.size;simpa using hk)).toNat:Int)==47)=brk:=hb;rw[e9];clear e9 hb;have e8:tG.wrap ((k:Int)+1)=(k:Int)+1:=by unfold tu tw tn;simp;omega
 have k5:(0:Int)<=(k:Int)+1:=by omega
 refine aw [(0,true),(1,true),(2,true),(4,true),(5,true),(6,true),(7,true),(3,false),(8,false),(9,false),(10,false)] (fun _=>True) (fun _=>false) (by kernel_rfl) (by kernel_rfl) (fun j hj=>by cases hj) rfl (by kernel_rfl) trivial ?_
 iterate 7 (refine aF ?_ rfl (by kernel_rfl) (fun w' hS=>?_) ?_;(rotate_left;(go_simp;with_reducible rfl);rotate_left))
 refine au rfl (by kernel_rfl) fun KK hKK=>?_;go_simp;refine(H3.o w2.drew).mono ?_;rintro e w3 ⟨rfl,b3⟩;have HB3:ae (tz w2.heap.size w2 w3):=aa ⟨b3.os,b3.tape,b3.output,b3.size,b3.block⟩;clear b3;refine hKK _ _ (fun _=>trivial) ?_;clear hKK;refine au rfl (by kernel_rfl) fun KK hKK=>?_;go_simp;refine(H4.o w3).mono ?_;rintro e w4 ⟨rfl,b4⟩;have HB4:ae (tz w2.heap.size w2 w4):=aa (HB3.o.trans (b4.mono HB3.o.size));clear b4 HB3;refine hKK _ _ (fun _=>trivial) ?_;clear hKK;refine au rfl (by kernel_rfl) fun KK hKK=>?_;go_simp;refine hKK _ _ (fun _=>trivial) ?_;clear hKK;refine au rfl (by kernel_rfl) fun KK hKK=>?_;go_simp;refine hKK _ _ (fun _=>trivial) ?_;clear hKK;refine ba (tp ?_);have HX4:=aa (HX2.o.below HB4.o);have HBw:=aa (HB2.o.trans (HB4.o.mono HB2.o.size));have y1:w4.cell? ⟨X,1,none⟩=some (.slice vo n vc):=by rw[sD w4 X 1 _ _ _ HX4.o.at_];rfl
 have y0:w4.cell? ⟨X,0,none⟩=some (.slice (some ⟨g,0,none⟩) vs.length nc):=by rw[sD w4 X 0 _ _ _ HX4.o.at_];rfl
 have HXl:=aa (ag HX4.o.at_);have HBl:ae (B<=w.heap.size):=aa (by have:=ag HX.o.at_;have:=HX.o.lx;omega);clear x1 x3 HX2 HB2 HB4 k2 k3 k4 k5 d1 e8 p0 p1 HX;have r1:(L== [114,101,115,116])=false:=by simpa using hL
 have n1:(n:Int)<64:=by omega
 have xl:X<w4.heap.size:=HXl.o;have hL0:L≠ []:=fun e=>by rw[e]at hL9;cases hL9
 ·skip
  have l2:L.isEmpty=false:=by cases L with
   |nil=>exact absurd rfl hL0
   |cons x y=>rfl
  have l3:(L== [])=false:=by simpa using hL0
  have l4:0<L.length:=ti.2 hL0;have l5:(0:Int)<(L.length:Int):=by omega
  have l6:(((((⟨L.toArray⟩:ByteArray)[0]'(by show 0<L.toArray.size;simpa using l4)).toNat:Int))==94)=true:=by
   have e1:L[0]=94:=by rw[tL,sL l4]at hL9;exact Option.some.inj hL9
   have e2:((⟨L.toArray⟩:ByteArray)[0]'(by show 0<L.toArray.size;simpa using l4))=94:=e1;rw[e2];rfl
  have l7:(1:Int)<=(L.length:Int):=by omega
  rcases Classical.em (R=[])with hR0|hR0;subst hR0;rotate_left;have r2:R.isEmpty=false:=by cases R with
   |nil=>exact absurd rfl hR0
   |cons x y=>rfl
  have r3:(R== [])=false:=by simpa using hR0
  have r4:0<R.length:=ti.2 hR0;have r5:tG.wrap ((R.length:Int)-1)=(R.length:Int)-1:=by unfold tu tw tn;simp;omega
  have r6:(0:Int)<=(R.length:Int)-1:=by omega
  have r7:(R.length:Int)-1<(R.length:Int):=by omega
  have r8:((R.length:Int)-1).toNat=R.length-1:=by omega
  have r9:R.length-1<R.length:=by omega
  have q2:(((((⟨R.toArray⟩:ByteArray)[R.length-1]'(by show R.length-1<R.toArray.size;simpa using r9)).toNat:Int))==36)=false:=by
   rw[beq_eq_false_iff_ne];intro e;apply hR9;have e1:R[R.length-1]=36:=tM.1 (by
    have:(R[R.length-1]).toNat=(36:Nat):=by exact_mod_cast e
    exact this)
   rw[tF,sL r9,e1]
  all_goals (
   go_wp2_with fail;refine(H5.o _ (HX4.o.nm.below af)).mono ?_;rintro e w5 ⟨u0,u1,u2,rfl,hp5,hn5,ho5⟩;obtain⟨po,pco,pcn,pcc,pko,pkn,pkc,rfl,rfl,rfl⟩:=bX.shape hp5;have HOw:=aa (fun(q:Nat)(hq:(ta vo n vc).ownBlock=some q)=>show q<w4.heap.size from by
    rcases HX4.o.own.2 with ⟨c1,_⟩|⟨q',cap,cur,c1,_,c3,_⟩
    ·rw[c1]at hq;cases hq
    ·rw[c1]at hq;cases hq;exact ag c3)
   have hx5:=(HX4.o.below af).oth ho5 hn5;have HX5:=aa hx5;have HP5:=aa hp5;have zz:w5.heap[w4.heap.size]?=some (.cells #[.bool brk,.bool true,.bool false,.int .i64 0,.slice none 0 0,.slice none 0 0,.int .i64 0,.slice none 0 0,.slice none 0 0] 107 (0,0)):=(ho5.block _ (by simp) (fun e=>by have:=HX4.o.lg;have:=HX4.o.lx;have:=HXl.o;omega)).trans (heap_alloc_new _ _);have HZ5:=aa zz;have HO5:=aa ho5;have v0:w5.cell? ⟨X,0,none⟩=some (.slice (some ⟨g,0,none⟩) vs.length nc):=by rw[sD w5 X 0 _ _ _ hx5.at_];rfl
   have xl5:X<w5.heap.size:=ag hx5.at_;clear hx5 hp5 hn5 ho5 zz y0 y1;go_wp2_with fail;refine(H6.o _ (HX5.o.nm.below af)).mono ?_;rintro e w7 ⟨s0,s1,s2,rfl,hp7,hn7,ho7⟩;obtain⟨qo,qco,qcn,qcc,qko,qkn,qkc,rfl,rfl,rfl⟩:=bX.shape hp7;have hx7:=(HX5.o.below af).oth ho7 hn7;have HX7:=aa hx7;have HP7:=aa hp7;have HPL:=aa (bX.kt ((HX5.o.nm.below af).kt ho7) _ _ _ _ (bX.kt (.of af) _ _ _ _ HP5.o));have HZ7:=aa ((ho7.block w4.heap.size (by have:=ag HZ5.o;simp;omega) (fun e=>by have:=HX4.o.lg;have:=HX4.o.lx;have:=HXl.o;omega)).trans ((tz.heap_alloc _ _ _ (ag HZ5.o)).trans HZ5.o));have za:w7.heap[w5.heap.size]?=some (.cells #[.int .i64 po,.slice pco pcn pcc,.slice pko pkn pkc] 105 (0,0)):=(ho7.block _ (by simp) (fun e=>by have:=HX4.o.lg;have:=HX4.o.lx;omega)).trans (heap_alloc_new _ _);have HO7:=aa ho7;have a0:w7.cell? ⟨w5.heap.size,0,none⟩=some (.int .i64 po):=by rw[sD w7 _ 0 _ _ _ za];rfl
   have a1:w7.cell? ⟨w5.heap.size,1,none⟩=some (.slice pco pcn pcc):=by rw[sD w7 _ 1 _ _ _ za];rfl
   have a2:w7.cell? ⟨w5.heap.size,2,none⟩=some (.slice pko pkn pkc):=by rw[sD w7 _ 2 _ _ _ za];rfl
   have al:w5.heap.size<w7.heap.size:=ag za;have zl:w4.heap.size<w7.heap.size:=ag HZ7.o;have z0:w7.cell? ⟨w4.heap.size,0,none⟩=some (.bool brk):=by rw[sD w7 _ 0 _ _ _ HZ7.o];rfl
   have z1:w7.cell? ⟨w4.heap.size,1,none⟩=some (.bool true):=by rw[sD w7 _ 1 _ _ _ HZ7.o];rfl
   have z2:w7.cell? ⟨w4.heap.size,2,none⟩=some (.bool false):=by rw[sD w7 _ 2 _ _ _ HZ7.o];rfl
   have z3:w7.cell? ⟨w4.heap.size,3,none⟩=some (.int .i64 0):=by rw[sD w7 _ 3 _ _ _ HZ7.o];rfl
   have z4:w7.cell? ⟨w4.heap.size,4,none⟩=some (.slice none 0 0):=by rw[sD w7 _ 4 _ _ _ HZ7.o];rfl
   have z5:w7.cell? ⟨w4.heap.size,5,none⟩=some (.slice none 0 0):=by rw[sD w7 _ 5 _ _ _ HZ7.o];rfl
   have z6:w7.cell? ⟨w4.heap.size,6,none⟩=some (.int .i64 0):=by rw[sD w7 _ 6 _ _ _ HZ7.o];rfl
   have z7:w7.cell? ⟨w4.heap.size,7,none⟩=some (.slice none 0 0):=by rw[sD w7 _ 7 _ _ _ HZ7.o];rfl
   have z8:w7.cell? ⟨w4.heap.size,8,none⟩=some (.slice none 0 0):=by rw[sD w7 _ 8 _ _ _ HZ7.o];rfl
   have zf3:w7.frozen? ⟨w4.heap.size,3,none⟩=false:=sN w7 _ 3 _ _ HZ7.o;have zf4:w7.frozen? ⟨w4.heap.size,4,none⟩=false:=sN w7 _ 4 _ _ HZ7.o;have zf5:w7.frozen? ⟨w4.heap.size,5,none⟩=false:=sN w7 _ 5 _ _ HZ7.o;have zf6:w7.frozen? ⟨w4.heap.size,6,none⟩=false:=sN w7 _ 6 _ _ HZ7.o;have zf7:w7.frozen? ⟨w4.heap.size,7,none⟩=false:=sN w7 _ 7 _ _ HZ7.o;have zf8:w7.frozen? ⟨w4.heap.size,8,none⟩=false:=sN w7 _ 8 _ _ HZ7.o;have xl7:X<w7.heap.size:=ag hx7.at_;have x7:w7.cell? ⟨X,1,none⟩=some (.slice vo n vc):=by rw[sD w7 X 1 _ _ _ hx7.at_];rfl
   clear hx7 hp7 hn7 ho7 za v0;go_wp2_with fail;obtain⟨w8,hw8⟩:=aj (((((((w7.setCell ⟨w4.heap.size,3,none⟩ (.int .i64 po)).setCell ⟨w4.heap.size,4,none⟩ (.slice pco pcn pcc)).setCell ⟨w4.heap.size,5,none⟩ (.slice pko pkn pkc)).setCell ⟨w4.heap.size,6,none⟩ (.int .i64 qo)).setCell ⟨w4.heap.size,7,none⟩ (.slice qco qcn qcc)).setCell ⟨w4.heap.size,8,none⟩ (.slice qko qkn qkc)).alloc (.cells #[.int .i64 qo,.slice qco qcn qcc,.slice qko qkn qkc] 105));rw[<-hw8];obtain⟨g0,g1,g2,g3,g4,g5⟩:=zdO w7 w4.heap.size _ _ _ _ _ _ _ _ _ _ _ _ _ _ _ _ _ HZ7.o w8 hw8;clear hw8 z0 z1 z2 z3 z4 z5 z6 z7 z8 zf3 zf4 zf5 zf6 zf7 zf8 a0 a1 a2 x7;have hxz:X≠w4.heap.size:=by omega
   have X8:w8.heap[X]?=some (.cells #[.slice (some ⟨g,0,none⟩) vs.length nc,.slice vo n vc,.bool rest,.bool false] 87 (0,0)):=(g1 X xl7 hxz).trans HX7.o.at_;have ow8:w8.ownsRow B 107 9 (.slice vo n vc) n xs:=⟨HX7.o.own.1,HX7.o.own.2.imp (fun e=>e) fun⟨q,cap,cur,c1,c2,c3,c4⟩=>⟨q,cap,cur,c1,c2,(g1 q (ag c3) (fun e=>by have:=HOw.o q (by rw[c1];rfl);omega)).trans c3,c4⟩⟩;have HX8:ae (dt B w8 X g nc vs vo n vc rs xs rest false):=aa ⟨X8,(by obtain⟨cur,h1,h2⟩:=HX7.o.nm;exact⟨cur,(g1 g (ag h1) (by have:=HX4.o.lg;have:=HX4.o.lx;omega)).trans h1,h2⟩),ow8,HX7.o.rul.kt (fun b c t fr hb ht=>(g1 b (ag hb) (fun e=>by rw[e,HZ7.o]at hb;cases hb;rcases ht with ht|ht<;>cases ht)).trans hb),HX7.o.hn,HX7.o.lx,HX7.o.lg⟩;have HKt:ae (KtP w7 w8):=aa (fun b c t fr hb ht=>(g1 b (ag hb) (fun e=>by rw[e,HZ7.o]at hb;cases hb;rcases ht with ht|ht<;>cases ht)).trans hb);have HP1:=aa (bX.kt HKt.o _ _ _ _ HPL.o);have HP2:=aa (bX.kt HKt.o _ _ _ _ HP7.o);have HFr:ae (Fr B g w w8):=aa (by have l1:=HX4.o.lx;have l2:=HX4.o.lg;have l3:=HXl.o;have f1:Fr B g w w4:=.of (.of HBw.o) (by have:=HBl.o;omega);have f2:Fr B g w4 w5:=(Fr.of (.of af) (by omega)).trans (.of HO5.o (by simp;omega));have f3:Fr B g w5 w7:=(Fr.of (.of af) (by omega)).trans (.of HO7.o (by simp;omega));exact f1.trans (f2.trans (f3.trans ⟨g3,g4,g5,by omega,fun b hb hne=>g1 b (by omega) (by omega)⟩)));have c0:w8.cell? ⟨w4.heap.size,0,none⟩=some (.bool brk):=by rw[sD w8 _ 0 _ _ _ g0];rfl
   have c1:w8.cell? ⟨w4.heap.size,1,none⟩=some (.bool true):=by rw[sD w8 _ 1 _ _ _ g0];rfl
   have c2:w8.cell? ⟨w4.heap.size,2,none⟩=some (.bool false):=by rw[sD w8 _ 2 _ _ _ g0];rfl
   have c3:w8.cell? ⟨w4.heap.size,3,none⟩=some (.int .i64 po):=by rw[sD w8 _ 3 _ _ _ g0];rfl
   have c4:w8.cell? ⟨w4.heap.size,4,none⟩=some (.slice pco pcn pcc):=by rw[sD w8 _ 4 _ _ _ g0];rfl
   have c5:w8.cell? ⟨w4.heap.size,5,none⟩=some (.slice pko pkn pkc):=by rw[sD w8 _ 5 _ _ _ g0];rfl
   have c6:w8.cell? ⟨w4.heap.size,6,none⟩=some (.int .i64 qo):=by rw[sD w8 _ 6 _ _ _ g0];rfl
   have c7:w8.cell? ⟨w4.heap.size,7,none⟩=some (.slice qco qcn qcc):=by rw[sD w8 _ 7 _ _ _ g0];rfl
   have c8:w8.cell? ⟨w4.heap.size,8,none⟩=some (.slice qko qkn qkc):=by rw[sD w8 _ 8 _ _ _ g0];rfl
   have cx:w8.cell? ⟨X,1,none⟩=some (.slice vo n vc):=by rw[sD w8 X 1 _ _ _ X8];rfl
   have xl8:X<w8.heap.size:=ag X8;have HOn:=aa (fun(b:Nat)(hb:(ta vo n vc).ownBlock=some b)=>show b≠X from fun e=>by
    rcases ow8.2 with ⟨k1,_⟩|⟨q',cap,cur,k1,_,k3,_⟩
    ·rw[k1]at hb;cases hb
    ·rw[k1]at hb;cases hb;have e2:q'=X:=e;rw[e2,X8]at k3;cases k3)
   have HFx:ae (Fx g X w w8):=aa (by have f1:Fx g X w w4:=.of (.of HBw.o);have f2:Fx g X w4 w5:=(Fx.of (.of af)).trans (.of HO5.o);have f3:Fx g X w5 w7:=(Fx.of (.of af)).trans (.of HO7.o);intro b o hb k1 k2 k3;have q1:=f3 b o (f2 b o (f1 b o hb k1 k2 k3) k1 k2 k3) k1 k2 k3;rw[g1 b (ag q1) (by have:=ag hb;have:=HBw.o.size;omega)];exact q1);clear g0 g1 g2 g3 g4 g5 X8 ow8 HX7 HP5 HP7 HPL HKt HZ5 HZ7 HO5 HO7 HX5 xl5 xl7 al zl H5 H6;refine aw [(0,true),(1,true),(2,true),(3,true),(4,true),(5,true),(6,true),(7,false),(8,false),(9,false),(10,false),(11,false),(12,false)] (fun W=>W.cell? ⟨X,1,none⟩=some (.slice vo n vc)/\W.cell? ⟨w4.heap.size,0,none⟩=some (.bool brk)/\W.cell? ⟨w4.heap.size,1,none⟩=some (.bool true)/\W.cell? ⟨w4.heap.size,2,none⟩=some (.bool false)/\W.cell? ⟨w4.heap.size,3,none⟩=some (.int .i64 po)/\W.cell? ⟨w4.heap.size,4,none⟩=some (.slice pco pcn pcc)/\W.cell? ⟨w4.heap.size,5,none⟩=some (.slice pko pkn pkc)/\W.cell? ⟨w4.heap.size,6,none⟩=some (.int .i64 qo)/\W.cell? ⟨w4.heap.size,7,none⟩=some (.slice qco qcn qcc)/\W.cell? ⟨w4.heap.size,8,none⟩=some (.slice qko qkn qkc)) (fun j=>j==12) (by kernel_rfl) (by kernel_rfl) (fun j hj=>by have:=beq_iff_eq.1 hj;subst this;decide) rfl (by kernel_rfl) ⟨cx,c0,c1,c2,c3,c4,c5,c6,c7,c8⟩ ?_
   iterate 7 (refine aF ?_ rfl (by kernel_rfl) (fun w' hS=>?_) ?_;(rotate_left;(obtain⟨s0,s1,s2,s3,s4,s5,s6,s7,s8,s9⟩:=hS;go_simp;with_reducible rfl);rotate_left))
   refine au rfl (by kernel_rfl) fun KK hKK=>?_;go_simp;obtain⟨w9,hw9⟩:=aj ((w8.alloc (.cells #[.bool brk,.bool true,.bool false,.int .i64 po,.slice pco pcn pcc,.slice pko pkn pkc,.int .i64 qo,.slice qco qcn qcc,.slice qko qkn qkc] 107)).drew);rw[<-hw9];have b9:tz w8.heap.size w8 w9:=by rw[hw9];exact af.drew
   have nw9:∀j u,[tU brk,.bool true,.bool false,.int .i64 po,.slice pco pcn pcc,.slice pko pkn pkc,.int .i64 qo,.slice qco qcn qcc,.slice qko qkn qkc][j]?=some u->w9.cell? ((⟨w8.heap.size,0,none⟩:Addr).add j)=some u:=by rw[hw9];exact zsy w8 _ _
   have sz9:w9.heap.size=w8.heap.size+1:=by rw[hw9];simp[heap_drew]
   have HB9:=aa b9;have HN9:=aa nw9;clear hw9 b9 nw9 sz9;have HC:=aa (fun(W:sI)(hW:∀b,b<w8.heap.size->(ta vo n vc).ownBlock≠some b->W.heap[b]?=w8.heap[b]?)=>show W.cell? ⟨X,1,none⟩=some (.slice vo n vc)/\W.cell? ⟨w4.heap.size,0,none⟩=some (.bool brk)/\W.cell? ⟨w4.heap.size,1,none⟩=some (.bool true)/\W.cell? ⟨w4.heap.size,2,none⟩=some (.bool false)/\W.cell? ⟨w4.heap.size,3,none⟩=some (.int .i64 po)/\W.cell? ⟨w4.heap.size,4,none⟩=some (.slice pco pcn pcc)/\W.cell? ⟨w4.heap.size,5,none⟩=some (.slice pko pkn pkc)/\W.cell? ⟨w4.heap.size,6,none⟩=some (.int .i64 qo)/\W.cell? ⟨w4.heap.size,7,none⟩=some (.slice qco qcn qcc)/\W.cell? ⟨w4.heap.size,8,none⟩=some (.slice qko qkn qkc)from by have e1:W.heap[X]?=w8.heap[X]? :=hW X xl8 (fun e=>HOn.o X e rfl);have e2:W.heap[w4.heap.size]?=w8.heap[w4.heap.size]? :=hW _ (tJ w8 _ c0) (fun e=>by have:=HOw.o _ e;omega);exact⟨(sG e1).trans cx,(sG e2).trans c0,(sG e2).trans c1,(sG e2).trans c2,(sG e2).trans c3,(sG e2).trans c4,(sG e2).trans c5,(sG e2).trans c6,(sG e2).trans c7,(sG e2).trans c8⟩);refine hKK _ _ (fun _=>HC.o _ fun b hb _=>HB9.o.block b hb) ?_;clear hKK cx c0 c1 c2 c3 c4 c5 c6 c7 c8;refine au rfl (by kernel_rfl) fun KK hKK=>?_;refine wp_append_lies _ _ _ 61 rfl B 107 iR (.agg #[.bool false,.bool false,.bool false,.int .i64 0,.slice none 0 0,.slice none 0 0,.int .i64 0,.slice none 0 0,.slice none 0 0]) 9 120 Tryz.underRules HIR.o.1 HIR.o.2.1 HIR.o.2.2.1 HIR.o.2.2.2 rfl (by decide) (.slice vo n vc) n xs rfl ⟨HX8.o.own.1,HX8.o.own.2.imp (fun e=>e) fun⟨q,cap,cur,k1,k2,k3,k4⟩=>⟨q,cap,cur,k1,k2,(HB9.o.block q (ag k3)).trans k3,k4⟩⟩ ⟨w8.heap.size,0,none⟩ 1 1 [tU brk,.bool true,.bool false,.int .i64 po,.slice pco pcn pcc,.slice pko pkn pkc,.int .i64 qo,.slice qco qcn qcc,.slice qko qkn qkc] rfl rfl HN9.o (fun u hu=>by simp at hu;rcases hu with h|h|h|h|h|h|h|h|h<;>rw[h]<;>rfl) (by decide) (by unfold maxLen;omega) (by omega) (by have:=HX8.o.lx;have:=HB9.o.size;omega) w9.heap.size rfl ?_;intro g8 c8 w10 o10 gr10 hl10 hlt10;have HM:=aa (fun(w11:sI)(h11:w11=w10.setCell ⟨X,1,none⟩ (.slice (some ⟨g8,0,none⟩) (n+1) c8))=>dt.more (r:=⟨brk,true,false,pl,pr⟩) HX8.o HP1.o HP2.o rfl HB9.o o10 gr10 h11);have X10:w10.heap[X]?=w8.heap[X]? :=(gr10.block X (sR xl8 HB9.o.size) (fun e=>HOn.o X e.symm rfl)).trans (HB9.o.block X xl8);have f10:w10.frozen? ⟨X,1,none⟩=false:=sN w10 X 1 _ _ (X10.trans HX8.o.at_);have c10:w10.cell? ⟨X,1,none⟩=some (.slice vo n vc):=by rw[sD w10 X 1 _ _ _ (X10.trans HX8.o.at_)];rfl
   have HS10:=aa (HC.o w10 fun b hb hne=>(gr10.block b (sR hb HB9.o.size) (fun e=>hne e.symm)).trans (HB9.o.block b hb));refine hKK _ _ (fun _=>HC.o _ fun b hb hne=>(gr10.block b (sR hb HB9.o.size) (fun e=>hne e.symm)).trans (HB9.o.block b hb)) ?_;clear hKK o10 gr10 hl10 hlt10 X10
   iterate 3 (refine au rfl (by kernel_rfl) fun KK hKK=>?_;go_simp;refine hKK _ _ (fun _=>HS10.o) ?_;clear hKK)
   refine au rfl (by kernel_rfl) fun KK hKK=>?_;go_simp;refine hKK _ _ (fun h=>by cases h) ?_;clear hKK;refine ba (tp ?_);go_wp2;go_ret;obtain⟨m1,m2,m3⟩:=HM.o _ rfl;exact⟨rfl,HFr.o.trans m2,HFx.o.trans m3,_,_,_,_,m1⟩)
end Pt
end
section
open Ev Go.RowKit
namespace Pt
theorem zgR(B X g nc:Nat)(vs:List sK)(vo:Option Addr)(n vc:Nat)(rs:List Rl)(xs:List sK)(rest rested:Bool)(w:sI)(s:List UInt8)(hX:dt B w X g nc vs vo n vc rs xs rest rested)
  (h1:aN 103 (.string ⟨s.toArray⟩) (.string ⟨#[]⟩)):sP Tryz.prog 72 #[.pointer (some ⟨X,0,none⟩),.string ⟨s.toArray⟩] w (LnQ B w X g nc vs rs rest rested):=by
 have HX:=aa hX;have H1:=aa h1;clear hX h1;go_enter Tryz.func72,Tryz.ntmps72;go_wp2_with fail;refine(H1.o w).mono ?_;rintro e w1 ⟨rfl,b1⟩;have HX1:=aa (HX.o.below b1);have HB1:=aa b1;clear b1;go_wp2;go_ret;exact⟨rfl,.of (.of HB1.o) (by have:=ag HX.o.at_;have:=HX.o.lx;omega),.of (.of HB1.o),vo,n,vc,xs,HX1.o⟩
def PrQ(g:Nat)(w:sI)(rs:List Rl)(rest:Bool)(e:Ending)(w':sI):Prop:=∃ro rc,e=.returned (.tuple #[.agg #[.slice ro rs.length rc,.bool rest],.int .i64 0,.int .i64 0])/\zcN w' ro rs/\Oth g w w'
theorem dt.rules{B:Nat}{w:sI}{X g nc:Nat}{vs:List sK}{vo:Option Addr}{n vc:Nat}{rs:List Rl}{xs:List sK}{rest rested:Bool}(h:dt B w X g nc vs vo n vc rs xs rest rested):zcN w vo rs:=fun j r hj=>by
 obtain⟨l0,l1,l2,r0,r1,r2,a0,a1,a2,a3,a4,a5,a6,a7,a8,p1,p2⟩:=h.rul j r hj;have hjl:=(sM.1 hj).1;have hn:=h.hn;rcases h.own.2 with ⟨_,e⟩|⟨q,cap,cur,k1,k2,k3,k4,k5,k6,k7⟩
 ·omega
 ·cases k1;have hc:∀i v,i<n*9->xs[i]?=some v->w.cell? ⟨q,i,none⟩=some v:=fun i v hi hv=>by rw[sD w q i cur _ _ k3];rw[<-k7,tj hi]at hv;simpa using hv
  refine⟨q,0,l0,l1,l2,r0,r1,r2,rfl,ag k3,?_,?_,?_,?_,?_,?_,?_,?_,?_,bX.to _ _ _ _ p1,bX.to _ _ _ _ p2⟩
  all_goals (rw[Nat.zero_add];refine hc _ _ (by omega) ?_;assumption)
set_option maxRecDepth 100000 in
theorem zgB(text:List UInt8)(ht:text.length<=16384)(vs:List sK)(g nc:Nat)(ls:List (List UInt8))(T:Nat->List Rl)(Rst Rd:Nat->Bool)(w:sI)(hN:bu w g nc vs)(hl9:ls.length<=1000)(hT:T 0=[])(hR:Rst 0=true)(hD:Rd 0=false)
  (h1:∀W,bu W g nc vs->sP Tryz.prog 70 #[.slice (some ⟨g,0,none⟩) vs.length nc] W fun e w'=>e=.returned (.bool true)/\bu w' g nc vs/\Oth g W w')
  (h2:∀W:sI,sP Tryz.prog 71 #[.string ⟨text.toArray⟩] W fun e w'=>∃vo vc,e=.returned (.slice vo ls.length vc)/\zpN W.heap.size w' vo ls/\tz W.heap.size W w')
  (h3:∀(j:Nat)(s:List UInt8),ls[j]?=some s->∀(B X:Nat)(vo:Option Addr)(n vc:Nat)(xs:List sK)(W:sI),dt B W X g nc vs vo n vc (T j) xs (Rst j) (Rd j)->sP Tryz.prog 72 #[.pointer (some ⟨X,0,none⟩),.string ⟨s.toArray⟩] W (LnQ B W X g nc vs (T (j+1)) (Rst (j+1)) (Rd (j+1)))):
  sP Tryz.prog 45 #[.string ⟨text.toArray⟩,.slice (some ⟨g,0,none⟩) vs.length nc] w (PrQ g w (T ls.length) (Rst ls.length)):=by
 have HN:=aa hN;have H1:=aa h1;have H2:=aa h2;have H3:=aa h3;have HT:=aa (tr hT (tr hR hD));have HG:ae (g<w.heap.size):=aa (by obtain⟨cur,k,_⟩:=hN;exact ag k);clear hN h1 h2 h3 hT hR hD;have t1:¬(16384:Int)<(text.length:Int):=by omega
 go_enter Tryz.func45,Tryz.ntmps45;go_wp2_with fail;refine(H1.o _ (HN.o.below af)).mono ?_;rintro e w1 ⟨rfl,n1,o1⟩;have HN1:=aa n1;have HO1:=aa ((Oth.of af).trans o1);have Z1:w1.heap[w.heap.size]?=some (.cells #[.slice none 0 0,.bool false] 63 (0,0)):=(o1.block _ (by simp) (by have:=HG.o;omega)).trans (heap_alloc_new _ _);have HZ1:=aa Z1;clear n1 o1 Z1 H1;go_wp2_with fail;refine(H2.o _).mono ?_;rintro e w3 ⟨lo,lc,rfl,hL,b3⟩;obtain⟨X,hX⟩:=aj w1.heap.size;have HX3:ae (dt w.heap.size w3 X g nc vs none 0 0 (T 0) [] (Rst 0) (Rd 0)):=aa (by rw[HT.o.1,HT.o.2.1,HT.o.2.2,hX];refine dt.below (w:=w1.alloc _) ⟨heap_alloc_new _ _,HN1.o.below af,sI.ownsRow_nil _ _ _ _,fun j r hj=>by simp at hj,rfl,HO1.o.size,HG.o⟩ b3);have HF3:ae (Fr w.heap.size g w w3):=aa ((Fr.of HO1.o (sU _)).trans ((Fr.of (.of af) HO1.o.size).trans (Fr.of (.of b3) (by have:=HO1.o.size;simp;omega))));have HZ3:=aa ((b3.block _ (by have:=ag HZ1.o;simp;omega)).trans ((tz.heap_alloc _ _ _ (ag HZ1.o)).trans HZ1.o));have HL3:ae (zpN (X+1) w3 lo ls):=aa (by rw[hX];simpa using hL);have HXw:ae (w.heap.size<X):=aa (by rw[hX];exact ag HZ1.o);rw[<-hX];clear hL b3 hX H2;obtain⟨m,hm⟩:=aj ls.length;rw[<-hm]at hl9⊢;have HM:=aa hm;clear hm;go_wp2;go_loopw [9] (fun y wr=>∃i:Nat,y=.int .i64 i/\i<=m/\ae (∃vo n vc xs,dt w.heap.size wr X g nc vs vo n vc (T i) xs (Rst i) (Rd i))/\ae (Fr w.heap.size g w wr)/\ae (wr.heap[w.heap.size]?=some (.cells #[.slice none 0 0,.bool false] 63 (0,0)))/\ae (zpN (X+1) wr lo ls)) (fun y _=>m-(intOf y).toNat)
 case atStart=>exact⟨0,rfl,Nat.zero_le _,aa ⟨_,_,_,_,HX3.o⟩,HF3,HZ3,HL3⟩
 case round=>
  clear HX3 HF3 HZ3 HL3;obtain⟨i,rfl,hi,HX,HF,HZ,HL⟩:=hrel;obtain⟨vo,n,vc,xs,hx⟩:=HX.o;by_cases hlt:i<m
  ·have i0:(0:Int)<=(i:Int):=by omega
   have i1:(i:Int)<(m:Int):=by omega
   have hil:i<ls.length:=by have:=HM.o;omega
   obtain⟨b,o,c,fr,rfl,hb,hh,hc⟩:=HL.o i ls[i] (sL hil);have c1:wr.cell? ⟨b,o+i,none⟩=some (.string ⟨(ls[i]).toArray⟩):=by rw[sD wr b _ c _ _ hh];exact hc
   have HLn:=aa (H3.o i ls[i] (sL hil) w.heap.size X vo n vc xs wr hx);obtain⟨s,hs⟩:=aj (ls[i]);rw[<-hs]at c1 HLn;clear hh hc hs hb hx;go_wp2_with fail;refine HLn.o.mono ?_;rintro e w4 ⟨rfl,f4,x4,r4⟩;have HX4:=aa r4;have HF4:=aa (HF.o.trans f4);have HZ4:=aa (x4 _ _ HZ.o (by have:=HG.o;omega) (by have:=HXw.o;omega) (fun c fr e=>by cases e));have HL4:ae (zpN (X+1) w4 (some ⟨b,o,none⟩) ls):=aa (fun j s hj=>by obtain⟨b2,o2,c2,fr2,k1,k2,k3,k4⟩:=HL.o j s hj;exact⟨b2,o2,c2,fr2,k1,k2,x4 _ _ k3 (by have:=HG.o;have:=HXw.o;omega) (by omega) (fun c fr e=>by cases e),k4⟩);clear f4 x4 r4 c1 HLn;go_wp2;go_roundw
   case rel=>exact⟨i+1,by go_num,by omega,HX4,HF4,HZ4,HL4⟩
   case measure=>simp[intOf];omega
  ·have i1:¬(i:Int)<(m:Int):=by omega
   have e:i=m:=by omega
   subst e;have HXx:=aa hx;have x1:wr.cell? ⟨X,1,none⟩=some (.slice vo n vc):=by rw[sD wr X 1 _ _ _ hx.at_];rfl
   have x2:wr.cell? ⟨X,2,none⟩=some (.bool (Rst i)):=by rw[sD wr X 2 _ _ _ hx.at_];rfl
   have z0:wr.cell? ⟨w.heap.size,0,none⟩=some (.slice none 0 0):=by rw[sD wr _ 0 _ _ _ HZ.o];rfl
   have z1:wr.cell? ⟨w.heap.size,1,none⟩=some (.bool false):=by rw[sD wr _ 1 _ _ _ HZ.o];rfl
   have f0:=sN wr _ 0 _ _ HZ.o;have f1:=sN wr _ 1 _ _ HZ.o;clear hx;go_wp2;obtain⟨w5,hw5⟩:=aj ((wr.setCell ⟨w.heap.size,0,none⟩ (.slice vo n vc)).setCell ⟨w.heap.size,1,none⟩ (.bool (Rst i)));rw[<-hw5];have k5:du w.heap.size wr w5:=by rw[hw5];exact(du.set _ 0 wr _).trans (du.set _ 1 _ _)
   have z5:w5.heap[w.heap.size]?=some (.cells #[.slice vo n vc,.bool (Rst i)] 63 (0,0)):=by have h0:=sO wr w.heap.size 0 _ _ (.slice vo n vc) HZ.o;rw[hw5,sO _ w.heap.size 1 _ _ _ h0];rfl
   have y0:w5.cell? ⟨w.heap.size,0,none⟩=some (.slice vo n vc):=by rw[sD w5 _ 0 _ _ _ z5];rfl
   have y1:w5.cell? ⟨w.heap.size,1,none⟩=some (.bool (Rst i)):=by rw[sD w5 _ 1 _ _ _ z5];rfl
   refine bodyPost_ret (v:=.tuple #[.agg #[.slice vo n vc,.bool (Rst i)],.int .i64 0,.int .i64 0]) ?_ rfl ?_
   ·simp[results,Tryz.f45,go_sem,y0,y1]
   ·rw[<-HM.o];refine⟨vo,vc,by rw[HXx.o.hn],?_,?_⟩
    ·have r5:dt w.heap.size w5 X g nc vs vo n vc (T i) xs (Rst i) (Rd i):=by refine⟨(k5.block X (by have:=HXw.o;omega)).trans HXx.o.at_,?_,⟨HXx.o.own.1,HXx.o.own.2.imp (fun e=>e) fun⟨q,cap,cur,c1,c2,c3,c4⟩=>⟨q,cap,cur,c1,c2,(k5.block q (fun e=>by rw[e,HZ.o]at c3;cases c3)).trans c3,c4⟩⟩,HXx.o.rul.kt (fun b c t fr hb ht=>(k5.block b (fun e=>by rw[e,HZ.o]at hb;cases hb;rcases ht with ht|ht<;>cases ht)).trans hb),HXx.o.hn,HXx.o.lx,HXx.o.lg⟩;obtain⟨cur,h1,h2⟩:=HXx.o.nm;exact⟨cur,(k5.block g (by have:=HG.o;omega)).trans h1,h2⟩
     exact r5.rules
    ·exact⟨k5.os.trans HF.o.os,k5.tape.trans HF.o.tape,k5.output.trans HF.o.output,by rw[k5.size];exact HF.o.size,fun b hb hne=>(k5.block b (by omega)).trans (HF.o.block b hb hne)⟩
end Pt
end
section
open Ev Go.RowKit
namespace Pt
theorem dt.rest{B:Nat}{w w1 w2:sI}{X g nc:Nat}{vs:List sK}{vo:Option Addr}{n vc:Nat}{rs:List Rl}{xs:List sK}{rest brk:Bool}(h:dt B w X g nc vs vo n vc rs xs rest false)(h1:w1=w.setCell ⟨X,2,none⟩ (.bool brk))(h2:w2=w1.setCell ⟨X,3,none⟩ (.bool true)):
  dt B w2 X g nc vs vo n vc rs xs brk true/\Fr B g w w2/\Fx g X w w2:=by
 have lx:=h.lx;have lg:=h.lg;have k1:du X w w1:=by rw[h1];exact du.set X 2 w _
 have k2:du X w w2:=by rw[h2];exact k1.trans (du.set X 3 w1 _)
 have e1:w1.heap[X]?=some (.cells #[.slice (some ⟨g,0,none⟩) vs.length nc,.slice vo n vc,.bool brk,.bool false] 87 (0,0)):=by rw[h1,sO w X 2 _ _ _ h.at_];rfl
 have e2:w2.heap[X]?=some (.cells #[.slice (some ⟨g,0,none⟩) vs.length nc,.slice vo n vc,.bool brk,.bool true] 87 (0,0)):=by rw[h2,sO w1 X 3 _ _ _ e1];rfl
 refine⟨⟨e2,?_,⟨h.own.1,h.own.2.imp (fun e=>e) fun⟨q,cap,cur,c1,c2,c3,c4⟩=>⟨q,cap,cur,c1,c2,(k2.block q (fun e=>by
  rw[e,h.at_]at c3;cases c3)).trans c3,c4⟩⟩,h.rul.kt (fun b c t fr hb ht=>(k2.block b (fun e=>by
  rw[e,h.at_]at hb;cases hb;rcases ht with ht|ht<;>cases ht)).trans hb),h.hn,lx,lg⟩,⟨k2.os,k2.tape,k2.output,by rw[k2.size];exact sU _,fun b hb _=>k2.block b (by omega)⟩,fun b o hb _ hne _=>(k2.block b hne).trans hb⟩
 obtain⟨cur,a1,a2⟩:=h.nm;exact⟨cur,(k2.block g (by omega)).trans a1,a2⟩
set_option maxRecDepth 100000 in
theorem zkM(B X g nc:Nat)(vs:List sK)(vo:Option Addr)(n vc:Nat)(rs:List Rl)(xs:List sK)(rest:Bool)(w:sI)(s p:List UInt8)(k:Nat)(brk:Bool)(hX:dt B w X g nc vs vo n vc rs xs rest false)
  (h1:aN 103 (.string ⟨s.toArray⟩) (.string ⟨p.toArray⟩)) (h2:aN 104 (.string ⟨p.toArray⟩) (.int .i64 k)) (hk:k<p.length) (hp9:p.length<=10000) (hb:((p[k].toNat:Int)==47)=brk)
  (h3:aN 105 (.string ((⟨p.toArray⟩:ByteArray).extract 0 k)) (.string ⟨#[114,101,115,116]⟩)) (h4:aN 105 (.string ((⟨p.toArray⟩:ByteArray).extract (k+1) p.length)) (.string ⟨#[]⟩)):
  sP Tryz.prog 72 #[.pointer (some ⟨X,0,none⟩),.string ⟨s.toArray⟩] w (LnQ B w X g nc vs rs brk true):=by
 have HX:=aa hX;have H1:=aa h1;have H2:=aa h2;have H3:=aa h3;have H4:=aa h4;clear hX h1 h2 h3 h4;go_enter Tryz.func72,Tryz.ntmps72;go_wp2_with fail;refine(H1.o w).mono ?_;rintro e w1 ⟨rfl,b1⟩;have HX1:=aa (HX.o.below b1);have HB1:=aa b1;clear b1;have p0:p.isEmpty=false:=by cases p with
  |nil=>simp at hk
  |cons a b=>rfl
 have p1:p≠ []:=by cases p with
  |nil=>simp at hk
  |cons a b=>simp
 go_wp2_with fail;refine(H2.o w1).mono ?_;rintro e w2 ⟨rfl,b2⟩;have HX2:=aa (HX1.o.below b2);have HB2:=aa (HB1.o.trans (b2.mono HB1.o.size));clear b2 HX1 HB1;have x3:w2.cell? ⟨X,3,none⟩=some (.bool false):=by rw[sD w2 X 3 _ _ _ HX2.o.at_];rfl
 have k0:(0:Int)<=(k:Int):=by omega
 have k1:(k:Int)<(p.length:Int):=by omega
 have k2:¬(k:Int)<0:=by omega
 have d1:decide ((k:Int)<0)=false:=decide_eq_false (by omega);have k3:(k:Int)<=(p.length:Int):=by omega
 have k4:(k:Int)+1<=(p.length:Int):=by omega
 go_wp2_with fail;have e9:((((⟨p.toArray⟩:ByteArray)[k]'(by show k<p.toArray.size;simpa using hk)).toNat:Int)==47)=brk:=hb;rw[e9];clear e9 hb;have e8:tG.wrap ((k:Int)+1)=(k:Int)+1:=by unfold tu tw tn;simp;omega
 have k5:(0:Int)<=(k:Int)+1:=by omega
 refine aw [(0,true),(1,true),(2,true),(4,true),(5,true),(6,true),(7,true),(3,false),(8,false),(9,false),(10,false)] (fun _=>True) (fun _=>false) (by kernel_rfl) (by kernel_rfl) (fun j hj=>by cases hj) rfl (by kernel_rfl) trivial ?_
 iterate 7 (refine aF ?_ rfl (by kernel_rfl) (fun w' hS=>?_) ?_;(rotate_left;(go_simp;with_reducible rfl);rotate_left))
 refine au rfl (by kernel_rfl) fun KK hKK=>?_;go_simp;refine(H3.o w2.drew).mono ?_;rintro e w3 ⟨rfl,b3⟩;have HB3:ae (tz w2.heap.size w2 w3):=aa ⟨b3.os,b3.tape,b3.output,b3.size,b3.block⟩;clear b3;refine hKK _ _ (fun _=>trivial) ?_;clear hKK;refine au rfl (by kernel_rfl) fun KK hKK=>?_;go_simp;refine(H4.o w3).mono ?_;rintro e w4 ⟨rfl,b4⟩;have HB4:ae (tz w2.heap.size w2 w4):=aa (HB3.o.trans (b4.mono HB3.o.size));clear b4 HB3;refine hKK _ _ (fun _=>trivial) ?_;clear hKK;refine au rfl (by kernel_rfl) fun KK hKK=>?_;go_simp;refine hKK _ _ (fun _=>trivial) ?_;clear hKK;refine au rfl (by kernel_rfl) fun KK hKK=>?_;go_simp;refine hKK _ _ (fun _=>trivial) ?_;clear hKK;refine ba (tp ?_);have HX4:=aa (HX2.o.below HB4.o);have HBw:=aa (HB2.o.trans (HB4.o.mono HB2.o.size));have HF4:ae (Fr B g w w4):=aa (.of (.of HBw.o) (by have:=ag HX.o.at_;have:=HX.o.lx;omega));have HFx:ae (Fx g X w w4):=aa (.of (.of HBw.o));have y2:w4.cell? ⟨X,2,none⟩=some (.bool rest):=by rw[sD w4 X 2 _ _ _ HX4.o.at_];rfl
 have f2:w4.frozen? ⟨X,2,none⟩=false:=sN w4 X 2 _ _ HX4.o.at_;have HR:=aa (fun(u1 u2:sI)(e1:u1=w4.setCell ⟨X,2,none⟩ (.bool brk))(e2:u2=u1.setCell ⟨X,3,none⟩ (.bool true))=>dt.rest HX4.o e1 e2);have m3:(w4.setCell ⟨X,2,none⟩ (.bool brk)).cell? ⟨X,3,none⟩=some (.bool false):=by rw[sD _ X 3 _ _ _ (sO w4 X 2 _ _ (.bool brk) HX4.o.at_)];rfl
 have m4:(w4.setCell ⟨X,2,none⟩ (.bool brk)).frozen? ⟨X,3,none⟩=false:=sN _ X 3 _ _ (sO w4 X 2 _ _ (.bool brk) HX4.o.at_);have xl:X<w4.heap.size:=ag HX4.o.at_;clear x3 HX2 HB2 HB4 k2 k3 k4 k5 d1 e8 p0 p1 HX;go_wp2;go_ret;obtain⟨r1,r2,r3⟩:=HR.o _ _ rfl rfl;exact⟨rfl,HF4.o.trans r2,HFx.o.trans r3,_,_,_,_,r1⟩
end Pt
end
section
open Ev Go.RowKit
namespace Pt
theorem zlX:cL cY 106 zsn av zdo=true:=by kernel_rfl
theorem pm(g nc:Nat)(w:sI)(hN:bu w g nc av):sP Tryz.prog 106 #[.string zsn,.slice (some ⟨g,0,none⟩) 20 nc] w (i7 g nc av w zdo):=aE aK ax zlX g nc w hN
theorem zlS:cL cY 106 zsk av zlT=true:=by kernel_rfl
theorem zfY(g nc:Nat)(w:sI)(hN:bu w g nc av):sP Tryz.prog 106 #[.string zsk,.slice (some ⟨g,0,none⟩) 20 nc] w (i7 g nc av w zlT):=aE aK ax zlS g nc w hN
theorem zke:cL cY 106 zmm av sg=true:=by kernel_rfl
theorem zdq(g nc:Nat)(w:sI)(hN:bu w g nc av):sP Tryz.prog 106 #[.string zmm,.slice (some ⟨g,0,none⟩) 20 nc] w (i7 g nc av w sg):=aE aK ax zke g nc w hN
theorem zjZ:cL cY 106 zmg av sb=true:=by kernel_rfl
theorem zdm(g nc:Nat)(w:sI)(hN:bu w g nc av):sP Tryz.prog 106 #[.string zmg,.slice (some ⟨g,0,none⟩) 20 nc] w (i7 g nc av w sb):=aE aK ax zjZ g nc w hN
theorem zjR:cL cY 106 zlY av ni=true:=by kernel_rfl
theorem zdf(g nc:Nat)(w:sI)(hN:bu w g nc av):sP Tryz.prog 106 #[.string zlY,.slice (some ⟨g,0,none⟩) 20 nc] w (i7 g nc av w ni):=aE aK ax zjR g nc w hN
end Pt
end
section
open Ev Go.RowKit
namespace Pt
theorem zmu:cL cY 106 zsp av zmv=true:=by kernel_rfl
theorem zgb(g nc:Nat)(w:sI)(hN:bu w g nc av):sP Tryz.prog 106 #[.string zsp,.slice (some ⟨g,0,none⟩) 20 nc] w (i7 g nc av w zmv):=aE aK ax zmu g nc w hN
theorem zlW:cL cY 106 zsm av pk=true:=by kernel_rfl
theorem kp(g nc:Nat)(w:sI)(hN:bu w g nc av):sP Tryz.prog 106 #[.string zsm,.slice (some ⟨g,0,none⟩) 20 nc] w (i7 g nc av w pk):=aE aK ax zlW g nc w hN
theorem zlO:cL cY 106 zsh av kR=true:=by kernel_rfl
theorem km(g nc:Nat)(w:sI)(hN:bu w g nc av):sP Tryz.prog 106 #[.string zsh,.slice (some ⟨g,0,none⟩) 20 nc] w (i7 g nc av w kR):=aE aK ax zlO g nc w hN
theorem zkh:cL cY 106 zmp av sj=true:=by kernel_rfl
theorem zdt(g nc:Nat)(w:sI)(hN:bu w g nc av):sP Tryz.prog 106 #[.string zmp,.slice (some ⟨g,0,none⟩) 20 nc] w (i7 g nc av w sj):=aE aK ax zkh g nc w hN
theorem zkd:cL cY 106 zml av eY=true:=by kernel_rfl
theorem iq(g nc:Nat)(w:sI)(hN:bu w g nc av):sP Tryz.prog 106 #[.string zml,.slice (some ⟨g,0,none⟩) 20 nc] w (i7 g nc av w eY):=aE aK ax zkd g nc w hN
theorem zjY:cL cY 106 zmf av sa=true:=by kernel_rfl
theorem zdl(g nc:Nat)(w:sI)(hN:bu w g nc av):sP Tryz.prog 106 #[.string zmf,.slice (some ⟨g,0,none⟩) 20 nc] w (i7 g nc av w sa):=aE aK ax zjY g nc w hN
theorem zjT:cL cY 106 zma av pn=true:=by kernel_rfl
theorem zdg(g nc:Nat)(w:sI)(hN:bu w g nc av):sP Tryz.prog 106 #[.string zma,.slice (some ⟨g,0,none⟩) 20 nc] w (i7 g nc av w pn):=aE aK ax zjT g nc w hN
end Pt
end
section
open Ev Go.RowKit
namespace Pt
theorem zmi:cL cY 106 zso av zmt=true:=by kernel_rfl
theorem zga(g nc:Nat)(w:sI)(hN:bu w g nc av):sP Tryz.prog 106 #[.string zso,.slice (some ⟨g,0,none⟩) 20 nc] w (i7 g nc av w zmt):=aE aK ax zmi g nc w hN
theorem zlN:cL cY 106 zsg av kQ=true:=by kernel_rfl
theorem kk(g nc:Nat)(w:sI)(hN:bu w g nc av):sP Tryz.prog 106 #[.string zsg,.slice (some ⟨g,0,none⟩) 20 nc] w (i7 g nc av w kQ):=aE aK ax zlN g nc w hN
theorem zkj:cL cY 106 zmr av sk=true:=by kernel_rfl
theorem zdu(g nc:Nat)(w:sI)(hN:bu w g nc av):sP Tryz.prog 106 #[.string zmr,.slice (some ⟨g,0,none⟩) 20 nc] w (i7 g nc av w sk):=aE aK ax zkj g nc w hN
theorem zki:cL cY 106 zmq av jJ=true:=by kernel_rfl
theorem nk(g nc:Nat)(w:sI)(hN:bu w g nc av):sP Tryz.prog 106 #[.string zmq,.slice (some ⟨g,0,none⟩) 20 nc] w (i7 g nc av w jJ):=aE aK ax zki g nc w hN
theorem zkc:cL cY 106 zmk av eX=true:=by kernel_rfl
theorem ip(g nc:Nat)(w:sI)(hN:bu w g nc av):sP Tryz.prog 106 #[.string zmk,.slice (some ⟨g,0,none⟩) 20 nc] w (i7 g nc av w eX):=aE aK ax zkc g nc w hN
theorem zka:cL cY 106 zmh av se=true:=by kernel_rfl
theorem zdn(g nc:Nat)(w:sI)(hN:bu w g nc av):sP Tryz.prog 106 #[.string zmh,.slice (some ⟨g,0,none⟩) 20 nc] w (i7 g nc av w se):=aE aK ax zka g nc w hN
end Pt
end
section
open Ev Go.RowKit
namespace Pt
theorem zlU:cL cY 106 zsl av zlV=true:=by kernel_rfl
theorem zfZ(g nc:Nat)(w:sI)(hN:bu w g nc av):sP Tryz.prog 106 #[.string zsl,.slice (some ⟨g,0,none⟩) 20 nc] w (i7 g nc av w zlV):=aE aK ax zlU g nc w hN
theorem zlP:cL cY 106 zsi av zlQ=true:=by kernel_rfl
theorem zfW(g nc:Nat)(w:sI)(hN:bu w g nc av):sP Tryz.prog 106 #[.string zsi,.slice (some ⟨g,0,none⟩) 20 nc] w (i7 g nc av w zlQ):=aE aK ax zlP g nc w hN
theorem zkb:cL cY 106 zmj av sf=true:=by kernel_rfl
theorem zdp(g nc:Nat)(w:sI)(hN:bu w g nc av):sP Tryz.prog 106 #[.string zmj,.slice (some ⟨g,0,none⟩) 20 nc] w (i7 g nc av w sf):=aE aK ax zkb g nc w hN
theorem zjX:cL cY 106 zme av rY=true:=by kernel_rfl
theorem zdk(g nc:Nat)(w:sI)(hN:bu w g nc av):sP Tryz.prog 106 #[.string zme,.slice (some ⟨g,0,none⟩) 20 nc] w (i7 g nc av w rY):=aE aK ax zjX g nc w hN
theorem zjU:cL cY 106 zmb av rV=true:=by kernel_rfl
theorem zdh(g nc:Nat)(w:sI)(hN:bu w g nc av):sP Tryz.prog 106 #[.string zmb,.slice (some ⟨g,0,none⟩) 20 nc] w (i7 g nc av w rV):=aE aK ax zjU g nc w hN
theorem zjS:cL cY 106 zlZ av jI=true:=by kernel_rfl
theorem nj(g nc:Nat)(w:sI)(hN:bu w g nc av):sP Tryz.prog 106 #[.string zlZ,.slice (some ⟨g,0,none⟩) 20 nc] w (i7 g nc av w jI):=aE aK ax zjS g nc w hN
end Pt
end
section
open Ev Go.RowKit
namespace Pt
theorem zlR:cL cY 106 zsj av zfX=true:=by kernel_rfl
theorem pj(g nc:Nat)(w:sI)(hN:bu w g nc av):sP Tryz.prog 106 #[.string zsj,.slice (some ⟨g,0,none⟩) 20 nc] w (i7 g nc av w zfX):=aE aK ax zlR g nc w hN
theorem zkk:cL cY 106 zms av sq=true:=by kernel_rfl
theorem zdv(g nc:Nat)(w:sI)(hN:bu w g nc av):sP Tryz.prog 106 #[.string zms,.slice (some ⟨g,0,none⟩) 20 nc] w (i7 g nc av w sq):=aE aK ax zkk g nc w hN
theorem zkg:cL cY 106 zmo av si=true:=by kernel_rfl
theorem zds(g nc:Nat)(w:sI)(hN:bu w g nc av):sP Tryz.prog 106 #[.string zmo,.slice (some ⟨g,0,none⟩) 20 nc] w (i7 g nc av w si):=aE aK ax zkg g nc w hN
theorem zkf:cL cY 106 zmn av sh=true:=by kernel_rfl
theorem zdr(g nc:Nat)(w:sI)(hN:bu w g nc av):sP Tryz.prog 106 #[.string zmn,.slice (some ⟨g,0,none⟩) 20 nc] w (i7 g nc av w sh):=aE aK ax zkf g nc w hN
theorem zjW:cL cY 106 zmd av rX=true:=by kernel_rfl
theorem zdj(g nc:Nat)(w:sI)(hN:bu w g nc av):sP Tryz.prog 106 #[.string zmd,.slice (some ⟨g,0,none⟩) 20 nc] w (i7 g nc av w rX):=aE aK ax zjW g nc w hN
theorem zjV:cL cY 106 zmc av rW=true:=by kernel_rfl
theorem zdi(g nc:Nat)(w:sI)(hN:bu w g nc av):sP Tryz.prog 106 #[.string zmc,.slice (some ⟨g,0,none⟩) 20 nc] w (i7 g nc av w rW):=aE aK ax zjV g nc w hN
end Pt
end
end Go.Proofs.YtbbapnpdfcgjnaaGreatDoor
