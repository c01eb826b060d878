/- SdCopy, SdApp, SdFst, SdFsl, SdRev, SdSide, SdSides: parts of the proof, joined. -/
import Derived.Deep.AppendSrc
import Derived.Test.YtbbapnpdfcgjnaaGreatDoorWPtFun1
open Go renaming cell_of_row->sD, World->sE, frozen_of_row->sJ, Value->sP, heap_setCell_same->tn, Calls->tr, info_parts->tC, run_underlying->tJ, wp_append_lies->tL, heap_setCell_other->tQ, bodyPost_ret->tX, TypeId->ug, maxLen->uh
open Go.RowKit renaming Below->sG, intOf->tf
open Go.Value renaming slice->sH, ownBlock->sT, int->t7
open List renaming getElem?_eq_getElem->sI, getElem?_append_right->sL, getElem?_eq_some_iff->sQ, getElem?_append_left->sS, nil_append->sU, mem_append_left->sW, getElem_mem->sX, getElem?_map->ta, length_append->tg, mem_append_right->tj, length_map->tk, take_succ_eq_append_getElem->tp, eq_nil_of_length_eq_zero->tq, getD_eq_getElem?_getD->tw, length_drop->tA, length_eq_zero_iff->tB, drop_of_length_le->tE, take_of_length_le->tF, mem_append->tH, length_singleton->tI, mem_cons_of_mem->tK, getElem_of_mem->tM, map_cons->tO, mem_cons_self->tP, range->tR, getElem_range->tS, mem_map->tU, length_range->tV, map_toArray->tY, length_take->tZ, ext_getElem->t8, getElem_map->ua, map_nil->uj
open Go.World renaming cell?_of_block->sK, ownsRow_nil->td, ownsRow_lit->tz, news_of_block->tN, size_alloc->t6, grownBy->uf
open Go.RowKit.Below renaming refl->sM, heap_alloc->sY
open Nat renaming zero_add->sN, lt_of_lt_of_le->sR, le_refl->sV, zero_le->tc, le_trans->te, sub_self->tG, eq_or_lt_of_le->tT, le_of_eq->tW, lt_or_ge->uk
open Go.NoPanic renaming normal->sO
open Option.some renaming inj->sZ
open Go.Builtin renaming append_->ti
open Go.Addr renaming add_lit->tu
open Go.IntKind renaming signed->ue, wrap->ul, bits->um, i64->un
set_option maxHeartbeats 64000000
namespace Go.Proofs.YtbbapnpdfcgjnaaGreatDoor
section
open Go.RowKit
namespace Pt
theorem zsV{P:Program}{c:Code}{Q:Exit->Act->sE->Prop}{a:Act}{w:sE}(R:Act->sE->Prop)(h1:c.wp P (fun e a' w'=>e=.normal/\R a' w') a w)(h2:∀a' w',R a' w'->Q .normal a' w'):c.wp P Q a w:=
 Code.wp_mono (fun e a' w' h=>by obtain⟨rfl,h⟩:=h;exact h2 a' w' h) h1
def bk(L:List Int):List sP:=L.map fun z=>.int .i64 z
theorem zeS(L:List Int):(bk L).length=L.length:=tk ..
theorem zeR(L:List Int):∀v∈bk L,v.oneCell'=true:=fun v hv=>by unfold bk at hv;obtain⟨x,_,rfl⟩:=tU.1 hv;rfl
theorem di{w:sE}{B e sz g n c:Nat}{xs:List sP}(h:w.ownsRow B e sz (.slice (some ⟨g,0,none⟩) n c) n xs):B<=g/\(∃cur,w.heap[g]?=some (.cells cur e (0,0)))/\n<=c/\∀(j:Nat)(u:sP),xs[j]?=some u->w.cell? ⟨g,j,none⟩=some u:=by
 rcases h.2 with ⟨h1,_⟩|⟨g',cap,cur,h1,h2,h3,h4,h5,h6,h7⟩
 ·cases h1
 ·cases h1;refine⟨h2,⟨cur,h3⟩,h4,fun j u hj=>?_⟩;have hl:=h.1;have hjl:=(sQ.1 hj).1;rw[sD w g j cur _ _ h3];rw[<-h7,List.getElem?_take_of_lt (by omega)]at hj;simpa using hj
theorem zmW{B H:Nat}{w:sE}(hown:w.ownsRow B 3 1 (.slice (some ⟨H,0,none⟩) 0 0) 0 [])(ty:ug){fo:Option Addr}{fn fc:Nat}{F:List Int}(hF:eS w fo F)(hfn:fn=F.length)(hl:fn<=1000000000000)(hB:B<=w.heap.size):
  ∃g cap w',(ti #[23,23] ty #[.slice (some ⟨H,0,none⟩) 0 0,.slice fo fn fc]).run Tryz.prog w=.ok (.slice (some ⟨g,0,none⟩) fn cap) w'/\w'.ownsRow B 3 1 (.slice (some ⟨g,0,none⟩) fn cap) fn (bk F)/\w.grownBy w' (some H)/\(g=H\/g=w.heap.size)/\g<w'.heap.size:=by
 obtain⟨i,hi,hz,hsize,hby⟩:=tC Tryz.info3;by_cases h0:fn=0
 ·subst h0;have hF0:F=[]:=tq hfn.symm;subst hF0;have hs:Src Tryz.prog i.size 23 (.slice fo 0 fc) 0 [] w:=by
   cases fo with
   |none=>exact Src.ofNil w Tryz.underlying23 fc
   |some a=>exact Src.ofSlice w Tryz.underlying23 a 0 fc [] (by simp) (fun j u hj=>by simp at hj) (fun u hu=>by simp at hu)
  have hr:(ti #[23,23] ty #[.slice (some ⟨H,0,none⟩) 0 0,.slice fo 0 fc]).run Tryz.prog w=.ok (.slice (some ⟨H,0,none⟩) 0 0) w:=by simp[ti,tJ Tryz.underlying23,sizeOf,typeInfo,hi,hs.len,hs.cells,storeCells]
  exact⟨H,0,w,hr,hown,⟨rfl,rfl,rfl,sV _,fun _ _ _=>rfl⟩,.inl rfl,(hown.lt H rfl).2⟩
 ·obtain⟨a,rfl,_,_⟩:=hF 0 F[0] (sI (by omega));obtain⟨g,cap,w',hr,h2,h3,h4,h5⟩:=run_append_lies (P:=Tryz.prog) w 23 ty B 3 i (.int .i64 0) 1 8 Tryz.underlying23 hi hz hsize hby rfl (by decide) (.slice (some ⟨H,0,none⟩) 0 0) 0 [] hown a fn fc (bk F) (by rw[zeS,hfn,Nat.mul_one]) (fun j u hj=>by unfold bk at hj;rw[ta]at hj;obtain⟨z,hz1,hz2⟩:=Option.map_eq_some_iff.1 hj;obtain⟨a',e,_,h⟩:=hF j z hz1;cases e;rw[h,hz2]) (zeR F) (by omega) (by unfold uh;omega) (by omega) hB w.heap.size rfl;refine⟨g,cap,w',by simpa using hr,by simpa using h2,h3,?_,h5⟩;rcases h4 with h|h
  ·exact .inl (sZ h).symm
  ·exact .inr h
theorem zaU{w:sE}{o:Oper}{a:Act}{K:Act->sE->Prop}{Q:Exit->Act->sE->Prop}(s x:Operand)(ho:o.op=.call {callee:=.builtin .append,args:=#[s,x],argTypes:=#[23,23]})(B H:Nat)(hs:a.eval s=.slice (some ⟨H,0,none⟩) 0 0)(hown:w.ownsRow B 3 1 (.slice (some ⟨H,0,none⟩) 0 0) 0 [])(fo:Option Addr)(fn fc:Nat)(F:List Int)(hx:a.eval x=.slice fo fn fc)(hF:eS w fo F)(hfn:fn=F.length)(hl:fn<=1000000000000)(hB:B<=w.heap.size)
  (h:∀g cap w',w'.ownsRow B 3 1 (.slice (some ⟨g,0,none⟩) fn cap) fn (bk F)->w.grownBy w' (some H)->(g=H\/g=w.heap.size)->g<w'.heap.size->K (a.put o.dst (.slice (some ⟨g,0,none⟩) fn cap)) w'):o.wp Tryz.prog a w K Q:=by
 obtain⟨g,cap,w',hr,h2,h3,h4,h5⟩:=zmW hown o.type (fc:=fc) hF hfn hl hB;unfold Oper.wp execOp;simp only[ho,resolve,invoke,builtin,Sem.run_bind,Sem.run_pure,Result.andThen_ok,tY,tO,uj,hs,hx,hr];exact h g cap w' h2 h3 h4 h5
def ik(w:sE)(X:Nat->Prop)(ao:Option Addr)(l:List Int):Prop:=∀(k:Nat)(z:Int),l[k]?=some z->∃a:Addr,ao=some a/\a.block<w.heap.size/\¬X a.block/\w.cell? (a.add k)=some (.int .i64 z)
mutual
def dX(w:sE)(X:Nat->Prop):aA->sP->sP->sP->Prop
 |.mk op cls kids,v0,v1,v2=>v0=.int .i64 op/\(∃co cc,v1=.slice co cls.length cc/\ik w X co cls/\cls.length<=1000000)/\(∃ko kc,v2=.slice ko kids.length kc/\fH w X kids ko 0/\kids.length<=1000000/\kids.length<=kc)
def fH(w:sE)(X:Nat->Prop):List aA->Option Addr->Nat->Prop
 |[],_,_=>True
 |p::ps,ko,i=>(∃b o,ko=some ⟨b,o,none⟩/\b<w.heap.size/\¬X b/\∃v0 v1 v2,w.cell? ⟨b,o+i*3,none⟩=some v0/\w.cell? ⟨b,o+i*3+1,none⟩=some v1/\w.cell? ⟨b,o+i*3+2,none⟩=some v2/\dX w X p v0 v1 v2)/\fH w X ps ko (i+1)
end
theorem ik.rd{w:sE}{X:Nat->Prop}{ao:Option Addr}{l:List Int}(h:ik w X ao l):eS w ao l:=fun k z hz=>by obtain⟨a,h1,h2,_,h4⟩:=h k z hz;exact⟨a,h1,h2,h4⟩
mutual
theorem dX.rd{w:sE}{X:Nat->Prop}:∀(p:aA)(v0 v1 v2:sP),dX w X p v0 v1 v2->cv w p v0 v1 v2
 |.mk op cls kids,v0,v1,v2,h=>by unfold dX at h;unfold cv;obtain⟨h1,⟨co,cc,h2,h3,h4⟩,ko,kc,h5,h6,h7⟩:=h;exact⟨h1,⟨co,cc,h2,h3.rd,h4⟩,ko,kc,h5,fH.rd kids ko 0 h6,h7⟩
theorem fH.rd{w:sE}{X:Nat->Prop}:∀(ps:List aA)(ko:Option Addr)(i:Nat),fH w X ps ko i->gA w ps ko i
 |[],_,_,_=>by unfold gA;trivial
 |p::ps,ko,i,h=>by unfold fH at h;unfold gA;obtain⟨⟨b,o,h1,h2,_,v0,v1,v2,h3,h4,h5,h6⟩,h7⟩:=h;exact⟨⟨b,o,h1,h2,v0,v1,v2,h3,h4,h5,dX.rd p _ _ _ h6⟩,fH.rd ps ko (i+1) h7⟩
end
structure KpX(w w':sE)(X X':Nat->Prop):Prop where
 size:w.heap.size<=w'.heap.size
 block:∀k,k<w.heap.size->¬X k->w'.heap[k]?=w.heap[k]?
 sub:∀k,k<w.heap.size->X' k->X k
theorem KpX.cell{w w':sE}{X X':Nat->Prop}(h:KpX w w' X X'){p:Addr}{v:sP}(hp:p.block<w.heap.size)(hx:¬X p.block)(hc:w.cell? p=some v):w'.cell? p=some v:=(sK (h.block p.block hp hx)).trans hc
theorem ik.keep{w w':sE}{X X':Nat->Prop}{ao:Option Addr}{l:List Int}(h:ik w X ao l)(hk:KpX w w' X X'):ik w' X' ao l:=fun k z hz=>by obtain⟨a,h1,h2,h3,h4⟩:=h k z hz;exact⟨a,h1,sR h2 hk.size,fun hx=>h3 (hk.sub _ h2 hx),hk.cell (p:=a.add k) (by rw[add_blk];exact h2) (by rw[add_blk];exact h3) h4⟩
mutual
theorem dX.keep{w w':sE}{X X':Nat->Prop}(hk:KpX w w' X X'):∀(p:aA)(v0 v1 v2:sP),dX w X p v0 v1 v2->dX w' X' p v0 v1 v2
 |.mk op cls kids,v0,v1,v2,h=>by unfold dX at h⊢;obtain⟨h1,⟨co,cc,h2,h3,h4⟩,ko,kc,h5,h6,h7⟩:=h;exact⟨h1,⟨co,cc,h2,h3.keep hk,h4⟩,ko,kc,h5,fH.keep hk kids ko 0 h6,h7⟩
theorem fH.keep{w w':sE}{X X':Nat->Prop}(hk:KpX w w' X X'):∀(ps:List aA)(ko:Option Addr)(i:Nat),fH w X ps ko i->fH w' X' ps ko i
 |[],_,_,_=>by unfold fH;trivial
 |p::ps,ko,i,h=>by unfold fH at h⊢;obtain⟨⟨b,o,h1,h2,hx,v0,v1,v2,h3,h4,h5,h6⟩,h7⟩:=h;have hc:∀k v,w.cell? ⟨b,k,none⟩=some v->w'.cell? ⟨b,k,none⟩=some v:=fun k v hv=>hk.cell (p:=⟨b,k,none⟩) h2 hx hv;exact⟨⟨b,o,h1,sR h2 hk.size,fun h=>hx (hk.sub _ h2 h),v0,v1,v2,hc _ _ h3,hc _ _ h4,hc _ _ h5,dX.keep hk p _ _ _ h6⟩,fH.keep hk ps ko (i+1) h7⟩
end
theorem fH.of{w:sE}{X:Nat->Prop}(g:Nat)(hg:g<w.heap.size)(hx:¬X g):∀(ps:List aA)(i:Nat),(∀(j:Nat)(p:aA),ps[j]?=some p->∃v0 v1 v2,w.cell? ⟨g,(i+j)*3,none⟩=some v0/\w.cell? ⟨g,(i+j)*3+1,none⟩=some v1/\w.cell? ⟨g,(i+j)*3+2,none⟩=some v2/\dX w X p v0 v1 v2)->fH w X ps (some ⟨g,0,none⟩) i
 |[],_,_=>by unfold fH;trivial
 |p::ps,i,h=>by
  unfold fH;refine⟨⟨g,0,rfl,hg,hx,?_⟩,fH.of g hg hx ps (i+1) fun j q hj=>?_⟩
  ·simp only[sN];exact h 0 p rfl
  ·have:=h (j+1) q (by simpa using hj);rw[show i+1+j=i+(j+1) by omega];exact this
def st3(W:sE)(p:Nat)(v0 v1 v2:sP):sE:=((W.setCell ⟨p,0,none⟩ v0).setCell ⟨p,1,none⟩ v1).setCell ⟨p,2,none⟩ v2
theorem zbl{W:sE}{p:Nat}{x0 x1 x2 v0 v1 v2:sP}{t:ug}(h:W.heap[p]?=some (.cells #[x0,x1,x2] t (0,0))):(st3 W p v0 v1 v2).heap[p]?=some (.cells #[v0,v1,v2] t (0,0)):=by have e1:=tn W p 0 _ t v0 h;have e2:=tn _ p 1 _ t v1 e1;exact tn _ p 2 _ t v2 e2
theorem oq(W:sE)(p:Nat)(v0 v1 v2:sP):du p W (st3 W p v0 v1 v2):=((du.set p 0 W v0).trans (du.set p 1 _ v1)).trans (du.set p 2 _ v2)
theorem Tryz.infoPat:(Tryz.prog.info? 105).map (fun i=>(i.zero,i.size,i.bytes))=some (some (.agg #[.int .i64 0,.slice none 0 0,.slice none 0 0]),3,56):=by kernel_rfl
theorem Tryz.underPats:Tryz.prog.underlying 103=some (.slice 105):=by kernel_rfl
end Pt
end
section
open Go.RowKit
namespace Pt
theorem zof(L M:List Int):bk (L++M)=bk L++bk M:=List.map_append ..
theorem zmX{B:Nat}{w:sE}(ty:ug){v:sP}{n:Nat}{X:List Int}(hown:w.ownsRow B 3 1 v n (bk X)){fo:Option Addr}{fn fc:Nat}{F:List Int}(hF:eS w fo F)(hfn:fn=F.length)(hl:n+fn<=1000000000000)(hB:B<=w.heap.size):
  ∃vo vc w',(ti #[23,23] ty #[v,.slice fo fn fc]).run Tryz.prog w=.ok (.slice vo (n+fn) vc) w'/\w'.ownsRow B 3 1 (.slice vo (n+fn) vc) (n+fn) (bk (X++F))/\w.grownBy w' v.ownBlock/\((sH vo (n+fn) vc).ownBlock=v.ownBlock\/(sH vo (n+fn) vc).ownBlock=some w.heap.size):=by
 obtain⟨i,hi,hz,hsize,hby⟩:=tC Tryz.info3;by_cases h0:fn=0
 ·subst h0;have hF0:F=[]:=tq hfn.symm;subst hF0;have hs:Src Tryz.prog i.size 23 (.slice fo 0 fc) 0 [] w:=by
   cases fo with
   |none=>exact Src.ofNil w Tryz.underlying23 fc
   |some a=>exact Src.ofSlice w Tryz.underlying23 a 0 fc [] (by simp) (fun j u hj=>by simp at hj) (fun u hu=>by simp at hu)
  rw[List.append_nil];have hg:w.grownBy w v.ownBlock:=⟨rfl,rfl,rfl,sV _,fun _ _ _=>rfl⟩;rcases hown.2 with ⟨h1,h2⟩|⟨g,cap,cur,h1,h2,h3,h4,h5⟩
  ·subst h1 h2;refine⟨none,0,w,?_,hown,hg,.inl rfl⟩;simp[ti,tJ Tryz.underlying23,sizeOf,typeInfo,hi,hs.len,hs.cells]
  ·subst h1;refine⟨some ⟨g,0,none⟩,cap,w,?_,hown,hg,.inl rfl⟩;simp[ti,tJ Tryz.underlying23,sizeOf,typeInfo,hi,hs.len,hs.cells,storeCells,h4]
 ·obtain⟨a,rfl,_,_⟩:=hF 0 F[0] (sI (by omega));obtain⟨g,cap,w',hr,h2,h3,h4,h5⟩:=run_append_lies (P:=Tryz.prog) w 23 ty B 3 i (.int .i64 0) 1 8 Tryz.underlying23 hi hz hsize hby rfl (by decide) v n (bk X) hown a fn fc (bk F) (by rw[zeS,hfn,Nat.mul_one]) (fun j u hj=>by unfold bk at hj;rw[ta]at hj;obtain⟨z,hz1,hz2⟩:=Option.map_eq_some_iff.1 hj;obtain⟨a',e,_,h⟩:=hF j z hz1;cases e;rw[h,hz2]) (zeR F) (by omega) (by unfold uh;omega) (by omega) hB w.heap.size rfl;refine⟨some ⟨g,0,none⟩,cap,w',hr,by rw[zof];exact h2,h3,?_⟩;rcases h4 with h|h
  ·exact .inl (by rw[h];rfl)
  ·exact .inr (by rw[h];rfl)
theorem aP{w:sE}{o:Oper}{a:Act}{K:Act->sE->Prop}{Q:Exit->Act->sE->Prop}(s x:Operand)(ho:o.op=.call {callee:=.builtin .append,args:=#[s,x],argTypes:=#[23,23]})(B:Nat)(v:sP)(n:Nat)(X:List Int)(hs:a.eval s=v)(hown:w.ownsRow B 3 1 v n (bk X))(fo:Option Addr)(fn fc:Nat)(F:List Int)(hx:a.eval x=.slice fo fn fc)(hF:eS w fo F)(hfn:fn=F.length)(hl:n+fn<=1000000000000)(hB:B<=w.heap.size)
  (h:∀vo vc w',w'.ownsRow B 3 1 (.slice vo (n+fn) vc) (n+fn) (bk (X++F))->w.grownBy w' v.ownBlock->((sH vo (n+fn) vc).ownBlock=v.ownBlock\/(sH vo (n+fn) vc).ownBlock=some w.heap.size)->K (a.put o.dst (.slice vo (n+fn) vc)) w'):o.wp Tryz.prog a w K Q:=by
 obtain⟨vo,vc,w',hr,h2,h3,h4⟩:=zmX o.type hown (fc:=fc) hF hfn hl hB;unfold Oper.wp execOp;simp only[ho,resolve,invoke,builtin,Sem.run_bind,Sem.run_pure,Result.andThen_ok,tY,tO,uj,hs,hx,hr];exact h vo vc w' h2 h3 h4
theorem dd{w:sE}{ops:Array Oper}{rest:List Oper}{o:Oper}{a:Act}{Q:Exit->Act->sE->Prop}(hgd:o.guard=none)(s x:Operand)(ho:o.op=.call {callee:=.builtin .append,args:=#[s,x],argTypes:=#[23,23]})(B:Nat)(v:sP)(n:Nat)(X:List Int)(hs:a.eval s=v)(hown:w.ownsRow B 3 1 v n (bk X))(fo:Option Addr)(fn fc:Nat)(F:List Int)(hx:a.eval x=.slice fo fn fc)(hF:eS w fo F)(hfn:fn=F.length)(hl:n+fn<=1000000000000)(hB:B<=w.heap.size)
  (h:∀vo vc w',w'.ownsRow B 3 1 (.slice vo (n+fn) vc) (n+fn) (bk (X++F))->w.grownBy w' v.ownBlock->((sH vo (n+fn) vc).ownBlock=v.ownBlock\/(sH vo (n+fn) vc).ownBlock=some w.heap.size)->wpList Tryz.prog ops Q rest (a.put o.dst (.slice vo (n+fn) vc)) w'):wpList Tryz.prog ops Q (o::rest) a w:=
 wpList_plain hgd fun _ hK=>aP s x ho B v n X hs hown fo fn fc F hx hF hfn hl hB fun vo vc w' h2 h3 h4=>hK _ _ (h vo vc w' h2 h3 h4)
theorem am{B n:Nat}{w w':sE}{v:sP}{xs:List sP}(h:w.ownsRow B 3 1 v n xs)(hg:w.grownBy w' v.ownBlock)(hB:B<=w.heap.size):sG B w w':=⟨hg.os,hg.tape,hg.output,hg.size,fun k hk=>hg.block k (by omega) (fun e=>by
 rcases h.2 with ⟨rfl,_⟩|⟨g,cap,cur,rfl,h2,_⟩
 ·cases e
 ·have e':=sZ e;have e2:k=g:=e';omega)⟩
theorem eJ{w:sE}{B n:Nat}{vo:Option Addr}{vc:Nat}{L:List Int}(h:w.ownsRow B 3 1 (.slice vo n vc) n (bk L))(hn:n=L.length):eS w vo L:=fun k z hk=>by
 have hkl:=(sQ.1 hk).1;rcases h.2 with ⟨h1,h2⟩|⟨g,cap,cur,h1,h2,h3,_⟩
 ·omega
 ·cases h1;refine⟨_,rfl,ag h3,?_⟩;rw[tu,sN];exact(di h).2.2.2 k _ (by unfold bk;rw[ta,hk];rfl)
theorem ay{w w':sE}{B n:Nat}{v:sP}{xs:List sP}(h:w.ownsRow B 3 1 v n xs)(hb:sG w.heap.size w w'):w'.ownsRow B 3 1 v n xs:=⟨h.1,h.2.imp (fun e=>e) fun⟨g,cap,cur,a1,a2,a3,a4⟩=>⟨g,cap,cur,a1,a2,(hb.block g (ag a3)).trans a3,a4⟩⟩
theorem jk(w:sE)(ao:Option Addr):eS w ao []:=fun k z hk=>by simp at hk
theorem zeE(p:aA)(hO:kg p)(hs:gw p<=2048)(v0 v1 v2:sP)(w:sE)(hP:cv w p v0 v1 v2):
  tr Tryz.prog 147 #[.agg #[v0,v1,v2],.slice none 0 0] w (BlQ w (¬aX [] p 0 0)):=by
 have HE:=aa (fun(W:sE)(h:sG w.heap.size w W)=>zfh p hO hs v0 v1 v2 [] none 0 0 rfl (by omega) W (cv.below h _ _ _ _ hP) (jk W none));clear hP;go_enter Tryz.func147,Tryz.ntmps147;go_wp2_with fail;refine(HE.o _ af).mono ?_;rintro e w2 ⟨vo,vc,rfl,hO2,hB2⟩;have HB2:=aa (af.trans (hB2.mono (by simp)));have HR:=aa (ox hO2 rfl);have HM:=aa (fun(x:Nat)=>zcc (fun i=>aX [] p 0 i) (0+1) x);obtain⟨L,hL⟩:=aj (ic (fun i=>aX [] p 0 i) (0+1));have hl9:L.length<=1:=by rw[hL];exact zcd _ _
 rw[<-hL]at HR HM⊢;obtain⟨n,hn⟩:=aj L.length;rw[<-hn]at hl9⊢;have HN:=aa hn;clear hO2 hB2 hL hn HE;go_wp2_with fail;refine(zoc vo n vc _ 0 w2 HR.o (by rw[tk];exact HN.o) (by omega)).mono ?_;rintro e w3 ⟨rfl,rfl⟩;have HQ:ae (kD (L.map fun(x:Nat)=>(x:Int)) 0=false->¬aX [] p 0 0):=aa (fun h hl=>by have h1:(0:Int)∈L.map fun(x:Nat)=>(x:Int):=tU.2 ⟨0,(HM.o 0).2 ⟨by omega,hl⟩,rfl⟩;rw[(cG _ _).2 h1]at h;cases h);obtain⟨b,hb⟩:=aj (kD (L.map fun(x:Nat)=>(x:Int)) 0);rw[<-hb]at HQ⊢;clear hb;go_wp2;go_ret;exact⟨b,rfl,HQ.o,HB2.o⟩
theorem jB(p:aA)(hO:kg p)(hs:gw p<=2048)(v0 v1 v2:sP)(w:sE)(hP:cv w p v0 v1 v2):
  tr Tryz.prog 109 #[.agg #[v0,v1,v2]] w (BlQ w (Ful p)):=by
 have HE:=aa (fun(W:sE)(h:sG w.heap.size w W)=>zeE p hO hs v0 v1 v2 W (cv.below h _ _ _ _ hP));clear hP;go_enter Tryz.func109,Tryz.ntmps109;go_wp2_with fail;refine(HE.o _ af).mono ?_;rintro e w2 ⟨b,rfl,hb,hB2⟩;have HB2:=aa (af.trans (hB2.mono (by simp)));have HQ:ae (b=false->Ful p):=aa (fun h=>zuZ (hb h));clear hb hB2;go_wp2;go_ret;exact⟨b,rfl,HQ.o,HB2.o⟩
end Pt
end
section
open Go.RowKit
namespace Pt
def FsQ(p:aA)(w:sE)(e:Ending)(w':sE):Prop:=∃(vo:Option Addr)(vc:Nat)(L:List Int),e=.returned (.slice vo L.length vc)/\eS w' vo L/\dL p L/\L.length<=1000000*gw p/\sG w.heap.size w w'
theorem gA.drop{w:sE}{kids:List aA}{b o:Nat}(h:gA w kids (some ⟨b,o,none⟩) 0)(m:Nat):gA w (kids.drop m) (some ⟨b,o+m*3,none⟩) 0:=by
 have key:∀(ps:List aA)(i:Nat),(∀(j:Nat)(q:aA),ps[j]?=some q->kids[m+i+j]?=some q)->gA w ps (some ⟨b,o+m*3,none⟩) i:=by
  intro ps
  induction ps with
  |nil=>intro i _;unfold gA;trivial
  |cons p ps ih=>intro i hp;unfold gA;obtain⟨b',o',h1,h2,v0,v1,v2,q0,q1,q2,q3⟩:=gA.at kids _ 0 (m+i) p h (hp 0 p rfl);cases h1;rw[show o+(0+(m+i))*3=o+m*3+i*3 by omega]at q0 q1 q2;refine⟨⟨b,o+m*3,rfl,h2,v0,v1,v2,q0,q1,q2,q3⟩,ih (i+1) fun j q hj=>?_⟩;have:=hp (j+1) q (by simpa using hj);rw[show m+(i+1)+j=m+i+(j+1) by omega];exact this
 exact key _ 0 fun j _ hj=>by rw[Nat.add_zero,<-List.getElem?_drop];exact hj
theorem zex:∀ps:List aA,(∀p∈ps,kg p)->nS ps
 |[],_=>by unfold nS;trivial
 |p::ps,h=>by unfold nS;exact⟨h p (tP ..),zex ps fun q hq=>h q (tK _ hq)⟩
theorem nS.drop{ps:List aA}(h:nS ps)(m:Nat):nS (ps.drop m):=zex _ fun _ hp=>h.mem (List.mem_of_mem_drop hp)
theorem zoD(v1 v2:sP)(cls:List Int)(kids:List aA)(w:sE):tr Tryz.prog 145 #[.agg #[.int .i64 0,v1,v2]] w (FsQ (.mk 0 cls kids) w):=by have HB:=aa (fun(o:Obj)=>af (w:=w) (o:=o));go_enter Tryz.func145,Tryz.ntmps145;go_wp2;go_ret;exact⟨none,0,[],rfl,jk _ _,zrl 0 _ _ (by decide) (by decide) (by decide) (by decide) (by decide) (by decide),by simp,HB.o _⟩
theorem zoC(lo:Option Addr)(lc:Nat)(v2:sP)(cls:List Int)(kids:List aA)(w:sE)(hI:eS w lo cls)(hl9:cls.length<=1000000):tr Tryz.prog 145 #[.agg #[.int .i64 1,.slice lo cls.length lc,v2]] w (FsQ (.mk 1 cls kids) w):=by have HB:=aa (fun(o:Obj)=>af (w:=w) (o:=o));have HI:=aa hI;have HL:=aa hl9;obtain⟨n,hn⟩:=aj cls.length;rw[<-hn];have HN:=aa hn;clear hI hl9 hn;go_enter Tryz.func145,Tryz.ntmps145;go_wp2;go_ret;rw[HN.o];exact⟨lo,lc,cls,rfl,HI.o.below (HB.o _),zva _ _,by have:=HL.o;unfold gw;omega,HB.o _⟩
set_option maxRecDepth 100000 in
theorem zoB(lo ko:Option Addr)(ln lc kn kc:Nat)(cls:List Int)(kids:List aA)(w:sE)(hkn:kn=kids.length)(hk9:kn<=1000000)(hkc:kn<=kc)(hk:gA w kids ko 0)(hOK:nS kids)(hsz:kW kids+1<=2048)
  (ih:∀p∈kids,∀(u0 u1 u2:sP)(W:sE),cv W p u0 u1 u2->tr Tryz.prog 145 #[.agg #[u0,u1,u2]] W (FsQ p W)):
  tr Tryz.prog 145 #[.agg #[.int .i64 2,.slice lo ln lc,.slice ko kn kc]] w (FsQ (.mk 2 cls kids) w):=by
 have HK:=aa hk;have HO:=aa hOK;have HSz:=aa hsz;have HIH:=aa ih;have HKN:=aa hkn;clear hk hOK hsz ih hkn;go_enter Tryz.func145,Tryz.ntmps145;go_wp2;obtain⟨w1,hw1⟩:=aj (w.alloc (.cells #[.int .i64 2,.slice lo ln lc,.slice ko kn kc] 105));have hb1:sG w.heap.size w w1:=by rw[hw1];exact af
 have x0:w1.cell? ⟨w.heap.size,0,none⟩=some (.int .i64 2):=by rw[hw1];simp[go_sem]
 have x2:w1.cell? ⟨w.heap.size,2,none⟩=some (.slice ko kn kc):=by rw[hw1];simp[go_sem]
 have hs1:w.heap.size<w1.heap.size:=by rw[hw1];simp
 rw[<-hw1];have HB1:=aa hb1;have HX:=aa (fun(W:sE)(h:sG w1.heap.size w1 W)=>show W.cell? ⟨w.heap.size,0,none⟩=some (.int .i64 2)/\W.cell? ⟨w.heap.size,2,none⟩=some (.slice ko kn kc)from⟨(h.cell (p:=⟨w.heap.size,0,none⟩) hs1).trans x0,(h.cell (p:=⟨w.heap.size,2,none⟩) hs1).trans x2⟩);clear hw1 hb1 x0 x2;go_loopw [3,4] (fun x y wr=>∃(j n:Nat)(vo:Option Addr)(vc:Nat)(M:List Int),x=.slice vo n vc/\y=.int .i64 j/\j<=kn/\n<=2048000000/\ae (n=M.length)/\ae (n<=1000000*kW (kids.take j))/\ae (wr.ownsRow w1.heap.size 3 1 (.slice vo n vc) n (bk M))/\ae (FsT kids j M)/\ae (sG w1.heap.size w1 wr)) (fun _ y _=>kn-(tf y).toNat)
 case atStart=>exact⟨0,0,none,0,[],rfl,rfl,tc _,by omega,aa rfl,aa (tc _),aa (td _ _ _ _),aa (zwV _),aa (sM _ _)⟩
 case round=>
  obtain⟨j,n,vo,vc,M,rfl,rfl,hj,hn9,HN,HN9,HOw,HF,HB⟩:=hrel;obtain⟨x0,x2⟩:=HX.o wr HB.o;have HBw:=aa (HB1.o.trans (HB.o.mono HB1.o.size));by_cases hlt:j<kn
  ·have j0:(0:Int)<=(j:Int):=by omega
   have j1:(j:Int)<(kn:Int):=by omega
   have hjk:j<kids.length:=by have:=HKN.o;omega
   obtain⟨b,o,hko,hb,u0,u1,u2,q0,q1,q2,hq⟩:=gA.at kids ko 0 j _ HK.o (sI hjk);rw[sN]at q0 q1 q2;have HKb:ae (gA w kids (some ⟨b,o,none⟩) 0):=aa (by rw[<-hko];exact HK.o);subst hko;have hKid:∀W,sG w1.heap.size w1 W->cv W kids[j] u0 u1 u2/\W.cell? ⟨b,o+j*3,none⟩=some u0/\W.cell? ⟨b,o+j*3+1,none⟩=some u1/\W.cell? ⟨b,o+j*3+2,none⟩=some u2:=fun W h=>by have h2:=HB1.o.trans (h.mono HB1.o.size);exact⟨cv.below h2 _ _ _ _ hq,(h2.cell (p:=⟨b,o+j*3,none⟩) hb).trans q0,(h2.cell (p:=⟨b,o+j*3+1,none⟩) hb).trans q1,(h2.cell (p:=⟨b,o+j*3+2,none⟩) hb).trans q2⟩
   have HKid:=aa hKid;have hOj:kg kids[j]:=HO.o.mem (sX hjk);have hSj:gw kids[j]<=2048:=by have h1:=eG kids j _ (sI hjk);have h2:=fF kids (j+1);have h3:=HSz.o;omega
   have HSm:=aa (fun(W:sE)(h:sG w1.heap.size w1 W)=>pE kids[j] hOj u0 u1 u2 W (hKid W h).1);have HEm:=aa (fun(W:sE)(h:sG w1.heap.size w1 W)=>jB kids[j] hOj hSj u0 u1 u2 W (hKid W h).1);have HFs:=aa (fun(W:sE)(h:sG w1.heap.size w1 W)=>HIH.o kids[j] (sX hjk) u0 u1 u2 W (hKid W h).1);have HST:=aa (eG kids j _ (sI hjk));have HSL:=aa (fF kids (j+1));obtain⟨_,y0,y1,y2⟩:=hKid wr HB.o;clear q0 q1 q2 hKid hq hb;go_wp2_with fail;refine(HSm.o wr HB.o).mono ?_;rintro e w3 ⟨b1,rfl,hv1,hB3⟩;have HV1:=aa hv1;have HB3:=aa (HB.o.trans (hB3.mono HB.o.size));have HO3:=aa (ay HOw.o hB3);obtain⟨_,y0,y1,y2⟩:=HKid.o w3 HB3.o;obtain⟨x0,x2⟩:=HX.o w3 HB3.o;clear hv1 hB3 HSm HOw;cases b1 with
   |false=>
    have HM9:ae (n<=1000000*kW (kids.take (j+1))):=aa (by have a1:=HN9.o;have a2:=HST.o;omega);obtain⟨_,y0,y1,y2⟩:=HKid.o w3 HB3.o;obtain⟨x0,x2⟩:=HX.o w3 HB3.o;have HH:ae (dL kids[j] M\/Nil kids[j]\/zcO (kids.drop (j+1))):=aa (.inr (.inl (HV1.o rfl)));go_wp2_with fail;refine(HEm.o w3 HB3.o).mono ?_;rintro e w9 ⟨b3,rfl,hv3,hB9⟩;have HV3:=aa hv3;have HB9:=aa (HB3.o.trans (hB9.mono HB3.o.size));have HO9:=aa (ay HO3.o hB9);clear hv3 hB9 y0 y1 y2 x0 x2;cases b3 with
    |true=>
     go_wp2;go_roundw
     case rel=>exact⟨j+1,n,vo,vc,M,rfl,by go_num,by omega,hn9,HN,HM9,HO9,aa (qu hjk HF.o (fun z hz=>hz) HH.o),HB9⟩
     case measure=>simp[tf];omega
    |false=>have HQ:ae (dL (.mk 2 cls kids) M):=aa (qt hjk HF.o (fun z hz=>hz) HH.o (HV3.o rfl) 2 cls rfl);have HBz:=aa (HB1.o.trans (HB9.o.mono HB1.o.size));have HNz:ae (M.length<=1000000*gw (.mk 2 cls kids)):=aa (by have a1:=HN.o;have a2:=HM9.o;have a3:=HSL.o;unfold gw;omega);go_wp2;go_ret;exact⟨vo,vc,M,by rw[<-HN.o];rfl,eJ HO9.o HN.o,HQ.o,HNz.o,HBz.o⟩
   |true=>
    have HRs:=aa (fun(ao:Option Addr)(m cp:Nat)(W:sE)(h:sG w1.heap.size w1 W)(hm:m=kn-(j+1))(hao:(ao=some ⟨b,o,none⟩/\kn<=j+1)\/ao=some ⟨b,o+(j+1)*3,none⟩)=>show tr Tryz.prog 169 #[.slice ao m cp] W (BlQ W (zcO (kids.drop (j+1))))from by
     have e:m=(kids.drop (j+1)).length:=by rw[tA,<-HKN.o];exact hm
     rw[e];refine znk _ (HO.o.drop _) ao _ W ?_ (by rw[<-e];omega);rcases hao with ⟨_,h0⟩|rfl
     ·rw[tB.1 (show(kids.drop (j+1)).length=0 by rw[<-e];omega)];unfold gA;trivial
     ·exact(gA.below (HB1.o.trans (h.mono HB1.o.size)) _ _ _ HKb.o).drop (j+1))
    have d1:(j:Int)+1<=(kn:Int):=by omega
    have d2:(kn:Int)<=(kc:Int):=by omega
    have d3:(j:Int)+1<=(kc:Int):=by omega
    go_wp2_with fail
    all_goals
     have HH0:=aa h
     first
      |rw[<-h]
      |skip
     clear h;refine(HRs.o _ _ _ w3 HB3.o (by have:=HH0.o;omega) (by first|exact .inr rfl|exact .inl ⟨rfl,by have:=HH0.o;omega⟩)).mono ?_;rintro e w4 ⟨b2,rfl,hv2,hB4⟩;have HV2:=aa hv2;have HB4:=aa (HB3.o.trans (hB4.mono HB3.o.size));have HO4:=aa (ay HO3.o hB4);obtain⟨_,y0,y1,y2⟩:=HKid.o w4 HB4.o;obtain⟨x0,x2⟩:=HX.o w4 HB4.o;clear hv2 hB4 HRs d1 d2 d3;cases b2 with
     |false=>
      have HM9:ae (n<=1000000*kW (kids.take (j+1))):=aa (by have a1:=HN9.o;have a2:=HST.o;omega);obtain⟨_,y0,y1,y2⟩:=HKid.o w4 HB4.o;obtain⟨x0,x2⟩:=HX.o w4 HB4.o;have HH:ae (dL kids[j] M\/Nil kids[j]\/zcO (kids.drop (j+1))):=aa (.inr (.inr (HV2.o rfl)));go_wp2_with fail;refine(HEm.o w4 HB4.o).mono ?_;rintro e w9 ⟨b3,rfl,hv3,hB9⟩;have HV3:=aa hv3;have HB9:=aa (HB4.o.trans (hB9.mono HB4.o.size));have HO9:=aa (ay HO4.o hB9);clear hv3 hB9 y0 y1 y2 x0 x2;cases b3 with
      |true=>
       go_wp2;go_roundw
       case rel=>exact⟨j+1,n,vo,vc,M,rfl,by go_num,by omega,hn9,HN,HM9,HO9,aa (qu hjk HF.o (fun z hz=>hz) HH.o),HB9⟩
       case measure=>simp[tf];omega
      |false=>have HQ:ae (dL (.mk 2 cls kids) M):=aa (qt hjk HF.o (fun z hz=>hz) HH.o (HV3.o rfl) 2 cls rfl);have HBz:=aa (HB1.o.trans (HB9.o.mono HB1.o.size));have HNz:ae (M.length<=1000000*gw (.mk 2 cls kids)):=aa (by have a1:=HN.o;have a2:=HM9.o;have a3:=HSL.o;unfold gw;omega);go_wp2;go_ret;exact⟨vo,vc,M,by rw[<-HN.o];rfl,eJ HO9.o HN.o,HQ.o,HNz.o,HBz.o⟩
     |true=>
      go_wp2_with fail;refine(HFs.o w4 HB4.o).mono ?_;rintro e w5 ⟨fo,fc,L,rfl,hI5,hF5,hL5,hB5⟩;have HI5:=aa hI5;have HF5:=aa hF5;have HB5:=aa (HB4.o.trans (hB5.mono HB4.o.size));have HO5:=aa (ay HO4.o hB5);have hl9:L.length<=2048000000:=by omega
      obtain⟨m,hm⟩:=aj L.length;have HM:=aa hm;have HL5:=aa hL5;rw[<-hm]at hl9⊢;have HM9:ae (n+m<=1000000*kW (kids.take (j+1))):=aa (by have a1:=HN9.o;have a2:=HST.o;have a3:=HL5.o;have a4:=HM.o;omega);have hnm:n+m<=2048000000:=by have a1:=HM9.o;have a2:=HSL.o;have a3:=HSz.o;omega
      clear hm hI5 hF5 hL5 hB5 y0 y1 y2 x0 x2;go_wp2_with (at_builtin;refine dd rfl _ _ rfl w1.heap.size (.slice vo n vc) n M rfl HO5.o fo m fc L rfl HI5.o HM.o (by omega) HB5.o.size ?_;intro vo6 vc6 w6 ho6 hg6 _;have HO6:=aa ho6;have HB6:=aa (HB5.o.trans (am HO5.o hg6 HB5.o.size));clear ho6 hg6;obtain⟨x0,x2⟩:=HX.o w6 HB6.o;obtain⟨_,y0,y1,y2⟩:=HKid.o w6 HB6.o);have HN6:ae (n+m=(M++L).length):=aa (by rw[tg,<-HN.o,<-HM.o]);have HH:ae (dL kids[j] (M++L)\/Nil kids[j]\/zcO (kids.drop (j+1))):=aa (.inl (HF5.o.mono fun z hz=>tj _ hz));refine(HEm.o w6 HB6.o).mono ?_;rintro e w9 ⟨b3,rfl,hv3,hB9⟩;have HV3:=aa hv3;have HB9:=aa (HB6.o.trans (hB9.mono HB6.o.size));have HO9:=aa (ay HO6.o hB9);clear hv3 hB9 y0 y1 y2 x0 x2;cases b3 with
      |true=>
       go_wp2;go_roundw
       case rel=>exact⟨j+1,(n+m),vo6,vc6,(M++L),rfl,by go_num,by omega,hnm,HN6,HM9,HO9,aa (qu hjk HF.o (fun z hz=>sW _ hz) HH.o),HB9⟩
       case measure=>simp[tf];omega
      |false=>have HQ:ae (dL (.mk 2 cls kids) (M++L)):=aa (qt hjk HF.o (fun z hz=>sW _ hz) HH.o (HV3.o rfl) 2 cls rfl);have HBz:=aa (HB1.o.trans (HB9.o.mono HB1.o.size));have HNz:ae ((M++L).length<=1000000*gw (.mk 2 cls kids)):=aa (by have a1:=HN6.o;have a2:=HM9.o;have a3:=HSL.o;unfold gw;omega);go_wp2;go_ret;exact⟨vo6,vc6,(M++L),by rw[<-HN6.o];rfl,eJ HO9.o HN6.o,HQ.o,HNz.o,HBz.o⟩
  ·have j1:¬(j:Int)<(kn:Int):=by omega
   have hje:j=kn:=by omega
   have HQ:ae (dL (.mk 2 cls kids) M):=aa (zrk (by rw[<-HKN.o,<-hje];exact HF.o) 2 cls rfl);have HNz:ae (M.length<=1000000*gw (.mk 2 cls kids)):=aa (by have a1:=HN.o;have a2:=HN9.o;have a3:=fF kids j;unfold gw;omega);clear hje;go_wp2;go_ret;exact⟨vo,vc,M,by rw[<-HN.o];rfl,eJ HOw.o HN.o,HQ.o,HNz.o,HBw.o⟩
set_option maxRecDepth 100000 in
theorem zoA(op:Int)(h0:op≠0)(h1:op≠1)(h2:op≠2)(lo ko:Option Addr)(ln lc kn kc:Nat)(cls:List Int)(kids:List aA)(w:sE)(hkn:kn=kids.length)(hk9:kn<=1000000)(hk:gA w kids ko 0)(hOK:nS kids)(hsz:kW kids+1<=2048)
  (ih:∀p∈kids,∀(u0 u1 u2:sP)(W:sE),cv W p u0 u1 u2->tr Tryz.prog 145 #[.agg #[u0,u1,u2]] W (FsQ p W)):
  tr Tryz.prog 145 #[.agg #[.int .i64 op,.slice lo ln lc,.slice ko kn kc]] w (FsQ (.mk op cls kids) w):=by
 have e0:(op==0)=false:=beq_eq_false_iff_ne.2 h0;have e1:(op==1)=false:=beq_eq_false_iff_ne.2 h1;have e2:(op != 2)=true:=bne_iff_ne.2 h2;have e3:(op==2)=false:=beq_eq_false_iff_ne.2 h2;have HOP:=aa (And.intro h1 h2);clear h0 h1 h2;have HK:=aa hk;have HO:=aa hOK;have HSz:=aa hsz;have HIH:=aa ih;have HKN:=aa hkn;clear hk hOK hsz ih hkn;go_enter Tryz.func145,Tryz.ntmps145;go_wp2;obtain⟨w1,hw1⟩:=aj (w.alloc (.cells #[.int .i64 op,.slice lo ln lc,.slice ko kn kc] 105));have hb1:sG w.heap.size w w1:=by rw[hw1];exact af
 have x0:w1.cell? ⟨w.heap.size,0,none⟩=some (.int .i64 op):=by rw[hw1];simp[go_sem]
 have x2:w1.cell? ⟨w.heap.size,2,none⟩=some (.slice ko kn kc):=by rw[hw1];simp[go_sem]
 have hs1:w.heap.size<w1.heap.size:=by rw[hw1];simp
 rw[<-hw1];have HB1:=aa hb1;have HX:=aa (fun(W:sE)(h:sG w1.heap.size w1 W)=>show W.cell? ⟨w.heap.size,0,none⟩=some (.int .i64 op)/\W.cell? ⟨w.heap.size,2,none⟩=some (.slice ko kn kc)from⟨(h.cell (p:=⟨w.heap.size,0,none⟩) hs1).trans x0,(h.cell (p:=⟨w.heap.size,2,none⟩) hs1).trans x2⟩);clear hw1 hb1 x0 x2;go_loopw [3,4] (fun x y wr=>∃(j n:Nat)(vo:Option Addr)(vc:Nat)(M:List Int),x=.slice vo n vc/\y=.int .i64 j/\j<=kn/\n<=2048000000/\ae (n=M.length)/\ae (n<=1000000*kW (kids.take j))/\ae (wr.ownsRow w1.heap.size 3 1 (.slice vo n vc) n (bk M))/\ae (∀x (hx:x<j) (hk:x<kids.length),dL kids[x] M)/\ae (sG w1.heap.size w1 wr)) (fun _ y _=>kn-(tf y).toNat)
 case atStart=>exact⟨0,0,none,0,[],rfl,rfl,tc _,by omega,aa rfl,aa (tc _),aa (td _ _ _ _),aa (fun x hx=>by omega),aa (sM _ _)⟩
 case round=>
  obtain⟨j,n,vo,vc,M,rfl,rfl,hj,hn9,HN,HN9,HOw,HF,HB⟩:=hrel;obtain⟨x0,x2⟩:=HX.o wr HB.o;have HBw:=aa (HB1.o.trans (HB.o.mono HB1.o.size));by_cases hlt:j<kn
  ·have j0:(0:Int)<=(j:Int):=by omega
   have j1:(j:Int)<(kn:Int):=by omega
   have hjk:j<kids.length:=by have:=HKN.o;omega
   obtain⟨b,o,hko,hb,u0,u1,u2,q0,q1,q2,hq⟩:=gA.at kids ko 0 j _ HK.o (sI hjk);rw[sN]at q0 q1 q2;have HKb:ae (gA w kids (some ⟨b,o,none⟩) 0):=aa (by rw[<-hko];exact HK.o);subst hko;have hKid:∀W,sG w1.heap.size w1 W->cv W kids[j] u0 u1 u2/\W.cell? ⟨b,o+j*3,none⟩=some u0/\W.cell? ⟨b,o+j*3+1,none⟩=some u1/\W.cell? ⟨b,o+j*3+2,none⟩=some u2:=fun W h=>by have h2:=HB1.o.trans (h.mono HB1.o.size);exact⟨cv.below h2 _ _ _ _ hq,(h2.cell (p:=⟨b,o+j*3,none⟩) hb).trans q0,(h2.cell (p:=⟨b,o+j*3+1,none⟩) hb).trans q1,(h2.cell (p:=⟨b,o+j*3+2,none⟩) hb).trans q2⟩
   have HKid:=aa hKid;have hOj:kg kids[j]:=HO.o.mem (sX hjk);have hSj:gw kids[j]<=2048:=by have h1:=eG kids j _ (sI hjk);have h2:=fF kids (j+1);have h3:=HSz.o;omega
   have HSm:=aa (fun(W:sE)(h:sG w1.heap.size w1 W)=>pE kids[j] hOj u0 u1 u2 W (hKid W h).1);have HEm:=aa (fun(W:sE)(h:sG w1.heap.size w1 W)=>jB kids[j] hOj hSj u0 u1 u2 W (hKid W h).1);have HFs:=aa (fun(W:sE)(h:sG w1.heap.size w1 W)=>HIH.o kids[j] (sX hjk) u0 u1 u2 W (hKid W h).1);have HST:=aa (eG kids j _ (sI hjk));have HSL:=aa (fF kids (j+1));obtain⟨_,y0,y1,y2⟩:=hKid wr HB.o;clear q0 q1 q2 hKid hq hb;go_wp2_with fail;refine(HSm.o wr HB.o).mono ?_;rintro e w3 ⟨b1,rfl,hv1,hB3⟩;have HV1:=aa hv1;have HB3:=aa (HB.o.trans (hB3.mono HB.o.size));have HO3:=aa (ay HOw.o hB3);obtain⟨_,y0,y1,y2⟩:=HKid.o w3 HB3.o;obtain⟨x0,x2⟩:=HX.o w3 HB3.o;clear hv1 hB3 HSm HOw;cases b1 with
   |false=>
    have HM9:ae (n<=1000000*kW (kids.take (j+1))):=aa (by have a1:=HN9.o;have a2:=HST.o;omega);have HH:ae (∀x (hx:x<j+1) (hk:x<kids.length),dL kids[x] M):=aa (fun x hx hkx=>by
     rcases uk x j with h|h
     ·exact(HF.o x h hkx).mono (fun z hz=>hz)
     ·obtain rfl:x=j:=by omega
      exact fun c i k hl _=>absurd hl (HV1.o rfl c i k))
    clear y0 y1 y2;go_wp2;go_roundw
    case rel=>exact⟨j+1,n,vo,vc,M,rfl,by go_num,by omega,hn9,HN,HM9,HO3,HH,HB3⟩
    case measure=>simp[tf];omega
   |true=>
    go_wp2_with fail;refine(HFs.o w3 HB3.o).mono ?_;rintro e w5 ⟨fo,fc,L,rfl,hI5,hF5,hL5,hB5⟩;have HI5:=aa hI5;have HF5:=aa hF5;have HB5:=aa (HB3.o.trans (hB5.mono HB3.o.size));have HO5:=aa (ay HO3.o hB5);have hl9:L.length<=2048000000:=by omega
    obtain⟨m,hm⟩:=aj L.length;have HM:=aa hm;have HL5:=aa hL5;rw[<-hm]at hl9⊢;have HM9:ae (n+m<=1000000*kW (kids.take (j+1))):=aa (by have a1:=HN9.o;have a2:=HST.o;have a3:=HL5.o;have a4:=HM.o;omega);have hnm:n+m<=2048000000:=by have a1:=HM9.o;have a2:=HSL.o;have a3:=HSz.o;omega
    clear hm hI5 hF5 hL5 hB5 y0 y1 y2 x0 x2;go_wp2_with (at_builtin;refine dd rfl _ _ rfl w1.heap.size (.slice vo n vc) n M rfl HO5.o fo m fc L rfl HI5.o HM.o (by omega) HB5.o.size ?_;intro vo6 vc6 w6 ho6 hg6 _;have HO6:=aa ho6;have HB6:=aa (HB5.o.trans (am HO5.o hg6 HB5.o.size));clear ho6 hg6;obtain⟨x0,x2⟩:=HX.o w6 HB6.o;obtain⟨_,y0,y1,y2⟩:=HKid.o w6 HB6.o);have HN6:ae (n+m=(M++L).length):=aa (by rw[tg,<-HN.o,<-HM.o]);have HH:ae (∀x (hx:x<j+1) (hk:x<kids.length),dL kids[x] (M++L)):=aa (fun x hx hkx=>by
     rcases uk x j with h|h
     ·exact(HF.o x h hkx).mono (fun z hz=>sW _ hz)
     ·obtain rfl:x=j:=by omega
      exact HF5.o.mono fun z hz=>tj _ hz)
    go_roundw
    case rel=>exact⟨j+1,(n+m),vo6,vc6,(M++L),rfl,by go_num,by omega,hnm,HN6,HM9,HO6,HH,HB6⟩
    case measure=>simp[tf];omega
  ·have j1:¬(j:Int)<(kn:Int):=by omega
   have hje:j=kn:=by omega
   have HQ:ae (dL (.mk op cls kids) M):=aa (zrm op cls kids M HOP.o.1 HOP.o.2 fun p hp=>by obtain⟨x,hx,rfl⟩:=tM hp;exact HF.o x (by have:=HKN.o;omega) hx);have HNz:ae (M.length<=1000000*gw (.mk op cls kids)):=aa (by have a1:=HN.o;have a2:=HN9.o;have a3:=fF kids j;unfold gw;omega);clear hje;go_wp2;go_ret;exact⟨vo,vc,M,by rw[<-HN.o];rfl,eJ HOw.o HN.o,HQ.o,HNz.o,HBw.o⟩
theorem zhd:∀p:aA,kg p->gw p<=2048->∀(v0 v1 v2:sP)(w:sE),cv w p v0 v1 v2->tr Tryz.prog 145 #[.agg #[v0,v1,v2]] w (FsQ p w):=by
 refine aA.ind fun op cls kids ih hO hs v0 v1 v2 w hP=>?_;unfold cv at hP;unfold kg at hO;unfold gw at hs;obtain⟨rfl,⟨lo,lc,rfl,hl1,hl2⟩,ko,kc,rfl,hk1,hk2,hk3⟩:=hP;have hI:∀p∈kids,∀(u0 u1 u2:sP)(W:sE),cv W p u0 u1 u2->tr Tryz.prog 145 #[.agg #[u0,u1,u2]] W (FsQ p W):=fun p hp u0 u1 u2 W hW=>by obtain⟨j,hj,rfl⟩:=tM hp;have h1:=eG kids j _ (sI hj);have h2:=fF kids (j+1);exact ih _ hp (hO.2.mem hp) (by omega) u0 u1 u2 W hW
 by_cases o0:op=0
 ·subst o0;exact zoD _ _ cls kids w
 by_cases o1:op=1
 ·subst o1;exact zoC lo lc _ cls kids w hl1 hl2
 by_cases o2:op=2
 ·subst o2;exact zoB lo ko cls.length lc kids.length kc cls kids w rfl hk2 hk3 hk1 hO.2 hs hI
 ·exact zoA op o0 o1 o2 lo ko cls.length lc kids.length kc cls kids w rfl hk2 hk1 hO.2 hs hI
end Pt
end
section
open Go.RowKit
namespace Pt
def FlQ(p:aA)(w:sE)(e:Ending)(w':sE):Prop:=∃(vo:Option Addr)(vc:Nat)(L:List Int),e=.returned (.slice vo L.length vc)/\ik w' (fun b=>b<w.heap.size) vo L/\dL p L/\L.length<=2048000000/\sG w.heap.size w w'
theorem zkC{w:sE}{B C n:Nat}{vo:Option Addr}{vc:Nat}{L:List Int}(h:w.ownsRow C 3 1 (.slice vo n vc) n (bk L))(hn:n=L.length)(hB:B<=C):ik w (fun b=>b<B) vo L:=fun k z hk=>by
 have hkl:=(sQ.1 hk).1;rcases h.2 with ⟨h1,h2⟩|⟨g,cap,cur,h1,h2,h3,_⟩
 ·omega
 ·cases h1;refine⟨_,rfl,ag h3,fun h=>?_,?_⟩
  ·have h':g<B:=h;omega
  ·rw[tu,sN];exact(di h).2.2.2 k _ (by unfold bk;rw[ta,hk];rfl)
theorem aW{w:sE}{B C n:Nat}{v:sP}{xs:List sP}(h:w.ownsRow C 3 1 v n xs)(hB:B<=C):w.ownsRow B 3 1 v n xs:=⟨h.1,h.2.imp (fun e=>e) fun⟨g,cap,cur,a1,a2,a3,a4⟩=>⟨g,cap,cur,a1,by omega,a3,a4⟩⟩
theorem zbv{M:List Int}{k:Nat}{z:Int}{F:List Int}(h1:∀x∈F,x∈M\/x=z)(x:Int)(hx:x∈F):x∈M.take k++[z]++M.drop k:=by
 rcases h1 x hx with h|h
 ·rw[<-List.take_append_drop k M,tH]at h;rcases h with h|h
  ·exact sW _ (sW _ h)
  ·exact tj _ h
 ·exact sW _ (tj _ (by rw[h];simp))
theorem jl(M:List Int){k:Nat}(z:Int)(hk:k<=M.length):(M.take k++[z]++M.drop k).length=M.length+1:=by simp;omega
theorem cm{w:sE}{q:Nat}{z:Int}(h:w.heap[q]?=some (.cells #[.int .i64 z] 3)):eS w (some ⟨q,0,none⟩) [z]:=fun k y hk=>by
 cases k with
 |succ k=>simp at hk
 |zero=>cases hk;refine⟨_,rfl,ag h,?_⟩;rw[tu,sD w q _ _ _ _ h];rfl
theorem fX(w:sE):(w.alloc (.cells #[] 3)).ownsRow w.heap.size 3 1 (.slice (some ⟨w.heap.size,0,none⟩) 0 0) 0 (bk []):=tz w #[] 0 (sV _) (by decide) (by simp)
theorem mN{w w':sE}{v:sP}{q:Nat}{o:Obj}(h:w.heap[q]?=some o)(hg:w.grownBy w' v.ownBlock)(hne:v.ownBlock≠some q):w'.heap[q]?=some o:=(hg.block q (ag h) (fun e=>hne e.symm)).trans h
set_option maxRecDepth 100000 in
theorem nL(p:aA)(hO:kg p)(hs:gw p<=2048)(u0 u1 u2:sP)(w:sE)(hP:cv w p u0 u1 u2):tr Tryz.prog 107 #[.agg #[u0,u1,u2]] w (FlQ p w):=by
 have HG:=aa (fun(W:sE)(h:sG w.heap.size w W)=>f7 p hO hs u0 u1 u2 W (cv.below h _ _ _ _ hP));have HFs:=aa (fun(W:sE)(h:sG w.heap.size w W)=>zhd p hO hs u0 u1 u2 W (cv.below h _ _ _ _ hP));clear hP hO;go_enter Tryz.func107,Tryz.ntmps107;go_wp2_with fail;obtain⟨w1,hw1⟩:=aj (w.alloc (.cells #[u0,u1,u2] 105));have hb1:sG w.heap.size w w1:=by rw[hw1];exact af
 have hN:w1.heap[w.heap.size]?=some (.cells #[u0,u1,u2] 105):=by rw[hw1];exact heap_alloc_new _ _
 rw[<-hw1];have HB1:=aa hb1;have HN:=aa hN;clear hw1 hb1 hN;refine(HG.o w1 HB1.o).mono ?_;rintro e w2 ⟨rfl,hB2⟩;have hN2:=(hB2.block _ (ag HN.o)).trans HN.o;have x0:w2.cell? ⟨w.heap.size,0,none⟩=some u0:=by rw[sD w2 _ 0 _ _ _ hN2];rfl
 have x1:w2.cell? ⟨w.heap.size,1,none⟩=some u1:=by rw[sD w2 _ 1 _ _ _ hN2];rfl
 have x2:w2.cell? ⟨w.heap.size,2,none⟩=some u2:=by rw[sD w2 _ 2 _ _ _ hN2];rfl
 have HB2:=aa (HB1.o.trans (hB2.mono HB1.o.size));clear hB2 hN2;go_wp2_with fail;refine(HFs.o w2 HB2.o).mono ?_;rintro e w3 ⟨lo,lc,L,rfl,hI,hF,hL9,hB3⟩;have HI:=aa hI;have HF:=aa hF;have HB3:=aa (HB2.o.trans (hB3.mono HB2.o.size));have hl9:L.length<=2048000000:=by omega
 obtain⟨n,hn⟩:=aj L.length;rw[<-hn]at hl9⊢;have HNn:=aa hn;clear hI hF hL9 hB3 hn x0 x1 x2 HG HFs hs;go_wp2;go_loopw [4,5] (fun x y wr=>∃(i m:Nat)(vo:Option Addr)(vc:Nat)(M:List Int),x=.slice vo m vc/\y=.int .i64 i/\i<=n/\m<=i/\ae (m=M.length)/\ae (wr.ownsRow w3.heap.size 3 1 (.slice vo m vc) m (bk M))/\ae (∀x∈L.take i,x∈M)/\ae (sG w3.heap.size w3 wr)) (fun _ y _=>n-(tf y).toNat)
 case atStart=>exact⟨0,0,none,0,[],rfl,rfl,tc _,sV _,aa rfl,aa (td _ _ _ _),aa (by simp),aa (sM _ _)⟩
 case round=>
  obtain⟨i,m,vo,vc,M,rfl,rfl,hi,hmi,HM,HOw,HIn,HBr0⟩:=hrel;by_cases hlt:i<n
  ·have i0:(0:Int)<=(i:Int):=by omega
   have i1:(i:Int)<(n:Int):=by omega
   have hil:i<L.length:=by have:=HNn.o;omega
   obtain⟨ad,rfl,had,c1⟩:=HI.o.at hil;have HAd:=aa had;obtain⟨z,hz⟩:=aj (L[i]);rw[<-hz]at c1;have HCz0:=aa c1;have HTk:ae (∀x∈L.take (i+1),x∈M\/x=z):=aa (fun x hx=>by
    rw[tp hil,tH]at hx;rcases hx with hx|hx
    ·exact .inl (HIn.o x hx)
    ·exact .inr (by rw[hz];simpa using hx))
   have HRM0:=aa (eJ HOw.o HM.o);have hmc:m<=vc:=by
    rcases HOw.o.2 with ⟨h1,h2⟩|⟨g,cap,cur,h1,_,_,h4,_⟩
    ·omega
    ·cases h1;exact h4
   clear hz c1 had;obtain⟨wo,rfl⟩:=aj wr;go_wp2;go_loopw [6] (fun y wr2=>∃k:Nat,y=.int .i64 k/\k<=m/\ae (sG wo.heap.size wo wr2)) (fun y _=>m-(tf y).toNat)
   case atStart=>exact⟨0,rfl,tc _,aa (sM _ _)⟩
   case round=>
    obtain⟨k,rfl,hk,HB⟩:=hrel;have k0:(0:Int)<=(k:Int):=by omega
    have HBr:=aa (HBr0.o.trans (HB.o.mono HBr0.o.size));have c2:wr.cell? (ad.add i)=some (.int .i64 z):=(HBr.o.cell (p:=ad.add i) (by rw[add_blk];exact HAd.o)).trans HCz0.o;have HCz:=aa c2;by_cases hkm:k<m
    ·have k1:(k:Int)<(m:Int):=by omega
     have hkM:k<M.length:=by have:=HM.o;omega
     obtain⟨a2,hvo,h2,c3⟩:=(HRM0.o.below HB.o).at hkM;obtain⟨g,hg⟩:∃g,vo=some ⟨g,0,none⟩:=by
      rcases HOw.o.2 with ⟨h1,h2⟩|⟨g,cap,cur,h1,_⟩
      ·omega
      ·cases h1;exact⟨g,rfl⟩
     subst hg;cases hvo;have hgw:g<wo.heap.size:=(di HOw.o).2.1.elim fun cur h=>ag h;rw[tu,sN]at c3;obtain⟨y,hy⟩:=aj (M[k]);rw[<-hy]at c3;have HY:=aa hy;clear hy h2;by_cases hyz:y<z
     ·go_wp2_with fail;go_quiet (fail);have HBd:ae (sG wo.heap.size wo (wr.drewN nq)):=aa ⟨HB.o.os,HB.o.tape,HB.o.output,HB.o.size,HB.o.block⟩;go_wp2;go_roundw
      case rel=>exact⟨k+1,by go_num,by omega,HBd⟩
      case measure=>simp[tf];omega
     ·have d1:decide (y<z)=false:=decide_eq_false hyz;go_wp2_with fail;go_quiet (fail);obtain⟨wq,hwq⟩:=aj (wr.drewN nq);have HBq:ae (sG wo.heap.size wo wq):=aa (by rw[hwq];exact⟨HB.o.os,HB.o.tape,HB.o.output,HB.o.size,HB.o.block⟩);rw[<-hwq];clear hwq;have c4:wq.cell? (ad.add i)=some (.int .i64 z):=((HBr0.o.trans (HBq.o.mono HBr0.o.size)).cell (p:=ad.add i) (by rw[add_blk];exact HAd.o)).trans HCz0.o;have c5:wq.cell? ⟨g,k,none⟩=some (.int .i64 y):=(sK (a:=⟨g,k,none⟩) (by rw[HBq.o.block g hgw,HB.o.block g hgw])).trans c3;by_cases hyz2:y=z
      ·subst hyz2;have HPut:ae (∀x∈L.take (i+1),x∈M):=aa (fun x hx=>by
        rcases HTk.o x hx with h|h
        ·exact h
        ·rw[h,HY.o];exact sX _)
       have b1:(y==y)=true:=by simp
       go_wp2_with fail;go_quiet (fail);obtain⟨wx,hwq⟩:=aj (wq.drewN nq);have HBx:ae (sG wo.heap.size wo wx):=aa (by rw[hwq];exact⟨HBq.o.os,HBq.o.tape,HBq.o.output,HBq.o.size,HBq.o.block⟩);rw[<-hwq];clear hwq;go_wp2;go_roundw
       case rel=>exact⟨i+1,m,some ⟨g,0,none⟩,vc,M,rfl,by go_num,by omega,by omega,HM,aa (ay HOw.o HBx.o),HPut,aa (HBr0.o.trans (HBx.o.mono HBr0.o.size))⟩
       case measure=>simp[tf];omega
      ·have b1:(y==z)=false:=beq_eq_false_iff_ne.2 hyz2;go_wp2_with fail;go_quiet (fail);obtain⟨wx,hwq⟩:=aj (wq.drewN nq);have HBx:ae (sG wo.heap.size wo wx):=aa (by rw[hwq];exact⟨HBq.o.os,HBq.o.tape,HBq.o.output,HBq.o.size,HBq.o.block⟩);rw[<-hwq];clear hwq;go_wp2_with fail;have HBr:=aa (HBr0.o.trans (HBx.o.mono HBr0.o.size));have HCz:ae (wx.cell? (ad.add i)=some (.int .i64 z)):=aa ((HBr.o.cell (p:=ad.add i) (by rw[add_blk];exact HAd.o)).trans HCz0.o);have HRM:=aa (HRM0.o.below HBx.o);have HPut:=aa (fun(x:Int)(hx:x∈L.take (i+1))=>zbv (M:=M) (k:=k) HTk.o x hx);have HLT:ae (k=(M.take k).length):=aa (by rw[tZ,<-HM.o];omega);have HLD:ae (m-k=(M.drop k).length):=aa (by rw[tA,<-HM.o]);have k3:(k:Int)<=(m:Int):=by omega
       have k4:(m:Int)<=(vc:Int):=by omega
       have k5:(k:Int)<=(vc:Int):=by omega
       have k6:¬vc<k:=by omega
       clear HBq c4 c5 c3 HY b1 hyz hyz2 d1 k1 HTk HCz0;obtain⟨v0,hv0⟩:=aj wx.drew;have HBv:ae (sG wx.heap.size wx v0):=aa (by rw[hv0];exact(sM _ _).drew);have HB0:=aa (sM v0.heap.size v0);have HT:=aa (fun(W:sE)(h:sG v0.heap.size v0 W)=>show W.cell? (ad.add i)=some (.int .i64 z)/\True from⟨(((HBv.o.trans (h.mono HBv.o.size))).cell (p:=ad.add i) (by rw[add_blk];exact sR HAd.o (HBr.o.size))).trans HCz.o,trivial⟩);have HB0s:ae (w3.heap.size<=v0.heap.size):=aa (te HBr.o.size HBv.o.size);have HR0:=aa (fun(W:sE)(h:sG v0.heap.size v0 W)=>show eS W (some ⟨g,0,none⟩) M from HRM.o.below (HBv.o.trans (h.mono HBv.o.size)));have HRT:=aa (fun(W:sE)(h:sG v0.heap.size v0 W)=>pQ (n:=k) (HR0.o W h));have HRD0:=aa (fun(ao:Option Addr)(hao:ao=if vc=k then some ⟨g,0,none⟩else some ⟨g,k,none⟩)(W:sE)(h:sG v0.heap.size v0 W)=>show eS W ao (M.drop k)from by
        rw[hao];split
        ·rw[tE (by have:=HM.o;omega)];exact jk _ _
        ·have hd:=pR (n:=k) (HR0.o W h);rw[sN]at hd;exact hd)
       refine dv (.one 1 1 (.one 2 1 (.one 3 1 (.one 5 1 (.one 6 1 (.one 7 1 (.one 8 1 (.one 11 1 (.one 12 1 (.one 13 1 (.two 0 9 (.two 4 9 (.one 9 2 (.one 10 2 (.one 14 2 (.one 15 1 .nil)))) (.one 4 2 (.one 10 2 (.one 14 2 (.one 15 1 .nil))))) (.one 0 2 (.one 4 2 (.one 10 2 (.one 14 2 (.one 15 1 .nil)))))))))))))))) (fun _=>True) (fun W=>W.cell? (ad.add i)=some (.int .i64 z)/\True) (fun _=>false) (by kernel_rfl) (by kernel_rfl) (fun j hj=>by cases hj) rfl (by kernel_rfl) trivial (HT.o _ (by rw[hv0];exact sM _ _)) ?_;rw[<-hv0];clear hv0
       iterate 10 (refine cK ?_ rfl (by kernel_rfl) (fun w' hS=>?_) ?_;(rotate_left;(obtain⟨s1,_⟩:=hS;go_simp;with_reducible rfl);rotate_left))
       obtain⟨ao,hao⟩:=aj (if vc=k then some (⟨g,0,none⟩:Addr)else some ⟨g,k,none⟩);have HRD:=aa (HRD0.o ao hao)
       try rw[<-hao]
       clear hao HRD0;refine dT ?x0 ?x9
       case x0=>
        refine bL rfl (by kernel_rfl) fun KK hKK=>?_;go_simp;have HB1:=aa (HB0.o.trans ((af (w:=v0) (o:=.cells #[] 3)).mono HB0.o.size));refine hKK _ _ (fun _=>trivial) (HT.o _ HB1.o) ?_;clear hKK KK;obtain⟨v1,hv1⟩:=aj (v0.alloc (.cells #[] 3));rw[<-hv1]at HB1;rw[<-hv1];have HZ1:ae (v1.heap.size=v0.heap.size+1):=aa (by rw[hv1];simp);have HW1:ae (v1.ownsRow v0.heap.size 3 1 (.slice (some ⟨v0.heap.size,0,none⟩) 0 0) 0 (bk [])):=aa (by rw[hv1];exact aW (fX v0) HB0.o.size);have HK1:ae (sG v0.heap.size v0 v1):=aa (by rw[hv1];exact af);clear hv1;refine dT ?x04 ?x09
        case x04=>
         refine bL rfl (by kernel_rfl) fun KK hKK=>?_;refine aP _ _ rfl v0.heap.size (.slice (some ⟨v0.heap.size,0,none⟩) 0 0) 0 [] rfl HW1.o (some ⟨g,0,none⟩) k vc (M.take k) rfl (HRT.o _ HB1.o) HLT.o (by omega) HB1.o.size ?_;intro vo2 vc2 v2 o2 gr2 hb2;rw[sN]at o2 hb2⊢;have HB2:=aa (HB1.o.trans (am HW1.o gr2 HB1.o.size));have HW2:=aa o2;have HG2:=aa gr2;have HBk2:=aa hb2;refine hKK _ _ (fun _=>trivial) (HT.o _ HB2.o) ?_;clear hKK KK o2 gr2 hb2;refine aD rfl (by kernel_rfl) fun KK hKK=>?_;go_simp;have HB3:=aa (HB2.o.trans ((af (w:=v2) (o:=.cells #[.int .i64 z] 3)).mono HB2.o.size));refine hKK _ _ (fun _=>trivial) (HT.o _ HB3.o) ?_;clear hKK KK;obtain⟨v3,hv3⟩:=aj (v2.alloc (.cells #[.int .i64 z] 3));rw[<-hv3]at HB3;rw[<-hv3];have HZ3:ae (v3.heap.size=v2.heap.size+1):=aa (by rw[hv3];simp);have HQ3:ae (v3.heap[v2.heap.size]?=some (.cells #[.int .i64 z] 3)):=aa (by rw[hv3];exact heap_alloc_new _ _);have HK3:ae (sG v2.heap.size v2 v3):=aa (by rw[hv3];exact af);clear hv3;have HW3:=aa (ay HW2.o HK3.o);refine aD rfl (by kernel_rfl) fun KK hKK=>?_;refine aP _ _ rfl v0.heap.size (.slice vo2 k vc2) k ([]++M.take k) rfl HW3.o (some ⟨v2.heap.size,0,none⟩) 1 1 [z] rfl (cm HQ3.o) rfl (by omega) HB3.o.size ?_;intro vo4 vc4 v4 o4 gr4 hb4;have HB4:=aa (HB3.o.trans (am HW3.o gr4 HB3.o.size));have HW4:=aa o4;have HG4:=aa gr4;have HBk4:=aa hb4;refine hKK _ _ (fun _=>trivial) (HT.o _ HB4.o) ?_;clear hKK KK o4 gr4 hb4;refine aD rfl (by kernel_rfl) fun KK hKK=>?_;refine aP _ _ rfl v0.heap.size (.slice vo4 (k+1) vc4) (k+1) ([]++M.take k++[z]) rfl HW4.o (ao) (m-k) (vc-k) (M.drop k) rfl (HRD.o _ HB4.o) HLD.o (by omega) HB4.o.size ?_;intro vo5 vc5 v5 o5 gr5 hb5;have HB5:=aa (HB4.o.trans (am HW4.o gr5 HB4.o.size));have HW5:=aa o5;have HG5:=aa gr5;have HBk5:=aa hb5;refine hKK _ _ (fun _=>trivial) (HT.o _ HB5.o) ?_;clear hKK KK o5 gr5 hb5;refine cK ?_ rfl (by kernel_rfl) (fun w' hS=>?_) ?_;(rotate_left;(go_simp;with_reducible rfl);rotate_left)
         refine cb (sO ?_);have HFin:=aa (show v5.ownsRow w3.heap.size 3 1 (.slice vo5 (m+1) vc5) (m+1) (bk (M.take k++[z]++M.drop k)) by have h1:=aW HW5.o HB0s.o;rw[show k+1+(m-k)=m+1 by omega,sU]at h1;exact h1);have HFb:=aa (HBr.o.trans (HBv.o.trans (HB5.o.mono HBv.o.size) |>.mono HBr.o.size));have em:k+1+(m-k)=m+1:=by omega
         rw[em];clear em;go_wp2;go_roundw
         case rel=>exact⟨i+1,m+1,vo5,vc5,M.take k++[z]++M.drop k,rfl,by go_num,by omega,by omega,aa (by rw[jl M z (by rw[<-HM.o];exact hk),<-HM.o]),HFin,HPut,HFb⟩
         case measure=>simp[tf];omega
        case x09=>
         refine bL rfl (by kernel_rfl) fun KK hKK=>?_;go_simp;have HB2:=aa (HB1.o.trans ((af (w:=v1) (o:=.cells #[.int .i64 z] 3)).mono HB1.o.size));refine hKK _ _ (fun _=>trivial) (HT.o _ HB2.o) ?_;clear hKK KK;obtain⟨v2,hv2⟩:=aj (v1.alloc (.cells #[.int .i64 z] 3));rw[<-hv2]at HB2;rw[<-hv2];have HZ2:ae (v2.heap.size=v1.heap.size+1):=aa (by rw[hv2];simp);have HQ2:ae (v2.heap[v1.heap.size]?=some (.cells #[.int .i64 z] 3)):=aa (by rw[hv2];exact heap_alloc_new _ _);have HK2:ae (sG v1.heap.size v1 v2):=aa (by rw[hv2];exact af);clear hv2;have HW2:=aa (ay HW1.o HK2.o);refine aD rfl (by kernel_rfl) fun KK hKK=>?_;refine aP _ _ rfl v0.heap.size (.slice (some ⟨v0.heap.size,0,none⟩) 0 0) 0 [] rfl HW2.o (some ⟨g,0,none⟩) k vc (M.take k) rfl (HRT.o _ HB2.o) HLT.o (by omega) HB2.o.size ?_;intro vo3 vc3 v3 o3 gr3 hb3;rw[sN]at o3 hb3⊢;have HB3:=aa (HB2.o.trans (am HW2.o gr3 HB2.o.size));have HW3:=aa o3;have HG3:=aa gr3;have HBk3:=aa hb3;have HQ3:=aa (mN HQ2.o gr3 (by simp[sT];have:=HZ2.o;have:=HZ1.o;omega));refine hKK _ _ (fun _=>trivial) (HT.o _ HB3.o) ?_;clear hKK KK o3 gr3 hb3;refine aD rfl (by kernel_rfl) fun KK hKK=>?_;refine aP _ _ rfl v0.heap.size (.slice vo3 k vc3) k ([]++M.take k) rfl HW3.o (some ⟨v1.heap.size,0,none⟩) 1 1 [z] rfl (cm HQ3.o) rfl (by omega) HB3.o.size ?_;intro vo4 vc4 v4 o4 gr4 hb4;have HB4:=aa (HB3.o.trans (am HW3.o gr4 HB3.o.size));have HW4:=aa o4;have HG4:=aa gr4;have HBk4:=aa hb4;refine hKK _ _ (fun _=>trivial) (HT.o _ HB4.o) ?_;clear hKK KK o4 gr4 hb4;refine aD rfl (by kernel_rfl) fun KK hKK=>?_;refine aP _ _ rfl v0.heap.size (.slice vo4 (k+1) vc4) (k+1) ([]++M.take k++[z]) rfl HW4.o (ao) (m-k) (vc-k) (M.drop k) rfl (HRD.o _ HB4.o) HLD.o (by omega) HB4.o.size ?_;intro vo5 vc5 v5 o5 gr5 hb5;have HB5:=aa (HB4.o.trans (am HW4.o gr5 HB4.o.size));have HW5:=aa o5;have HG5:=aa gr5;have HBk5:=aa hb5;refine hKK _ _ (fun _=>trivial) (HT.o _ HB5.o) ?_;clear hKK KK o5 gr5 hb5;refine cK ?_ rfl (by kernel_rfl) (fun w' hS=>?_) ?_;(rotate_left;(go_simp;with_reducible rfl);rotate_left)
         refine cb (sO ?_);have HFin:=aa (show v5.ownsRow w3.heap.size 3 1 (.slice vo5 (m+1) vc5) (m+1) (bk (M.take k++[z]++M.drop k)) by have h1:=aW HW5.o HB0s.o;rw[show k+1+(m-k)=m+1 by omega,sU]at h1;exact h1);have HFb:=aa (HBr.o.trans (HBv.o.trans (HB5.o.mono HBv.o.size) |>.mono HBr.o.size));have em:k+1+(m-k)=m+1:=by omega
         rw[em];clear em;go_wp2;go_roundw
         case rel=>exact⟨i+1,m+1,vo5,vc5,M.take k++[z]++M.drop k,rfl,by go_num,by omega,by omega,aa (by rw[jl M z (by rw[<-HM.o];exact hk),<-HM.o]),HFin,HPut,HFb⟩
         case measure=>simp[tf];omega
       case x9=>
        refine bL rfl (by kernel_rfl) fun KK hKK=>?_;go_simp;have HB1:=aa (HB0.o.trans ((af (w:=v0) (o:=.cells #[.int .i64 z] 3)).mono HB0.o.size));refine hKK _ _ (fun _=>trivial) (HT.o _ HB1.o) ?_;clear hKK KK;obtain⟨v1,hv1⟩:=aj (v0.alloc (.cells #[.int .i64 z] 3));rw[<-hv1]at HB1;rw[<-hv1];have HZ1:ae (v1.heap.size=v0.heap.size+1):=aa (by rw[hv1];simp);have HQ1:ae (v1.heap[v0.heap.size]?=some (.cells #[.int .i64 z] 3)):=aa (by rw[hv1];exact heap_alloc_new _ _);have HK1:ae (sG v0.heap.size v0 v1):=aa (by rw[hv1];exact af);clear hv1;refine aD rfl (by kernel_rfl) fun KK hKK=>?_;go_simp;have HB2:=aa (HB1.o.trans ((af (w:=v1) (o:=.cells #[] 3)).mono HB1.o.size));refine hKK _ _ (fun _=>trivial) (HT.o _ HB2.o) ?_;clear hKK KK;obtain⟨v2,hv2⟩:=aj (v1.alloc (.cells #[] 3));rw[<-hv2]at HB2;rw[<-hv2];have HZ2:ae (v2.heap.size=v1.heap.size+1):=aa (by rw[hv2];simp);have HW2:ae (v2.ownsRow v0.heap.size 3 1 (.slice (some ⟨v1.heap.size,0,none⟩) 0 0) 0 (bk [])):=aa (by rw[hv2];exact aW (fX v1) HB1.o.size);have HK2:ae (sG v1.heap.size v1 v2):=aa (by rw[hv2];exact af);clear hv2;have HQ2:=aa ((HK2.o.block _ (ag HQ1.o)).trans HQ1.o);refine aD rfl (by kernel_rfl) fun KK hKK=>?_;refine aP _ _ rfl v0.heap.size (.slice (some ⟨v1.heap.size,0,none⟩) 0 0) 0 [] rfl HW2.o (some ⟨g,0,none⟩) k vc (M.take k) rfl (HRT.o _ HB2.o) HLT.o (by omega) HB2.o.size ?_;intro vo3 vc3 v3 o3 gr3 hb3;rw[sN]at o3 hb3⊢;have HB3:=aa (HB2.o.trans (am HW2.o gr3 HB2.o.size));have HW3:=aa o3;have HG3:=aa gr3;have HBk3:=aa hb3;have HQ3:=aa (mN HQ2.o gr3 (by simp[sT];have:=HZ2.o;have:=HZ1.o;omega));refine hKK _ _ (fun _=>trivial) (HT.o _ HB3.o) ?_;clear hKK KK o3 gr3 hb3;refine aD rfl (by kernel_rfl) fun KK hKK=>?_;refine aP _ _ rfl v0.heap.size (.slice vo3 k vc3) k ([]++M.take k) rfl HW3.o (some ⟨v0.heap.size,0,none⟩) 1 1 [z] rfl (cm HQ3.o) rfl (by omega) HB3.o.size ?_;intro vo4 vc4 v4 o4 gr4 hb4;have HB4:=aa (HB3.o.trans (am HW3.o gr4 HB3.o.size));have HW4:=aa o4;have HG4:=aa gr4;have HBk4:=aa hb4;refine hKK _ _ (fun _=>trivial) (HT.o _ HB4.o) ?_;clear hKK KK o4 gr4 hb4;refine aD rfl (by kernel_rfl) fun KK hKK=>?_;refine aP _ _ rfl v0.heap.size (.slice vo4 (k+1) vc4) (k+1) ([]++M.take k++[z]) rfl HW4.o (ao) (m-k) (vc-k) (M.drop k) rfl (HRD.o _ HB4.o) HLD.o (by omega) HB4.o.size ?_;intro vo5 vc5 v5 o5 gr5 hb5;have HB5:=aa (HB4.o.trans (am HW4.o gr5 HB4.o.size));have HW5:=aa o5;have HG5:=aa gr5;have HBk5:=aa hb5;refine hKK _ _ (fun _=>trivial) (HT.o _ HB5.o) ?_;clear hKK KK o5 gr5 hb5;refine cK ?_ rfl (by kernel_rfl) (fun w' hS=>?_) ?_;(rotate_left;(go_simp;with_reducible rfl);rotate_left)
        refine cb (sO ?_);have HFin:=aa (show v5.ownsRow w3.heap.size 3 1 (.slice vo5 (m+1) vc5) (m+1) (bk (M.take k++[z]++M.drop k)) by have h1:=aW HW5.o HB0s.o;rw[show k+1+(m-k)=m+1 by omega,sU]at h1;exact h1);have HFb:=aa (HBr.o.trans (HBv.o.trans (HB5.o.mono HBv.o.size) |>.mono HBr.o.size));have em:k+1+(m-k)=m+1:=by omega
        rw[em];clear em;go_wp2;go_roundw
        case rel=>exact⟨i+1,m+1,vo5,vc5,M.take k++[z]++M.drop k,rfl,by go_num,by omega,by omega,aa (by rw[jl M z (by rw[<-HM.o];exact hk),<-HM.o]),HFin,HPut,HFb⟩
        case measure=>simp[tf];omega
    ·have k1:¬(k:Int)<(m:Int):=by omega
     have hkm2:k=m:=by omega
     rcases HOw.o.2 with ⟨h1,h2⟩|⟨g,cap,cur,h1,h2,h3,h4,h5⟩
     ·cases h1;obtain rfl:k=0:=by omega
      obtain rfl:M=[]:=tB.1 HM.o.symm;clear hkm2 HRM0 HOw h2;go_wp2_with fail;go_quiet (fail);obtain⟨wq,hwq⟩:=aj (wr.drewN nq);have HBq:ae (sG wo.heap.size wo wq):=aa (by rw[hwq];exact⟨HB.o.os,HB.o.tape,HB.o.output,HB.o.size,HB.o.block⟩);rw[<-hwq];clear hwq;go_wp2_with fail;go_quiet (fail);obtain⟨wx,hwq⟩:=aj (wq.drewN nq);have HBx:ae (sG wo.heap.size wo wx):=aa (by rw[hwq];exact⟨HBq.o.os,HBq.o.tape,HBq.o.output,HBq.o.size,HBq.o.block⟩);rw[<-hwq];clear hwq;go_wp2_with fail;have HBr:=aa (HBr0.o.trans (HBx.o.mono HBr0.o.size));have HCz:ae (wx.cell? (ad.add i)=some (.int .i64 z)):=aa ((HBr.o.cell (p:=ad.add i) (by rw[add_blk];exact HAd.o)).trans HCz0.o);have HPut:=aa (fun(x:Int)(hx:x∈L.take (i+1))=>zbv (M:=[]) (k:=0) HTk.o x hx);have HLT:ae (0=(([]:List Int).take 0).length):=aa rfl;have HLD:ae (0-0=(([]:List Int).drop 0).length):=aa rfl;clear HBq k1 HTk HCz0;obtain⟨v0,hv0⟩:=aj wx.drew;have HBv:ae (sG wx.heap.size wx v0):=aa (by rw[hv0];exact(sM _ _).drew);have HB0:=aa (sM v0.heap.size v0);have HT:=aa (fun(W:sE)(h:sG v0.heap.size v0 W)=>show W.cell? (ad.add i)=some (.int .i64 z)/\True from⟨(((HBv.o.trans (h.mono HBv.o.size))).cell (p:=ad.add i) (by rw[add_blk];exact sR HAd.o (HBr.o.size))).trans HCz.o,trivial⟩);have HB0s:ae (w3.heap.size<=v0.heap.size):=aa (te HBr.o.size HBv.o.size);have HRT:=aa (fun(W:sE)(_:sG v0.heap.size v0 W)=>show eS W none (([]:List Int).take 0)from by rw[List.take_nil];exact jk _ _);have HRD:=aa (fun(W:sE)(_:sG v0.heap.size v0 W)=>show eS W none (([]:List Int).drop 0)from by rw[List.drop_nil];exact jk _ _);refine dv (.one 1 1 (.one 2 1 (.one 3 1 (.one 5 1 (.one 6 1 (.one 7 1 (.one 8 1 (.one 11 1 (.one 12 1 (.one 13 1 (.two 0 9 (.two 4 9 (.one 9 2 (.one 10 2 (.one 14 2 (.one 15 1 .nil)))) (.one 4 2 (.one 10 2 (.one 14 2 (.one 15 1 .nil))))) (.one 0 2 (.one 4 2 (.one 10 2 (.one 14 2 (.one 15 1 .nil)))))))))))))))) (fun _=>True) (fun W=>W.cell? (ad.add i)=some (.int .i64 z)/\True) (fun _=>false) (by kernel_rfl) (by kernel_rfl) (fun j hj=>by cases hj) rfl (by kernel_rfl) trivial (HT.o _ (by rw[hv0];exact sM _ _)) ?_;rw[<-hv0];clear hv0
      iterate 10 (refine cK ?_ rfl (by kernel_rfl) (fun w' hS=>?_) ?_;(rotate_left;(obtain⟨s1,_⟩:=hS;go_simp;with_reducible rfl);rotate_left))
      refine dT ?x0 ?x9
      case x0=>
       refine bL rfl (by kernel_rfl) fun KK hKK=>?_;go_simp;have HB1:=aa (HB0.o.trans ((af (w:=v0) (o:=.cells #[] 3)).mono HB0.o.size));refine hKK _ _ (fun _=>trivial) (HT.o _ HB1.o) ?_;clear hKK KK;obtain⟨v1,hv1⟩:=aj (v0.alloc (.cells #[] 3));rw[<-hv1]at HB1;rw[<-hv1];have HZ1:ae (v1.heap.size=v0.heap.size+1):=aa (by rw[hv1];simp);have HW1:ae (v1.ownsRow v0.heap.size 3 1 (.slice (some ⟨v0.heap.size,0,none⟩) 0 0) 0 (bk [])):=aa (by rw[hv1];exact aW (fX v0) HB0.o.size);have HK1:ae (sG v0.heap.size v0 v1):=aa (by rw[hv1];exact af);clear hv1;refine dT ?x04 ?x09
       case x04=>
        refine bL rfl (by kernel_rfl) fun KK hKK=>?_;refine aP _ _ rfl v0.heap.size (.slice (some ⟨v0.heap.size,0,none⟩) 0 0) 0 [] rfl HW1.o (none) 0 0 (([]:List Int).take 0) rfl (HRT.o _ HB1.o) HLT.o (by omega) HB1.o.size ?_;intro vo2 vc2 v2 o2 gr2 hb2;rw[sN]at o2 hb2⊢;have HB2:=aa (HB1.o.trans (am HW1.o gr2 HB1.o.size));have HW2:=aa o2;have HG2:=aa gr2;have HBk2:=aa hb2;refine hKK _ _ (fun _=>trivial) (HT.o _ HB2.o) ?_;clear hKK KK o2 gr2 hb2;refine aD rfl (by kernel_rfl) fun KK hKK=>?_;go_simp;have HB3:=aa (HB2.o.trans ((af (w:=v2) (o:=.cells #[.int .i64 z] 3)).mono HB2.o.size));refine hKK _ _ (fun _=>trivial) (HT.o _ HB3.o) ?_;clear hKK KK;obtain⟨v3,hv3⟩:=aj (v2.alloc (.cells #[.int .i64 z] 3));rw[<-hv3]at HB3;rw[<-hv3];have HZ3:ae (v3.heap.size=v2.heap.size+1):=aa (by rw[hv3];simp);have HQ3:ae (v3.heap[v2.heap.size]?=some (.cells #[.int .i64 z] 3)):=aa (by rw[hv3];exact heap_alloc_new _ _);have HK3:ae (sG v2.heap.size v2 v3):=aa (by rw[hv3];exact af);clear hv3;have HW3:=aa (ay HW2.o HK3.o);refine aD rfl (by kernel_rfl) fun KK hKK=>?_;refine aP _ _ rfl v0.heap.size (.slice vo2 0 vc2) 0 ([]++([]:List Int).take 0) rfl HW3.o (some ⟨v2.heap.size,0,none⟩) 1 1 [z] rfl (cm HQ3.o) rfl (by omega) HB3.o.size ?_;intro vo4 vc4 v4 o4 gr4 hb4;have HB4:=aa (HB3.o.trans (am HW3.o gr4 HB3.o.size));have HW4:=aa o4;have HG4:=aa gr4;have HBk4:=aa hb4;refine hKK _ _ (fun _=>trivial) (HT.o _ HB4.o) ?_;clear hKK KK o4 gr4 hb4;refine aD rfl (by kernel_rfl) fun KK hKK=>?_;refine aP _ _ rfl v0.heap.size (.slice vo4 (0+1) vc4) (0+1) ([]++([]:List Int).take 0++[z]) rfl HW4.o (none) (0-0) 0 (([]:List Int).drop 0) rfl (HRD.o _ HB4.o) HLD.o (by omega) HB4.o.size ?_;intro vo5 vc5 v5 o5 gr5 hb5;have HB5:=aa (HB4.o.trans (am HW4.o gr5 HB4.o.size));have HW5:=aa o5;have HG5:=aa gr5;have HBk5:=aa hb5;refine hKK _ _ (fun _=>trivial) (HT.o _ HB5.o) ?_;clear hKK KK o5 gr5 hb5;refine cK ?_ rfl (by kernel_rfl) (fun w' hS=>?_) ?_;(rotate_left;(go_simp;with_reducible rfl);rotate_left)
        refine cb (sO ?_);have HFin:=aa (show v5.ownsRow w3.heap.size 3 1 (.slice vo5 (0+1) vc5) (0+1) (bk (([]:List Int).take 0++[z]++([]:List Int).drop 0)) by have h1:=aW HW5.o HB0s.o;rw[show 0+1+(0-0)=0+1 by omega,sU]at h1;exact h1);have HFb:=aa (HBr.o.trans (HBv.o.trans (HB5.o.mono HBv.o.size) |>.mono HBr.o.size));have em:0+1+(0-0)=0+1:=by omega
        rw[em];clear em;go_wp2;go_roundw
        case rel=>exact⟨i+1,0+1,vo5,vc5,([]:List Int).take 0++[z]++([]:List Int).drop 0,rfl,by go_num,by omega,by omega,aa (rfl),HFin,HPut,HFb⟩
        case measure=>simp[tf];omega
       case x09=>
        refine bL rfl (by kernel_rfl) fun KK hKK=>?_;go_simp;have HB2:=aa (HB1.o.trans ((af (w:=v1) (o:=.cells #[.int .i64 z] 3)).mono HB1.o.size));refine hKK _ _ (fun _=>trivial) (HT.o _ HB2.o) ?_;clear hKK KK;obtain⟨v2,hv2⟩:=aj (v1.alloc (.cells #[.int .i64 z] 3));rw[<-hv2]at HB2;rw[<-hv2];have HZ2:ae (v2.heap.size=v1.heap.size+1):=aa (by rw[hv2];simp);have HQ2:ae (v2.heap[v1.heap.size]?=some (.cells #[.int .i64 z] 3)):=aa (by rw[hv2];exact heap_alloc_new _ _);have HK2:ae (sG v1.heap.size v1 v2):=aa (by rw[hv2];exact af);clear hv2;have HW2:=aa (ay HW1.o HK2.o);refine aD rfl (by kernel_rfl) fun KK hKK=>?_;refine aP _ _ rfl v0.heap.size (.slice (some ⟨v0.heap.size,0,none⟩) 0 0) 0 [] rfl HW2.o (none) 0 0 (([]:List Int).take 0) rfl (HRT.o _ HB2.o) HLT.o (by omega) HB2.o.size ?_;intro vo3 vc3 v3 o3 gr3 hb3;rw[sN]at o3 hb3⊢;have HB3:=aa (HB2.o.trans (am HW2.o gr3 HB2.o.size));have HW3:=aa o3;have HG3:=aa gr3;have HBk3:=aa hb3;have HQ3:=aa (mN HQ2.o gr3 (by simp[sT];have:=HZ2.o;have:=HZ1.o;omega));refine hKK _ _ (fun _=>trivial) (HT.o _ HB3.o) ?_;clear hKK KK o3 gr3 hb3;refine aD rfl (by kernel_rfl) fun KK hKK=>?_;refine aP _ _ rfl v0.heap.size (.slice vo3 0 vc3) 0 ([]++([]:List Int).take 0) rfl HW3.o (some ⟨v1.heap.size,0,none⟩) 1 1 [z] rfl (cm HQ3.o) rfl (by omega) HB3.o.size ?_;intro vo4 vc4 v4 o4 gr4 hb4;have HB4:=aa (HB3.o.trans (am HW3.o gr4 HB3.o.size));have HW4:=aa o4;have HG4:=aa gr4;have HBk4:=aa hb4;refine hKK _ _ (fun _=>trivial) (HT.o _ HB4.o) ?_;clear hKK KK o4 gr4 hb4;refine aD rfl (by kernel_rfl) fun KK hKK=>?_;refine aP _ _ rfl v0.heap.size (.slice vo4 (0+1) vc4) (0+1) ([]++([]:List Int).take 0++[z]) rfl HW4.o (none) (0-0) 0 (([]:List Int).drop 0) rfl (HRD.o _ HB4.o) HLD.o (by omega) HB4.o.size ?_;intro vo5 vc5 v5 o5 gr5 hb5;have HB5:=aa (HB4.o.trans (am HW4.o gr5 HB4.o.size));have HW5:=aa o5;have HG5:=aa gr5;have HBk5:=aa hb5;refine hKK _ _ (fun _=>trivial) (HT.o _ HB5.o) ?_;clear hKK KK o5 gr5 hb5;refine cK ?_ rfl (by kernel_rfl) (fun w' hS=>?_) ?_;(rotate_left;(go_simp;with_reducible rfl);rotate_left)
        refine cb (sO ?_);have HFin:=aa (show v5.ownsRow w3.heap.size 3 1 (.slice vo5 (0+1) vc5) (0+1) (bk (([]:List Int).take 0++[z]++([]:List Int).drop 0)) by have h1:=aW HW5.o HB0s.o;rw[show 0+1+(0-0)=0+1 by omega,sU]at h1;exact h1);have HFb:=aa (HBr.o.trans (HBv.o.trans (HB5.o.mono HBv.o.size) |>.mono HBr.o.size));have em:0+1+(0-0)=0+1:=by omega
        rw[em];clear em;go_wp2;go_roundw
        case rel=>exact⟨i+1,0+1,vo5,vc5,([]:List Int).take 0++[z]++([]:List Int).drop 0,rfl,by go_num,by omega,by omega,aa (rfl),HFin,HPut,HFb⟩
        case measure=>simp[tf];omega
      case x9=>
       refine bL rfl (by kernel_rfl) fun KK hKK=>?_;go_simp;have HB1:=aa (HB0.o.trans ((af (w:=v0) (o:=.cells #[.int .i64 z] 3)).mono HB0.o.size));refine hKK _ _ (fun _=>trivial) (HT.o _ HB1.o) ?_;clear hKK KK;obtain⟨v1,hv1⟩:=aj (v0.alloc (.cells #[.int .i64 z] 3));rw[<-hv1]at HB1;rw[<-hv1];have HZ1:ae (v1.heap.size=v0.heap.size+1):=aa (by rw[hv1];simp);have HQ1:ae (v1.heap[v0.heap.size]?=some (.cells #[.int .i64 z] 3)):=aa (by rw[hv1];exact heap_alloc_new _ _);have HK1:ae (sG v0.heap.size v0 v1):=aa (by rw[hv1];exact af);clear hv1;refine aD rfl (by kernel_rfl) fun KK hKK=>?_;go_simp;have HB2:=aa (HB1.o.trans ((af (w:=v1) (o:=.cells #[] 3)).mono HB1.o.size));refine hKK _ _ (fun _=>trivial) (HT.o _ HB2.o) ?_;clear hKK KK;obtain⟨v2,hv2⟩:=aj (v1.alloc (.cells #[] 3));rw[<-hv2]at HB2;rw[<-hv2];have HZ2:ae (v2.heap.size=v1.heap.size+1):=aa (by rw[hv2];simp);have HW2:ae (v2.ownsRow v0.heap.size 3 1 (.slice (some ⟨v1.heap.size,0,none⟩) 0 0) 0 (bk [])):=aa (by rw[hv2];exact aW (fX v1) HB1.o.size);have HK2:ae (sG v1.heap.size v1 v2):=aa (by rw[hv2];exact af);clear hv2;have HQ2:=aa ((HK2.o.block _ (ag HQ1.o)).trans HQ1.o);refine aD rfl (by kernel_rfl) fun KK hKK=>?_;refine aP _ _ rfl v0.heap.size (.slice (some ⟨v1.heap.size,0,none⟩) 0 0) 0 [] rfl HW2.o (none) 0 0 (([]:List Int).take 0) rfl (HRT.o _ HB2.o) HLT.o (by omega) HB2.o.size ?_;intro vo3 vc3 v3 o3 gr3 hb3;rw[sN]at o3 hb3⊢;have HB3:=aa (HB2.o.trans (am HW2.o gr3 HB2.o.size));have HW3:=aa o3;have HG3:=aa gr3;have HBk3:=aa hb3;have HQ3:=aa (mN HQ2.o gr3 (by simp[sT];have:=HZ2.o;have:=HZ1.o;omega));refine hKK _ _ (fun _=>trivial) (HT.o _ HB3.o) ?_;clear hKK KK o3 gr3 hb3;refine aD rfl (by kernel_rfl) fun KK hKK=>?_;refine aP _ _ rfl v0.heap.size (.slice vo3 0 vc3) 0 ([]++([]:List Int).take 0) rfl HW3.o (some ⟨v0.heap.size,0,none⟩) 1 1 [z] rfl (cm HQ3.o) rfl (by omega) HB3.o.size ?_;intro vo4 vc4 v4 o4 gr4 hb4;have HB4:=aa (HB3.o.trans (am HW3.o gr4 HB3.o.size));have HW4:=aa o4;have HG4:=aa gr4;have HBk4:=aa hb4;refine hKK _ _ (fun _=>trivial) (HT.o _ HB4.o) ?_;clear hKK KK o4 gr4 hb4;refine aD rfl (by kernel_rfl) fun KK hKK=>?_;refine aP _ _ rfl v0.heap.size (.slice vo4 (0+1) vc4) (0+1) ([]++([]:List Int).take 0++[z]) rfl HW4.o (none) (0-0) 0 (([]:List Int).drop 0) rfl (HRD.o _ HB4.o) HLD.o (by omega) HB4.o.size ?_;intro vo5 vc5 v5 o5 gr5 hb5;have HB5:=aa (HB4.o.trans (am HW4.o gr5 HB4.o.size));have HW5:=aa o5;have HG5:=aa gr5;have HBk5:=aa hb5;refine hKK _ _ (fun _=>trivial) (HT.o _ HB5.o) ?_;clear hKK KK o5 gr5 hb5;refine cK ?_ rfl (by kernel_rfl) (fun w' hS=>?_) ?_;(rotate_left;(go_simp;with_reducible rfl);rotate_left)
       refine cb (sO ?_);have HFin:=aa (show v5.ownsRow w3.heap.size 3 1 (.slice vo5 (0+1) vc5) (0+1) (bk (([]:List Int).take 0++[z]++([]:List Int).drop 0)) by have h1:=aW HW5.o HB0s.o;rw[show 0+1+(0-0)=0+1 by omega,sU]at h1;exact h1);have HFb:=aa (HBr.o.trans (HBv.o.trans (HB5.o.mono HBv.o.size) |>.mono HBr.o.size));have em:0+1+(0-0)=0+1:=by omega
       rw[em];clear em;go_wp2;go_roundw
       case rel=>exact⟨i+1,0+1,vo5,vc5,([]:List Int).take 0++[z]++([]:List Int).drop 0,rfl,by go_num,by omega,by omega,aa (rfl),HFin,HPut,HFb⟩
       case measure=>simp[tf];omega
     ·cases h1;have HKM:=aa hkm2;clear hkm2 h2 h3 h4 h5;go_wp2_with fail;go_quiet (fail);obtain⟨wq,hwq⟩:=aj (wr.drewN nq);have HBq:ae (sG wo.heap.size wo wq):=aa (by rw[hwq];exact⟨HB.o.os,HB.o.tape,HB.o.output,HB.o.size,HB.o.block⟩);rw[<-hwq];clear hwq;go_wp2_with fail;go_quiet (fail);obtain⟨wx,hwq⟩:=aj (wq.drewN nq);have HBx:ae (sG wo.heap.size wo wx):=aa (by rw[hwq];exact⟨HBq.o.os,HBq.o.tape,HBq.o.output,HBq.o.size,HBq.o.block⟩);rw[<-hwq];clear hwq;go_wp2_with fail;have HBr:=aa (HBr0.o.trans (HBx.o.mono HBr0.o.size));have HCz:ae (wx.cell? (ad.add i)=some (.int .i64 z)):=aa ((HBr.o.cell (p:=ad.add i) (by rw[add_blk];exact HAd.o)).trans HCz0.o);have HRM:=aa (HRM0.o.below HBx.o);have HPut:=aa (fun(x:Int)(hx:x∈L.take (i+1))=>zbv (M:=M) (k:=k) HTk.o x hx);have HLT:ae (k=(M.take k).length):=aa (by rw[tZ,<-HM.o];omega);have HLD:ae (m-k=(M.drop k).length):=aa (by rw[tA,<-HM.o]);have k3:(k:Int)<=(m:Int):=by omega
      have k4:(m:Int)<=(vc:Int):=by omega
      have k5:(k:Int)<=(vc:Int):=by omega
      have k6:¬vc<k:=by omega
      clear HBq k1 HTk HCz0;obtain⟨v0,hv0⟩:=aj wx.drew;have HBv:ae (sG wx.heap.size wx v0):=aa (by rw[hv0];exact(sM _ _).drew);have HB0:=aa (sM v0.heap.size v0);have HT:=aa (fun(W:sE)(h:sG v0.heap.size v0 W)=>show W.cell? (ad.add i)=some (.int .i64 z)/\True from⟨(((HBv.o.trans (h.mono HBv.o.size))).cell (p:=ad.add i) (by rw[add_blk];exact sR HAd.o (HBr.o.size))).trans HCz.o,trivial⟩);have HB0s:ae (w3.heap.size<=v0.heap.size):=aa (te HBr.o.size HBv.o.size);have HR0:=aa (fun(W:sE)(h:sG v0.heap.size v0 W)=>show eS W (some ⟨g,0,none⟩) M from HRM.o.below (HBv.o.trans (h.mono HBv.o.size)));have HRT:=aa (fun(W:sE)(h:sG v0.heap.size v0 W)=>pQ (n:=k) (HR0.o W h));have HRD0:=aa (fun(ao:Option Addr)(hao:ao=if vc=k then some ⟨g,0,none⟩else some ⟨g,k,none⟩)(W:sE)(h:sG v0.heap.size v0 W)=>show eS W ao (M.drop k)from by
       rw[hao];split
       ·rw[tE (by have:=HM.o;omega)];exact jk _ _
       ·have hd:=pR (n:=k) (HR0.o W h);rw[sN]at hd;exact hd)
      refine dv (.one 1 1 (.one 2 1 (.one 3 1 (.one 5 1 (.one 6 1 (.one 7 1 (.one 8 1 (.one 11 1 (.one 12 1 (.one 13 1 (.two 0 9 (.two 4 9 (.one 9 2 (.one 10 2 (.one 14 2 (.one 15 1 .nil)))) (.one 4 2 (.one 10 2 (.one 14 2 (.one 15 1 .nil))))) (.one 0 2 (.one 4 2 (.one 10 2 (.one 14 2 (.one 15 1 .nil)))))))))))))))) (fun _=>True) (fun W=>W.cell? (ad.add i)=some (.int .i64 z)/\True) (fun _=>false) (by kernel_rfl) (by kernel_rfl) (fun j hj=>by cases hj) rfl (by kernel_rfl) trivial (HT.o _ (by rw[hv0];exact sM _ _)) ?_;rw[<-hv0];clear hv0
      iterate 10 (refine cK ?_ rfl (by kernel_rfl) (fun w' hS=>?_) ?_;(rotate_left;(obtain⟨s1,_⟩:=hS;go_simp;with_reducible rfl);rotate_left))
      obtain⟨ao,hao⟩:=aj (if vc=k then some (⟨g,0,none⟩:Addr)else some ⟨g,k,none⟩);have HRD:=aa (HRD0.o ao hao)
      try rw[<-hao]
      clear hao HRD0;refine dT ?x0 ?x9
      case x0=>
       refine bL rfl (by kernel_rfl) fun KK hKK=>?_;go_simp;have HB1:=aa (HB0.o.trans ((af (w:=v0) (o:=.cells #[] 3)).mono HB0.o.size));refine hKK _ _ (fun _=>trivial) (HT.o _ HB1.o) ?_;clear hKK KK;obtain⟨v1,hv1⟩:=aj (v0.alloc (.cells #[] 3));rw[<-hv1]at HB1;rw[<-hv1];have HZ1:ae (v1.heap.size=v0.heap.size+1):=aa (by rw[hv1];simp);have HW1:ae (v1.ownsRow v0.heap.size 3 1 (.slice (some ⟨v0.heap.size,0,none⟩) 0 0) 0 (bk [])):=aa (by rw[hv1];exact aW (fX v0) HB0.o.size);have HK1:ae (sG v0.heap.size v0 v1):=aa (by rw[hv1];exact af);clear hv1;refine dT ?x04 ?x09
       case x04=>
        refine bL rfl (by kernel_rfl) fun KK hKK=>?_;refine aP _ _ rfl v0.heap.size (.slice (some ⟨v0.heap.size,0,none⟩) 0 0) 0 [] rfl HW1.o (some ⟨g,0,none⟩) k vc (M.take k) rfl (HRT.o _ HB1.o) HLT.o (by omega) HB1.o.size ?_;intro vo2 vc2 v2 o2 gr2 hb2;rw[sN]at o2 hb2⊢;have HB2:=aa (HB1.o.trans (am HW1.o gr2 HB1.o.size));have HW2:=aa o2;have HG2:=aa gr2;have HBk2:=aa hb2;refine hKK _ _ (fun _=>trivial) (HT.o _ HB2.o) ?_;clear hKK KK o2 gr2 hb2;refine aD rfl (by kernel_rfl) fun KK hKK=>?_;go_simp;have HB3:=aa (HB2.o.trans ((af (w:=v2) (o:=.cells #[.int .i64 z] 3)).mono HB2.o.size));refine hKK _ _ (fun _=>trivial) (HT.o _ HB3.o) ?_;clear hKK KK;obtain⟨v3,hv3⟩:=aj (v2.alloc (.cells #[.int .i64 z] 3));rw[<-hv3]at HB3;rw[<-hv3];have HZ3:ae (v3.heap.size=v2.heap.size+1):=aa (by rw[hv3];simp);have HQ3:ae (v3.heap[v2.heap.size]?=some (.cells #[.int .i64 z] 3)):=aa (by rw[hv3];exact heap_alloc_new _ _);have HK3:ae (sG v2.heap.size v2 v3):=aa (by rw[hv3];exact af);clear hv3;have HW3:=aa (ay HW2.o HK3.o);refine aD rfl (by kernel_rfl) fun KK hKK=>?_;refine aP _ _ rfl v0.heap.size (.slice vo2 k vc2) k ([]++M.take k) rfl HW3.o (some ⟨v2.heap.size,0,none⟩) 1 1 [z] rfl (cm HQ3.o) rfl (by omega) HB3.o.size ?_;intro vo4 vc4 v4 o4 gr4 hb4;have HB4:=aa (HB3.o.trans (am HW3.o gr4 HB3.o.size));have HW4:=aa o4;have HG4:=aa gr4;have HBk4:=aa hb4;refine hKK _ _ (fun _=>trivial) (HT.o _ HB4.o) ?_;clear hKK KK o4 gr4 hb4;refine aD rfl (by kernel_rfl) fun KK hKK=>?_;refine aP _ _ rfl v0.heap.size (.slice vo4 (k+1) vc4) (k+1) ([]++M.take k++[z]) rfl HW4.o (ao) (m-k) (vc-k) (M.drop k) rfl (HRD.o _ HB4.o) HLD.o (by omega) HB4.o.size ?_;intro vo5 vc5 v5 o5 gr5 hb5;have HB5:=aa (HB4.o.trans (am HW4.o gr5 HB4.o.size));have HW5:=aa o5;have HG5:=aa gr5;have HBk5:=aa hb5;refine hKK _ _ (fun _=>trivial) (HT.o _ HB5.o) ?_;clear hKK KK o5 gr5 hb5;refine cK ?_ rfl (by kernel_rfl) (fun w' hS=>?_) ?_;(rotate_left;(go_simp;with_reducible rfl);rotate_left)
        refine cb (sO ?_);have HFin:=aa (show v5.ownsRow w3.heap.size 3 1 (.slice vo5 (m+1) vc5) (m+1) (bk (M.take k++[z]++M.drop k)) by have h1:=aW HW5.o HB0s.o;rw[show k+1+(m-k)=m+1 by omega,sU]at h1;exact h1);have HFb:=aa (HBr.o.trans (HBv.o.trans (HB5.o.mono HBv.o.size) |>.mono HBr.o.size));have em:k+1+(m-k)=m+1:=by omega
        rw[em];clear em;go_wp2;go_roundw
        case rel=>exact⟨i+1,m+1,vo5,vc5,M.take k++[z]++M.drop k,rfl,by go_num,by omega,by omega,aa (by rw[jl M z (by rw[<-HM.o];exact hk),<-HM.o]),HFin,HPut,HFb⟩
        case measure=>simp[tf];omega
       case x09=>
        refine bL rfl (by kernel_rfl) fun KK hKK=>?_;go_simp;have HB2:=aa (HB1.o.trans ((af (w:=v1) (o:=.cells #[.int .i64 z] 3)).mono HB1.o.size));refine hKK _ _ (fun _=>trivial) (HT.o _ HB2.o) ?_;clear hKK KK;obtain⟨v2,hv2⟩:=aj (v1.alloc (.cells #[.int .i64 z] 3));rw[<-hv2]at HB2;rw[<-hv2];have HZ2:ae (v2.heap.size=v1.heap.size+1):=aa (by rw[hv2];simp);have HQ2:ae (v2.heap[v1.heap.size]?=some (.cells #[.int .i64 z] 3)):=aa (by rw[hv2];exact heap_alloc_new _ _);have HK2:ae (sG v1.heap.size v1 v2):=aa (by rw[hv2];exact af);clear hv2;have HW2:=aa (ay HW1.o HK2.o);refine aD rfl (by kernel_rfl) fun KK hKK=>?_;refine aP _ _ rfl v0.heap.size (.slice (some ⟨v0.heap.size,0,none⟩) 0 0) 0 [] rfl HW2.o (some ⟨g,0,none⟩) k vc (M.take k) rfl (HRT.o _ HB2.o) HLT.o (by omega) HB2.o.size ?_;intro vo3 vc3 v3 o3 gr3 hb3;rw[sN]at o3 hb3⊢;have HB3:=aa (HB2.o.trans (am HW2.o gr3 HB2.o.size));have HW3:=aa o3;have HG3:=aa gr3;have HBk3:=aa hb3;have HQ3:=aa (mN HQ2.o gr3 (by simp[sT];have:=HZ2.o;have:=HZ1.o;omega));refine hKK _ _ (fun _=>trivial) (HT.o _ HB3.o) ?_;clear hKK KK o3 gr3 hb3;refine aD rfl (by kernel_rfl) fun KK hKK=>?_;refine aP _ _ rfl v0.heap.size (.slice vo3 k vc3) k ([]++M.take k) rfl HW3.o (some ⟨v1.heap.size,0,none⟩) 1 1 [z] rfl (cm HQ3.o) rfl (by omega) HB3.o.size ?_;intro vo4 vc4 v4 o4 gr4 hb4;have HB4:=aa (HB3.o.trans (am HW3.o gr4 HB3.o.size));have HW4:=aa o4;have HG4:=aa gr4;have HBk4:=aa hb4;refine hKK _ _ (fun _=>trivial) (HT.o _ HB4.o) ?_;clear hKK KK o4 gr4 hb4;refine aD rfl (by kernel_rfl) fun KK hKK=>?_;refine aP _ _ rfl v0.heap.size (.slice vo4 (k+1) vc4) (k+1) ([]++M.take k++[z]) rfl HW4.o (ao) (m-k) (vc-k) (M.drop k) rfl (HRD.o _ HB4.o) HLD.o (by omega) HB4.o.size ?_;intro vo5 vc5 v5 o5 gr5 hb5;have HB5:=aa (HB4.o.trans (am HW4.o gr5 HB4.o.size));have HW5:=aa o5;have HG5:=aa gr5;have HBk5:=aa hb5;refine hKK _ _ (fun _=>trivial) (HT.o _ HB5.o) ?_;clear hKK KK o5 gr5 hb5;refine cK ?_ rfl (by kernel_rfl) (fun w' hS=>?_) ?_;(rotate_left;(go_simp;with_reducible rfl);rotate_left)
        refine cb (sO ?_);have HFin:=aa (show v5.ownsRow w3.heap.size 3 1 (.slice vo5 (m+1) vc5) (m+1) (bk (M.take k++[z]++M.drop k)) by have h1:=aW HW5.o HB0s.o;rw[show k+1+(m-k)=m+1 by omega,sU]at h1;exact h1);have HFb:=aa (HBr.o.trans (HBv.o.trans (HB5.o.mono HBv.o.size) |>.mono HBr.o.size));have em:k+1+(m-k)=m+1:=by omega
        rw[em];clear em;go_wp2;go_roundw
        case rel=>exact⟨i+1,m+1,vo5,vc5,M.take k++[z]++M.drop k,rfl,by go_num,by omega,by omega,aa (by rw[jl M z (by rw[<-HM.o];exact hk),<-HM.o]),HFin,HPut,HFb⟩
        case measure=>simp[tf];omega
      case x9=>
       refine bL rfl (by kernel_rfl) fun KK hKK=>?_;go_simp;have HB1:=aa (HB0.o.trans ((af (w:=v0) (o:=.cells #[.int .i64 z] 3)).mono HB0.o.size));refine hKK _ _ (fun _=>trivial) (HT.o _ HB1.o) ?_;clear hKK KK;obtain⟨v1,hv1⟩:=aj (v0.alloc (.cells #[.int .i64 z] 3));rw[<-hv1]at HB1;rw[<-hv1];have HZ1:ae (v1.heap.size=v0.heap.size+1):=aa (by rw[hv1];simp);have HQ1:ae (v1.heap[v0.heap.size]?=some (.cells #[.int .i64 z] 3)):=aa (by rw[hv1];exact heap_alloc_new _ _);have HK1:ae (sG v0.heap.size v0 v1):=aa (by rw[hv1];exact af);clear hv1;refine aD rfl (by kernel_rfl) fun KK hKK=>?_;go_simp;have HB2:=aa (HB1.o.trans ((af (w:=v1) (o:=.cells #[] 3)).mono HB1.o.size));refine hKK _ _ (fun _=>trivial) (HT.o _ HB2.o) ?_;clear hKK KK;obtain⟨v2,hv2⟩:=aj (v1.alloc (.cells #[] 3));rw[<-hv2]at HB2;rw[<-hv2];have HZ2:ae (v2.heap.size=v1.heap.size+1):=aa (by rw[hv2];simp);have HW2:ae (v2.ownsRow v0.heap.size 3 1 (.slice (some ⟨v1.heap.size,0,none⟩) 0 0) 0 (bk [])):=aa (by rw[hv2];exact aW (fX v1) HB1.o.size);have HK2:ae (sG v1.heap.size v1 v2):=aa (by rw[hv2];exact af);clear hv2;have HQ2:=aa ((HK2.o.block _ (ag HQ1.o)).trans HQ1.o);refine aD rfl (by kernel_rfl) fun KK hKK=>?_;refine aP _ _ rfl v0.heap.size (.slice (some ⟨v1.heap.size,0,none⟩) 0 0) 0 [] rfl HW2.o (some ⟨g,0,none⟩) k vc (M.take k) rfl (HRT.o _ HB2.o) HLT.o (by omega) HB2.o.size ?_;intro vo3 vc3 v3 o3 gr3 hb3;rw[sN]at o3 hb3⊢;have HB3:=aa (HB2.o.trans (am HW2.o gr3 HB2.o.size));have HW3:=aa o3;have HG3:=aa gr3;have HBk3:=aa hb3;have HQ3:=aa (mN HQ2.o gr3 (by simp[sT];have:=HZ2.o;have:=HZ1.o;omega));refine hKK _ _ (fun _=>trivial) (HT.o _ HB3.o) ?_;clear hKK KK o3 gr3 hb3;refine aD rfl (by kernel_rfl) fun KK hKK=>?_;refine aP _ _ rfl v0.heap.size (.slice vo3 k vc3) k ([]++M.take k) rfl HW3.o (some ⟨v0.heap.size,0,none⟩) 1 1 [z] rfl (cm HQ3.o) rfl (by omega) HB3.o.size ?_;intro vo4 vc4 v4 o4 gr4 hb4;have HB4:=aa (HB3.o.trans (am HW3.o gr4 HB3.o.size));have HW4:=aa o4;have HG4:=aa gr4;have HBk4:=aa hb4;refine hKK _ _ (fun _=>trivial) (HT.o _ HB4.o) ?_;clear hKK KK o4 gr4 hb4;refine aD rfl (by kernel_rfl) fun KK hKK=>?_;refine aP _ _ rfl v0.heap.size (.slice vo4 (k+1) vc4) (k+1) ([]++M.take k++[z]) rfl HW4.o (ao) (m-k) (vc-k) (M.drop k) rfl (HRD.o _ HB4.o) HLD.o (by omega) HB4.o.size ?_;intro vo5 vc5 v5 o5 gr5 hb5;have HB5:=aa (HB4.o.trans (am HW4.o gr5 HB4.o.size));have HW5:=aa o5;have HG5:=aa gr5;have HBk5:=aa hb5;refine hKK _ _ (fun _=>trivial) (HT.o _ HB5.o) ?_;clear hKK KK o5 gr5 hb5;refine cK ?_ rfl (by kernel_rfl) (fun w' hS=>?_) ?_;(rotate_left;(go_simp;with_reducible rfl);rotate_left)
       refine cb (sO ?_);have HFin:=aa (show v5.ownsRow w3.heap.size 3 1 (.slice vo5 (m+1) vc5) (m+1) (bk (M.take k++[z]++M.drop k)) by have h1:=aW HW5.o HB0s.o;rw[show k+1+(m-k)=m+1 by omega,sU]at h1;exact h1);have HFb:=aa (HBr.o.trans (HBv.o.trans (HB5.o.mono HBv.o.size) |>.mono HBr.o.size));have em:k+1+(m-k)=m+1:=by omega
       rw[em];clear em;go_wp2;go_roundw
       case rel=>exact⟨i+1,m+1,vo5,vc5,M.take k++[z]++M.drop k,rfl,by go_num,by omega,by omega,aa (by rw[jl M z (by rw[<-HM.o];exact hk),<-HM.o]),HFin,HPut,HFb⟩
       case measure=>simp[tf];omega
  ·have i1:¬(i:Int)<(n:Int):=by omega
   have HQ:ae (FlQ p w (.returned (.slice vo m vc)) wr):=aa ⟨vo,vc,M,by rw[HM.o],zkC HOw.o HM.o HB3.o.size,HF.o.mono fun x hx=>HIn.o x (by rw[tF (by have:=HNn.o;omega)];exact hx),by have:=HM.o;omega,HB3.o.trans (HBr0.o.mono HB3.o.size)⟩;go_wp2;go_ret;exact HQ.o
end Pt
end
section
open Go.RowKit
namespace Pt
def RvQ(q:aA)(w:sE)(e:Ending)(w':sE):Prop:=∃u0 u1 u2,e=.returned (.agg #[u0,u1,u2])/\dX w' (fun b=>b<w.heap.size) q u0 u1 u2/\sG w.heap.size w w'
structure Rv1(B:Nat)(U:sE)(op:Int)(cls:List Int)(ln:Nat)(W:sE)(p g gc:Nat):Prop where
 at_:W.heap[p]?=some (.cells #[.int .i64 op,.slice (some ⟨g,0,none⟩) ln gc,.slice none 0 0] 105 (0,0))
 below:sG B U W
 lo:B<=p
 glo:B<=g
 gp:g≠p
 rd:eS W (some ⟨g,0,none⟩) cls
 gl:g<W.heap.size
theorem zgn{B B':Nat}{U W:sE}{op:Int}{cls:List Int}{ln p g gc:Nat}{x0 x1 x2:sP}(hp:W.heap[p]?=some (.cells #[x0,x1,x2] 105 (0,0)))(hb:sG B U W)(lo:B<=p)(ho:W.ownsRow B' 3 1 (.slice (some ⟨g,0,none⟩) ln gc) ln (bk cls))(hg:g≠p)(hB:B<=B'):
  Rv1 B U op cls ln (st3 W p (.int .i64 op) (.slice (some ⟨g,0,none⟩) ln gc) (.slice none 0 0)) p g gc:=by
 obtain⟨h1,⟨cur,h2⟩,_,h3⟩:=di ho;have hy:=oq W p (.int .i64 op) (.slice (some ⟨g,0,none⟩) ln gc) (.slice none 0 0);refine⟨zbl hp,hb.trans (hy.below lo),lo,by omega,hg,fun k z hz=>⟨_,rfl,by rw[hy.size];exact ag h2,?_⟩,by rw[hy.size];exact ag h2⟩;rw[tu,sN,sK (w:=W) (a:=⟨g,k,none⟩) (hy.block g hg)];exact h3 k _ (by unfold bk;rw[ta,hz];rfl)
structure RvI(N P B:Nat)(w:sE)(box:Array sP)(op:Int)(cls:List Int)(ln g gc:Nat)(q:Nat->aA)(i:Nat)(vo:Option Addr)(vc:Nat)(xs:List sP)(wr:sE):Prop where
 at_:wr.heap[P]?=some (.cells #[.int .i64 op,.slice (some ⟨g,0,none⟩) ln gc,.slice vo i vc] 105 (0,0))
 own:wr.ownsRow B 105 3 (.slice vo i vc) i xs
 kid:∀j,j<i->∃u0 u1 u2,xs[j*3]?=some u0/\xs[j*3+1]?=some u1/\xs[j*3+2]?=some u2/\dX wr (fun b=>b<N+2\/b=P\/(sH vo i vc).ownBlock=some b) (q j) u0 u1 u2
 cls:ik wr (fun b=>b<N+2\/b=P\/(sH vo i vc).ownBlock=some b) (some ⟨g,0,none⟩) cls
 pbox:wr.heap[N]?=some (.cells box 105 (0,0))
 res:wr.heap[N+1]?=some (.cells #[.int .i64 0,.slice none 0 0,.slice none 0 0] 105 (0,0))
 below:sG N w wr
 lp:N+2<=P
 lb:P<B
 bs:B<=wr.heap.size
 low:∀b,(sH vo i vc).ownBlock=some b->B<=b
theorem RvI.cells{N P B:Nat}{w:sE}{box:Array sP}{op:Int}{cls:List Int}{ln g gc:Nat}{q:Nat->aA}{i:Nat}{vo:Option Addr}{vc:Nat}{xs:List sP}{wr:sE}(h:RvI N P B w box op cls ln g gc q i vo vc xs wr)(W:sE)(hP:W.heap[P]?=wr.heap[P]?)(hN:W.heap[N]?=wr.heap[N]?):
  W.cell? ⟨P,2,none⟩=some (.slice vo i vc)/\(∀k,W.cell? ⟨N,k,none⟩=box[k]?):=by
 refine⟨by rw[sD W P 2 _ _ _ (hP.trans h.at_)];rfl,fun k=>by rw[sD W N k _ _ _ (hN.trans h.pbox)]⟩
theorem RvI.more{N P B:Nat}{w:sE}{box:Array sP}{op:Int}{cls:List Int}{ln g gc:Nat}{q:Nat->aA}{i:Nat}{vo:Option Addr}{vc:Nat}{xs ys:List sP}{wr w4 w5 w6 w7:sE}{u0 u1 u2:sP}{g8 c8:Nat}
  (h:RvI N P B w box op cls ln g gc q i vo vc xs wr) (hq:dX w4 (fun b=>b<wr.heap.size) (q i) u0 u1 u2) (b4:sG wr.heap.size wr w4) (hy:ys=[u0,u1,u2]) (b5:sG w4.heap.size w4 w5)
  (o6:w6.ownsRow B 105 3 (.slice (some ⟨g8,0,none⟩) (i+1) c8) (i+1) (xs++ys)) (gr:uf w5 w6 (sH vo i vc).ownBlock) (hg8:(sH vo i vc).ownBlock=some g8\/g8=w5.heap.size) (h7:w7=w6.setCell ⟨P,2,none⟩ (.slice (some ⟨g8,0,none⟩) (i+1) c8)):
  RvI N P B w box op cls ln g gc q (i+1) (some ⟨g8,0,none⟩) c8 (xs++ys) w7:=by
 have hPl:=ag h.at_;have s4:=b4.size;have s5:=b5.size;have s6:=gr.size;have lp:=h.lp;have lb:=h.lb;have hn5:∀b,b<wr.heap.size->w5.heap[b]?=wr.heap[b]? :=fun b hb=>(b5.block b (by omega)).trans (b4.block b hb);have hoB:∀b,(sH vo i vc).ownBlock=some b->B<=b/\b<wr.heap.size:=fun b hb=>by
  refine⟨h.low b hb,?_⟩;rcases h.own.2 with ⟨k1,_⟩|⟨q',cap,cur,k1,_,k3,_⟩
  ·rw[k1]at hb;cases hb
  ·rw[k1]at hb;cases hb;exact ag k3
 have hk:∀b,b<w5.heap.size->(sH vo i vc).ownBlock≠some b->b≠P->w7.heap[b]?=w5.heap[b]? :=fun b hb h1 h2=>by rw[h7,tQ _ ⟨P,2,none⟩ b _ h2];exact gr.block b hb (fun e=>h1 e.symm)
 have hg8B:B<=g8:=(di o6).1;have e6:w6.heap[P]?=wr.heap[P]? :=(gr.block P (by omega) (fun e=>by have:=(hoB P e.symm).1;omega)).trans (hn5 P hPl);have sz7:w7.heap.size=w6.heap.size:=by rw[h7];simp
 have K1:KpX wr w7 (fun b=>b<N+2\/b=P\/(sH vo i vc).ownBlock=some b) (fun b=>b<N+2\/b=P\/(sH (some ⟨g8,0,none⟩) (i+1) c8).ownBlock=some b):=by
  refine⟨by omega,fun b hb hx=>?_,fun b hb hx=>?_⟩
  ·exact(hk b (by omega) (fun e=>hx (.inr (.inr e))) (fun e=>hx (.inr (.inl e)))).trans (hn5 b hb)
  ·rcases hx with hx|hx|hx
   ·exact .inl hx
   ·exact .inr (.inl hx)
   ·have e:g8=b:=by simpa[sT]using hx
    subst e;rcases hg8 with h8|h8
    ·exact .inr (.inr h8)
    ·omega
 have K2:KpX w4 w7 (fun b=>b<wr.heap.size) (fun b=>b<N+2\/b=P\/(sH (some ⟨g8,0,none⟩) (i+1) c8).ownBlock=some b):=by
  refine⟨by omega,fun b hb hx=>?_,fun b hb hx=>?_⟩
  ·exact(hk b (by omega) (fun e=>hx (hoB b e).2) (fun e=>hx (by rw[e];exact hPl))).trans (b5.block b hb)
  ·rcases hx with hx|hx|hx
   ·show b<wr.heap.size;have:=ag h.res;omega
   ·rw[hx];exact hPl
   ·have e:g8=b:=by simpa[sT]using hx
    subst e;rcases hg8 with h8|h8
    ·exact(hoB _ h8).2
    ·omega
 have hown7:w7.ownsRow B 105 3 (.slice (some ⟨g8,0,none⟩) (i+1) c8) (i+1) (xs++ys):=⟨o6.1,o6.2.imp (fun e=>e) fun⟨q',cap,cur,k1,k2,k3,k4⟩=>⟨q',cap,cur,k1,k2,by rw[h7,tQ _ ⟨P,2,none⟩ q' _ (by show q'≠P;omega)];exact k3,k4⟩⟩;have hNl:=ag h.pbox;have hN1:=ag h.res;have hxl:=h.own.1;refine⟨?_,hown7,fun j hj=>?_,h.cls.keep K1,?_,?_,h.below.trans ?_,lp,lb,by have:=h.bs;omega,fun b hb=>?_⟩
 ·rw[h7];exact(tn w6 P 2 _ _ _ (e6.trans h.at_)).trans rfl
 ·by_cases e:j<i
  ·obtain⟨v0,v1,v2,a0,a1,a2,a3⟩:=h.kid j e;refine⟨v0,v1,v2,?_,?_,?_,dX.keep K1 _ _ _ _ a3⟩
   ·rw[sS (by omega)];exact a0
   ·rw[sS (by omega)];exact a1
   ·rw[sS (by omega)];exact a2
  ·obtain rfl:j=i:=by omega
   subst hy;refine⟨u0,u1,u2,?_,?_,?_,dX.keep K2 _ _ _ _ hq⟩
   ·rw[sL (by omega),hxl,tG];rfl
   ·rw[sL (by omega),hxl,show j*3+1-j*3=1 by omega];rfl
   ·rw[sL (by omega),hxl,show j*3+2-j*3=2 by omega];rfl
 ·exact(hk N (by omega) (fun e=>by have:=(hoB N e).1;omega) (by omega)).trans ((hn5 N hNl).trans h.pbox)
 ·exact(hk (N+1) (by omega) (fun e=>by have:=(hoB _ e).1;omega) (by omega)).trans ((hn5 _ hN1).trans h.res)
 ·have f1:sG N wr w5:=(b4.mono (by omega)).trans (b5.mono (by omega));refine f1.trans ⟨by rw[h7];exact gr.os,by rw[h7];exact gr.tape,by rw[h7];exact gr.output,by omega,fun b hb=>hk b (by omega) (fun e=>by have:=(hoB b e).1;omega) (by omega)⟩
 ·have e:g8=b:=by simpa[sT]using hb
  omega
theorem RvI.done{N P B:Nat}{w:sE}{box:Array sP}{op:Int}{cls:List Int}{ln g gc:Nat}{q:Nat->aA}{i:Nat}{vo:Option Addr}{vc:Nat}{xs:List sP}{wr w':sE}(h:RvI N P B w box op cls ln g gc q i vo vc xs wr)(hs:w'.heap.size=wr.heap.size)(hb:∀b,b≠N+1->w'.heap[b]?=wr.heap[b]?)(hln:ln=cls.length)(hl9:ln<=1000000)(hi9:i<=1000000):
  dX w' (fun b=>b<N) (.mk op cls ((tR i).map q)) (.int .i64 op) (.slice (some ⟨g,0,none⟩) ln gc) (.slice vo i vc):=by
 have hK:KpX wr w' (fun b=>b<N+2\/b=P\/(sH vo i vc).ownBlock=some b) (fun b=>b<N):=⟨by omega,fun b _ hx=>hb b (fun e=>hx (.inl (by omega))),fun b _ hx=>.inl (by have h:b<N:=hx;omega)⟩;unfold dX;refine⟨rfl,⟨_,gc,by rw[hln],h.cls.keep hK,by omega⟩,vo,vc,by simp,?_,by simpa using hi9,by
  rw[tk,tV];rcases h.own.2 with ⟨k1,k2⟩|⟨g',cap,cur,k1,_,_,k4,_⟩
  ·omega
  ·cases k1;exact k4⟩
 rcases h.own.2 with ⟨k1,k2⟩|⟨g',cap,cur,k1,k2,k3,k4⟩
 ·subst k2;unfold fH;trivial
 ·cases k1;obtain⟨c1,_,_,c4⟩:=di h.own;have lp:=h.lp;have lb:=h.lb;refine fH.of g' (by rw[hs];exact ag k3) (by omega) _ 0 fun j p hj=>?_;have hjl:=(sQ.1 hj).1;rw[tk,tV]at hjl;rw[ta,List.getElem?_range hjl]at hj;cases hj;obtain⟨u0,u1,u2,a0,a1,a2,a3⟩:=h.kid j hjl;have hc:∀k v,xs[k]?=some v->w'.cell? ⟨g',k,none⟩=some v:=fun k v hv=>(sK (a:=⟨g',k,none⟩) (hb g' (by omega))).trans (c4 k v hv);rw[sN];exact⟨u0,u1,u2,hc _ _ a0,hc _ _ a1,hc _ _ a2,dX.keep hK _ _ _ _ a3⟩
theorem dX.shape{w:sE}{X:Nat->Prop}:∀{p:aA} {v0 v1 v2:sP},dX w X p v0 v1 v2->∃(o:Int)(co:Option Addr)(cn cc:Nat)(ko:Option Addr)(kn kc:Nat),v0=.int .i64 o/\v1=.slice co cn cc/\v2=.slice ko kn kc
 |.mk op cls kids,v0,v1,v2,h=>by unfold dX at h;obtain⟨h1,⟨co,cc,h2,h3,h4⟩,ko,kc,h5,h6,h7⟩:=h;exact⟨op,co,_,cc,ko,_,kc,h1,h2,h5⟩
theorem ziE(w:sE)(v:Array sP)(T:ug):∀j u,v.toList[j]?=some u->(w.alloc (.cells v T)).cell? ((⟨w.heap.size,0,none⟩:Addr).add j)=some u:=tN (cs:=v) (heap_alloc_new w _)
theorem pF{B:Nat}{U W V:sE}{H hh:Nat}(hb:sG B U W)(gr:W.grownBy V (some H))(hs:B<=W.heap.size)(hH:hh<=H)(hB:B<=hh):sG B U V:=hb.trans ⟨gr.os,gr.tape,gr.output,gr.size,fun k hk=>gr.block k (by omega) (fun e=>by have e':=sZ e;omega)⟩
set_option maxRecDepth 100000 in
theorem zak(z:Bool)(f:Nat->Nat)(lo ko:Option Addr)(ln lc kn kc:Nat)(op:Int)(e2:(op==2)=z)(cls:List Int)(q:Nat->aA)(w:sE)(hz:z=true->f=fun i=>kn-1-i)(hy:z=false->f=fun i=>i)(hln:ln=cls.length)(hl9:ln<=1000000)(hk9:kn<=1000000)(hI:eS w lo cls)(HK:ae (KdQ w ko kn 146 fun j=>RvQ (q j))):
  tr Tryz.prog 146 #[.agg #[.int .i64 op,.slice lo ln lc,.slice ko kn kc]] w (RvQ (.mk op cls ((tR kn).map fun i=>q (f i))) w):=by
 have HLN:=aa hln;clear hln;have HZY:=aa (And.intro hz hy);clear hz hy;have HB00:=aa (fun(o:Obj)=>af (w:=w) (o:=o));go_enter Tryz.func146,Tryz.ntmps146;go_wp2_with fail;obtain⟨u,hu⟩:=aj ((w.alloc (.cells #[.int .i64 op,.slice lo ln lc,.slice ko kn kc] 105)).alloc (.cells #[.int .i64 0,.slice none 0 0,.slice none 0 0] 105));rw[<-hu];have HUb:ae (sG w.heap.size w u):=aa (by rw[hu];exact((sM _ _).alloc (sV _) _).alloc (by simp) _);have hus:u.heap.size=w.heap.size+2:=by rw[hu];simp
 have hN:u.heap[w.heap.size]?=some (.cells #[.int .i64 op,.slice lo ln lc,.slice ko kn kc] 105):=by rw[hu];exact(sY _ _ _ (by simp)).trans (heap_alloc_new w _)
 have hN1:u.heap[w.heap.size+1]?=some (.cells #[.int .i64 0,.slice none 0 0,.slice none 0 0] 105):=by have:=heap_alloc_new (w.alloc (.cells #[.int .i64 op,.slice lo ln lc,.slice ko kn kc] 105)) (.cells #[.int .i64 0,.slice none 0 0,.slice none 0 0] 105);rw[t6]at this;rw[hu];exact this
 have HN:=aa hN;have HN1:=aa hN1;have HUS:=aa hus;have HT:ae (∀W,sG (w.heap.size+2) u W->eS W lo cls):=aa (fun W h=>(hI.below HUb.o).below (by rw[hus];exact h));have HC:ae (∀W,sG (w.heap.size+2) u W->W.cell? ⟨w.heap.size,0,none⟩=some (.int .i64 op)/\W.cell? ⟨w.heap.size,1,none⟩=some (.slice lo ln lc)):=aa (fun W h=>⟨by rw[sD W w.heap.size 0 _ _ _ ((h.block _ (by omega)).trans HN.o)];rfl,by rw[sD W w.heap.size 1 _ _ _ ((h.block _ (by omega)).trans HN.o)];rfl⟩);clear hu hus hN hN1 hI;refine zsV (fun a' W=>∃(H p g gc:Nat),Rv1 (w.heap.size+2) u op cls ln W p g gc/\a'={tmps:=#[.agg #[.int .i64 op,.slice lo ln lc,.slice ko kn kc],.pointer (some ⟨w.heap.size,0,none⟩),.pointer (some ⟨w.heap.size+1,0,none⟩),.pointer (some ⟨p,0,none⟩),undef,undef,undef,.pointer (some ⟨w.heap.size,0,none⟩),.int .i64 op,.slice (some ⟨H,0,none⟩) 0 0,.pointer (some ⟨w.heap.size,1,none⟩),.slice lo ln lc,.slice (some ⟨g,0,none⟩) ln gc,.agg #[.int .i64 op,.slice (some ⟨g,0,none⟩) ln gc,.slice none 0 0],undef,undef,undef,undef,undef,undef,undef,undef,undef,undef,undef,undef,undef,undef,undef,undef,undef,undef,undef,undef,undef,undef,undef,undef,undef,undef,undef,undef],defers:=[]}) ?m1 ?m2
 case m1=>
  obtain⟨v,hv⟩:=aj u.drew;have HB0:ae (sG (w.heap.size+2) u v):=aa (by rw[hv];exact(sM _ _).drew);have HS0:ae (w.heap.size+2<=v.heap.size):=aa (by rw[hv];exact tW HUS.o.symm);refine dv (.one 0 1 (.one 1 1 (.one 3 1 (.one 4 1 (.two 2 7 (.two 5 7 (.one 6 1 (.one 7 2 (.one 8 2 .nil))) (.one 5 2 (.one 6 1 (.one 8 2 .nil)))) (.one 2 2 (.one 5 2 (.one 6 1 (.one 8 2 .nil))))))))) (fun _=>True) (fun W=>W.cell? ⟨w.heap.size,0,none⟩=some (.int .i64 op)/\W.cell? ⟨w.heap.size,1,none⟩=some (.slice lo ln lc)) (fun _=>false) (by kernel_rfl) (by kernel_rfl) (fun j hj=>by cases hj) rfl (by kernel_rfl) trivial (HC.o _ (sM _ _).drew) ?_;rw[<-hv];clear hv;obtain⟨v0,hv0⟩:=aj v;rw[<-hv0]at HB0 HS0;rw[<-hv0];clear hv0
  iterate 4 (refine cK ?_ rfl (by kernel_rfl) (fun w' hS=>?_) ?_;(rotate_left;(obtain⟨s1,s2⟩:=hS;go_simp;with_reducible rfl);rotate_left))
  refine dT ?x2 ?x7
  case x2=>
   refine bL rfl (by kernel_rfl) fun KK hKK=>?_;go_simp;have HB1:=aa (HB0.o.alloc HS0.o (.cells #[] 3));refine hKK _ _ (fun _=>trivial) (HC.o _ HB1.o) ?_;clear hKK KK;obtain⟨v1,hv1⟩:=aj (v0.alloc (.cells #[] 3));rw[<-hv1]at HB1;rw[<-hv1];have HS1:ae (w.heap.size+2<=v1.heap.size):=aa (by rw[hv1];have:=HS0.o;simp;omega);have HZ1:ae (v1.heap.size=v0.heap.size+1):=aa (by rw[hv1];simp);have HA1:ae (v1.heap[v0.heap.size]?=some (.cells #[] 3)):=aa (by rw[hv1];exact heap_alloc_new _ _);have HK1:ae (∀b,b<v0.heap.size->v1.heap[b]?=v0.heap[b]?):=aa (fun b hb=>by rw[hv1];exact sY _ _ _ hb);have HO1:ae (v1.ownsRow v0.heap.size 3 1 (.slice (some ⟨v0.heap.size,0,none⟩) 0 0) 0 []):=aa (by rw[hv1];exact tz v0 #[] 0 (sV _) (by decide) (by simp));clear hv1;refine dT ?x5 ?x57
   case x5=>
    have HH:ae (v0.heap.size<=v1.heap.size):=aa (by have:=HZ1.o;omega);have HHL:ae (w.heap.size+2<=v0.heap.size):=aa HS0.o;refine bL rfl (by kernel_rfl) fun KK hKK=>?_;refine zaU _ _ rfl v0.heap.size v0.heap.size rfl HO1.o lo ln lc cls rfl (HT.o _ HB1.o) HLN.o (by omega) HH.o ?_;intro g gc v2 o2 gr2 hg2 hlt2;have HB2:=aa (pF HB1.o gr2 HS1.o (sV _) HHL.o);have HS2:ae (w.heap.size+2<=v2.heap.size):=aa (te HS1.o gr2.size);have HR2:=aa o2;have HG2:=aa gr2;have HL2:=aa hlt2;have HGG2:=aa hg2;refine hKK _ _ (fun _=>trivial) (HC.o _ HB2.o) ?_;clear hKK KK o2 gr2 hg2 hlt2;refine cK ?_ rfl (by kernel_rfl) (fun w' hS=>?_) ?_;(rotate_left;(go_simp;with_reducible rfl);rotate_left)
    refine aD rfl (by kernel_rfl) fun KK hKK=>?_;go_simp;have HB3:=aa (HB2.o.alloc HS2.o (.cells #[.int .i64 0,.slice none 0 0,.slice none 0 0] 105));refine hKK _ _ (fun _=>trivial) (HC.o _ HB3.o) ?_;clear hKK KK;obtain⟨v3,hv3⟩:=aj (v2.alloc (.cells #[.int .i64 0,.slice none 0 0,.slice none 0 0] 105));rw[<-hv3]at HB3;rw[<-hv3];have HS3:ae (w.heap.size+2<=v3.heap.size):=aa (by rw[hv3];have:=HS2.o;simp;omega);have HZ3:ae (v3.heap.size=v2.heap.size+1):=aa (by rw[hv3];simp);have HA3:ae (v3.heap[v2.heap.size]?=some (.cells #[.int .i64 0,.slice none 0 0,.slice none 0 0] 105)):=aa (by rw[hv3];exact heap_alloc_new _ _);have HK3:ae (∀b,b<v2.heap.size->v3.heap[b]?=v2.heap[b]?):=aa (fun b hb=>by rw[hv3];exact sY _ _ _ hb);clear hv3;have HP:=aa HA3.o;have HPP:=aa HS2.o;obtain⟨p,hp⟩:=aj v2.heap.size;rw[<-hp]at HP;rw[<-hp];have HPL:ae (w.heap.size+2<=p):=aa (by rw[hp];exact HPP.o);have HGP:ae (g≠p):=aa (by rw[hp];have:=HL2.o;omega);have HOW:ae (v3.ownsRow v0.heap.size 3 1 (.slice (some ⟨g,0,none⟩) ln gc) ln (bk cls)):=aa ⟨HR2.o.1,HR2.o.2.imp (fun e=>e) fun⟨q',cap,cur,k1,k2,k3,k4⟩=>⟨q',cap,cur,k1,k2,(HK3.o q' (ag k3)).trans k3,k4⟩⟩;clear hp;have x0:v3.cell? ⟨p,0,none⟩=some (.int .i64 0):=by rw[sD v3 p 0 _ _ _ HP.o];rfl
    have x1:v3.cell? ⟨p,1,none⟩=some (.slice none 0 0):=by rw[sD v3 p 1 _ _ _ HP.o];rfl
    have x2:v3.cell? ⟨p,2,none⟩=some (.slice none 0 0):=by rw[sD v3 p 2 _ _ _ HP.o];rfl
    have z0:=sJ v3 p 0 _ _ HP.o;have z1:=sJ v3 p 1 _ _ HP.o;have z2:=sJ v3 p 2 _ _ HP.o;refine aD rfl (by kernel_rfl) fun KK hKK=>?_;go_simp;have HQ:=aa (zgn (op:=op) HP.o HB3.o HPL.o HOW.o HGP.o HHL.o);refine hKK _ _ (fun _=>trivial) (HC.o _ HQ.o.below) ?_;clear hKK KK;refine cb (sO ?_);exact⟨rfl,_,_,_,_,HQ.o,rfl⟩
   case x57=>
    refine bL rfl (by kernel_rfl) fun KK hKK=>?_;go_simp;have HB2:=aa (HB1.o.alloc HS1.o (.cells #[.int .i64 0,.slice none 0 0,.slice none 0 0] 105));refine hKK _ _ (fun _=>trivial) (HC.o _ HB2.o) ?_;clear hKK KK;obtain⟨v2,hv2⟩:=aj (v1.alloc (.cells #[.int .i64 0,.slice none 0 0,.slice none 0 0] 105));rw[<-hv2]at HB2;rw[<-hv2];have HS2:ae (w.heap.size+2<=v2.heap.size):=aa (by rw[hv2];have:=HS1.o;simp;omega);have HZ2:ae (v2.heap.size=v1.heap.size+1):=aa (by rw[hv2];simp);have HA2:ae (v2.heap[v1.heap.size]?=some (.cells #[.int .i64 0,.slice none 0 0,.slice none 0 0] 105)):=aa (by rw[hv2];exact heap_alloc_new _ _);have HK2:ae (∀b,b<v1.heap.size->v2.heap[b]?=v1.heap[b]?):=aa (fun b hb=>by rw[hv2];exact sY _ _ _ hb);clear hv2;have HO2:ae (v2.ownsRow v0.heap.size 3 1 (.slice (some ⟨v0.heap.size,0,none⟩) 0 0) 0 []):=aa ⟨HO1.o.1,HO1.o.2.imp (fun e=>e) fun⟨q',cap,cur,k1,k2,k3,k4⟩=>⟨q',cap,cur,k1,k2,(HK2.o q' (ag k3)).trans k3,k4⟩⟩;have HH:ae (v0.heap.size<=v2.heap.size):=aa (by have:=HZ1.o;have:=HZ2.o;omega);have HHL:ae (w.heap.size+2<=v0.heap.size):=aa HS0.o;refine aD rfl (by kernel_rfl) fun KK hKK=>?_;refine zaU _ _ rfl v0.heap.size v0.heap.size rfl HO2.o lo ln lc cls rfl (HT.o _ HB2.o) HLN.o (by omega) HH.o ?_;intro g gc v3 o3 gr3 hg3 hlt3;have HB3:=aa (pF HB2.o gr3 HS2.o (sV _) HHL.o);have HS3:ae (w.heap.size+2<=v3.heap.size):=aa (te HS2.o gr3.size);have HR3:=aa o3;have HG3:=aa gr3;have HL3:=aa hlt3;have HGG3:=aa hg3;refine hKK _ _ (fun _=>trivial) (HC.o _ HB3.o) ?_;clear hKK KK o3 gr3 hg3 hlt3;refine cK ?_ rfl (by kernel_rfl) (fun w' hS=>?_) ?_;(rotate_left;(go_simp;with_reducible rfl);rotate_left)
    have HP:ae (v3.heap[v1.heap.size]?=_):=aa ((HG3.o.block v1.heap.size (by have:=HZ2.o;omega) (fun e=>by have e':=sZ e;have:=HZ1.o;omega)).trans HA2.o);have HPP:=aa HS1.o;obtain⟨p,hp⟩:=aj v1.heap.size;rw[<-hp]at HP;rw[<-hp];have HPL:ae (w.heap.size+2<=p):=aa (by rw[hp];exact HPP.o);have HGP:ae (g≠p):=aa (by rw[hp];have h1:=HGG3.o;have h2:=HZ1.o;have h3:=HZ2.o;omega);have HOW:ae (v3.ownsRow v0.heap.size 3 1 (.slice (some ⟨g,0,none⟩) ln gc) ln (bk cls)):=aa HR3.o;clear hp;have x0:v3.cell? ⟨p,0,none⟩=some (.int .i64 0):=by rw[sD v3 p 0 _ _ _ HP.o];rfl
    have x1:v3.cell? ⟨p,1,none⟩=some (.slice none 0 0):=by rw[sD v3 p 1 _ _ _ HP.o];rfl
    have x2:v3.cell? ⟨p,2,none⟩=some (.slice none 0 0):=by rw[sD v3 p 2 _ _ _ HP.o];rfl
    have z0:=sJ v3 p 0 _ _ HP.o;have z1:=sJ v3 p 1 _ _ HP.o;have z2:=sJ v3 p 2 _ _ HP.o;refine aD rfl (by kernel_rfl) fun KK hKK=>?_;go_simp;have HQ:=aa (zgn (op:=op) HP.o HB3.o HPL.o HOW.o HGP.o HHL.o);refine hKK _ _ (fun _=>trivial) (HC.o _ HQ.o.below) ?_;clear hKK KK;refine cb (sO ?_);exact⟨rfl,_,_,_,_,HQ.o,rfl⟩
  case x7=>
   refine bL rfl (by kernel_rfl) fun KK hKK=>?_;go_simp;have HB1:=aa (HB0.o.alloc HS0.o (.cells #[.int .i64 0,.slice none 0 0,.slice none 0 0] 105));refine hKK _ _ (fun _=>trivial) (HC.o _ HB1.o) ?_;clear hKK KK;obtain⟨v1,hv1⟩:=aj (v0.alloc (.cells #[.int .i64 0,.slice none 0 0,.slice none 0 0] 105));rw[<-hv1]at HB1;rw[<-hv1];have HS1:ae (w.heap.size+2<=v1.heap.size):=aa (by rw[hv1];have:=HS0.o;simp;omega);have HZ1:ae (v1.heap.size=v0.heap.size+1):=aa (by rw[hv1];simp);have HA1:ae (v1.heap[v0.heap.size]?=some (.cells #[.int .i64 0,.slice none 0 0,.slice none 0 0] 105)):=aa (by rw[hv1];exact heap_alloc_new _ _);have HK1:ae (∀b,b<v0.heap.size->v1.heap[b]?=v0.heap[b]?):=aa (fun b hb=>by rw[hv1];exact sY _ _ _ hb);clear hv1;refine aD rfl (by kernel_rfl) fun KK hKK=>?_;go_simp;have HB2:=aa (HB1.o.alloc HS1.o (.cells #[] 3));refine hKK _ _ (fun _=>trivial) (HC.o _ HB2.o) ?_;clear hKK KK;obtain⟨v2,hv2⟩:=aj (v1.alloc (.cells #[] 3));rw[<-hv2]at HB2;rw[<-hv2];have HS2:ae (w.heap.size+2<=v2.heap.size):=aa (by rw[hv2];have:=HS1.o;simp;omega);have HZ2:ae (v2.heap.size=v1.heap.size+1):=aa (by rw[hv2];simp);have HA2:ae (v2.heap[v1.heap.size]?=some (.cells #[] 3)):=aa (by rw[hv2];exact heap_alloc_new _ _);have HK2:ae (∀b,b<v1.heap.size->v2.heap[b]?=v1.heap[b]?):=aa (fun b hb=>by rw[hv2];exact sY _ _ _ hb);have HO2:ae (v2.ownsRow v1.heap.size 3 1 (.slice (some ⟨v1.heap.size,0,none⟩) 0 0) 0 []):=aa (by rw[hv2];exact tz v1 #[] 0 (sV _) (by decide) (by simp));clear hv2;have HH:ae (v1.heap.size<=v2.heap.size):=aa (by have:=HZ2.o;omega);have HHL:ae (w.heap.size+2<=v1.heap.size):=aa HS1.o;refine aD rfl (by kernel_rfl) fun KK hKK=>?_;refine zaU _ _ rfl v1.heap.size v1.heap.size rfl HO2.o lo ln lc cls rfl (HT.o _ HB2.o) HLN.o (by omega) HH.o ?_;intro g gc v3 o3 gr3 hg3 hlt3;have HB3:=aa (pF HB2.o gr3 HS2.o (sV _) HHL.o);have HS3:ae (w.heap.size+2<=v3.heap.size):=aa (te HS2.o gr3.size);have HR3:=aa o3;have HG3:=aa gr3;have HL3:=aa hlt3;have HGG3:=aa hg3;refine hKK _ _ (fun _=>trivial) (HC.o _ HB3.o) ?_;clear hKK KK o3 gr3 hg3 hlt3;refine cK ?_ rfl (by kernel_rfl) (fun w' hS=>?_) ?_;(rotate_left;(go_simp;with_reducible rfl);rotate_left)
   have HP:ae (v3.heap[v0.heap.size]?=_):=aa ((HG3.o.block v0.heap.size (by have:=HZ1.o;have:=HZ2.o;omega) (fun e=>by have e':=sZ e;have:=HZ1.o;omega)).trans ((HK2.o v0.heap.size (by have:=HZ1.o;omega)).trans HA1.o));have HPP:=aa HS0.o;obtain⟨p,hp⟩:=aj v0.heap.size;rw[<-hp]at HP;rw[<-hp];have HPL:ae (w.heap.size+2<=p):=aa (by rw[hp];exact HPP.o);have HGP:ae (g≠p):=aa (by rw[hp];have h1:=HGG3.o;have h2:=HZ1.o;have h3:=HZ2.o;omega);have HOW:ae (v3.ownsRow v1.heap.size 3 1 (.slice (some ⟨g,0,none⟩) ln gc) ln (bk cls)):=aa HR3.o;clear hp;have x0:v3.cell? ⟨p,0,none⟩=some (.int .i64 0):=by rw[sD v3 p 0 _ _ _ HP.o];rfl
   have x1:v3.cell? ⟨p,1,none⟩=some (.slice none 0 0):=by rw[sD v3 p 1 _ _ _ HP.o];rfl
   have x2:v3.cell? ⟨p,2,none⟩=some (.slice none 0 0):=by rw[sD v3 p 2 _ _ _ HP.o];rfl
   have z0:=sJ v3 p 0 _ _ HP.o;have z1:=sJ v3 p 1 _ _ HP.o;have z2:=sJ v3 p 2 _ _ HP.o;refine aD rfl (by kernel_rfl) fun KK hKK=>?_;go_simp;have HQ:=aa (zgn (op:=op) HP.o HB3.o HPL.o HOW.o HGP.o HHL.o);refine hKK _ _ (fun _=>trivial) (HC.o _ HQ.o.below) ?_;clear hKK KK;refine cb (sO ?_);exact⟨rfl,_,_,_,_,HQ.o,rfl⟩
 case m2=>
  rintro a' W1 ⟨H,p,g,gc,O1,rfl⟩;cases z with
  |true=>
   obtain rfl:=HZY.o.1 rfl;obtain⟨B,hB⟩:=aj W1.heap.size;have HBz:=aa hB;have HI0:ae (RvI w.heap.size p B w #[.int .i64 op,.slice lo ln lc,.slice ko kn kc] op cls ln g gc (fun i=>q (kn-1-i)) 0 none 0 [] W1):=aa ⟨O1.at_,td _ _ _ _,fun j hj=>by omega,fun k z hz=>by
    obtain⟨a,h1,h2,h3⟩:=O1.rd k z hz;cases h1;exact⟨_,rfl,h2,(fun h=>by
     have h4:=O1.glo;rcases h with h|h|h
     ·have h':g<w.heap.size+2:=h;omega
     ·exact O1.gp h
     ·cases h),h3⟩,(O1.below.block _ (by omega)).trans HN.o,(O1.below.block _ (by omega)).trans HN1.o,HUb.o.trans (O1.below.mono (by omega)),O1.lo,by rw[hB];exact ag O1.at_,tW hB,fun b hb=>by cases hb⟩
   clear O1 hB HN HN1 HUS HT HC HUb;have x2:W1.cell? ⟨w.heap.size,2,none⟩=some (.slice ko kn kc):=(HI0.o.cells W1 rfl rfl).2 2;go_wp2;clear x2;go_loopw [5] (fun y wr=>∃(i:Nat)(vo:Option Addr)(vc:Nat)(xs:List sP),y=.int .i64 i/\i<=kn/\ae (RvI w.heap.size p B w #[.int .i64 op,.slice lo ln lc,.slice ko kn kc] op cls ln g gc (fun i=>q (kn-1-i)) i vo vc xs wr)) (fun y _=>kn-(tf y).toNat)
   case atStart=>exact⟨0,none,0,[],rfl,tc _,HI0⟩
   case round=>
    clear HI0;obtain⟨i,vo,vc,xs,rfl,hi,HI⟩:=hrel;by_cases hlt:i<kn
    ·have i1:(i:Int)<(kn:Int):=by omega
     obtain⟨k,hk⟩:=aj (kn-1-i);have hkn:k<kn:=by omega
     have k0:(0:Int)<=(k:Int):=by omega
     have k1:(k:Int)<(kn:Int):=by omega
     have HQk:ae (q k=(fun i=>q (kn-1-i)) i):=aa (by rw[hk]);obtain⟨b,o,u0,u1,u2,rfl,hb,q0,q1,q2,hL⟩:=HK.o k hkn;have hbw:=HI.o.below;have HCs:=aa HI.o.cells;have HBw:=aa hbw;have HLb:=aa hb;have y0:wr.cell? ⟨b,o+k*3,none⟩=some u0:=(hbw.cell (p:=⟨b,o+k*3,none⟩) hb).trans q0;have y1:wr.cell? ⟨b,o+k*3+1,none⟩=some u1:=(hbw.cell (p:=⟨b,o+k*3+1,none⟩) hb).trans q1;have y2:wr.cell? ⟨b,o+k*3+2,none⟩=some u2:=(hbw.cell (p:=⟨b,o+k*3+2,none⟩) hb).trans q2;have HL:=aa (hL wr.drew ⟨hbw.os,hbw.tape,hbw.output,hbw.size,hbw.block⟩);have cN:=(HI.o.cells wr rfl rfl).2 0;have HS:=aa (fun(W:sE)(h:sG wr.heap.size wr W)=>show W.cell? ⟨p,2,none⟩=some (.slice vo i vc)/\W.cell? ⟨w.heap.size,2,none⟩=some (.slice (some ⟨b,o,none⟩) kn kc)/\W.cell? ⟨b,o+k*3,none⟩=some u0/\W.cell? ⟨b,o+k*3+1,none⟩=some u1/\W.cell? ⟨b,o+k*3+2,none⟩=some u2 from by have hbr:b<wr.heap.size:=sR HLb.o HBw.o.size;have h1:=HCs.o W (h.block _ (ag HI.o.at_)) (h.block _ (ag HI.o.pbox));exact⟨h1.1,h1.2 2,(h.cell (p:=⟨b,o+k*3,none⟩) hbr).trans y0,(h.cell (p:=⟨b,o+k*3+1,none⟩) hbr).trans y1,(h.cell (p:=⟨b,o+k*3+2,none⟩) hbr).trans y2⟩);clear q0 q1 q2 hL hbw hb y0 y1 y2;have e3:(kn:Int)-1-(i:Int)=(k:Int):=by omega
     have e4:un.wrap ((kn:Int)-1)=(kn:Int)-1:=by unfold ul um ue;simp;omega
     have e5:un.wrap ((kn:Int)-1-(i:Int))=(k:Int):=by rw[e3];unfold ul um ue;simp;omega
     clear hk e3;go_wp2_with fail;clear cN;refine aw [(0,true),(1,true),(2,true),(3,true),(4,true),(5,true),(6,true),(7,false),(8,false),(9,false),(10,false),(11,false)] (fun W=>W.cell? ⟨p,2,none⟩=some (.slice vo i vc)/\W.cell? ⟨w.heap.size,2,none⟩=some (.slice (some ⟨b,o,none⟩) kn kc)/\W.cell? ⟨b,o+k*3,none⟩=some u0/\W.cell? ⟨b,o+k*3+1,none⟩=some u1/\W.cell? ⟨b,o+k*3+2,none⟩=some u2) (fun j=>j==11) (by kernel_rfl) (by kernel_rfl) (fun j hj=>by have:=beq_iff_eq.1 hj;subst this;decide) rfl (by kernel_rfl) (HS.o _ (show sG wr.heap.size wr wr.drew from(sM _ _).drew)) ?_
     iterate 7 (refine aF ?_ rfl (by kernel_rfl) (fun w' hS=>?_) ?_;(rotate_left;(obtain⟨s0,s1,s2,s3,s4⟩:=hS;go_simp;with_reducible rfl);rotate_left))
     refine au rfl (by kernel_rfl) fun KK hKK=>?_;go_simp;refine HL.o.mono ?_;rintro e w4 ⟨t0,t1,t2,rfl,hP4,hB4⟩;have HP4:ae (dX w4 (fun b=>b<wr.heap.size) ((fun i=>q (kn-1-i)) i) t0 t1 t2):=aa (by have hh:=hP4;rw[HQk.o]at hh;exact hh);have HB4:ae (sG wr.heap.size wr w4):=aa ⟨hB4.os,hB4.tape,hB4.output,hB4.size,hB4.block⟩;obtain⟨z0,zo,zn,zc,zk,zm,zp,rfl,rfl,rfl⟩:=hP4.shape;clear hP4 hB4 HL HQk;refine hKK _ _ (fun _=>HS.o _ HB4.o) ?_;clear hKK;refine au rfl (by kernel_rfl) fun KK hKK=>?_;go_simp;obtain⟨w5,hw5⟩:=aj (w4.alloc (.cells #[.int .i64 z0,.slice zo zn zc,.slice zk zm zp] 105));rw[<-hw5];have HB5:ae (sG w4.heap.size w4 w5):=aa (by rw[hw5];exact af);have HN5:ae (∀j u,[t7 .i64 z0,.slice zo zn zc,.slice zk zm zp][j]?=some u->w5.cell? ((⟨w4.heap.size,0,none⟩:Addr).add j)=some u):=aa (by rw[hw5];exact ziE w4 _ _);clear hw5;have HBB:ae (sG wr.heap.size wr w5):=aa (HB4.o.trans (HB5.o.mono HB4.o.size));refine hKK _ _ (fun _=>HS.o _ HBB.o) ?_;clear hKK;obtain⟨iR,hiR,hz0,hz1,hz2⟩:=tC Tryz.infoPat;have HO5:ae (w5.ownsRow B 105 3 (.slice vo i vc) i xs):=aa ⟨HI.o.own.1,HI.o.own.2.imp (fun e=>e) fun⟨q',cap,cur,k1,k2,k3,k4⟩=>⟨q',cap,cur,k1,k2,(HBB.o.block q' (ag k3)).trans k3,k4⟩⟩;have HlB:ae (B<=w5.heap.size):=aa (te HI.o.bs HBB.o.size);refine au rfl (by kernel_rfl) fun KK hKK=>?_;refine tL _ _ _ 103 rfl B 105 iR (.agg #[.int .i64 0,.slice none 0 0,.slice none 0 0]) 3 56 Tryz.underPats hiR hz0 hz1 hz2 rfl (by decide) (.slice vo i vc) i xs rfl HO5.o ⟨w4.heap.size,0,none⟩ 1 1 [t7 .i64 z0,.slice zo zn zc,.slice zk zm zp] rfl rfl HN5.o (fun u hu=>by simp at hu;rcases hu with h|h|h<;>rw[h]<;>rfl) (by decide) (by unfold uh;omega) (by omega) HlB.o w5.heap.size rfl ?_;intro g8 c8 w6 o6 gr6 hl6 hlt6;have HM:=aa (fun(w7:sE)(h7:w7=w6.setCell ⟨p,2,none⟩ (.slice (some ⟨g8,0,none⟩) (i+1) c8))=>HI.o.more HP4.o HB4.o rfl HB5.o o6 gr6 hl6 h7);have e6:w6.heap[p]?=wr.heap[p]? :=(gr6.block p (sR (ag HI.o.at_) HBB.o.size) (fun e=>by have:=HI.o.low p e.symm;have:=HI.o.lb;omega)).trans (HBB.o.block p (ag HI.o.at_));have f6:w6.frozen? ⟨p,2,none⟩=false:=sJ w6 p 2 _ _ (e6.trans HI.o.at_);have c6:w6.cell? ⟨p,2,none⟩=some (.slice vo i vc):=by rw[sD w6 p 2 _ _ _ (e6.trans HI.o.at_)];rfl
     have HS6:ae (w6.cell? ⟨p,2,none⟩=some (.slice vo i vc)/\w6.cell? ⟨w.heap.size,2,none⟩=some (.slice (some ⟨b,o,none⟩) kn kc)/\w6.cell? ⟨b,o+k*3,none⟩=some u0/\w6.cell? ⟨b,o+k*3+1,none⟩=some u1/\w6.cell? ⟨b,o+k*3+2,none⟩=some u2):=aa (by obtain⟨s0,s1,s2,s3,s4⟩:=HS.o w5 HBB.o;have hbl:=HLb.o;have hws:=HBw.o.size;have hs5:=HBB.o.size;have hlow:=HI.o.low;have hlp:=HI.o.lp;have hlb:=HI.o.lb;have hNl:=ag HI.o.pbox;have hcc:∀(d k:Nat)(v:sP),d<w.heap.size+1->w5.cell? ⟨d,k,none⟩=some v->w6.cell? ⟨d,k,none⟩=some v:=fun d k v hd hv=>(sK (a:=⟨d,k,none⟩) (gr6.block d (by omega) (fun e=>by have:=hlow d e.symm;omega))).trans hv;exact⟨c6,hcc _ _ _ (by omega) s1,hcc _ _ _ (by omega) s2,hcc _ _ _ (by omega) s3,hcc _ _ _ (by omega) s4⟩);refine hKK _ _ (fun _=>HS6.o) ?_;clear hKK o6 gr6 hl6 hlt6 e6;refine au rfl (by kernel_rfl) fun KK hKK=>?_;go_simp;refine hKK _ _ (fun _=>HS6.o) ?_;clear hKK;refine au rfl (by kernel_rfl) fun KK hKK=>?_;go_simp;refine hKK _ _ (fun h=>by cases h) ?_;clear hKK;refine ba (sO ?_);have HM2:=aa (HM.o _ rfl);clear HM HS HS6 c6 f6;go_wp2;go_roundw
     case rel=>exact⟨i+1,_,_,_,by go_num,by omega,HM2⟩
     case measure=>simp[tf];omega
    ·have i1:¬(i:Int)<(kn:Int):=by omega
     obtain rfl:i=kn:=by omega
     have c0:wr.cell? ⟨p,0,none⟩=some (.int .i64 op):=by rw[sD wr p 0 _ _ _ HI.o.at_];rfl
     have c1:wr.cell? ⟨p,1,none⟩=some (.slice (some ⟨g,0,none⟩) ln gc):=by rw[sD wr p 1 _ _ _ HI.o.at_];rfl
     have c2:wr.cell? ⟨p,2,none⟩=some (.slice vo i vc):=by rw[sD wr p 2 _ _ _ HI.o.at_];rfl
     have d0:wr.cell? ⟨w.heap.size+1,0,none⟩=some (.int .i64 0):=by rw[sD wr _ 0 _ _ _ HI.o.res];rfl
     have d1:wr.cell? ⟨w.heap.size+1,1,none⟩=some (.slice none 0 0):=by rw[sD wr _ 1 _ _ _ HI.o.res];rfl
     have d2:wr.cell? ⟨w.heap.size+1,2,none⟩=some (.slice none 0 0):=by rw[sD wr _ 2 _ _ _ HI.o.res];rfl
     have f0:=sJ wr _ 0 _ _ HI.o.res;have f1:=sJ wr _ 1 _ _ HI.o.res;have f2:=sJ wr _ 2 _ _ HI.o.res;have HI2:ae (wr.cell? ⟨w.heap.size,2,none⟩=some (.slice ko i kc)):=aa ((HI.o.cells wr rfl rfl).2 2);have x2:=HI2.o;have lb:=HI.o.lp;go_wp2;obtain⟨w5,hw5⟩:=aj (((wr.setCell ⟨w.heap.size+1,0,none⟩ (.int .i64 op)).setCell ⟨w.heap.size+1,1,none⟩ (.slice (some ⟨g,0,none⟩) ln gc)).setCell ⟨w.heap.size+1,2,none⟩ (.slice vo i vc));rw[<-hw5];have k5:du (w.heap.size+1) wr w5:=by rw[hw5];exact oq wr (w.heap.size+1) _ _ _
     have z5:w5.heap[w.heap.size+1]?=some (.cells #[.int .i64 op,.slice (some ⟨g,0,none⟩) ln gc,.slice vo i vc] 105 (0,0)):=by rw[hw5];exact zbl HI.o.res
     have y0:w5.cell? ⟨w.heap.size+1,0,none⟩=some (.int .i64 op):=by rw[sD w5 _ 0 _ _ _ z5];rfl
     have y1:w5.cell? ⟨w.heap.size+1,1,none⟩=some (.slice (some ⟨g,0,none⟩) ln gc):=by rw[sD w5 _ 1 _ _ _ z5];rfl
     have y2:w5.cell? ⟨w.heap.size+1,2,none⟩=some (.slice vo i vc):=by rw[sD w5 _ 2 _ _ _ z5];rfl
     refine tX (v:=.agg #[.int .i64 op,.slice (some ⟨g,0,none⟩) ln gc,.slice vo i vc]) ?_ rfl ?_
     ·simp[results,Tryz.f146,go_sem,y0,y1,y2]
     ·exact⟨_,_,_,rfl,HI.o.done k5.size (fun b hb=>k5.block b hb) HLN.o hl9 hk9,HI.o.below.trans (k5.below (by omega))⟩
  |false=>
   obtain rfl:=HZY.o.2 rfl;obtain⟨B,hB⟩:=aj W1.heap.size;have HBz:=aa hB;have HI0:ae (RvI w.heap.size p B w #[.int .i64 op,.slice lo ln lc,.slice ko kn kc] op cls ln g gc (fun i=>q (i)) 0 none 0 [] W1):=aa ⟨O1.at_,td _ _ _ _,fun j hj=>by omega,fun k z hz=>by
    obtain⟨a,h1,h2,h3⟩:=O1.rd k z hz;cases h1;exact⟨_,rfl,h2,(fun h=>by
     have h4:=O1.glo;rcases h with h|h|h
     ·have h':g<w.heap.size+2:=h;omega
     ·exact O1.gp h
     ·cases h),h3⟩,(O1.below.block _ (by omega)).trans HN.o,(O1.below.block _ (by omega)).trans HN1.o,HUb.o.trans (O1.below.mono (by omega)),O1.lo,by rw[hB];exact ag O1.at_,tW hB,fun b hb=>by cases hb⟩
   clear O1 hB HN HN1 HUS HT HC HUb;have x2:W1.cell? ⟨w.heap.size,2,none⟩=some (.slice ko kn kc):=(HI0.o.cells W1 rfl rfl).2 2;go_wp2;clear x2;go_loopw [5] (fun y wr=>∃(i:Nat)(vo:Option Addr)(vc:Nat)(xs:List sP),y=.int .i64 i/\i<=kn/\ae (RvI w.heap.size p B w #[.int .i64 op,.slice lo ln lc,.slice ko kn kc] op cls ln g gc (fun i=>q (i)) i vo vc xs wr)) (fun y _=>kn-(tf y).toNat)
   case atStart=>exact⟨0,none,0,[],rfl,tc _,HI0⟩
   case round=>
    clear HI0;obtain⟨i,vo,vc,xs,rfl,hi,HI⟩:=hrel;by_cases hlt:i<kn
    ·have i1:(i:Int)<(kn:Int):=by omega
     obtain⟨k,hk⟩:=aj i;have hkn:k<kn:=by omega
     have k0:(0:Int)<=(k:Int):=by omega
     have k1:(k:Int)<(kn:Int):=by omega
     have HQk:ae (q k=(fun i=>q (i)) i):=aa (by rw[hk]);obtain⟨b,o,u0,u1,u2,rfl,hb,q0,q1,q2,hL⟩:=HK.o k hkn;have hbw:=HI.o.below;have HCs:=aa HI.o.cells;have HBw:=aa hbw;have HLb:=aa hb;have y0:wr.cell? ⟨b,o+k*3,none⟩=some u0:=(hbw.cell (p:=⟨b,o+k*3,none⟩) hb).trans q0;have y1:wr.cell? ⟨b,o+k*3+1,none⟩=some u1:=(hbw.cell (p:=⟨b,o+k*3+1,none⟩) hb).trans q1;have y2:wr.cell? ⟨b,o+k*3+2,none⟩=some u2:=(hbw.cell (p:=⟨b,o+k*3+2,none⟩) hb).trans q2;have HL:=aa (hL wr.drew ⟨hbw.os,hbw.tape,hbw.output,hbw.size,hbw.block⟩);have cN:=(HI.o.cells wr rfl rfl).2 0;have HS:=aa (fun(W:sE)(h:sG wr.heap.size wr W)=>show W.cell? ⟨p,2,none⟩=some (.slice vo i vc)/\W.cell? ⟨w.heap.size,2,none⟩=some (.slice (some ⟨b,o,none⟩) kn kc)/\W.cell? ⟨b,o+k*3,none⟩=some u0/\W.cell? ⟨b,o+k*3+1,none⟩=some u1/\W.cell? ⟨b,o+k*3+2,none⟩=some u2 from by have hbr:b<wr.heap.size:=sR HLb.o HBw.o.size;have h1:=HCs.o W (h.block _ (ag HI.o.at_)) (h.block _ (ag HI.o.pbox));exact⟨h1.1,h1.2 2,(h.cell (p:=⟨b,o+k*3,none⟩) hbr).trans y0,(h.cell (p:=⟨b,o+k*3+1,none⟩) hbr).trans y1,(h.cell (p:=⟨b,o+k*3+2,none⟩) hbr).trans y2⟩);clear q0 q1 q2 hL hbw hb y0 y1 y2;have hk':=hk.symm;subst hk';clear hk;go_wp2_with fail;clear cN;refine aw [(0,true),(1,true),(2,true),(3,true),(4,true),(5,true),(6,true),(7,false),(8,false),(9,false),(10,false),(11,false)] (fun W=>W.cell? ⟨p,2,none⟩=some (.slice vo i vc)/\W.cell? ⟨w.heap.size,2,none⟩=some (.slice (some ⟨b,o,none⟩) kn kc)/\W.cell? ⟨b,o+i*3,none⟩=some u0/\W.cell? ⟨b,o+i*3+1,none⟩=some u1/\W.cell? ⟨b,o+i*3+2,none⟩=some u2) (fun j=>j==11) (by kernel_rfl) (by kernel_rfl) (fun j hj=>by have:=beq_iff_eq.1 hj;subst this;decide) rfl (by kernel_rfl) (HS.o _ (show sG wr.heap.size wr wr.drew from(sM _ _).drew)) ?_
     iterate 7 (refine aF ?_ rfl (by kernel_rfl) (fun w' hS=>?_) ?_;(rotate_left;(obtain⟨s0,s1,s2,s3,s4⟩:=hS;go_simp;with_reducible rfl);rotate_left))
     refine au rfl (by kernel_rfl) fun KK hKK=>?_;go_simp;refine HL.o.mono ?_;rintro e w4 ⟨t0,t1,t2,rfl,hP4,hB4⟩;have HP4:ae (dX w4 (fun b=>b<wr.heap.size) ((fun i=>q (i)) i) t0 t1 t2):=aa hP4;have HB4:ae (sG wr.heap.size wr w4):=aa ⟨hB4.os,hB4.tape,hB4.output,hB4.size,hB4.block⟩;obtain⟨z0,zo,zn,zc,zk,zm,zp,rfl,rfl,rfl⟩:=hP4.shape;clear hP4 hB4 HL HQk;refine hKK _ _ (fun _=>HS.o _ HB4.o) ?_;clear hKK;refine au rfl (by kernel_rfl) fun KK hKK=>?_;go_simp;obtain⟨w5,hw5⟩:=aj (w4.alloc (.cells #[.int .i64 z0,.slice zo zn zc,.slice zk zm zp] 105));rw[<-hw5];have HB5:ae (sG w4.heap.size w4 w5):=aa (by rw[hw5];exact af);have HN5:ae (∀j u,[t7 .i64 z0,.slice zo zn zc,.slice zk zm zp][j]?=some u->w5.cell? ((⟨w4.heap.size,0,none⟩:Addr).add j)=some u):=aa (by rw[hw5];exact ziE w4 _ _);clear hw5;have HBB:ae (sG wr.heap.size wr w5):=aa (HB4.o.trans (HB5.o.mono HB4.o.size));refine hKK _ _ (fun _=>HS.o _ HBB.o) ?_;clear hKK;obtain⟨iR,hiR,hz0,hz1,hz2⟩:=tC Tryz.infoPat;have HO5:ae (w5.ownsRow B 105 3 (.slice vo i vc) i xs):=aa ⟨HI.o.own.1,HI.o.own.2.imp (fun e=>e) fun⟨q',cap,cur,k1,k2,k3,k4⟩=>⟨q',cap,cur,k1,k2,(HBB.o.block q' (ag k3)).trans k3,k4⟩⟩;have HlB:ae (B<=w5.heap.size):=aa (te HI.o.bs HBB.o.size);refine au rfl (by kernel_rfl) fun KK hKK=>?_;refine tL _ _ _ 103 rfl B 105 iR (.agg #[.int .i64 0,.slice none 0 0,.slice none 0 0]) 3 56 Tryz.underPats hiR hz0 hz1 hz2 rfl (by decide) (.slice vo i vc) i xs rfl HO5.o ⟨w4.heap.size,0,none⟩ 1 1 [t7 .i64 z0,.slice zo zn zc,.slice zk zm zp] rfl rfl HN5.o (fun u hu=>by simp at hu;rcases hu with h|h|h<;>rw[h]<;>rfl) (by decide) (by unfold uh;omega) (by omega) HlB.o w5.heap.size rfl ?_;intro g8 c8 w6 o6 gr6 hl6 hlt6;have HM:=aa (fun(w7:sE)(h7:w7=w6.setCell ⟨p,2,none⟩ (.slice (some ⟨g8,0,none⟩) (i+1) c8))=>HI.o.more HP4.o HB4.o rfl HB5.o o6 gr6 hl6 h7);have e6:w6.heap[p]?=wr.heap[p]? :=(gr6.block p (sR (ag HI.o.at_) HBB.o.size) (fun e=>by have:=HI.o.low p e.symm;have:=HI.o.lb;omega)).trans (HBB.o.block p (ag HI.o.at_));have f6:w6.frozen? ⟨p,2,none⟩=false:=sJ w6 p 2 _ _ (e6.trans HI.o.at_);have c6:w6.cell? ⟨p,2,none⟩=some (.slice vo i vc):=by rw[sD w6 p 2 _ _ _ (e6.trans HI.o.at_)];rfl
     have HS6:ae (w6.cell? ⟨p,2,none⟩=some (.slice vo i vc)/\w6.cell? ⟨w.heap.size,2,none⟩=some (.slice (some ⟨b,o,none⟩) kn kc)/\w6.cell? ⟨b,o+i*3,none⟩=some u0/\w6.cell? ⟨b,o+i*3+1,none⟩=some u1/\w6.cell? ⟨b,o+i*3+2,none⟩=some u2):=aa (by obtain⟨s0,s1,s2,s3,s4⟩:=HS.o w5 HBB.o;have hbl:=HLb.o;have hws:=HBw.o.size;have hs5:=HBB.o.size;have hlow:=HI.o.low;have hlp:=HI.o.lp;have hlb:=HI.o.lb;have hNl:=ag HI.o.pbox;have hcc:∀(d k:Nat)(v:sP),d<w.heap.size+1->w5.cell? ⟨d,k,none⟩=some v->w6.cell? ⟨d,k,none⟩=some v:=fun d k v hd hv=>(sK (a:=⟨d,k,none⟩) (gr6.block d (by omega) (fun e=>by have:=hlow d e.symm;omega))).trans hv;exact⟨c6,hcc _ _ _ (by omega) s1,hcc _ _ _ (by omega) s2,hcc _ _ _ (by omega) s3,hcc _ _ _ (by omega) s4⟩);refine hKK _ _ (fun _=>HS6.o) ?_;clear hKK o6 gr6 hl6 hlt6 e6;refine au rfl (by kernel_rfl) fun KK hKK=>?_;go_simp;refine hKK _ _ (fun _=>HS6.o) ?_;clear hKK;refine au rfl (by kernel_rfl) fun KK hKK=>?_;go_simp;refine hKK _ _ (fun h=>by cases h) ?_;clear hKK;refine ba (sO ?_);have HM2:=aa (HM.o _ rfl);clear HM HS HS6 c6 f6;go_wp2;go_roundw
     case rel=>exact⟨i+1,_,_,_,by go_num,by omega,HM2⟩
     case measure=>simp[tf];omega
    ·have i1:¬(i:Int)<(kn:Int):=by omega
     obtain rfl:i=kn:=by omega
     have c0:wr.cell? ⟨p,0,none⟩=some (.int .i64 op):=by rw[sD wr p 0 _ _ _ HI.o.at_];rfl
     have c1:wr.cell? ⟨p,1,none⟩=some (.slice (some ⟨g,0,none⟩) ln gc):=by rw[sD wr p 1 _ _ _ HI.o.at_];rfl
     have c2:wr.cell? ⟨p,2,none⟩=some (.slice vo i vc):=by rw[sD wr p 2 _ _ _ HI.o.at_];rfl
     have d0:wr.cell? ⟨w.heap.size+1,0,none⟩=some (.int .i64 0):=by rw[sD wr _ 0 _ _ _ HI.o.res];rfl
     have d1:wr.cell? ⟨w.heap.size+1,1,none⟩=some (.slice none 0 0):=by rw[sD wr _ 1 _ _ _ HI.o.res];rfl
     have d2:wr.cell? ⟨w.heap.size+1,2,none⟩=some (.slice none 0 0):=by rw[sD wr _ 2 _ _ _ HI.o.res];rfl
     have f0:=sJ wr _ 0 _ _ HI.o.res;have f1:=sJ wr _ 1 _ _ HI.o.res;have f2:=sJ wr _ 2 _ _ HI.o.res;have HI2:ae (wr.cell? ⟨w.heap.size,2,none⟩=some (.slice ko i kc)):=aa ((HI.o.cells wr rfl rfl).2 2);have x2:=HI2.o;have lb:=HI.o.lp;go_wp2;obtain⟨w5,hw5⟩:=aj (((wr.setCell ⟨w.heap.size+1,0,none⟩ (.int .i64 op)).setCell ⟨w.heap.size+1,1,none⟩ (.slice (some ⟨g,0,none⟩) ln gc)).setCell ⟨w.heap.size+1,2,none⟩ (.slice vo i vc));rw[<-hw5];have k5:du (w.heap.size+1) wr w5:=by rw[hw5];exact oq wr (w.heap.size+1) _ _ _
     have z5:w5.heap[w.heap.size+1]?=some (.cells #[.int .i64 op,.slice (some ⟨g,0,none⟩) ln gc,.slice vo i vc] 105 (0,0)):=by rw[hw5];exact zbl HI.o.res
     have y0:w5.cell? ⟨w.heap.size+1,0,none⟩=some (.int .i64 op):=by rw[sD w5 _ 0 _ _ _ z5];rfl
     have y1:w5.cell? ⟨w.heap.size+1,1,none⟩=some (.slice (some ⟨g,0,none⟩) ln gc):=by rw[sD w5 _ 1 _ _ _ z5];rfl
     have y2:w5.cell? ⟨w.heap.size+1,2,none⟩=some (.slice vo i vc):=by rw[sD w5 _ 2 _ _ _ z5];rfl
     refine tX (v:=.agg #[.int .i64 op,.slice (some ⟨g,0,none⟩) ln gc,.slice vo i vc]) ?_ rfl ?_
     ·simp[results,Tryz.f146,go_sem,y0,y1,y2]
     ·exact⟨_,_,_,rfl,HI.o.done k5.size (fun b hb=>k5.block b hb) HLN.o hl9 hk9,HI.o.below.trans (k5.below (by omega))⟩
theorem zgw(kids:List aA):(tR kids.length).map (fun i=>pN (kids.getD i (.mk 0 [] [])))=kids.map pN:=by
 apply t8
 ·simp
 ·intro i h1 h2;have h3:i<kids.length:=by simpa using h1
  simp only[ua,tS,lM h3]
theorem zgv(kids:List aA):(tR kids.length).map (fun i=>pN (kids.getD (kids.length-1-i) (.mk 0 [] [])))=(kids.map pN).reverse:=by
 apply t8
 ·simp
 ·intro i h1 h2;have h3:i<kids.length:=by simpa using h1
  have h4:kids.length-1-i<kids.length:=by omega
  simp only[ua,tS,lM h4,List.getElem_reverse,tk]
theorem zeh:∀p:aA,∀(v0 v1 v2:sP)(w:sE),cv w p v0 v1 v2->tr Tryz.prog 146 #[.agg #[v0,v1,v2]] w (RvQ (pN p) w):=by
 refine aA.ind fun op cls kids ih v0 v1 v2 w hP=>?_;unfold cv at hP;obtain⟨rfl,⟨lo,lc,rfl,hl1,hl2⟩,ko,kc,rfl,hk1,hk2,_⟩:=hP;have HK:=aa (zgW (Q:=fun p=>RvQ (pN p)) hk1 (fun p hp u0 u1 u2 W hW=>ih p hp u0 u1 u2 W hW));rw[zgt];by_cases o2:op=2
 ·have h:=zak true _ lo ko cls.length lc kids.length kc op (by rw[o2];rfl) cls (fun j=>pN (kids.getD j (.mk 0 [] []))) w (fun _=>rfl) nofun rfl hl2 hk2 hl1 HK;rw[if_pos o2,<-zgv];exact h
 ·have h:=zak false _ lo ko cls.length lc kids.length kc op (beq_eq_false_iff_ne.2 o2) cls (fun j=>pN (kids.getD j (.mk 0 [] []))) w nofun (fun _=>rfl) rfl hl2 hk2 hl1 HK;rw[if_neg o2,<-zgw];exact h
theorem znx{op:Int}{cls:List Int}{n m:Nat}(h:OkN op cls n)(e:n=m):OkN op cls m:=e ▸ h
theorem ziA:∀ps:List aA,(∀p∈ps,kg p)->nS ps
 |[],_=>by unfold nS;trivial
 |p::ps,h=>by unfold nS;exact⟨h p (tP ..),ziA ps fun q hq=>h q (tK _ hq)⟩
theorem zuF:∀p:aA,kg p->kg (pN p):=by
 refine aA.ind fun op cls kids ih hO=>?_;unfold kg at hO;rw[zgt];unfold kg;refine⟨znx hO.1 (by split<;>simp),ziA _ fun p hp=>?_⟩;have hm:p∈kids.map pN:=by
  split at hp
  ·exact List.mem_reverse.1 hp
  ·exact hp
 obtain⟨q,hq,rfl⟩:=tU.1 hm;exact ih q hq (hO.2.mem hq)
theorem zbh:∀ps:List aA,kW ps=(ps.map gw).sum
 |[]=>rfl
 |p::ps=>by rw[kW,zbh ps,tO,List.sum_cons]
theorem zui:∀p:aA,gw (pN p)=gw p:=by
 refine aA.ind fun op cls kids ih=>?_;rw[zgt];unfold gw;rw[zbh,zbh];have e:(kids.map pN).map gw=kids.map gw:=by rw[List.map_map];exact List.map_congr_left fun p hp=>ih p hp
 split
 ·rw[List.map_reverse,List.sum_reverse,e]
 ·rw[e]
theorem zbt(p:aA)(hO:kg p)(hs:gw p<=2048)(v0 v1 v2:sP)(w:sE)(hP:cv w p v0 v1 v2):tr Tryz.prog 108 #[.agg #[v0,v1,v2]] w fun e w'=>∃u0 u1 u2,e=.returned (.agg #[u0,u1,u2])/\cv w' (pN p) u0 u1 u2/\sG w.heap.size w w':=by
 have HG:=aa (fun(W:sE)(h:sG w.heap.size w W)=>f7 p hO hs v0 v1 v2 W (cv.below h _ _ _ _ hP));have HR:=aa (fun(W:sE)(h:sG w.heap.size w W)=>zeh p v0 v1 v2 W (cv.below h _ _ _ _ hP));clear hP;go_enter Tryz.func108,Tryz.ntmps108;go_wp2_with fail;obtain⟨w1,hw1⟩:=aj ((w.alloc (.cells #[v0,v1,v2] 105)).alloc (.cells #[.int .i64 0,.slice none 0 0,.slice none 0 0] 105));have hb1:sG w.heap.size w w1:=by rw[hw1];exact((sM _ _).alloc (sV _) _).alloc (by simp) _
 have hN:w1.heap[w.heap.size]?=some (.cells #[v0,v1,v2] 105):=by rw[hw1];exact(sY _ _ _ (by simp)).trans (heap_alloc_new w _)
 have hN1:w1.heap[w.heap.size+1]?=some (.cells #[.int .i64 0,.slice none 0 0,.slice none 0 0] 105):=by have:=heap_alloc_new (w.alloc (.cells #[v0,v1,v2] 105)) (.cells #[.int .i64 0,.slice none 0 0,.slice none 0 0] 105);rw[t6]at this;rw[hw1];exact this
 rw[<-hw1];have HB1:=aa hb1;have HN:=aa hN;have HN1:=aa hN1;clear hw1 hb1 hN hN1;refine(HG.o w1 HB1.o).mono ?_;rintro e w2 ⟨rfl,hB2⟩;have hN2:=(hB2.block _ (ag HN.o)).trans HN.o;have HN2:=aa ((hB2.block _ (ag HN1.o)).trans HN1.o);have x0:w2.cell? ⟨w.heap.size,0,none⟩=some v0:=by rw[sD w2 _ 0 _ _ _ hN2];rfl
 have x1:w2.cell? ⟨w.heap.size,1,none⟩=some v1:=by rw[sD w2 _ 1 _ _ _ hN2];rfl
 have x2:w2.cell? ⟨w.heap.size,2,none⟩=some v2:=by rw[sD w2 _ 2 _ _ _ hN2];rfl
 have HB2:=aa (HB1.o.trans (hB2.mono HB1.o.size));clear hB2 hN2;go_wp2_with fail;refine(HR.o w2 HB2.o).mono ?_;rintro e w3 ⟨t0,t1,t2,rfl,hP3,hB3⟩;have HP3:=aa hP3;obtain⟨z0,zo,zn,zc,zk,zm,zp,rfl,rfl,rfl⟩:=hP3.shape;have HN3:=aa ((hB3.block _ (ag HN2.o)).trans HN2.o);have HB3:=aa (HB2.o.trans (hB3.mono HB2.o.size));have HS:=aa (ag HN2.o);have d0:w3.cell? ⟨w.heap.size+1,0,none⟩=some (.int .i64 0):=by rw[sD w3 _ 0 _ _ _ HN3.o];rfl
 have d1:w3.cell? ⟨w.heap.size+1,1,none⟩=some (.slice none 0 0):=by rw[sD w3 _ 1 _ _ _ HN3.o];rfl
 have d2:w3.cell? ⟨w.heap.size+1,2,none⟩=some (.slice none 0 0):=by rw[sD w3 _ 2 _ _ _ HN3.o];rfl
 have f0:=sJ w3 _ 0 _ _ HN3.o;have f1:=sJ w3 _ 1 _ _ HN3.o;have f2:=sJ w3 _ 2 _ _ HN3.o;clear hB3 hP3 x0 x1 x2;go_wp2;obtain⟨w5,hw5⟩:=aj (((w3.setCell ⟨w.heap.size+1,0,none⟩ (.int .i64 z0)).setCell ⟨w.heap.size+1,1,none⟩ (.slice zo zn zc)).setCell ⟨w.heap.size+1,2,none⟩ (.slice zk zm zp));rw[<-hw5];have k5:du (w.heap.size+1) w3 w5:=by rw[hw5];exact oq w3 (w.heap.size+1) _ _ _
 have z5:w5.heap[w.heap.size+1]?=some (.cells #[.int .i64 z0,.slice zo zn zc,.slice zk zm zp] 105 (0,0)):=by rw[hw5];exact zbl HN3.o
 have y0:w5.cell? ⟨w.heap.size+1,0,none⟩=some (.int .i64 z0):=by rw[sD w5 _ 0 _ _ _ z5];rfl
 have y1:w5.cell? ⟨w.heap.size+1,1,none⟩=some (.slice zo zn zc):=by rw[sD w5 _ 1 _ _ _ z5];rfl
 have y2:w5.cell? ⟨w.heap.size+1,2,none⟩=some (.slice zk zm zp):=by rw[sD w5 _ 2 _ _ _ z5];rfl
 refine tX (v:=.agg #[.int .i64 z0,.slice zo zn zc,.slice zk zm zp]) ?_ rfl ?_
 ·simp[results,Tryz.f108,go_sem,y0,y1,y2]
 ·refine⟨_,_,_,rfl,dX.rd _ _ _ _ (dX.keep (X':=fun _=>False) ⟨by rw[k5.size];exact sV _,fun b _ hx=>k5.block b (fun e=>hx (by rw[e];exact HS.o)),fun _ _ h=>h.elim⟩ _ _ _ _ HP3.o),HB3.o.trans (k5.below (by omega))⟩
end Pt
end
section
open Go.RowKit
namespace Pt
structure Sd where
 L:List Int
 R:List Int
 noL:Bool
 noR:Bool
def zrZ(r:Rl)(s:Sd):Prop:=dL (pN r.left) s.L/\dL r.right s.R/\(s.noL=false->Ful r.left)/\(s.noR=false->Ful r.right)
def Sd.may(s:Sd)(a b:Int):Bool:=(s.noL||kD s.L a)&&(s.noR||kD s.R b)
theorem zqU{r:Rl}{s:Sd}{c:List Int}{k:Nat}(h:zrZ r s)(hk0:0<k)(hk:k<c.length)(hA:App r c k):s.may (c.getD (k-1) 0) (c.getD k 0)=true:=by
 obtain⟨⟨i,hi,h1⟩,⟨j,hj,hjc,h2⟩,_,_⟩:=hA;obtain⟨o1,o2,o3,o4⟩:=h;unfold Sd.may;rw[Bool.and_eq_true,Bool.or_eq_true,Bool.or_eq_true];constructor
 ·rcases tT hi with e|e
  ·subst e;cases hn:s.noL with
   |true=>exact .inl rfl
   |false=>exact absurd h1 (o3 hn c i)
  ·right;have h3:=oJ c r.left i k (Nat.le_of_lt hk) h1;obtain⟨z,h4,h5⟩:=o1 c.reverse (c.length-k) (c.length-i) h3 (by omega);rw[List.getElem?_reverse (by omega),show c.length-1-(c.length-k)=k-1 by omega]at h4;rw[tw,h4];exact(cG _ _).2 h5
 ·rcases tT hj with e|e
  ·subst e;cases hn:s.noR with
   |true=>exact .inl rfl
   |false=>exact absurd h2 (o4 hn c k)
  ·right;obtain⟨z,h4,h5⟩:=o2 c k j h2 e;rw[tw,h4];exact(cG _ _).2 h5
theorem zaO(lo:Option Addr)(n lc:Nat)(l:List Int)(c:Int)(w:sE)(hl:eS w lo l)(hn:n=l.length)(hm:n<=2048000000):
  tr Tryz.prog 110 #[.slice lo n lc,.int .i64 c] w fun e w'=>e=.returned (.bool (kD l c))/\w'=w:=by
 have HL:=aa hl;have HN:=aa hn;clear hl hn;go_enter Tryz.func110,Tryz.ntmps110;go_wp2;go_loopw [5] (fun y wr=>∃i:Nat,y=.int .i64 i/\i<=n/\wr=w/\ae (∀z∈l.take i,z≠c)) (fun y _=>n-(tf y).toNat)
 case atStart=>exact⟨0,rfl,tc _,rfl,aa (by simp)⟩
 case round=>
  obtain⟨i,rfl,hi,rfl,HT⟩:=hrel;by_cases hlt:i<n
  ·have i0:(0:Int)<=(i:Int):=by omega
   have i1:(i:Int)<(n:Int):=by omega
   have hil:i<l.length:=by have:=HN.o;omega
   obtain⟨a,rfl,ha,c1⟩:=HL.o.at hil;obtain⟨z,hz⟩:=aj (l[i]);rw[<-hz]at c1;have HZ:=aa hz;clear hz;by_cases e:z=c
   ·subst e;have b1:(z==z)=true:=by simp
    have HE:ae (kD l z=true):=aa ((cG l z).2 (by rw[HZ.o];exact sX _));go_wp2;go_ret;exact⟨by rw[HE.o];rfl,rfl⟩
   ·have b1:(z==c)=false:=by simpa using e
    have HE:=aa e;clear e;go_wp2;go_roundw
    case rel=>
     refine⟨i+1,by go_num,by omega,trivial,aa fun x hx=>?_⟩;rw[tp hil,tH]at hx;rcases hx with hx|hx
     ·exact HT.o x hx
     ·rw[List.mem_singleton]at hx;rw[hx,<-HZ.o];exact HE.o
    case measure=>simp[tf];omega
  ·have i1:¬(i:Int)<(n:Int):=by omega
   have HE:ae (kD l c=false):=aa (by
    cases h:kD l c with
    |false=>rfl
    |true=>exact absurd rfl (HT.o c (by rw[tF (by have:=HN.o;omega)];exact(cG l c).1 h)))
   go_wp2;go_ret;exact⟨by rw[HE.o];rfl,rfl⟩
theorem zqV(s:Sd)(lo ro:Option Addr)(ln lc rn rc:Nat)(a b:Int)(w:sE)(hL:eS w lo s.L)(hR:eS w ro s.R)(hln:ln=s.L.length)(hrn:rn=s.R.length)(hl9:ln<=2048000000)(hr9:rn<=2048000000):
  tr Tryz.prog 75 #[.agg #[.slice lo ln lc,.slice ro rn rc,.bool s.noL,.bool s.noR],.int .i64 a,.int .i64 b] w fun e w'=>e=.returned (.bool (s.may a b))/\sG w.heap.size w w':=by
 have HA1:=aa (fun(W:sE)(h:sG w.heap.size w W)=>zaO lo ln lc s.L a W (hL.below h) hln hl9);have HA2:=aa (fun(W:sE)(h:sG w.heap.size w W)=>zaO ro rn rc s.R b W (hR.below h) hrn hr9);have HV:ae (s.may a b=((s.noL||kD s.L a)&&(s.noR||kD s.R b))):=aa rfl;obtain⟨p,hp⟩:=aj s.noL;obtain⟨q,hq⟩:=aj s.noR;obtain⟨x,hx⟩:=aj (kD s.L a);obtain⟨y,hy⟩:=aj (kD s.R b);rw[<-hp,<-hq,<-hx,<-hy]at HV;rw[<-hx]at HA1;rw[<-hy]at HA2;rw[<-hp,<-hq,HV.o];clear hL hR hln hrn hl9 hr9 HV hp hq hx hy;have HB:=aa (fun(o:Obj)=>af (w:=w) (o:=o));cases p with
 |true=>
  cases q with
  |true=>go_enter Tryz.func75,Tryz.ntmps75;go_wp2;go_ret;exact⟨rfl,HB.o _⟩
  |false=>go_enter Tryz.func75,Tryz.ntmps75;go_wp2_with fail;refine(HA2.o _ (HB.o _)).mono ?_;rintro e w2 ⟨rfl,rfl⟩;cases y<;>(go_wp2;go_ret;exact⟨rfl,HB.o _⟩)
 |false=>
  go_enter Tryz.func75,Tryz.ntmps75;go_wp2_with fail;refine(HA1.o _ (HB.o _)).mono ?_;rintro e w2 ⟨rfl,rfl⟩;cases x with
  |false=>go_wp2;go_ret;exact⟨rfl,HB.o _⟩
  |true=>
   cases q with
   |true=>go_wp2;go_ret;exact⟨rfl,HB.o _⟩
   |false=>go_wp2_with fail;refine(HA2.o _ (HB.o _)).mono ?_;rintro e w3 ⟨rfl,rfl⟩;cases y<;>(go_wp2;go_ret;exact⟨rfl,HB.o _⟩)
end Pt
end
section
open Go.RowKit
namespace Pt
theorem Tryz.infoSide:(Tryz.prog.info? 101).map (fun i=>(i.zero,i.size,i.bytes))=some (some (.agg #[.slice none 0 0,.slice none 0 0,.bool false,.bool false]),4,56):=by kernel_rfl
theorem Tryz.underSides:Tryz.prog.underlying 98=some (.slice 101):=by kernel_rfl
def SdX(w:sE)(X:Nat->Prop)(sds:List Sd)(xs:List sP):Prop:=∀(j:Nat)(s:Sd),sds[j]?=some s->∃lo lc ro rc,xs[j*4]?=some (.slice lo s.L.length lc)/\xs[j*4+1]?=some (.slice ro s.R.length rc)/\xs[j*4+2]?=some (.bool s.noL)/\xs[j*4+3]?=some (.bool s.noR)/\ik w X lo s.L/\ik w X ro s.R/\s.L.length<=2048000000/\s.R.length<=2048000000
theorem SdX.keep{w w':sE}{X X':Nat->Prop}{sds:List Sd}{xs:List sP}(h:SdX w X sds xs)(hk:KpX w w' X X'):SdX w' X' sds xs:=fun j s hj=>by obtain⟨lo,lc,ro,rc,a0,a1,a2,a3,r1,r2,l1,l2⟩:=h j s hj;exact⟨lo,lc,ro,rc,a0,a1,a2,a3,r1.keep hk,r2.keep hk,l1,l2⟩
def zpL(w:sE)(vo:Option Addr)(sds:List Sd):Prop:=∀(j:Nat)(s:Sd),sds[j]?=some s->∃b lo lc ro rc,vo=some ⟨b,0,none⟩/\b<w.heap.size/\w.cell? ⟨b,j*4,none⟩=some (.slice lo s.L.length lc)/\w.cell? ⟨b,j*4+1,none⟩=some (.slice ro s.R.length rc)/\w.cell? ⟨b,j*4+2,none⟩=some (.bool s.noL)/\w.cell? ⟨b,j*4+3,none⟩=some (.bool s.noR)/\eS w lo s.L/\eS w ro s.R/\s.L.length<=2048000000/\s.R.length<=2048000000
theorem zpL.below{w w':sE}{vo:Option Addr}{sds:List Sd}(h:zpL w vo sds)(hb:sG w.heap.size w w'):zpL w' vo sds:=fun j s hj=>by obtain⟨b,lo,lc,ro,rc,h0,hl,a0,a1,a2,a3,r1,r2,l1,l2⟩:=h j s hj;have hc:∀k v,w.cell? ⟨b,k,none⟩=some v->w'.cell? ⟨b,k,none⟩=some v:=fun k v hk=>(hb.cell (p:=⟨b,k,none⟩) hl).trans hk;exact⟨b,lo,lc,ro,rc,h0,sR hl hb.size,hc _ _ a0,hc _ _ a1,hc _ _ a2,hc _ _ a3,r1.below hb,r2.below hb,l1,l2⟩
def SsQ(rs:List Rl)(w:sE)(e:Ending)(w':sE):Prop:=∃vo vc sds,e=.returned (.slice vo rs.length vc)/\sds.length=rs.length/\(∀(j:Nat)(r:Rl)(s:Sd),rs[j]?=some r->sds[j]?=some s->zrZ r s)/\zpL w' vo sds/\sG w.heap.size w w'
structure SdI(B:Nat)(rs:List Rl)(i:Nat)(vo:Option Addr)(vc:Nat)(sds:List Sd)(xs:List sP)(wr:sE):Prop where
 own:wr.ownsRow B 101 4 (.slice vo i vc) i xs
 sd:SdX wr (fun b=>(sH vo i vc).ownBlock=some b) sds xs
 ln:sds.length=i
 ok:∀(j:Nat)(r:Rl)(s:Sd),rs[j]?=some r->sds[j]?=some s->zrZ r s
theorem SdI.rd{B:Nat}{rs:List Rl}{i:Nat}{vo:Option Addr}{vc:Nat}{sds:List Sd}{xs:List sP}{wr:sE}(h:SdI B rs i vo vc sds xs wr):zpL wr vo sds:=fun j s hj=>by
 obtain⟨lo,lc,ro,rc,a0,a1,a2,a3,r1,r2,l1,l2⟩:=h.sd j s hj;have hjl:=(sQ.1 hj).1;have hln:=h.ln;rcases h.own.2 with ⟨_,e⟩|⟨g,cap,cur,k1,k2,k3,_⟩
 ·omega
 ·cases k1;have hc:=(di h.own).2.2.2;exact⟨g,lo,lc,ro,rc,rfl,ag k3,hc _ _ a0,hc _ _ a1,hc _ _ a2,hc _ _ a3,r1.rd,r2.rd,l1,l2⟩
theorem SdI.below{B:Nat}{rs:List Rl}{i:Nat}{vo:Option Addr}{vc:Nat}{sds:List Sd}{xs:List sP}{wr w':sE}(h:SdI B rs i vo vc sds xs wr)(hb:sG wr.heap.size wr w'):SdI B rs i vo vc sds xs w':=
 ⟨⟨h.own.1,h.own.2.imp (fun e=>e) fun⟨g,cap,cur,a1,a2,a3,a4⟩=>⟨g,cap,cur,a1,a2,(hb.block g (ag a3)).trans a3,a4⟩⟩,h.sd.keep ⟨hb.size,fun k hk _=>hb.block k hk,fun _ _ h=>h⟩,h.ln,h.ok⟩
theorem SdI.more{B:Nat}{rs:List Rl}{i:Nat}{vo:Option Addr}{vc:Nat}{sds:List Sd}{xs:List sP}{wr w5 w6:sE}{r:Rl}{s:Sd}{lo ro:Option Addr}{lc rc g8 c8:Nat}(h:SdI B rs i vo vc sds xs wr)(hb:sG wr.heap.size wr w5)(hr:rs[i]?=some r)(hs:zrZ r s)
  (rL:ik w5 (fun b=>b<wr.heap.size) lo s.L) (rR:ik w5 (fun b=>b<wr.heap.size) ro s.R) (hL9:s.L.length<=2048000000) (hR9:s.R.length<=2048000000)
  (o6:w6.ownsRow B 101 4 (.slice (some ⟨g8,0,none⟩) (i+1) c8) (i+1) (xs++[.slice lo s.L.length lc,.slice ro s.R.length rc,.bool s.noL,.bool s.noR])) (gr:uf w5 w6 (sH vo i vc).ownBlock) (hg8:(sH vo i vc).ownBlock=some g8\/g8=w5.heap.size):
  SdI B rs (i+1) (some ⟨g8,0,none⟩) c8 (sds++[s]) (xs++[.slice lo s.L.length lc,.slice ro s.R.length rc,.bool s.noL,.bool s.noR]) w6:=by
 have hxl:=h.own.1;have hln:=h.ln;have s5:=hb.size;have hoB:∀b,(sH vo i vc).ownBlock=some b->b<wr.heap.size:=fun b hb=>by
  rcases h.own.2 with ⟨k1,_⟩|⟨q',cap,cur,k1,_,k3,_⟩
  ·rw[k1]at hb;cases hb
  ·rw[k1]at hb;cases hb;exact ag k3
 have own8:∀b,(sH (some ⟨g8,0,none⟩) (i+1) c8).ownBlock=some b->b=g8:=fun b hb=>by
  have e:g8=b:=by simpa[sT]using hb
  exact e.symm
 have K1:KpX wr w6 (fun b=>(sH vo i vc).ownBlock=some b) (fun b=>(sH (some ⟨g8,0,none⟩) (i+1) c8).ownBlock=some b):=⟨by have:=gr.size;omega,fun b hb2 hx=>(gr.block b (by omega) (fun e=>hx e.symm)).trans (hb.block b hb2),fun b hb2 hx=>by
  have e:=own8 b hx;subst e;rcases hg8 with h8|h8
  ·exact h8
  ·omega⟩
 have K2:KpX w5 w6 (fun b=>b<wr.heap.size) (fun b=>(sH (some ⟨g8,0,none⟩) (i+1) c8).ownBlock=some b):=⟨gr.size,fun b hb2 hx=>gr.block b hb2 (fun e=>hx (hoB b e.symm)),fun b hb2 hx=>by
  have e:=own8 b hx;subst e;rcases hg8 with h8|h8
  ·exact hoB _ h8
  ·omega⟩
 refine⟨o6,fun j t hj=>?_,by rw[tg,hln];rfl,fun j r' s' hj hj2=>?_⟩
 ·by_cases e:j<i
  ·rw[sS (by omega)]at hj;obtain⟨lo',lc',ro',rc',a0,a1,a2,a3,r1,r2,l1,l2⟩:=h.sd j t hj;refine⟨lo',lc',ro',rc',?_,?_,?_,?_,r1.keep K1,r2.keep K1,l1,l2⟩
   all_goals (rw[sS (by omega)];assumption)
  ·have hjl:=(sQ.1 hj).1;rw[tg,tI]at hjl;obtain rfl:j=i:=by omega
   rw[sL (by omega),hln,tG]at hj;cases hj;refine⟨lo,lc,ro,rc,?_,?_,?_,?_,rL.keep K2,rR.keep K2,hL9,hR9⟩
   ·rw[sL (by omega),hxl,tG];rfl
   ·rw[sL (by omega),hxl,show j*4+1-j*4=1 by omega];rfl
   ·rw[sL (by omega),hxl,show j*4+2-j*4=2 by omega];rfl
   ·rw[sL (by omega),hxl,show j*4+3-j*4=3 by omega];rfl
 ·by_cases e:j<i
  ·rw[sS (by omega)]at hj2;exact h.ok j r' s' hj hj2
  ·have hjl:=(sQ.1 hj2).1;rw[tg,tI]at hjl;obtain rfl:j=i:=by omega
   rw[sL (by omega),hln,tG]at hj2;cases hj2;rw[hr]at hj;cases hj;exact hs
theorem cv.shape{w:sE}:∀{p:aA} {v0 v1 v2:sP},cv w p v0 v1 v2->∃(o:Int)(co:Option Addr)(cn cc:Nat)(ko:Option Addr)(kn kc:Nat),v0=.int .i64 o/\v1=.slice co cn cc/\v2=.slice ko kn kc
 |.mk op cls kids,v0,v1,v2,h=>by unfold cv at h;obtain⟨h1,⟨co,cc,h2,h3,h4⟩,ko,kc,h5,h6,h7⟩:=h;exact⟨op,co,_,cc,ko,_,kc,h1,h2,h5⟩
theorem ik.later{w w':sE}{X Y:Nat->Prop}{ao:Option Addr}{l:List Int}(h:ik w X ao l)(hb:sG w.heap.size w w')(hX:∀b,Y b->X b):ik w' Y ao l:=h.keep ⟨hb.size,fun k hk _=>hb.block k hk,fun k _ hy=>hX k hy⟩
theorem zwE(w:sE)(v:Array sP)(T:ug):∀j u,v.toList[j]?=some u->(w.alloc (.cells v T)).cell? ((⟨w.heap.size,0,none⟩:Addr).add j)=some u:=tN (cs:=v) (heap_alloc_new w _)
set_option maxRecDepth 100000 in
theorem sA(rest:Bool)(rs:List Rl)(hrs:∀r∈rs,zhD r)(ro:Option Addr)(rn rc:Nat)(hrn:rn=rs.length)(hr9:rn<=1000)(w:sE)(hR:zcN w ro rs):
  tr Tryz.prog 74 #[.agg #[.slice ro rn rc,.bool rest]] w (SsQ rs w):=by
 have HR:=aa hR;have HRN:=aa hrn;clear hR hrn;go_enter Tryz.func74,Tryz.ntmps74;go_wp2;obtain⟨w1,hw1⟩:=aj (w.alloc (.cells #[.slice ro rn rc,.bool rest] 63));have hb1:sG w.heap.size w w1:=by rw[hw1];exact af
 have x0:w1.cell? ⟨w.heap.size,0,none⟩=some (.slice ro rn rc):=by rw[hw1];simp[go_sem]
 have hs1:w.heap.size<w1.heap.size:=by rw[hw1];simp
 rw[<-hw1];have HB1:=aa hb1;have HX:=aa (fun(W:sE)(h:sG w1.heap.size w1 W)=>show W.cell? ⟨w.heap.size,0,none⟩=some (.slice ro rn rc)from(h.cell (p:=⟨w.heap.size,0,none⟩) hs1).trans x0);clear hw1 hb1 x0;go_loopw [3,4] (fun x y wr=>∃(i:Nat)(vo:Option Addr)(vc:Nat)(sds:List Sd)(xs:List sP),x=.slice vo i vc/\y=.int .i64 i/\i<=rn/\ae (SdI w1.heap.size rs i vo vc sds xs wr)/\ae (sG w1.heap.size w1 wr)) (fun _ y _=>rn-(tf y).toNat)
 case atStart=>exact⟨0,none,0,[],[],rfl,rfl,tc _,aa ⟨td _ _ _ _,fun j s hj=>by simp at hj,rfl,fun j r s _ hj=>by simp at hj⟩,aa (sM _ _)⟩
 case round=>
  obtain⟨i,vo,vc,sds,xs,rfl,rfl,hi,HI,HB⟩:=hrel;have x0:=HX.o wr HB.o;have HBw:=aa (HB1.o.trans (HB.o.mono HB1.o.size));by_cases hlt:i<rn
  ·have i0:(0:Int)<=(i:Int):=by omega
   have i1:(i:Int)<(rn:Int):=by omega
   have hil:i<rs.length:=by have:=HRN.o;omega
   obtain⟨b,o,l0,l1,l2,r0,r1,r2,rfl,hb,a0,a1,a2,a3,a4,a5,a6,a7,a8,p1,p2⟩:=HR.o i rs[i] (sI hil);obtain⟨e0,eo,en,ec,ek,em,ep,rfl,rfl,rfl⟩:=p1.shape;obtain⟨f0,fo,fn,fc,fk,fm,fp,rfl,rfl,rfl⟩:=p2.shape;have hcc:∀k v,w.cell? ⟨b,k,none⟩=some v->wr.cell? ⟨b,k,none⟩=some v:=fun k v hk=>(HBw.o.cell (p:=⟨b,k,none⟩) hb).trans hk;have y0:=hcc _ _ a0;have y1:=hcc _ _ a1;have y2:=hcc _ _ a2;have y3:=hcc _ _ a3;have y4:=hcc _ _ a4;have y5:=hcc _ _ a5;have y6:=hcc _ _ a6;have y7:=hcc _ _ a7;have y8:=hcc _ _ a8;obtain⟨r,hr⟩:=aj (rs[i]);have HRi:ae (rs[i]?=some r):=aa (by rw[hr];exact sI hil);have HOk:=aa (hrs r (by rw[hr];exact sX _));rw[<-hr]at y0 y1 y2 p1 p2;have HP1:=aa p1;have HP2:=aa p2;clear hcc a0 a1 a2 a3 a4 a5 a6 a7 a8 hb p1 p2 hr;go_wp2_with fail;obtain⟨wq,hwq⟩:=aj (wr.alloc (.cells #[.bool r.brk,.bool r.st,.bool r.en,.int .i64 e0,.slice eo en ec,.slice ek em ep,.int .i64 f0,.slice fo fn fc,.slice fk fm fp] 107));have HBq:ae (sG wr.heap.size wr wq):=aa (by rw[hwq];exact af);have HQ:ae (wq.heap[wr.heap.size]?=some (.cells #[.bool r.brk,.bool r.st,.bool r.en,.int .i64 e0,.slice eo en ec,.slice ek em ep,.int .i64 f0,.slice fo fn fc,.slice fk fm fp] 107)):=aa (by rw[hwq];exact heap_alloc_new _ _);obtain⟨Q,hQ⟩:=aj wr.heap.size;have HQs:=aa hQ;rw[<-hwq];rw[<-hQ]at HQ⊢;clear hwq hQ;have HS:=aa (fun(W:sE)(h:sG wq.heap.size wq W)=>show W.cell? ⟨Q,3,none⟩=some (.int .i64 e0)/\W.cell? ⟨Q,4,none⟩=some (.slice eo en ec)/\W.cell? ⟨Q,5,none⟩=some (.slice ek em ep)/\W.cell? ⟨Q,6,none⟩=some (.int .i64 f0)/\W.cell? ⟨Q,7,none⟩=some (.slice fo fn fc)/\W.cell? ⟨Q,8,none⟩=some (.slice fk fm fp)from by have h1:=(h.block _ (ag HQ.o)).trans HQ.o;exact⟨by rw[sD W Q 3 _ _ _ h1];rfl,by rw[sD W Q 4 _ _ _ h1];rfl,by rw[sD W Q 5 _ _ _ h1];rfl,by rw[sD W Q 6 _ _ _ h1];rfl,by rw[sD W Q 7 _ _ _ h1];rfl,by rw[sD W Q 8 _ _ _ h1];rfl⟩);have HBqw:=aa (HBw.o.trans (HBq.o.mono HBw.o.size));have HRv:=aa (fun(W:sE)(h:sG wq.heap.size wq W)=>zbt r.left HOk.o.1 HOk.o.2.2.1 _ _ _ W (cv.below (HBqw.o.trans (h.mono HBqw.o.size)) _ _ _ _ HP1.o));have HF2:=aa (fun(W:sE)(h:sG wq.heap.size wq W)=>nL r.right HOk.o.2.1 HOk.o.2.2.2 _ _ _ W (cv.below (HBqw.o.trans (h.mono HBqw.o.size)) _ _ _ _ HP2.o));have HE1:=aa (fun(W:sE)(h:sG wq.heap.size wq W)=>jB r.left HOk.o.1 HOk.o.2.2.1 _ _ _ W (cv.below (HBqw.o.trans (h.mono HBqw.o.size)) _ _ _ _ HP1.o));have HE2:=aa (fun(W:sE)(h:sG wq.heap.size wq W)=>jB r.right HOk.o.2.1 HOk.o.2.2.2 _ _ _ W (cv.below (HBqw.o.trans (h.mono HBqw.o.size)) _ _ _ _ HP2.o));clear y0 y1 y2 y3 y4 y5 y6 y7 y8 x0;refine aw [(0,true),(1,true),(2,true),(5,true),(6,true),(8,true),(9,true),(11,true),(12,true),(3,false),(4,false),(7,false),(10,false),(13,false),(14,false),(15,false),(16,false),(17,false)] (fun W=>W.cell? ⟨Q,3,none⟩=some (.int .i64 e0)/\W.cell? ⟨Q,4,none⟩=some (.slice eo en ec)/\W.cell? ⟨Q,5,none⟩=some (.slice ek em ep)/\W.cell? ⟨Q,6,none⟩=some (.int .i64 f0)/\W.cell? ⟨Q,7,none⟩=some (.slice fo fn fc)/\W.cell? ⟨Q,8,none⟩=some (.slice fk fm fp)) (fun _=>false) (by kernel_rfl) (by kernel_rfl) (fun j hj=>by cases hj) rfl (by kernel_rfl) (HS.o _ (show sG wq.heap.size wq wq.drew from(sM _ _).drew)) ?_
   iterate 9 (refine aF ?_ rfl (by kernel_rfl) (fun w' hS=>?_) ?_;(rotate_left;(obtain⟨s3,s4,s5,s6,s7,s8⟩:=hS;go_simp;with_reducible rfl);rotate_left))
   have HBd:ae (sG wq.heap.size wq wq.drew):=aa ((sM _ _).drew);refine au rfl (by kernel_rfl) fun KK hKK=>?_;go_simp;refine(HRv.o wq.drew HBd.o).mono ?_;rintro e w2 ⟨t0,t1,t2,rfl,hP2,hB2⟩;have HB2:=aa (HBd.o.trans (hB2.mono HBd.o.size));have HF1:=aa (nL (pN r.left) (zuF _ HOk.o.1) (by rw[zui];exact HOk.o.2.2.1) t0 t1 t2 w2 hP2);obtain⟨g0,go,gn,gc,gk,gm,gp,rfl,rfl,rfl⟩:=hP2.shape;clear hP2 hB2 HRv HBd;refine hKK _ _ (fun _=>HS.o _ HB2.o) ?_;clear hKK;refine au rfl (by kernel_rfl) fun KK hKK=>?_;go_simp;refine HF1.o.mono ?_;rintro e w3 ⟨lo,lc,L,rfl,hI3,hF3,hL3,hB3⟩;have HB3:=aa (HB2.o.trans (hB3.mono HB2.o.size));have HI3:ae (ik w3 (fun b=>b<Q) lo L):=aa (hI3.later (sM _ _) fun b h=>by have h1:=HQs.o;have h2:=HBq.o.size;have h3:=HB2.o.size;have h4:b<Q:=h;show b<w2.heap.size;omega);have HF3:=aa hF3;have HL3:=aa hL3;clear hI3 hF3 hL3 hB3 HF1 HB2;obtain⟨n,hn⟩:=aj L.length;have HNL:=aa hn;rw[<-hn];clear hn;refine hKK _ _ (fun _=>HS.o _ HB3.o) ?_;clear hKK;refine au rfl (by kernel_rfl) fun KK hKK=>?_;go_simp;refine(HF2.o w3 HB3.o).mono ?_;rintro e w4 ⟨so,sc,M,rfl,hI4,hF4,hL4,hB4⟩;have HI34:=aa (HI3.o.later hB4 fun b h=>h);have HB4:=aa (HB3.o.trans (hB4.mono HB3.o.size));have HI4:ae (ik w4 (fun b=>b<Q) so M):=aa (hI4.later (sM _ _) fun b h=>by have h1:=HQs.o;have h2:=HBq.o.size;have h3:=HB3.o.size;have h4:b<Q:=h;show b<w3.heap.size;omega);have HF4:=aa hF4;have HL4:=aa hL4;clear hI4 hF4 hL4 hB4 HI3 HB3 HF2;obtain⟨m,hm⟩:=aj M.length;have HML:=aa hm;rw[<-hm];clear hm;refine hKK _ _ (fun _=>HS.o _ HB4.o) ?_;clear hKK;refine au rfl (by kernel_rfl) fun KK hKK=>?_;go_simp;refine(HE1.o w4 HB4.o).mono ?_;rintro e w5 ⟨b1,rfl,hb1,hB5⟩;have HI35:=aa (HI34.o.later hB5 fun b h=>h);have HI45:=aa (HI4.o.later hB5 fun b h=>h);have HB5:=aa (HB4.o.trans (hB5.mono HB4.o.size));have HV1:=aa hb1;clear hb1 hB5 HI34 HI4 HB4 HE1;refine hKK _ _ (fun _=>HS.o _ HB5.o) ?_;clear hKK;refine au rfl (by kernel_rfl) fun KK hKK=>?_;go_simp;refine(HE2.o w5 HB5.o).mono ?_;rintro e w6 ⟨b2,rfl,hb2,hB6⟩;have HI36:=aa (HI35.o.later hB6 fun b h=>h);have HI46:=aa (HI45.o.later hB6 fun b h=>h);have HB6:=aa (HB5.o.trans (hB6.mono HB5.o.size));have HV2:=aa hb2;clear hb2 hB6 HI35 HI45 HB5 HE2;refine hKK _ _ (fun _=>HS.o _ HB6.o) ?_;clear hKK;refine au rfl (by kernel_rfl) fun KK hKK=>?_;go_simp;refine hKK _ _ (fun _=>HS.o _ HB6.o) ?_;clear hKK;refine au rfl (by kernel_rfl) fun KK hKK=>?_;go_simp;obtain⟨w7,hw7⟩:=aj (w6.alloc (.cells #[.slice lo n lc,.slice so m sc,.bool b1,.bool b2] 101));rw[<-hw7];have HB67:ae (sG w6.heap.size w6 w7):=aa (by rw[hw7];exact af);have HN7:ae (∀j u,[sH lo n lc,.slice so m sc,.bool b1,.bool b2][j]?=some u->w7.cell? ((⟨w6.heap.size,0,none⟩:Addr).add j)=some u):=aa (by rw[hw7];exact zwE w6 _ _);clear hw7;have HB7:=aa (HB6.o.trans (HB67.o.mono HB6.o.size));have HI37:=aa (HI36.o.later HB67.o fun b h=>h);have HI47:=aa (HI46.o.later HB67.o fun b h=>h);refine hKK _ _ (fun _=>HS.o _ HB7.o) ?_;clear hKK HI36 HI46 HB6;have HBr7:ae (sG wr.heap.size wr w7):=aa (HBq.o.trans (HB7.o.mono HBq.o.size));have HO7:=aa (HI.o.below HBr7.o);obtain⟨iR,hiR,hz0,hz1,hz2⟩:=tC Tryz.infoSide;have HlB:ae (w1.heap.size<=w7.heap.size):=aa (te HB.o.size HBr7.o.size);refine au rfl (by kernel_rfl) fun KK hKK=>?_;refine tL _ _ _ 98 rfl w1.heap.size 101 iR (.agg #[.slice none 0 0,.slice none 0 0,.bool false,.bool false]) 4 56 Tryz.underSides hiR hz0 hz1 hz2 rfl (by decide) (.slice vo i vc) i xs rfl HO7.o.own ⟨w6.heap.size,0,none⟩ 1 1 [sH lo n lc,.slice so m sc,.bool b1,.bool b2] rfl rfl HN7.o (fun u hu=>by simp at hu;rcases hu with h|h|h|h<;>rw[h]<;>rfl) (by decide) (by unfold uh;omega) (by omega) HlB.o w7.heap.size rfl ?_;intro g8 c8 w8 o8 gr8 hl8 hlt8;have HB8:ae (sG w1.heap.size w1 w8):=aa ((HB.o.trans (HBr7.o.mono HB.o.size)).trans ⟨gr8.os,gr8.tape,gr8.output,gr8.size,fun k hk=>gr8.block k (by have:=HlB.o;omega) (fun e=>by
    rcases HO7.o.own.2 with ⟨k1,_⟩|⟨q',cap,cur,k1,k2,_⟩
    ·rw[k1]at e;cases e
    ·rw[k1]at e;have e':k=q':=sZ e;omega)⟩)
   have HM8:ae (SdI w1.heap.size rs (i+1) (some ⟨g8,0,none⟩) c8 (sds++[⟨L,M,b1,b2⟩]) (xs++[sH lo n lc,.slice so m sc,.bool b1,.bool b2]) w8):=aa (by rw[HNL.o,HML.o]at o8⊢;exact HI.o.more (s:=⟨L,M,b1,b2⟩) HBr7.o HRi.o ⟨HF3.o,HF4.o,HV1.o,HV2.o⟩ (HI37.o.later (sM _ _) fun b h=>by rw[HQs.o];exact h) (HI47.o.later (sM _ _) fun b h=>by rw[HQs.o];exact h) HL3.o HL4.o o8 gr8 hl8);have HS8:ae (w8.cell? ⟨Q,3,none⟩=some (.int .i64 e0)/\w8.cell? ⟨Q,4,none⟩=some (.slice eo en ec)/\w8.cell? ⟨Q,5,none⟩=some (.slice ek em ep)/\w8.cell? ⟨Q,6,none⟩=some (.int .i64 f0)/\w8.cell? ⟨Q,7,none⟩=some (.slice fo fn fc)/\w8.cell? ⟨Q,8,none⟩=some (.slice fk fm fp)):=aa (by
    have h1:w8.heap[Q]?=w7.heap[Q]? :=gr8.block Q (by have:=ag HQ.o;have:=HB7.o.size;omega) (fun e=>by
     rcases HI.o.own.2 with ⟨k1,_⟩|⟨q',cap,cur,k1,_,k3,_⟩
     ·rw[k1]at e;cases e
     ·rw[k1]at e;have e':Q=q':=sZ e;have:=ag k3;have:=HQs.o;omega)
    obtain⟨a3,a4,a5,a6,a7,a8⟩:=HS.o w7 HB7.o;exact⟨(sK h1).trans a3,(sK h1).trans a4,(sK h1).trans a5,(sK h1).trans a6,(sK h1).trans a7,(sK h1).trans a8⟩)
   refine hKK _ _ (fun _=>HS8.o) ?_;clear hKK o8 gr8 hl8 hlt8;refine au rfl (by kernel_rfl) fun KK hKK=>?_;go_simp;refine hKK _ _ (fun _=>HS8.o) ?_;clear hKK;refine ba (sO ?_);go_wp2;go_roundw
   case rel=>exact⟨i+1,_,_,_,_,rfl,by go_num,by omega,HM8,HB8⟩
   case measure=>simp[tf];omega
  ·have i1:¬(i:Int)<(rn:Int):=by omega
   have HQ:ae (SsQ rs w (.returned (.slice vo i vc)) wr):=aa ⟨vo,vc,sds,by rw[show i=rs.length by have:=HRN.o;omega],by rw[HI.o.ln];have:=HRN.o;omega,HI.o.ok,HI.o.rd,HBw.o⟩;go_wp2;go_ret;exact HQ.o
end Pt
end
end Go.Proofs.YtbbapnpdfcgjnaaGreatDoor
