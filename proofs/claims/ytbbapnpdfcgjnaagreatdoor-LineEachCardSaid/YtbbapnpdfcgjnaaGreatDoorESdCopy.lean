/- SdCopy: parts of the proof, joined. -/
import Derived.Deep.AppendSrc
import Derived.Test.YtbbapnpdfcgjnaaGreatDoorEPtFun1
open Go renaming World->sR, heap_setCell_same->sS, Value->sU
open Go.Builtin renaming append_->sT
set_option maxHeartbeats 64000000
namespace Go.Proofs.YtbbapnpdfcgjnaaGreatDoor
section
open Go.RowKit
namespace Pt
theorem zsA{P:Program}{c:Code}{Q:Exit->Act->sR->Prop}{a:Act}{w:sR}(R:Act->sR->Prop)(h1:c.wp P (fun e a' w'=>e=.normal/\R a' w') a w)(h2:∀a' w',R a' w'->Q .normal a' w'):c.wp P Q a w:=
 Code.wp_mono (fun e a' w' h=>by obtain⟨rfl,h⟩:=h;exact h2 a' w' h) h1
def bf(L:List Int):List sU:=L.map fun z=>.int .i64 z
theorem zex(L:List Int):(bf L).length=L.length:=List.length_map ..
theorem zew(L:List Int):∀v∈bf L,v.oneCell'=true:=fun v hv=>by
 unfold bf at hv;obtain⟨x,_,rfl⟩:=List.mem_map.1 hv
 rfl
theorem dd{w:sR}{B e sz g n c:Nat}{xs:List sU}(h:w.ownsRow B e sz (.slice (some ⟨g,0,none⟩) n c) n xs):B<=g/\(∃cur,w.heap[g]?=some (.cells cur e (0,0)))/\n<=c/\∀(j:Nat)(u:sU),xs[j]?=some u->w.cell? ⟨g,j,none⟩=some u:=by
 rcases h.2 with ⟨h1,_⟩|⟨g',cap,cur,h1,h2,h3,h4,h5,h6,h7⟩
 ·cases h1
 ·cases h1
  refine⟨h2,⟨cur,h3⟩,h4,fun j u hj=>?_⟩
  have hl:=h.1;have hjl:=(List.getElem?_eq_some_iff.1 hj).1;rw[cell_of_row w g j cur _ _ h3];rw[<- h7,List.getElem?_take_of_lt (by omega)]at hj
  simpa using hj
theorem zls{B H:Nat}{w:sR}(hown:w.ownsRow B 3 1 (.slice (some ⟨H,0,none⟩) 0 0) 0 [])(ty:TypeId){fo:Option Addr}{fn fc:Nat}{F:List Int}(hF:RdI w fo F)(hfn:fn=F.length)(hl:fn<=1000000000000)(hB:B<=w.heap.size):
  ∃g cap w',(sT #[23,23] ty #[.slice (some ⟨H,0,none⟩) 0 0,.slice fo fn fc]).run Tryz.prog w=.ok (.slice (some ⟨g,0,none⟩) fn cap) w'/\w'.ownsRow B 3 1 (.slice (some ⟨g,0,none⟩) fn cap) fn (bf F)/\w.grownBy w' (some H)/\(g=H\/g=w.heap.size)/\g<w'.heap.size:=by
 obtain⟨i,hi,hz,hsize,hby⟩:=info_parts Tryz.info3
 by_cases h0:fn=0
 ·subst h0
  have hF0:F=[]:=List.eq_nil_of_length_eq_zero hfn.symm;subst hF0;have hs:Src Tryz.prog i.size 23 (.slice fo 0 fc) 0 [] w:=by
   cases fo with
   |none=>exact Src.ofNil w Tryz.underlying23 fc
   |some a=>exact Src.ofSlice w Tryz.underlying23 a 0 fc [] (by simp) (fun j u hj=>by simp at hj) (fun u hu=>by simp at hu)
  have hr:(sT #[23,23] ty #[.slice (some ⟨H,0,none⟩) 0 0,.slice fo 0 fc]).run Tryz.prog w=.ok (.slice (some ⟨H,0,none⟩) 0 0) w:=by
   simp[sT,run_underlying Tryz.underlying23,sizeOf,typeInfo,hi,hs.len,hs.cells,storeCells]
  exact⟨H,0,w,hr,hown,⟨rfl,rfl,rfl,Nat.le_refl _,fun _ _ _=>rfl⟩,.inl rfl,(hown.lt H rfl).2⟩
 ·obtain⟨a,rfl,_,_⟩:=hF 0 F[0] (List.getElem?_eq_getElem (by omega))
  obtain⟨g,cap,w',hr,h2,h3,h4,h5⟩:=run_append_lies (P:=Tryz.prog) w 23 ty B 3 i (.int .i64 0) 1 8 Tryz.underlying23 hi hz hsize hby rfl (by decide) (.slice (some ⟨H,0,none⟩) 0 0) 0 [] hown a fn fc (bf F) (by rw[zex,hfn,Nat.mul_one]) (fun j u hj=>by
   unfold bf at hj;rw[List.getElem?_map]at hj;obtain⟨z,hz1,hz2⟩:=Option.map_eq_some_iff.1 hj;obtain⟨a',e,_,h⟩:=hF j z hz1
   cases e
   rw[h,hz2]) (zew F) (by omega) (by unfold maxLen;omega) (by omega) hB w.heap.size rfl
  refine⟨g,cap,w',by simpa using hr,by simpa using h2,h3,?_,h5⟩
  rcases h4 with h|h
  ·exact .inl (Option.some.inj h).symm
  ·exact .inr h
theorem sJ{w:sR}{o:Oper}{a:Act}{K:Act->sR->Prop}{Q:Exit->Act->sR->Prop}(s x:Operand)(ho:o.op=.call {callee:=.builtin .append,args:=#[s,x],argTypes:=#[23,23]})(B H:Nat)(hs:a.eval s=.slice (some ⟨H,0,none⟩) 0 0)(hown:w.ownsRow B 3 1 (.slice (some ⟨H,0,none⟩) 0 0) 0 [])(fo:Option Addr)(fn fc:Nat)(F:List Int)(hx:a.eval x=.slice fo fn fc)(hF:RdI w fo F)(hfn:fn=F.length)(hl:fn<=1000000000000)(hB:B<=w.heap.size)
  (h:∀g cap w',w'.ownsRow B 3 1 (.slice (some ⟨g,0,none⟩) fn cap) fn (bf F)->w.grownBy w' (some H)->(g=H\/g=w.heap.size)->g<w'.heap.size->K (a.put o.dst (.slice (some ⟨g,0,none⟩) fn cap)) w'):o.wp Tryz.prog a w K Q:=by
 obtain⟨g,cap,w',hr,h2,h3,h4,h5⟩:=zls hown o.type (fc:=fc) hF hfn hl hB;unfold Oper.wp execOp
 simp only[ho,resolve,invoke,builtin,Sem.run_bind,Sem.run_pure,Result.andThen_ok,List.map_toArray,List.map_cons,List.map_nil,hs,hx,hr]
 exact h g cap w' h2 h3 h4 h5
def gY(w:sR)(X:Nat->Prop)(ao:Option Addr)(l:List Int):Prop:=∀(k:Nat)(z:Int),l[k]?=some z->∃a:Addr,ao=some a/\a.block<w.heap.size/\¬X a.block/\w.cell? (a.add k)=some (.int .i64 z)
mutual
def dU(w:sR)(X:Nat->Prop):az->sU->sU->sU->Prop
 | .mk op cls kids,v0,v1,v2=>v0=.int .i64 op/\(∃co cc,v1=.slice co cls.length cc/\gY w X co cls/\cls.length<=1000000)/\(∃ko kc,v2=.slice ko kids.length kc/\fE w X kids ko 0/\kids.length<=1000000/\kids.length<=kc)
def fE(w:sR)(X:Nat->Prop):List az->Option Addr->Nat->Prop
 |[],_,_=>True
 |p::ps,ko,i=>(∃b o,ko=some ⟨b,o,none⟩/\b<w.heap.size/\¬X b/\∃v0 v1 v2,w.cell? ⟨b,o+i*3,none⟩=some v0/\w.cell? ⟨b,o+i*3+1,none⟩=some v1/\w.cell? ⟨b,o+i*3+2,none⟩=some v2/\dU w X p v0 v1 v2)/\fE w X ps ko (i+1)
end
theorem gY.rd{w:sR}{X:Nat->Prop}{ao:Option Addr}{l:List Int}(h:gY w X ao l):RdI w ao l:=fun k z hz=>by
 obtain⟨a,h1,h2,_,h4⟩:=h k z hz;exact⟨a,h1,h2,h4⟩
mutual
theorem dU.rd{w:sR}{X:Nat->Prop}:∀(p:az)(v0 v1 v2:sU),dU w X p v0 v1 v2->cC w p v0 v1 v2
 | .mk op cls kids,v0,v1,v2,h=>by
  unfold dU at h;unfold cC;obtain⟨h1,⟨co,cc,h2,h3,h4⟩,ko,kc,h5,h6,h7⟩:=h;exact⟨h1,⟨co,cc,h2,h3.rd,h4⟩,ko,kc,h5,fE.rd kids ko 0 h6,h7⟩
theorem fE.rd{w:sR}{X:Nat->Prop}:∀(ps:List az)(ko:Option Addr)(i:Nat),fE w X ps ko i->gz w ps ko i
 |[],_,_,_=>by unfold gz;trivial
 |p::ps,ko,i,h=>by
  unfold fE at h;unfold gz;obtain⟨⟨b,o,h1,h2,_,v0,v1,v2,h3,h4,h5,h6⟩,h7⟩:=h;exact⟨⟨b,o,h1,h2,v0,v1,v2,h3,h4,h5,dU.rd p _ _ _ h6⟩,fE.rd ps ko (i+1) h7⟩
end
structure KpX(w w':sR)(X X':Nat->Prop):Prop where
 size:w.heap.size<=w'.heap.size
 block:∀k,k<w.heap.size->¬X k->w'.heap[k]?=w.heap[k]?
 sub:∀k,k<w.heap.size->X' k->X k
theorem KpX.cell{w w':sR}{X X':Nat->Prop}(h:KpX w w' X X'){p:Addr}{v:sU}(hp:p.block<w.heap.size)(hx:¬X p.block)(hc:w.cell? p=some v):w'.cell? p=some v:=(sR.cell?_of_block (h.block p.block hp hx)).trans hc
theorem gY.keep{w w':sR}{X X':Nat->Prop}{ao:Option Addr}{l:List Int}(h:gY w X ao l)(hk:KpX w w' X X'):gY w' X' ao l:=fun k z hz=>by
 obtain⟨a,h1,h2,h3,h4⟩:=h k z hz;exact⟨a,h1,Nat.lt_of_lt_of_le h2 hk.size,fun hx=>h3 (hk.sub _ h2 hx),hk.cell (p:=a.add k) (by rw[add_blk];exact h2) (by rw[add_blk];exact h3) h4⟩
mutual
theorem dU.keep{w w':sR}{X X':Nat->Prop}(hk:KpX w w' X X'):∀(p:az)(v0 v1 v2:sU),dU w X p v0 v1 v2->dU w' X' p v0 v1 v2
 | .mk op cls kids,v0,v1,v2,h=>by
  unfold dU at h⊢;obtain⟨h1,⟨co,cc,h2,h3,h4⟩,ko,kc,h5,h6,h7⟩:=h;exact⟨h1,⟨co,cc,h2,h3.keep hk,h4⟩,ko,kc,h5,fE.keep hk kids ko 0 h6,h7⟩
theorem fE.keep{w w':sR}{X X':Nat->Prop}(hk:KpX w w' X X'):∀(ps:List az)(ko:Option Addr)(i:Nat),fE w X ps ko i->fE w' X' ps ko i
 |[],_,_,_=>by unfold fE;trivial
 |p::ps,ko,i,h=>by
  unfold fE at h⊢;obtain⟨⟨b,o,h1,h2,hx,v0,v1,v2,h3,h4,h5,h6⟩,h7⟩:=h;have hc:∀k v,w.cell? ⟨b,k,none⟩=some v->w'.cell? ⟨b,k,none⟩=some v:=fun k v hv=>hk.cell (p:=⟨b,k,none⟩) h2 hx hv
  exact⟨⟨b,o,h1,Nat.lt_of_lt_of_le h2 hk.size,fun h=>hx (hk.sub _ h2 h),v0,v1,v2,hc _ _ h3,hc _ _ h4,hc _ _ h5,dU.keep hk p _ _ _ h6⟩,fE.keep hk ps ko (i+1) h7⟩
end
theorem fE.of{w:sR}{X:Nat->Prop}(g:Nat)(hg:g<w.heap.size)(hx:¬X g):∀(ps:List az)(i:Nat),(∀(j:Nat)(p:az),ps[j]?=some p->∃v0 v1 v2,w.cell? ⟨g,(i+j)*3,none⟩=some v0/\w.cell? ⟨g,(i+j)*3+1,none⟩=some v1/\w.cell? ⟨g,(i+j)*3+2,none⟩=some v2/\dU w X p v0 v1 v2)->fE w X ps (some ⟨g,0,none⟩) i
 |[],_,_=>by unfold fE;trivial
 |p::ps,i,h=>by
  unfold fE;refine⟨⟨g,0,rfl,hg,hx,?_⟩,fE.of g hg hx ps (i+1) fun j q hj=>?_⟩
  ·simp only[Nat.zero_add]
   exact h 0 p rfl
  ·have:=h (j+1) q (by simpa using hj)
   rw[show i+1+j=i+(j+1) by omega]
   exact this
def st3(W:sR)(p:Nat)(v0 v1 v2:sU):sR:=((W.setCell ⟨p,0,none⟩ v0).setCell ⟨p,1,none⟩ v1).setCell ⟨p,2,none⟩ v2
theorem zae{W:sR}{p:Nat}{x0 x1 x2 v0 v1 v2:sU}{t:TypeId}(h:W.heap[p]?=some (.cells #[x0,x1,x2] t (0,0))):(st3 W p v0 v1 v2).heap[p]?=some (.cells #[v0,v1,v2] t (0,0)):=by
 have e1:=sS W p 0 _ t v0 h;have e2:=sS _ p 1 _ t v1 e1;exact sS _ p 2 _ t v2 e2
theorem nL(W:sR)(p:Nat)(v0 v1 v2:sU):dm p W (st3 W p v0 v1 v2):=((dm.set p 0 W v0).trans (dm.set p 1 _ v1)).trans (dm.set p 2 _ v2)
theorem Tryz.infoPat:(Tryz.prog.info? 105).map (fun i=>(i.zero,i.size,i.bytes))=some (some (.agg #[.int .i64 0,.slice none 0 0,.slice none 0 0]),3,56):=by kernel_rfl
theorem Tryz.underPats:Tryz.prog.underlying 103=some (.slice 105):=by kernel_rfl
end Pt
end
end Go.Proofs.YtbbapnpdfcgjnaaGreatDoor
