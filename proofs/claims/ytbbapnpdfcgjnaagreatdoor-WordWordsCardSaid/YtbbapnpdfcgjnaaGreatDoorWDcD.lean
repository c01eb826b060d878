/- DcD: parts of the proof, joined. -/
import Derived.StillTail
import Derived.Deep.RegionHeld3
import Derived.Lib.AtoiErrMem
import Derived.Test.YtbbapnpdfcgjnaaGreatDoorWDcC
open List renaming getElem?_eq_getElem->sD, getElem?_eq_some_iff->sE, getD_eq_getElem?_getD->sJ, eq_nil_or_concat->sK, concat_eq_append->sL, length_cons->sM, getElem?_append_left->sP, mem_cons->sQ, getElem?_drop->sS, length_drop->sW, getD->sX, mem_append->sY, getElem?_set_ne->sZ, getElem?_set_self->tc, idxOf_lt_length_of_mem->td, getElem?_append_right->te, length_take->tg, drop_drop->tk, append_inj'->tr, any_eq_true->tu, length_nil->tz, dropWhile_cons->tB, length_append->tC, length_set->tK, mem_iff_getElem?->tM, getElem?_eq_none->tN, mem_range->tP, getElem_idxOf->tY, mem_filter->ug, range->uh, drop_take->uk, mem_map->ux, length->uz
open Go.Exit renaming inBlock->sG
open Go renaming bodyPost_ret->sH, World->sO, wpList_append_own->tp, Value->tw, ownsRow_setCell_other->tL, Calls->tS, getD_set_ne->ua, ready_mono->ui, wpOp_mono->ut, mem_ready->uu, Program->uv, yielded->uw
open UInt8 renaming toNat_inj->sI
open Option.some renaming injEq->sN
open Bool renaming and_eq_true->sR, not_eq_true'->tE, or_eq_false_iff->tR
open Go.World renaming ownsRow_nil->sT, setCell->uq
open Go.RowKit.Below renaming refl->sU, heap_setCell->tX
open Nat renaming le_refl->sV, lt_or_ge->tf, zero_le->tU, add_assoc->tV, lt_of_lt_of_le->tW, add_zero->tZ, le_trans->t6, lt_irrefl->un
open Go.Region renaming ready->ta, Mode->tD, wanted->tG, binds->tI, noSelect_spec->tQ, free_spec->t7, waitsFor->ud, noSelect->ue, free->uy
open Go.RowKit renaming intOf->ti, Below->tn
open Array renaming getElem?_eq_none->tj, setIfInBounds_comm->tF, replicate->uf
open Go.IntKind renaming wrap_i64->tq, i64->tT, wrap_i32->t8, i32->uB
open Option renaming map_some->tA, map_eq_none_iff->tJ
open Prod.mk renaming injEq->tH
open Go.Lib renaming bytesWorld_at_new->tO, bytesWorld->ul, decodeL_N->um
set_option maxHeartbeats 64000000
namespace Go.Proofs.YtbbapnpdfcgjnaaGreatDoor
namespace Dc
section
variable {P:uv} {ops:Array Oper} {Q:Exit->Act->sO->Prop} {md:tD} {S:sO->Prop} {fin:Nat->Bool}
def Region.finB(md:tD)(ops:Array Oper)(fin:Nat->Bool)(i:Nat):Bool:= !fin i&&(uh ops.size).all fun j=> !fin j||ud md ops j i
theorem finB_spec{i:Nat}(hs:∀j,fin j=true->j<ops.size)(h:Region.finB md ops fin i=true):fin i=false/\∀j,fin j=true->ud md ops j i=true:=by
 simp only[Region.finB,sR,tE,List.all_eq_true,tP,Bool.or_eq_true]at h;refine⟨h.1,fun j hj=>?_⟩;rcases h.2 j (hs j hj)with h5|h5
 ·rw[hj]at h5;cases h5
 ·exact h5
end
end Dc
namespace Dc
section
variable {P:uv} {ops:Array Oper} {Q:Exit->Act->sO->Prop} {md:tD} {S T:sO->Prop} {fin:Nat->Bool}
def Clean(fin:Nat->Bool)(listed:Array Bool):Prop:=∀j,fin j=true->listed.getD j false=false
theorem Clean.of_set{listed:Array Bool}{i:Nat}(h:Clean fin (listed.setIfInBounds i true)):Clean fin listed:=fun j hj=>by
 have h5:=h j hj;by_cases e:i=j
 ·subst e;rcases tf i listed.size with h'|h'
  ·simp[h']at h5
  ·simp[tj h']
 ·rw[ua false e]at h5;exact h5
theorem Clean.set{listed:Array Bool}{i:Nat}(h:Clean fin listed)(hf:fin i=false):Clean fin (listed.setIfInBounds i true):=fun j hj=>by
 by_cases e:i=j
 ·subst e;rw[hf]at hj;cases hj
 ·rw[ua false e];exact h j hj
def anyU(P:uv)(md:tD)(ops:Array Oper)(Q:Exit->Act->sO->Prop)(S T:sO->Prop)(fin:Nat->Bool):Nat->Array Bool->Act->sO->Prop
 |0,listed,a,w=>ta md ops listed=[]/\Q .normal a w
 |f+1,listed,a,w=>(ta md ops listed=[]->Q .normal a w)∧
   ∀i∈ta md ops listed,wpOp P ops Q i (fun a' w'=>((Clean fin (listed.setIfInBounds i true)->S w')/\T w')/\anyU P md ops Q S T fin f (listed.setIfInBounds i true) a' w') a w
theorem anyU_any:∀(f:Nat)(listed:Array Bool)(a:Act)(w:sO),anyU P md ops Q S T fin f listed a w->wpAny P md ops Q f listed a w
 |0,_,_,_,h=>h
 |f+1,_,_,_,h=>⟨h.1,fun i hi=>ut (fun a' w' h'=>anyU_any f _ a' w' h'.2) (h.2 i hi)⟩
theorem anyU_first{R:sO->Prop}{i:Nat}{oi:Oper}{v:tw}(C:Array Bool->Prop)(hi:ops[i]?=some oi)(hfi:fin i=false)(hsel:∀(j:Nat)(o:Oper) cs b,ops[j]?=some o->o.op≠ .select cs b)
  (hQ:∀c a w,Q (.panic c) (a.put oi.dst v) w->Q (.panic c) a w) (hC:∀listed j oj,C listed->ops[j]?=some oj->(∀e∈oj.after,tI md e=true->e.on≠i)->C (listed.setIfInBounds j true))
  (hR:∀listed w,C listed->(Clean fin listed->S w)->T w->R w):
  ∀(f:Nat)(listed:Array Bool)(a:Act)(w:sO),C listed->
   (∀j oj,ops[j]?=some oj->j≠i->listed.getD j true=false->(∀e∈oj.after,tI md e=true->e.on≠i)->oi.apart ops oj=true)->
   i∈ta md ops listed->YieldsIf P ops R oi v a->(Clean fin listed->S w)->T w->
   anyU P md ops Q S T fin f (listed.setIfInBounds i true) (a.put oi.dst v) w->anyU P md ops Q S T fin (f+1) listed a w:=by
 intro f
 induction f with
 |zero=>
  intro listed a w hc _ hr hy hS hT H;refine⟨fun h=>(by rw[h]at hr;cases hr),fun j hj=>?_⟩;by_cases hji:j=i
  ·subst hji;exact hy.wpOp hi (hR _ _ hc hS hT) ⟨⟨fun h=>hS h.of_set,hT⟩,H⟩
  ·have h9:=ui hj hji;rw[H.1]at h9;cases h9
 |succ f ih=>
  intro listed a w hc hfree hr hy hS hT H;refine⟨fun h=>(by rw[h]at hr;cases hr),fun j hj=>?_⟩;by_cases hji:j=i
  ·subst hji;exact hy.wpOp hi (hR _ _ hc hS hT) ⟨⟨fun h=>hS h.of_set,hT⟩,H⟩
  ·have h1:=H.2 j (ui hj hji);obtain⟨hjun,oj,hoj,hall⟩:=uu.1 hj;have hnot:∀e∈oj.after,tI md e=true->e.on≠i:=fun e he hb heq=>by
    have h5:=hall e he hb;have h0:=(uu.1 hr).1;rw[heq]at h5;rcases tf i listed.size with h'|h'
    ·simp[h']at h0 h5;rw[h0]at h5;cases h5
    ·simp[tj h']at h5
   have h2:=wpOp_putIf hoj (hfree j oj hoj hji hjun hnot) (fun cs b=>hsel i oi cs b hi) (fun cs b=>hsel j oj cs b hoj) hQ hy h1;have hfree':∀k ok,ops[k]?=some ok->k≠i->(listed.setIfInBounds j true).getD k true=false->
     (∀e∈ok.after,tI md e=true->e.on≠i)->oi.apart ops ok=true:=fun k ok hk hki hun hno=>by
    refine hfree k ok hk hki ?_ hno;by_cases hjk:j=k
    ·subst hjk;exact hjun
    ·rw[ua true hjk]at hun;exact hun
   refine ut (fun a' w' h3=>?_) h2;have hcl:Clean fin (listed.setIfInBounds j true)->S w':=fun h=>h3.2.1.1 (by rw[tF _ _ (Ne.symm hji)];exact h.set hfi);refine⟨⟨hcl,h3.2.1.2⟩,ih (listed.setIfInBounds j true) a' w' (hC _ _ _ hc hoj hnot) hfree' (ui hr (Ne.symm hji)) h3.1 hcl h3.2.1.2 ?_⟩;rw[tF _ _ hji];exact h3.2.2
def Region.mixC(md:tD)(ops:Array Oper)(fin:Nat->Bool):Bool->List (Nat×Nat)->Array Bool->Bool
 |_,[],listed=>ta md ops listed== []
 |d,(k,0)::r,listed=> !d&&(ta md ops listed).contains k&&uy md ops listed k&&Region.finB md ops fin k&&Region.mixC md ops fin d r (listed.setIfInBounds k true)
 |d,(k,1)::r,listed=>(ta md ops listed).contains k&&uy md ops listed k&& !fin k&&Region.mixC md ops fin d r (listed.setIfInBounds k true)
 |d,(k,_+2)::r,listed=>(ta md ops listed== [k])&&Region.mixC md ops fin (d||fin k) r (listed.setIfInBounds k true)
def dw(P:uv)(ops:Array Oper)(Q:Exit->Act->sO->Prop)(S T:sO->Prop)(fin:Nat->Bool):Bool->List (Nat×Nat)->Act->sO->Prop
 |_,[],a,w=>Q .normal a w
 |d,(k,0)::r,a,w=>∃o v,ops[k]?=some o/\YieldsIf P ops S o v a/\dw P ops Q S T fin d r (a.put o.dst v) w
 |d,(k,1)::r,a,w=>∃o v,ops[k]?=some o/\YieldsIf P ops T o v a/\dw P ops Q S T fin d r (a.put o.dst v) w
 |d,(k,_+2)::r,a,w=>∃o,ops[k]?=some o/\if tG o (uw ops a.tmps)=true then o.wp P a w (fun a' w'=>(((d||fin k)=false->S w')/\T w')/\dw P ops Q S T fin (d||fin k) r a' w') Q else (((d||fin k)=false->S w)/\T w)/\dw P ops Q S T fin (d||fin k) r (a.put o.dst undef) w
theorem lY(hsel:ue ops=true)(hs:∀j,fin j=true->j<ops.size)(hQ:∀c (a:Act) d v w,Q (.panic c) (a.put d v) w->Q (.panic c) a w):
  ∀(l:List (Nat×Nat))(d:Bool)(listed:Array Bool)(a:Act)(w:sO),Region.mixC md ops fin d l listed=true->(d=false ↔ Clean fin listed)->(Clean fin listed->S w)->T w->dw P ops Q S T fin d l a w->anyU P md ops Q S T fin l.length listed a w
 |[],d,listed,a,w,hB,_,_,_,h=>⟨by simpa[Region.mixC]using hB,h⟩
 |(k,0)::r,d,listed,a,w,hB,hd,hS,hT,h=>by
  simp only[Region.mixC,sR,tE]at hB;obtain⟨⟨⟨⟨hd0,hr⟩,hf⟩,hfb⟩,hB'⟩:=hB;obtain⟨hf1,hf2⟩:=finB_spec hs hfb;obtain⟨o,v,h0,hy,hK⟩:=h;have hcl:=hd.1 hd0;refine anyU_first (R:=S) (Clean fin) h0 hf1 (tQ hsel) (fun c a w=>hQ c a _ _ w) (fun ls j oj hc hoj hno=>hc.set ?_) (fun _ w hc hS _=>hS hc) r.length listed a w hcl (t7 h0 hf) (by simpa using hr) hy hS hT
   (lY hsel hs hQ r d _ _ w hB' ⟨fun _=>hcl.set hf1,fun _=>hd0⟩ (fun h=>hS h.of_set) hT hK)
  cases hfj:fin j with
  |false=>rfl
  |true=>obtain⟨ok,hok,e,he,hb,heq⟩:=Region.waitsFor_spec (hf2 j hfj);rw[hoj]at hok;cases hok;exact absurd heq (hno e he hb)
 |(k,1)::r,d,listed,a,w,hB,hd,hS,hT,h=>by
  simp only[Region.mixC,sR,tE]at hB;obtain⟨⟨⟨hr,hf⟩,hf1⟩,hB'⟩:=hB;obtain⟨o,v,h0,hy,hK⟩:=h;exact anyU_first (R:=T) (fun _=>True) h0 hf1 (tQ hsel) (fun c a w=>hQ c a _ _ w) (fun _ _ _ _ _ _=>trivial) (fun _ _ _ _ hT=>hT) r.length listed a w trivial (t7 h0 hf) (by simpa using hr) hy hS hT
   (lY hsel hs hQ r d _ _ w hB' ⟨fun h=>(hd.1 h).set hf1,fun h=>hd.2 h.of_set⟩ (fun h=>hS h.of_set) hT hK)
 |(k,m+2)::r,d,listed,a,w,hB,hd,hS,hT,h=>by
  simp only[Region.mixC,sR,beq_iff_eq]at hB;obtain⟨hr,hB'⟩:=hB;obtain⟨o,h0,h⟩:=h;refine⟨fun h1=>(by rw[hr]at h1;cases h1),fun i hi=>?_⟩;have hkr:=hi;rw[hr]at hi;have hik:i=k:=by simpa using hi
  subst hik;have hlt:i<listed.size:=by
   have h5:=(uu.1 hkr).1;rcases tf i listed.size with h'|h'
   ·exact h'
   ·simp[tj h']at h5
  have hdc:(d||fin i)=false ↔ Clean fin (listed.setIfInBounds i true):=by
   constructor
   ·intro h5;rw[tR]at h5;exact(hd.1 h5.1).set h5.2
   ·intro h5;rw[tR];refine⟨hd.2 h5.of_set,?_⟩;cases hfi:fin i with
    |false=>rfl
    |true=>have h6:=h5 i hfi;simp[hlt]at h6
  have hw:wpOp P ops Q i (fun a' w'=>(((d||fin i)=false->S w')/\T w')/\dw P ops Q S T fin (d||fin i) r a' w') a w:=by
   unfold wpOp;simp only[h0];split
   ·rename_i hc;rw[if_pos hc]at h;exact .inl h
   ·rename_i hc;rw[if_neg hc]at h;exact h
  exact ut (fun a' w' h'=>⟨⟨fun h5=>h'.1.1 (hdc.2 h5),h'.1.2⟩,lY hsel hs hQ r _ _ a' w' hB' hdc (fun h5=>h'.1.1 (hdc.2 h5)) h'.1.2 h'.2⟩) hw
theorem eE{id:Nat}{a:Act}{w:sO}{l:List Oper}(ord:List (Nat×Nat))(S T:sO->Prop)(fin:Nat->Bool)(hm:P.follows .mixedOrders=true)(hsel:ue l.toArray=true)(hs:∀j,fin j=true->j<l.length)
  (hlen:ord.length=l.length) (hB:Region.mixC .any l.toArray fin false ord (uf l.length false)=true) (hS:S w.drew) (hT:T w.drew)
  (h:dw P l.toArray (NoPanic Q) S T fin false ord a w.drew):(Code.region id l.toArray true).wp P Q a w:=by
 refine wp_region_noPanic (wp_region_any hm (anyU_any (S:=S) (T:=T) (fin:=fin) _ _ _ _ ?_));have H:=lY (P:=P) (ops:=l.toArray) (Q:=NoPanic Q) (md:=.any) (S:=S) (T:=T) (fin:=fin) hsel (by simpa using hs) (fun _ _ _ _ _ h=>h) ord false (uf l.length false) a w.drew hB
  ⟨fun _ j hj=>(by have h5:=hs j hj;simp[h5]),fun _=>rfl⟩ (fun _=>hS) hT h
 rw[hlen]at H;simpa using H
theorem zgM{d:Bool}{o:Oper}{k:Nat}{r:List (Nat×Nat)}{a:Act}{w:sO}(v:tw)(h0:ops[k]?=some o)(hw:tG o (uw ops a.tmps)=true)(h1:∀w,S w->(execOp a.eval o).run P w=.ok (.value v) w)(h2:dw P ops Q S T fin d r (a.put o.dst v) w):dw P ops Q S T fin d ((k,0)::r) a w:=
 ⟨o,v,h0,.inl ⟨hw,h1⟩,h2⟩
theorem mI{d:Bool}{o:Oper}{k:Nat}{r:List (Nat×Nat)}{a:Act}{w:sO}(v:tw)(h0:ops[k]?=some o)(hw:tG o (uw ops a.tmps)=true)(h1:∀w,T w->(execOp a.eval o).run P w=.ok (.value v) w)(h2:dw P ops Q S T fin d r (a.put o.dst v) w):dw P ops Q S T fin d ((k,1)::r) a w:=
 ⟨o,v,h0,.inl ⟨hw,h1⟩,h2⟩
theorem js{d:Bool}{o:Oper}{k:Nat}{r:List (Nat×Nat)}{a:Act}{w:sO}(h0:ops[k]?=some o)(hw:tG o (uw ops a.tmps)=true)(h:∀K:Act->sO->Prop,(∀a w,((d||fin k)=false->S w)->T w->dw P ops Q S T fin (d||fin k) r a w->K a w)->o.wp P a w K Q):dw P ops Q S T fin d ((k,2)::r) a w:=by refine⟨o,h0,?_⟩;rw[if_pos hw];exact h _ fun _ _ h1 h2 h3=>⟨⟨h1,h2⟩,h3⟩
theorem qa{d:Bool}{a:Act}{w:sO}(h:Q .normal a w):dw P ops Q S T fin d [] a w:=h
end
end Dc
namespace Dc
open Go.RowKit
theorem jh{w:sO}{B t s n:Nat}{v:tw}{xs:List tw}(h:w.ownsRow B t s v n xs){x:Nat}(e:v.ownBlock=some x):∃cs,w.heap[x]?=some (.cells cs t (0,0)):=by
 rcases h.2 with ⟨h0,_⟩|⟨g,cap,cur,hv,_,hg,_⟩
 ·rw[h0]at e;cases e
 ·rw[hv]at e;have:g=x:=by simpa[tw.ownBlock]using e
  subst this;exact⟨_,hg⟩
theorem pJ{w:sO}{B t s n B' t' s' n':Nat}{v v':tw}{xs xs':List tw}(h:w.ownsRow B t s v n xs)(h':w.ownsRow B' t' s' v' n' xs')(ht:t≠t'){x:Nat}(e:v.ownBlock=some x):v'.ownBlock≠some x:=fun e'=>by obtain⟨c1,k1⟩:=jh h e;exact bj h' x c1 t k1 (fun e=>ht e.symm) e'
theorem lR(l:List UInt8)(k:Nat):(⟨l.toArray⟩:ByteArray).extract 0 k=⟨(l.take k).toArray⟩:=by have h5:=zci l 0 k;simpa using h5
end Dc
namespace Dc
open Go.RowKit
theorem zqK(l:List UInt8)(i:Nat)(hi:i<l.length)(h:(iB l i).2.2=true):l[i]=39/\stp (l.drop i)=(iB l i).2.1+2:=by
 unfold iB at h⊢;split at h
 ·rename_i c;rw[if_pos c];obtain⟨c1,c2,c3,c4⟩:=c;rw[zby hi,decide_eq_true_iff]at c1;refine⟨c1,?_⟩;unfold stp;rw[if_pos]
  ·rw[tk]
  ·refine⟨?_,?_,?_,?_⟩
   ·rw[sJ,sS,tZ,sD hi];exact c1
   ·rw[tk];omega
   ·rw[tk,sW];omega
   ·rw[tk,sJ,sS,<-sJ,<-tV];exact c4
 ·cases h
theorem zuw(l:List UInt8)(i:Nat)(hi:i<l.length)(h:(iB l i).2.2=false):stp (l.drop i)=1:=by
 unfold iB at h;split at h
 ·cases h
 ·rename_i c;unfold stp;rw[if_neg];rintro ⟨c1,c2,c3,c4⟩;apply c;rw[tk]at c2 c3 c4;refine⟨?_,by omega,by rw[sW]at c3;omega,?_⟩
  ·rw[zby hi,decide_eq_true_iff];rw[sJ,sS,tZ,sD hi]at c1;exact c1
  ·rw[sJ,sS,<-sJ,<-tV]at c4;exact c4
def ctF(l:List UInt8):Nat->Nat->Int->Nat×Int
 |0,i,s=>(i,s)
 |f+1,i,s=>if i<l.length/\l.getD i 0≠35 then ctF l f (i+stp (l.drop i)) (if l.getD i 0=59/\s<0 then (i:Int)else s)else (i,s)
def mg(l:List UInt8):Nat×Int:=ctF l (l.length+1) 0 (-1)
theorem zjq(l:List UInt8):∀(f i:Nat)(s:Int),(ctF l f i s).1=iO 35 l f i
 |0,_,_=>rfl
 |f+1,i,s=>by
  show(if _ then ctF l f (i+stp (l.drop i)) _ else (i,s)).1=(if _ then iO 35 l f (i+stp (l.drop i))else i);split
  ·exact zjq l f _ _
  ·rfl
theorem zjo(l:List UInt8):(mg l).1=fi 35 l:=zjq l _ _ _
def Ctg(l:List UInt8)(i:Nat)(s:Int):Prop:=∃f,l.length<f+i/\ctF l f i s=mg l
theorem Ctg.step{l:List UInt8}{i:Nat}{s:Int}(h:Ctg l i s)(hi:i<l.length)(hb:l[i]≠35):Ctg l (i+stp (l.drop i)) (if l[i]=59/\s<0 then (i:Int)else s):=by
 obtain⟨f,h1,h2⟩:=h;obtain⟨f,rfl⟩:∃f',f=f'+1:=⟨f-1,by omega⟩;have hg:l.getD i 0=l[i]:=by simp[sX,hi]
 have h5:=oh (l.drop i);unfold ctF at h2;rw[hg,if_pos ⟨hi,hb⟩]at h2;exact⟨f,by omega,h2⟩
theorem Ctg.stop{l:List UInt8}{i:Nat}{s:Int}(h:Ctg l i s)(hi:i=l.length\/l.getD i 0=35)(hle:i<=l.length):mg l=(i,s):=by obtain⟨f,h1,h2⟩:=h;obtain⟨f,rfl⟩:∃f',f=f'+1:=⟨f-1,by omega⟩;unfold ctF at h2;rw[if_neg (fun h5=>by rcases hi with hi|hi;omega;exact h5.2 hi)]at h2;exact h2.symm
set_option maxRecDepth 100000 in
theorem zno(l:List UInt8)(w:sO)(hl:l.length<=100000):
  tS Tryz.prog 132 #[.string ⟨l.toArray⟩] w fun e w'=>e=.returned (.tuple #[.string ⟨(l.take (mg l).1).toArray⟩,.int .i64 (mg l).2])/\tn w.heap.size w w':=by
 have HSZ:ae ((⟨l.toArray⟩:ByteArray).size=l.length):=aa (by show l.toArray.size=_;simp);go_enter Tryz.func132,Tryz.ntmps132;go_wp2;go_loopw [4,5,6,7,8] (fun x y _ _ _ wr=>∃(i:Nat)(s:Int),x=.int .i64 s/\y=.int .i64 (i:Int)/\i<=l.length/\ -1<=s/\ae (Ctg l i s)/\tn w.heap.size w wr) (fun _ y _ _ _ _=>l.length-(ti y).toNat)
 case atStart=>exact⟨0,-1,rfl,rfl,by omega,by omega,⟨l.length+1,by omega,rfl⟩,sU _ _⟩
 case round=>
  obtain⟨i,s,rfl,rfl,hi,hs,HC,hBr⟩:=hrel;have HBr:=aa hBr;clear hBr;by_cases hlt:i<l.length
  ·have hszk:i<(⟨l.toArray⟩:ByteArray).size:=by rw[HSZ.o];exact hlt
   have i3:(i:Int)<(l.length:Int):=by omega
   have i4:(i:Int)<=(l.length:Int):=by omega
   have i0':(0:Int)<=(i:Int):=by omega
   have hq:(⟨l.toArray⟩:ByteArray)[i]'hszk=l[i]:=rfl;have HQ:=aa (nA l i wr hi hl);have HY:=aa (zqK l i hlt);have HNO:=aa (zuw l i hlt);have HST:=aa (fun h=>HC.o.step hlt h);have HSP:ae (l[i]=35->mg l=(i,s)):=aa (fun h=>HC.o.stop (.inr (by simp[sX,hlt,h])) hi);have hsl:=stp_le (l.drop i) (fun e=>by have h7:=congrArg uz e;simp at h7;omega);simp only[sW]at hsl;have HTX:ae ((⟨l.toArray⟩:ByteArray).extract 0 i=⟨(l.take i).toArray⟩):=aa (lR l i);obtain⟨sp,hsp⟩:=aj (stp (l.drop i));rw[<-hsp]at HY HNO HST hsl;obtain⟨⟨r,n,bq⟩,hqd⟩:∃x,x=iB l i:=⟨_,rfl⟩;rw[<-hqd]at HQ HY HNO;unfold qdv at HQ;dsimp only at HQ HY HNO;generalize l[i]=b at*;clear hsp hqd;cases bq with
   |true=>
    obtain⟨y1,y2⟩:=HY.o rfl;have HN:=aa (HST.o (by rw[y1];decide));rw[y1,if_neg (by simp)]at HN;rw[y2]at HN hsl;clear HNO HST HSP y2 HY;have e1:tT.wrap ((i:Int)+(n:Int))=(i:Int)+(n:Int):=by rw[tq];omega
    have e2:tT.wrap ((i:Int)+(n:Int)+2)=(i:Int)+(n:Int)+2:=by rw[tq];omega
    go_wp2_with fail;refine HQ.o.mono ?_;rintro e w1 ⟨rfl,b1⟩;have HB1:=aa (HBr.o.trans (b1.mono HBr.o.size));clear b1 HQ;go_wp2;go_roundw
    case rel=>exact⟨i+(n+2),s,rfl,by go_num,by omega,hs,HN,HB1.o⟩
    case measure=>simp[ti];omega
   |false=>
    have y2:=HNO.o rfl;rw[y2]at HST;clear HNO HY hsl;by_cases c1:b=35
    ·have HE:=aa (HSP.o c1);subst c1;go_wp2_with fail;refine HQ.o.mono ?_;rintro e w1 ⟨rfl,b1⟩;have HB1:=aa (HBr.o.trans (b1.mono HBr.o.size));clear b1 HQ;go_wp2;go_ret2;exact⟨by rw[HE.o,<-HTX.o];rfl,HB1.o⟩
    ·have c1':((b.toNat:Int)==35)=false:=beq_eq_false_iff_ne.2 (fun e=>c1 (sI.1 (show b.toNat=35 by omega)));have HN:=aa (HST.o c1);clear HST HSP;by_cases c2:b=59
     ·subst c2;by_cases c3:s<0
      ·rw[if_pos ⟨rfl,c3⟩]at HN;go_wp2_with fail;refine HQ.o.mono ?_;rintro e w1 ⟨rfl,b1⟩;have HB1:=aa (HBr.o.trans (b1.mono HBr.o.size));clear b1 HQ;go_wp2;go_roundw
       case rel=>exact⟨i+1,(i:Int),rfl,by go_num,by omega,by omega,HN,HB1.o⟩
       case measure=>simp[ti];omega
      ·rw[if_neg (fun h=>c3 h.2)]at HN;go_wp2_with fail;refine HQ.o.mono ?_;rintro e w1 ⟨rfl,b1⟩;have HB1:=aa (HBr.o.trans (b1.mono HBr.o.size));clear b1 HQ;go_wp2;go_roundw
       case rel=>exact⟨i+1,s,rfl,by go_num,by omega,hs,HN,HB1.o⟩
       case measure=>simp[ti];omega
     ·have c2':((b.toNat:Int)==59)=false:=beq_eq_false_iff_ne.2 (fun e=>c2 (sI.1 (show b.toNat=59 by omega)));rw[if_neg (fun h=>c2 h.1)]at HN;go_wp2_with fail;refine HQ.o.mono ?_;rintro e w1 ⟨rfl,b1⟩;have HB1:=aa (HBr.o.trans (b1.mono HBr.o.size));clear b1 HQ;go_wp2;go_roundw
      case rel=>exact⟨i+1,s,rfl,by go_num,by omega,hs,HN,HB1.o⟩
      case measure=>simp[ti];omega
  ·have HE:=aa (HC.o.stop (.inl (by omega)) hi);have hil:i=l.length:=by omega
   have HTL:ae (l.take i=l):=aa (List.take_of_length_le (by omega));have i3:¬(i:Int)<(l.length:Int):=by omega
   clear hil;go_wp2;go_ret2;exact⟨by rw[HE.o,HTL.o];rfl,HBr.o⟩
end Dc
namespace Dc
theorem zib(l:List UInt8)(h:l.getD 0 0≠39):stp l=1:=by unfold stp;rw[if_neg (fun h5=>h h5.1)]
end Dc
namespace Dc
theorem zcp(N b0 b1 b2 b3 j:Nat)(h1:1<=j)(h2:j<(Lib.decodeN N b0 b1 b2 b3).2):128<=(if j=1 then b1 else if j=2 then b2 else b3):=by
 unfold Lib.decodeN at h2;have c:j=1\/j=2\/j=3\/4<=j:=by omega
 revert h2
 repeat' split
 all_goals (intro h2;dsimp only at h2;omega)
theorem zpd(l:List UInt8)(j:Nat)(h1:1<=j)(h2:j<(dec l).2):128<=(l.getD j 0).toNat:=by
 have hne:l≠ []:=fun e=>by rw[e]at h2;have h6:=mW [];rw[tz]at h6;omega
 have h4:=dec_le4 l;rw[dec_eqL l hne,um]at h2;have h5:=zcp _ _ _ _ _ j h1 h2;have h6:j=1\/j=2\/j=3:=by rw[dec_eqL l hne,um]at h4;omega
 rcases h6 with rfl|rfl|rfl
 ·exact h5
 ·exact h5
 ·exact h5
theorem gR(l:List UInt8)(n i:Nat)(h:i<n):(l.take n).getD i 0=l.getD i 0:=by simp[sX,h]
theorem kG(l:List UInt8)(n i:Nat):(l.drop n).getD i 0=l.getD (n+i) 0:=by simp[sX,sS]
theorem zmJ(m:List UInt8)(n:Nat)(h1:stp m<=n)(hn:n<=m.length):stp (m.take n)=stp m:=by
 have hp:=oh m;have e0:(m.take n).getD 0 0=m.getD 0 0:=gR m n 0 (by omega);have ed:(m.take n).drop 1=(m.drop 1).take (n-1):=by rw[uk]
 have hl:(m.take n).length=n:=by rw[tg];omega
 by_cases hc:m.getD 0 0=39/\0<(dec (m.drop 1)).2/\1+(dec (m.drop 1)).2<m.length/\m.getD (1+(dec (m.drop 1)).2) 0=39
 ·have hs:stp m=(dec (m.drop 1)).2+2:=by unfold stp;rw[if_pos hc]
  obtain⟨c1,c2,c3,c4⟩:=hc;have hne:m.drop 1≠ []:=fun e=>by have h5:=congrArg uz e;have h6:=mW (m.drop 1);rw[e]at h6;rw[tz]at h6;rw[e]at c2;omega
  have ew:dec ((m.take n).drop 1)=dec (m.drop 1):=by rw[ed];exact dec_take _ hne _ (by omega)
  rw[hs];unfold stp;rw[ew,e0,hl,gR m n _ (by omega),if_pos ⟨c1,c2,by omega,c4⟩]
 ·have hs:stp m=1:=by unfold stp;rw[if_neg hc]
  rw[hs];unfold stp;rw[if_neg];rintro ⟨c1,c2,c3,c4⟩;rw[e0]at c1;rw[hl]at c3;rw[gR m n _ (by omega)]at c4;rw[ed]at c2 c3 c4;have hne:m.drop 1≠ []:=fun e=>by rw[e]at c2;simp only[List.take_nil]at c2;have h6:=mW [];rw[tz]at h6;omega
  by_cases hw:(dec (m.drop 1)).2<=n-1
  ·have ew:=dec_take (m.drop 1) hne (n-1) hw;rw[ew]at c2 c3 c4;exact hc ⟨c1,c2,by omega,c4⟩
  ·have h5:=zpd (m.drop 1) (dec ((m.drop 1).take (n-1))).2 (by omega) (by omega);rw[kG,c4]at h5;revert h5;decide
theorem zoG(c:UInt8)(l:List UInt8):∀(f t:Nat),t<=iO c l f t
 |0,t=>sV _
 |f+1,t=>by
  unfold iO;split
  ·exact t6 (Nat.le_add_right _ _) (zoG c l f _)
  ·exact sV _
theorem zic(l:List UInt8)(k i:Nat)(hk:k<=l.length)(hi:i+stp (l.drop i)<=k):stp ((l.take k).drop i)=stp (l.drop i):=by rw[uk];exact zmJ _ _ (by omega) (by rw[sW];omega)
theorem zjp(l:List UInt8):∀(f i:Nat)(s:Int),0<=s->(ctF l f i s).2=s
 |0,_,_,_=>rfl
 |f+1,i,s,hs=>by
  unfold ctF;split
  ·rw[if_neg (fun h=>by omega)];exact zjp l f _ s hs
  ·rfl
theorem zsO(l:List UInt8)(k:Nat)(hk:k<=l.length):∀(f g i:Nat),i<=k->iO 35 l f i=k->l.length<f+i->k<g+i->
  (ctF l f i (-1)).2=if iO 59 (l.take k) g i<k then (iO 59 (l.take k) g i:Int)else -1
 |0,g,i,h1,h2,h3,h4=>by omega
 |f+1,0,i,h1,h2,h3,h4=>by omega
 |f+1,g+1,i,h1,h2,h3,h4=>by
  have hl:(l.take k).length=k:=by rw[tg];omega
  unfold ctF;unfold iO at h2;by_cases hc:i<l.length/\l.getD i 0≠35
  ·rw[if_pos hc]at h2⊢;have h5:=zoG 35 l f (i+stp (l.drop i));have h6:=oh (l.drop i);have e1:=zic l k i hk (by omega);have e2:(l.take k).getD i 0=l.getD i 0:=gR l k i (by omega);have ef:iO 59 (l.take k) (g+1) i=if i<k/\l.getD i 0≠59 then iO 59 (l.take k) g (i+stp (l.drop i))else i:=by
    conv=>lhs;unfold iO
    rw[hl,e2,e1]
   by_cases c9:l.getD i 0=59
   ·rw[if_neg (fun h=>h.2 c9)]at ef;rw[ef,if_pos ⟨c9,by omega⟩,zjp l f _ _ (by omega),if_pos (by omega)]
   ·rw[if_pos ⟨by omega,c9⟩]at ef;rw[ef,if_neg (fun h=>c9 h.1)];exact zsO l k hk f g _ (by omega) h2 (by omega) (by omega)
  ·rw[if_neg hc]at h2⊢;subst h2;have ef:iO 59 (l.take i) (g+1) i=i:=by unfold iO;rw[hl,if_neg (fun h=>un _ h.1)]
   rw[ef,if_neg (un _)]
theorem zjn(l:List UInt8):(mg l).2=if fi 59 (l.take (fi 35 l))<fi 35 l then (fi 59 (l.take (fi 35 l)):Int)else -1:=by
 have hk:=zcf 35 l;have hl:(l.take (fi 35 l)).length=fi 35 l:=by rw[tg];omega
 unfold mg;rw[zsO l (fi 35 l) hk (l.length+1) ((l.take (fi 35 l)).length+1) 0 (by omega) rfl (by omega) (by omega)];rfl
def qZ(s:List UInt8):Option (List UInt8×List Rg×Int):=
 if fi 59 s<s.length then some (tls (s.drop (fi 59 s+1)),(lB ((s.take (fi 59 s)).map tbl)).1,(lB ((s.take (fi 59 s)).map tbl)).2.1)else none
theorem zeY(c x:UInt8)(t:List UInt8):∀(f i:Nat),iO c (x::t) f (i+1)=iO c t f i+1
 |0,_=>rfl
 |f+1,i=>by
  unfold iO;have e1:(x::t).getD (i+1) 0=t.getD i 0:=rfl;have e2:(x::t).drop (i+1)=t.drop i:=rfl;rw[e1,e2];by_cases hc:i<t.length/\t.getD i 0≠c
  ·rw[if_pos hc,if_pos ⟨by rw[sM];omega,hc.2⟩,<-zeY c x t f (i+stp (t.drop i))];congr 1;omega
  ·rw[if_neg hc,if_neg (fun h=>hc ⟨by have:=h.1;rw[sM]at this;omega,h.2⟩)]
theorem gj{x:UInt8}(h:blk x=true):x=32\/x=9:=by unfold blk at h;simpa using h
theorem zrp(c x:UInt8)(t:List UInt8)(hx:x≠c)(h9:x≠39):fi c (x::t)=fi c t+1:=by show iO c (x::t) (t.length+1+1) 0=_;unfold iO;rw[if_pos ⟨by simp,hx⟩,show stp ((x::t).drop 0)=1 from zib (x::t) h9];exact zeY c x t (t.length+1) 0
theorem zpb(x:UInt8)(t:List UInt8)(hx:blk x=true):qZ (x::t)=qZ t:=by
 have e:fi 59 (x::t)=fi 59 t+1:=zrp 59 x t (by rcases gj hx with rfl|rfl<;>decide) (by rcases gj hx with rfl|rfl<;>decide);have et:tbl x=32:=by rcases gj hx with rfl|rfl<;>rfl
 unfold qZ;rw[e];by_cases hc:fi 59 t<t.length
 ·rw[if_pos hc,if_pos (by rw[sM];omega),List.take_succ_cons,List.map_cons,et,(zam _).1,(zam _).2,List.drop_succ_cons]
 ·rw[if_neg hc,if_neg (by rw[sM];omega)]
theorem zmF(t:List UInt8)(x:UInt8)(hx:blk x=true):tls (t++[x])=tls t:=by rw[pz,pz,fQ,if_pos hx]
theorem zmK(t:List UInt8)(x:UInt8)(h9:x≠39)(i:Nat)(hi:i<t.length):i+stp ((t++[x]).drop i)<=t.length:=by
 unfold stp;split
 ·rename_i h;obtain⟨_,c2,c3,c4⟩:=h;rw[kG]at c4;rw[sW,tC,List.length_singleton]at c3;by_cases h5:i+(1+(dec (List.drop 1 (List.drop i (t++[x])))).2)=t.length
  ·rw[h5]at c4;exfalso;apply h9;simpa[sX]using c4
  ·omega
 ·omega
theorem zeX(c x:UInt8)(t:List UInt8)(hx:x≠c)(h9:x≠39):∀(f g i:Nat),i<=t.length->t.length+1<f+i->t.length<g+i->
  iO c (t++[x]) f i=if iO c t g i<t.length then iO c t g i else t.length+1
 |0,g,i,h1,h2,h3=>by omega
 |f+1,0,i,h1,h2,h3=>by omega
 |f+1,g+1,i,h1,h2,h3=>by
  have hl:(t++[x]).length=t.length+1:=by simp
  have ht:(t++[x]).take t.length=t:=by simp
  by_cases hi:i<t.length
  ·have e1:=zmK t x h9 i hi;have e2:=zic (t++[x]) t.length i (by omega) e1;rw[ht]at e2;have e3:(t++[x]).getD i 0=t.getD i 0:=by simp[sX,sP hi]
   have h6:=oh ((t++[x]).drop i);have ef:iO c t (g+1) i=if i<t.length/\t.getD i 0≠c then iO c t g (i+stp (t.drop i))else i:=by
    conv=>lhs;unfold iO
   have eg:iO c (t++[x]) (f+1) i=if i<t.length+1/\t.getD i 0≠c then iO c (t++[x]) f (i+stp (t.drop i))else i:=by
    conv=>lhs;unfold iO
    rw[hl,e3,<-e2]
   rw[<-e2]at e1 h6;by_cases hc:t.getD i 0=c
   ·rw[if_neg (fun h=>h.2 hc)]at ef eg;rw[ef,eg,if_pos hi]
   ·rw[if_pos ⟨hi,hc⟩]at ef;rw[if_pos ⟨by omega,hc⟩]at eg;rw[ef,eg];exact zeX c x t hx h9 f g _ (by omega) (by omega) (by omega)
  ·have hi':i=t.length:=by omega
   subst hi';have eg:iO c t (g+1) t.length=t.length:=by unfold iO;rw[if_neg (by omega)]
   rw[eg,if_neg (by omega)];have e3:(t++[x]).getD t.length 0=x:=by simp[sX]
   have e4:stp ((t++[x]).drop t.length)=1:=zib _ (by rw[kG,tZ,e3];exact h9);unfold iO;rw[hl,e3,e4,if_pos ⟨by omega,hx⟩];cases f with
   |zero=>rfl
   |succ f=>unfold iO;rw[hl,if_neg (by omega)]
theorem zoZ(t:List UInt8)(x:UInt8)(hx:blk x=true):qZ (t++[x])=qZ t:=by
 have hx9:x≠39:=by rcases gj hx with rfl|rfl<;>decide
 have hx5:x≠59:=by rcases gj hx with rfl|rfl<;>decide
 have e:fi 59 (t++[x])=if fi 59 t<t.length then fi 59 t else t.length+1:=zeX 59 x t hx5 hx9 _ _ 0 (by omega) (by simp) (by omega)
 have hl:(t++[x]).length=t.length+1:=by simp
 unfold qZ;rw[e,hl];by_cases hc:fi 59 t<t.length
 ·rw[if_pos hc,if_pos hc,if_pos (by omega),List.take_append_of_le_length (by omega),List.drop_append_of_le_length (by omega),zmF _ _ hx]
 ·rw[if_neg hc,if_neg hc,if_neg (by omega)]
theorem zpa:∀(l:List UInt8),qZ (l.dropWhile blk)=qZ l
 |[]=>rfl
 |x::t=>by
  rw[tB];split
  ·rename_i h;rw[zpa t,zpb x t h]
  ·rfl
theorem zjm:∀(n:Nat)(l:List UInt8),l.length=n->qZ (rtr l)=qZ l
 |0,l,h=>by
  cases l with
  |nil=>rfl
  |cons=>simp at h
 |n+1,l,h=>by
  rcases sK l with rfl|⟨t,x,rfl⟩
  ·rfl
  ·rw[sL]at h⊢;rw[fQ];split
   ·rename_i hx;rw[zjm n t (by simpa using h),zoZ t x hx]
   ·rfl
theorem zrw(l:List UInt8):qZ (tls l)=qZ l:=by rw[pz,zpa,zjm l.length l rfl]
end Dc
namespace Dc
open Go.RowKit
structure bg(B Q:Nat)(U:List (List UInt8))(D:List (List Rg))(nv sv:tw)(vs:List tw)(w:sO):Prop where
 hQ:w.heap[Q]?=some (.cells #[nv,sv] 91 (0,0))
 hN:w.ownsRow B 9 1 nv U.length (nms U)
 hS:w.ownsRow B 125 1 sv D.length vs
 hV:∀(k:Nat)(l:List Rg),D[k]?=some l->∃v,vs[k]?=some v/\w.ownsRow B 146 2 v l.length (aH l)
 bQ:B<=Q
def RdD(w:sO)(so:Option Addr)(D:List (List Rg)):Prop:=∀(k:Nat)(l:List Rg),D[k]?=some l->∃a,so=some a/\a.block<w.heap.size/\∃ao ac,w.cell? (a.add k)=some (.slice ao l.length ac)/\RdR w ao l/\(ao=none->ac=0)
theorem RdD.below{w w':sO}{so:Option Addr}{D:List (List Rg)}(h:RdD w so D)(hb:tn w.heap.size w w'):RdD w' so D:=fun k l hk=>by obtain⟨a,h1,h2,ao,ac,h3,h4,h5⟩:=h k l hk;exact⟨a,h1,tW h2 hb.size,ao,ac,(hb.cell (p:=a.add k) (by rw[add_blk];exact h2)).trans h3,h4.below hb,h5⟩
theorem zlm(g k:Nat):(⟨g,0,none⟩:Addr).add k=⟨g,k,none⟩:=by simp[Addr.add];exact fun h=>h.symm
theorem gZ(w:sO):tn w.heap.size w w.drew:=⟨rfl,rfl,rfl,sV _,fun _ _=>rfl⟩
section
variable {B Q:Nat} {U:List (List UInt8)} {D:List (List Rg)} {nv sv:tw} {vs:List tw} {w w':sO}
theorem bg.keep(h:bg B Q U D nv sv vs w)(e:∀b,b<w.heap.size->(b=Q\/nv.ownBlock=some b\/sv.ownBlock=some b\/∃cs,w.heap[b]?=some (.cells cs 146 (0,0)))->w'.heap[b]?=w.heap[b]?):bg B Q U D nv sv vs w':=
 ⟨(e Q (aO h.hQ) (.inl rfl)).trans h.hQ,cy h.hN (fun b hb=>e b (h.hN.lt b hb).2 (.inr (.inl hb))),cy h.hS (fun b hb=>e b (h.hS.lt b hb).2 (.inr (.inr (.inl hb)))),
  fun k l hk=>by obtain⟨v,h1,h2⟩:=h.hV k l hk;exact⟨v,h1,cy h2 (fun b hb=>e b (h2.lt b hb).2 (.inr (.inr (.inr (jh h2 hb)))))⟩,h.bQ⟩
theorem bg.below(h:bg B Q U D nv sv vs w)(hb:tn w.heap.size w w'):bg B Q U D nv sv vs w':=h.keep fun b h1 _=>hb.block b h1
theorem bg.c0(h:bg B Q U D nv sv vs w):w.cell? ⟨Q,0,none⟩=some nv:=cell_row w Q 0 [nv,sv] 91 _ h.hQ rfl
theorem bg.c1(h:bg B Q U D nv sv vs w):w.cell? ⟨Q,1,none⟩=some sv:=cell_row w Q 1 [nv,sv] 91 _ h.hQ rfl
theorem bg.rd(h:bg B Q U D nv sv vs w):∃so sc,sv=.slice so D.length sc/\RdD w so D:=by
 by_cases h0:D.length=0
 ·obtain⟨so,sc,rfl⟩:=iE h.hS;exact⟨so,sc,rfl,fun k l hk=>by have h5:=(sE.1 hk).1;omega⟩
 ·obtain⟨q,cap,e,_,hq⟩:=h.hS.form (by omega);refine⟨_,_,e,fun k l hk=>?_⟩;have hk':=(sE.1 hk).1;obtain⟨v,h1,h2⟩:=h.hV k l hk;obtain⟨ao,ac,rfl,h3,h4⟩:=eI h2;have h5:=h.hS;rw[e]at h5;exact⟨_,rfl,hq,ao,ac,by rw[zlm,h5.cellAt k (by omega)];exact h1,h3,h4⟩
structure gv(Q:Nat)(nv nv':tw)(w w':sO):Prop where
 st:∀x,x<w.heap.size->x≠Q->nv.ownBlock≠some x->(∀cs f,w.heap[x]? ≠some (.cells cs 125 f))->w'.heap[x]?=w.heap[x]?
 nw:∀x,nv'.ownBlock=some x->nv.ownBlock=some x\/w.heap.size<=x
 sz:w.heap.size<=w'.heap.size
theorem gv.of_below(h:tn w.heap.size w w'):gv Q nv nv w w':=⟨fun x hx _ _ _=>h.block x hx,fun _ h=>.inl h,h.size⟩
theorem gv.trans{a b c : tw}{u v x : sO}(h : gv Q a b u v)(h2 : gv Q b c v x) : gv Q a c u x :=
  ⟨fun y hy h3 h4 h5 => by
    have e := h.st y hy h3 h4 h5
    refine (h2.st y (tW hy h.sz) h3 (fun h6 => ?_) (fun cs f h6 => h5 cs f (e.symm.trans h6))).trans e
    rcases h.nw y h6 with h7 | h7
    · exact h4 h7
    · omega,
   fun y e => by
    rcases h2.nw y e with h3 | h3
    · exact h.nw y h3
    · exact .inr (t6 h.sz h3), t6 h.sz h2.sz⟩
theorem bg.store{g c cap n:Nat}{x:List Rg}{v:tw}(h:bg B Q U D nv (.slice (some ⟨g,0,none⟩) n cap) vs w)(hn:n=D.length)(hc:c<D.length)(hv:w.ownsRow B 146 2 v x.length (aH x)):
  bg B Q U (D.set c x) nv (.slice (some ⟨g,0,none⟩) n cap) (vs.set c v) (w.setCell ⟨g,c,none⟩ v)/\gv Q nv nv w (w.setCell ⟨g,c,none⟩ v)/\tn B w (w.setCell ⟨g,c,none⟩ v):=by
 subst hn;obtain⟨o1,g1⟩:=h.hS.stored c v;obtain⟨cs,hcs⟩:=jh h.hS (x:=g) rfl;have hB:B<=g:=(h.hS.lt g rfl).1;have hk:∀b,b<w.heap.size->b≠g->(w.setCell ⟨g,c,none⟩ v).heap[b]?=w.heap[b]? :=fun b hb hne=>g1.block b hb (fun e=>hne (by injection e));have hk84:∀{s n:Nat} {u:tw} {xs:List tw} {B':Nat},w.ownsRow B' 146 s u n xs->(w.setCell ⟨g,c,none⟩ v).ownsRow B' 146 s u n xs:=fun hr=>cy hr (fun b hb=>hk b (hr.lt b hb).2 (fun e=>by subst e;exact bj hr b _ 125 hcs (by decide) hb));have hlen:vs.length=D.length:=by have:=h.hS.1;omega
 have hQg:Q≠g:=fun e=>by have h5:=h.hQ;rw[e,hcs]at h5;cases h5
 refine⟨⟨(hk Q (aO h.hQ) hQg).trans h.hQ,cy h.hN (fun b hb=>hk b (h.hN.lt b hb).2 (fun e=>by subst e;exact bj h.hN b _ 125 hcs (by decide) hb)),by rw[tK];exact o1,fun k l hl=>?_,h.bQ⟩,⟨fun y hy _ _ h5=>hk y hy (fun e=>by subst e;exact h5 _ _ hcs),fun _ e=>.inl e,g1.size⟩,(sU B w).setCell (p:=⟨g,c,none⟩) hB v⟩;by_cases e:k=c
 ·subst e;rw[tc hc]at hl;injection hl with hl;subst hl;exact⟨v,by rw[tc (by omega)],hk84 hv⟩
 ·rw[sZ (fun h=>e h.symm)]at hl;obtain⟨u,h1,h2⟩:=h.hV k l hl;exact⟨u,by rw[sZ (fun h=>e h.symm)];exact h1,hk84 h2⟩
theorem bg.named{b:List UInt8}{q2 c2 n:Nat}{w1 w2:sO}(h:bg B Q U D nv sv vs w)(hn:n=U.length)(hb1:tn w.heap.size w w1)(o2:w2.ownsRow B 9 1 (.slice (some ⟨q2,0,none⟩) (n+1) c2) (n+1) (nms U++[.string ⟨b.toArray⟩]))(gr:w1.grownBy w2 nv.ownBlock)(hl2:nv.ownBlock=some q2\/q2=w1.heap.size):
  bg B Q (U++[b]) D (.slice (some ⟨q2,0,none⟩) (n+1) c2) sv vs (w2.setCell ⟨Q,0,none⟩ (.slice (some ⟨q2,0,none⟩) (n+1) c2))/\gv Q nv (.slice (some ⟨q2,0,none⟩) (n+1) c2) w (w2.setCell ⟨Q,0,none⟩ (.slice (some ⟨q2,0,none⟩) (n+1) c2))/\tn B w1 (w2.setCell ⟨Q,0,none⟩ (.slice (some ⟨q2,0,none⟩) (n+1) c2)):=by
 subst hn;have hs1:=hb1.size;have k1:∀x,x<w.heap.size->nv.ownBlock≠some x->w2.heap[x]?=w.heap[x]? :=fun x hx hne=>(gr.block x (by omega) (fun e=>hne e.symm)).trans (hb1.block x hx);have hQ2:w2.heap[Q]?=some (.cells #[nv,sv] 91 (0,0)):=(k1 Q (aO h.hQ) (bj h.hN Q _ 91 h.hQ (by decide))).trans h.hQ;obtain⟨v',hv'⟩:=aj (tw.slice (some ⟨q2,0,none⟩) (U.length+1) c2);rw[<-hv']at o2⊢;have k2:∀x,x<w.heap.size->x≠Q->nv.ownBlock≠some x->(w2.setCell ⟨Q,0,none⟩ v').heap[x]?=w.heap[x]? :=fun x hx h1 h2=>(tX w2 ⟨Q,0,none⟩ v' x h1).trans (k1 x hx h2);have hnw:∀x,v'.ownBlock=some x->nv.ownBlock=some x\/w.heap.size<=x:=fun x e=>by
  have e2:q2=x:=by rw[hv']at e;simpa[tw.ownBlock]using e
  subst e2;rcases hl2 with h9|h9
  ·exact .inl h9
  ·exact .inr (by omega)
 have hsz:w1.heap.size<=(w2.setCell ⟨Q,0,none⟩ v').heap.size:=by have h9:=gr.size;simp[uq];exact h9
 refine⟨⟨set_row w2 Q 0 [nv,sv] 91 v' hQ2,?_,cy h.hS (fun x hx=>k2 x (h.hS.lt x hx).2 (fun e=>by subst e;exact bj h.hS x _ 91 h.hQ (by decide) hx) (pJ h.hS h.hN (by decide) hx)),fun k l hl=>?_,h.bQ⟩,⟨fun x hx h1 h2 _=>k2 x hx h1 h2,hnw,by omega⟩,?_⟩
 ·rw[p7,tC];exact tL o2 (a:=⟨Q,0,none⟩) (bj o2 Q _ 91 hQ2 (by decide)) v'
 ·obtain⟨u,h1,h2⟩:=h.hV k l hl;exact⟨u,h1,cy h2 (fun x hx=>k2 x (h2.lt x hx).2 (fun e=>by subst e;exact bj h2 x _ 91 h.hQ (by decide) hx) (pJ h2 h.hN (by decide) hx))⟩
 ·exact((sU B w1).grown gr (by have h5:=aO h.hQ;have h6:=h.bQ;omega) (fun k hk=>(h.hN.lt k hk).1)).setCell (p:=⟨Q,0,none⟩) h.bQ v'
theorem bg.grown{q2 c2 n:Nat}{w1 w2:sO}(h:bg B Q U D nv sv vs w)(hn:n=D.length)(hb1:tn w.heap.size w w1)(o2:w2.ownsRow B 125 1 (.slice (some ⟨q2,0,none⟩) (n+1) c2) (n+1) (vs++[.slice none 0 0]))(gr:w1.grownBy w2 sv.ownBlock):
  bg B Q U (D++[[]]) nv (.slice (some ⟨q2,0,none⟩) (n+1) c2) (vs++[.slice none 0 0]) (w2.setCell ⟨Q,1,none⟩ (.slice (some ⟨q2,0,none⟩) (n+1) c2))/\gv Q nv nv w (w2.setCell ⟨Q,1,none⟩ (.slice (some ⟨q2,0,none⟩) (n+1) c2))/\tn B w1 (w2.setCell ⟨Q,1,none⟩ (.slice (some ⟨q2,0,none⟩) (n+1) c2)):=by
 subst hn;have hs1:=hb1.size;have k1:∀x,x<w.heap.size->sv.ownBlock≠some x->w2.heap[x]?=w.heap[x]? :=fun x hx hne=>(gr.block x (by omega) (fun e=>hne e.symm)).trans (hb1.block x hx);have hQ2:w2.heap[Q]?=some (.cells #[nv,sv] 91 (0,0)):=(k1 Q (aO h.hQ) (bj h.hS Q _ 91 h.hQ (by decide))).trans h.hQ;have hl1:(D++[[]]).length=D.length+1:=by simp
 obtain⟨v',hv'⟩:=aj (tw.slice (some ⟨q2,0,none⟩) (D.length+1) c2);rw[<-hv']at o2⊢;have k2:∀x,x<w.heap.size->x≠Q->sv.ownBlock≠some x->(w2.setCell ⟨Q,1,none⟩ v').heap[x]?=w.heap[x]? :=fun x hx h1 h2=>(tX w2 ⟨Q,1,none⟩ v' x h1).trans (k1 x hx h2);have hlen:vs.length=D.length:=by have:=h.hS.1;omega
 have hsz:w1.heap.size<=(w2.setCell ⟨Q,1,none⟩ v').heap.size:=by have h9:=gr.size;simp[uq];exact h9
 refine⟨⟨set_row w2 Q 1 [nv,sv] 91 v' hQ2,cy h.hN (fun x hx=>k2 x (h.hN.lt x hx).2 (fun e=>by subst e;exact bj h.hN x _ 91 h.hQ (by decide) hx) (pJ h.hN h.hS (by decide) hx)),?_,fun k l hl=>?_,h.bQ⟩,⟨fun x hx h1 _ h3=>k2 x hx h1 (fun e=>by obtain⟨cs,hcs⟩:=jh h.hS e;exact h3 _ _ hcs),fun _ e=>.inl e,by omega⟩,?_⟩
 ·rw[hl1];exact tL o2 (a:=⟨Q,1,none⟩) (bj o2 Q _ 91 hQ2 (by decide)) v'
 ·by_cases e:k<D.length
  ·rw[sP e]at hl;obtain⟨u,h1,h2⟩:=h.hV k l hl;exact⟨u,by rw[sP (by omega)];exact h1,cy h2 (fun x hx=>k2 x (h2.lt x hx).2 (fun e=>by subst e;exact bj h2 x _ 91 h.hQ (by decide) hx) (pJ h2 h.hS (by decide) hx))⟩
  ·rw[te (by omega)]at hl;have e2:k-D.length=0:=by have h5:=(sE.1 hl).1;simp at h5;omega
   rw[e2]at hl;cases hl;exact⟨.slice none 0 0,by rw[te (by omega),hlen,e2];rfl,sT _ _ _ _⟩
 ·exact((sU B w1).grown gr (by have h5:=aO h.hQ;have h6:=h.bQ;omega) (fun k hk=>(h.hS.lt k hk).1)).setCell (p:=⟨Q,1,none⟩) h.bQ v'
end
end Dc
namespace Dc
def ib:List UInt8->List (List UInt8)
 |[]=>[[]]
 |b::r=>if b=10 then []::ib r else (b::(ib r).headD [])::(ib r).tail
theorem eO(b:UInt8)(r:List UInt8):ib (b::r)=if b=10 then []::ib r else (b::(ib r).headD [])::(ib r).tail:=by rw[ib]
theorem znO:∀(p:List UInt8),(10:UInt8) ∉ p->ib p=[p]
 |[],_=>rfl
 |b::r,h=>by have h1:¬b=10:=fun e=>h (by simp[e]);have ih:=znO r (fun e=>h (by simp[e]));rw[eO,if_neg h1,ih];rfl
theorem znP:∀(p r:List UInt8),(10:UInt8) ∉ p->ib (p++10::r)=p::ib r
 |[],r,_=>by show ib (10::r)=_;rw[eO,if_pos rfl]
 |b::p,r,h=>by have h1:¬b=10:=fun e=>h (by simp[e]);have ih:=znP p r (fun e=>h (by simp[e]));show ib (b::(p++10::r))=_;rw[eO,if_neg h1,ih];rfl
theorem zbS:∀l:List UInt8,(ib l).length<=l.length+1
 |[]=>by simp[ib]
 |b::r=>by
  have ih:=zbS r;rw[eO];split
  ·simp;omega
  ·simp;omega
theorem oI:∀(l x:List UInt8),x∈ib l->x.length<=l.length
 |[],x,h=>by simp[ib]at h;simp[h]
 |b::r,x,h=>by
  rw[eO]at h;split at h
  ·rcases sQ.1 h with h|h
   ·simp[h]
   ·have:=oI r x h;simp;omega
  ·rcases sQ.1 h with h|h
   ·subst h;have hh:(ib r).headD []=[]\/(ib r).headD []∈ib r:=by
     cases hr:ib r with
     |nil=>exact .inl rfl
     |cons y ys=>exact .inr (by simp)
    rcases hh with hh|hh
    ·rw[hh];simp
    ·have h5:=oI r _ hh;rw[sM,sM];omega
   ·have:=oI r x (List.mem_of_mem_tail h);simp;omega
end Dc
namespace Dc
def nwF:Nat->List (List UInt8)->List Tr->List (List UInt8)->(Int×Nat)×List (List UInt8)×List Tr
 |_,U,S,[]=>((0,0),U,S)
 |i,U,S,l::L=>if (rC U S l).1=0 then nwF (i+1) (rC U S l).2.1 (rC U S l).2.2 L else (((rC U S l).1,i+1),U,S)
def nw(t:List UInt8):(Int×Nat)×List (List UInt8)×List Tr:=if 65536<t.length then ((1,0),[oth],[])else nwF 0 [oth] [] (ib t)
theorem zuH(i:Nat)(U:List (List UInt8))(S:List Tr)(L:List (List UInt8))(k:Nat)(x:List UInt8)(hx:L[k]?=some x):
  nwF i U S (L.drop k)=if (rC U S x).1=0 then nwF (i+1) (rC U S x).2.1 (rC U S x).2.2 (L.drop (k+1))else (((rC U S x).1,i+1),U,S):=by
 obtain⟨hk,rfl⟩:=sE.1 hx;rw[List.drop_eq_getElem_cons hk];rfl
end Dc
namespace Dc
open Go.RowKit
def jF(c:Int)(A:List Tr):List Rg:=(A.filter fun g=>decide ((g.2.2:Int)=c)).map fun g=>((g.1:Int),(g.2.1:Int))
theorem zbk(c:Int)(A:List Tr):(jF c A).length<=A.length:=by unfold jF;rw[List.length_map];exact List.length_filter_le _ _
end Dc
namespace Dc
def nT:Nat->List Tr->Nat->Prop
 |a,[],b=>a=b
 |a,g::R,b=>g.1=a/\g.1<=g.2.1/\nT (g.2.1+1) R b
def Alt:List Tr->Prop
 |[]=>True
 |[_]=>True
 |x::y::R=>x.2.2≠y.2.2/\Alt (y::R)
theorem iT:∀(Q:List Tr)(a b:Nat)(g:Tr),nT a Q b->g.1=b->g.1<=g.2.1->nT a (Q++[g]) (g.2.1+1)
 |[],a,b,g,h,h1,h2=>⟨by have h':a=b:=h;omega,h2,rfl⟩
 |x::Q,a,b,g,h,h1,h2=>⟨h.1,h.2.1,iT Q _ b g h.2.2 h1 h2⟩
theorem qE:∀(Q:List Tr)(a b:Nat)(z:Tr),nT a (Q++[z]) b->nT a Q z.1/\z.1<=z.2.1/\z.2.1+1=b
 |[],a,b,z,h=>⟨h.1.symm,h.2.1,h.2.2⟩
 |x::Q,a,b,z,h=>by obtain⟨h1,h2,h3⟩:=qE Q _ b z h.2.2;exact⟨⟨h.1,h.2.1,h1⟩,h2,h3⟩
theorem l8:∀(Q:List Tr)(z g:Tr),Alt (Q++[z])->z.2.2≠g.2.2->Alt (Q++[z]++[g])
 |[],_,_,_,h=>⟨h,trivial⟩
 |[_],_,_,h1,h=>⟨h1.1,h,trivial⟩
 |_::y::Q,z,g,h1,h=>⟨h1.1,l8 (y::Q) z g h1.2 h⟩
theorem zjE:∀(Q:List Tr)(z z':Tr),Alt (Q++[z])->z'.2.2=z.2.2->Alt (Q++[z'])
 |[],z,z',_,_=>trivial
 |[x],z,z',h1,h=>⟨by rw[h];exact h1.1,trivial⟩
 |x::y::Q,z,z',h1,h=>⟨h1.1,zjE (y::Q) z z' h1.2 h⟩
def zlw(o:List Tr)(nx:Nat):Prop:=nT 0 o nx/\Alt o/\∀Q z,o=Q++[z]->z.2.2≠0
theorem zeQ(o:List Tr)(nx:Nat)(g:Tr)(h:zlw o nx)(h1:nx<=g.1)(h2:g.1<=g.2.1)(h3:g.2.2≠0):zlw (jn (gp o nx g) g) (g.2.1+1):=by
 obtain⟨c,a,l⟩:=h;have fresh:∀(o':List Tr),nT 0 o' g.1->Alt o'->(∀Q z,o'=Q++[z]->z.2.2≠g.2.2)->zlw (o'++[g]) (g.2.1+1):=fun o' c' a' l'=>by
  refine⟨iT o' 0 g.1 g c' rfl h2,?_,fun Q z e=>?_⟩
  ·rcases sK o' with rfl|⟨Q,z,rfl⟩
   ·exact trivial
   ·rw[sL]at*;exact l8 Q z g a' (l' Q z rfl)
  ·obtain⟨_,e2⟩:=tr e rfl;injection e2 with e2 _;rw[<-e2];exact h3
 unfold gp;split
 ·rename_i hlt;rw[jw,if_neg (fun e=>h3 e.symm)];refine fresh (o++[(nx,g.1-1,0)]) ?_ ?_ ?_
  ·have h5:=iT o 0 nx (nx,g.1-1,0) c rfl (by show nx<=g.1-1;omega);rw[show(g.1-1)+1=g.1 by omega]at h5;exact h5
  ·rcases sK o with rfl|⟨Q,z,rfl⟩
   ·exact trivial
   ·rw[sL]at*;exact l8 Q z _ a (l Q z rfl)
  ·intro Q z e;obtain⟨_,e2⟩:=tr e rfl;injection e2 with e2 _;rw[<-e2];exact fun e=>h3 e.symm
 ·have hnx:nx=g.1:=by omega
  subst hnx;rcases sK o with rfl|⟨Q,z,rfl⟩
  ·rw[zgX];exact fresh [] c a (fun Q z e=>by simp at e)
  ·rw[sL]at*;rw[jw];split
   ·rename_i hz;obtain⟨k1,k2,k3⟩:=qE Q 0 _ z c;refine⟨?_,zjE Q z _ a (by show g.2.2=z.2.2;exact hz.symm),fun Q' z' e=>?_⟩
    ·exact iT Q 0 z.1 (z.1,g.2.1,g.2.2) k1 rfl (by show z.1<=g.2.1;omega)
    ·obtain⟨_,e2⟩:=tr e rfl;injection e2 with e2 _;rw[<-e2];exact h3
   ·rename_i hz;exact fresh (Q++[z]) c a (fun Q' z' e=>by obtain⟨_,e2⟩:=tr e rfl;injection e2 with e2 _;rw[<-e2];exact hz)
theorem ziU:∀(L o:List Tr)(nx:Nat),zlw o nx->Rs nx L->(∀g∈L,g.2.2≠0)->nx<=1114112->nT 0 (whF o nx L) 1114112/\Alt (whF o nx L)
 |[],o,nx,h,_,_,hn=>by
  unfold whF;split
  ·rename_i hlt;refine⟨iT o 0 nx (nx,1114111,0) h.1 rfl (by show nx<=1114111;omega),?_⟩;rcases sK o with rfl|⟨Q,z,rfl⟩
   ·exact trivial
   ·rw[sL]at*;exact l8 Q z _ h.2.1 (h.2.2 Q z rfl)
  ·have e:nx=1114112:=by omega
   subst e;exact⟨h.1,h.2.1⟩
 |g::L,o,nx,h,hR,hc,hn=>by obtain⟨r1,r2,r3,r4⟩:=hR;exact ziU L _ (g.2.1+1) (zeQ o nx g h r1 r2 (hc g (by simp))) r4 (fun x hx=>hc x (by simp[hx])) (by omega)
theorem zqe(S:List Tr)(h:Rs 0 S)(hc:∀g∈S,g.2.2≠0):nT 0 (whl S) 1114112/\Alt (whl S):=
 ziU S [] 0 ⟨rfl,trivial,fun Q z e=>by simp at e⟩ h hc (by omega)
end Dc
namespace Dc
theorem zpg:∀(R:List Tr)(a b:Nat)(g:Tr),nT a R b->g∈R->a<=g.1
 |[],_,_,_,_,hg=>by cases hg
 |x::R,a,b,g,h,hg=>by
  obtain⟨c1,c2,c3⟩:=h;rcases sQ.1 hg with rfl|hg
  ·omega
  ·have:=zpg R _ b g c3 hg;omega
theorem mR:∀(A:List Tr)(a b:Nat)(r:Int)(g:Tr),nT a A b->g∈A->(g.1:Int)<=r->r<=(g.2.1:Int)->gtp r A=g.2.2
 |[],_,_,_,g,_,hg,_,_=>by cases hg
 |x::R,a,b,r,g,h,hg,h1,h2=>by
  obtain⟨c1,c2,c3⟩:=h;unfold gtp;rcases sQ.1 hg with rfl|hg
  ·rw[if_neg (by omega)]
  ·have h5:=zpg R _ b g c3 hg;rw[if_pos (by omega)];exact mR R _ b r g c3 hg h1 h2
theorem zcr:∀(A:List Tr)(a b:Nat)(r:Int),nT a A b->(a:Int)<=r->r<(b:Int)->∃g∈A,(g.1:Int)<=r/\r<=(g.2.1:Int)
 |[],a,b,r,h,h1,h2=>by have h':a=b:=h;omega
 |x::R,a,b,r,h,h1,h2=>by
  obtain⟨c1,c2,c3⟩:=h;by_cases hr:r<=(x.2.1:Int)
  ·exact⟨x,by simp,by omega,hr⟩
  ·obtain⟨g,hg,h5⟩:=zcr R _ b r c3 (by omega) h2;exact⟨g,by simp[hg],h5⟩
theorem zeN(r c:Int)(A:List Tr):aI r (jF c A) ↔ ∃g∈A,(g.2.2:Int)=c/\(g.1:Int)<=r/\r<=(g.2.1:Int):=by
 rw[bK];unfold jF;constructor
 ·rintro ⟨x,hx,h1,h2⟩;obtain⟨g,hg,rfl⟩:=ux.1 hx;obtain⟨h3,h4⟩:=ug.1 hg;exact⟨g,h3,by simpa using h4,h1,h2⟩
 ·rintro ⟨g,h1,h2,h3,h4⟩;exact⟨_,ux.2 ⟨g,ug.2 ⟨h1,by simpa using h2⟩,rfl⟩,h3,h4⟩
theorem zrj(A:List Tr)(h:nT 0 A 1114112)(r:Int)(i:Nat)(h0:0<=r)(h1:r<=1114111):gQ r (jF (i:Int) A)=decide (gtp r A=i):=by
 rw[Bool.eq_iff_iff,zon,decide_eq_true_iff];unfold bU;rw[zeN];constructor
 ·rintro ⟨_,_,g,hg,h2,h3,h4⟩;rw[mR A 0 _ r g h hg h3 h4];omega
 ·intro he;obtain⟨g,hg,h3,h4⟩:=zcr A 0 1114112 r h (by omega) (by omega);refine⟨h0,h1,g,hg,?_,h3,h4⟩;rw[mR A 0 _ r g h hg h3 h4]at he;omega
theorem zmM(c:Int)(g:Tr)(R:List Tr):jF c (g::R)=(if (g.2.2:Int)=c then [((g.1:Int),(g.2.1:Int))]else [])++jF c R:=by
 unfold jF;rw[List.filter_cons];split
 ·rename_i h;rw[if_pos (by simpa using h)];rfl
 ·rename_i h;rw[if_neg (by simpa using h)];rfl
theorem zaq:∀(l:List Rg)(a b:Int),a<=b->nfF b l->nfF a l
 |[],_,_,_,_=>trivial
 |g::l,a,b,h,hb=>⟨by have:=hb.1;omega,hb.2⟩
theorem zpf:∀(R:List Tr)(a e:Nat),nT a R e->a<=e
 |[],a,e,h=>by have h':a=e:=h;omega
 |x::R,a,e,h=>by have:=zpf R _ e h.2.2;have:=h.1;have:=h.2.1;omega
theorem znE:∀(A:List Tr)(a e:Nat)(c:Int),nT a A e->Alt A->e<=1114112->nfF (a:Int) (jF c A)/\((∀x R,A=x::R->(x.2.2:Int)≠c)->nfF ((a:Int)+1) (jF c A))
 |[],a,e,c,_,_,_=>⟨trivial,fun _=>trivial⟩
 |g::R,a,e,c,h,hA,he=>by
  obtain⟨c1,c2,c3⟩:=h;have hle:=zpf R _ e c3;have hAR:Alt R:=by
   cases R with
   |nil=>exact trivial
   |cons y R=>exact hA.2
  obtain⟨i1,i2⟩:=znE R (g.2.1+1) e c c3 hAR he;rw[zmM];by_cases hc:(g.2.2:Int)=c
  ·rw[if_pos hc];have hh:nfF (((g.2.1+1:Nat):Int)+1) (jF c R):=i2 (fun x R' e=>by subst e;intro h5;exact hA.1 (by omega));have base:nfF (a:Int) (((g.1:Int),(g.2.1:Int))::jF c R):=⟨by show(a:Int)<=(g.1:Int);omega,by show(g.1:Int)<=(g.2.1:Int);omega,by show(g.2.1:Int)<=cJ;unfold cJ;omega,by
    have e:((g.1:Int),(g.2.1:Int)).2+2=((g.2.1+1:Nat):Int)+1:=by show(g.2.1:Int)+2=_;omega
    rw[e];exact hh⟩
   exact⟨base,fun hx=>absurd hc (hx g R rfl)⟩
  ·rw[if_neg hc];exact⟨zaq _ _ _ (by omega) i1,fun _=>zaq _ _ _ (by omega) i1⟩
end Dc
namespace Dc
def zaR(U:List (List UInt8))(S:List Tr):Prop:=U[0]?=some oth/\∀g∈S,1<=g.2.2/\g.2.2<U.length
theorem zdR:∀(D:List Tr)(g x:Tr)(R:List Tr),iy D g=some (x,R)->x.2.2=g.2.2/\(∀y∈R,y∈D)/\R.length<=D.length
 |[],g,x,R,h=>by simp only[iy,sN,tH]at h;obtain⟨rfl,rfl⟩:=h;exact⟨rfl,fun y hy=>(by cases hy),sV _⟩
 |d::D,g,x,R,h=>by
  unfold iy at h;split at h
  ·split at h
   ·obtain⟨h1,h2,h3⟩:=zdR D _ x R h;exact⟨h1,fun y hy=>by simp[h2 y hy],by simp;omega⟩
   ·cases h
  ·simp only[sN,tH]at h;obtain⟨rfl,rfl⟩:=h;exact⟨rfl,fun y hy=>hy,sV _⟩
theorem zdP:∀(S:List Tr)(g:Tr)(S':List Tr),gG S g=some S'->(∀x∈S',x.2.2=g.2.2\/x∈S)/\S'.length<=S.length+1
 |[],g,S',h=>by simp only[gG,sN]at h;subst h;exact⟨fun x hx=>.inl (by simp at hx;rw[hx]),by simp⟩
 |d::S,g,S',h=>by
  unfold gG at h;split at h
  ·cases hs:gG S g with
   |none=>rw[hs]at h;cases h
   |some T=>
    rw[hs]at h;simp only[tA,sN]at h;subst h;obtain⟨h1,h2⟩:=zdP S g T hs;refine⟨fun x hx=>?_,by simp;omega⟩;rcases sQ.1 hx with rfl|hx
    ·exact .inr (by simp)
    ·rcases h1 x hx with h5|h5
     ·exact .inl h5
     ·exact .inr (by simp[h5])
  ·cases hs:iy (d::S) g with
   |none=>rw[hs]at h;cases h
   |some y=>
    rw[hs]at h;simp only[tA,sN]at h;subst h;obtain⟨h1,h2,h3⟩:=zdR (d::S) g y.1 y.2 hs;refine⟨fun x hx=>?_,by rw[sM];omega⟩;rcases sQ.1 hx with rfl|hx
    ·exact .inl h1
    ·exact .inr (h2 x hx)
theorem zdQ:∀(G:List Rg)(S:List Tr)(c:Nat)(S':List Tr),kY S G c=some S'->(∀x∈S',x.2.2=c\/x∈S)/\S'.length<=S.length+G.length
 |[],S,c,S',h=>by simp only[kY,sN]at h;subst h;exact⟨fun x hx=>.inr hx,by simp⟩
 |g::G,S,c,S',h=>by
  unfold kY at h;cases hs:gG S (rgT c g)with
  |none=>rw[hs]at h;cases h
  |some T=>
   rw[hs]at h;obtain⟨h1,h2⟩:=zdP S _ T hs;obtain⟨h3,h4⟩:=zdQ G T c S' h;refine⟨fun x hx=>?_,by rw[sM];omega⟩;rcases h3 x hx with h5|h5
   ·exact .inl h5
   ·exact h1 x h5
theorem pY:∀(f:Nat)(l:List UInt8)(p:Nat)(acc:List Rg),p<=l.length->(eK f l p acc).1.length<=acc.length+(l.length-p)
 |0,l,p,acc,_=>by unfold eK;simp
 |f+1,l,p,acc,hp=>by
  unfold eK;split
  ·have:=zbK acc;show(oE acc).length<=_;omega
  ·split
   ·have:=pY f l (p+1) acc (by omega);omega
   ·split
    ·simp
    ·split
     ·simp
     ·rename_i h1 h2 h3 h4;obtain⟨i1,i2,_⟩:=zgY l p hp;have i2':=i2 (by simpa using h3);have:=pY f l (fg l p).2.1 (acc++[(fg l p).1]) i1;rw[tC]at this;simp at this;omega
theorem zbE(l:List UInt8):(lB l).1.length<=l.length:=by have:=pY (l.length+1) l 0 [] (tU _);unfold lB;simpa using this
theorem znn(U:List (List UInt8))(S:List Tr)(l:List UInt8)(h:zaR U S)(h0:(rC U S l).1=0):zaR (rC U S l).2.1 (rC U S l).2.2/\(rC U S l).2.2.length<=S.length+l.length:=by
 have hl1:=zec l;have hsl:=zqC (cE l);have hpl:=zbE (rsp (cE l));obtain⟨u0,hS⟩:=h;have hU:0<U.length:=(sE.1 u0).1;unfold rC at h0⊢;split
 ·exact⟨⟨u0,hS⟩,by simp⟩
 ·rename_i c1;rw[if_neg c1]at h0;split
  ·rename_i c2;rw[if_pos c2]at h0;cases h0
  ·rename_i c2;rw[if_neg c2]at h0;split
   ·rename_i c3;rw[if_pos c3]at h0;cases h0
   ·rename_i c3;rw[if_neg c3]at h0;split
    ·rename_i c4;rw[if_pos c4]at h0;exact absurd h0 c4
    ·rename_i c4;rw[if_neg c4]at h0;split
     ·rename_i c5;rw[if_pos c5]at h0;cases h0
     ·rename_i c5;rw[if_neg c5]at h0;have hne:rnm (cE l)≠oth:=fun e=>c3 (.inr e);cases hs:kY S (lB (rsp (cE l))).1 (gz (rnm (cE l)) U).2 with
      |none=>rw[hs]at h0;cases h0
      |some S'=>
       show zaR (gz (rnm (cE l)) U).1 S'/\S'.length<=S.length+l.length;obtain⟨k1,k2⟩:=zdQ _ S _ S' hs;generalize rnm (cE l)=nm at*;have hadn:(gz nm U).1[0]?=some oth/\1<=(gz nm U).2/\(gz nm U).2<(gz nm U).1.length/\U.length<=(gz nm U).1.length:=by
        unfold gz;split
        ·rename_i hm;have h5:=td hm;refine⟨u0,?_,h5,sV _⟩;show 1<=U.idxOf nm;rcases Nat.eq_zero_or_pos (U.idxOf nm)with h6|h6
         ·exfalso;have h7:U[U.idxOf nm]?=some nm:=by rw[sD h5,tY]
          rw[h6,u0]at h7;injection h7 with h7;exact hne h7.symm
         ·exact h6
        ·refine⟨?_,hU,by simp,by simp⟩;show(U++[nm])[0]?=some oth;rw[sP hU];exact u0
       obtain⟨a1,a2,a3,a4⟩:=hadn;refine⟨⟨a1,fun g hg=>?_⟩,by omega⟩;rcases k1 g hg with h5|h5
       ·rw[h5];exact⟨a2,a3⟩
       ·have:=hS g h5;omega
def kX:List (List UInt8)->Nat
 |[]=>0
 |x::L=>x.length+kX L
theorem zia:∀l:List UInt8,kX (ib l)<=l.length
 |[]=>by simp[ib,kX]
 |b::r=>by
  have ih:=zia r;rw[eO];split
  ·show 0+kX (ib r)<=_;rw[sM];omega
  ·show(b::(ib r).headD []).length+kX (ib r).tail<=_;cases hr:ib r with
   |nil=>simp[kX]
   |cons y ys=>rw[hr]at ih;have ih':y.length+kX ys<=r.length:=ih;show(b::y).length+kX ys<=_;rw[sM,sM];omega
theorem zuS(o:List Tr)(g:Tr):∀x∈jn o g,x.2.2=g.2.2\/x∈o:=fun x hx=>by
 rcases sK o with rfl|⟨Q,z,rfl⟩
 ·rw[zgX]at hx;simp at hx;exact .inl (by rw[hx])
 ·rw[sL]at*;rw[jw]at hx;split at hx
  ·rcases sY.1 hx with hx|hx
   ·exact .inr (by simp[hx])
   ·simp at hx;exact .inl (by rw[hx])
  ·rcases sY.1 hx with hx|hx
   ·exact .inr hx
   ·simp at hx;exact .inl (by rw[hx])
theorem zhO:∀(L o:List Tr)(nx:Nat),∀x∈whF o nx L,x.2.2=0\/x∈o\/∃g∈L,x.2.2=g.2.2
 |[],o,nx,x,hx=>by
  unfold whF at hx;split at hx
  ·rcases sY.1 hx with hx|hx
   ·exact .inr (.inl hx)
   ·simp at hx;exact .inl (by rw[hx])
  ·exact .inr (.inl hx)
 |g::L,o,nx,x,hx=>by
  rcases zhO L _ _ x hx with h|h|⟨y,hy,h⟩
  ·exact .inl h
  ·rcases zuS _ g x h with h5|h5
   ·exact .inr (.inr ⟨g,by simp,h5⟩)
   ·unfold gp at h5;split at h5
    ·rcases sY.1 h5 with h5|h5
     ·exact .inr (.inl h5)
     ·simp at h5;exact .inl (by rw[h5])
    ·exact .inr (.inl h5)
  ·exact .inr (.inr ⟨y,by simp[hy],h⟩)
theorem zlI(U:List (List UInt8))(S:List Tr)(h:zaR U S)(hR:Rs 0 S):nT 0 (whl S) 1114112/\Alt (whl S)/\(∀g∈whl S,g.2.2<U.length)/\(whl S).length<=2*S.length+1:=by
 obtain⟨c1,c2⟩:=zqe S hR (fun g hg=>by have:=(h.2 g hg).1;omega);have hU:0<U.length:=(sE.1 h.1).1;refine⟨c1,c2,fun g hg=>?_,?_⟩
 ·rcases zhO S [] 0 g hg with h5|h5|⟨y,hy,h5⟩
  ·omega
  ·cases h5
  ·have:=(h.2 y hy).2;omega
 ·have:=zhN S [] 0;unfold whl;simpa using this
end Dc
namespace Dc
def Hd(d r:Nat)(S:List Tr):Prop:=∃g∈S,g.2.2=d/\g.1<=r/\r<=g.2.1
theorem dO(d r:Nat)(h:Tr)(S:List Tr):Hd d r (h::S) ↔ (h.2.2=d/\h.1<=r/\r<=h.2.1)\/Hd d r S:=by unfold Hd;simp
theorem qp(d r:Nat):¬Hd d r []:=by unfold Hd;simp
theorem pI:∀(S:List Tr)(b:Nat),Rs b S->∀g∈S,b<=g.1/\g.1<=g.2.1/\g.2.1<=1114111
 |[],_,_,g,hg=>by cases hg
 |h::S,b,hR,g,hg=>by
  obtain⟨r1,r2,r3,r4⟩:=hR;rcases sQ.1 hg with rfl|hg
  ·exact⟨r1,r2,r3⟩
  ·obtain⟨p1,p2,p3⟩:=pI S _ r4 g hg;exact⟨by omega,p2,p3⟩
theorem zac:∀(D:List Tr)(g:Tr)(b:Nat),Rs b D->(iy D g=none ↔ ∃h∈D,h.2.2≠g.2.2/\h.1<=g.2.1)
 |[],g,b,_=>by simp[iy]
 |h::D,g,b,hR=>by
  obtain⟨r1,r2,r3,r4⟩:=hR;unfold iy;by_cases c1:h.1<=g.2.1
  ·rw[if_pos c1];by_cases c2:h.2.2=g.2.2
   ·rw[if_pos c2,zac D _ _ r4];constructor
    ·rintro ⟨x,hx,h1,h2⟩;have h5:=pI D _ r4 x hx;refine⟨x,by simp[hx],h1,?_⟩;have h6:x.1<=max g.2.1 h.2.1:=h2;omega
    ·rintro ⟨x,hx,h1,h2⟩;rcases sQ.1 hx with rfl|hx
     ·exact absurd c2 h1
     ·exact⟨x,hx,h1,by show x.1<=max g.2.1 h.2.1;omega⟩
   ·rw[if_neg c2];exact⟨fun _=>⟨h,by simp,c2,c1⟩,fun _=>rfl⟩
  ·rw[if_neg c1];constructor
   ·intro h5;cases h5
   ·rintro ⟨x,hx,h1,h2⟩;exfalso;rcases sQ.1 hx with rfl|hx
    ·exact c1 h2
    ·have h5:=pI D _ r4 x hx;omega
theorem zij:∀(D:List Tr)(g:Tr)(b:Nat)(x:Tr)(R:List Tr),Rs b D->(∀y∈D,g.1<=y.2.1)->g.1<=g.2.1->iy D g=some (x,R)->∀d r,Hd d r (x::R) ↔ Hd d r D\/(d=g.2.2/\g.1<=r/\r<=g.2.1)
 |[],g,b,x,R,_,_,_,he,d,r=>by
  simp only[iy,sN,tH]at he;obtain⟨rfl,rfl⟩:=he;rw[dO];constructor
  ·rintro (⟨h1,h2⟩|h)
   ·exact .inr ⟨h1.symm,h2⟩
   ·exact .inl h
  ·rintro (h|⟨h1,h2⟩)
   ·exact .inr h
   ·exact .inl ⟨h1.symm,h2⟩
 |h::D,g,b,x,R,hR,hy,h2,he,d,r=>by
  obtain⟨r1,r2,r3,r4⟩:=hR;have hh:=hy h (by simp);unfold iy at he;by_cases c1:h.1<=g.2.1
  ·rw[if_pos c1]at he;by_cases c2:h.2.2=g.2.2
   ·rw[if_pos c2]at he;have ih:=zij D (min g.1 h.1,max g.2.1 h.2.1,g.2.2) _ x R r4 (fun y hq=>by have h5:=hy y (by simp[hq]);show min g.1 h.1<=_;omega) (by show min g.1 h.1<=max g.2.1 h.2.1;omega) he d r;rw[ih,dO,c2];show _\/(d=g.2.2/\min g.1 h.1<=r/\r<=max g.2.1 h.2.1) ↔ _;constructor
    ·rintro (h5|⟨h5,h6,h7⟩)
     ·exact .inl (.inr h5)
     ·by_cases h8:h.1<=r/\r<=h.2.1
      ·exact .inl (.inl ⟨h5.symm,h8⟩)
      ·exact .inr ⟨h5,by omega,by omega⟩
    ·rintro ((⟨h5,h6,h7⟩|h5)|⟨h5,h6,h7⟩)
     ·exact .inr ⟨h5.symm,by omega,by omega⟩
     ·exact .inl h5
     ·exact .inr ⟨h5,by omega,by omega⟩
   ·rw[if_neg c2]at he;cases he
  ·rw[if_neg c1]at he;simp only[sN,tH]at he;obtain⟨rfl,rfl⟩:=he;rw[dO];constructor
   ·rintro (⟨h5,h6⟩|h5)
    ·exact .inr ⟨h5.symm,h6⟩
    ·exact .inl h5
   ·rintro (h5|⟨h5,h6⟩)
    ·exact .inr h5
    ·exact .inl ⟨h5.symm,h6⟩
theorem sC:∀(S:List Tr)(g:Tr)(b:Nat),Rs b S->g.1<=g.2.1->(gG S g=none ↔ ∃d r,d≠g.2.2/\Hd d r S/\g.1<=r/\r<=g.2.1)
 |[],g,b,_,_=>by
  constructor
  ·intro h;cases h
  ·rintro ⟨d,r,_,h,_⟩;exact absurd h (qp d r)
 |h::S,g,b,hR,hg=>by
  obtain⟨r1,r2,r3,r4⟩:=hR;unfold gG;by_cases c1:(h.2.1:Int)<(g.1:Int)
  ·rw[if_pos c1,tJ,sC S g _ r4 hg];constructor
   ·rintro ⟨d,r,h1,h2,h3⟩;exact⟨d,r,h1,(dO d r h S).2 (.inr h2),h3⟩
   ·rintro ⟨d,r,h1,h2,h3⟩;rcases(dO d r h S).1 h2 with h4|h4
    ·omega
    ·exact⟨d,r,h1,h4,h3⟩
  ·rw[if_neg c1,tJ,zac (h::S) g b ⟨r1,r2,r3,r4⟩];constructor
   ·rintro ⟨x,hx,h1,h2⟩;have h5:g.1<=x.2.1/\x.1<=x.2.1:=by
     rcases sQ.1 hx with rfl|hx
     ·omega
     ·have h6:=pI S _ r4 x hx;omega
    exact⟨x.2.2,max g.1 x.1,h1,⟨x,hx,rfl,by omega,by omega⟩,by omega,by omega⟩
   ·rintro ⟨d,r,h1,⟨x,hx,h2,h3,h4⟩,h5,h6⟩;exact⟨x,hx,by rw[h2];exact h1,by omega⟩
theorem zbp:∀(S:List Tr)(g:Tr)(b:Nat)(S':List Tr),Rs b S->g.1<=g.2.1->gG S g=some S'->∀d r,Hd d r S' ↔ Hd d r S\/(d=g.2.2/\g.1<=r/\r<=g.2.1)
 |[],g,b,S',_,_,he,d,r=>by
  simp only[gG,sN]at he;subst he;rw[dO];constructor
  ·rintro (⟨h1,h2⟩|h)
   ·exact .inr ⟨h1.symm,h2⟩
   ·exact .inl h
  ·rintro (h|⟨h1,h2⟩)
   ·exact .inr h
   ·exact .inl ⟨h1.symm,h2⟩
 |h::S,g,b,S',hR,hg,he,d,r=>by
  obtain⟨r1,r2,r3,r4⟩:=hR;unfold gG at he;by_cases c1:(h.2.1:Int)<(g.1:Int)
  ·rw[if_pos c1]at he;cases hs:gG S g with
   |none=>rw[hs]at he;cases he
   |some T=>rw[hs]at he;simp only[tA,sN]at he;subst he;rw[dO,dO,zbp S g _ T r4 hg hs d r,or_assoc]
  ·rw[if_neg c1]at he;cases hs:iy (h::S) g with
   |none=>rw[hs]at he;cases he
   |some x=>
    rw[hs]at he;simp only[tA,sN]at he;subst he;exact zij (h::S) g b x.1 x.2 ⟨r1,r2,r3,r4⟩ (fun y hy=>by
     rcases sQ.1 hy with rfl|hy
     ·omega
     ·have h6:=pI S _ r4 y hy;omega) hg hs d r
theorem dz(r d:Nat)(S:List Tr):aI (r:Int) (jF (d:Int) S) ↔ Hd d r S:=by
 rw[zeN];unfold Hd;constructor
 ·rintro ⟨g,h1,h2,h3,h4⟩;exact⟨g,h1,by omega,by omega,by omega⟩
 ·rintro ⟨g,h1,h2,h3,h4⟩;exact⟨g,h1,by omega,by omega,by omega⟩
def okR(G:List Rg):Prop:=∀g∈G,0<=g.1/\g.1<=g.2/\g.2<=1114111
theorem zab:∀(G:List Rg)(S:List Tr)(c:Nat),Rs 0 S->okR G->(kY S G c=none ↔ ∃d r:Nat,d≠c/\Hd d r S/\aI (r:Int) G)
 |[],S,c,_,_=>by
  constructor
  ·intro h;cases h
  ·rintro ⟨d,r,_,_,h⟩;exact absurd h (by simp[aI])
 |g::G,S,c,hR,hG=>by
  obtain⟨g0,g1,g2⟩:=hG g (by simp);have hG':okR G:=fun x hx=>hG x (by simp[hx]);have hle:(rgT c g).1<=(rgT c g).2.1:=by show g.1.toNat<=g.2.toNat;omega
  have hc:(rgT c g).2.2=c:=rfl;have hin:∀r:Nat,aI (r:Int) (g::G) ↔ ((rgT c g).1<=r/\r<=(rgT c g).2.1)\/aI (r:Int) G:=fun r=>by
   show(_\/_) ↔ (g.1.toNat<=r/\r<=g.2.toNat)\/_;have h5:(g.1<=(r:Int)/\(r:Int)<=g.2) ↔ (g.1.toNat<=r/\r<=g.2.toNat):=by omega
   rw[h5]
  have h1:=sC S (rgT c g) 0 hR hle;unfold kY;cases hs:gG S (rgT c g)with
  |none=>obtain⟨d,r,p1,p2,p3⟩:=h1.1 hs;exact⟨fun _=>⟨d,r,p1,p2,(hin r).2 (.inl p3)⟩,fun _=>rfl⟩
  |some T=>
   have hT:=zbp S (rgT c g) 0 T hR hle hs;have hTR:=zbo S (rgT c g) 0 T hR (tU _) hle (by show g.2.toNat<=1114111;omega) hs;show kY T G c=none ↔ _;rw[zab G T c hTR hG'];constructor
   ·rintro ⟨d,r,p1,p2,p3⟩;rcases(hT d r).1 p2 with p4|p4
    ·exact⟨d,r,p1,p4,(hin r).2 (.inr p3)⟩
    ·exact absurd (p4.1.trans hc) p1
   ·rintro ⟨d,r,p1,p2,p3⟩;rcases(hin r).1 p3 with p4|p4
    ·exact absurd (h1.2 ⟨d,r,by rw[hc];exact p1,p2,p4⟩) (by rw[hs];simp)
    ·exact⟨d,r,p1,(hT d r).2 (.inl p2),p4⟩
theorem zaa:∀(G:List Rg)(S:List Tr)(c:Nat)(S':List Tr),Rs 0 S->okR G->kY S G c=some S'->Rs 0 S'/\∀d r:Nat,Hd d r S' ↔ Hd d r S\/(d=c/\aI (r:Int) G)
 |[],S,c,S',hR,_,he=>by cases he;exact⟨hR,fun d r=>by simp[aI]⟩
 |g::G,S,c,S',hR,hG,he=>by
  obtain⟨g0,g1,g2⟩:=hG g (by simp);have hG':okR G:=fun x hx=>hG x (by simp[hx]);have hle:(rgT c g).1<=(rgT c g).2.1:=by show g.1.toNat<=g.2.toNat;omega
  have hc:(rgT c g).2.2=c:=rfl;have hin:∀r:Nat,aI (r:Int) (g::G) ↔ ((rgT c g).1<=r/\r<=(rgT c g).2.1)\/aI (r:Int) G:=fun r=>by
   show(_\/_) ↔ (g.1.toNat<=r/\r<=g.2.toNat)\/_;have h5:(g.1<=(r:Int)/\(r:Int)<=g.2) ↔ (g.1.toNat<=r/\r<=g.2.toNat):=by omega
   rw[h5]
  unfold kY at he;cases hs:gG S (rgT c g)with
  |none=>rw[hs]at he;cases he
  |some T=>
   rw[hs]at he;have hT:=zbp S (rgT c g) 0 T hR hle hs;have hTR:=zbo S (rgT c g) 0 T hR (tU _) hle (by show g.2.toNat<=1114111;omega) hs;obtain⟨q1,q2⟩:=zaa G T c S' hTR hG' he;refine⟨q1,fun d r=>?_⟩;rw[q2,hT,hin,hc,or_assoc];constructor
   ·rintro (p|p|p)
    ·exact .inl p
    ·exact .inr ⟨p.1,.inl p.2⟩
    ·exact .inr ⟨p.1,.inr p.2⟩
   ·rintro (p|⟨p,q|q⟩)
    ·exact .inl p
    ·exact .inr (.inl ⟨p,q⟩)
    ·exact .inr (.inr ⟨p,q⟩)
end Dc
namespace Dc
theorem mQ(d r:Nat)(P Q:List Tr):Hd d r (P++Q) ↔ Hd d r P\/Hd d r Q:=by
 unfold Hd;constructor
 ·rintro ⟨g,hg,h⟩;rcases sY.1 hg with hg|hg
  ·exact .inl ⟨g,hg,h⟩
  ·exact .inr ⟨g,hg,h⟩
 ·rintro (⟨g,hg,h⟩|⟨g,hg,h⟩)
  ·exact⟨g,sY.2 (.inl hg),h⟩
  ·exact⟨g,sY.2 (.inr hg),h⟩
theorem mP(d r:Nat)(g:Tr):Hd d r [g] ↔ g.2.2=d/\g.1<=r/\r<=g.2.1:=by rw[dO];exact⟨fun h=>h.elim id (fun h=>absurd h (qp d r)),.inl⟩
theorem zri(o:List Tr)(nx:Nat)(g:Tr)(h:zlw o nx)(h1:nx<=g.1)(h2:g.1<=g.2.1)(h3:g.2.2≠0)(d r:Nat)(hd:d≠0):Hd d r (jn (gp o nx g) g) ↔ Hd d r o\/Hd d r [g]:=by
 unfold gp;by_cases c:nx<g.1
 ·rw[if_pos c,jw,if_neg (fun e=>h3 e.symm),mQ,mQ,mP d r (nx,g.1-1,0)];constructor
  ·rintro ((h5|h5)|h5)
   ·exact .inl h5
   ·exact absurd h5.1.symm hd
   ·exact .inr h5
  ·rintro (h5|h5)
   ·exact .inl (.inl h5)
   ·exact .inr h5
 ·rw[if_neg c];rcases sK o with rfl|⟨Q,z,rfl⟩
  ·rw[zgX];exact⟨.inr,fun h5=>h5.elim (fun h6=>absurd h6 (qp d r)) id⟩
  ·rw[sL]at*;rw[jw];split
   ·rename_i hz;obtain⟨k1,k2,k3⟩:=qE Q 0 _ z h.1;rw[mQ,mQ,mP,mP,mP,or_assoc];show _\/(g.2.2=d/\z.1<=r/\r<=g.2.1) ↔ _;rw[hz];constructor
    ·rintro (h5|⟨h5,h6,h7⟩)
     ·exact .inl h5
     ·by_cases h8:r<=z.2.1
      ·exact .inr (.inl ⟨h5,h6,h8⟩)
      ·exact .inr (.inr ⟨h5,by omega,h7⟩)
    ·rintro (h5|⟨h5,h6,h7⟩|⟨h5,h6,h7⟩)
     ·exact .inl h5
     ·exact .inr ⟨h5,h6,by omega⟩
     ·exact .inr ⟨h5,by omega,h7⟩
   ·rw[mQ]
theorem zlJ:∀(L o:List Tr)(nx:Nat),zlw o nx->Rs nx L->(∀g∈L,g.2.2≠0)->∀d r,d≠0->(Hd d r (whF o nx L) ↔ Hd d r o\/Hd d r L)
 |[],o,nx,h,_,_,d,r,hd=>by
  have hn:¬Hd d r []:=qp d r;unfold whF;split
  ·rw[mQ,mP];constructor
   ·rintro (h5|h5)
    ·exact .inl h5
    ·exact absurd h5.1.symm hd
   ·rintro (h5|h5)
    ·exact .inl h5
    ·exact absurd h5 hn
  ·exact⟨.inl,fun h5=>h5.elim id (fun h6=>absurd h6 hn)⟩
 |g::L,o,nx,h,hR,hc,d,r,hd=>by obtain⟨r1,r2,r3,r4⟩:=hR;have h3:=hc g (by simp);show Hd d r (whF (jn (gp o nx g) g) (g.2.1+1) L) ↔ _;rw[zlJ L _ _ (zeQ o nx g h r1 r2 h3) r4 (fun x hx=>hc x (by simp[hx])) d r hd,zri o nx g h r1 r2 h3 d r hd,mP,dO,or_assoc]
theorem zfP(S:List Tr)(h:Rs 0 S)(hc:∀g∈S,g.2.2≠0)(d r:Nat)(hd:d≠0):Hd d r (whl S) ↔ Hd d r S:=by unfold whl;rw[zlJ S [] 0 ⟨rfl,trivial,fun Q z e=>by simp at e⟩ h hc d r hd];exact⟨fun h5=>h5.elim (fun h6=>absurd h6 (qp d r)) id,.inr⟩
theorem zrG(A:List Tr)(h:nT 0 A 1114112)(r:Nat)(hr:r<=1114111):Hd 0 r A ↔ ∀d,d≠0->¬Hd d r A:=by
 constructor
 ·rintro ⟨g,h1,h2,h3,h4⟩ d hd ⟨g',k1,k2,k3,k4⟩;have e1:=mR A 0 _ (r:Int) g h h1 (by omega) (by omega);have e2:=mR A 0 _ (r:Int) g' h k1 (by omega) (by omega);omega
 ·intro hn;obtain⟨g,hg,h3,h4⟩:=zcr A 0 1114112 (r:Int) h (by omega) (by omega);by_cases h0:g.2.2=0
  ·exact⟨g,hg,h0,by omega,by omega⟩
  ·exact absurd ⟨g,hg,rfl,by omega,by omega⟩ (hn g.2.2 h0)
theorem ziD{a b:List Rg}(ha:nf a)(hb:nf b)(h:∀r:Nat,r<=1114111->(aI (r:Int) a ↔ aI (r:Int) b)):a=b:=by
 refine zgH ha hb (fun r=>?_);constructor
 ·intro h5;have g1:=dA ha h5;have g2:=lK ha h5;unfold cJ at g2;obtain⟨n,rfl⟩:∃n:Nat,r=(n:Int):=⟨r.toNat,by omega⟩;exact(h n (by omega)).1 h5
 ·intro h5;have g1:=dA hb h5;have g2:=lK hb h5;unfold cJ at g2;obtain⟨n,rfl⟩:∃n:Nat,r=(n:Int):=⟨r.toNat,by omega⟩;exact(h n (by omega)).2 h5
theorem bH(r:Nat)(hr:r<=1114111)(l:List Rg):bU (r:Int) l ↔ aI (r:Int) l:=by unfold bU cJ;exact⟨fun h=>h.2.2,fun h=>⟨by omega,by omega,h⟩⟩
def zvw(n:Nat)(S:List Tr)(D:List (List Rg)):Prop:=D.length=n/\D[0]?=some []/\∀d,1<=d->d<n->D[d]?=some (oE (jF (d:Int) S))
def dst(n:Nat)(A:List Tr):List (List Rg):=(uh n).map fun i:Nat=>jF (i:Int) A
theorem zax(r:Int):∀(D:List (List Rg)),aI r D.flatten ↔ ∃l∈D,aI r l
 |[]=>by simp[aI]
 |l::D=>by rw[List.flatten_cons,qn,zax r D];simp
theorem zco(n:Nat)(A:List Tr)(i:Nat)(hi:i<n):(dst n A)[i]?=some (jF (i:Int) A):=by unfold dst;rw[List.getElem?_map,List.getElem?_range hi];rfl
theorem zjj(n:Nat)(A:List Tr):(dst n A).length=n:=by unfold dst;simp
theorem zoY(n:Nat)(S:List Tr)(D:List (List Rg))(hn:1<=n)(hR:Rs 0 S)(hc:∀g∈S,1<=g.2.2/\g.2.2<n)(hC:nT 0 (whl S) 1114112)(hA:Alt (whl S))(h:zvw n S D):D.set 0 (nt (D.drop 1).flatten)=dst n (whl S):=by
 obtain⟨d1,d2,d3⟩:=h;have hc0:∀g∈S,g.2.2≠0:=fun g hg=>by have:=hc g hg;omega
 have hnf:∀c:Nat,nf (jF (c:Int) (whl S)):=fun c=>(znE (whl S) 0 _ (c:Int) hC hA (sV _)).1;apply List.ext_getElem?;intro i;by_cases hi:i<n
 ·rw[zco n _ i hi];by_cases h0:i=0
  ·subst h0;rw[tc (by omega)];congr 1;refine ziD (zwC _) (hnf 0) (fun r hr=>?_);rw[zwD,dz,zrG _ hC r hr,bH r hr,zax];constructor
   ·rintro ⟨_,_,h5⟩ d hd h6;rw[zfP S hR hc0 d r hd]at h6;apply h5;have hdn:d<n:=by obtain⟨g,hg,h7,_⟩:=h6;have:=hc g hg;omega
    have h8:=d3 d (by omega) hdn;refine⟨oE (jF (d:Int) S),?_,?_⟩
    ·rw[tM];exact⟨d-1,by rw[sS,show 1+(d-1)=d by omega];exact h8⟩
    ·rw[d9,bH r hr,dz];exact h6
   ·intro h5;refine⟨by omega,by unfold cJ;omega,?_⟩;rintro ⟨l,hl,h6⟩;obtain⟨k,hk⟩:=tM.1 hl;rw[sS]at hk;have hk2:=(sE.1 hk).1;have h8:=d3 (1+k) (by omega) (by omega);rw[h8]at hk;injection hk with hk;rw[<-hk,d9,bH r hr,dz]at h6;exact h5 (1+k) (by omega) ((zfP S hR hc0 _ r (by omega)).2 h6)
  ·rw[sZ (by omega),d3 i (by omega) hi];congr 1;refine ziD (d8 _) (hnf i) (fun r hr=>?_);rw[d9,bH r hr,dz,dz,zfP S hR hc0 i r h0]
 ·rw[tN (by rw[tK];omega),tN (by rw[zjj];omega)]
end Dc
namespace Dc
theorem ziG(l m:List Rg)(hl:∀g∈l,g.1<=g.2)(hm:∀g∈m,g.1<=g.2):mtR l m=true ↔ ∃r,aI r l/\aI r m:=by
 unfold mtR ovl;rw[tu];constructor
 ·rintro ⟨g,hg,h⟩;obtain⟨h',hh,h5⟩:=tu.1 h;simp only[sR,decide_eq_true_eq]at h5;have h6:=hl g hg;have h7:=hm h' hh;exact⟨max g.1 h'.1,bK.2 ⟨g,hg,by omega,by omega⟩,bK.2 ⟨h',hh,by omega,by omega⟩⟩
 ·rintro ⟨r,h1,h2⟩;obtain⟨g,hg,p1,p2⟩:=bK.1 h1;obtain⟨h',hh,q1,q2⟩:=bK.1 h2;refine⟨g,hg,tu.2 ⟨h',hh,?_⟩⟩;simp only[sR,decide_eq_true_eq];omega
def iU(D:List (List Rg))(c:Nat)(L:List Rg)(i:Nat):Bool:=decide (1<=i)&&(decide (i≠c)&&mtR (D.getD i []) L)
def zct(D:List (List Rg))(n c:Nat)(L:List Rg):Bool:=(uh n).any (iU D c L)
theorem zpi(n:Nat)(S:List Tr)(D:List (List Rg))(c:Nat)(L:List Rg)(hL:nf L)(hc:∀g∈S,1<=g.2.2/\g.2.2<n)(h:zvw n S D):
  zct D n c L=true ↔ ∃d r:Nat,d≠c/\Hd d r S/\aI (r:Int) L:=by
 obtain⟨d1,d2,d3⟩:=h;have hm:∀g∈L,g.1<=g.2:=fun g hg=>(mG L hL g hg).2.1;have ho:∀i,1<=i->i<n->D.getD i []=oE (jF (i:Int) S):=fun i h1 h2=>by rw[sJ,d3 i h1 h2];rfl
 have hx:∀i:Nat,∀g∈oE (jF (i:Int) S),g.1<=g.2:=fun i g hg=>(mG _ (d8 _) g hg).2.1;unfold zct iU;rw[tu];constructor
 ·rintro ⟨i,hi,h5⟩;have hi':=tP.1 hi;simp only[sR,decide_eq_true_eq]at h5;obtain⟨k1,k2,k3⟩:=h5;rw[ho i k1 hi',ziG _ _ (hx i) hm]at k3;obtain⟨r,p1,p2⟩:=k3;have g1:=dA hL p2;have g2:=lK hL p2;unfold cJ at g2;obtain⟨m,rfl⟩:∃m:Nat,r=(m:Int):=⟨r.toNat,by omega⟩;rw[d9,bH m (by omega),dz]at p1;exact⟨i,m,k2,p1,p2⟩
 ·rintro ⟨d,r,k1,k2,k3⟩;have hd:1<=d/\d<n:=by obtain⟨g,hg,h7,_⟩:=k2;have:=hc g hg;omega
  have g2:=lK hL k3;unfold cJ at g2;refine⟨d,tP.2 hd.2,?_⟩;simp only[sR,decide_eq_true_eq];refine⟨hd.1,k1,?_⟩;rw[ho d hd.1 hd.2,ziG _ _ (hx d) hm];exact⟨(r:Int),by rw[d9,bH r (by omega),dz];exact k2,k3⟩
def dcN(U:List (List UInt8))(D:List (List Rg))(b:List UInt8)(L:List Rg):Int×List (List UInt8)×List (List Rg):=
 if b ∉ U/\64<=U.length then (6,U,D)
 else if zct D U.length (gz b U).2 L=true then (41,U,D)
 else (0,(gz b U).1,if b∈U then D.set (U.idxOf b) (nE (D.getD (U.idxOf b) []) L)else D++[nE [] L])
def dcS(U:List (List UInt8))(D:List (List Rg))(l:List UInt8):Int×List (List UInt8)×List (List Rg):=
 if tls (l.take (mg l).1)=[]then (0,U,D)
 else if (mg l).2<0 then (42,U,D)
 else if rF (tls ((l.take (mg l).1).drop ((mg l).2.toNat+1)))=false\/tls ((l.take (mg l).1).drop ((mg l).2.toNat+1))=oth then (40,U,D)
 else if (lB (((l.take (mg l).1).take (mg l).2.toNat).map tbl)).2.1≠0 then ((lB (((l.take (mg l).1).take (mg l).2.toNat).map tbl)).2.1,U,D)
 else dcN U D (tls ((l.take (mg l).1).drop ((mg l).2.toNat+1))) (lB (((l.take (mg l).1).take (mg l).2.toNat).map tbl)).1
def dcO(U:List (List UInt8))(D:List (List Rg)):Option (List UInt8×List Rg×Int)->Int×List (List UInt8)×List (List Rg)
 |none=>(42,U,D)
 |some (b,L,e)=>if rF b=false\/b=oth then (40,U,D)else if e≠0 then (e,U,D)else dcN U D b L
theorem zsN(U:List (List UInt8))(D:List (List Rg))(l:List UInt8):dcS U D l=if cE l=[]then (0,U,D)else dcO U D (qZ (cE l)):=by
 have hl:(l.take (fi 35 l)).length=fi 35 l:=by rw[tg];have:=zcf 35 l;omega
 have e2:=zjn l;unfold dcS;rw[zjo];unfold cE;rw[zrw];unfold qZ;rw[hl];by_cases h0:tls (l.take (fi 35 l))=[]
 ·rw[if_pos h0,if_pos h0]
 ·rw[if_neg h0,if_neg h0];by_cases hc:fi 59 (l.take (fi 35 l))<fi 35 l
  ·rw[if_pos hc]at e2⊢;have e3:(mg l).2.toNat=fi 59 (l.take (fi 35 l)):=by rw[e2];rfl
   rw[if_neg (by omega),e3];rfl
  ·rw[if_neg hc]at e2⊢;rw[if_pos (by omega)];rfl
def rdO(U:List (List UInt8))(S:List Tr):Option (List UInt8×List Rg×Int)->Int×List (List UInt8)×List Tr
 |none=>(42,U,S)
 |some (b,L,e)=>if rF b=false\/b=oth then (40,U,S)else if e≠0 then (e,U,S)else if (gz b U).2=64 then (6,U,S)else
   match kY S L (gz b U).2 with
   |none=>(41,U,S)
   |some S'=>(0,(gz b U).1,S')
theorem zwA(U:List (List UInt8))(S:List Tr)(l:List UInt8):rC U S l=if cE l=[]then (0,U,S)else rdO U S (qZ (cE l)):=by
 unfold rC qZ;by_cases h0:cE l=[]
 ·rw[if_pos h0,if_pos h0]
 ·rw[if_neg h0,if_neg h0];have hle:=zcf 59 (cE l);by_cases hc:fi 59 (cE l)=(cE l).length
  ·rw[if_pos hc,if_neg (by omega)];rfl
  ·rw[if_neg hc,if_pos (show fi 59 (cE l)<(cE l).length by omega)];rfl
theorem zvs(b:List UInt8)(U:List (List UInt8))(h:U.length<=64):(gz b U).2=64 ↔ b ∉ U/\64<=U.length:=by
 unfold gz;by_cases hb:b∈U
 ·rw[if_pos hb];have h5:=td hb;dsimp only;constructor
  ·intro h6;omega
  ·intro h6;exact absurd hb h6.1
 ·rw[if_neg hb];dsimp only;exact⟨fun h6=>⟨hb,by omega⟩,fun h6=>by omega⟩
theorem zvd(s:List UInt8)(b:List UInt8)(L:List Rg)(e:Int)(h:qZ s=some (b,L,e)):nf L:=by
 unfold qZ at h;split at h
 ·injection h with h;injection h with _ h;injection h with h _;rw[<-h];exact zuB _
 ·cases h
theorem zsx{L:List Rg}(h:nf L):okR L:=fun g hg=>mG L h g hg
structure zly(U:List (List UInt8))(S:List Tr)(D:List (List Rg)):Prop where
 good:zaR U S
 rs:Rs 0 S
 len:U.length<=64
 rel:zvw U.length S D
theorem zrS(b:List UInt8)(U:List (List UInt8))(h:U.length<=64)(h4:(gz b U).2≠64):(gz b U).1.length<=64:=by
 unfold gz at*;by_cases hb:b∈U
 ·rw[if_pos hb];exact h
 ·rw[if_neg hb]at h4⊢;dsimp only at*;simp;omega
theorem zpn(U:List (List UInt8))(S:List Tr)(D:List (List Rg))(b:List UInt8)(L:List Rg)(S':List Tr)(h:zly U S D)(hL:nf L)(hb:b≠oth)(h4:(gz b U).2≠64)(hs:kY S L (gz b U).2=some S')(hG:zaR (gz b U).1 S'):
  zly (gz b U).1 S' (if b∈U then D.set (U.idxOf b) (nE (D.getD (U.idxOf b) []) L)else D++[nE [] L]):=by
 obtain⟨q1,q2⟩:=zaa L S _ S' h.rs (zsx hL) hs;obtain⟨d1,d2,d3⟩:=h.rel;refine⟨hG,q1,zrS b U h.len h4,?_⟩;have hU0:0<U.length:=by have:=(sE.1 h.good.1).1;exact this
 have key:∀d:Nat,d≠(gz b U).2->oE (jF (d:Int) S')=oE (jF (d:Int) S):=fun d hd=>ziD (d8 _) (d8 _) (fun r hr=>by rw[d9,d9,bH r hr,bH r hr,dz,dz,q2];exact⟨fun h5=>h5.elim id (fun h6=>absurd h6.1 hd),.inl⟩);have keyc:∀a:List Rg,nf a->(∀r:Nat,r<=1114111->(aI (r:Int) a ↔ Hd (gz b U).2 r S))->oE (jF ((gz b U).2:Int) S')=nE a L:=fun a ha hr5=>ziD (d8 _) (d8 _) (fun r hr=>by show _ ↔ aI (r:Int) (nE a L);rw[d9,zuE,bH r hr,bH r hr,bH r hr,dz,q2,hr5 r hr];exact⟨fun h5=>h5.elim .inl (fun h6=>.inr h6.2),fun h5=>h5.elim .inl (fun h6=>.inr ⟨rfl,h6⟩)⟩);by_cases hm:b∈U
 ·have ea:gz b U=(U,U.idxOf b):=by unfold gz;rw[if_pos hm]
  rw[if_pos hm];rw[ea]at key keyc⊢;have hi:=td hm;have hi0:U.idxOf b≠0:=fun e=>hb (by have h5:=tY hi;have h6:=h.good.1;rw[sD hU0]at h6;injection h6 with h6;rw[<-h5,<-h6];simp only[e]);have hgd:D.getD (U.idxOf b) []=oE (jF ((U.idxOf b:Nat):Int) S):=by rw[sJ,d3 _ (by omega) hi];rfl
  refine⟨by rw[tK];exact d1,by rw[sZ (by omega)];exact d2,fun d h1 h2=>?_⟩;by_cases hd:d=U.idxOf b
  ·subst hd;rw[tc (by omega),hgd];congr 1;exact(keyc _ (d8 _) (fun r hr=>by rw[d9,bH r hr,dz])).symm
  ·rw[sZ (by omega),d3 d h1 h2,key d hd]
 ·have ea:gz b U=(U++[b],U.length):=by unfold gz;rw[if_neg hm]
  rw[if_neg hm];rw[ea]at key keyc⊢;dsimp only at*;have hl:(U++[b]).length=U.length+1:=by simp
  rw[hl];refine⟨by simp[d1],by rw[sP (by omega)];exact d2,fun d h1 h2=>?_⟩;by_cases hd:d=U.length
  ·subst hd;rw[te (by omega),d1,Nat.sub_self];show some _=some _;congr 1;refine(keyc [] trivial (fun r hr=>⟨fun h5=>absurd h5 (by simp[aI]),fun h5=>?_⟩)).symm;obtain⟨g,hg,h7,_⟩:=h5;have:=h.good.2 g hg;omega
  ·rw[sP (by omega),d3 d h1 (by omega),key d hd]
theorem zxd(U:List (List UInt8))(S:List Tr)(D:List (List Rg))(l:List UInt8)(h:zly U S D):
  (dcS U D l).1=(rC U S l).1/\((rC U S l).1=0->(dcS U D l).2.1=(rC U S l).2.1/\zly (rC U S l).2.1 (rC U S l).2.2 (dcS U D l).2.2):=by
 have hG:=znn U S l h.good;rw[zwA]at hG⊢;rw[zsN];by_cases h0:cE l=[]
 ·rw[if_pos h0,if_pos h0];exact⟨rfl,fun _=>⟨rfl,h⟩⟩
 ·rw[if_neg h0,if_neg h0];rw[if_neg h0]at hG;have hnf:=zvd (cE l);generalize qZ (cE l)=o at hG hnf⊢;cases o with
  |none=>exact⟨rfl,fun h5=>absurd (show(42:Int)=0 from h5) (by decide)⟩
  |some x=>
   obtain⟨b,L,e⟩:=x;have hL:=hnf b L e rfl;dsimp only[dcO,rdO]at hG⊢;by_cases c1:rF b=false\/b=oth
   ·rw[if_pos c1,if_pos c1];exact⟨rfl,fun h5=>absurd (show(40:Int)=0 from h5) (by decide)⟩
   ·rw[if_neg c1,if_neg c1];rw[if_neg c1]at hG;by_cases c2:e≠0
    ·rw[if_pos c2,if_pos c2];exact⟨rfl,fun h5=>absurd h5 c2⟩
    ·rw[if_neg c2,if_neg c2];rw[if_neg c2]at hG;unfold dcN;have h64:=zvs b U h.len;by_cases c3:(gz b U).2=64
     ·rw[if_pos c3,if_pos (h64.1 c3)];exact⟨rfl,fun h5=>absurd (show(6:Int)=0 from h5) (by decide)⟩
     ·rw[if_neg c3,if_neg (fun h5=>c3 (h64.2 h5))];rw[if_neg c3]at hG;have hcl:=(zpi U.length S D (gz b U).2 L hL h.good.2 h.rel).trans (zab L S (gz b U).2 h.rs (zsx hL)).symm;cases hs:kY S L (gz b U).2 with
      |none=>rw[if_pos (hcl.2 hs)];exact⟨rfl,fun h5=>absurd (show(41:Int)=0 from h5) (by decide)⟩
      |some S'=>rw[hs]at hG;rw[if_neg (fun h5=>by rw[hcl.1 h5]at hs;cases hs)];dsimp only at hG⊢;exact⟨rfl,fun _=>⟨rfl,zpn U S D b L S' h hL (fun h5=>c1 (.inr h5)) c3 hs (hG rfl).1⟩⟩
theorem zho:zly [oth] [] [[]]:=⟨⟨rfl,fun g hg=>by cases hg⟩,trivial,by decide,rfl,rfl,fun d h1 h2=>by simp at h2;omega⟩
def fK:List (List Rg)->Nat
 |[]=>0
 |l::D=>l.length+fK D
theorem zhT:∀(D:List (List Rg))(c:Nat)(x:List Rg),fK (D.set c x)<=fK D-(D.getD c []).length+x.length
 |[],c,x=>by simp[fK]
 |l::D,0,x=>by show x.length+fK D<=l.length+fK D-l.length+x.length;omega
 |l::D,c+1,x=>by have ih:=zhT D c x;have h5:(D.getD c []).length<=fK D:=jc D c;show l.length+fK (D.set c x)<=l.length+fK D-(D.getD c []).length+x.length;omega
where
 jc:∀(D:List (List Rg))(c:Nat),(D.getD c []).length<=fK D
  |[],c=>by simp[fK]
  |l::D,0=>by show l.length<=l.length+fK D;omega
  |l::D,c+1=>by have:=jc D c;show(D.getD c []).length<=l.length+fK D;omega
end Dc
namespace Dc
open Go.RowKit
def SpA(l:List UInt8)(B k:Nat)(w:sO):Prop:=∃(cs:Array tw)(M:Nat),w.heap[B]?=some (.cells cs 5 (M,M+1))/\l.length<=M/\∀j (hj:j<l.length),cs[j]?=some (.int .u8 ((if j<k then tbl l[j]else l[j]).toNat:Nat))
theorem SpA.cell{l:List UInt8}{B k:Nat}{w:sO}(h:SpA l B k w)(j:Nat)(hj:j<l.length):w.cell? ⟨B,j,none⟩=some (.int .u8 ((if j<k then tbl l[j]else l[j]).toNat:Nat)):=by obtain⟨cs,M,h1,h2,h3⟩:=h;rw[cell_of_row w B j cs 5 (M,M+1) h1];exact h3 j hj
theorem SpA.frozen{l:List UInt8}{B k:Nat}{w:sO}(h:SpA l B k w)(j:Nat)(hj:j<l.length):w.frozen? ⟨B,j,none⟩=false:=by obtain⟨cs,M,h1,h2,h3⟩:=h;unfold sO.frozen?;rw[show(⟨B,j,none⟩:Addr).block=B from rfl,h1];show(decide (M<=j)&&decide (j<M+1))=false;rw[decide_eq_false (by omega)];rfl
theorem SpA.store{l:List UInt8}{B k:Nat}{w:sO}(h:SpA l B k w)(hk:k<l.length)(h9:l[k]=9):SpA l B (k+1) (w.setCell ⟨B,k,none⟩ (.int .u8 32)):=by
 obtain⟨cs,M,h1,h2,h3⟩:=h;refine⟨_,M,Lib.heap_setCell_same (i:=k) h1 (.int .u8 32),h2,fun j hj=>?_⟩;have hkc:k<cs.size:=(Array.getElem?_eq_some_iff.1 (h3 k hk)).1;rw[Array.getElem?_setIfInBounds];by_cases hjk:k=j
 ·subst hjk;rw[if_pos rfl,if_pos hkc,if_pos (by omega),h9];rfl
 ·rw[if_neg hjk,h3 j hj];by_cases h5:j<k
  ·rw[if_pos h5,if_pos (by omega)]
  ·rw[if_neg h5,if_neg (by omega)]
theorem SpA.keep{l:List UInt8}{B k:Nat}{w:sO}(h:SpA l B k w)(hk:k<l.length)(h9:l[k]≠9):SpA l B (k+1) w:=by
 obtain⟨cs,M,h1,h2,h3⟩:=h;refine⟨cs,M,h1,h2,fun j hj=>?_⟩;rw[h3 j hj];by_cases hjk:k=j
 ·subst hjk;rw[if_neg (by omega),if_pos (by omega)];unfold tbl;rw[if_neg h9]
 ·by_cases h5:j<k
  ·rw[if_pos h5,if_pos (by omega)]
  ·rw[if_neg h5,if_neg (by omega)]
set_option maxRecDepth 100000 in
theorem zgm(l:List UInt8)(w:sO)(hl:l.length<=1000000):
  tS Tryz.prog 136 #[.string ⟨l.toArray⟩] w fun e w'=>e=.returned (.string ⟨(l.map tbl).toArray⟩)/\tn w.heap.size w w':=by
 obtain⟨t,ht⟩:∃t:ByteArray,t=⟨l.toArray⟩:=⟨_,rfl⟩;have hsz:t.size=l.length:=by rw[ht];show l.toArray.size=_;simp
 have hcv:=Lib.run_convert_string_bytes (P:=Tryz.prog) w 9 94 5 t (u:=.string) Tryz.underlying9 Tryz.underlying94 Tryz.underlying5;rw[hsz]at hcv;have HBW:=aa (Lib.bytesWorld_below w 5 t);have HSA:=aa (show SpA l w.heap.size 0 (ul w 5 t) by
  refine⟨_,_,tO w 5 t,?_,fun j hj=>?_⟩
  ·unfold Lib.bytesCells;rw[Array.size_append,Array.size_map];have h5:t.data.size=l.length:=hsz;omega
  ·have h5:=Lib.bytesWorld_cell w 5 t j (by omega);rw[cell_of_row _ _ j _ 5 _ (tO w 5 t)]at h5;rw[h5,ht,if_neg (by omega)];simp[sX,hj])
 obtain⟨c,hc⟩:=aj (grownCap w l.length 0 5);rw[<-hc]at hcv;obtain⟨N,hN⟩:=aj w.heap.size;rw[<-hN]at hcv HSA HBW⊢;obtain⟨W1,hW1⟩:=aj (ul w 5 t);rw[<-hW1]at hcv HBW HSA;rw[<-ht];clear hW1 ht hc hN hsz;go_enter Tryz.func136,Tryz.ntmps136;go_wp2;clear hcv;go_loopw [4] (fun x wr=>∃k:Nat,k<=l.length/\x=.int .i64 (k:Int)/\ae (SpA l N k wr)/\ae (tn N w wr)) (fun x _=>l.length-(ti x).toNat)
 case atStart=>exact⟨0,by omega,rfl,HSA,HBW⟩
 case round=>
  obtain⟨k,hk,rfl,HS,HB⟩:=hrel;clear HSA HBW;by_cases hlt:k<l.length
  ·have i3:(k:Int)<(l.length:Int):=by omega
   have i0':(0:Int)<=(k:Int):=by omega
   have c1:=HS.o.cell k hlt;have c2:=HS.o.frozen k hlt;rw[if_neg (by omega)]at c1;have H9:=aa (fun h=>HS.o.store hlt h);have HN9:=aa (fun h=>HS.o.keep hlt h);generalize l[k]=b at*;by_cases h9:b=9
   ·have HSS:=aa (H9.o h9);have HBS:=aa (HB.o.setCell (p:=⟨N,k,none⟩) (sV N) (.int .u8 32));subst h9;clear H9 HN9;go_wp2;go_roundw
    case rel=>exact⟨k+1,by omega,by go_num,HSS,HBS⟩
    case measure=>simp[ti];omega
   ·have HSS:=aa (HN9.o h9);have h9':((b.toNat:Int)==9)=false:=beq_eq_false_iff_ne.2 (fun e=>h9 (sI.1 (show b.toNat=9 by omega)));clear H9 HN9;go_wp2;go_roundw
    case rel=>exact⟨k+1,by omega,by go_num,HSS,HB⟩
    case measure=>simp[ti];omega
  ·have i3:¬(k:Int)<(l.length:Int):=by omega
   have hlm:(l.map tbl).length=l.length:=by simp
   have hcb:=run_convert_bytes_back (P:=Tryz.prog) wr 94 9 5 ⟨N,0,none⟩ c (l.map tbl) Tryz.underlying94 Tryz.underlying5 Tryz.underlying9 (fun j hj=>by
    have hj':j<l.length:=by omega
    have h5:=HS.o.cell j hj';rw[if_pos (by omega)]at h5;have e:(⟨N,0,none⟩:Addr).add j=⟨N,j,none⟩:=by simp[Addr.add];exact fun h=>h.symm
    rw[e,h5];simp)
   rw[hlm]at hcb;go_wp2;go_ret;exact⟨rfl,HB.o⟩
end Dc
namespace Dc
open Go.RowKit
theorem zbX(l:List UInt8)(b j:Nat)(hj:j<=gy l b)(m:Nat)(hm:m<=j):∀c,c∈(l.drop b).take m->eh c=true:=fun c hc=>by
 have e:(l.drop b).take m=((l.drop b).take (gy l b)).take m:=by rw[List.take_take,Nat.min_eq_left (by omega)]
 rw[e]at hc;exact zrf l b c (List.mem_of_mem_take hc)
theorem zom(l:List UInt8)(b j:Nat)(hlt:b+j<l.length):(l.drop b).take (j+1)=(l.drop b).take j++[l[b+j]]:=by
 have h:j<(l.drop b).length:=by rw[sW];omega
 rw[List.take_succ_eq_append_getElem h,List.getElem_drop]
set_option maxRecDepth 100000 in
theorem zdY(l:List UInt8)(p:Nat)(w:sO)(hp:p+1<l.length)(hl:l.length<=100000)(hpr:pre (l.drop p) [85,43]=true):
  tS Tryz.prog 163 #[.string ⟨l.toArray⟩,.int .i64 p] w fun e w'=>e=.returned (rsv (iz l p))/\tn w.heap.size w w':=by
 have HSZ:ae ((⟨l.toArray⟩:ByteArray).size=l.length):=aa (by show l.toArray.size=_;simp);have HPR:=aa hpr;rw[lu hp]at hpr;have hpr2:=of_decide_eq_true hpr;have sz0:p<(⟨l.toArray⟩:ByteArray).size:=by rw[HSZ.o];omega
 have sz1:p+1<(⟨l.toArray⟩:ByteArray).size:=by rw[HSZ.o];omega
 have b0:(⟨l.toArray⟩:ByteArray)[p]'sz0=85:=hpr2.1;have b1:(⟨l.toArray⟩:ByteArray)[p+1]'sz1=43:=hpr2.2;clear hpr hpr2;have t1:(p:Int)+1<(l.length:Int):=by omega
 go_enter Tryz.func163,Tryz.ntmps163;go_wp2;go_loopw [8,9,10,11] (fun n k _ _ wr=>∃j nn:Nat,k=.int .i64 (j:Int)/\n=.int .i64 (nn:Int)/\nn<=16777215/\p+2+j<=l.length/\ae (gy l (p+2)=j+gy l (p+2+j))/\ae (nn=iJ 0 ((l.drop (p+2)).take (min j 6)))/\wr=w) (fun _ k _ _ _=>(l.length+1-ti k).toNat)
 case atStart=>exact⟨0,0,rfl,rfl,by omega,by omega,by simp[ae],by simp[ae,iJ],rfl⟩
 case round=>
  obtain⟨j,nn,rfl,rfl,hnn,hj,HZN,HNV,hw⟩:=hrel;obtain rfl:=hw.symm;by_cases hlt:p+2+j<l.length
  ·have hszk:p+2+j<(⟨l.toArray⟩:ByteArray).size:=by rw[HSZ.o];exact hlt
   have hq:(⟨l.toArray⟩:ByteArray)[p+2+j]'hszk=l[p+2+j]:=rfl;have tl:(p:Int)+2+j<(l.length:Int):=by omega
   have HMO:=aa (zom l (p+2) j hlt);by_cases hh:eh l[p+2+j]=true
   ·have HZ2:ae (gy l (p+2)=(j+1)+gy l (p+2+(j+1))):=aa (by rw[HZN.o,zrd hlt hh,tV (p+2) j 1];omega);have hv:=zoi hh;have hdv:dgv l[p+2+j]=hxV l[p+2+j]:=by unfold dgv;rw[if_pos hh]
    obtain⟨v,hvv⟩:=aj (hxV l[p+2+j]);have HD:=aa (zfl l[p+2+j] v true w (by rw[hvv,hdv]) hh.symm);have HN6:ae (∀k,k<6->j=k->nn*16+v=iJ 0 ((l.drop (p+2)).take (min (j+1) 6))/\nn*16+v<=16777215):=aa (fun k hk e=>by
     have hj6:min j 6=j:=by omega
     have hj7:min (j+1) 6=j+1:=by omega
     have h:=HNV.o;rw[hj6]at h;have e1:nn*16+v=iJ 0 ((l.drop (p+2)).take (j+1)):=by rw[HMO.o,zay,<-h,hvv]
     rw[hj7];refine⟨e1,?_⟩;rw[e1];exact zrc _ (by rw[tg];omega) (zbX l (p+2) (j+1) (by have:=HZ2.o;omega) _ (sV _)))
    have HN7:ae (6<=j->nn=iJ 0 ((l.drop (p+2)).take (min (j+1) 6))):=aa (fun h=>by
     have e1:min (j+1) 6=min j 6:=by omega
     rw[e1];exact HNV.o)
    rw[<-hvv]at hv;generalize l[p+2+j]=c at*;clear hdv hvv hh HMO HZN HNV;by_cases h6:j<6
    ·obtain⟨HA,hA⟩:=HN6.o j h6 rfl;have HA:=aa HA;have h6':(j:Int)<6:=by omega
     have ew:(16:Int)*nn+v=((nn*16+v:Nat):Int):=by omega
     have HEW:=aa ew;clear ew HN6 HN7;go_wp2_with fail;refine HD.o.mono ?_;rintro e w1 ⟨rfl,hw1⟩;obtain rfl:=hw1.symm;clear hw1 HD;go_wp2;go_roundw
     case rel=>exact⟨j+1,nn*16+v,by go_num,by rw[<-HEW.o],hA,by omega,HZ2,HA,trivial⟩
     case measure=>simp[ti];omega
    ·have HA:=aa (HN7.o (by omega));have h6':¬(j:Int)<6:=by omega
     clear HN6 HN7;go_wp2_with fail;refine HD.o.mono ?_;rintro e w1 ⟨rfl,hw1⟩;obtain rfl:=hw1.symm;clear hw1 HD;go_wp2;go_roundw
     case rel=>exact⟨j+1,nn,by go_num,rfl,hnn,by omega,HZ2,HA,trivial⟩
     case measure=>simp[ti];omega
   ·have HZ:ae (gy l (p+2)=j):=aa (by rw[HZN.o,zuV hlt hh];rfl);have hh':eh l[p+2+j]=false:=by simpa using hh
    have HD:=aa (zfl l[p+2+j] 0 false w (by unfold dgv;rw[if_neg hh]) hh'.symm);clear hh hh' HMO;generalize l[p+2+j]=c at*;go_wp2_with fail;refine HD.o.mono ?_;rintro e w1 ⟨rfl,hw1⟩;obtain rfl:=hw1.symm;clear hw1 HD;have HZ6:ae (∀c,c∈(l.drop (p+2)).take j->eh c=true):=aa (zbX l (p+2) j (by have:=HZ.o;omega) j (sV _));by_cases c1:j<4
    ·have HC:=aa (jf HPR.o (.inl (by rw[HZ.o];exact c1)));have c1':(j:Int)<4:=by omega
     clear HZ HZ6 HNV HZN;go_wp2
     all_goals (try rw[Exit.noGoto_ret])
     all_goals (try simp only[sG,Exit.then])
     all_goals refine sH (aC rfl _ _ _) rfl ?_
     all_goals exact⟨by rw[HC.o];rfl,sU _ _⟩
    ·by_cases c2:6<j
     ·have HC:=aa (jf HPR.o (.inr (by rw[HZ.o];exact c2)));have c1':¬(j:Int)<4:=by omega
      have c2':6<(j:Int):=by omega
      clear HZ HZ6 HNV HZN;go_wp2
      all_goals (try rw[Exit.noGoto_ret])
      all_goals (try simp only[sG,Exit.then])
      all_goals refine sH (aC rfl _ _ _) rfl ?_
      all_goals exact⟨by rw[HC.o];rfl,sU _ _⟩
     ·have hmin:min j 6=j:=by omega
      have HNV2:ae (nn=iJ 0 ((l.drop (p+2)).take j)):=aa (by have h:=HNV.o;rw[hmin]at h;exact h);have c1':¬(j:Int)<4:=by omega
      have c2':¬6<(j:Int):=by omega
      have hco:¬(gy l (p+2)<4\/6<gy l (p+2)):=by rw[HZ.o];omega
      have H2:=aa (zai HPR.o hco);have H3:=aa (zah HPR.o hco);rw[HZ.o,<-HNV2.o]at H2 H3;clear HZ HZ6 HNV HNV2 hmin HZN hco;by_cases c3:1114111<nn
      ·have HC:=aa (H2.o c3);have c3':(1114111:Int)<(nn:Int):=by omega
       clear H2 H3;go_wp2
       all_goals (try rw[Exit.noGoto_ret])
       all_goals (try simp only[sG,Exit.then])
       all_goals refine sH (aC rfl _ _ _) rfl ?_
       all_goals exact⟨by rw[HC.o];rfl,sU _ _⟩
      ·have HC:=aa (H3.o c3);have c3':¬(1114111:Int)<(nn:Int):=by omega
       have ev:uB.wrap (nn:Int)=(nn:Int):=by rw[t8];omega
       clear H2 H3;go_wp2
       all_goals (try rw[Exit.noGoto_ret])
       all_goals (try simp only[sG,Exit.then])
       all_goals refine sH (aC rfl _ _ _) rfl ?_
       all_goals exact⟨by rw[HC.o];rfl,sU _ _⟩
  ·have HZ:ae (gy l (p+2)=j):=aa (by rw[HZN.o,zre hlt];rfl);have tl:¬(p:Int)+2+j<(l.length:Int):=by omega
   have HZ6:ae (∀c,c∈(l.drop (p+2)).take j->eh c=true):=aa (zbX l (p+2) j (by have:=HZ.o;omega) j (sV _));by_cases c1:j<4
   ·have HC:=aa (jf HPR.o (.inl (by rw[HZ.o];exact c1)));have c1':(j:Int)<4:=by omega
    clear HZ HZ6 HNV HZN;go_wp2
    all_goals (try rw[Exit.noGoto_ret])
    all_goals (try simp only[sG,Exit.then])
    all_goals refine sH (aC rfl _ _ _) rfl ?_
    all_goals exact⟨by rw[HC.o];rfl,sU _ _⟩
   ·by_cases c2:6<j
    ·have HC:=aa (jf HPR.o (.inr (by rw[HZ.o];exact c2)));have c1':¬(j:Int)<4:=by omega
     have c2':6<(j:Int):=by omega
     clear HZ HZ6 HNV HZN;go_wp2
     all_goals (try rw[Exit.noGoto_ret])
     all_goals (try simp only[sG,Exit.then])
     all_goals refine sH (aC rfl _ _ _) rfl ?_
     all_goals exact⟨by rw[HC.o];rfl,sU _ _⟩
    ·have hmin:min j 6=j:=by omega
     have HNV2:ae (nn=iJ 0 ((l.drop (p+2)).take j)):=aa (by have h:=HNV.o;rw[hmin]at h;exact h);have c1':¬(j:Int)<4:=by omega
     have c2':¬6<(j:Int):=by omega
     have hco:¬(gy l (p+2)<4\/6<gy l (p+2)):=by rw[HZ.o];omega
     have H2:=aa (zai HPR.o hco);have H3:=aa (zah HPR.o hco);rw[HZ.o,<-HNV2.o]at H2 H3;clear HZ HZ6 HNV HNV2 hmin HZN hco;by_cases c3:1114111<nn
     ·have HC:=aa (H2.o c3);have c3':(1114111:Int)<(nn:Int):=by omega
      clear H2 H3;go_wp2
      all_goals (try rw[Exit.noGoto_ret])
      all_goals (try simp only[sG,Exit.then])
      all_goals refine sH (aC rfl _ _ _) rfl ?_
      all_goals exact⟨by rw[HC.o];rfl,sU _ _⟩
     ·have HC:=aa (H3.o c3);have c3':¬(1114111:Int)<(nn:Int):=by omega
      have ev:uB.wrap (nn:Int)=(nn:Int):=by rw[t8];omega
      clear H2 H3;go_wp2
      all_goals (try rw[Exit.noGoto_ret])
      all_goals (try simp only[sG,Exit.then])
      all_goals refine sH (aC rfl _ _ _) rfl ?_
      all_goals exact⟨by rw[HC.o];rfl,sU _ _⟩
set_option maxRecDepth 100000 in
theorem zdX(l:List UInt8)(p:Nat)(w:sO)(hp:p<=l.length)(hl:l.length<=100000)(hpr:pre (l.drop p) [85,43]=false):
  tS Tryz.prog 163 #[.string ⟨l.toArray⟩,.int .i64 p] w fun e w'=>e=.returned (rsv (iz l p))/\tn w.heap.size w w':=by
 have HSZ:ae ((⟨l.toArray⟩:ByteArray).size=l.length):=aa (by show l.toArray.size=_;simp);have HPR:=aa hpr;have HR:=aa (zna hpr);clear hpr;obtain⟨r,n,b,hqd⟩:∃r n b,iB l p=(r,n,b):=⟨_,_,_,rfl⟩;have HQ:=aa (zgz l p r n b w hp hl hqd);have hn5:n<=4:=by
  have h:=congrArg (fun x=>x.2.1) hqd;dsimp only at h;rw[<-h];unfold iB;split
  ·exact dec_le4 _
  ·exact tU _
 rw[hqd]at HR;clear hqd;dsimp only at HR;cases b with
 |false=>
  have HC:ae (iz l p=(0,0,21,p)):=aa (by rw[HR.o,if_pos rfl]);clear HR;by_cases c9:p+1<l.length
  ·obtain⟨c0,hc0⟩:∃c0,l[p]'(by omega)=c0:=⟨_,rfl⟩;by_cases d0:c0=85
   ·subst d0;obtain⟨c1,hc1⟩:∃c1,l[p+1]=c1:=⟨_,rfl⟩;have d1:c1≠43:=fun e=>by rw[lu c9]at HPR;have:=of_decide_eq_false HPR.o;exact this ⟨hc0,hc1.trans e⟩
    have t1:(p:Int)+1<(l.length:Int):=by omega
    have sz0:p<(⟨l.toArray⟩:ByteArray).size:=by rw[HSZ.o];omega
    have sz1:p+1<(⟨l.toArray⟩:ByteArray).size:=by rw[HSZ.o];omega
    have b0:(⟨l.toArray⟩:ByteArray)[p]'sz0=85:=hc0;have b1:(⟨l.toArray⟩:ByteArray)[p+1]'sz1=c1:=hc1;have t2:((c1.toNat:Int)==43)=false:=beq_eq_false_iff_ne.2 (fun e=>d1 (sI.1 (by show c1.toNat=43;omega)));clear hc0 hc1 d1;go_enter Tryz.func163,Tryz.ntmps163;go_wp2_with fail;refine HQ.o.mono ?_;rintro e w1 ⟨rfl,hb⟩;have HB:=aa hb;clear hb HQ;go_wp2
    (try simp only[sG,Exit.then])
    refine sH (aC rfl _ _ _) rfl ?_;exact⟨by rw[HC.o];rfl,HB.o⟩
   ·have t1:(p:Int)+1<(l.length:Int):=by omega
    have sz0:p<(⟨l.toArray⟩:ByteArray).size:=by rw[HSZ.o];omega
    have b0:(⟨l.toArray⟩:ByteArray)[p]'sz0=c0:=hc0;have t2:((c0.toNat:Int)==85)=false:=beq_eq_false_iff_ne.2 (fun e=>d0 (sI.1 (by show c0.toNat=85;omega)));clear hc0 d0;go_enter Tryz.func163,Tryz.ntmps163;go_wp2_with fail;refine HQ.o.mono ?_;rintro e w1 ⟨rfl,hb⟩;have HB:=aa hb;clear hb HQ;go_wp2
    (try simp only[sG,Exit.then])
    refine sH (aC rfl _ _ _) rfl ?_;exact⟨by rw[HC.o];rfl,HB.o⟩
  ·have t1:¬(p:Int)+1<(l.length:Int):=by omega
   go_enter Tryz.func163,Tryz.ntmps163;go_wp2_with fail;refine HQ.o.mono ?_;rintro e w1 ⟨rfl,hb⟩;have HB:=aa hb;clear hb HQ;go_wp2
   (try simp only[sG,Exit.then])
   refine sH (aC rfl _ _ _) rfl ?_;exact⟨by rw[HC.o];rfl,HB.o⟩
 |true=>
  by_cases e1:r=65533
  ·by_cases e2:n=1
   ·subst e1 e2;have HC:ae (iz l p=(0,0,23,p+1)):=aa (by rw[HR.o,if_neg (by decide),if_pos ⟨rfl,rfl⟩]);clear HR;by_cases c9:p+1<l.length
    ·obtain⟨c0,hc0⟩:∃c0,l[p]'(by omega)=c0:=⟨_,rfl⟩;by_cases d0:c0=85
     ·subst d0;obtain⟨c1,hc1⟩:∃c1,l[p+1]=c1:=⟨_,rfl⟩;have d1:c1≠43:=fun e=>by rw[lu c9]at HPR;have:=of_decide_eq_false HPR.o;exact this ⟨hc0,hc1.trans e⟩
      have t1:(p:Int)+1<(l.length:Int):=by omega
      have sz0:p<(⟨l.toArray⟩:ByteArray).size:=by rw[HSZ.o];omega
      have sz1:p+1<(⟨l.toArray⟩:ByteArray).size:=by rw[HSZ.o];omega
      have b0:(⟨l.toArray⟩:ByteArray)[p]'sz0=85:=hc0;have b1:(⟨l.toArray⟩:ByteArray)[p+1]'sz1=c1:=hc1;have t2:((c1.toNat:Int)==43)=false:=beq_eq_false_iff_ne.2 (fun e=>d1 (sI.1 (by show c1.toNat=43;omega)));clear hc0 hc1 d1;go_enter Tryz.func163,Tryz.ntmps163;go_wp2_with fail;refine HQ.o.mono ?_;rintro e w1 ⟨rfl,hb⟩;have HB:=aa hb;clear hb HQ;go_wp2
      (try simp only[sG,Exit.then])
      refine sH (aC rfl _ _ _) rfl ?_;exact⟨by rw[HC.o];rfl,HB.o⟩
     ·have t1:(p:Int)+1<(l.length:Int):=by omega
      have sz0:p<(⟨l.toArray⟩:ByteArray).size:=by rw[HSZ.o];omega
      have b0:(⟨l.toArray⟩:ByteArray)[p]'sz0=c0:=hc0;have t2:((c0.toNat:Int)==85)=false:=beq_eq_false_iff_ne.2 (fun e=>d0 (sI.1 (by show c0.toNat=85;omega)));clear hc0 d0;go_enter Tryz.func163,Tryz.ntmps163;go_wp2_with fail;refine HQ.o.mono ?_;rintro e w1 ⟨rfl,hb⟩;have HB:=aa hb;clear hb HQ;go_wp2
      (try simp only[sG,Exit.then])
      refine sH (aC rfl _ _ _) rfl ?_;exact⟨by rw[HC.o];rfl,HB.o⟩
    ·have t1:¬(p:Int)+1<(l.length:Int):=by omega
     go_enter Tryz.func163,Tryz.ntmps163;go_wp2_with fail;refine HQ.o.mono ?_;rintro e w1 ⟨rfl,hb⟩;have HB:=aa hb;clear hb HQ;go_wp2
     (try simp only[sG,Exit.then])
     refine sH (aC rfl _ _ _) rfl ?_;exact⟨by rw[HC.o];rfl,HB.o⟩
   ·have HC:ae (iz l p=(r,p+n+2,0,0)):=aa (by rw[HR.o,if_neg (by decide),if_neg (fun h=>e2 h.2)]);have e2':((n:Int)==1)=false:=beq_eq_false_iff_ne.2 (by omega);have HE:=aa e1;subst e1;clear HR;by_cases c9:p+1<l.length
    ·obtain⟨c0,hc0⟩:∃c0,l[p]'(by omega)=c0:=⟨_,rfl⟩;by_cases d0:c0=85
     ·subst d0;obtain⟨c1,hc1⟩:∃c1,l[p+1]=c1:=⟨_,rfl⟩;have d1:c1≠43:=fun e=>by rw[lu c9]at HPR;have:=of_decide_eq_false HPR.o;exact this ⟨hc0,hc1.trans e⟩
      have t1:(p:Int)+1<(l.length:Int):=by omega
      have sz0:p<(⟨l.toArray⟩:ByteArray).size:=by rw[HSZ.o];omega
      have sz1:p+1<(⟨l.toArray⟩:ByteArray).size:=by rw[HSZ.o];omega
      have b0:(⟨l.toArray⟩:ByteArray)[p]'sz0=85:=hc0;have b1:(⟨l.toArray⟩:ByteArray)[p+1]'sz1=c1:=hc1;have t2:((c1.toNat:Int)==43)=false:=beq_eq_false_iff_ne.2 (fun e=>d1 (sI.1 (by show c1.toNat=43;omega)));clear hc0 hc1 d1;go_enter Tryz.func163,Tryz.ntmps163;go_wp2_with fail;refine HQ.o.mono ?_;rintro e w1 ⟨rfl,hb⟩;have HB:=aa hb;clear hb HQ;go_wp2
      (try simp only[sG,Exit.then])
      refine sH (aC rfl _ _ _) rfl ?_;exact⟨by rw[HC.o];rfl,HB.o⟩
     ·have t1:(p:Int)+1<(l.length:Int):=by omega
      have sz0:p<(⟨l.toArray⟩:ByteArray).size:=by rw[HSZ.o];omega
      have b0:(⟨l.toArray⟩:ByteArray)[p]'sz0=c0:=hc0;have t2:((c0.toNat:Int)==85)=false:=beq_eq_false_iff_ne.2 (fun e=>d0 (sI.1 (by show c0.toNat=85;omega)));clear hc0 d0;go_enter Tryz.func163,Tryz.ntmps163;go_wp2_with fail;refine HQ.o.mono ?_;rintro e w1 ⟨rfl,hb⟩;have HB:=aa hb;clear hb HQ;go_wp2
      (try simp only[sG,Exit.then])
      refine sH (aC rfl _ _ _) rfl ?_;exact⟨by rw[HC.o];rfl,HB.o⟩
    ·have t1:¬(p:Int)+1<(l.length:Int):=by omega
     go_enter Tryz.func163,Tryz.ntmps163;go_wp2_with fail;refine HQ.o.mono ?_;rintro e w1 ⟨rfl,hb⟩;have HB:=aa hb;clear hb HQ;go_wp2
     (try simp only[sG,Exit.then])
     refine sH (aC rfl _ _ _) rfl ?_;exact⟨by rw[HC.o];rfl,HB.o⟩
  ·have HC:ae (iz l p=(r,p+n+2,0,0)):=aa (by rw[HR.o,if_neg (by decide),if_neg (fun h=>e1 h.1)]);have e1':(r==65533)=false:=beq_eq_false_iff_ne.2 e1;clear HR;by_cases c9:p+1<l.length
   ·obtain⟨c0,hc0⟩:∃c0,l[p]'(by omega)=c0:=⟨_,rfl⟩;by_cases d0:c0=85
    ·subst d0;obtain⟨c1,hc1⟩:∃c1,l[p+1]=c1:=⟨_,rfl⟩;have d1:c1≠43:=fun e=>by rw[lu c9]at HPR;have:=of_decide_eq_false HPR.o;exact this ⟨hc0,hc1.trans e⟩
     have t1:(p:Int)+1<(l.length:Int):=by omega
     have sz0:p<(⟨l.toArray⟩:ByteArray).size:=by rw[HSZ.o];omega
     have sz1:p+1<(⟨l.toArray⟩:ByteArray).size:=by rw[HSZ.o];omega
     have b0:(⟨l.toArray⟩:ByteArray)[p]'sz0=85:=hc0;have b1:(⟨l.toArray⟩:ByteArray)[p+1]'sz1=c1:=hc1;have t2:((c1.toNat:Int)==43)=false:=beq_eq_false_iff_ne.2 (fun e=>d1 (sI.1 (by show c1.toNat=43;omega)));clear hc0 hc1 d1;go_enter Tryz.func163,Tryz.ntmps163;go_wp2_with fail;refine HQ.o.mono ?_;rintro e w1 ⟨rfl,hb⟩;have HB:=aa hb;clear hb HQ;go_wp2
     (try simp only[sG,Exit.then])
     refine sH (aC rfl _ _ _) rfl ?_;exact⟨by rw[HC.o];rfl,HB.o⟩
    ·have t1:(p:Int)+1<(l.length:Int):=by omega
     have sz0:p<(⟨l.toArray⟩:ByteArray).size:=by rw[HSZ.o];omega
     have b0:(⟨l.toArray⟩:ByteArray)[p]'sz0=c0:=hc0;have t2:((c0.toNat:Int)==85)=false:=beq_eq_false_iff_ne.2 (fun e=>d0 (sI.1 (by show c0.toNat=85;omega)));clear hc0 d0;go_enter Tryz.func163,Tryz.ntmps163;go_wp2_with fail;refine HQ.o.mono ?_;rintro e w1 ⟨rfl,hb⟩;have HB:=aa hb;clear hb HQ;go_wp2
     (try simp only[sG,Exit.then])
     refine sH (aC rfl _ _ _) rfl ?_;exact⟨by rw[HC.o];rfl,HB.o⟩
   ·have t1:¬(p:Int)+1<(l.length:Int):=by omega
    go_enter Tryz.func163,Tryz.ntmps163;go_wp2_with fail;refine HQ.o.mono ?_;rintro e w1 ⟨rfl,hb⟩;have HB:=aa hb;clear hb HQ;go_wp2
    (try simp only[sG,Exit.then])
    refine sH (aC rfl _ _ _) rfl ?_;exact⟨by rw[HC.o];rfl,HB.o⟩
theorem jY(l:List UInt8)(p:Nat)(w:sO)(hp:p<=l.length)(hl:l.length<=100000):
  tS Tryz.prog 163 #[.string ⟨l.toArray⟩,.int .i64 p] w fun e w'=>e=.returned (rsv (iz l p))/\tn w.heap.size w w':=by
 cases h:pre (l.drop p) [85,43]with
 |true=>have hlen:=lw h;rw[sW]at hlen;simp only[sM,tz]at hlen;exact zdY l p w (by omega) hl h
 |false=>exact zdX l p w hp hl h
end Dc
namespace Dc
open Go.RowKit
theorem zae(l:List UInt8)(p:Nat)(w:sO)(hp:p<=l.length)(hl:l.length<=100000)(a:Int)(n:Nat)(h:jd l p=(a,n,0)):
  tS Tryz.prog 163 #[.string ⟨l.toArray⟩,.int .i64 p] w fun e w'=>e=.returned (.tuple #[.int .i32 a,.int .i64 (n:Nat),.int .i64 0,.int .i64 0])/\tn w.heap.size w w':=by
 have:=jY l p w hp hl;unfold iz at this;rw[h,if_pos rfl]at this;exact this
theorem zaf(l:List UInt8)(p:Nat)(w:sO)(hp:p<=l.length)(hl:l.length<=100000)(a:Int)(n:Nat)(er:Int)(h:jd l p=(a,n,er))(he:er≠0):
  tS Tryz.prog 163 #[.string ⟨l.toArray⟩,.int .i64 p] w fun e w'=>e=.returned (.tuple #[.int .i32 0,.int .i64 0,.int .i64 er,.int .i64 (n:Nat)])/\tn w.heap.size w w':=by
 have:=jY l p w hp hl;unfold iz at this;rw[h,if_neg he]at this;exact this
theorem zag(l:List UInt8)(p:Nat)(z:Int)(hz:z=(p:Int))(w:sO)(Q:Ending->sO->Prop)(h:tS Tryz.prog 163 #[.string ⟨l.toArray⟩,.int .i64 p] w Q):tS Tryz.prog 163 #[.string ⟨l.toArray⟩,.int .i64 z] w Q:=by subst hz;exact h
set_option maxRecDepth 100000 in
theorem zgp(l:List UInt8)(w:sO)(hl:l.length<=100000):
  tS Tryz.prog 135 #[.string ⟨l.toArray⟩] w fun e w'=>∃v,e=.returned (.tuple #[v,.int .i64 (lB l).2.1,.int .i64 ((lB l).2.2:Nat)])/\w'.ownsRow w.heap.size 146 2 v (lB l).1.length (aH (lB l).1)/\tn w.heap.size w w':=by
 obtain⟨i0,hi,hz0,hz1,hz2⟩:=info_parts Tryz.infoRange;have HSZ:ae ((⟨l.toArray⟩:ByteArray).size=l.length):=aa (by show l.toArray.size=_;simp);go_enter Tryz.func135,Tryz.ntmps135;go_wp2;go_loopw [5,6,7,8,9,10,11,12] (fun v x _ _ _ _ _ _ wq=>∃(p:Nat)(acc:List Rg),p<=l.length/\x=.int .i64 p/\ae (wq.ownsRow w.heap.size 146 2 v acc.length (aH acc))/\ae (Prs l p acc)/\acc.length<=p/\ae (tn w.heap.size w wq)) (fun _ x _ _ _ _ _ _ _=>l.length+1-(ti x).toNat)
 case atStart=>exact⟨0,[],by omega,rfl,sT _ _ _ _,Prs.start l,by simp,sU _ _⟩
 case round=>
  obtain⟨p,acc,hp,rfl,HO,HP,hac,HB⟩:=hrel;obtain⟨wo,hwo⟩:=aj wr;rw[<-hwo]at HO HB⊢;clear hwo;have hbs:=HB.o.size;go_wp2;go_loopw [6] (fun x wq=>∃q:Nat,p<=q/\q<=l.length/\x=.int .i64 q/\ae (Prs l q acc)/\wq=wo) (fun x _=>l.length+1-(ti x).toNat)
  case atStart=>exact⟨p,by omega,hp,rfl,HP,rfl⟩
  case round=>
   obtain⟨q,hpq,hq,rfl,HQ,hw⟩:=hrel;obtain rfl:=hw.symm;by_cases c1:q=l.length
   ·have HD:=aa (HQ.o.done c1);obtain⟨so,sc,hv,hrd⟩:=zbu HO.o;subst hv;have HN:=aa (mB so sc acc wo hrd (by omega));subst c1;clear hrd;go_wp2_with fail;refine HN.o.mono ?_;rintro e w1 ⟨v1,rfl,o1,hb1⟩;have HO1:=aa o1;have HB1:=aa (HB.o.trans (hb1.mono HB.o.size));clear o1 hb1 HN;go_wp2
    try rw[Exit.noGoto_ret]
    go_ret3;refine⟨v1,?_,?_,HB1.o⟩
    ·rw[HD.o];rfl
    ·rw[HD.o];exact aZ HO1.o HB.o.size
   ·have hlt:q<l.length:=by omega
    have c1':((q:Int)==(l.length:Int))=false:=beq_eq_false_iff_ne.2 (by omega);have c1'':(q:Int)<(l.length:Int):=by omega
    have hszq:q<(⟨l.toArray⟩:ByteArray).size:=by rw[HSZ.o];exact hlt
    have hbq:(⟨l.toArray⟩:ByteArray)[q]'hszq=l[q]:=rfl;have hgd:l.getD q 0=l[q]:=by simp[sX,sD hlt]
    by_cases c2:l[q]=32
    ·have HQ2:=aa (HQ.o.blank hlt (hgd.trans c2));rw[c2]at hbq;clear hgd c2;go_wp2;go_roundw
     case rel=>exact⟨q+1,by omega,by omega,by go_num,HQ2,trivial⟩
     case measure=>simp[ti];omega
    ·have hg2:l.getD q 0≠32:=by rw[hgd];exact c2
     have hI:=zgY l q hq;have hS:=zbm l q hq;obtain⟨c,hc⟩:=aj (l[q]);rw[<-hc]at hbq c2;have c2':((c.toNat:Int)==32)=false:=beq_eq_false_iff_ne.2 (fun e=>c2 (sI.1 (by show c.toNat=32;omega)));obtain⟨lo,nx,er,hsp⟩:∃a b d,jd l q=(a,b,d):=⟨_,_,_,rfl⟩;rw[hsp]at hS;obtain⟨s1,s2,s3,s4,s5,s6⟩:=hS;dsimp only at s1 s2 s3 s4 s5 s6;clear hc hgd c2 HP;by_cases c3:er=0
     ·subst c3;have s4':=s4 rfl;have HSP:=aa (fun W=>zae l q W hq hl lo nx hsp);clear s4;go_wp2_with fail;refine(HSP.o _).mono ?_;rintro e w1 ⟨rfl,hb1⟩;have HB1:=aa (HB.o.trans (hb1.mono hbs));have hbs1:=hb1.size;have HO1:=aa (j5 HO.o hb1);clear hb1 HSP;by_cases k1:nx=l.length\/l.getD nx 0≠45
      ·have HIT:ae (fg l q=((lo,lo),nx,0)):=aa (by unfold fg zeM;rw[hsp];simp only[ne_eq,not_true,if_false];rw[if_pos k1]);have m1:nx<=l.length:=s1;by_cases k2:nx<l.length
       ·have hszx:nx<(⟨l.toArray⟩:ByteArray).size:=by rw[HSZ.o];exact k2
        have hbx:(⟨l.toArray⟩:ByteArray)[nx]'hszx=l[nx]:=rfl;have hgx:l.getD nx 0=l[nx]:=by simp[sX,sD k2]
        obtain⟨y,hy⟩:=aj (l[nx]);have k3:y≠45:=fun e=>by rcases k1 with h|h;omega;exact h (hgx.trans (hy.symm.trans e))
        have k3':((y.toNat:Int)==45)=false:=beq_eq_false_iff_ne.2 (fun e=>k3 (sI.1 (by show y.toNat=45;omega)));have k2':(nx:Int)<(l.length:Int):=by omega
        have k9:¬lo<lo:=by omega
        clear k1 hgx k3 hsp hI;rw[<-hy]at hbx;have HM:=aa (HQ.o.more hlt hg2 (by rw[HIT.o]));have HS:=aa (HQ.o.stuck hlt hg2 (by rw[HIT.o]));rw[HIT.o]at HM HS;dsimp only at HM HS;have c4':(nx:Int)<(l.length:Int):=by omega
        have hgn:l.getD nx 0=y:=by rw[hy];simp[sX,sD k2]
        by_cases c5:y=32
        ·have HM2:=aa (HM.o (fun h=>h.2 (hgn.trans c5)));clear HS HM hgn HIT HQ hy;subst c5;go_wp2_with (at_builtin;refine tp _ rfl _ _ 125 rfl w.heap.size 146 i0 (.agg #[.int .i32 0,.int .i32 0]) 2 8 Tryz.underlying125 hi hz0 hz1 hz2 rfl (by decide) _ acc.length (aH acc) rfl (HO1.o.alloc _) ⟨w1.heap.size,0,none⟩ 1 1 (rgc (lo,lo)) rfl rfl ?c1 ?c2 ?c3 ?c4 ?c5 ?_)
         case c1=>exact gq w1 (lo,lo) _ rfl
         case c2=>exact ez _
         case c3=>unfold maxLen;omega
         case c4=>omega
         case c5=>simp;omega
         intro v2 w2 o2 gr2 _;have HO2:ae (w2.ownsRow w.heap.size 146 2 v2 (acc++[(lo,lo)]).length (aH (acc++[(lo,lo)]))):=aa (by rw[dh,bJ];exact o2);have HB2:=aa ((HB1.o.alloc (by omega) (.cells #[.int .i32 lo,.int .i32 lo] 146)).grown gr2 (by simp;omega) (fun j hj=>(HO1.o.lt j hj).1));clear o2 gr2;go_wp2;go_roundw
         case rel=>exact⟨nx,acc++[(lo,lo)],m1,rfl,HO2,HM2,by rw[bJ];omega,HB2⟩
         case measure=>simp[ti];omega
        ·have HS2:=aa (HS.o ⟨k2,by rw[hgn];exact c5⟩);have c5':((y.toNat:Int) != 32)=true:=bne_iff_ne.2 (fun e=>c5 (sI.1 (by show y.toNat=32;omega)));clear HS HM hgn c5 hy HIT HQ;go_wp2
         try rw[Exit.noGoto_ret]
         go_ret3;refine⟨.slice none 0 0,?_,?_,HB1.o⟩
         ·rw[HS2.o];rfl
         ·rw[HS2.o];exact sT _ _ _ _
       ·have k2':¬(nx:Int)<(l.length:Int):=by omega
        have k9:¬lo<lo:=by omega
        clear k1 hsp hI;have HM:=aa (HQ.o.more hlt hg2 (by rw[HIT.o]));rw[HIT.o]at HM;dsimp only at HM;have HM2:=aa (HM.o (fun h=>k2 h.1));clear HM HIT HQ;go_wp2_with (at_builtin;refine tp _ rfl _ _ 125 rfl w.heap.size 146 i0 (.agg #[.int .i32 0,.int .i32 0]) 2 8 Tryz.underlying125 hi hz0 hz1 hz2 rfl (by decide) _ acc.length (aH acc) rfl (HO1.o.alloc _) ⟨w1.heap.size,0,none⟩ 1 1 (rgc (lo,lo)) rfl rfl ?c1 ?c2 ?c3 ?c4 ?c5 ?_)
        case c1=>exact gq w1 (lo,lo) _ rfl
        case c2=>exact ez _
        case c3=>unfold maxLen;omega
        case c4=>omega
        case c5=>simp;omega
        intro v2 w2 o2 gr2 _;have HO2:ae (w2.ownsRow w.heap.size 146 2 v2 (acc++[(lo,lo)]).length (aH (acc++[(lo,lo)]))):=aa (by rw[dh,bJ];exact o2);have HB2:=aa ((HB1.o.alloc (by omega) (.cells #[.int .i32 lo,.int .i32 lo] 146)).grown gr2 (by simp;omega) (fun j hj=>(HO1.o.lt j hj).1));clear o2 gr2;go_wp2;go_roundw
        case rel=>exact⟨nx,acc++[(lo,lo)],m1,rfl,HO2,HM2,by rw[bJ];omega,HB2⟩
        case measure=>simp[ti];omega
      ·have hne:¬nx=l.length:=fun e=>k1 (.inl e);have k2:nx<l.length:=by omega
       have hszx:nx<(⟨l.toArray⟩:ByteArray).size:=by rw[HSZ.o];exact k2
       have hgx:l.getD nx 0=l[nx]:=by simp[sX,sD k2]
       have hbx:(⟨l.toArray⟩:ByteArray)[nx]'hszx=45:=hgx.symm.trans (Classical.not_not.1 fun e=>k1 (.inr e));have k2':(nx:Int)<(l.length:Int):=by omega
       obtain⟨hi2,ny,e2,hsp2⟩:∃a b d,jd l (nx+1)=(a,b,d):=⟨_,_,_,rfl⟩;have hS2:=zbm l (nx+1) (by omega);rw[hsp2]at hS2;obtain⟨u1,u2,u3,u4,u5,u6⟩:=hS2;dsimp only at u1 u2 u3 u4 u5 u6;by_cases k4:e2=0
       ·subst k4;have u4':=u4 rfl;have HSP2:=aa (fun W=>zag l (nx+1) ((nx:Int)+1) (by omega) W _ (zae l (nx+1) W (by omega) hl hi2 ny hsp2));have m1:ny<=l.length:=u1;by_cases k5:hi2<lo
        ·have HIT:ae (fg l q=((0,0),q,20)):=aa (by unfold fg zeM;rw[hsp];simp only[ne_eq,not_true,if_false];rw[if_neg k1,hsp2,if_neg (by exact fun h=>h rfl),if_pos k5]);have HW:=aa (HQ.o.wrong hlt hg2 (by rw[HIT.o];exact(by decide:(20:Int)≠0)));rw[HIT.o]at HW;clear k1 hgx hsp hsp2 hI u4 HIT HQ;go_wp2_with fail;refine(HSP2.o _).mono ?_;rintro e w2 ⟨rfl,hb2⟩;have HB2:=aa (HB1.o.trans (hb2.mono (by omega)));clear hb2 HSP2;go_wp2
         try rw[Exit.noGoto_ret]
         go_ret3;refine⟨.slice none 0 0,?_,?_,HB2.o⟩
         ·rw[HW.o];rfl
         ·rw[HW.o];exact sT _ _ _ _
        ·have HIT:ae (fg l q=((lo,hi2),ny,0)):=aa (by unfold fg zeM;rw[hsp];simp only[ne_eq,not_true,if_false];rw[if_neg k1,hsp2,if_neg (by exact fun h=>h rfl),if_neg k5]);have s4:q<ny:=by omega
         clear k1 hgx hsp hsp2 hI u4;obtain⟨w0,hw0⟩:=aj w1;rw[<-hw0];rw[<-hw0]at HB1 HO1 hbs1;clear hw0 w1;have HB0:=aa HB1.o;have HO0:=aa HO1.o;have hbs0:=hbs1;clear HB1 HO1 hbs1;go_wp2_with fail;refine(HSP2.o _).mono ?_;rintro e w1 ⟨rfl,hb2⟩;have HB1:=aa (HB0.o.trans (hb2.mono (by omega)));have hbs1:wo.heap.size<=w1.heap.size:=by have:=hb2.size;omega
         have HO1:=aa (j5 HO0.o hb2);clear hb2 HSP2 HB0 HO0 hbs0;have HM:=aa (HQ.o.more hlt hg2 (by rw[HIT.o]));have HS:=aa (HQ.o.stuck hlt hg2 (by rw[HIT.o]));rw[HIT.o]at HM HS;dsimp only at HM HS;by_cases c4:ny<l.length
         ·have hszn:ny<(⟨l.toArray⟩:ByteArray).size:=by rw[HSZ.o];exact c4
          have hbn:(⟨l.toArray⟩:ByteArray)[ny]'hszn=l[ny]:=rfl;have hgn:l.getD ny 0=l[ny]:=by simp[sX,sD c4]
          have c4':(ny:Int)<(l.length:Int):=by omega
          by_cases c5:l[ny]=32
          ·have HM2:=aa (HM.o (fun h=>h.2 (hgn.trans c5)));rw[c5]at hbn;clear HS HM hgn c5 HIT HQ;go_wp2_with (at_builtin;refine tp _ rfl _ _ 125 rfl w.heap.size 146 i0 (.agg #[.int .i32 0,.int .i32 0]) 2 8 Tryz.underlying125 hi hz0 hz1 hz2 rfl (by decide) _ acc.length (aH acc) rfl (HO1.o.alloc _) ⟨w1.heap.size,0,none⟩ 1 1 (rgc (lo,hi2)) rfl rfl ?c1 ?c2 ?c3 ?c4 ?c5 ?_)
           case c1=>exact gq w1 (lo,hi2) _ rfl
           case c2=>exact ez _
           case c3=>unfold maxLen;omega
           case c4=>omega
           case c5=>simp;omega
           intro v2 w2 o2 gr2 _;have HO2:ae (w2.ownsRow w.heap.size 146 2 v2 (acc++[(lo,hi2)]).length (aH (acc++[(lo,hi2)]))):=aa (by rw[dh,bJ];exact o2);have HB2:=aa ((HB1.o.alloc (by omega) (.cells #[.int .i32 lo,.int .i32 hi2] 146)).grown gr2 (by simp;omega) (fun j hj=>(HO1.o.lt j hj).1));clear o2 gr2;go_wp2;go_roundw
           case rel=>exact⟨ny,acc++[(lo,hi2)],m1,rfl,HO2,HM2,by rw[bJ];omega,HB2⟩
           case measure=>simp[ti];omega
          ·have HS2:=aa (HS.o ⟨c4,by rw[hgn];exact c5⟩);obtain⟨d,hd⟩:=aj (l[ny]);rw[<-hd]at hbn c5;have c5':((d.toNat:Int) != 32)=true:=bne_iff_ne.2 (fun e=>c5 (sI.1 (by show d.toNat=32;omega)));clear HS HM hgn c5 hd HIT HQ;go_wp2
           try rw[Exit.noGoto_ret]
           go_ret3;refine⟨.slice none 0 0,?_,?_,HB1.o⟩
           ·rw[HS2.o];rfl
           ·rw[HS2.o];exact sT _ _ _ _
         ·have HM2:=aa (HM.o (fun h=>c4 h.1));have c4':¬(ny:Int)<(l.length:Int):=by omega
          clear HS HM HIT HQ;go_wp2_with (at_builtin;refine tp _ rfl _ _ 125 rfl w.heap.size 146 i0 (.agg #[.int .i32 0,.int .i32 0]) 2 8 Tryz.underlying125 hi hz0 hz1 hz2 rfl (by decide) _ acc.length (aH acc) rfl (HO1.o.alloc _) ⟨w1.heap.size,0,none⟩ 1 1 (rgc (lo,hi2)) rfl rfl ?c1 ?c2 ?c3 ?c4 ?c5 ?_)
          case c1=>exact gq w1 (lo,hi2) _ rfl
          case c2=>exact ez _
          case c3=>unfold maxLen;omega
          case c4=>omega
          case c5=>simp;omega
          intro v2 w2 o2 gr2 _;have HO2:ae (w2.ownsRow w.heap.size 146 2 v2 (acc++[(lo,hi2)]).length (aH (acc++[(lo,hi2)]))):=aa (by rw[dh,bJ];exact o2);have HB2:=aa ((HB1.o.alloc (by omega) (.cells #[.int .i32 lo,.int .i32 hi2] 146)).grown gr2 (by simp;omega) (fun j hj=>(HO1.o.lt j hj).1));clear o2 gr2;go_wp2;go_roundw
          case rel=>exact⟨ny,acc++[(lo,hi2)],m1,rfl,HO2,HM2,by rw[bJ];omega,HB2⟩
          case measure=>simp[ti];omega
       ·have HSP2:=aa (fun W=>zag l (nx+1) ((nx:Int)+1) (by omega) W _ (zaf l (nx+1) W (by omega) hl hi2 ny e2 hsp2 k4));have HIT:ae (fg l q=((0,0),ny,e2)):=aa (by unfold fg zeM;rw[hsp];simp only[ne_eq,not_true,if_false];rw[if_neg k1,hsp2];rw[if_pos k4]);have HW:=aa (HQ.o.wrong hlt hg2 (by rw[HIT.o];exact k4));rw[HIT.o]at HW;have k4':(e2 != 0)=true:=bne_iff_ne.2 k4;clear k1 hgx hsp hsp2 hI u4 HIT HQ;go_wp2_with fail;refine(HSP2.o _).mono ?_;rintro e w2 ⟨rfl,hb2⟩;have HB2:=aa (HB1.o.trans (hb2.mono (by omega)));clear hb2 HSP2;go_wp2
        try rw[Exit.noGoto_ret]
        go_ret3;refine⟨.slice none 0 0,?_,?_,HB2.o⟩
        ·rw[HW.o];rfl
        ·rw[HW.o];exact sT _ _ _ _
     ·have HSP:=aa (fun W=>zaf l q W hq hl lo nx er hsp c3);have HIT:ae (fg l q=((0,0),nx,er)):=aa (by unfold fg zeM;rw[hsp];rw[if_pos c3]);have HW:=aa (HQ.o.wrong hlt hg2 (by rw[HIT.o];exact c3));rw[HIT.o]at HW;have c3':(er != 0)=true:=bne_iff_ne.2 c3;clear hsp hI s4 HIT HQ;go_wp2_with fail;refine(HSP.o _).mono ?_;rintro e w1 ⟨rfl,hb1⟩;have HB1:=aa (HB.o.trans (hb1.mono hbs));clear hb1 HSP;go_wp2
      try rw[Exit.noGoto_ret]
      go_ret3;refine⟨.slice none 0 0,?_,?_,HB1.o⟩
      ·rw[HW.o];rfl
      ·rw[HW.o];exact sT _ _ _ _
end Dc
namespace Dc
open Go.RowKit
def zqw:tw->Nat
 |.string s=>s.size
 |_=>0
theorem mA(l:List UInt8):zqw (.string ⟨l.toArray⟩)=l.length:=by show l.toArray.size=_;simp
set_option maxRecDepth 100000 in
theorem zmC(l:List UInt8)(w:sO)(hl:l.length<=9223372036854775807):
  tS Tryz.prog 133 #[.string ⟨l.toArray⟩] w fun e w'=>e=.returned (.string ⟨(tls l).toArray⟩)/\w'=w:=by
 have HBL:=aa zlj;have HSZ:=aa (fun t:List UInt8=>(show(⟨t.toArray⟩:ByteArray).size=t.length by show t.toArray.size=_;simp));rw[<-zin];go_enter Tryz.func133,Tryz.ntmps133;go_wp2;go_loopw [0] (fun x wr=>∃t:List UInt8,x=.string ⟨t.toArray⟩/\t.length<=l.length/\ae (t.dropWhile blk=l.dropWhile blk)/\wr=w) (fun x _=>zqw x)
 case atStart=>exact⟨l,rfl,by omega,rfl,rfl⟩
 case round=>
  obtain⟨t,rfl,ht,HE,hw⟩:=hrel;subst hw;by_cases hex:∃b r,t=b::r/\blk b=true
  ·obtain⟨b,r,rfl,hb⟩:=hex;have t0:(0:Int)<((b::r).length:Int):=by simp
   have t1:(1:Int)<=((b::r).length:Int):=by simp;omega
   have hsz0:0<(⟨(b::r).toArray⟩:ByteArray).size:=by rw[HSZ.o];simp
   have hq0:(⟨(b::r).toArray⟩:ByteArray)[0]'hsz0=b:=rfl;have HD:ae (r.dropWhile blk=l.dropWhile blk):=aa (by rw[<-HE.o,tB,if_pos hb]);have hr:r.length+1<=l.length:=by simpa using ht
   have HXD:ae ((⟨(b::r).toArray⟩:ByteArray).extract 1 (b::r).length=⟨r.toArray⟩):=aa (ext_drop (b::r) 1);have hszr:=HSZ.o (b::r);go_wp2_with (go_at_call 161;refine(HBL.o b _).mono ?_;rintro e w2 ⟨rfl,hw⟩;obtain rfl:=hw.symm;rw[hb]);rw[show(⟨(b::r).toArray⟩:ByteArray).extract 1 (r.length+1)=⟨r.toArray⟩from HXD.o,mA,mA];exact⟨⟨r,rfl,by omega,HD,trivial⟩,by simp⟩
  ·obtain⟨w0,hw0⟩:=aj wr;cases t with
   |nil=>
    have HV:ae (rtr []=rtm l):=aa (by unfold rtm;rw[<-HE.o];rfl);clear hex;go_wp2;go_loopw [0] (fun x wr=>∃t:List UInt8,x=.string ⟨t.toArray⟩/\t.length<=l.length/\ae (rtr t=rtm l)/\wr=w0) (fun x _=>zqw x)
    case atStart=>exact⟨_,rfl,ht,HV,hw0.symm⟩
    case round=>
     obtain⟨t,rfl,ht,HE2,hw⟩:=hrel;subst hw;rcases sK t with rfl|⟨q,b,rfl⟩
     ·have HR:ae (rtm l=[]):=aa HE2.o.symm;go_wp2;go_ret;exact⟨by rw[HR.o];rfl,rfl⟩
     ·rw[sL]at ht HE2⊢;have hq1:q.length+1<=l.length:=by simpa using ht
      have hzz:=HSZ.o (q++[b]);have hzl:(q++[b]).length=q.length+1:=by simp
      have hszk:q.length<(⟨(q++[b]).toArray⟩:ByteArray).size:=by rw[hzz,hzl];omega
      have hqk:(⟨(q++[b]).toArray⟩:ByteArray)[q.length]'hszk=b:=by show(q++[b])[q.length]'(by simp)=b;simp
      have t0:(0:Int)<(q.length:Int)+1:=by omega
      have t2:(0:Int)<=(q.length:Int):=by omega
      have t3:(q.length:Int)<(q.length:Int)+1:=by omega
      have t4:tT.wrap ((q.length:Int)+1-1)=(q.length:Int):=by rw[tq];omega
      have HXD:ae ((⟨(q++[b]).toArray⟩:ByteArray).extract 0 q.length=⟨q.toArray⟩):=aa (by rw[lR];simp);by_cases hb:blk b=true
      ·have HV2:ae (rtr q=rtm l):=aa (by rw[<-HE2.o,fQ,if_pos hb]);go_wp2_with (go_at_call 161;refine(HBL.o b _).mono ?_;rintro e w2 ⟨rfl,hw⟩;obtain rfl:=hw.symm;rw[hb]);rw[HXD.o,mA,mA];exact⟨⟨q,rfl,by omega,HV2,hw0.symm⟩,by simp⟩
      ·have hb':blk b=false:=by simpa using hb
       have HR:ae (rtm l=q++[b]):=aa (by rw[<-HE2.o,fQ,if_neg hb]);go_wp2_with (go_at_call 161;refine(HBL.o b _).mono ?_;rintro e w2 ⟨rfl,hw⟩;obtain rfl:=hw.symm;rw[hb']);go_ret;exact⟨by rw[HR.o];rfl,rfl⟩
   |cons b r=>
    have hb:blk b=false:=by
     cases h5:blk b with
     |false=>rfl
     |true=>exact absurd ⟨b,r,rfl,h5⟩ hex
    have HV:ae (rtr (b::r)=rtm l):=aa (by unfold rtm;rw[<-HE.o,tB,if_neg (by rw[hb];decide)]);have t0:(0:Int)<((b::r).length:Int):=by simp
    have hsz0:0<(⟨(b::r).toArray⟩:ByteArray).size:=by rw[HSZ.o];simp
    have hq0:(⟨(b::r).toArray⟩:ByteArray)[0]'hsz0=b:=rfl;clear hex;go_wp2_with (go_at_call 161;refine(HBL.o b _).mono ?_;rintro e w2 ⟨rfl,hw⟩;obtain rfl:=hw.symm;rw[hb]);go_loopw [0] (fun x wr=>∃t:List UInt8,x=.string ⟨t.toArray⟩/\t.length<=l.length/\ae (rtr t=rtm l)/\wr=w0) (fun x _=>zqw x)
    case atStart=>exact⟨_,rfl,ht,HV,hw0.symm⟩
    case round=>
     obtain⟨t,rfl,ht,HE2,hw⟩:=hrel;subst hw;rcases sK t with rfl|⟨q,b,rfl⟩
     ·have HR:ae (rtm l=[]):=aa HE2.o.symm;go_wp2;go_ret;exact⟨by rw[HR.o];rfl,rfl⟩
     ·rw[sL]at ht HE2⊢;have hq1:q.length+1<=l.length:=by simpa using ht
      have hzz:=HSZ.o (q++[b]);have hzl:(q++[b]).length=q.length+1:=by simp
      have hszk:q.length<(⟨(q++[b]).toArray⟩:ByteArray).size:=by rw[hzz,hzl];omega
      have hqk:(⟨(q++[b]).toArray⟩:ByteArray)[q.length]'hszk=b:=by show(q++[b])[q.length]'(by simp)=b;simp
      have t0:(0:Int)<(q.length:Int)+1:=by omega
      have t2:(0:Int)<=(q.length:Int):=by omega
      have t3:(q.length:Int)<(q.length:Int)+1:=by omega
      have t4:tT.wrap ((q.length:Int)+1-1)=(q.length:Int):=by rw[tq];omega
      have HXD:ae ((⟨(q++[b]).toArray⟩:ByteArray).extract 0 q.length=⟨q.toArray⟩):=aa (by rw[lR];simp);by_cases hb:blk b=true
      ·have HV2:ae (rtr q=rtm l):=aa (by rw[<-HE2.o,fQ,if_pos hb]);go_wp2_with (go_at_call 161;refine(HBL.o b _).mono ?_;rintro e w2 ⟨rfl,hw⟩;obtain rfl:=hw.symm;rw[hb]);rw[HXD.o,mA,mA];exact⟨⟨q,rfl,by omega,HV2,hw0.symm⟩,by simp⟩
      ·have hb':blk b=false:=by simpa using hb
       have HR:ae (rtm l=q++[b]):=aa (by rw[<-HE2.o,fQ,if_neg hb]);go_wp2_with (go_at_call 161;refine(HBL.o b _).mono ?_;rintro e w2 ⟨rfl,hw⟩;obtain rfl:=hw.symm;rw[hb']);go_ret;exact⟨by rw[HR.o];rfl,rfl⟩
end Dc
namespace Dc
open Go.RowKit
set_option maxRecDepth 100000 in
theorem zkz(l:List UInt8)(w:sO)(hl0:l.length<=9223372036854775807):
  tS Tryz.prog 134 #[.string ⟨l.toArray⟩] w fun e w'=>e=.returned (.bool (rF l))/\w'=w:=by
 have HSZ:ae ((⟨l.toArray⟩:ByteArray).size=l.length):=aa (by show l.toArray.size=_;simp);go_enter Tryz.func134,Tryz.ntmps134;go_wp2;go_loopw [3] (fun x wr=>∃(t:Nat),x=.int .i64 (t:Int)/\t<=l.length/\ae (∀i b,i<t->l[i]?=some b->mH i b.toNat=true)/\ae (wr=w)) (fun x _=>l.length-(ti x).toNat)
 case atStart=>exact⟨0,rfl,by omega,fun i b hi=>by omega,rfl⟩
 case round=>
  obtain⟨t,rfl,ht,HK,HW⟩:=hrel;obtain rfl:=HW.o.symm;by_cases hlt:t<l.length
  ·have hszk:t<(⟨l.toArray⟩:ByteArray).size:=by rw[HSZ.o];exact hlt
   have tl:(t:Int)<(l.length:Int):=by omega
   have HBB:=aa (sD hlt);have hq:(⟨l.toArray⟩:ByteArray)[t]'hszk=l[t]:=rfl;generalize l[t]=b at*;obtain⟨r,hr⟩:=aj b.toNat;have hrb:r<256:=by rw[hr];exact b.toNat_lt
   have hq2:((⟨l.toArray⟩:ByteArray)[t]'hszk).toNat=r:=by rw[hq,hr]
   have HR:=aa hr;clear hr hq;have hcl:(65<=r/\r<=90)\/(97<=r/\r<=122)\/(0<t/\48<=r/\r<=57)\/(0<t/\r=95)\/(t=0/\r<65)\/(t=0/\90<r/\r<97)\/(t=0/\122<r)\/(0<t/\r<48)\/(0<t/\57<r/\r<65)\/(0<t/\90<r/\r<97/\r≠95)\/(0<t/\122<r):=by omega
   rcases hcl with hc|hc|hc|hc|hc|hc|hc|hc|hc|hc|hc
   ·have k65:(65:Int)<=(r:Int):=by omega
    have n65:65<=r:=by omega
    have k90:(r:Int)<=90:=by omega
    have n90:r<=90:=by omega
    have HT:ae (∀i c,i<t+1->l[i]?=some c->mH i c.toNat=true):=aa (fun i c hi hc'=>by
     rcases tf i t with h5|h5
     ·exact HK.o i c h5 hc'
     ·have h6:i=t:=by omega
      subst h6;rw[HBB.o]at hc';cases hc';rw[<-HR.o];exact oG _ _ (by omega))
    clear hc;go_wp2;go_roundw
    case rel=>exact⟨t+1,by go_num,by omega,HT,by first|exact(trivial:True)|rfl⟩
    case measure=>simp[ti];omega
   ·have k65:(65:Int)<=(r:Int):=by omega
    have n65:65<=r:=by omega
    have k90:¬(r:Int)<=90:=by omega
    have n90:¬r<=90:=by omega
    have k97:(97:Int)<=(r:Int):=by omega
    have n97:97<=r:=by omega
    have k122:(r:Int)<=122:=by omega
    have n122:r<=122:=by omega
    have HT:ae (∀i c,i<t+1->l[i]?=some c->mH i c.toNat=true):=aa (fun i c hi hc'=>by
     rcases tf i t with h5|h5
     ·exact HK.o i c h5 hc'
     ·have h6:i=t:=by omega
      subst h6;rw[HBB.o]at hc';cases hc';rw[<-HR.o];exact oG _ _ (by omega))
    clear hc;go_wp2;go_roundw
    case rel=>exact⟨t+1,by go_num,by omega,HT,by first|exact(trivial:True)|rfl⟩
    case measure=>simp[ti];omega
   ·have k65:¬(65:Int)<=(r:Int):=by omega
    have n65:¬65<=r:=by omega
    have k97:¬(97:Int)<=(r:Int):=by omega
    have n97:¬97<=r:=by omega
    have kt:((t:Int)==0)=false:=beq_eq_false_iff_ne.2 (by omega);have nt:¬t=0:=by omega
    have k95:((r:Int) != 95)=true:=bne_iff_ne.2 (by omega);have n95:¬r=95:=by omega
    have k48:¬(r:Int)<48:=by omega
    have n48:¬r<48:=by omega
    have k57:¬(57:Int)<(r:Int):=by omega
    have n57:¬57<r:=by omega
    have HT:ae (∀i c,i<t+1->l[i]?=some c->mH i c.toNat=true):=aa (fun i c hi hc'=>by
     rcases tf i t with h5|h5
     ·exact HK.o i c h5 hc'
     ·have h6:i=t:=by omega
      subst h6;rw[HBB.o]at hc';cases hc';rw[<-HR.o];exact oG _ _ (by omega))
    clear hc;go_wp2;go_roundw
    case rel=>exact⟨t+1,by go_num,by omega,HT,by first|exact(trivial:True)|rfl⟩
    case measure=>simp[ti];omega
   ·have k65:(65:Int)<=(r:Int):=by omega
    have n65:65<=r:=by omega
    have k90:¬(r:Int)<=90:=by omega
    have n90:¬r<=90:=by omega
    have k97:¬(97:Int)<=(r:Int):=by omega
    have n97:¬97<=r:=by omega
    have kt:((t:Int)==0)=false:=beq_eq_false_iff_ne.2 (by omega);have nt:¬t=0:=by omega
    have k95:((r:Int) != 95)=false:=by simp;omega
    have n95:r=95:=by omega
    have HT:ae (∀i c,i<t+1->l[i]?=some c->mH i c.toNat=true):=aa (fun i c hi hc'=>by
     rcases tf i t with h5|h5
     ·exact HK.o i c h5 hc'
     ·have h6:i=t:=by omega
      subst h6;rw[HBB.o]at hc';cases hc';rw[<-HR.o];exact oG _ _ (by omega))
    clear hc;go_wp2;go_roundw
    case rel=>exact⟨t+1,by go_num,by omega,HT,by first|exact(trivial:True)|rfl⟩
    case measure=>simp[ti];omega
   ·have k65:¬(65:Int)<=(r:Int):=by omega
    have n65:¬65<=r:=by omega
    have k97:¬(97:Int)<=(r:Int):=by omega
    have n97:¬97<=r:=by omega
    have ht0:t=0:=by omega
    subst ht0;have HV:ae (rF l=false):=aa (kA l _ b HBB.o (by rw[<-HR.o];exact eM _ _ (by omega)));clear hc;go_wp2;go_ret;exact⟨by rw[HV.o];rfl,rfl⟩
   ·have k65:(65:Int)<=(r:Int):=by omega
    have n65:65<=r:=by omega
    have k90:¬(r:Int)<=90:=by omega
    have n90:¬r<=90:=by omega
    have k97:¬(97:Int)<=(r:Int):=by omega
    have n97:¬97<=r:=by omega
    have ht0:t=0:=by omega
    subst ht0;have HV:ae (rF l=false):=aa (kA l _ b HBB.o (by rw[<-HR.o];exact eM _ _ (by omega)));clear hc;go_wp2;go_ret;exact⟨by rw[HV.o];rfl,rfl⟩
   ·have k65:(65:Int)<=(r:Int):=by omega
    have n65:65<=r:=by omega
    have k90:¬(r:Int)<=90:=by omega
    have n90:¬r<=90:=by omega
    have k97:(97:Int)<=(r:Int):=by omega
    have n97:97<=r:=by omega
    have k122:¬(r:Int)<=122:=by omega
    have n122:¬r<=122:=by omega
    have ht0:t=0:=by omega
    subst ht0;have HV:ae (rF l=false):=aa (kA l _ b HBB.o (by rw[<-HR.o];exact eM _ _ (by omega)));clear hc;go_wp2;go_ret;exact⟨by rw[HV.o];rfl,rfl⟩
   ·have k65:¬(65:Int)<=(r:Int):=by omega
    have n65:¬65<=r:=by omega
    have k97:¬(97:Int)<=(r:Int):=by omega
    have n97:¬97<=r:=by omega
    have kt:((t:Int)==0)=false:=beq_eq_false_iff_ne.2 (by omega);have nt:¬t=0:=by omega
    have k95:((r:Int) != 95)=true:=bne_iff_ne.2 (by omega);have n95:¬r=95:=by omega
    have k48:(r:Int)<48:=by omega
    have n48:r<48:=by omega
    have HV:ae (rF l=false):=aa (kA l _ b HBB.o (by rw[<-HR.o];exact eM _ _ (by omega)));clear hc;go_wp2;go_ret;exact⟨by rw[HV.o];rfl,rfl⟩
   ·have k65:¬(65:Int)<=(r:Int):=by omega
    have n65:¬65<=r:=by omega
    have k97:¬(97:Int)<=(r:Int):=by omega
    have n97:¬97<=r:=by omega
    have kt:((t:Int)==0)=false:=beq_eq_false_iff_ne.2 (by omega);have nt:¬t=0:=by omega
    have k95:((r:Int) != 95)=true:=bne_iff_ne.2 (by omega);have n95:¬r=95:=by omega
    have k48:¬(r:Int)<48:=by omega
    have n48:¬r<48:=by omega
    have k57:(57:Int)<(r:Int):=by omega
    have n57:57<r:=by omega
    have HV:ae (rF l=false):=aa (kA l _ b HBB.o (by rw[<-HR.o];exact eM _ _ (by omega)));clear hc;go_wp2;go_ret;exact⟨by rw[HV.o];rfl,rfl⟩
   ·have k65:(65:Int)<=(r:Int):=by omega
    have n65:65<=r:=by omega
    have k90:¬(r:Int)<=90:=by omega
    have n90:¬r<=90:=by omega
    have k97:¬(97:Int)<=(r:Int):=by omega
    have n97:¬97<=r:=by omega
    have kt:((t:Int)==0)=false:=beq_eq_false_iff_ne.2 (by omega);have nt:¬t=0:=by omega
    have k95:((r:Int) != 95)=true:=bne_iff_ne.2 (by omega);have n95:¬r=95:=by omega
    have k48:¬(r:Int)<48:=by omega
    have n48:¬r<48:=by omega
    have k57:(57:Int)<(r:Int):=by omega
    have n57:57<r:=by omega
    have HV:ae (rF l=false):=aa (kA l _ b HBB.o (by rw[<-HR.o];exact eM _ _ (by omega)));clear hc;go_wp2;go_ret;exact⟨by rw[HV.o];rfl,rfl⟩
   ·have k65:(65:Int)<=(r:Int):=by omega
    have n65:65<=r:=by omega
    have k90:¬(r:Int)<=90:=by omega
    have n90:¬r<=90:=by omega
    have k97:(97:Int)<=(r:Int):=by omega
    have n97:97<=r:=by omega
    have k122:¬(r:Int)<=122:=by omega
    have n122:¬r<=122:=by omega
    have kt:((t:Int)==0)=false:=beq_eq_false_iff_ne.2 (by omega);have nt:¬t=0:=by omega
    have k95:((r:Int) != 95)=true:=bne_iff_ne.2 (by omega);have n95:¬r=95:=by omega
    have k48:¬(r:Int)<48:=by omega
    have n48:¬r<48:=by omega
    have k57:(57:Int)<(r:Int):=by omega
    have n57:57<r:=by omega
    have HV:ae (rF l=false):=aa (kA l _ b HBB.o (by rw[<-HR.o];exact eM _ _ (by omega)));clear hc;go_wp2;go_ret;exact⟨by rw[HV.o];rfl,rfl⟩
  ·have tl:¬(t:Int)<(l.length:Int):=by omega
   have HA:ae (∀i b,l[i]?=some b->mH i b.toNat=true):=aa (fun i b hb=>HK.o i b (by have h5:=(sE.1 hb).1;omega) hb);have e:t=l.length:=by omega
   subst e;by_cases h0:l.length=0
   ·have HV:=aa (ziF l (.inl h0));have hl1:l=[]:=List.length_eq_zero_iff.1 h0;subst hl1;go_wp2;go_ret;exact⟨by rw[HV.o];rfl,rfl⟩
   ·have k1:(1:Int)<=(l.length:Int):=by omega
    have n1:1<=l.length:=by omega
    have hne:¬l=[]:=fun e=>h0 (by rw[e];rfl);by_cases h32:l.length<=32
    ·have k32:(l.length:Int)<=32:=by omega
     have HV:=aa (zqQ l n1 h32 HA.o);go_wp2;go_ret;exact⟨by rw[HV.o];rfl,rfl⟩
    ·have k32:¬(l.length:Int)<=32:=by omega
     have HV:=aa (ziF l (.inr (by omega)));go_wp2;go_ret;exact⟨by rw[HV.o];rfl,rfl⟩
end Dc
end Go.Proofs.YtbbapnpdfcgjnaaGreatDoor
