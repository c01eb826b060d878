/- WdKind, WdIt, WdCnt, WdWs, PtLns, PtWoPs, RKind: parts of the proof, joined. -/
import Derived.Test.YtbbapnpdfcgjnaaGreatDoorWWdEa
import Derived.Test.YtbbapnpdfcgjnaaGreatDoorWDcNm
import Derived.Test.YtbbapnpdfcgjnaaGreatDoorWWdLv
open List renaming length_take_le->sD, length_append->sJ, getElem?_eq_some_iff->sK, flatMap_append->sL, length_cons->sM, drop_eq_getElem_cons->sO, getElem?_eq_getElem->sQ, take_succ_eq_append_getElem->sS, flatMap_cons->sT, append_toArray->sX, size_toArray->ta, push_toArray->tc, getElem_mem->te, cons_append->tf, take_of_length_le->ti, drop_of_length_le->tn, length_nil->tq, nil_append->tr, getElem?_map->tD, append_assoc->tE, length_take->tL, drop_take->tN
open Nat renaming le_trans->sE, le_refl->sI, le_of_ble_eq_true->tu, lt_or_ge->tS, blt->tV
open Array renaming getElem?_eq_some_iff->sG, replicate_succ->sW
open Go renaming World->sH, Value->sV, callsIn_wide->sY, run_takeDeferred->tg, Boxed->tp, Calls->tw, callsIn_of_wp_marks->tB, results_none->tF, wpList_append_own->tG, KeepsFrom->tJ, grownBy_setCell'->tK, boxed_own->tR
open Go.RowKit.Below renaming heap_setCell->sN, refl->sU
open Go.RowKit renaming Below->sP, intOf->tz
open Go.World renaming putObj_heap_other->sR, size_alloc->tI, iterPos->tP, cell?->tT
open Go.KeepsWalks renaming setCell->sZ
open Go.OwnFrom renaming and->td
open Go.Fence renaming wide->tj
open ByteArray renaming data_extract->tk, ext->tQ
open Go.KeepsFrom renaming of_grownBy->tA, refl->tO
set_option maxHeartbeats 64000000
namespace Go.Proofs.YtbbapnpdfcgjnaaGreatDoor
namespace Wd
open Go.RowKit
set_option maxRecDepth 100000 in
theorem zgU:((List.range 20).all fun a=>Ev.zqB Tryz.prog nG 1000000 60 tabs 67 [.int .i64 (a:Int)] (.int .i64 (qk a:Int)))=true:=by kernel_rfl
theorem zgV(a:Nat)(ha:a<20)(w:sH)(hw:Ev.q9 tabs w):
  tw Tryz.prog 67 #[.int .i64 (a:Int)] w fun e w'=>e=.returned (.int .i64 (qk a:Int))/\sP w.heap.size w w':=
 Ev.nO mixed dy zhZ rfl (List.all_eq_true.1 zgU a (List.mem_range.2 ha)) w hw
theorem de{w w':sH}(h:Ev.q9 tabs w)(hb:sP w.heap.size w w'):Ev.q9 tabs w':=fun x hx=>by obtain⟨c,h1,h2⟩:=h x hx;exact⟨c,(hb.block _ (sG.1 h1).1).trans h1,h2⟩
theorem zjv(l:List UInt8):(cu l).length=(rl l).length:=by simp[cu]
theorem zfs(l:List UInt8)(k:Nat)(x:Nat×Nat)(c:Nat)(hx:(rl l)[k]?=some x)(hc:bf x.1=(c:Int)):(cu l).take (k+1)=(cu l).take k++[c]:=by
 have h0:(cu l)[k]?=some c:=by unfold cu;rw[tD,hx];simp[hc]
 obtain⟨hk2,h⟩:=sK.1 h0;rw[sS hk2,h]
set_option maxRecDepth 100000 in
theorem zjP(l:List UInt8)(w:sH)(hw:Ev.q9 tabs w):
  tw Tryz.prog 43 #[.string ⟨l.toArray⟩] w fun e w'=>e=.returned (.int .i64 (wkd (cu l):Int))/\sP w.heap.size w w':=by
 have HV:=aa hw;clear hw;have HSZ:ae ((⟨l.toArray⟩:ByteArray).size=l.length):=aa (by show l.toArray.size=_;simp);have HB0:=aa ((sU w.heap.size w).alloc (sI _) (.stringIter ⟨l.toArray⟩ 0));have HIT0:=aa (sH.iter_heap w ⟨l.toArray⟩ 0);go_enter Tryz.func43,Tryz.ntmps43;go_wp2;go_loopw [3,4] (fun a b wr=>∃k:Nat,k<=(rl l).length/\a=.int .i64 (kmx ((cu l).take k):Int)/\b=.bool (str ((cu l).take k))/\ae (wr.heap[w.heap.size]?=some (.stringIter ⟨l.toArray⟩ (lz l k)))/\ae (sP w.heap.size w wr)) (fun _ _ wr=>l.length-wr.iterPos w.heap.size)
 case atStart=>exact⟨0,by omega,rfl,rfl,HIT0,HB0⟩
 case round=>
  obtain⟨k,hk,rfl,rfl,HI,HB⟩:=hrel;have hin:w.heap.size<wr.heap.size:=(sG.1 HI.o).1;by_cases hlt:k<(rl l).length
  ·have HE:=aa (sQ hlt);obtain⟨x,hx⟩:=aj ((rl l)[k]);rw[<-hx]at HE;have hpl:lz l k<l.length:=by have h1:=pX l k x HE.o;have h2:=zuz l (k+1);have h3:=zbr l.length l (sI _) x (by rw[hx];exact te hlt);omega
   have hnx:=fL (P:=Tryz.prog) wr w.heap.size ⟨l.toArray⟩ (lz l k) 0 HI.o (by rw[HSZ.o];exact hpl);rw[ca l _ hpl]at hnx;have hdx:dec (l.drop (lz l k))=x:=by have h1:=rl_drop l k (by omega);rw[bD _ (aY l _ hpl),sO hlt,<-hx]at h1;exact(List.cons.inj h1).1
   rw[hdx,<-pX l k x HE.o]at hnx;have hx2:=zbr l.length l (sI _) x (by rw[hx];exact te hlt);have HM:=aa (show l.length-lz l (k+1)<l.length-wr.iterPos w.heap.size by
    have h1:wr.iterPos w.heap.size=lz l k:=by unfold tP;rw[HI.o]
    have h2:=pX l k x HE.o;rw[h1];omega)
   obtain⟨c,hc,hc2⟩:=mo x.1;have HS:=aa (zfs l k x c HE.o hc);have HC2:=aa hc2;obtain⟨rr,hrr⟩:∃rr:Int,rr=(x.1:Int):=⟨_,rfl⟩;rw[<-hrr]at hnx hc;obtain⟨P,hP⟩:=aj (lz l (k+1));obtain⟨w1,hw1⟩:=aj (wr.putObj w.heap.size (.stringIter ⟨l.toArray⟩ (lz l (k+1))));rw[<-hw1]at hnx;have HI1:ae (w1.heap[w.heap.size]?=some (.stringIter ⟨l.toArray⟩ (lz l (k+1)))):=aa (by rw[hw1];exact sH.putObj_heap_same hin);have HB1:ae (sP w.heap.size w w1):=aa (by rw[hw1];exact HB.o.trans ⟨rfl,rfl,rfl,by simp[sH.putObj],fun j hj=>sR (by omega)⟩);have HCC:=aa hc;clear hrr hw1 HI HB hdx hpl hx hx2 hP hc hc2;obtain⟨K,hK⟩:=aj (kmx ((cu l).take k));obtain⟨b,hb⟩:=aj (str ((cu l).take k));have HK1:ae (kmx ((cu l).take (k+1))=max K (qk c)):=aa (by rw[HS.o,znW,hK]);have HS1:ae (str ((cu l).take (k+1))=(b||odc c)):=aa (by rw[HS.o,zmI,hb]);have HKL:ae (K<=4):=aa (by rw[hK];exact znX _);rw[<-hK,<-hb];clear hK hb;go_wp2_with fail;refine(eC rr w1).mono ?_;rintro e w2 ⟨rfl,hw2⟩;obtain rfl:=hw2.symm;clear hw2 hnx;rw[HCC.o];go_wp2_with fail;refine(zgV c HC2.o w1 (de HV.o HB1.o)).mono ?_;rintro e w2 ⟨rfl,be⟩;have HB2:=aa (HB1.o.trans (be.mono HB1.o.size));have HI2:=aa ((be.block _ (sG.1 HI1.o).1).trans HI1.o);clear be HB1 HI1;obtain⟨o,ho⟩:=aj (qk c);have HO:=aa ho;have HOD:ae (odc c=(decide (o=0)&& !aT (c:Int))):=aa (by rw[ho];rfl);have ol:o<=4:=by rw[ho];exact znV c
   rw[<-ho]at HK1⊢;clear ho;have kl:K<=4:=HKL.o;have hmx:(max (K:Int) (o:Int))=((max K o:Nat):Int):=by omega
   have FIN:∀(W:sH),W.heap[w.heap.size]?=some (.stringIter ⟨l.toArray⟩ (lz l (k+1)))->l.length-W.iterPos w.heap.size<l.length-wr.iterPos w.heap.size:=fun W h=>by
    have h1:W.iterPos w.heap.size=lz l (k+1):=by unfold tP;rw[h]
    rw[h1];exact HM.o
   have HFIN:=aa FIN;clear FIN;cases b with
   |true=>
    go_wp2;go_roundw
    case rel=>exact⟨k+1,by omega,by rw[HK1.o],by rw[HS1.o];rfl,HI2,HB2⟩
    case measure=>exact HFIN.o _ HI2.o
   |false=>
    by_cases o0:o=0
    ·subst o0;go_wp2_with fail;refine(cw (c:Int) w2).mono ?_;rintro e w3 ⟨rfl,hw2⟩;obtain rfl:=hw2.symm;clear hw2;obtain⟨q,hq⟩:=aj (aT (c:Int));rw[<-hq]at HOD⊢;clear hq;go_wp2;go_roundw
     case rel=>exact⟨k+1,by omega,by rw[HK1.o];first|rfl|(rw[hmx])|(congr 1;omega),by rw[HS1.o,HOD.o];cases q<;>rfl,HI2,HB2⟩
     case measure=>exact HFIN.o _ HI2.o
    ·have o1:¬(o:Int)=0:=by omega
     have o2:((o:Int)==0)=false:=beq_eq_false_iff_ne.2 o1;have HO3:ae (odc c=false):=aa (by rw[HOD.o,decide_eq_false o0];rfl);go_wp2;go_roundw
     case rel=>exact⟨k+1,by omega,by rw[HK1.o],by rw[HS1.o,HO3.o];rfl,HI2,HB2⟩
     case measure=>exact HFIN.o _ HI2.o
  ·have hke:k=(rl l).length:=by omega
   have hpl:lz l k=l.length:=zqM l k (by omega);have hnx:=dG (P:=Tryz.prog) wr w.heap.size ⟨l.toArray⟩ (lz l k) 0 HI.o (by rw[HSZ.o,hpl];omega);have htk:(cu l).take k=cu l:=ti (by rw[zjv];omega);rw[htk];have HW:ae (wkd (cu l)=if kmx (cu l)=1/\str (cu l)=true then 0 else kmx (cu l)):=aa rfl;obtain⟨K,hK⟩:=aj (kmx (cu l));obtain⟨b,hb⟩:=aj (str (cu l));rw[<-hK,<-hb]at HW;rw[<-hK,<-hb];clear hK hb htk hpl hke;by_cases k1:K=1
   ·subst k1;cases b with
    |true=>go_wp2;go_ret;exact⟨by rw[HW.o];rfl,HB.o⟩
    |false=>go_wp2;go_ret;exact⟨by rw[HW.o];rfl,HB.o⟩
   ·have k2:¬(K:Int)=1:=by omega
    have k3:((K:Int)==1)=false:=beq_eq_false_iff_ne.2 k2;have HW2:ae (wkd (cu l)=K):=aa (by rw[HW.o,if_neg (fun e=>k1 e.1)]);go_wp2;go_ret;exact⟨by rw[HW2.o];rfl,HB.o⟩
end Wd
namespace Wd
open Go.RowKit Go.Shelf
attribute [local go_sem] Oper.semAt_some
def kt(t:Nat):Bool:= !(t==3)
structure Kt(X Y:sH):Prop where
 size:X.heap.size<=Y.heap.size
 low:∀k,k<2->Y.heap[k]?=X.heap[k]?
 cells:∀(k:Nat)(c:Array sV)(t:Nat)(fz:Nat×Nat),X.heap[k]?=some (.cells c t fz)->kt t=true->Y.heap[k]?=some (.cells c t fz)
theorem zhG{A B C:sH}(h:Kt A B)(k:Kt B C):Kt A C:=
 ⟨sE h.size k.size,fun i hi=>(k.low i hi).trans (h.low i hi),fun i c t fz h1 h2=>k.cells i c t fz (h.cells i c t fz h1 h2) h2⟩
theorem zsb{w:sH}(hw:2<=w.heap.size)(W:sH)(l:Nat)(o o':Obj)(hl:w.heap.size<=l)(h:W.heap[l]?=some o)(hc:o.isCells=false)(_:o.isWalk=false):Kt W (W.putObj l o'):=
 ⟨by simp,fun k hk=>sR (by omega),fun k c t fz h1 _=>(sR (fun e=>by subst e;rw[h]at h1;cases h1;cases hc)).trans h1⟩
theorem Kt.refl(X:sH):Kt X X:=⟨sI _,fun _ _=>rfl,fun _ _ _ _ h _=>h⟩
theorem Kt.below{X Y:sH}(h:sP X.heap.size X Y)(h2:2<=X.heap.size):Kt X Y:=
 ⟨h.size,fun k hk=>h.block k (by omega),fun k c t fz h1 _=>(h.block k (sG.1 h1).1).trans h1⟩
theorem eR.kt{Bs:Nat}{l:List UInt8}{X Y:sH}(h:eR Bs l X)(k:Kt X Y):eR Bs l Y:=h.keeps k.size fun i hi=>by
 rcases hi with rfl|hi
 ·have h1:=h.bs;unfold tp at h1;rw[h1];exact k.cells _ _ _ _ h1 rfl
 ·exact k.low i hi
theorem zuf{β:Type}(B Bs:Nat)(l:List UInt8)(hB:2<=B):OwnFrom B (fun(_:β) W=>eR Bs l W):=fun _ A C row h hg hr=>by
 refine h.keeps hg.size fun k hk=>hg.block k (h.lt k hk) fun e=>?_;obtain⟨hle,o,ho,hc⟩:=hr k e.symm;rcases hk with rfl|hk
 ·have:=h.bs;unfold tp at this;rw[this]at ho;cases ho;cases hc
 ·omega
theorem zhX{X Y:sH}(h:Ev.q9 tabs X)(k:∀i,i<2->Y.heap[i]?=X.heap[i]?):Ev.q9 tabs Y:=fun x hx=>by
 obtain⟨c,h1,h2⟩:=h x hx;simp only[tabs,List.mem_cons,List.mem_nil_iff,or_false]at hx;rcases hx with rfl|rfl
 ·exact⟨c,(k 0 (by decide)).trans h1,h2⟩
 ·exact⟨c,(k 1 (by decide)).trans h1,h2⟩
theorem zmG{β:Type}(B:Nat)(hB:2<=B):OwnFrom B (fun(_:β) W=>Ev.q9 tabs W):=fun _ A C row h hg hr=>zhX h fun i hi=>hg.block i (by obtain⟨c,h1,_⟩:=h _ (List.mem_cons_of_mem _ (List.mem_cons_self ..));have h3:1<A.heap.size:=(sG.1 h1).1;omega) fun e=>by have:=(hr i e.symm).1;omega
theorem zgq{m m' lp l:Nat}{f:FuncId}{tmps:Array sV}{assign body:Code}{w:sH}{R:Ending->sH->Prop}(h:RoundIn tj m Tryz.prog l f tmps assign body w R):RoundIn (tj.inRound lp) m' Tryz.prog l f tmps assign body w R:=
 ⟨trivial,fun c cs _=>h.2 c cs (room_wide _)⟩
def wrd(p:List UInt8):Bool:=decide (wkd (cu p)=4)||decide (wkd (cu p)=3)
theorem zgZ(l:List UInt8)(w:sH)(hw:Ev.q9 tabs w):
  tw Tryz.prog 54 #[.string ⟨l.toArray⟩] w fun e w'=>e=.returned (.bool (wrd l))/\sP w.heap.size w w':=by
 have HW:=aa hw;clear hw;go_enter Tryz.func54,Tryz.ntmps54;go_wp2_with fail;refine(zjP l w HW.o).mono ?_;rintro e w1 ⟨rfl,be⟩;have HB:=aa be;clear be;have HV:ae (wrd l=(decide (wkd (cu l)=4)||decide (wkd (cu l)=3))):=aa rfl;obtain⟨k,hk⟩:=aj (wkd (cu l));rw[<-hk]at HV⊢;clear hk;by_cases k4:k=4
 ·subst k4;go_wp2;go_ret;exact⟨by rw[HV.o];rfl,HB.o⟩
 ·have k5:((k:Int)==4)=false:=beq_eq_false_iff_ne.2 (by omega);by_cases k3:k=3
  ·subst k3;go_wp2;go_ret;exact⟨by rw[HV.o];rfl,HB.o⟩
  ·have k6:((k:Int)==3)=false:=beq_eq_false_iff_ne.2 (by omega);have HV2:ae (wrd l=false):=aa (by rw[HV.o,decide_eq_false k4,decide_eq_false k3];rfl);go_wp2;go_ret;exact⟨by rw[HV2.o];rfl,HB.o⟩
def lq(l:List UInt8)(v:Nat×Nat):List UInt8:=(l.take v.2).drop v.1
structure Wq(l:List UInt8) where
 v:Nat×Nat
 lt:v.1<v.2
 le:v.2<=l.length
 wd:wrd (lq l v)=true
def zoT{l:List UInt8}(x:Wq l):Array sV:=#[.int .i64 (x.v.1:Nat),.string ⟨(lq l x.v).toArray⟩]
theorem zhf(l:List UInt8)(a b:Nat):(⟨l.toArray⟩:ByteArray).extract a b=⟨(lq l (a,b)).toArray⟩:=by unfold lq;apply tQ;simp[tk,tN]
theorem zcT(l:List UInt8)(w:sH):
  tw Tryz.prog 24 #[.string ⟨l.toArray⟩] w fun e w'=>e=.returned (.func (.func 53) #[] #[.pointer (some ⟨w.heap.size,0,none⟩)])/\w'=w.alloc (.cells #[.string ⟨l.toArray⟩] 9):=by
 go_enter Tryz.func24,Tryz.ntmps24;go_wp2;go_ret;exact⟨rfl,rfl⟩
end Wd
namespace Wd
open Go.RowKit Go.Shelf
attribute [local go_sem] Oper.semAt_some
theorem Kt.set{W:sH}{B:Nat}{v0:sV}(h:tp W B 3 v0)(h2:2<=B)(v:sV):Kt W (W.setCell ⟨B,0,none⟩ v):=
 ⟨(sZ W _ v).size,fun k hk=>sN _ _ _ k (by show k≠B;omega),fun k c' t' fz h1 h3=>by refine(sN _ _ _ k (fun e=>?_)).trans h1;have e':k=B:=e;subst e';unfold tp at h;rw[h]at h1;cases h1;cases h3⟩
end Wd
namespace Wd
open Go.RowKit Go.Shelf Wt
open Sg (Pl zoU)
attribute [local go_sem] Oper.semAt_some
def jE{l:List UInt8}(x:Pl l):List (Wq l):=if h:wrd (lq l x.v)=true then [⟨x.v,x.lt,x.le,h⟩]else []
theorem zhV{l:List UInt8}(x:Pl l)(h:wrd (lq l x.v)=true):jE x=[⟨x.v,x.lt,x.le,h⟩]:=by unfold jE;rw[dif_pos h]
theorem zmE{l:List UInt8}(x:Pl l)(h:wrd (lq l x.v)=false):jE x=[]:=by unfold jE;rw[dif_neg (by rw[h];exact Bool.false_ne_true)]
theorem zes{l:List UInt8}{A B:List (Pl l)}(h:A<+:B):A.flatMap jE<+:B.flatMap jE:=by obtain⟨R,rfl⟩:=h;exact⟨R.flatMap jE,by rw[sL]⟩
theorem zqf(Kp:sH->sH->Prop)(n:Nat)(hn:1<=n)(Bs:Nat)(l:List UInt8)(L:List (Pl l))(hL:L.map Pl.v=jD l)(w:sH)(hR:eR Bs l w)(hl:l.length<=1000000000)(hKp:∀X Y,eR Bs l X->Kp X Y->eR Bs l Y):
  zhC tj n Tryz.prog 51 #[.pointer (some ⟨Bs,0,none⟩)] zoU Kp (fun xs=>xs=L) (fun pre=>pre<+:L) w:=fun lp J Jx W hbW hJ hJx hY h0=>by
 have HRW:=aa (hR.below hbW);have hcW:=HRW.o.bs.cell;have HLL:ae (L.map Pl.v=wpG l 0):=aa hL;clear hR hbW hL;refine callsIn_of_wp Tryz.func51 rfl trivial ?_ rfl;simp only[Tryz.ntmps51,ta,sM,tq,Nat.reduceAdd,Nat.reduceSub,sW,Array.replicate_zero,tc,sX,tr,tf];gi_wp2;gi_loopw [3] (fun v wr=>∃(p k:Nat)(pre rest:List (Pl l)),v=.int .i64 p/\ae (p=pos l k)/\ae (k<=(rl l).length)/\ae (k=(rl l).length\/k=0\/wC l k=true)/\ae (rest.map Pl.v=wpG l k)/\ae (L=pre++rest)/\ae (J pre wr)/\ae (eR Bs l wr)) (fun v _=>l.length-(tz v).toNat)
 case atStart=>exact⟨0,0,[],L,rfl,rfl,Nat.zero_le _,aa (.inr (.inl rfl)),HLL,rfl,h0,HRW⟩
 case round=>
  obtain⟨p,k,pre,rest,rfl,HPK,HKN,HKB,HC,HP,HJ,HR⟩:=hrel;clear hcW;have hc:=HR.o.bs.cell;by_cases hlt:p<l.length
  ·have hlti:(p:Int)<(l.length:Int):=by omega
   have hkn:k<(rl l).length:=by
    rcases tS k (rl l).length with h|h
    ·exact h
    ·have h1:=HPK.o;rw[bY l k h]at h1;omega
   have HDN:=aa (aY l p hlt);have HDL:ae ((l.drop p).length<=1000000000):=aa (by rw[List.length_drop];omega);have hnx:=zsW l k hkn (by rcases HKB.o with h|h;omega;exact h);rw[<-HPK.o]at hnx;have hnl:=Sg.eu (C:=wC l) hkn;have HNL:=aa hnl;have HNB:=aa (show Sg.nx (wC l) (rl l).length k=(rl l).length\/Sg.nx (wC l) (rl l).length k=0\/wC l (Sg.nx (wC l) (rl l).length k)=true by
    rcases Sg.gM (C:=wC l) hkn with h|h
    ·exact .inl h
    ·exact .inr (.inr h))
   have hb1:p<pos l (Sg.nx (wC l) (rl l).length k):=by rw[HPK.o];exact Sg.fe l (Sg.dS (wC l) (rl l).length k) hnl
   have hb2:=dZ l _ hnl;have hx:=HC.o;rw[pc l k hkn]at hx;obtain⟨x,R,rfl⟩:∃x R,rest=x::R:=by
    cases rest with
    |nil=>cases hx
    |cons x R=>exact⟨x,R,rfl⟩
   rw[List.map_cons]at hx;have HX:=aa (List.cons.inj hx).1;have HRR:=aa (List.cons.inj hx).2;rw[<-HPK.o]at HX;clear hx HC hkn hnl;obtain⟨t,ht⟩:=aj (pos l (Sg.nx (wC l) (rl l).length k));have HT:=aa ht;rw[<-ht]at hb1 hb2 HX hnx;gi_wp2_with fail;rw[ext_drop];refine⟨trivial,(sY.2 (zjN (l.drop p) wr HR.o.tb HDN.o HDL.o)).mono ?_⟩;rintro e w1 ⟨rfl,be1⟩;have HJ1:=aa (hJ pre wr w1 none HJ.o (mn be1) (fun r e=>by cases e));have HR1:=aa (HR.o.below be1);obtain⟨q,hq⟩:=aj (wnx (l.drop p));rw[<-hq]at hnx⊢;clear be1 hq ht HJ HR hc;subst hnx;have HP2:ae (L=(pre++[x])++R):=aa (by rw[HP.o,tE];rfl);obtain⟨fn,tmps,assign,body,hy,hRR⟩:=hY pre x w1 HJ1.o ⟨R,by rw[HP2.o]⟩;dsimp only[zoU]at hy;rw[HX.o]at hy;simp only[Int.natCast_add]at hy;clear hY;gi_wp2;refine hRR.mono ?_;rintro e W3 ⟨_,(⟨rfl,hJ3,hk3⟩|⟨rfl,hJx3⟩)⟩
   ·have HJ3:=aa hJ3;have HR3:=aa (hKp _ _ HR1.o hk3);clear hJ3 hk3;gi_wp2;go_roundw
    case rel=>exact⟨p+q,Sg.nx (wC l) (rl l).length k,pre++[x],R,by rw[Int.natCast_add],HT,HNL,HNB,HRR,HP2,HJ3,HR3⟩
    case measure=>simp[tz];omega
   ·have HJX:=aa hJx3;clear hJx3;gi_wp2;refine bodyPost_ret (tF rfl _ _ _) rfl ?_;exact⟨⟨_,rfl⟩,.inr ⟨pre++[x],⟨R,by rw[HP2.o]⟩,HJX.o⟩⟩
  ·have hlti:¬(p:Int)<(l.length:Int):=by omega
   have HE:=aa (show L=pre by
    have hkn:(rl l).length<=k:=by
     rcases tS k (rl l).length with h|h
     ·have:=cU l k h;have:=HPK.o;omega
     ·exact h
    have h1:=HC.o;rw[zaV l k hkn]at h1;rw[HP.o,List.map_eq_nil_iff.1 h1,List.append_nil])
   gi_wp2;go_end0;exact⟨⟨_,rfl⟩,.inl (by rw[HE.o];exact HJ.o)⟩
theorem zaW(n Bs:Nat)(l:List UInt8)(M:List (Pl l))(w:sH)(hn:3<=n)(hM:M.map Pl.v=jD l)(hR:eR Bs l w)(hv:Ev.q9 tabs w)(hl:l.length<=1000000):
  zhC tj n Tryz.prog 53 #[.pointer (some ⟨Bs,0,none⟩)] zoT Kt (fun xs=>xs=M.flatMap jE) (fun pre=>pre<+:M.flatMap jE) w:=fun lp J Jx W hbW hJ hJx hY h0=>by
 have HRW:=aa (hR.below hbW);have HVW:=aa (de hv hbW);have hcW:=(HRW.o.bs.alloc (.cells #[.func (.yield lp) #[] #[]] 70)).cell;have h2:=HRW.o.tb.two;have hn1:1<=n:=by omega
 have HM:=aa hM;clear hR hbW hM hv;refine tB Tryz.func53 rfl trivial ?_ rfl;simp only[Tryz.ntmps53,ta,sM,tq,Nat.reduceAdd,Nat.reduceSub,sW,Array.replicate_zero,tc,sX,tr,tf];gi_wp2_with fail;refine⟨trivial,(sY.2 (zjQ l _)).mono ?_⟩;rintro e w' ⟨rfl,rfl⟩;have b1:=(HRW.o.bs.alloc (.cells #[.func (.yield lp) #[] #[]] 70)).alloc (.cells #[.string ⟨l.toArray⟩] 9);have b2:=(tp.new W 70 (.func (.yield lp) #[] #[])).alloc (.cells #[.string ⟨l.toArray⟩] 9);have b3:=tp.new (W.alloc (.cells #[.func (.yield lp) #[] #[]] 70)) 9 (.string ⟨l.toArray⟩);have hB:sP W.heap.size W ((W.alloc (.cells #[.func (.yield lp) #[] #[]] 70)).alloc (.cells #[.string ⟨l.toArray⟩] 9)):=((sU _ _).alloc (sI _) _).alloc (by simp) _;have hs:((W.alloc (.cells #[.func (.yield lp) #[] #[]] 70)).alloc (.cells #[.string ⟨l.toArray⟩] 9)).heap.size=W.heap.size+2:=by simp
 have hJ0:J [] ((W.alloc (.cells #[.func (.yield lp) #[] #[]] 70)).alloc (.cells #[.string ⟨l.toArray⟩] 9)):=hJ [] W _ none h0 (mn hB) (fun r e=>by cases e);rw[tI]at b3⊢;obtain⟨w3,hw3⟩:=aj ((W.alloc (.cells #[.func (.yield lp) #[] #[]] 70)).alloc (.cells #[.string ⟨l.toArray⟩] 9));rw[<-hw3]at b1 b2 b3 hB hs hJ0⊢;clear hw3 hcW;have HE:ae (eR (W.heap.size+1) l w3):=aa ⟨b3,HRW.o.tb.below hB⟩;have HV3:=aa (de HVW.o hB);gi_wp2;refine zgx rfl hn1 rfl trivial (enters_of Tryz.func51 (by kernel_rfl) rfl) (zqf Kt (n-1) (by omega) (W.heap.size+1) l M HM.o w3 HE.o (by omega) (fun _ _ h k=>h.kt k)) zhG (zsb (by omega)) (sU _ _) (fun _=>rfl)
  (fun pre V=>(((J (pre.flatMap jE) V/\eR (W.heap.size+1) l V)/\Ev.q9 tabs V)/\tp V W.heap.size 70 (.func (.yield lp) #[] #[]))/\tp V Bs 9 (.string ⟨l.toArray⟩))
  (fun c pre V=>c=.ret/\Jx (pre.flatMap jE) V)
  (td (td (td (td (fun s A C row h hg hr=>kz hJ (by omega) (s.flatMap jE) A C row h hg hr) (zuf _ _ l (by omega))) (zmG _ (by omega))) (Own.from (tR _ _ _) _)) (Own.from (tR _ _ _) _))
  (fun c s A C row h hg hr=>⟨h.1,kz hJx (by omega) (s.flatMap jE) A C row h.2 hg hr⟩)
  ⟨⟨⟨⟨hJ0,HE.o⟩,HV3.o⟩,b2⟩,b1⟩
  (fun x a' _=>a'={tmps:=#[.func (.yield lp) #[] #[],.pointer (some ⟨Bs,0,none⟩),.pointer (some ⟨W.heap.size,0,none⟩),.int .i64 (x.v.1:Nat),.int .i64 (x.v.2:Nat),undef,.string ⟨l.toArray⟩,.func (.func 51) #[] #[.pointer (some ⟨W.heap.size+1,0,none⟩)],.int .i64 (x.v.1:Nat),.int .i64 (x.v.2:Nat),undef,undef,undef,undef,undef,undef,undef,undef,undef,undef,undef,undef,undef],defers:=[]})
  (fun _ _ _ _ _ _ h _ _=>h) ?assign ?body ?done ?stop
 case assign=>intro lp2 pre x V K hI hK;dsimp only[zoU];gi_wp2;exact hK _ _ (tO _ _) (Kt.refl _) hI rfl
 case body=>
  rintro lp2 pre x a' V hlp _ ⟨⟨⟨⟨hj,hwa⟩,htv⟩,hb⟩,hbs⟩ rfl hsp;have HSp:ae ((pre++[x]).flatMap jE<+:M.flatMap jE):=aa (zes hsp);clear hsp;have hc:=hb.cell;have hc2:=hbs.cell;have xl:=x.lt;have xe:=x.le;have HWA:=aa hwa;have HTV:=aa htv;have HBX:=aa hb;have HBS:=aa hbs;have HJ:=aa hj;have x0:(0:Int)<=(x.v.1:Int):=by omega
  have x1:(x.v.1:Int)<=(x.v.2:Int):=by omega
  have x2:(x.v.2:Int)<=(l.length:Int):=by omega
  clear hwa hb hj htv hbs;gi_wp2_with fail;rw[zhf];refine⟨trivial,fun _=>by omega,(CallsIn.inRound lp2 (sY.2 (zgZ (lq l (x.v.1,x.v.2)) V HTV.o))).mono ?_⟩;rintro e V1 ⟨rfl,be⟩;have HJ1:=aa (hJ _ V V1 none HJ.o (mn be) (fun r e=>by cases e));have HWA1:=aa (HWA.o.below be);have HTV1:=aa (de HTV.o be);have HBX1:=aa ((be.block _ HBX.o.lt).trans HBX.o);have HBS1:=aa ((be.block _ HBS.o.lt).trans HBS.o);have hc4:=(show tp V1 W.heap.size 70 (.func (.yield lp) #[] #[])from HBX1.o).cell;have HKF:=aa (tA (B:=w3.heap.size) (mn be) (fun j e=>by cases e));have HKT:=aa (Kt.below be HWA.o.tb.two);obtain⟨b,hb⟩:=aj (wrd (lq l (x.v.1,x.v.2)));have HQQ:ae (wrd (lq l x.v)=b):=aa hb.symm;rw[<-hb];clear be hb HJ HWA HTV HBX HBS hc hc2;cases b with
  |true=>
   have HTW:=aa (zhV x HQQ.o);obtain⟨fn,tmps,assign,body,hy,hRR⟩:=hY (pre.flatMap jE) ⟨x.v,x.lt,x.le,HQQ.o⟩ V1 HJ1.o (by rw[<-show(pre++[x]).flatMap jE=pre.flatMap jE++[⟨x.v,x.lt,x.le,HQQ.o⟩] by rw[sL,sT,HTW.o];rfl];exact HSp.o);dsimp only[zoT]at hy;clear hY;gi_wp2;refine⟨fun _=>by omega,(zgq hRR).mono ?_⟩;rintro e V3 ⟨hkf,(⟨rfl,hJ3,hk3⟩|⟨rfl,hJx3⟩)⟩
   ·have HQ:=aa (show tJ w3.heap.size V V3/\Kt V V3/\(((J ((pre++[x]).flatMap jE) V3/\eR (W.heap.size+1) l V3)/\Ev.q9 tabs V3)/\tp V3 W.heap.size 70 (.func (.yield lp) #[] #[]))/\tp V3 Bs 9 (.string ⟨l.toArray⟩)from
     ⟨HKF.o.trans (lJ hkf (by omega)),zhG HKT.o hk3,⟨⟨⟨by rw[sL,sT,HTW.o];exact hJ3,HWA1.o.kt hk3⟩,zhX HTV1.o hk3.low⟩,hk3.cells _ _ _ _ HBX1.o rfl⟩,hk3.cells _ _ _ _ HBS1.o rfl⟩)
    clear hkf hJ3 hk3;gi_wp2;exact HQ.o
   ·have HQ:ae (tJ w3.heap.size V V3/\Jx ((pre++[x]).flatMap jE) V3):=aa ⟨HKF.o.trans (lJ hkf (by omega)),by rw[sL,sT,HTW.o];exact hJx3⟩;clear hkf hJx3;gi_wp2;exact⟨HQ.o.1,rfl,HQ.o.2⟩
  |false=>
   have HTW:=aa (zmE x HQQ.o);have HQ:=aa (show tJ w3.heap.size V V1/\Kt V V1/\(((J ((pre++[x]).flatMap jE) V1/\eR (W.heap.size+1) l V1)/\Ev.q9 tabs V1)/\tp V1 W.heap.size 70 (.func (.yield lp) #[] #[]))/\tp V1 Bs 9 (.string ⟨l.toArray⟩)from
    ⟨HKF.o,HKT.o,⟨⟨⟨by rw[sL,sT,HTW.o];simpa using HJ1.o,HWA1.o⟩,HTV1.o⟩,HBX1.o⟩,HBS1.o⟩)
   clear hY;gi_wp2;refine⟨(fun f e=>by cases e),?_⟩;gi_wp2;exact HQ.o
 case done=>rintro D xs V hD rfl ⟨⟨⟨⟨hj,_⟩,_⟩,_⟩,_⟩ hK;gi_wp2;refine⟨by simp,.inl ⟨_,_,rfl,tg hK,?_⟩⟩;exact⟨_,tF rfl _ _ _,⟨_,rfl⟩,.inl ⟨_,rfl,hJ.putObj _ hj (by omega) hK rfl⟩⟩
 case stop=>rintro D c pre V hD hp ⟨rfl,hj⟩ hK;gi_wp2;refine⟨by simp,.inl ⟨_,_,rfl,tg hK,?_⟩⟩;exact⟨_,tF rfl _ _ _,⟨_,rfl⟩,.inr ⟨pre.flatMap jE,zes hp,hJx.putObj _ hj (by omega) hK rfl⟩⟩
theorem zgc(l:List UInt8)(M:List (Pl l))(hM:M.map Pl.v=jD l)(hml:(M.flatMap jE).length<=l.length)(w:sH)(ht:na w)(hv:Ev.q9 tabs w)(hl:l.length<=1000000):
  CallsIn tj 5 Tryz.prog 25 #[.string ⟨l.toArray⟩] w fun e W'=>e=.returned (.int .i64 ((M.flatMap jE).length:Nat))/\sP w.heap.size w W':=by
 have HT:=aa ht;have HV:=aa hv;have HM:=aa hM;have h2:=ht.two;obtain⟨N,hN⟩:=aj ((M.flatMap jE).length);rw[<-hN];have HN:=aa hN;clear hN;clear ht hv hM;refine tB Tryz.func25 rfl trivial ?_ rfl;simp only[Tryz.ntmps25,ta,sM,tq,Nat.reduceAdd,Nat.reduceSub,sW,Array.replicate_zero,tc,sX,tr,tf];gi_wp2_with fail;refine⟨trivial,(sY.2 (zcT l _)).mono ?_⟩;rintro e w' ⟨rfl,rfl⟩;have b2:=(tp.new w 3 (.int .i64 0)).alloc (.cells #[.string ⟨l.toArray⟩] 9);have b3:=tp.new (w.alloc (.cells #[.int .i64 0] 3)) 9 (.string ⟨l.toArray⟩);have hB:sP w.heap.size w ((w.alloc (.cells #[.int .i64 0] 3)).alloc (.cells #[.string ⟨l.toArray⟩] 9)):=((sU _ _).alloc (sI _) _).alloc (by simp) _;have hs:((w.alloc (.cells #[.int .i64 0] 3)).alloc (.cells #[.string ⟨l.toArray⟩] 9)).heap.size=w.heap.size+2:=by simp
 rw[tI]at b3⊢;obtain⟨w3,hw3⟩:=aj ((w.alloc (.cells #[.int .i64 0] 3)).alloc (.cells #[.string ⟨l.toArray⟩] 9));rw[<-hw3]at b2 b3 hB hs⊢;clear hw3;have HE:ae (eR (w.heap.size+1) l w3):=aa ⟨b3,HT.o.below hB⟩;have HV3:=aa (de HV.o hB);gi_wp2;refine zgx rfl (by omega) rfl trivial (enters_of Tryz.func53 (by kernel_rfl) rfl) (zaW (5-1) (w.heap.size+1) l M w3 (by omega) HM.o HE.o HV3.o (by omega)) zhG (zsb (by omega)) (sU _ _) (fun _=>rfl)
  (fun pre V=>tp V w.heap.size 3 (.int .i64 (pre.length:Nat))/\sP w.heap.size w V)
  (fun _ _ _=>False)
  (td (Own.from (tR w.heap.size 3 (fun pre:List (Wq l)=>.int .i64 (pre.length:Nat))) _) (ownFrom_below (by omega) (by omega)))
  (fun _ _ _ _ _ hs _ _=>hs)
  ⟨b2,hB⟩
  (fun x a' _=>a'={tmps:=#[.string ⟨l.toArray⟩,undef,.int .i64 0,.pointer (some ⟨w.heap.size,0,none⟩),.string ⟨l.toArray⟩,.func (.func 53) #[] #[.pointer (some ⟨w.heap.size+1,0,none⟩)],.int .i64 (x.v.1:Nat),.string ⟨(lq l x.v).toArray⟩,undef,undef,undef],defers:=[]})
  (fun _ _ _ _ _ _ h _ _=>h) ?assign ?body ?done ?stop
 case assign=>
  intro lp2 pre x V K hI hK;dsimp only[zoT];gi_wp2;refine hK _ _ (tO _ _) (Kt.refl _) hI ?_
  first|rfl|simp
 case body=>
  rintro lp2 pre x a' V hlp _ ⟨hb,hbe⟩ rfl hsp;have hlt:pre.length<(M.flatMap jE).length:=by have:=hsp.length_le;rw[sJ,List.length_singleton]at this;omega
  clear hsp;have hc:=hb.cell;have hf:=hb.frozen;have hpl:(pre.length:Int)<=1000000:=by omega
  have HQ:=aa (show tJ w3.heap.size V (V.setCell ⟨w.heap.size,0,none⟩ (.int .i64 ((pre.length:Int)+1)))/\Kt V (V.setCell ⟨w.heap.size,0,none⟩ (.int .i64 ((pre.length:Int)+1)))/\tp (V.setCell ⟨w.heap.size,0,none⟩ (.int .i64 ((pre.length:Int)+1))) w.heap.size 3 (.int .i64 ((pre++[x]).length:Nat))/\sP w.heap.size w (V.setCell ⟨w.heap.size,0,none⟩ (.int .i64 ((pre.length:Int)+1)))from
   ⟨tA (tK V _ _) (fun j e=>by cases e;omega),Kt.set hb h2 _,by rw[sJ];exact hb.set _,hbe.trans ((tK V w.heap.size _) |> fun g=>⟨g.os,g.tape,g.output,g.size,fun k hk=>sN _ _ _ k (show k≠w.heap.size by omega)⟩)⟩)
  clear hb hbe;gi_wp2;exact HQ.o
 case done=>rintro D xs V hD rfl ⟨hb,hbe⟩ hK;rw[<-HN.o]at hb;have hc:=hb.cell;gi_wp2;refine⟨by simp,.inl ⟨_,_,rfl,tg hK,?_⟩⟩;exact⟨_,results_tmp rfl _ _ _,rfl,hbe.trans (belowK_b (w:=w) (sI _) V D _ _ (by omega) hK rfl rfl)⟩
 case stop=>rintro D c pre V _ _ h _;exact h.elim
theorem zqk(l:List UInt8)(M:List (Pl l))(hM:M.map Pl.v=jD l)(hml:(M.flatMap jE).length<=l.length)(w:sH)(ht:na w)(hv:Ev.q9 tabs w)(hl:l.length<=1000000):
  tw Tryz.prog 25 #[.string ⟨l.toArray⟩] w fun e W'=>e=.returned (.int .i64 ((M.flatMap jE).length:Nat))/\sP w.heap.size w W':=sY.1 (zgc l M hM hml w ht hv hl)
end Wd
namespace Pt
open Go.RowKit
def eU(p:List UInt8):List UInt8->List (List UInt8)
 |[]=>[p]
 |c::r=>if c=10 then p::eU [] r else eU (p++[c]) r
theorem zfb(l:List UInt8)(f t:Nat):(⟨l.toArray⟩:ByteArray).extract f t=⟨((l.take t).drop f).toArray⟩:=by apply tQ;simp[tk,tN]
theorem zqv(l:List UInt8)(p:List UInt8)(i:Nat)(hi:i<l.length)(h:l[i]=10):eU p (l.drop i)=p::eU [] (l.drop (i+1)):=by
 rw[sO hi]
 conv=>lhs;unfold eU
 rw[if_pos h]
theorem zuj(l:List UInt8)(p:List UInt8)(i:Nat)(hi:i<l.length)(h:l[i]≠10):eU p (l.drop i)=eU (p++[l[i]]) (l.drop (i+1)):=by
 rw[sO hi]
 conv=>lhs;unfold eU
 rw[if_neg h]
theorem pD:∀(r p:List UInt8),(eU p r).length<=r.length+1
 |[],p=>sI _
 |c::r,p=>by
  unfold eU;split
  ·have:=pD r [];rw[sM,sM];omega
  ·have:=pD r (p++[c]);rw[sM];omega
theorem ss(xs:List (List UInt8))(p:List UInt8):Dc.eT (xs++[p])=Dc.eT xs++[.string ⟨p.toArray⟩]:=by simp[Dc.eT]
set_option maxRecDepth 100000 in
theorem zng(l:List UInt8)(w:sH)(hl:l.length<=100000):
  tw Tryz.prog 71 #[.string ⟨l.toArray⟩] w fun e w'=>∃v,e=.returned v/\w'.ownsRow w.heap.size 9 1 v (eU [] l).length (Dc.eT (eU [] l))/\sP w.heap.size w w':=by
 obtain⟨i0,hi,hz0,hz1,hz2⟩:=info_parts Dc.Tryz.info9;have HSZ:ae ((⟨l.toArray⟩:ByteArray).size=l.length):=aa (by show l.toArray.size=_;simp);have HLN:=aa (pD l []);go_enter Tryz.func71,Tryz.ntmps71;go_wp2;go_loopw [3,4,5] (fun v fv iv wr=>∃(f i:Nat)(xs:List (List UInt8)),fv=.int .i64 f/\iv=.int .i64 i/\f<=i/\i<=l.length/\ae (eU [] l=xs++eU ((l.take i).drop f) (l.drop i))/\ae (wr.ownsRow w.heap.size 9 1 v xs.length (Dc.eT xs))/\ae (sP w.heap.size w wr)) (fun _ _ iv _=>l.length-(tz iv).toNat)
 case atStart=>exact⟨0,0,[],rfl,rfl,sI _,Nat.zero_le _,by simp[ae],sH.ownsRow_nil _ _ _ _,sU _ _⟩
 case round=>
  obtain⟨f,i,xs,rfl,rfl,hfi,hil,HP,HO,HB⟩:=hrel;by_cases hlt:i<l.length
  ·have h1:(i:Int)<(l.length:Int):=by omega
   have h0:(0:Int)<=(i:Int):=by omega
   have hxl:xs.length<=100001:=by have h5:=HLN.o;rw[HP.o,sJ]at h5;omega
   have hbs:=HB.o.size;have hf0:(0:Int)<=(f:Int):=by omega
   have hfi2:(f:Int)<=(i:Int):=by omega
   have hil2:(i:Int)<=(l.length:Int):=by omega
   have hw9:IntKind.i64.wrap ((i:Int)+1)=(i:Int)+1:=by rw[IntKind.wrap_i64];omega
   by_cases hc:l[i]=10
   ·obtain⟨p,hp⟩:=aj ((l.take i).drop f);have HE:ae ((⟨l.toArray⟩:ByteArray).extract f i=⟨p.toArray⟩):=aa (by rw[zfb,hp]);have HP2:=aa (show eU [] l=(xs++[p])++eU ((l.take (i+1)).drop (i+1)) (l.drop (i+1)) by rw[HP.o,zqv l _ i hlt hc,<-hp,tE,show(l.take (i+1)).drop (i+1)=[]from tn (by rw[tL];omega)];rfl);have hgi:(⟨l.toArray⟩:ByteArray)[i]'(by rw[HSZ.o];exact hlt)=l[i]:=rfl;have hn3:l[i].toNat=10:=by rw[hc];rfl
    have hn2:(l[i].toNat:Int)=10:=by omega
    clear hp HP;go_wp2_with (at_builtin;refine tG _ rfl _ _ 66 rfl w.heap.size 9 i0 (.string ⟨#[]⟩) 1 16 Tryz.underlying66 hi hz0 hz1 hz2 rfl (by decide) _ xs.length (Dc.eT xs) rfl (HO.o.alloc _) ⟨wr.heap.size,0,none⟩ 1 1 [.string ((⟨l.toArray⟩:ByteArray).extract f i)] rfl rfl (Dc.zgJ wr (.string ((⟨l.toArray⟩:ByteArray).extract f i)) 9) (Dc.zgh _) (by unfold maxLen;omega) (by omega) (by simp;omega) ?_;intro v2 w2 o2 gr2 _;have HO2:ae (w2.ownsRow w.heap.size 9 1 v2 (xs++[p]).length (Dc.eT (xs++[p]))):=aa (by rw[ss,sJ,<-HE.o];exact o2);have HB2:=aa ((HB.o.alloc HB.o.size (.cells #[.string ((⟨l.toArray⟩:ByteArray).extract f i)] 9)).grown gr2 (by simp;omega) (fun j hj=>(HO.o.lt j hj).1));clear o2 gr2);go_roundw
    case rel=>exact⟨i+1,i+1,xs++[p],by go_num,by go_num,sI _,hlt,HP2,HO2,HB2⟩
    case measure=>simp[tz];omega
   ·have HP2:=aa (show eU [] l=xs++eU ((l.take (i+1)).drop f) (l.drop (i+1)) by rw[HP.o,zuj l _ i hlt hc,sS hlt,List.drop_append_of_le_length (by rw[tL];omega)]);have hgi:(⟨l.toArray⟩:ByteArray)[i]'(by rw[HSZ.o];exact hlt)=l[i]:=rfl;have hn3:¬l[i].toNat=10:=fun h=>hc (UInt8.toNat_inj.1 (by rw[h];rfl));have hn2:¬(l[i].toNat:Int)=10:=by omega
    have hn1:(l[i].toNat==10)=false:=beq_eq_false_iff_ne.2 hn3;have hn0:((l[i].toNat:Int)==10)=false:=beq_eq_false_iff_ne.2 hn2;clear HP;go_wp2;go_roundw
    case rel=>exact⟨f,i+1,xs,rfl,by go_num,by omega,hlt,HP2,HO,HB⟩
    case measure=>simp[tz];omega
  ·have h1:¬(i:Int)<(l.length:Int):=by omega
   have hie:i=l.length:=by omega
   have hxl:xs.length<=100001:=by have h5:=HLN.o;rw[HP.o,sJ]at h5;omega
   have hbs:=HB.o.size;have hf0:(0:Int)<=(f:Int):=by omega
   have hfl:(f:Int)<=(l.length:Int):=by omega
   obtain⟨p,hp⟩:=aj ((l.take i).drop f);have HE:ae ((⟨l.toArray⟩:ByteArray).extract f l.length=⟨p.toArray⟩):=aa (by rw[zfb,hp,hie]);have HP2:=aa (show eU [] l=xs++[p] by rw[HP.o,<-hp,tn (by omega)];rfl);clear hp HP hie;go_wp2_with (at_builtin;refine tG _ rfl _ _ 66 rfl w.heap.size 9 i0 (.string ⟨#[]⟩) 1 16 Tryz.underlying66 hi hz0 hz1 hz2 rfl (by decide) _ xs.length (Dc.eT xs) rfl (HO.o.alloc _) ⟨wr.heap.size,0,none⟩ 1 1 [.string ((⟨l.toArray⟩:ByteArray).extract f l.length)] rfl rfl (Dc.zgJ wr (.string ((⟨l.toArray⟩:ByteArray).extract f l.length)) 9) (Dc.zgh _) (by unfold maxLen;omega) (by omega) (by simp;omega) ?_;intro v2 w2 o2 gr2 _;have HO2:ae (w2.ownsRow w.heap.size 9 1 v2 (xs++[p]).length (Dc.eT (xs++[p]))):=aa (by rw[ss,sJ,<-HE.o];exact o2);have HB2:=aa ((HB.o.alloc HB.o.size (.cells #[.string ((⟨l.toArray⟩:ByteArray).extract f l.length)] 9)).grown gr2 (by simp;omega) (fun j hj=>(HO.o.lt j hj).1));clear o2 gr2);go_ret;exact⟨_,rfl,by rw[HP2.o];exact HO2.o,HB2.o⟩
theorem zkL(l:List UInt8)(ls:List (List UInt8))(hs:eU [] l=ls)(hl:l.length<=100000)(w:sH):
  tw Tryz.prog 71 #[.string ⟨l.toArray⟩] w fun e w'=>∃vo vc,e=.returned (.slice vo ls.length vc)/\zpN w.heap.size w' vo ls/\sP w.heap.size w w':=by
 subst hs;refine(zng l w hl).mono ?_;rintro e w' ⟨v,rfl,hO,hB⟩;rcases hO.2 with ⟨e1,h0⟩|⟨q,cap,cur,e1,hb,hg,_,_,_,htk⟩
 ·exact⟨none,0,by rw[e1,h0],fun j s hj=>by have:=(sK.1 hj).1;omega,hB⟩
 ·refine⟨some ⟨q,0,none⟩,cap,by rw[e1],fun j s hj=>?_,hB⟩;have hjl:=(sK.1 hj).1;refine⟨q,0,cur,_,rfl,hb,hg,?_⟩;have h1:(Dc.eT (eU [] l))[j]?=some (.string ⟨s.toArray⟩):=by unfold Dc.eT;rw[tD,hj];rfl
  rw[<-htk,List.getElem?_take_of_lt (by omega)]at h1;rw[Nat.zero_add];simpa using h1
end Pt
section
open Ev Go.RowKit
namespace Pt
def zqi:List UInt8:=[67,114,32,126,32,76,102,10,91,78,101,119,108,105,110,101,32,67,114,32,76,102,93,32,47,10,47,32,91,78,101,119,108,105,110,101,32,67,114,32,76,102,93,10,90,119,106,32,126,32,80,105,99,116,10,83,112,97,99,101,32,126,32,83,112,97,99,101,10,126,32,91,69,120,116,101,110,100,32,70,111,114,109,97,116,32,90,119,106,93,10,91,76,101,116,116,101,114,32,72,101,98,114,101,119,93,32,91,69,120,116,101,110,100,32,70,111,114,109,97,116,32,90,119,106,93,42,32,126,32,91,76,101,116,116,101,114,32,72,101,98,114,101,119,93,10,91,76,101,116,116,101,114,32,72,101,98,114,101,119,93,32,91,69,120,116,101,110,100,32,70,111,114,109,97,116,32,90,119,106,93,42,32,126,32,91,77,105,100,76,101,116,116,101,114,32,77,105,100,78,117,109,76,101,116,32,81,117,111,116,101,93,32,91,69,120,116,101,110,100,32,70,111,114,109,97,116,32,90,119,106,93,42,32,91,76,101,116,116,101,114,32,72,101,98,114,101,119,93,10,91,76,101,116,116,101,114,32,72,101,98,114,101,119,93,32,91,69,120,116,101,110,100,32,70,111,114,109,97,116,32,90,119,106,93,42,32,91,77,105,100,76,101,116,116,101,114,32,77,105,100,78,117,109,76,101,116,32,81,117,111,116,101,93,32,91,69,120,116,101,110,100,32,70,111,114,109,97,116,32,90,119,106,93,42,32,126,32,91,76,101,116,116,101,114,32,72,101,98,114,101,119,93,10,72,101,98,114,101,119,32,91,69,120,116,101,110,100,32,70,111,114,109,97,116,32,90,119,106,93,42,32,126,32,81,117,111,116,101,10,72,101,98,114,101,119,32,91,69,120,116,101,110,100,32,70,111,114,109,97,116,32,90,119,106,93,42,32,126,32,68,111,117,98,108,101,32,91,69,120,116,101,110,100,32,70,111,114,109,97,116,32,90,119,106,93,42,32,72,101,98,114,101,119,10,72,101,98,114,101,119,32,91,69,120,116,101,110,100,32,70,111,114,109,97,116,32,90,119,106,93,42,32,68,111,117,98,108,101,32,91,69,120,116,101,110,100,32,70,111,114,109,97,116,32,90,119,106,93,42,32,126,32,72,101,98,114,101,119,10,68,105,103,105,116,32,91,69,120,116,101,110,100,32,70,111,114,109,97,116,32,90,119,106,93,42,32,126,32,68,105,103,105,116,10,91,76,101,116,116,101,114,32,72,101,98,114,101,119,93,32,91,69,120,116,101,110,100,32,70,111,114,109,97,116,32,90,119,106,93,42,32,126,32,68,105,103,105,116,10,68,105,103,105,116,32,91,69,120,116,101,110,100,32,70,111,114,109,97,116,32,90,119,106,93,42,32,126,32,91,76,101,116,116,101,114,32,72,101,98,114,101,119,93,10,68,105,103,105,116,32,91,69,120,116,101,110,100,32,70,111,114,109,97,116,32,90,119,106,93,42,32,91,77,105,100,78,117,109,32,77,105,100,78,117,109,76,101,116,32,81,117,111,116,101,93,32,91,69,120,116,101,110,100,32,70,111,114,109,97,116,32,90,119,106,93,42,32,126,32,68,105,103,105,116,10,68,105,103,105,116,32,91,69,120,116,101,110,100,32,70,111,114,109,97,116,32,90,119,106,93,42,32,126,32,91,77,105,100,78,117,109,32,77,105,100,78,117,109,76,101,116,32,81,117,111,116,101,93,32,91,69,120,116,101,110,100,32,70,111,114,109,97,116,32,90,119,106,93,42,32,68,105,103,105,116,10,75,97,116,97,107,97,110,97,32,91,69,120,116,101,110,100,32,70,111,114,109,97,116,32,90,119,106,93,42,32,126,32,75,97,116,97,107,97,110,97,10,91,76,101,116,116,101,114,32,72,101,98,114,101,119,32,68,105,103,105,116,32,75,97,116,97,107,97,110,97,32,76,111,119,93,32,91,69,120,116,101,110,100,32,70,111,114,109,97,116,32,90,119,106,93,42,32,126,32,76,111,119,10,76,111,119,32,91,69,120,116,101,110,100,32,70,111,114,109,97,116,32,90,119,106,93,42,32,126,32,91,76,101,116,116,101,114,32,72,101,98,114,101,119,32,68,105,103,105,116,32,75,97,116,97,107,97,110,97,93,10,94,32,91,69,120,116,101,110,100,32,70,111,114,109,97,116,32,90,119,106,93,42,32,40,82,101,103,105,111,110,32,91,69,120,116,101,110,100,32,70,111,114,109,97,116,32,90,119,106,93,42,32,82,101,103,105,111,110,32,91,69,120,116,101,110,100,32,70,111,114,109,97,116,32,90,119,106,93,42,41,42,32,82,101,103,105,111,110,32,91,69,120,116,101,110,100,32,70,111,114,109,97,116,32,90,119,106,93,42,32,126,32,82,101,103,105,111,110,10,91,94,82,101,103,105,111,110,32,69,120,116,101,110,100,32,70,111,114,109,97,116,32,90,119,106,93,32,91,69,120,116,101,110,100,32,70,111,114,109,97,116,32,90,119,106,93,42,32,40,82,101,103,105,111,110,32,91,69,120,116,101,110,100,32,70,111,114,109,97,116,32,90,119,106,93,42,32,82,101,103,105,111,110,32,91,69,120,116,101,110,100,32,70,111,114,109,97,116,32,90,119,106,93,42,41,42,32,82,101,103,105,111,110,32,91,69,120,116,101,110,100,32,70,111,114,109,97,116,32,90,119,106,93,42,32,126,32,82,101,103,105,111,110,10,114,101,115,116,32,47,10]
def jK:List UInt8:=[91,94,82,101,103,105,111,110,32,69,120,116,101,110,100,32,70,111,114,109,97,116,32,90,119,106,93,32,91,69,120,116,101,110,100,32,70,111,114,109,97,116,32,90,119,106,93,42,32,40,82,101,103,105,111,110,32,91,69,120,116,101,110,100,32,70,111,114,109,97,116,32,90,119,106,93,42,32,82,101,103,105,111,110,32,91,69,120,116,101,110,100,32,70,111,114,109,97,116,32,90,119,106,93,42,41,42,32,82,101,103,105,111,110,32,91,69,120,116,101,110,100,32,70,111,114,109,97,116,32,90,119,106,93,42,32,126,32,82,101,103,105,111,110]
def jL:List UInt8:=[94,32,91,69,120,116,101,110,100,32,70,111,114,109,97,116,32,90,119,106,93,42,32,40,82,101,103,105,111,110,32,91,69,120,116,101,110,100,32,70,111,114,109,97,116,32,90,119,106,93,42,32,82,101,103,105,111,110,32,91,69,120,116,101,110,100,32,70,111,114,109,97,116,32,90,119,106,93,42,41,42,32,82,101,103,105,111,110,32,91,69,120,116,101,110,100,32,70,111,114,109,97,116,32,90,119,106,93,42,32,126,32,82,101,103,105,111,110]
def rk:List UInt8:=[91,76,101,116,116,101,114,32,72,101,98,114,101,119,93,32,91,69,120,116,101,110,100,32,70,111,114,109,97,116,32,90,119,106,93,42,32,126,32,91,77,105,100,76,101,116,116,101,114,32,77,105,100,78,117,109,76,101,116,32,81,117,111,116,101,93,32,91,69,120,116,101,110,100,32,70,111,114,109,97,116,32,90,119,106,93,42,32,91,76,101,116,116,101,114,32,72,101,98,114,101,119,93]
def rj:List UInt8:=[91,76,101,116,116,101,114,32,72,101,98,114,101,119,93,32,91,69,120,116,101,110,100,32,70,111,114,109,97,116,32,90,119,106,93,42,32,91,77,105,100,76,101,116,116,101,114,32,77,105,100,78,117,109,76,101,116,32,81,117,111,116,101,93,32,91,69,120,116,101,110,100,32,70,111,114,109,97,116,32,90,119,106,93,42,32,126,32,91,76,101,116,116,101,114,32,72,101,98,114,101,119,93]
def jQ:List UInt8:=[68,105,103,105,116,32,91,69,120,116,101,110,100,32,70,111,114,109,97,116,32,90,119,106,93,42,32,91,77,105,100,78,117,109,32,77,105,100,78,117,109,76,101,116,32,81,117,111,116,101,93,32,91,69,120,116,101,110,100,32,70,111,114,109,97,116,32,90,119,106,93,42,32,126,32,68,105,103,105,116]
def jP:List UInt8:=[68,105,103,105,116,32,91,69,120,116,101,110,100,32,70,111,114,109,97,116,32,90,119,106,93,42,32,126,32,91,77,105,100,78,117,109,32,77,105,100,78,117,109,76,101,116,32,81,117,111,116,101,93,32,91,69,120,116,101,110,100,32,70,111,114,109,97,116,32,90,119,106,93,42,32,68,105,103,105,116]
def jV:List UInt8:=[72,101,98,114,101,119,32,91,69,120,116,101,110,100,32,70,111,114,109,97,116,32,90,119,106,93,42,32,126,32,68,111,117,98,108,101,32,91,69,120,116,101,110,100,32,70,111,114,109,97,116,32,90,119,106,93,42,32,72,101,98,114,101,119]
def jU:List UInt8:=[72,101,98,114,101,119,32,91,69,120,116,101,110,100,32,70,111,114,109,97,116,32,90,119,106,93,42,32,68,111,117,98,108,101,32,91,69,120,116,101,110,100,32,70,111,114,109,97,116,32,90,119,106,93,42,32,126,32,72,101,98,114,101,119]
def jN:List UInt8:=[91,76,101,116,116,101,114,32,72,101,98,114,101,119,32,68,105,103,105,116,32,75,97,116,97,107,97,110,97,32,76,111,119,93,32,91,69,120,116,101,110,100,32,70,111,114,109,97,116,32,90,119,106,93,42,32,126,32,76,111,119]
def jM:List UInt8:=[76,111,119,32,91,69,120,116,101,110,100,32,70,111,114,109,97,116,32,90,119,106,93,42,32,126,32,91,76,101,116,116,101,114,32,72,101,98,114,101,119,32,68,105,103,105,116,32,75,97,116,97,107,97,110,97,93]
def rm:List UInt8:=[91,76,101,116,116,101,114,32,72,101,98,114,101,119,93,32,91,69,120,116,101,110,100,32,70,111,114,109,97,116,32,90,119,106,93,42,32,126,32,91,76,101,116,116,101,114,32,72,101,98,114,101,119,93]
def jS:List UInt8:=[91,76,101,116,116,101,114,32,72,101,98,114,101,119,93,32,91,69,120,116,101,110,100,32,70,111,114,109,97,116,32,90,119,106,93,42,32,126,32,68,105,103,105,116]
def jR:List UInt8:=[68,105,103,105,116,32,91,69,120,116,101,110,100,32,70,111,114,109,97,116,32,90,119,106,93,42,32,126,32,91,76,101,116,116,101,114,32,72,101,98,114,101,119,93]
def jO:List UInt8:=[75,97,116,97,107,97,110,97,32,91,69,120,116,101,110,100,32,70,111,114,109,97,116,32,90,119,106,93,42,32,126,32,75,97,116,97,107,97,110,97]
def ri:List UInt8:=[72,101,98,114,101,119,32,91,69,120,116,101,110,100,32,70,111,114,109,97,116,32,90,119,106,93,42,32,126,32,81,117,111,116,101]
def jT:List UInt8:=[68,105,103,105,116,32,91,69,120,116,101,110,100,32,70,111,114,109,97,116,32,90,119,106,93,42,32,126,32,68,105,103,105,116]
def rp:List UInt8:=[126,32,91,69,120,116,101,110,100,32,70,111,114,109,97,116,32,90,119,106,93]
def ry:List UInt8:=[91,78,101,119,108,105,110,101,32,67,114,32,76,102,93,32,47]
def rx:List UInt8:=[47,32,91,78,101,119,108,105,110,101,32,67,114,32,76,102,93]
def rq:List UInt8:=[83,112,97,99,101,32,126,32,83,112,97,99,101]
def rv:List UInt8:=[90,119,106,32,126,32,80,105,99,116]
def yb0:List UInt8:=[67,114,32,126,32,76,102]
def yb1:List UInt8:=[114,101,115,116,32,47]
def zmx:List (List UInt8):=[
 yb0,
 ry,
 rx,
 rv,
 rq,
 rp,
 rm,
 rk,
 rj,
 ri,
 jV,
 jU,
 jT,
 jS,
 jR,
 jQ,
 jP,
 jO,
 jN,
 jM,
 jL,
 jK,
 yb1,
 []]
theorem zmw:eU [] zqi=zmx:=by kernel_rfl
theorem ah{f:FuncId}{a v:sV}(ha:bF [a]=true)(h:zqB Tryz.prog nG 1000000 60 [] f [a] v=true):aN f a v:=fun W=>nO mixed dy rfl ha h W (fun x hx=>by cases hx)
theorem zwo:aN 103 (.string ⟨yb0.toArray⟩) (.string ⟨yb0.toArray⟩):=ah rfl (by kernel_rfl)
theorem zwn:aN 104 (.string ⟨yb0.toArray⟩) (.int .i64 3):=ah rfl (by kernel_rfl)
theorem zwm:aN 105 (.string ⟨#[67,114,32]⟩) (.string ⟨#[67,114]⟩):=ah rfl (by kernel_rfl)
theorem zwl:aN 105 (.string ⟨#[32,76,102]⟩) (.string ⟨#[76,102]⟩):=ah rfl (by kernel_rfl)
theorem zwk:aN 103 (.string ⟨ry.toArray⟩) (.string ⟨ry.toArray⟩):=ah rfl (by kernel_rfl)
theorem zwj:aN 104 (.string ⟨ry.toArray⟩) (.int .i64 16):=ah rfl (by kernel_rfl)
def yb2:List UInt8:=[91,78,101,119,108,105,110,101,32,67,114,32,76,102,93]
theorem zwi:aN 105 (.string ⟨(yb2++[32]).toArray⟩) (.string ⟨yb2.toArray⟩):=ah rfl (by kernel_rfl)
theorem zwh:aN 105 (.string ⟨#[]⟩) (.string ⟨#[]⟩):=ah rfl (by kernel_rfl)
theorem zwg:aN 103 (.string ⟨rx.toArray⟩) (.string ⟨rx.toArray⟩):=ah rfl (by kernel_rfl)
theorem zwf:aN 104 (.string ⟨rx.toArray⟩) (.int .i64 0):=ah rfl (by kernel_rfl)
theorem zwe:aN 105 (.string ⟨#[]⟩) (.string ⟨#[]⟩):=ah rfl (by kernel_rfl)
theorem zwd:aN 105 (.string ⟨(32::yb2).toArray⟩) (.string ⟨yb2.toArray⟩):=ah rfl (by kernel_rfl)
theorem zwc:aN 103 (.string ⟨rv.toArray⟩) (.string ⟨rv.toArray⟩):=ah rfl (by kernel_rfl)
theorem zwb:aN 104 (.string ⟨rv.toArray⟩) (.int .i64 4):=ah rfl (by kernel_rfl)
theorem zwa:aN 105 (.string ⟨#[90,119,106,32]⟩) (.string ⟨#[90,119,106]⟩):=ah rfl (by kernel_rfl)
theorem zvZ:aN 105 (.string ⟨#[32,80,105,99,116]⟩) (.string ⟨#[80,105,99,116]⟩):=ah rfl (by kernel_rfl)
theorem zvY:aN 103 (.string ⟨rq.toArray⟩) (.string ⟨rq.toArray⟩):=ah rfl (by kernel_rfl)
theorem zvX:aN 104 (.string ⟨rq.toArray⟩) (.int .i64 6):=ah rfl (by kernel_rfl)
def yb3:List UInt8:=[83,112,97,99,101,32]
theorem zvW:aN 105 (.string ⟨yb3.toArray⟩) (.string ⟨#[83,112,97,99,101]⟩):=ah rfl (by kernel_rfl)
def yb4:List UInt8:=[32,83,112,97,99,101]
theorem zvV:aN 105 (.string ⟨yb4.toArray⟩) (.string ⟨#[83,112,97,99,101]⟩):=ah rfl (by kernel_rfl)
theorem zvU:aN 103 (.string ⟨rp.toArray⟩) (.string ⟨rp.toArray⟩):=ah rfl (by kernel_rfl)
theorem zvT:aN 104 (.string ⟨rp.toArray⟩) (.int .i64 0):=ah rfl (by kernel_rfl)
theorem zvS:aN 105 (.string ⟨#[]⟩) (.string ⟨#[]⟩):=ah rfl (by kernel_rfl)
def yb5:List UInt8:=[91,69,120,116,101,110,100,32,70,111,114,109,97,116,32,90,119,106,93]
theorem zvR:aN 105 (.string ⟨(32::yb5).toArray⟩) (.string ⟨yb5.toArray⟩):=ah rfl (by kernel_rfl)
theorem zvQ:aN 103 (.string ⟨rm.toArray⟩) (.string ⟨rm.toArray⟩):=ah rfl (by kernel_rfl)
theorem zvP:aN 104 (.string ⟨rm.toArray⟩) (.int .i64 37):=ah rfl (by kernel_rfl)
def yb6:List UInt8:=[91,76,101,116,116,101,114,32,72,101,98,114,101,119,93,32,91,69,120,116,101,110,100,32,70,111,114,109,97,116,32,90,119,106,93,42]
theorem zvO:aN 105 (.string ⟨(yb6++[32]).toArray⟩) (.string ⟨yb6.toArray⟩):=ah rfl (by kernel_rfl)
def yb7:List UInt8:=[91,76,101,116,116,101,114,32,72,101,98,114,101,119,93]
theorem zvN:aN 105 (.string ⟨(32::yb7).toArray⟩) (.string ⟨yb7.toArray⟩):=ah rfl (by kernel_rfl)
theorem zvM:aN 103 (.string ⟨rk.toArray⟩) (.string ⟨rk.toArray⟩):=ah rfl (by kernel_rfl)
theorem zvL:aN 104 (.string ⟨rk.toArray⟩) (.int .i64 37):=ah rfl (by kernel_rfl)
theorem zvK:aN 105 (.string ⟨(yb6++[32]).toArray⟩) (.string ⟨yb6.toArray⟩):=ah rfl (by kernel_rfl)
def yb8:List UInt8:=[91,77,105,100,76,101,116,116,101,114,32,77,105,100,78,117,109,76,101,116,32,81,117,111,116,101,93,32,91,69,120,116,101,110,100,32,70,111,114,109,97,116,32,90,119,106,93,42,32,91,76,101,116,116,101,114,32,72,101,98,114,101,119,93]
theorem zvJ:aN 105 (.string ⟨(32::yb8).toArray⟩) (.string ⟨yb8.toArray⟩):=ah rfl (by kernel_rfl)
theorem zvI:aN 103 (.string ⟨rj.toArray⟩) (.string ⟨rj.toArray⟩):=ah rfl (by kernel_rfl)
theorem zvH:aN 104 (.string ⟨rj.toArray⟩) (.int .i64 86):=ah rfl (by kernel_rfl)
def yb9:List UInt8:=[91,76,101,116,116,101,114,32,72,101,98,114,101,119,93,32,91,69,120,116,101,110,100,32,70,111,114,109,97,116,32,90,119,106,93,42,32,91,77,105,100,76,101,116,116,101,114,32,77,105,100,78,117,109,76,101,116,32,81,117,111,116,101,93,32,91,69,120,116,101,110,100,32,70,111,114,109,97,116,32,90,119,106,93,42]
theorem zvG:aN 105 (.string ⟨(yb9++[32]).toArray⟩) (.string ⟨yb9.toArray⟩):=ah rfl (by kernel_rfl)
theorem zvF:aN 105 (.string ⟨(32::yb7).toArray⟩) (.string ⟨yb7.toArray⟩):=ah rfl (by kernel_rfl)
theorem zvE:aN 103 (.string ⟨ri.toArray⟩) (.string ⟨ri.toArray⟩):=ah rfl (by kernel_rfl)
theorem zvD:aN 104 (.string ⟨ri.toArray⟩) (.int .i64 28):=ah rfl (by kernel_rfl)
def zcR:List UInt8:=[72,101,98,114,101,119,32,91,69,120,116,101,110,100,32,70,111,114,109,97,116,32,90,119,106,93,42]
theorem zvC:aN 105 (.string ⟨(zcR++[32]).toArray⟩) (.string ⟨zcR.toArray⟩):=ah rfl (by kernel_rfl)
def zvx:List UInt8:=[32,81,117,111,116,101]
theorem zvB:aN 105 (.string ⟨zvx.toArray⟩) (.string ⟨#[81,117,111,116,101]⟩):=ah rfl (by kernel_rfl)
theorem zuc:aN 103 (.string ⟨jV.toArray⟩) (.string ⟨jV.toArray⟩):=ah rfl (by kernel_rfl)
theorem zub:aN 104 (.string ⟨jV.toArray⟩) (.int .i64 28):=ah rfl (by kernel_rfl)
theorem zua:aN 105 (.string ⟨(zcR++[32]).toArray⟩) (.string ⟨zcR.toArray⟩):=ah rfl (by kernel_rfl)
def zqa:List UInt8:=[68,111,117,98,108,101,32,91,69,120,116,101,110,100,32,70,111,114,109,97,116,32,90,119,106,93,42,32,72,101,98,114,101,119]
theorem ztZ:aN 105 (.string ⟨(32::zqa).toArray⟩) (.string ⟨zqa.toArray⟩):=ah rfl (by kernel_rfl)
theorem ztY:aN 103 (.string ⟨jU.toArray⟩) (.string ⟨jU.toArray⟩):=ah rfl (by kernel_rfl)
theorem ztX:aN 104 (.string ⟨jU.toArray⟩) (.int .i64 56):=ah rfl (by kernel_rfl)
def zpZ:List UInt8:=[72,101,98,114,101,119,32,91,69,120,116,101,110,100,32,70,111,114,109,97,116,32,90,119,106,93,42,32,68,111,117,98,108,101,32,91,69,120,116,101,110,100,32,70,111,114,109,97,116,32,90,119,106,93,42]
theorem ztW:aN 105 (.string ⟨(zpZ++[32]).toArray⟩) (.string ⟨zpZ.toArray⟩):=ah rfl (by kernel_rfl)
def zpY:List UInt8:=[72,101,98,114,101,119]
theorem ztV:aN 105 (.string ⟨(32::zpY).toArray⟩) (.string ⟨zpY.toArray⟩):=ah rfl (by kernel_rfl)
theorem ztU:aN 103 (.string ⟨jT.toArray⟩) (.string ⟨jT.toArray⟩):=ah rfl (by kernel_rfl)
theorem ztT:aN 104 (.string ⟨jT.toArray⟩) (.int .i64 27):=ah rfl (by kernel_rfl)
def nU:List UInt8:=[68,105,103,105,116,32,91,69,120,116,101,110,100,32,70,111,114,109,97,116,32,90,119,106,93,42]
theorem ztS:aN 105 (.string ⟨(nU++[32]).toArray⟩) (.string ⟨nU.toArray⟩):=ah rfl (by kernel_rfl)
def zjL:List UInt8:=[32,68,105,103,105,116]
theorem ztR:aN 105 (.string ⟨zjL.toArray⟩) (.string ⟨#[68,105,103,105,116]⟩):=ah rfl (by kernel_rfl)
theorem ztQ:aN 103 (.string ⟨jS.toArray⟩) (.string ⟨jS.toArray⟩):=ah rfl (by kernel_rfl)
theorem ztP:aN 104 (.string ⟨jS.toArray⟩) (.int .i64 37):=ah rfl (by kernel_rfl)
theorem ztO:aN 105 (.string ⟨(yb6++[32]).toArray⟩) (.string ⟨yb6.toArray⟩):=ah rfl (by kernel_rfl)
theorem ztN:aN 105 (.string ⟨zjL.toArray⟩) (.string ⟨#[68,105,103,105,116]⟩):=ah rfl (by kernel_rfl)
theorem ztM:aN 103 (.string ⟨jR.toArray⟩) (.string ⟨jR.toArray⟩):=ah rfl (by kernel_rfl)
theorem ztL:aN 104 (.string ⟨jR.toArray⟩) (.int .i64 27):=ah rfl (by kernel_rfl)
theorem ztK:aN 105 (.string ⟨(nU++[32]).toArray⟩) (.string ⟨nU.toArray⟩):=ah rfl (by kernel_rfl)
theorem ztJ:aN 105 (.string ⟨(32::yb7).toArray⟩) (.string ⟨yb7.toArray⟩):=ah rfl (by kernel_rfl)
theorem ztI:aN 103 (.string ⟨jQ.toArray⟩) (.string ⟨jQ.toArray⟩):=ah rfl (by kernel_rfl)
theorem ztH:aN 104 (.string ⟨jQ.toArray⟩) (.int .i64 73):=ah rfl (by kernel_rfl)
def zpX:List UInt8:=[68,105,103,105,116,32,91,69,120,116,101,110,100,32,70,111,114,109,97,116,32,90,119,106,93,42,32,91,77,105,100,78,117,109,32,77,105,100,78,117,109,76,101,116,32,81,117,111,116,101,93,32,91,69,120,116,101,110,100,32,70,111,114,109,97,116,32,90,119,106,93,42]
theorem ztG:aN 105 (.string ⟨(zpX++[32]).toArray⟩) (.string ⟨zpX.toArray⟩):=ah rfl (by kernel_rfl)
theorem ztF:aN 105 (.string ⟨zjL.toArray⟩) (.string ⟨#[68,105,103,105,116]⟩):=ah rfl (by kernel_rfl)
theorem ztE:aN 103 (.string ⟨jP.toArray⟩) (.string ⟨jP.toArray⟩):=ah rfl (by kernel_rfl)
theorem ztD:aN 104 (.string ⟨jP.toArray⟩) (.int .i64 27):=ah rfl (by kernel_rfl)
theorem ztC:aN 105 (.string ⟨(nU++[32]).toArray⟩) (.string ⟨nU.toArray⟩):=ah rfl (by kernel_rfl)
def zpW:List UInt8:=[91,77,105,100,78,117,109,32,77,105,100,78,117,109,76,101,116,32,81,117,111,116,101,93,32,91,69,120,116,101,110,100,32,70,111,114,109,97,116,32,90,119,106,93,42,32,68,105,103,105,116]
theorem ztB:aN 105 (.string ⟨(32::zpW).toArray⟩) (.string ⟨zpW.toArray⟩):=ah rfl (by kernel_rfl)
theorem ztA:aN 103 (.string ⟨jO.toArray⟩) (.string ⟨jO.toArray⟩):=ah rfl (by kernel_rfl)
theorem ztz:aN 104 (.string ⟨jO.toArray⟩) (.int .i64 30):=ah rfl (by kernel_rfl)
def zpV:List UInt8:=[75,97,116,97,107,97,110,97,32,91,69,120,116,101,110,100,32,70,111,114,109,97,116,32,90,119,106,93,42]
theorem zty:aN 105 (.string ⟨(zpV++[32]).toArray⟩) (.string ⟨zpV.toArray⟩):=ah rfl (by kernel_rfl)
def zpU:List UInt8:=[75,97,116,97,107,97,110,97]
theorem ztx:aN 105 (.string ⟨(32::zpU).toArray⟩) (.string ⟨zpU.toArray⟩):=ah rfl (by kernel_rfl)
theorem ztw:aN 103 (.string ⟨jN.toArray⟩) (.string ⟨jN.toArray⟩):=ah rfl (by kernel_rfl)
theorem ztv:aN 104 (.string ⟨jN.toArray⟩) (.int .i64 56):=ah rfl (by kernel_rfl)
def zpT:List UInt8:=[91,76,101,116,116,101,114,32,72,101,98,114,101,119,32,68,105,103,105,116,32,75,97,116,97,107,97,110,97,32,76,111,119,93,32,91,69,120,116,101,110,100,32,70,111,114,109,97,116,32,90,119,106,93,42]
theorem ztu:aN 105 (.string ⟨(zpT++[32]).toArray⟩) (.string ⟨zpT.toArray⟩):=ah rfl (by kernel_rfl)
theorem ztt:aN 105 (.string ⟨#[32,76,111,119]⟩) (.string ⟨#[76,111,119]⟩):=ah rfl (by kernel_rfl)
theorem zts:aN 103 (.string ⟨jM.toArray⟩) (.string ⟨jM.toArray⟩):=ah rfl (by kernel_rfl)
theorem ztr:aN 104 (.string ⟨jM.toArray⟩) (.int .i64 25):=ah rfl (by kernel_rfl)
def zpS:List UInt8:=[76,111,119,32,91,69,120,116,101,110,100,32,70,111,114,109,97,116,32,90,119,106,93,42]
theorem ztq:aN 105 (.string ⟨(zpS++[32]).toArray⟩) (.string ⟨zpS.toArray⟩):=ah rfl (by kernel_rfl)
def zpR:List UInt8:=[91,76,101,116,116,101,114,32,72,101,98,114,101,119,32,68,105,103,105,116,32,75,97,116,97,107,97,110,97,93]
theorem ztp:aN 105 (.string ⟨(32::zpR).toArray⟩) (.string ⟨zpR.toArray⟩):=ah rfl (by kernel_rfl)
theorem zto:aN 103 (.string ⟨jL.toArray⟩) (.string ⟨jL.toArray⟩):=ah rfl (by kernel_rfl)
theorem ztn:aN 104 (.string ⟨jL.toArray⟩) (.int .i64 110):=ah rfl (by kernel_rfl)
def zpQ:List UInt8:=[94,32,91,69,120,116,101,110,100,32,70,111,114,109,97,116,32,90,119,106,93,42,32,40,82,101,103,105,111,110,32,91,69,120,116,101,110,100,32,70,111,114,109,97,116,32,90,119,106,93,42,32,82,101,103,105,111,110,32,91,69,120,116,101,110,100,32,70,111,114,109,97,116,32,90,119,106,93,42,41,42,32,82,101,103,105,111,110,32,91,69,120,116,101,110,100,32,70,111,114,109,97,116,32,90,119,106,93,42]
theorem ztm:aN 105 (.string ⟨(zpQ++[32]).toArray⟩) (.string ⟨zpQ.toArray⟩):=ah rfl (by kernel_rfl)
def zcQ:List UInt8:=[82,101,103,105,111,110]
theorem ztl:aN 105 (.string ⟨(32::zcQ).toArray⟩) (.string ⟨zcQ.toArray⟩):=ah rfl (by kernel_rfl)
theorem ztk:aN 103 (.string ⟨jK.toArray⟩) (.string ⟨jK.toArray⟩):=ah rfl (by kernel_rfl)
theorem ztj:aN 104 (.string ⟨jK.toArray⟩) (.int .i64 136):=ah rfl (by kernel_rfl)
def zpP:List UInt8:=[91,94,82,101,103,105,111,110,32,69,120,116,101,110,100,32,70,111,114,109,97,116,32,90,119,106,93,32,91,69,120,116,101,110,100,32,70,111,114,109,97,116,32,90,119,106,93,42,32,40,82,101,103,105,111,110,32,91,69,120,116,101,110,100,32,70,111,114,109,97,116,32,90,119,106,93,42,32,82,101,103,105,111,110,32,91,69,120,116,101,110,100,32,70,111,114,109,97,116,32,90,119,106,93,42,41,42,32,82,101,103,105,111,110,32,91,69,120,116,101,110,100,32,70,111,114,109,97,116,32,90,119,106,93,42]
theorem zti:aN 105 (.string ⟨(zpP++[32]).toArray⟩) (.string ⟨zpP.toArray⟩):=ah rfl (by kernel_rfl)
theorem zth:aN 105 (.string ⟨(32::zcQ).toArray⟩) (.string ⟨zcQ.toArray⟩):=ah rfl (by kernel_rfl)
theorem ztg:aN 103 (.string ⟨yb1.toArray⟩) (.string ⟨yb1.toArray⟩):=ah rfl (by kernel_rfl)
theorem ztf:aN 104 (.string ⟨yb1.toArray⟩) (.int .i64 5):=ah rfl (by kernel_rfl)
theorem zte:aN 105 (.string ⟨#[114,101,115,116,32]⟩) (.string ⟨#[114,101,115,116]⟩):=ah rfl (by kernel_rfl)
theorem ztd:aN 105 (.string ⟨#[]⟩) (.string ⟨#[]⟩):=ah rfl (by kernel_rfl)
theorem ztc:aN 103 (.string ⟨#[]⟩) (.string ⟨#[]⟩):=ah rfl (by kernel_rfl)
set_option maxRecDepth 100000 in
theorem zqh(g nc:Nat):∀(j:Nat)(s:List UInt8),zmx[j]?=some s->∀(B X:Nat)(vo:Option Addr)(n vc:Nat)(xs:List sV)(W:sH),dt B W X g nc av vo n vc (rh.take j) xs true (tV 22 j)->tw Tryz.prog 72 #[.pointer (some ⟨X,0,none⟩),.string ⟨s.toArray⟩] W (LnQ B W X g nc av (rh.take (j+1)) true (tV 22 (j+1))):=fun j s hj=>match j,hj with
 |0,hj=>by
  cases hj;intro B X vo n vc xs W h;have hn:n<=60:=by rw[h.hn];exact sE (sD _ _) (by decide)
  exact aL B X g nc av vo n vc _ xs true W yb0 yb0 [67,114] [76,102] 3 false zmv zmt h hn zwo zwn (by decide) (by decide) (by decide) (by decide) (show aN _ (.string ((⟨yb0.toArray⟩:ByteArray).extract 0 3)) _ from(show((⟨yb0.toArray⟩:ByteArray).extract 0 3)=⟨#[67,114,32]⟩ by rfl) ▸ zwm) (show aN _ (.string ((⟨yb0.toArray⟩:ByteArray).extract 4 7)) _ from(show((⟨yb0.toArray⟩:ByteArray).extract 4 7)=⟨#[32,76,102]⟩ by rfl) ▸ zwl) (by decide) (by decide) (by decide) (fun W hN=>zgb g nc W hN) (fun W hN=>zga g nc W hN)
 |1,hj=>by
  cases hj;intro B X vo n vc xs W h;have hn:n<=60:=by rw[h.hn];exact sE (sD _ _) (by decide)
  exact aL B X g nc av vo n vc _ xs true W ry ry yb2 [] 16 true zdo pk h hn zwk zwj (by decide) (by decide) (by decide) (by decide) (show aN _ (.string ((⟨ry.toArray⟩:ByteArray).extract 0 16)) _ from(show((⟨ry.toArray⟩:ByteArray).extract 0 16)=⟨(yb2++[32]).toArray⟩ by rfl) ▸ zwi) (show aN _ (.string ((⟨ry.toArray⟩:ByteArray).extract 17 17)) _ from(show((⟨ry.toArray⟩:ByteArray).extract 17 17)=⟨#[]⟩ by rfl) ▸ zwh) (by decide) (by decide) (by decide) (fun W hN=>pm g nc W hN) (fun W hN=>kp g nc W hN)
 |2,hj=>by
  cases hj;intro B X vo n vc xs W h;have hn:n<=60:=by rw[h.hn];exact sE (sD _ _) (by decide)
  exact aL B X g nc av vo n vc _ xs true W rx rx [] yb2 0 true pk zdo h hn zwg zwf (by decide) (by decide) (by decide) (by decide) (show aN _ (.string ((⟨rx.toArray⟩:ByteArray).extract 0 0)) _ from(show((⟨rx.toArray⟩:ByteArray).extract 0 0)=⟨#[]⟩ by rfl) ▸ zwe) (show aN _ (.string ((⟨rx.toArray⟩:ByteArray).extract 1 17)) _ from(show((⟨rx.toArray⟩:ByteArray).extract 1 17)=⟨(32::yb2).toArray⟩ by rfl) ▸ zwd) (by decide) (by decide) (by decide) (fun W hN=>kp g nc W hN) (fun W hN=>pm g nc W hN)
 |3,hj=>by
  cases hj;intro B X vo n vc xs W h;have hn:n<=60:=by rw[h.hn];exact sE (sD _ _) (by decide)
  exact aL B X g nc av vo n vc _ xs true W rv rv [90,119,106] [80,105,99,116] 4 false zlV zlT h hn zwc zwb (by decide) (by decide) (by decide) (by decide) (show aN _ (.string ((⟨rv.toArray⟩:ByteArray).extract 0 4)) _ from(show((⟨rv.toArray⟩:ByteArray).extract 0 4)=⟨#[90,119,106,32]⟩ by rfl) ▸ zwa) (show aN _ (.string ((⟨rv.toArray⟩:ByteArray).extract 5 10)) _ from(show((⟨rv.toArray⟩:ByteArray).extract 5 10)=⟨#[32,80,105,99,116]⟩ by rfl) ▸ zvZ) (by decide) (by decide) (by decide) (fun W hN=>zfZ g nc W hN) (fun W hN=>zfY g nc W hN)
 |4,hj=>by
  cases hj;intro B X vo n vc xs W h;have hn:n<=60:=by rw[h.hn];exact sE (sD _ _) (by decide)
  exact aL B X g nc av vo n vc _ xs true W rq rq [83,112,97,99,101] [83,112,97,99,101] 6 false zfX zfX h hn zvY zvX (by decide) (by decide) (by decide) (by decide) (show aN _ (.string ((⟨rq.toArray⟩:ByteArray).extract 0 6)) _ from(show((⟨rq.toArray⟩:ByteArray).extract 0 6)=⟨yb3.toArray⟩ by rfl) ▸ zvW) (show aN _ (.string ((⟨rq.toArray⟩:ByteArray).extract 7 13)) _ from(show((⟨rq.toArray⟩:ByteArray).extract 7 13)=⟨yb4.toArray⟩ by rfl) ▸ zvV) (by decide) (by decide) (by decide) (fun W hN=>pj g nc W hN) (fun W hN=>pj g nc W hN)
 |5,hj=>by
  cases hj;intro B X vo n vc xs W h;have hn:n<=60:=by rw[h.hn];exact sE (sD _ _) (by decide)
  exact aL B X g nc av vo n vc _ xs true W rp rp [] yb5 0 false pk zlQ h hn zvU zvT (by decide) (by decide) (by decide) (by decide) (show aN _ (.string ((⟨rp.toArray⟩:ByteArray).extract 0 0)) _ from(show((⟨rp.toArray⟩:ByteArray).extract 0 0)=⟨#[]⟩ by rfl) ▸ zvS) (show aN _ (.string ((⟨rp.toArray⟩:ByteArray).extract 1 21)) _ from(show((⟨rp.toArray⟩:ByteArray).extract 1 21)=⟨(32::yb5).toArray⟩ by rfl) ▸ zvR) (by decide) (by decide) (by decide) (fun W hN=>kp g nc W hN) (fun W hN=>zfW g nc W hN)
 |6,hj=>by
  cases hj;intro B X vo n vc xs W h;have hn:n<=60:=by rw[h.hn];exact sE (sD _ _) (by decide)
  exact aL B X g nc av vo n vc _ xs true W rm rm yb6 yb7 37 false kR kQ h hn zvQ zvP (by decide) (by decide) (by decide) (by decide) (show aN _ (.string ((⟨rm.toArray⟩:ByteArray).extract 0 37)) _ from(show((⟨rm.toArray⟩:ByteArray).extract 0 37)=⟨(yb6++[32]).toArray⟩ by rfl) ▸ zvO) (show aN _ (.string ((⟨rm.toArray⟩:ByteArray).extract 38 54)) _ from(show((⟨rm.toArray⟩:ByteArray).extract 38 54)=⟨(32::yb7).toArray⟩ by rfl) ▸ zvN) (by decide) (by decide) (by decide) (fun W hN=>km g nc W hN) (fun W hN=>kk g nc W hN)
 |7,hj=>by
  cases hj;intro B X vo n vc xs W h;have hn:n<=60:=by rw[h.hn];exact sE (sD _ _) (by decide)
  exact aL B X g nc av vo n vc _ xs true W rk rk yb6 yb8 37 false kR sq h hn zvM zvL (by decide) (by decide) (by decide) (by decide) (show aN _ (.string ((⟨rk.toArray⟩:ByteArray).extract 0 37)) _ from(show((⟨rk.toArray⟩:ByteArray).extract 0 37)=⟨(yb6++[32]).toArray⟩ by rfl) ▸ zvK) (show aN _ (.string ((⟨rk.toArray⟩:ByteArray).extract 38 103)) _ from(show((⟨rk.toArray⟩:ByteArray).extract 38 103)=⟨(32::yb8).toArray⟩ by rfl) ▸ zvJ) (by decide) (by decide) (by decide) (fun W hN=>km g nc W hN) (fun W hN=>zdv g nc W hN)
 |8,hj=>by
  cases hj;intro B X vo n vc xs W h;have hn:n<=60:=by rw[h.hn];exact sE (sD _ _) (by decide)
  exact aL B X g nc av vo n vc _ xs true W rj rj yb9 yb7 86 false sk kQ h hn zvI zvH (by decide) (by decide) (by decide) (by decide) (show aN _ (.string ((⟨rj.toArray⟩:ByteArray).extract 0 86)) _ from(show((⟨rj.toArray⟩:ByteArray).extract 0 86)=⟨(yb9++[32]).toArray⟩ by rfl) ▸ zvG) (show aN _ (.string ((⟨rj.toArray⟩:ByteArray).extract 87 103)) _ from(show((⟨rj.toArray⟩:ByteArray).extract 87 103)=⟨(32::yb7).toArray⟩ by rfl) ▸ zvF) (by decide) (by decide) (by decide) (fun W hN=>zdu g nc W hN) (fun W hN=>kk g nc W hN)
 |9,hj=>by
  cases hj;intro B X vo n vc xs W h;have hn:n<=60:=by rw[h.hn];exact sE (sD _ _) (by decide)
  exact aL B X g nc av vo n vc _ xs true W ri ri zcR [81,117,111,116,101] 28 false jJ sj h hn zvE zvD (by decide) (by decide) (by decide) (by decide) (show aN _ (.string ((⟨ri.toArray⟩:ByteArray).extract 0 28)) _ from(show((⟨ri.toArray⟩:ByteArray).extract 0 28)=⟨(zcR++[32]).toArray⟩ by rfl) ▸ zvC) (show aN _ (.string ((⟨ri.toArray⟩:ByteArray).extract 29 35)) _ from(show((⟨ri.toArray⟩:ByteArray).extract 29 35)=⟨zvx.toArray⟩ by rfl) ▸ zvB) (by decide) (by decide) (by decide) (fun W hN=>nk g nc W hN) (fun W hN=>zdt g nc W hN)
 |10,hj=>by
  cases hj;intro B X vo n vc xs W h;have hn:n<=60:=by rw[h.hn];exact sE (sD _ _) (by decide)
  exact aL B X g nc av vo n vc _ xs true W jV jV zcR zqa 28 false jJ si h hn zuc zub (by decide) (by decide) (by decide) (by decide) (show aN _ (.string ((⟨jV.toArray⟩:ByteArray).extract 0 28)) _ from(show((⟨jV.toArray⟩:ByteArray).extract 0 28)=⟨(zcR++[32]).toArray⟩ by rfl) ▸ zua) (show aN _ (.string ((⟨jV.toArray⟩:ByteArray).extract 29 64)) _ from(show((⟨jV.toArray⟩:ByteArray).extract 29 64)=⟨(32::zqa).toArray⟩ by rfl) ▸ ztZ) (by decide) (by decide) (by decide) (fun W hN=>nk g nc W hN) (fun W hN=>zds g nc W hN)
 |11,hj=>by
  cases hj;intro B X vo n vc xs W h;have hn:n<=60:=by rw[h.hn];exact sE (sD _ _) (by decide)
  exact aL B X g nc av vo n vc _ xs true W jU jU zpZ zpY 56 false sh sg h hn ztY ztX (by decide) (by decide) (by decide) (by decide) (show aN _ (.string ((⟨jU.toArray⟩:ByteArray).extract 0 56)) _ from(show((⟨jU.toArray⟩:ByteArray).extract 0 56)=⟨(zpZ++[32]).toArray⟩ by rfl) ▸ ztW) (show aN _ (.string ((⟨jU.toArray⟩:ByteArray).extract 57 64)) _ from(show((⟨jU.toArray⟩:ByteArray).extract 57 64)=⟨(32::zpY).toArray⟩ by rfl) ▸ ztV) (by decide) (by decide) (by decide) (fun W hN=>zdr g nc W hN) (fun W hN=>zdq g nc W hN)
 |12,hj=>by
  cases hj;intro B X vo n vc xs W h;have hn:n<=60:=by rw[h.hn];exact sE (sD _ _) (by decide)
  exact aL B X g nc av vo n vc _ xs true W jT jT nU [68,105,103,105,116] 27 false eY eX h hn ztU ztT (by decide) (by decide) (by decide) (by decide) (show aN _ (.string ((⟨jT.toArray⟩:ByteArray).extract 0 27)) _ from(show((⟨jT.toArray⟩:ByteArray).extract 0 27)=⟨(nU++[32]).toArray⟩ by rfl) ▸ ztS) (show aN _ (.string ((⟨jT.toArray⟩:ByteArray).extract 28 34)) _ from(show((⟨jT.toArray⟩:ByteArray).extract 28 34)=⟨zjL.toArray⟩ by rfl) ▸ ztR) (by decide) (by decide) (by decide) (fun W hN=>iq g nc W hN) (fun W hN=>ip g nc W hN)
 |13,hj=>by
  cases hj;intro B X vo n vc xs W h;have hn:n<=60:=by rw[h.hn];exact sE (sD _ _) (by decide)
  exact aL B X g nc av vo n vc _ xs true W jS jS yb6 [68,105,103,105,116] 37 false kR eX h hn ztQ ztP (by decide) (by decide) (by decide) (by decide) (show aN _ (.string ((⟨jS.toArray⟩:ByteArray).extract 0 37)) _ from(show((⟨jS.toArray⟩:ByteArray).extract 0 37)=⟨(yb6++[32]).toArray⟩ by rfl) ▸ ztO) (show aN _ (.string ((⟨jS.toArray⟩:ByteArray).extract 38 44)) _ from(show((⟨jS.toArray⟩:ByteArray).extract 38 44)=⟨zjL.toArray⟩ by rfl) ▸ ztN) (by decide) (by decide) (by decide) (fun W hN=>km g nc W hN) (fun W hN=>ip g nc W hN)
 |14,hj=>by
  cases hj;intro B X vo n vc xs W h;have hn:n<=60:=by rw[h.hn];exact sE (sD _ _) (by decide)
  exact aL B X g nc av vo n vc _ xs true W jR jR nU yb7 27 false eY kQ h hn ztM ztL (by decide) (by decide) (by decide) (by decide) (show aN _ (.string ((⟨jR.toArray⟩:ByteArray).extract 0 27)) _ from(show((⟨jR.toArray⟩:ByteArray).extract 0 27)=⟨(nU++[32]).toArray⟩ by rfl) ▸ ztK) (show aN _ (.string ((⟨jR.toArray⟩:ByteArray).extract 28 44)) _ from(show((⟨jR.toArray⟩:ByteArray).extract 28 44)=⟨(32::yb7).toArray⟩ by rfl) ▸ ztJ) (by decide) (by decide) (by decide) (fun W hN=>iq g nc W hN) (fun W hN=>kk g nc W hN)
 |15,hj=>by
  cases hj;intro B X vo n vc xs W h;have hn:n<=60:=by rw[h.hn];exact sE (sD _ _) (by decide)
  exact aL B X g nc av vo n vc _ xs true W jQ jQ zpX [68,105,103,105,116] 73 false sf eX h hn ztI ztH (by decide) (by decide) (by decide) (by decide) (show aN _ (.string ((⟨jQ.toArray⟩:ByteArray).extract 0 73)) _ from(show((⟨jQ.toArray⟩:ByteArray).extract 0 73)=⟨(zpX++[32]).toArray⟩ by rfl) ▸ ztG) (show aN _ (.string ((⟨jQ.toArray⟩:ByteArray).extract 74 80)) _ from(show((⟨jQ.toArray⟩:ByteArray).extract 74 80)=⟨zjL.toArray⟩ by rfl) ▸ ztF) (by decide) (by decide) (by decide) (fun W hN=>zdp g nc W hN) (fun W hN=>ip g nc W hN)
 |16,hj=>by
  cases hj;intro B X vo n vc xs W h;have hn:n<=60:=by rw[h.hn];exact sE (sD _ _) (by decide)
  exact aL B X g nc av vo n vc _ xs true W jP jP nU zpW 27 false eY se h hn ztE ztD (by decide) (by decide) (by decide) (by decide) (show aN _ (.string ((⟨jP.toArray⟩:ByteArray).extract 0 27)) _ from(show((⟨jP.toArray⟩:ByteArray).extract 0 27)=⟨(nU++[32]).toArray⟩ by rfl) ▸ ztC) (show aN _ (.string ((⟨jP.toArray⟩:ByteArray).extract 28 80)) _ from(show((⟨jP.toArray⟩:ByteArray).extract 28 80)=⟨(32::zpW).toArray⟩ by rfl) ▸ ztB) (by decide) (by decide) (by decide) (fun W hN=>iq g nc W hN) (fun W hN=>zdn g nc W hN)
 |17,hj=>by
  cases hj;intro B X vo n vc xs W h;have hn:n<=60:=by rw[h.hn];exact sE (sD _ _) (by decide)
  exact aL B X g nc av vo n vc _ xs true W jO jO zpV zpU 30 false sb sa h hn ztA ztz (by decide) (by decide) (by decide) (by decide) (show aN _ (.string ((⟨jO.toArray⟩:ByteArray).extract 0 30)) _ from(show((⟨jO.toArray⟩:ByteArray).extract 0 30)=⟨(zpV++[32]).toArray⟩ by rfl) ▸ zty) (show aN _ (.string ((⟨jO.toArray⟩:ByteArray).extract 31 40)) _ from(show((⟨jO.toArray⟩:ByteArray).extract 31 40)=⟨(32::zpU).toArray⟩ by rfl) ▸ ztx) (by decide) (by decide) (by decide) (fun W hN=>zdm g nc W hN) (fun W hN=>zdl g nc W hN)
 |18,hj=>by
  cases hj;intro B X vo n vc xs W h;have hn:n<=60:=by rw[h.hn];exact sE (sD _ _) (by decide)
  exact aL B X g nc av vo n vc _ xs true W jN jN zpT [76,111,119] 56 false rY rX h hn ztw ztv (by decide) (by decide) (by decide) (by decide) (show aN _ (.string ((⟨jN.toArray⟩:ByteArray).extract 0 56)) _ from(show((⟨jN.toArray⟩:ByteArray).extract 0 56)=⟨(zpT++[32]).toArray⟩ by rfl) ▸ ztu) (show aN _ (.string ((⟨jN.toArray⟩:ByteArray).extract 57 61)) _ from(show((⟨jN.toArray⟩:ByteArray).extract 57 61)=⟨#[32,76,111,119]⟩ by rfl) ▸ ztt) (by decide) (by decide) (by decide) (fun W hN=>zdk g nc W hN) (fun W hN=>zdj g nc W hN)
 |19,hj=>by
  cases hj;intro B X vo n vc xs W h;have hn:n<=60:=by rw[h.hn];exact sE (sD _ _) (by decide)
  exact aL B X g nc av vo n vc _ xs true W jM jM zpS zpR 25 false rW rV h hn zts ztr (by decide) (by decide) (by decide) (by decide) (show aN _ (.string ((⟨jM.toArray⟩:ByteArray).extract 0 25)) _ from(show((⟨jM.toArray⟩:ByteArray).extract 0 25)=⟨(zpS++[32]).toArray⟩ by rfl) ▸ ztq) (show aN _ (.string ((⟨jM.toArray⟩:ByteArray).extract 26 57)) _ from(show((⟨jM.toArray⟩:ByteArray).extract 26 57)=⟨(32::zpR).toArray⟩ by rfl) ▸ ztp) (by decide) (by decide) (by decide) (fun W hN=>zdi g nc W hN) (fun W hN=>zdh g nc W hN)
 |20,hj=>by
  cases hj;intro B X vo n vc xs W h;have hn:n<=60:=by rw[h.hn];exact sE (sD _ _) (by decide)
  exact zgQ B X g nc av vo n vc _ xs true W jL jL zpQ zcQ 110 false pn jI h hn zto ztn (by decide) (by decide) (by decide) (by decide) (show aN _ (.string ((⟨jL.toArray⟩:ByteArray).extract 0 110)) _ from(show((⟨jL.toArray⟩:ByteArray).extract 0 110)=⟨(zpQ++[32]).toArray⟩ by rfl) ▸ ztm) (show aN _ (.string ((⟨jL.toArray⟩:ByteArray).extract 111 118)) _ from(show((⟨jL.toArray⟩:ByteArray).extract 111 118)=⟨(32::zcQ).toArray⟩ by rfl) ▸ ztl) (by decide) (by decide) (by decide) (by decide) (fun W hN=>zdg g nc W hN) (fun W hN=>nj g nc W hN)
 |21,hj=>by
  cases hj;intro B X vo n vc xs W h;have hn:n<=60:=by rw[h.hn];exact sE (sD _ _) (by decide)
  exact aL B X g nc av vo n vc _ xs true W jK jK zpP zcQ 136 false ni jI h hn ztk ztj (by decide) (by decide) (by decide) (by decide) (show aN _ (.string ((⟨jK.toArray⟩:ByteArray).extract 0 136)) _ from(show((⟨jK.toArray⟩:ByteArray).extract 0 136)=⟨(zpP++[32]).toArray⟩ by rfl) ▸ zti) (show aN _ (.string ((⟨jK.toArray⟩:ByteArray).extract 137 144)) _ from(show((⟨jK.toArray⟩:ByteArray).extract 137 144)=⟨(32::zcQ).toArray⟩ by rfl) ▸ zth) (by decide) (by decide) (by decide) (fun W hN=>zdf g nc W hN) (fun W hN=>nj g nc W hN)
 |22,hj=>by cases hj;intro B X vo n vc xs W h;exact zkM B X g nc av vo n vc _ xs true W yb1 yb1 5 true h ztg ztf (by decide) (by decide) (by decide) (show aN _ (.string ((⟨yb1.toArray⟩:ByteArray).extract 0 5)) _ from(show((⟨yb1.toArray⟩:ByteArray).extract 0 5)=⟨#[114,101,115,116,32]⟩ by rfl) ▸ zte) (show aN _ (.string ((⟨yb1.toArray⟩:ByteArray).extract 6 6)) _ from(show((⟨yb1.toArray⟩:ByteArray).extract 6 6)=⟨#[]⟩ by rfl) ▸ ztd)
 |23,hj=>by cases hj;exact fun B X vo n vc xs W h=>zgR B X g nc av vo n vc _ xs _ _ W [] h ztc
 |j+24,hj=>by have:=(sK.1 hj).1;exact absurd this (by simp[zmx])
theorem zlM(g nc:Nat)(w:sH)(hN:bu w g nc av):tw Tryz.prog 45 #[.string ⟨zqi.toArray⟩,.slice (some ⟨g,0,none⟩) 20 nc] w (PrQ g w rh true):=by have h:=zgB zqi (tu (by kernel_rfl)) av g nc zmx (fun j=>rh.take j) (fun j=>true) (fun j=>(tV 22 j)) w hN (by decide) rfl rfl rfl (fun W hW=>znH (iS dy (fun _ hc=>gh mixed dy hc) 60) ax zdw g nc W hW) (fun W=>zkL zqi zmx zmw (tu (by kernel_rfl)) W) (zqh g nc);exact h
end Pt
end
namespace Wd
open Go.RowKit
def Cb(W:sH)(B:Nat)(c:Array sV)(t:Nat):Prop:=W.heap[B]?=some (.cells c t (0,0))
theorem Cb.lt{W:sH}{B:Nat}{c:Array sV}{t:Nat}(h:Cb W B c t):B<W.heap.size:=(sG.1 h).1
theorem Cb.cell{W:sH}{B:Nat}{c:Array sV}{t:Nat}(h:Cb W B c t)(i:Nat):W.cell? ⟨B,i,none⟩=c[i]? :=by unfold Cb at h;simp[tT,h]
theorem Cb.frozen{W:sH}{B:Nat}{c:Array sV}{t:Nat}(h:Cb W B c t)(i:Nat):W.frozen? ⟨B,i,none⟩=false:=by unfold Cb at h;simp[sH.frozen?,h]
theorem Cb.new(w:sH)(c:Array sV)(t:Nat):Cb (w.alloc (.cells c t)) w.heap.size c t:=sH.alloc_heap_new w _
theorem Cb.below{W W':sH}{B:Nat}{c:Array sV}{t:Nat}(h:Cb W B c t)(hb:sP W.heap.size W W'):Cb W' B c t:=(hb.block _ h.lt).trans h
theorem Cb.set{W:sH}{B:Nat}{c:Array sV}{t:Nat}(h:Cb W B c t)(i:Nat)(v:sV):Cb (W.setCell ⟨B,i,none⟩ v) B (c.setIfInBounds i v) t:=by obtain⟨hlt,hk⟩:=sG.1 h;show(W.heap.modify B _)[B]?=_;rw[Array.getElem?_eq_getElem (by rw[Array.size_modify];exact hlt),Array.getElem_modify_self,hk];rfl
theorem zrJ{A B:sH}{b i:Nat}(h:B.heap[b]?=A.heap[b]?):B.cell? ⟨b,i,none⟩=A.cell? ⟨b,i,none⟩:=by simp[tT,h]
theorem zlk{N:Nat}{w w':sH}(h:sP N w w')(G i:Nat)(v:sV)(hG:N<=G):sP N w (w'.setCell ⟨G,i,none⟩ v):=
 ⟨h.os,h.tape,h.output,sE h.size (sZ w' _ v).size,fun k hk=>(sN _ _ _ k (show k≠G by omega)).trans (h.block k hk)⟩
structure KG(G:Nat)(A B:sH):Prop where
 size:A.heap.size<=B.heap.size
 blk:∀b,b<A.heap.size->b≠G->B.heap[b]?=A.heap[b]?
theorem KG.refl(G:Nat)(A:sH):KG G A A:=⟨sI _,fun _ _ _=>rfl⟩
theorem KG.set{G:Nat}{A B:sH}(h:KG G A B)(i:Nat)(v:sV):KG G A (B.setCell ⟨G,i,none⟩ v):=
 ⟨sE h.size (sZ B _ v).size,fun b h1 h2=>(sN _ _ _ b (show b≠G from h2)).trans (h.blk b h1 h2)⟩
def hs(L:List Nat):Array sV:=((List.range 20).map fun k=>sV.bool (dU L k)).toArray
theorem j9(L:List Nat)(k:Nat)(h:k<20):(hs L)[k]?=some (.bool (dU L k)):=by unfold hs;simp[h]
theorem zrg(L:List Nat)(c:Nat):(hs L).setIfInBounds c (.bool true)=hs (L++[c]):=by
 unfold hs;rw[List.setIfInBounds_toArray];congr 1;apply List.ext_getElem?;intro j;rw[List.getElem?_set];by_cases hj:j<20
 ·by_cases e:c=j
  ·subst e;rw[if_pos rfl];simp[hj,dU]
  ·rw[if_neg e];simp[hj,zoj];exact fun h=>absurd h.symm e
 ·by_cases e:c=j
  ·subst e;simp[hj]
  ·rw[if_neg e];simp[hj]
theorem zuY(Q r c:Nat)(w:sH)(h:Dc.Bk Dc.od Dc.wdW Q w)(hr:r<=1114111)(hc:bf (r:Int)=(c:Int)):
  tw Tryz.prog 91 #[.pointer (some ⟨Q,0,none⟩),.int .i32 (r:Int)] w fun e w'=>e=.returned (.int .i64 (c:Int))/\w'=w:=by
 obtain⟨B,nv,sv,vs,h1⟩:=h;have h5:=Dc.zed B Q Dc.od.length Dc.od Dc.wdW nv sv vs r w h1 Dc.zfU Dc.zfV (by decide) (by decide+kernel);have e1:Dc.cQ (r:Int)=(r:Int):=by unfold Dc.cQ;rw[if_neg (by omega)]
 have e2:=Dc.zfT (r:Int) (by omega) (by omega);rw[e1,<-e2,hc]at h5;exact h5
theorem fb(Q G k:Nat)(v:Bool)(w:sH)(h:Dc.Bk Dc.od Dc.wdW Q w)(hk:k<20)(hc:w.cell? ⟨G,k,none⟩=some (.bool v))(b:List UInt8)(hb:Dc.wdN (k:Int)=b):
  tw Tryz.prog 123 #[.pointer (some ⟨Q,0,none⟩),.slice (some ⟨G,0,none⟩) 20 20,.string ⟨b.toArray⟩] w fun e w'=>e=.returned (.bool v)/\w'=w:=by
 obtain⟨B,nv,sv,vs,h1⟩:=h;obtain⟨ao,ac,rfl,hr⟩:=Dc.ll h1.hN rfl;have HC:=aa (Dc.pS Q ao ac Dc.od.length Dc.od b w h1.c0 hr rfl (by decide));have e1:Dc.clx Dc.od b=(k:Int):=by
  rw[<-hb];have H:∀a:Fin 20,Dc.clx Dc.od (Dc.wdN ((a:Nat):Int))=((a:Nat):Int):=by decide+kernel
  exact H ⟨k,hk⟩
 rw[e1]at HC;clear e1 hb h1 hr;obtain⟨y,hy⟩:=aj (Dc.cly Dc.od b);rw[<-hy]at HC;clear hy;have k0:(0:Int)<=(k:Int):=by omega
 have k1:(k:Int)<20:=by omega
 go_enter Tryz.func123,Tryz.ntmps123;go_wp2_with fail;refine HC.o.mono ?_;rintro e w1 ⟨rfl,hw1⟩;obtain rfl:=hw1.symm;clear hw1;go_wp2;go_ret;exact⟨rfl,rfl⟩
theorem Tryz.info4:(Tryz.prog.info? 4).map (fun i=>(i.zero,i.size,i.bytes))=some (some (.bool false),1,1):=by kernel_rfl
theorem mk20(W:sH):(Instr.makeSlice 121 (.int .i64 20) (.int .i64 20)).run Tryz.prog W=.ok (.slice (some ⟨W.heap.size,0,none⟩) 20 20) (W.alloc (.cells (hs []) 4)):=by
 obtain⟨i0,hi,hz0,hz1,hz2⟩:=info_parts Tryz.info4;have h:=run_make (P:=Tryz.prog) W 121 4 i0 (.bool false) Tryz.underlying121 hi hz0 .i64 .i64 20 20 (by omega) (Int.le_refl _) (by rw[hz2];decide) (by omega);rw[hz1,Nat.mul_one]at h;have e:madeCells (sV.bool false).cells 20=hs []:=by kernel_rfl
 simpa[e]using h
set_option maxRecDepth 100000 in
theorem zkB(l:List UInt8)(w:sH)(hl:l.length<=1000000):
  tw Tryz.prog 81 #[.string ⟨l.toArray⟩] w fun e w'=>e=.returned (.int .i64 (rkd (cu l):Int))/\sP w.heap.size w w':=by
 go_enter Tryz.func81,Tryz.ntmps81;go_wp2_with fail;refine(Dc.db12 w).mono ?_;rintro e w1 ⟨b1,Q,rfl,k1⟩;have HB1:=aa b1;have HK1:=aa k1;obtain⟨a0,ac,z0,_⟩:=k1.names 0 _ rfl;rw[show Dc.od.length=20 from rfl]at z0;clear b1 k1;have hmk:=mk20 w1;obtain⟨w2,hw2⟩:=aj (w1.alloc (.cells (hs []) 4));rw[<-hw2]at hmk;obtain⟨G,hG⟩:=aj w1.heap.size;have HC2:ae (Cb w2 G (hs []) 4):=aa (by rw[hw2,hG];exact Cb.new w1 _ 4);have HL2:ae (sP w1.heap.size w1 w2):=aa (by rw[hw2];exact(sU _ _).alloc (sI _) _);rw[<-hG]at hmk;have HG:=aa hG;clear hw2 hG;go_wp2_with fail;refine(Dc.jg l w2 hl).mono ?_;rintro e w3 ⟨xo,xc,rfl,hr,b2⟩;have HR:=aa hr;have HL3:=aa (HL2.o.trans (b2.mono HL2.o.size));have HC3:=aa (HC2.o.below b2);have HN:=aa (zbe l);obtain⟨n,hn⟩:=aj ((Dc.txt l).length);have n9:n<=1000000:=by have h2:=Dc.zbB l l.length 0 (by omega);have h3:=Dc.dB l.length (Dc.plr l 0);have h4:(Dc.txt l).length=(Dc.plr l 0).length:=h3;omega
 rw[<-hn]at HN⊢;clear hr b2 hn HL2 HC2 hmk z0;go_wp2;go_loopw [6,7] (fun p x wr=>∃k:Nat,k<=n/\x=.int .i64 (k:Int)/\p=.bool (plA ((cu l).take k))/\ae (sP w1.heap.size w1 wr)/\ae (KG G w3 wr)/\ae (Cb wr G (hs ((cu l).take k)) 4)) (fun _ x _=>n-(tz x).toNat)
 case atStart=>exact⟨0,by omega,rfl,rfl,HL3.o,KG.refl G w3,HC3.o⟩
 case round=>
  obtain⟨k,hk,rfl,rfl,HL,HKG,HC⟩:=hrel;by_cases h0:k<n
  ·have hj:k<(rl l).length:=by have:=HN.o;omega
   have HE:=aa (sQ hj);obtain⟨x,hx⟩:=aj ((rl l)[k]);rw[<-hx]at HE;obtain⟨g,rfl,hg,q0,_,_⟩:=HR.o k _ (kq l k x HE.o);have hgG:g≠G:=fun e=>by
    subst e;rw[HC3.o.cell]at q0;by_cases h9:k*3<20
    ·rw[j9 _ _ h9]at q0;cases q0
    ·rw[Array.getElem?_eq_none (by simp[hs];omega)]at q0;cases q0
   have z0:=(zrJ (i:=k*3) (HKG.o.blk g hg hgG)).trans q0;have HRU:=aa (zqF l x (by rw[hx];exact te hj));obtain⟨c,hc,hc2⟩:=mo x.1;have HS:=aa (zfs l k x c HE.o hc);have HB:=aa (HK1.o.below HL.o);have HGET:=aa (zuY Q x.1 c wr HB.o HRU.o hc);have hcU:c<Dc.od.length:=hc2;obtain⟨u,hu⟩:=aj (Dc.wdN (c:Int));have HU:=aa hu;have hcu:Dc.od[c]?=some u:=by rw[hu];unfold Dc.wdN;rw[Int.toNat_natCast,List.getD_eq_getElem?_getD,sQ hcU];rfl
   have HL':=aa (zlk HL.o G c (.bool true) (by have:=HG.o;omega));have HB':=aa (HK1.o.below HL'.o);obtain⟨a,ac2,s0,s1⟩:=HB'.o.names c u hcu;rw[show Dc.od.length=20 from rfl]at s0;have hst:=HC.o.cell c;rw[j9 _ _ hc2]at hst;have hfr:=HC.o.frozen c;have HKG':=aa (HKG.o.set c (.bool true));have HC':ae (Cb (wr.setCell ⟨G,c,none⟩ (.bool true)) G (hs ((cu l).take (k+1))) 4):=aa (by rw[HS.o,<-zrg];exact HC.o.set c (.bool true));obtain⟨b,hb⟩:=aj (plA ((cu l).take k));have HP:ae (plA ((cu l).take (k+1))=(b&&pln c)):=aa (by rw[HS.o,zns,hb]);rw[<-hb];obtain⟨X0,hX0⟩:=aj (x.1:Int);rw[<-hX0]at z0 HGET;have i0:(0:Int)<=(k:Int):=by omega
   have i1:(k:Int)<(n:Int):=by omega
   have c0:(0:Int)<=(c:Int):=by omega
   have c1:(c:Int)<20:=by omega
   have HC2':=aa hc2;clear hX0 hb hu hcU hcu hj hx hc hc2 q0 hgG HB' HL HKG HC HB;go_wp2_with fail;refine HGET.o.mono ?_;rintro e w4 ⟨rfl,hw4⟩;obtain rfl:=hw4.symm;clear hw4 HGET;cases b with
   |false=>
    go_wp2;go_roundw
    case rel=>exact⟨k+1,by omega,by go_num,by rw[HP.o];first|rfl|(rw[HPL.o];rfl),HL'.o,HKG'.o,HC'.o⟩
    case measure=>simp[tz];omega
   |true=>
    by_cases d18:c=18
    ·have HPL:ae (pln c=true):=aa (by rw[d18];rfl);obtain rfl:u=[83,112,97,99,101]:=HU.o.trans (by rw[d18];decide+kernel);clear d18;go_wp2;go_roundw
     case rel=>exact⟨k+1,by omega,by go_num,by rw[HP.o];first|rfl|(rw[HPL.o];rfl),HL'.o,HKG'.o,HC'.o⟩
     case measure=>simp[tz];omega
    by_cases d4:c=4
    ·have HPL:ae (pln c=true):=aa (by rw[d4];rfl);obtain rfl:u=[69,120,116,101,110,100]:=HU.o.trans (by rw[d4];decide+kernel);clear d4;go_wp2;go_roundw
     case rel=>exact⟨k+1,by omega,by go_num,by rw[HP.o];first|rfl|(rw[HPL.o];rfl),HL'.o,HKG'.o,HC'.o⟩
     case measure=>simp[tz];omega
    by_cases d6:c=6
    ·have HPL:ae (pln c=true):=aa (by rw[d6];rfl);obtain rfl:u=[70,111,114,109,97,116]:=HU.o.trans (by rw[d6];decide+kernel);clear d6;go_wp2;go_roundw
     case rel=>exact⟨k+1,by omega,by go_num,by rw[HP.o];first|rfl|(rw[HPL.o];rfl),HL'.o,HKG'.o,HC'.o⟩
     case measure=>simp[tz];omega
    by_cases d5:c=5
    ·have HPL:ae (pln c=true):=aa (by rw[d5];rfl);obtain rfl:u=[90,119,106]:=HU.o.trans (by rw[d5];decide+kernel);clear d5;go_wp2;go_roundw
     case rel=>exact⟨k+1,by omega,by go_num,by rw[HP.o];first|rfl|(rw[HPL.o];rfl),HL'.o,HKG'.o,HC'.o⟩
     case measure=>simp[tz];omega
    have HPL:ae (pln c=false):=aa (by unfold pln;rw[beq_eq_false_iff_ne.2 d18,beq_eq_false_iff_ne.2 d4,beq_eq_false_iff_ne.2 d6,beq_eq_false_iff_ne.2 d5];rfl);have u18:(u== [83,112,97,99,101])=false:=by rw[HU.o];exact zaZ c HC2'.o 18 (by omega) d18 _ (by decide+kernel)
    have u4:(u== [69,120,116,101,110,100])=false:=by rw[HU.o];exact zaZ c HC2'.o 4 (by omega) d4 _ (by decide+kernel)
    have u6:(u== [70,111,114,109,97,116])=false:=by rw[HU.o];exact zaZ c HC2'.o 6 (by omega) d6 _ (by decide+kernel)
    have u5:(u== [90,119,106])=false:=by rw[HU.o];exact zaZ c HC2'.o 5 (by omega) d5 _ (by decide+kernel)
    clear d18 d4 d6 d5;go_wp2;go_roundw
    case rel=>exact⟨k+1,by omega,by go_num,by rw[HP.o];first|rfl|(rw[HPL.o];rfl),HL'.o,HKG'.o,HC'.o⟩
    case measure=>simp[tz];omega
  ·have h0':¬(k:Int)<(n:Int):=by omega
   have htk:(cu l).take k=cu l:=ti (by rw[zjv];have:=HN.o;omega);rw[htk]at HC⊢;have HB:=aa (HK1.o.below HL.o);have HBW:=aa (HB1.o.trans (HL.o.mono HB1.o.size));have HRK:ae (rkd (cu l)=if (dU (cu l) 10||dU (cu l) 9||dU (cu l) 8)=true then 4 else if dU (cu l) 16=true then 3 else if (dU (cu l) 3||dU (cu l) 1||dU (cu l) 2)=true then 2 else if (dU (cu l) 18&&plA (cu l))=true then 1 else 0):=aa rfl;have HI10:=aa (fb Q G 10 (dU (cu l) 10) wr HB.o (by omega) ((HC.o.cell 10).trans (j9 _ 10 (by omega))) [76,101,116,116,101,114] (by decide+kernel));obtain⟨v10,hv10⟩:=aj (dU (cu l) 10);rw[<-hv10]at HRK HI10;clear hv10;have HI9:=aa (fb Q G 9 (dU (cu l) 9) wr HB.o (by omega) ((HC.o.cell 9).trans (j9 _ 9 (by omega))) [72,101,98,114,101,119] (by decide+kernel));obtain⟨v9,hv9⟩:=aj (dU (cu l) 9);rw[<-hv9]at HRK HI9;clear hv9;have HI8:=aa (fb Q G 8 (dU (cu l) 8) wr HB.o (by omega) ((HC.o.cell 8).trans (j9 _ 8 (by omega))) [75,97,116,97,107,97,110,97] (by decide+kernel));obtain⟨v8,hv8⟩:=aj (dU (cu l) 8);rw[<-hv8]at HRK HI8;clear hv8;have HI16:=aa (fb Q G 16 (dU (cu l) 16) wr HB.o (by omega) ((HC.o.cell 16).trans (j9 _ 16 (by omega))) [68,105,103,105,116] (by decide+kernel));obtain⟨v16,hv16⟩:=aj (dU (cu l) 16);rw[<-hv16]at HRK HI16;clear hv16;have HI3:=aa (fb Q G 3 (dU (cu l) 3) wr HB.o (by omega) ((HC.o.cell 3).trans (j9 _ 3 (by omega))) [78,101,119,108,105,110,101] (by decide+kernel));obtain⟨v3,hv3⟩:=aj (dU (cu l) 3);rw[<-hv3]at HRK HI3;clear hv3;have HI1:=aa (fb Q G 1 (dU (cu l) 1) wr HB.o (by omega) ((HC.o.cell 1).trans (j9 _ 1 (by omega))) [67,114] (by decide+kernel));obtain⟨v1,hv1⟩:=aj (dU (cu l) 1);rw[<-hv1]at HRK HI1;clear hv1;have HI2:=aa (fb Q G 2 (dU (cu l) 2) wr HB.o (by omega) ((HC.o.cell 2).trans (j9 _ 2 (by omega))) [76,102] (by decide+kernel));obtain⟨v2,hv2⟩:=aj (dU (cu l) 2);rw[<-hv2]at HRK HI2;clear hv2;have HI18:=aa (fb Q G 18 (dU (cu l) 18) wr HB.o (by omega) ((HC.o.cell 18).trans (j9 _ 18 (by omega))) [83,112,97,99,101] (by decide+kernel));obtain⟨v18,hv18⟩:=aj (dU (cu l) 18);rw[<-hv18]at HRK HI18;clear hv18;obtain⟨vp,hvp⟩:=aj (plA (cu l));rw[<-hvp]at HRK⊢;clear hvp;go_wp2_with fail;refine HI10.o.mono ?_;rintro e w5 ⟨rfl,hw5⟩;obtain rfl:=hw5.symm;clear hw5;cases v10 with
   |true=>go_wp2;go_ret;exact⟨by rw[HRK.o];rfl,HBW.o⟩
   |false=>
    go_wp2_with fail;refine HI9.o.mono ?_;rintro e w5 ⟨rfl,hw5⟩;obtain rfl:=hw5.symm;clear hw5;cases v9 with
    |true=>go_wp2;go_ret;exact⟨by rw[HRK.o];rfl,HBW.o⟩
    |false=>
     go_wp2_with fail;refine HI8.o.mono ?_;rintro e w5 ⟨rfl,hw5⟩;obtain rfl:=hw5.symm;clear hw5;cases v8 with
     |true=>go_wp2;go_ret;exact⟨by rw[HRK.o];rfl,HBW.o⟩
     |false=>
      go_wp2_with fail;refine HI16.o.mono ?_;rintro e w5 ⟨rfl,hw5⟩;obtain rfl:=hw5.symm;clear hw5;cases v16 with
      |true=>go_wp2;go_ret;exact⟨by rw[HRK.o];rfl,HBW.o⟩
      |false=>
       go_wp2_with fail;refine HI3.o.mono ?_;rintro e w5 ⟨rfl,hw5⟩;obtain rfl:=hw5.symm;clear hw5;cases v3 with
       |true=>go_wp2;go_ret;exact⟨by rw[HRK.o];rfl,HBW.o⟩
       |false=>
        go_wp2_with fail;refine HI1.o.mono ?_;rintro e w5 ⟨rfl,hw5⟩;obtain rfl:=hw5.symm;clear hw5;cases v1 with
        |true=>go_wp2;go_ret;exact⟨by rw[HRK.o];rfl,HBW.o⟩
        |false=>
         go_wp2_with fail;refine HI2.o.mono ?_;rintro e w5 ⟨rfl,hw5⟩;obtain rfl:=hw5.symm;clear hw5;cases v2 with
         |true=>go_wp2;go_ret;exact⟨by rw[HRK.o];rfl,HBW.o⟩
         |false=>
          go_wp2_with fail;refine HI18.o.mono ?_;rintro e w5 ⟨rfl,hw5⟩;obtain rfl:=hw5.symm;clear hw5;cases v18 with
          |true=>
           cases vp with
           |true=>go_wp2;go_ret;exact⟨by rw[HRK.o];rfl,HBW.o⟩
           |false=>go_wp2;go_ret;exact⟨by rw[HRK.o];rfl,HBW.o⟩
          |false=>go_wp2;go_ret;exact⟨by rw[HRK.o];rfl,HBW.o⟩
end Wd
end Go.Proofs.YtbbapnpdfcgjnaaGreatDoor
