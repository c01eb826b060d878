/- StCls, StBd, StBd2, WdCut, WbW, WmW, RPcs, RWds, RAft, WdWm, WwM, WdAft, WdFrom, WdBef, WdTo, WaW, WbfW: parts of the proof, joined. -/
import Derived.Test.YtbbapnpdfcgjnaaGreatDoorWWdKind
import Derived.Test.YtbbapnpdfcgjnaaGreatDoorWSdCopy
open List renaming getElem?_eq_getElem->sD, getD_eq_getElem?_getD->sH, getElem?_map->sL, length_drop->sM, filter_cons->sN, getElem?_eq_some_iff->sO, mem_map->sP, length_append->sQ, find?_cons->sR, drop_eq_getElem_cons->sY, length_map->sZ, getElem?_drop->td, take_succ_eq_append_getElem->te, take_of_length_le->tf, mem_range'_1->tg, any_eq_true->tj, mem_filter->tn, length_pos_iff->tp, filter_append->tr, range'->tz, getElem?_take_of_lt->tA, length_cons->tD, length_take->tE, drop_of_length_le->tH, map_append->tJ, length_filter_le->tK, mem_iff_getElem?->tL, map_cons->tM, take_add_one->tP, range'_succ->tS, range_succ->tT, map_map->t6, length->ua
open Nat renaming le_refl->sE, zero_le->sJ, lt_of_lt_of_le->tc, eq_zero_or_pos->tu, zero_add->tG, le_trans->tO, lt_or_ge->t7
open Go.RowKit renaming Below->sG, intOf->sS
open Go.RowKit.Below renaming refl->sI, heap_alloc->tQ
open Go renaming World->sK, cell_of_row->sU, Calls->tC
open Go.World renaming ownsRow_nil->sT, iterPos->tB, putObj_heap_other->tF, putObj_heap_same->tI, size_alloc->tR, iter_heap->tW, putObj->t8
open And renaming intro->sV
open Go.IntKind renaming wrap_i64->sW, i64->tk
open Option renaming getD_some->sX, map_some->ta
open Bool renaming and_eq_true->ti, or_eq_true->tV, false_or->tX
open Go.NoPanic renaming normal->tq
open Array renaming getElem?_eq_some_iff->tw
set_option maxHeartbeats 64000000
namespace Go.Proofs.YtbbapnpdfcgjnaaGreatDoor
section
open Go.RowKit
namespace Pt
def dcl(A:List Dc.Tr)(l:List UInt8):List Nat:=(rl l).map fun x=>Dc.gtp (Dc.cQ (x.1:Int)) A
def lV(A:List Dc.Tr)(l:List UInt8):List Int:=(dcl A l).map fun(x:Nat)=>(x:Int)
theorem zry(A:List Dc.Tr)(l:List UInt8):(dcl A l).length=(rl l).length:=sZ ..
theorem dP(A:List Dc.Tr)(l:List UInt8):(lV A l).length=(rl l).length:=by unfold lV;rw[sZ,zry]
theorem zoe(L:List Nat):bk (L.map fun(x:Nat)=>(x:Int))=kF L:=by unfold bk kF;rw[t6];rfl
theorem zcS{P:Program}{ops:Array Oper}{Q:Exit->Act->sK->Prop}{S:sK->Prop}{fin:Nat->Bool}{o:Oper}{k:Nat}{r:List (Nat×Bool)}{a:Act}{w:sK}(h0:ops[k]?=some o)(hw:Region.wanted o (yielded ops a.tmps)=false)(hS:S w)(h2:dR P ops Q S fin r (a.put o.dst undef) w):dR P ops Q S fin ((k,false)::r) a w:=⟨o,h0,by rw[hw];exact⟨fun _=>hS,h2⟩⟩
set_option maxRecDepth 100000 in
theorem nP(U:List (List UInt8))(A:List Dc.Tr)(hC:Dc.nT 0 A 1114112)(hc:∀g∈A,g.2.2<U.length)(hU:U.length<=1000)(hA:A.length<=10000000)(B Q:Nat)(nv sv:Value)(vs:List Value)(X:Nat)(l:List UInt8)(xo:Option Addr)(n xc:Nat)(w:sK)(hD:Dc.bg B Q U (Dc.dst U.length A) nv sv vs w)(hX:w.cell? ⟨X,0,none⟩=some (.pointer (some ⟨Q,0,none⟩)))(hXl:X<w.heap.size)(hT:Dc.RdT w xo (Dc.txt l))(hn:n=(rl l).length)(hn9:n<=1000000):
  tC Tryz.prog 73 #[.pointer (some ⟨X,0,none⟩),.slice xo n xc] w fun e w'=>∃vo vc,e=.returned (.slice vo n vc)/\w'.ownsRow w.heap.size 3 1 (.slice vo n vc) n (bk (lV A l))/\sG w.heap.size w w':=by
 have HG:=aa (fun(W:sK)(h:sG w.heap.size w W)(z:Int)=>Dc.zed B Q U.length U A nv sv vs z W (hD.below h) hC hc hU hA);have HT:=aa (fun(W:sK)(h:sG w.heap.size w W)=>hT.below h);have HX:=aa (fun(W:sK)(h:sG w.heap.size w W)=>show W.cell? ⟨X,0,none⟩=some (.pointer (some ⟨Q,0,none⟩))from(h.cell (p:=⟨X,0,none⟩) hXl).trans hX);have HN:=aa hn;clear hD hX hXl hT hn hC hc hU hA;go_enter Tryz.func73,Tryz.ntmps73;go_wp2;go_loopw [5,6] (fun x y wr=>∃(i:Nat)(vo:Option Addr)(vc:Nat),x=.slice vo i vc/\y=.int .i64 i/\i<=n/\ae (wr.ownsRow w.heap.size 3 1 (.slice vo i vc) i (bk ((lV A l).take i)))/\ae (sG w.heap.size w wr)) (fun _ y _=>n-(sS y).toNat)
 case atStart=>exact⟨0,none,0,rfl,rfl,sJ _,aa (sT _ _ _ _),aa (sI _ _)⟩
 case round=>
  obtain⟨i,vo,vc,rfl,rfl,hi,HOw,HB⟩:=hrel;by_cases hlt:i<n
  ·have i0:(0:Int)<=(i:Int):=by omega
   have i1:(i:Int)<(n:Int):=by omega
   have hil:i<(rl l).length:=by have:=HN.o;omega
   obtain⟨x,hx⟩:=aj ((rl l)[i]);have hxi:(rl l)[i]?=some x:=by rw[hx];exact sD hil
   obtain⟨g,rfl,hg,c0,c1,c2⟩:=HT.o wr HB.o i _ (kq l i x hxi);have c0:wr.cell? ⟨g,i*3,none⟩=some (.int .i32 (x.1:Int)):=c0;obtain⟨z,hz⟩:=aj (x.1:Int);rw[<-hz]at c0;have HD:ae ((lV A l).take (i+1)=(lV A l).take i++[((Dc.gtp (Dc.cQ z) A:Nat):Int)]):=aa (by rw[te (by rw[dP];exact hil)];congr 2;unfold lV dcl;simp only[List.getElem_map,hz,hx]);have HGz:=aa (HG.o wr.drew ⟨HB.o.os,HB.o.tape,HB.o.output,HB.o.size,HB.o.block⟩ z);obtain⟨G,hG⟩:=aj (Dc.gtp (Dc.cQ z) A);rw[<-hG]at HD HGz;have HSw:=aa (fun(W:sK)(h:sG w.heap.size w W)=>show W.cell? ⟨X,0,none⟩=some (.pointer (some ⟨Q,0,none⟩))/\W.cell? ⟨g,i*3,none⟩=some (.int .i32 z)from⟨HX.o W h,by obtain⟨g',e,_,d0,_⟩:=HT.o W h i _ (kq l i x hxi);cases e;rw[hz];exact d0⟩);have HS:=aa (fun(W:sK)(h:sG wr.heap.size wr W)=>HSw.o W (HB.o.trans (h.mono HB.o.size)));clear hx hxi hz hG c1 c2 hg hil c0;go_wp2_with fail;refine aw [(0,true),(1,true),(2,true),(3,true),(4,true),(5,true),(6,true),(7,true),(8,true),(9,true),(10,false),(11,false),(12,false),(13,false)] (fun W=>W.cell? ⟨X,0,none⟩=some (.pointer (some ⟨Q,0,none⟩))/\W.cell? ⟨g,i*3,none⟩=some (.int .i32 z)) (fun _=>false) (by kernel_rfl) (by kernel_rfl) (fun j hj=>by cases hj) rfl (by kernel_rfl) (HS.o _ (show sG wr.heap.size wr wr.drew from(sI _ _).drew)) ?_
   iterate 10 (refine aF ?_ rfl (by kernel_rfl) (fun w' hS=>?_) ?_;(rotate_left;(obtain⟨s0,s1⟩:=hS;go_simp;with_reducible rfl);rotate_left))
   refine au rfl (by kernel_rfl) fun KK hKK=>?_;go_simp;refine HGz.o.mono ?_;rintro e w2 ⟨rfl,rfl⟩;refine hKK _ _ (fun _=>HS.o _ (show sG wr.heap.size wr wr.drew from(sI _ _).drew)) ?_;clear hKK;refine au rfl (by kernel_rfl) fun KK hKK=>?_;go_simp;obtain⟨w3,hw3⟩:=aj ((wr.alloc (.cells #[.int .i64 (G:Int)] 3)).drew);rw[<-hw3];have HB3:ae (sG wr.heap.size wr w3):=aa (by rw[hw3];exact af.drew);have HQ3:ae (w3.heap[wr.heap.size]?=some (.cells #[.int .i64 (G:Int)] 3)):=aa (by rw[hw3];exact heap_alloc_new _ _);clear hw3;refine hKK _ _ (fun _=>HS.o _ HB3.o) ?_;clear hKK;have HO3:=aa (ay HOw.o HB3.o);have HBw3:=aa (HB.o.trans (HB3.o.mono HB.o.size));refine au rfl (by kernel_rfl) fun KK hKK=>?_;refine aP _ _ rfl w.heap.size (.slice vo i vc) i ((lV A l).take i) rfl HO3.o (some ⟨wr.heap.size,0,none⟩) 1 1 [(G:Int)] rfl (cm HQ3.o) rfl (by omega) HBw3.o.size ?_;intro vo4 vc4 w4 o4 gr4 _;have HB4:=aa (HBw3.o.trans (am HO3.o gr4 HBw3.o.size));have HO4:ae (w4.ownsRow w.heap.size 3 1 (.slice vo4 (i+1) vc4) (i+1) (bk ((lV A l).take (i+1)))):=aa (by rw[HD.o];exact o4);refine hKK _ _ (fun _=>HSw.o _ HB4.o) ?_;clear hKK o4 gr4;refine au rfl (by kernel_rfl) fun KK hKK=>?_;go_simp;refine hKK _ _ (fun _=>HSw.o _ HB4.o) ?_;clear hKK;refine ba (tq ?_);go_wp2;go_roundw
   case rel=>exact⟨i+1,vo4,vc4,rfl,by go_num,by omega,HO4,HB4⟩
   case measure=>simp[sS];omega
  ·have i1:¬(i:Int)<(n:Int):=by omega
   obtain rfl:i=n:=by omega
   have HQ:ae (wr.ownsRow w.heap.size 3 1 (.slice vo i vc) i (bk (lV A l))):=aa (by have h:=HOw.o;rwa [tf (by rw[dP,<-HN.o];exact sE _)]at h);go_wp2;go_ret;exact⟨vo,vc,rfl,HQ.o,HB.o⟩
end Pt
end
section
open Go.RowKit
namespace Pt
theorem zxc(rest:Bool)(c:List Int)(k:Nat):dcd rest c k []=rest:=rfl
noncomputable def kN(A:Nat->Bool)(l:List UInt8)(k:Nat):List Nat:=((List.range k).filter A).map (Wt.pos l)
theorem oV{A:Nat->Bool}{l:List UInt8}{k:Nat}(h:A k=true):kN A l (k+1)=kN A l k++[Wt.pos l k]:=by unfold kN;rw[tT,tr,tJ];simp[h]
theorem zpp{A:Nat->Bool}{l:List UInt8}{k:Nat}(h:A k=false):kN A l (k+1)=kN A l k:=by unfold kN;rw[tT,tr,tJ];simp[h]
def toZ(L:List Nat):List Int:=L.map fun(x:Nat)=>(x:Int)
theorem kV(L:List Nat)(x:Nat):toZ (L++[x])=toZ L++[(x:Int)]:=by simp[toZ]
noncomputable def zrL(A:List Dc.Tr)(rs:List Rl)(rest:Bool)(l:List UInt8):List Nat:=if l=[]then []else kN (zfn rest rs (lV A l)) l ((rl l).length+1)
theorem zsu:∀(n:Nat)(l:List UInt8),l.length<=n->(rl l).length<=l.length
 |n,l,hn=>by
  by_cases h:l=[]
  ·subst h;exact sE _
  ·have h1:=dec_ge l h;have hp:0<l.length:=tp.2 h;rw[bD l h,tD];cases n with
   |zero=>omega
   |succ n=>have:=zsu n (l.drop (dec l).2) (by rw[sM];omega);rw[sM]at this;omega
set_option maxRecDepth 100000 in
theorem zfu(U:List (List UInt8))(D:List Dc.Tr)(rs:List Rl)(rest:Bool)(hrs:∀r∈rs,zhD r)(hr9:rs.length<=1000)(hC:Dc.nT 0 D 1114112)(hc:∀g∈D,g.2.2<U.length)(hU:U.length<=1000)(hA:D.length<=10000000)(Q:Nat)(ro:Option Addr)(rc:Nat)(l:List UInt8)(hl:l.length<=80000)(hne:l≠ [])(w:sK)(hD:Dc.Bk U D Q w)(hR:zcN w ro rs):
  tC Tryz.prog 47 #[.pointer (some ⟨Q,0,none⟩),.agg #[.slice ro rs.length rc,.bool rest],.string ⟨l.toArray⟩] w (LsQ w (kN (zfn rest rs (lV D l)) l ((rl l).length+1))):=by
 obtain⟨B,nv,sv,vs,hD⟩:=hD;have hl0:0<l.length:=tp.2 hne;have hrl:=zsu _ l (sE _);have hrl0:0<(rl l).length:=by rw[bD l hne];simp
 have HD:=aa (fun(W:sK)(h:sG w.heap.size w W)=>hD.below h);have HR:=aa (fun(W:sK)(h:sG w.heap.size w W)=>hR.below h);have HRs:=aa hrs;have HDB:=aa (sV hC (sV hc (sV hU hA)));have HTl:=aa (zbe l);obtain⟨rn,hrn⟩:=aj rs.length;have HRN:=aa hrn;rw[<-hrn]at hr9⊢;obtain⟨n,hn⟩:=aj ((rl l).length);have HN:=aa hn;rw[<-hn]at hrl hrl0 HTl⊢;have hcne:lV D l≠ []:=fun e=>by have:=dP D l;rw[e,<-hn]at this;simp at this;omega
 have hn9:n<=80000:=by omega
 have HLl:=aa hl;obtain⟨A,hAA⟩:=aj (zfn rest rs (lV D l));have HA0:ae (∀k,k=0\/k=n->A k=true):=aa (fun k hk=>by rw[hAA];unfold zfn;rw[if_neg hcne,if_pos (by rw[dP,<-hn];exact hk)]);have HAd:ae (∀k,0<k->k<n->A k=dcd rest (lV D l) k rs):=aa (fun k h1 h2=>by rw[hAA];unfold zfn;rw[if_neg hcne,if_neg (by rw[dP,<-hn];omega)]);rw[<-hAA];clear hD hR hrs hC hc hU hA hne hl hn hrn hcne hAA;have HBX:=aa (fun(o:Obj)=>af (w:=w) (o:=o));go_enter Tryz.func47,Tryz.ntmps47;go_wp2_with fail;obtain⟨w1,hw1⟩:=aj ((w.alloc (.cells #[.slice ro rn rc,.bool rest] 63)).alloc (.cells #[.pointer (some ⟨Q,0,none⟩),.slice ro rn rc,.bool rest,.slice none 0 0,.slice none 0 0,.int .i64 0,.int .i64 0] 96));have HB1:ae (sG w.heap.size w w1):=aa (by rw[hw1];exact((sI _ _).alloc (sE _) _).alloc (by simp) _);have HN1:ae (w1.heap[w.heap.size]?=some (.cells #[.slice ro rn rc,.bool rest] 63)):=aa (by rw[hw1];exact(tQ _ _ _ (by simp)).trans (heap_alloc_new w _));have HX1:=aa (show w1.heap[w.heap.size+1]?=some (.cells #[.pointer (some ⟨Q,0,none⟩),.slice ro rn rc,.bool rest,.slice none 0 0,.slice none 0 0,.int .i64 0,.int .i64 0] 96) by have:=heap_alloc_new (w.alloc (.cells #[.slice ro rn rc,.bool rest] 63)) (.cells #[.pointer (some ⟨Q,0,none⟩),.slice ro rn rc,.bool rest,.slice none 0 0,.slice none 0 0,.int .i64 0,.int .i64 0] 96);rw[tR]at this;rw[hw1];exact this);rw[<-hw1];clear hw1;refine(Dc.jg l w1 (by have:=HLl.o;omega)).mono ?_;rintro e w2 ⟨xo,xc,rfl,hT,hB2⟩;rw[HTl.o];have HB2:=aa (HB1.o.trans (hB2.mono HB1.o.size));have HB12:=aa hB2;have HT2:=aa hT;clear hT hB2;go_wp2_with fail;refine(nP U D HDB.o.1 HDB.o.2.1 HDB.o.2.2.1 HDB.o.2.2.2 B Q nv sv vs (w.heap.size+1) l xo n xc w2 (HD.o w2 HB2.o) (by rw[sU w2 _ 0 _ _ _ ((HB12.o.block _ (ag HX1.o)).trans HX1.o)];rfl) (tc (ag HX1.o) HB12.o.size) HT2.o HN.o (by omega)).mono ?_;rintro e w3 ⟨co,cc,rfl,hO3,hB3⟩;obtain⟨g,hco,hcc⟩:∃g,co=some ⟨g,0,none⟩/\n<=cc:=by
  rcases hO3.2 with ⟨_,e⟩|⟨g,cap,cur,k1,_,_,k4,_⟩
  ·omega
  ·cases k1;exact⟨g,rfl,k4⟩
 subst hco;have HC3:=aa (eJ hO3 (by rw[dP];exact HN.o));have HB3:=aa (HB2.o.trans (hB3.mono HB2.o.size));have HB13:=aa (HB12.o.trans (hB3.mono HB12.o.size));have HT3:=aa (HT2.o.below hB3);have hN3:=(HB13.o.block _ (ag HN1.o)).trans HN1.o;have x0:w3.cell? ⟨w.heap.size,0,none⟩=some (.slice ro rn rc):=by rw[sU w3 _ 0 _ _ _ hN3];rfl
 have x1:w3.cell? ⟨w.heap.size,1,none⟩=some (.bool rest):=by rw[sU w3 _ 1 _ _ _ hN3];rfl
 clear hO3 hB3 hN3 HT2;go_wp2_with fail;refine(sA rest rs HRs.o ro rn rc HRN.o hr9 w3 (HR.o w3 HB3.o)).mono ?_;rintro e w5 ⟨uo,uc,sds,rfl,hsl,hsk,hsr,hB5⟩;have HB5:=aa (HB3.o.trans (hB5.mono HB3.o.size));have HSl:=aa hsl;have HSk:=aa hsk;have HSr:=aa hsr;have HC:=aa (fun(W:sK)(h:sG w5.heap.size w5 W)=>(HC3.o.below hB5).below h);have HT:=aa (fun(W:sK)(h:sG w5.heap.size w5 W)=>(HT3.o.below hB5).below h);have HN5:=aa ((((HB13.o.trans (hB5.mono HB13.o.size))).block _ (ag HN1.o)).trans HN1.o);rw[<-HRN.o];obtain⟨gx0,hgx0⟩:∃gx,xo=some ⟨gx,0,none⟩:=by have hx:=(rl l)[0]?;obtain⟨y,hy⟩:∃y,(rl l)[0]?=some y:=⟨_,sD (by rw[<-HN.o];exact hrl0)⟩;obtain⟨gx,h1,_⟩:=HT3.o 0 _ (kq l 0 y hy);exact⟨gx,h1⟩
 subst hgx0;clear hsl hsk hsr hB5 x0 x1 HC3 HT3 HX1 HN1 HB12 HB13 HB1 HB2 HD HDB;go_wp2;go_loopw [11,12] (fun x y wr=>∃(k m:Nat)(vo:Option Addr)(vc:Nat),x=.slice vo m vc/\y=.int .i64 k/\k<=n+1/\m<=k/\ae (m=(kN A l k).length)/\ae (wr.ownsRow w5.heap.size 3 1 (.slice vo m vc) m (bk (toZ (kN A l k))))/\ae (sG w5.heap.size w5 wr)) (fun _ y _=>n+1-(sS y).toNat)
 case atStart=>exact⟨0,0,none,0,rfl,rfl,sJ _,sE _,aa rfl,aa (sT _ _ _ _),aa (sI _ _)⟩
 case round=>
  obtain⟨k,m,vo,vc,rfl,rfl,hk,hm,HM,HOw,HB⟩:=hrel;by_cases hlt:k<n+1
  ·have i0:(0:Int)<=(k:Int):=by omega
   have i1:(k:Int)<=(n:Int):=by omega
   have i2:(0:Int)<(n:Int):=by omega
   by_cases hkn:k=n
   ·have HAk:=aa (HA0.o k (.inr hkn));have HPn:ae (Wt.pos l k=l.length):=aa (Wt.bY l k (by rw[hkn];exact Nat.le_of_eq HN.o.symm));have i3:((k:Int)==0)=false:=beq_eq_false_iff_ne.2 (by omega);have i4:((k:Int)==(n:Int))=true:=beq_iff_eq.2 (by omega);have i5:¬(k:Int)<(n:Int):=by omega
    clear hkn;have HA:ae (kN A l (k+1)=kN A l k++[Wt.pos l k]):=aa (oV HAk.o);rw[HPn.o]at HA;go_wp2_with (at_builtin;refine dd rfl _ _ rfl w5.heap.size (.slice vo m vc) m (toZ (kN A l k)) rfl (ay HOw.o af) (some ⟨wr.heap.size,0,none⟩) 1 1 [(l.length:Int)] rfl (cm (heap_alloc_new _ _)) rfl (by omega) (by have:=HB.o.size;simp;omega) ?_;intro vo9 vc9 w9 ho9 hg9 _;have HB9:=aa ((HB.o.trans ((af (w:=wr) (o:=.cells #[.int .i64 (l.length:Int)] 3)).mono HB.o.size)).trans (am (ay HOw.o af) hg9 (by have:=HB.o.size;simp;omega)));have HO9:=aa ho9;clear ho9 hg9);go_roundw
    case rel=>exact⟨k+1,m+1,vo9,vc9,rfl,by go_num,by omega,by omega,aa (by rw[HA.o,sQ,HM.o];rfl),aa (by rw[HA.o,kV];exact HO9.o),HB9⟩
    case measure=>simp[sS];omega
   have hkl:k<(rl l).length:=by have:=HN.o;omega
   obtain⟨x,hx⟩:=aj ((rl l)[k]);have hxk:(rl l)[k]?=some x:=by rw[hx];exact sD hkl
   have hkn2:k<n:=by omega
   have i5:(k:Int)<(n:Int):=by omega
   have i6:((k:Int)==(n:Int))=false:=beq_eq_false_iff_ne.2 (by omega);clear hx;by_cases hk0:k=0
   ·have HAk:=aa (HA0.o k (.inl hk0));have i3:((k:Int)==0)=true:=beq_iff_eq.2 (by omega);clear hk0;obtain⟨gx,hgx,_,_,cx0,_⟩:=HT.o wr HB.o k _ (kq l k x hxk);cases hgx;have cx:wr.cell? ⟨gx0,k*3+1,none⟩=some (.int .i64 (Wt.pos l k:Nat)):=cx0;clear cx0;have HA:ae (kN A l (k+1)=kN A l k++[Wt.pos l k]):=aa (oV HAk.o);obtain⟨pq,hpq⟩:=aj (Wt.pos l k);rw[<-hpq]at cx HA;clear hpq;go_wp2_with (at_builtin;refine dd rfl _ _ rfl w5.heap.size (.slice vo m vc) m (toZ (kN A l k)) rfl (ay HOw.o af) (some ⟨wr.heap.size,0,none⟩) 1 1 [(pq:Int)] rfl (cm (heap_alloc_new _ _)) rfl (by omega) (by have:=HB.o.size;simp;omega) ?_;intro vo9 vc9 w9 ho9 hg9 _;have HB9:=aa ((HB.o.trans ((af (w:=wr) (o:=.cells #[.int .i64 (pq:Int)] 3)).mono HB.o.size)).trans (am (ay HOw.o af) hg9 (by have:=HB.o.size;simp;omega)));have HO9:=aa ho9;clear ho9 hg9);go_roundw
    case rel=>exact⟨k+1,m+1,vo9,vc9,rfl,by go_num,by omega,by omega,aa (by rw[HA.o,sQ,HM.o];rfl),aa (by rw[HA.o,kV];exact HO9.o),HB9⟩
    case measure=>simp[sS];omega
   ·have i3:((k:Int)==0)=false:=beq_eq_false_iff_ne.2 (by omega);have HDk:=aa (HAd.o k (by omega) hkn2);have y1:wr.cell? ⟨w.heap.size,1,none⟩=some (.bool rest):=by rw[sU wr w.heap.size 1 _ _ _ ((HB.o.block _ (ag HN5.o)).trans HN5.o)];rfl
    have hk1:1<=k:=by omega
    obtain⟨wo,rfl⟩:=aj wr;go_wp2;clear y1;go_loopw [13,14] (fun x y wr=>∃i:Nat,x=.bool rest/\y=.int .i64 i/\i<=rn/\ae (dcd rest (lV D l) k rs=dcd rest (lV D l) k (rs.drop i))/\ae (sG wo.heap.size wo wr)) (fun _ y _=>rn-(sS y).toNat)
    case atStart=>exact⟨0,rfl,rfl,sJ _,aa rfl,aa (sI _ _)⟩
    case round=>
     obtain⟨i,rfl,rfl,hi,HDc,HBi⟩:=hrel;have HBv:=aa (HB.o.trans (HBi.o.mono HB.o.size));have y0:wr.cell? ⟨w.heap.size,0,none⟩=some (.slice ro rn rc):=by rw[sU wr w.heap.size 0 _ _ _ ((HBv.o.block _ (ag HN5.o)).trans HN5.o)];rfl
     by_cases hir:i<rn
     ·have j0:(0:Int)<=(i:Int):=by omega
      have j1:(i:Int)<(rn:Int):=by omega
      have hil:i<rs.length:=by have:=HRN.o;omega
      have his:i<sds.length:=by have:=HRN.o;have:=HSl.o;omega
      obtain⟨r,hr⟩:=aj (rs[i]);have HRi:ae (rs[i]?=some r):=aa (by rw[hr];exact sD hil);have HROk:=aa (HRs.o r (by rw[hr];exact List.getElem_mem _));obtain⟨s,hs⟩:=aj (sds[i]);have HSi:ae (sds[i]?=some s):=aa (by rw[hs];exact sD his);have HSOk:=aa (HSk.o i r s HRi.o HSi.o);clear hr hs;obtain⟨b,o,l0,l1,l2,r0,r1,r2,rfl,hb,a0,a1,a2,a3,a4,a5,a6,a7,a8,p1,p2⟩:=(HR.o wr (HB5.o.trans (HBv.o.mono HB5.o.size))) i r HRi.o;obtain⟨e0,eo,en,ec,ek,em,ep,rfl,rfl,rfl⟩:=p1.shape;obtain⟨f0,fo,fn,fc,fk,fm,fp,rfl,rfl,rfl⟩:=p2.shape;obtain⟨F,lo,lc,so,sc,rfl,hF,b0,b1,b2,b3,q1,q2,q3,q4⟩:=(HSr.o.below HBv.o) i s HSi.o;have hk1l:k-1<(lV D l).length:=by rw[dP];omega
      have hkl2:k<(lV D l).length:=by rw[dP];exact hkl
      obtain⟨ga,hga,_,d0⟩:=(HC.o wr HBv.o).at hk1l;cases hga;obtain⟨gb,hgb,hgl,d1⟩:=(HC.o wr HBv.o).at hkl2;cases hgb;rw[Addr.add_lit,tG]at d0 d1;obtain⟨a,ha⟩:=aj ((lV D l)[k-1]);obtain⟨z,hz⟩:=aj ((lV D l)[k]);have HGa:ae ((lV D l).getD (k-1) 0=a):=aa (by rw[sH,sD hk1l,ha];rfl);have HGz:ae ((lV D l).getD k 0=z):=aa (by rw[sH,sD hkl2,hz];rfl);rw[<-ha]at d0;rw[<-hz]at d1;have HMay:=aa (fun(W:sK)(h:sG wr.heap.size wr W)=>zqV s lo so s.L.length lc s.R.length sc a z W (q1.below h) (q2.below h) rfl rfl q3 q4);have HNo:ae (s.may a z=false->¬App r (lV D l) k):=aa (fun h hA=>by have:=zqU HSOk.o hk1 (by rw[dP];exact hkl) hA;rw[HGa.o,HGz.o,h]at this;cases this);have HAp:=aa (fun(W:sK)(h:sG wr.heap.size wr W)=>zfA r HROk.o _ _ _ _ _ _ (lV D l) g 0 n cc k (by rw[dP];exact HN.o) (by omega) hcc (by omega) W (cv.below h _ _ _ _ p1) (cv.below h _ _ _ _ p2) ((HC.o wr HBv.o).below h));have HYes:=aa (fun(h:App r (lV D l) k)=>zrz (rest:=rest) HRi.o h);have HNoD:=aa (fun(h:¬App r (lV D l) k)=>zve (rest:=rest) HRi.o h);obtain⟨rb,hrb⟩:=aj r.brk;obtain⟨rs1,hrs1⟩:=aj r.st;obtain⟨re,hre⟩:=aj r.en;obtain⟨p1',hp1⟩:=aj s.noL;obtain⟨p2',hp2⟩:=aj s.noR;obtain⟨ln,hln⟩:=aj s.L.length;obtain⟨sn,hsn⟩:=aj s.R.length;obtain⟨my,hmy⟩:=aj (s.may a z);rw[<-hrb,<-hrs1,<-hre]at HAp;rw[<-hrb]at a0 HYes;rw[<-hrs1]at a1;rw[<-hre]at a2;rw[<-hp1,<-hp2,<-hln,<-hsn,<-hmy]at HMay;rw[<-hmy]at HNo;rw[<-hln]at b0;rw[<-hsn]at b1;rw[<-hp1]at b2;rw[<-hp2]at b3;have HSS:=aa (fun(W:sK)(h:sG wr.heap.size wr W)=>show W.cell? ⟨w.heap.size,0,none⟩=some (.slice (some ⟨b,o,none⟩) rn rc)/\W.cell? ⟨F,i*4,none⟩=some (.slice lo ln lc)/\W.cell? ⟨F,i*4+1,none⟩=some (.slice so sn sc)/\W.cell? ⟨F,i*4+2,none⟩=some (.bool p1')/\W.cell? ⟨F,i*4+3,none⟩=some (.bool p2')/\W.cell? ⟨g,k-1,none⟩=some (.int .i64 a)/\W.cell? ⟨g,k,none⟩=some (.int .i64 z)/\W.cell? ⟨b,o+i*9,none⟩=some (.bool rb)/\W.cell? ⟨b,o+i*9+1,none⟩=some (.bool rs1)/\W.cell? ⟨b,o+i*9+2,none⟩=some (.bool re)/\W.cell? ⟨b,o+i*9+3,none⟩=some (.int .i64 e0)/\W.cell? ⟨b,o+i*9+4,none⟩=some (.slice eo en ec)/\W.cell? ⟨b,o+i*9+5,none⟩=some (.slice ek em ep)/\W.cell? ⟨b,o+i*9+6,none⟩=some (.int .i64 f0)/\W.cell? ⟨b,o+i*9+7,none⟩=some (.slice fo fn fc)/\W.cell? ⟨b,o+i*9+8,none⟩=some (.slice fk fm fp)from by have hNl:=tc (ag HN5.o) HBv.o.size;have hc1:∀k v,wr.cell? ⟨b,k,none⟩=some v->W.cell? ⟨b,k,none⟩=some v:=fun k v hk=>(h.cell (p:=⟨b,k,none⟩) hb).trans hk;have hc2:∀k v,wr.cell? ⟨F,k,none⟩=some v->W.cell? ⟨F,k,none⟩=some v:=fun k v hk=>(h.cell (p:=⟨F,k,none⟩) hF).trans hk;have hc3:∀k v,wr.cell? ⟨g,k,none⟩=some v->W.cell? ⟨g,k,none⟩=some v:=fun k v hk=>(h.cell (p:=⟨g,k,none⟩) hgl).trans hk;exact⟨(h.cell (p:=⟨w.heap.size,0,none⟩) hNl).trans y0,hc2 _ _ b0,hc2 _ _ b1,hc2 _ _ b2,hc2 _ _ b3,hc3 _ _ d0,hc3 _ _ d1,hc1 _ _ a0,hc1 _ _ a1,hc1 _ _ a2,hc1 _ _ a3,hc1 _ _ a4,hc1 _ _ a5,hc1 _ _ a6,hc1 _ _ a7,hc1 _ _ a8⟩);have e4:tk.wrap ((k:Int)-1)=(k:Int)-1:=by unfold IntKind.wrap IntKind.bits IntKind.signed;simp;omega
      have e5:((k:Int)-1).toNat=k-1:=by omega
      have e6:(0:Int)<=(k:Int)-1:=by omega
      have e7:(k:Int)-1<(n:Int):=by omega
      have e8:(1:Int)<=(k:Int):=by omega
      have y9:=y0;clear a1 a2 a3 a4 a5 a6 a7 a8 p1 p2 b0 b1 b2 b3 q1 q2 q3 q4 d0 d1 ha hz hrb hrs1 hre hp1 hp2 hln hsn hmy hk1l hkl2 HGa HGz HSOk HROk;go_wp2_with fail;clear y9;refine aw [(0,true),(1,true),(2,true),(3,true),(4,true),(5,true),(6,true),(7,true),(8,true),(9,true),(10,true),(11,true),(12,true),(13,false),(14,true),(15,true),(16,true),(17,true),(18,true),(19,true),(20,true),(21,true),(22,false),(23,true)] (fun W=>W.cell? ⟨w.heap.size,0,none⟩=some (.slice (some ⟨b,o,none⟩) rn rc)/\W.cell? ⟨F,i*4,none⟩=some (.slice lo ln lc)/\W.cell? ⟨F,i*4+1,none⟩=some (.slice so sn sc)/\W.cell? ⟨F,i*4+2,none⟩=some (.bool p1')/\W.cell? ⟨F,i*4+3,none⟩=some (.bool p2')/\W.cell? ⟨g,k-1,none⟩=some (.int .i64 a)/\W.cell? ⟨g,k,none⟩=some (.int .i64 z)/\W.cell? ⟨b,o+i*9,none⟩=some (.bool rb)/\W.cell? ⟨b,o+i*9+1,none⟩=some (.bool rs1)/\W.cell? ⟨b,o+i*9+2,none⟩=some (.bool re)/\W.cell? ⟨b,o+i*9+3,none⟩=some (.int .i64 e0)/\W.cell? ⟨b,o+i*9+4,none⟩=some (.slice eo en ec)/\W.cell? ⟨b,o+i*9+5,none⟩=some (.slice ek em ep)/\W.cell? ⟨b,o+i*9+6,none⟩=some (.int .i64 f0)/\W.cell? ⟨b,o+i*9+7,none⟩=some (.slice fo fn fc)/\W.cell? ⟨b,o+i*9+8,none⟩=some (.slice fk fm fp)) (fun _=>false) (by kernel_rfl) (by kernel_rfl) (fun j hj=>by cases hj) rfl (by kernel_rfl) (HSS.o _ (show sG wr.heap.size wr wr.drew from(sI _ _).drew)) ?_
      iterate 13 (refine aF ?_ rfl (by kernel_rfl) (fun w' hS=>?_) ?_;(rotate_left;(obtain⟨s0,s1,s2,s3,s4,s5,s6,s7,s8,s9,s10,s11,s12,s13,s14,s15⟩:=hS;go_simp;with_reducible rfl);rotate_left))
      refine au rfl (by kernel_rfl) fun KK hKK=>?_;go_simp;have HBd:ae (sG wr.heap.size wr wr.drew):=aa ((sI _ _).drew);refine(HMay.o wr.drew HBd.o).mono ?_;rintro e w6 ⟨rfl,hB6⟩;have HB6:=aa (HBd.o.trans (hB6.mono HBd.o.size));clear hB6 HBd HMay;refine hKK _ _ (fun _=>HSS.o _ HB6.o) ?_;clear hKK;cases my with
      |false=>
       have HNA:=aa (HNo.o rfl);refine aF ?_ rfl (by kernel_rfl) (fun w' hS=>?_) ?_;rotate_left
       ·go_simp;with_reducible rfl
       rotate_left
       iterate 7 (refine znK rfl (by kernel_rfl) ?_)
       refine zcS rfl (by kernel_rfl) (HSS.o _ HB6.o) ?_;refine aF ?_ rfl (by kernel_rfl) (fun w' hS=>?_) ?_;rotate_left
       ·go_simp;with_reducible rfl
       rotate_left;refine ba (tq ?_);have HD2:=aa (HDc.o.trans (HNoD.o HNA.o));have HBo:=aa (HBi.o.trans (HB6.o.mono HBi.o.size));clear a0;go_simp;go_wp2;go_roundw
       case rel=>exact⟨i+1,rfl,by go_num,by omega,HD2,HBo⟩
       case measure=>simp[sS];omega
      |true=>
       iterate 8 (refine aF ?_ rfl (by kernel_rfl) (fun w' hS=>?_) ?_;(rotate_left;(obtain⟨s0,s1,s2,s3,s4,s5,s6,s7,s8,s9,s10,s11,s12,s13,s14,s15⟩:=hS;go_simp;with_reducible rfl);rotate_left))
       refine au rfl (by kernel_rfl) fun KK hKK=>?_;go_simp;refine(HAp.o w6 HB6.o).mono ?_;rintro e w7 ⟨ap,rfl,hap,hB7⟩;have HB7:=aa (HB6.o.trans (hB7.mono HB6.o.size));have HAP:=aa hap;clear hB7 hap HAp;refine hKK _ _ (fun _=>HSS.o _ HB7.o) ?_;clear hKK;refine aF ?_ rfl (by kernel_rfl) (fun w' hS=>?_) ?_;rotate_left
       ·go_simp;with_reducible rfl
       rotate_left;refine ba (tq ?_);have HBo:=aa (HBi.o.trans (HB7.o.mono HBi.o.size));obtain⟨s0,_,_,_,_,_,_,s7,_⟩:=HSS.o w7 HB7.o;clear a0;cases ap with
       |false=>
        have HD2:=aa (HDc.o.trans (HNoD.o fun h=>by have:=HAP.o.2 h;cases this));go_wp2;go_roundw
        case rel=>exact⟨i+1,rfl,by go_num,by omega,HD2,HBo⟩
        case measure=>simp[sS];omega
       |true=>
        have HV:ae (A k=rb):=aa (HDk.o.trans (HDc.o.trans (HYes.o (HAP.o.1 rfl))));have HBq:=aa (HB.o.trans (HBo.o.mono HB.o.size));have HOq:=aa (ay HOw.o HBo.o);clear HSS HNo HYes HNoD e4 e5 e6 e7 e8;obtain⟨v,hv⟩:=aj rb;rw[<-hv]at HV s7;clear hv;cases v with
        |true=>
         have HAk:ae (A k=true):=aa HV.o;obtain⟨gx,hgx,_,_,cx0,_⟩:=HT.o w7 HBq.o k _ (kq l k x hxk);cases hgx;have cx:w7.cell? ⟨gx0,k*3+1,none⟩=some (.int .i64 (Wt.pos l k:Nat)):=cx0;clear cx0;have HA:ae (kN A l (k+1)=kN A l k++[Wt.pos l k]):=aa (oV HAk.o);obtain⟨pq,hpq⟩:=aj (Wt.pos l k);rw[<-hpq]at cx HA;clear hpq;go_wp2_with (at_builtin;refine dd rfl _ _ rfl w5.heap.size (.slice vo m vc) m (toZ (kN A l k)) rfl (ay HOq.o af) (some ⟨w7.heap.size,0,none⟩) 1 1 [(pq:Int)] rfl (cm (heap_alloc_new _ _)) rfl (by omega) (by have:=HBq.o.size;simp;omega) ?_;intro vo9 vc9 w9 ho9 hg9 _;have HB9:=aa ((HBq.o.trans ((af (w:=w7) (o:=.cells #[.int .i64 (pq:Int)] 3)).mono HBq.o.size)).trans (am (ay HOq.o af) hg9 (by have:=HBq.o.size;simp;omega)));have HO9:=aa ho9;clear ho9 hg9);go_roundw
         case rel=>exact⟨k+1,m+1,vo9,vc9,rfl,by go_num,by omega,by omega,aa (by rw[HA.o,sQ,HM.o];rfl),aa (by rw[HA.o,kV];exact HO9.o),HB9⟩
         case measure=>simp[sS];omega
        |false=>
         have HAk:ae (A k=false):=aa HV.o;have HA:ae (kN A l (k+1)=kN A l k):=aa (zpp HAk.o);go_wp2;go_roundw
         case rel=>exact⟨k+1,m,vo,vc,rfl,by go_num,by omega,by omega,aa (by rw[HA.o];exact HM.o),aa (by rw[HA.o];exact HOq.o),HBq⟩
         case measure=>simp[sS];omega
     ·have j1:¬(i:Int)<(rn:Int):=by omega
      have HV:ae (A k=rest):=aa (by have h1:=HDk.o.trans HDc.o;rwa [tH (by have:=HRN.o;omega),zxc]at h1);have HOq:=aa (ay HOw.o HBi.o);cases rest with
      |true=>
       have HAk:ae (A k=true):=aa HV.o;obtain⟨gx,hgx,_,_,cx0,_⟩:=HT.o wr HBv.o k _ (kq l k x hxk);cases hgx;have cx:wr.cell? ⟨gx0,k*3+1,none⟩=some (.int .i64 (Wt.pos l k:Nat)):=cx0;clear cx0;have HA:ae (kN A l (k+1)=kN A l k++[Wt.pos l k]):=aa (oV HAk.o);obtain⟨pq,hpq⟩:=aj (Wt.pos l k);rw[<-hpq]at cx HA;clear hpq;go_wp2_with (at_builtin;refine dd rfl _ _ rfl w5.heap.size (.slice vo m vc) m (toZ (kN A l k)) rfl (ay HOq.o af) (some ⟨wr.heap.size,0,none⟩) 1 1 [(pq:Int)] rfl (cm (heap_alloc_new _ _)) rfl (by omega) (by have:=HBv.o.size;simp;omega) ?_;intro vo9 vc9 w9 ho9 hg9 _;have HB9:=aa ((HBv.o.trans ((af (w:=wr) (o:=.cells #[.int .i64 (pq:Int)] 3)).mono HBv.o.size)).trans (am (ay HOq.o af) hg9 (by have:=HBv.o.size;simp;omega)));have HO9:=aa ho9;clear ho9 hg9);go_roundw
       case rel=>exact⟨k+1,m+1,vo9,vc9,rfl,by go_num,by omega,by omega,aa (by rw[HA.o,sQ,HM.o];rfl),aa (by rw[HA.o,kV];exact HO9.o),HB9⟩
       case measure=>simp[sS];omega
      |false=>
       have HAk:ae (A k=false):=aa HV.o;have HA:ae (kN A l (k+1)=kN A l k):=aa (zpp HAk.o);go_wp2;go_roundw
       case rel=>exact⟨k+1,m,vo,vc,rfl,by go_num,by omega,by omega,aa (by rw[HA.o];exact HM.o),aa (by rw[HA.o];exact HOq.o),HBv⟩
       case measure=>simp[sS];omega
  ·have i1:¬(k:Int)<=(n:Int):=by omega
   obtain rfl:k=n+1:=by omega
   have HQ:ae (LsQ w (kN A l (n+1)) (.returned (.slice vo m vc)) wr):=aa (by have h1:=HOw.o;rw[show bk (toZ (kN A l (n+1)))=kF (kN A l (n+1))from zoe _,HM.o]at h1;exact⟨vo,vc,by rw[HM.o],aW h1 (by have:=HB5.o.size;omega),HB5.o.trans (HB.o.mono HB5.o.size)⟩);go_wp2;go_ret;exact HQ.o
end Pt
end
section
open Go.RowKit
namespace Pt
set_option maxRecDepth 100000 in
theorem zcv(U:List (List UInt8))(D:List Dc.Tr)(rs:List Rl)(rest:Bool)(hrs:∀r∈rs,zhD r)(hr9:rs.length<=1000)(hC:Dc.nT 0 D 1114112)(hc:∀g∈D,g.2.2<U.length)(hU:U.length<=1000)(hA:D.length<=10000000)(Q:Nat)(ro:Option Addr)(rc:Nat)(l:List UInt8)(hl:l.length<=80000)(hne:l=[])(w:sK)(hD:Dc.Bk U D Q w)(hR:zcN w ro rs):
  tC Tryz.prog 47 #[.pointer (some ⟨Q,0,none⟩),.agg #[.slice ro rs.length rc,.bool rest],.string ⟨l.toArray⟩] w (LsQ w []):=by
 obtain⟨B,nv,sv,vs,hD⟩:=hD;have HD:=aa (fun(W:sK)(h:sG w.heap.size w W)=>hD.below h);have HR:=aa (fun(W:sK)(h:sG w.heap.size w W)=>hR.below h);have HRs:=aa hrs;have HDB:=aa (sV hC (sV hc (sV hU hA)));have HTl:=aa (zbe l);obtain⟨rn,hrn⟩:=aj rs.length;have HRN:=aa hrn;rw[<-hrn]at hr9⊢;obtain⟨n,hn⟩:=aj ((rl l).length);have HN:=aa hn;rw[<-hn]at HTl;have HN0:ae (n=0):=aa (by rw[hn,hne];rfl);have HLl:=aa hl;clear hD hR hrs hC hc hU hA hne hl hn hrn;have HBX:=aa (fun(o:Obj)=>af (w:=w) (o:=o));go_enter Tryz.func47,Tryz.ntmps47;go_wp2_with fail;obtain⟨w1,hw1⟩:=aj ((w.alloc (.cells #[.slice ro rn rc,.bool rest] 63)).alloc (.cells #[.pointer (some ⟨Q,0,none⟩),.slice ro rn rc,.bool rest,.slice none 0 0,.slice none 0 0,.int .i64 0,.int .i64 0] 96));have HB1:ae (sG w.heap.size w w1):=aa (by rw[hw1];exact((sI _ _).alloc (sE _) _).alloc (by simp) _);have HN1:ae (w1.heap[w.heap.size]?=some (.cells #[.slice ro rn rc,.bool rest] 63)):=aa (by rw[hw1];exact(tQ _ _ _ (by simp)).trans (heap_alloc_new w _));have HX1:=aa (show w1.heap[w.heap.size+1]?=some (.cells #[.pointer (some ⟨Q,0,none⟩),.slice ro rn rc,.bool rest,.slice none 0 0,.slice none 0 0,.int .i64 0,.int .i64 0] 96) by have:=heap_alloc_new (w.alloc (.cells #[.slice ro rn rc,.bool rest] 63)) (.cells #[.pointer (some ⟨Q,0,none⟩),.slice ro rn rc,.bool rest,.slice none 0 0,.slice none 0 0,.int .i64 0,.int .i64 0] 96);rw[tR]at this;rw[hw1];exact this);rw[<-hw1];clear hw1;refine(Dc.jg l w1 (by have:=HLl.o;omega)).mono ?_;rintro e w2 ⟨xo,xc,rfl,hT,hB2⟩;rw[HTl.o];have HB2:=aa (HB1.o.trans (hB2.mono HB1.o.size));have HB12:=aa hB2;have HT2:=aa hT;clear hT hB2;go_wp2_with fail;refine(nP U D HDB.o.1 HDB.o.2.1 HDB.o.2.2.1 HDB.o.2.2.2 B Q nv sv vs (w.heap.size+1) l xo n xc w2 (HD.o w2 HB2.o) (by rw[sU w2 _ 0 _ _ _ ((HB12.o.block _ (ag HX1.o)).trans HX1.o)];rfl) (tc (ag HX1.o) HB12.o.size) HT2.o HN.o (by have:=HN0.o;omega)).mono ?_;rintro e w3 ⟨co,cc,rfl,hO3,hB3⟩;have HB3:=aa (HB2.o.trans (hB3.mono HB2.o.size));have HB13:=aa (HB12.o.trans (hB3.mono HB12.o.size));have HT3:=aa (HT2.o.below hB3);have hN3:=(HB13.o.block _ (ag HN1.o)).trans HN1.o;have x0:w3.cell? ⟨w.heap.size,0,none⟩=some (.slice ro rn rc):=by rw[sU w3 _ 0 _ _ _ hN3];rfl
 have x1:w3.cell? ⟨w.heap.size,1,none⟩=some (.bool rest):=by rw[sU w3 _ 1 _ _ _ hN3];rfl
 clear hO3 hB3 hN3 HT2;go_wp2_with fail;refine(sA rest rs HRs.o ro rn rc HRN.o hr9 w3 (HR.o w3 HB3.o)).mono ?_;rintro e w5 ⟨uo,uc,sds,rfl,hsl,hsk,hsr,hB5⟩;have HB5:=aa (HB3.o.trans (hB5.mono HB3.o.size));have HSl:=aa hsl;have HSk:=aa hsk;have HSr:=aa hsr;have HN5:=aa ((((HB13.o.trans (hB5.mono HB13.o.size))).block _ (ag HN1.o)).trans HN1.o);rw[<-HRN.o];obtain rfl:=HN0.o;clear hsl hsk hsr hB5 x0 x1 HD HDB;go_wp2;go_loopw [11,12] (fun x y wr=>x=.slice none 0 0/\y=.int .i64 0/\wr=w5) (fun _ _ _=>0)
 case atStart=>exact⟨rfl,rfl,rfl⟩
 case round=>obtain⟨rfl,rfl,rfl⟩:=hrel;have HQ:ae (LsQ w [] (.returned (.slice none 0 0)) wr):=aa ⟨none,0,rfl,sT _ _ _ _,HB5.o⟩;go_wp2;go_ret;exact HQ.o
theorem zcw(U:List (List UInt8))(D:List Dc.Tr)(rs:List Rl)(rest:Bool)(hrs:∀r∈rs,zhD r)(hr9:rs.length<=1000)(hC:Dc.nT 0 D 1114112)(hc:∀g∈D,g.2.2<U.length)(hU:U.length<=1000)(hA:D.length<=10000000)(Q:Nat)(ro:Option Addr)(rc:Nat)(l:List UInt8)(hl:l.length<=80000)(w:sK)(hD:Dc.Bk U D Q w)(hR:zcN w ro rs):
  tC Tryz.prog 47 #[.pointer (some ⟨Q,0,none⟩),.agg #[.slice ro rs.length rc,.bool rest],.string ⟨l.toArray⟩] w (LsQ w (zrL D rs rest l)):=by
 unfold zrL;split
 ·exact zcv U D rs rest hrs hr9 hC hc hU hA Q ro rc l hl ‹_› w hD hR
 ·exact zfu U D rs rest hrs hr9 hC hc hU hA Q ro rc l hl ‹_› w hD hR
end Pt
end
namespace Wd
open Go.RowKit Wt
theorem zgs:∀(n:Nat)(l:List UInt8),l.length<=n->∀x∈rl l,x.1<=1114111
 |n,l,hn,x,hx=>by
  by_cases hl:l=[]
  ·rw[hl,iA]at hx;cases hx
  ·have h1:=dec_ge l hl;have hp:0<l.length:=tp.2 hl;rw[bD l hl]at hx;rcases List.mem_cons.1 hx with rfl|hx
   ·exact dec_rune l hl
   ·cases n with
    |zero=>omega
    |succ n=>exact zgs n _ (by rw[sM];omega) x hx
theorem zhP:Dc.od.length=20:=by decide
theorem zou(l:List UInt8):Wo.Cls (fw l):=fun c hc=>by unfold fw at hc;obtain⟨x,hx,rfl⟩:=sP.1 hc;have h:=zgs _ l (sE _) x hx;have h2:=Dc.zop Dc.wdW _ Dc.zfU Dc.zfV (x.1:Int) (by omega) (by omega);rw[Dc.zfT (x.1:Int) (by omega) (by omega)];rw[zhP]at h2;exact⟨by omega,by omega⟩
theorem zvA:∀r∈Pt.rh,Pt.zhD r:=Pt.zkH (by decide+kernel)
theorem zsY(l:List UInt8):Pt.lV Dc.wdW l=fw l:=by unfold Pt.lV Pt.dcl fw;rw[t6];apply List.map_congr_left;intro x hx;have h:=zgs _ l (sE _) x hx;show((Dc.gtp (Dc.cQ (x.1:Int)) Dc.wdW:Nat):Int)=bf (x.1:Int);rw[show Dc.cQ (x.1:Int)=(x.1:Int) by unfold Dc.cQ;rw[if_neg (by omega)],Dc.zfT _ (by omega) (by omega)]
theorem zsf(l:List UInt8):Pt.zrL Dc.wdW Pt.rh true l=gD l:=by
 unfold Pt.zrL gD;by_cases h:l=[]
 ·rw[if_pos h,if_pos h]
 rw[if_neg h,if_neg h,zsY];have hne:fw l≠ []:=fun e=>by rw[zca l h]at e;cases e
 unfold Pt.kN gF jD;refine Sg.zja ?_ ?_ (fun k h0 hk=>?_) l
 ·unfold Pt.zfn;rw[if_neg hne,if_pos (.inl rfl)]
 ·unfold Pt.zfn;rw[if_neg hne,if_pos (.inr (zha l).symm)]
 ·have hk':k<(fw l).length:=by rw[zha];exact hk
  unfold Pt.zfn;rw[if_neg hne,if_neg (by omega),Wo.zsZ (zou l) h0 hk'];unfold wC;exact(oe l k hk).symm
set_option maxRecDepth 100000 in
theorem wdP_len:Dc.wdP.length<=12000:=by decide+kernel
theorem zta:Dc.eT Dc.od=Pt.av:=by rfl
set_option maxRecDepth 100000 in
theorem db12(w:sK):tC Tryz.prog 44 #[] w fun e w'=>sG w.heap.size w w'/\∃Q,e=.returned (.pointer (some ⟨Q,0,none⟩))/\Dc.Bk Dc.od Dc.wdW Q w':=by go_enter Tryz.func44,Tryz.ntmps44;go_wp2_with fail;refine(Dc.zis _ Dc.wdP w (by kernel_rfl) (.inl wdP_len) Dc.od Dc.wdS Dc.wdW Dc.zse Dc.zlL).mono ?_;rintro e w1 ⟨hb,Q,rfl,hk⟩;have HB:=aa hb;have HK:=aa hk;clear hb hk;go_wp2;go_ret;exact⟨HB.o,Q,rfl,HK.o⟩
set_option maxRecDepth 100000 in
theorem zkn(l:List UInt8)(hl:l.length<=80000)(w:sK):tC Tryz.prog 12 #[.string ⟨l.toArray⟩] w (Pt.LsQ w (gD l)):=by have HL:=aa hl;clear hl;go_enter Tryz.func12,Tryz.ntmps12;go_wp2_with fail;refine(db12 w).mono ?_;rintro e w1 ⟨hb,Q,rfl,hk⟩;have HB1:=aa hb;have HK:=aa hk;clear hb hk;go_wp2_with fail;refine(Dc.zhj Dc.od Dc.wdW Q w1 HK.o (by decide) (by decide)).mono ?_;rintro e w2 ⟨g,nc,rfl,hn,hg,hb2⟩;rw[zhP];have HPg:=aa (Pt.zlM g nc w2 (by rw[<-zta];exact hn));have HG:=aa hg;have HB2:=aa hb2;clear hn hg hb2;go_wp2_with fail;refine(HPg.o).mono ?_;rintro e w3 ⟨ro,rc,rfl,hr,ho⟩;have HB3:=aa (HB2.o.trans (ho.below HB2.o.size HG.o));have HR:=aa hr;clear hr ho HPg;have HBd:=aa (fun(W:sK)(h:sG w3.heap.size w3 W)=>Pt.zcw Dc.od Dc.wdW Pt.rh true zvA (by decide) Dc.zfU Dc.zfV (by decide) (by decide) Q ro rc l HL.o W ((HK.o.below HB3.o).below h) (HR.o.below h));obtain⟨n,hn⟩:=aj Pt.rh.length;rw[<-hn]at HBd⊢;clear hn HR HB2 HG;go_wp2_with fail;have HBw:ae (sG w3.heap.size w3 (w3.alloc (.cells #[.slice ro n rc,.bool true] 63))):=aa ((sI _ _).alloc (sE _) _);refine(HBd.o _ HBw.o).mono ?_;rintro e w4 ⟨vo,vc,rfl,hO,hB4⟩;have HQ:ae (Pt.LsQ w (gD l) (.returned (.slice vo (gD l).length vc)) w4):=aa (by rw[zsf]at hO;have hs:=tO HB1.o.size HB3.o.size;exact⟨vo,vc,rfl,Pt.aW hO (by have:=HBw.o.size;omega),HB1.o.trans ((HB3.o.mono HB1.o.size).trans ((HBw.o.trans (hB4.mono HBw.o.size)).mono hs))⟩);rw[zsf];clear hO hB4 HBd HBw HB1 HB3 HK;go_wp2;go_ret;exact HQ.o
end Wd
namespace Wd
open Go.RowKit Wt
theorem og(l:List UInt8):(gD l).length<=l.length+1:=by
 unfold gD;split
 ·exact sJ _
 ·have h:∀{p e:Nat} {P:List (Nat×Nat)},Br.jH p e P->P.length+p<=e:=by
   intro p e P h
   induction h with
   |nil=>simp
   |cons h1 _ ih=>rw[tD];omega
  have h2:=h (bP l);unfold gF Br.kf;rw[tD,sZ];omega
end Wd
namespace Wd
open Go.RowKit Wt Br
theorem zuO{w w':sK}{L:List Nat}{e:Ending}(h:Pt.LsQ w L e w'):∃vo vc,e=.returned (.slice vo L.length vc)/\(L.length=0\/∃g,vo=some ⟨g,0,none⟩)/\Pt.eS w' vo (L.map fun(x:Nat)=>(x:Int))/\sG w.heap.size w w':=by
 obtain⟨vo,vc,rfl,ho,hb⟩:=h;refine⟨vo,vc,rfl,?_,Pt.ox ho rfl,hb⟩;rcases ho.2 with ⟨_,h2⟩|⟨g,_,_,h1,_⟩
 ·exact .inl h2
 ·cases h1;exact .inr ⟨g,rfl⟩
end Wd
namespace Wd
open Go.RowKit Wt
theorem Tryz.infoPiece:(Tryz.prog.info? 45).map (fun i=>(i.zero,i.size,i.bytes))=some (some (.agg #[.int .i64 0,.int .i64 0,.int .i64 0]),3,24):=by kernel_rfl
theorem Tryz.underPieces:Tryz.prog.underlying 38=some (.slice 45):=by kernel_rfl
def pc3(l:List UInt8)(x:Nat×Nat):List Value:=[.int .i64 (x.1:Nat),.int .i64 (x.2:Nat),.int .i64 (rkd (cu (lq l x)):Nat)]
def jG(l:List UInt8)(P:List (Nat×Nat)):List Value:=P.flatMap (pc3 l)
theorem zaC(l:List UInt8)(P:List (Nat×Nat))(x:Nat×Nat):jG l (P++[x])=jG l P++pc3 l x:=by simp[jG]
theorem zkF(l:List UInt8):∀k x,(jD l)[k]?=some x->(gD l)[k]?=some x.1/\(gD l)[k+1]?=some x.2/\x.1<x.2/\x.2<=l.length:=fun k x hx=>by
 obtain⟨L,hL,hA,_⟩:=rM l;rw[<-hL,sL]at hx;cases hy:L[k]? with
 |none=>rw[hy]at hx;cases hx
 |some y=>rw[hy]at hx;cases hx;obtain⟨h1,h2,h3⟩:=hA k y hy;exact⟨h1,h2,h3,y.le⟩
theorem gL(l:List UInt8):(gD l).length-1=(jD l).length:=by obtain⟨L,hL,_,h,_⟩:=rM l;rw[h,<-hL,sZ]
set_option maxRecDepth 100000 in
theorem zdZ(l:List UInt8)(hl:l.length<=80000)(w:sK):
  tC Tryz.prog 52 #[.string ⟨l.toArray⟩] w fun e w'=>∃vo vc,e=.returned (.slice vo (jD l).length vc)/\w'.ownsRow w.heap.size 45 3 (.slice vo (jD l).length vc) (jD l).length (jG l (jD l))/\sG w.heap.size w w':=by
 have HBD:=aa (zkn l hl w);have HA:=aa (zkF l);have hDn:=gL l;have hm9:(gD l).length<=80001:=by have:=og l;omega
 have HLl:=aa hl;obtain⟨D,hD⟩:=aj (gD l);obtain⟨P,hP⟩:=aj (jD l);rw[<-hD]at HBD HA hDn hm9;rw[<-hP]at HA hDn⊢;obtain⟨m,hm⟩:=aj D.length;obtain⟨n,hn⟩:=aj P.length;rw[<-hm,<-hn]at hDn;rw[<-hm]at hm9;rw[<-hn];have HM:=aa hm;have HN:=aa hn;clear hl hD hP;go_enter Tryz.func52,Tryz.ntmps52;go_wp2_with fail;refine HBD.o.mono ?_;rintro e w1 h1;obtain⟨uo,uc,rfl,h0,hr,hb1⟩:=zuO h1;rw[<-hm]at h0⊢;have H0:=aa h0;have HR:=aa hr;have HB1:=aa hb1;clear h1 h0 hr hb1 HBD hm hn;go_wp2;go_loopw [3,5] (fun x y wr=>∃(k:Nat)(vo:Option Addr)(vc:Nat),x=.slice vo k vc/\y=.int .i64 (k+1:Nat)/\k<=n/\ae (wr.ownsRow w1.heap.size 45 3 (.slice vo k vc) k (jG l (P.take k)))/\ae (sG w1.heap.size w1 wr)) (fun _ y _=>n+1-(sS y).toNat)
 case atStart=>exact⟨0,none,0,rfl,rfl,sJ _,aa (sT _ _ _ _),aa (sI _ _)⟩
 case round=>
  obtain⟨k,vo,vc,rfl,rfl,hk,HO,HB⟩:=hrel;obtain⟨k1,hk1⟩:=aj (k+1);rw[<-hk1];by_cases hlt:k<n
  ·have hkP:k<P.length:=by have:=HN.o;omega
   obtain⟨x,hx⟩:∃x,P[k]?=some x:=⟨_,sD hkP⟩;have HT:ae (P.take k1=P.take k++[x]):=aa (by rw[hk1,tP,hx];rfl);obtain⟨a0,b0,hab,hbl⟩:=HA.o k x hx;rw[<-hk1]at b0;obtain⟨g,rfl⟩:∃g,uo=some ⟨g,0,none⟩:=by
    rcases H0.o with h|h
    ·omega
    ·exact h
   obtain⟨a,ha⟩:=aj x.1;obtain⟨b,hb⟩:=aj x.2;have HX:ae (x=(a,b)):=aa (by rw[ha,hb]);rw[<-ha]at a0 hab;rw[<-hb]at b0 hab hbl;have HS1:=aa (fun(W:sK)(h:sG w1.heap.size w1 W)=>show W.cell? ⟨g,k,none⟩=some (.int .i64 (a:Nat))/\W.cell? ⟨g,k1,none⟩=some (.int .i64 (b:Nat))from by
    have hR:=HR.o.below h;constructor
    ·obtain⟨q,h1,_,h3⟩:=hR k (a:Int) (by rw[sL,a0];rfl);cases h1;rw[Addr.add_lit,tG]at h3;exact h3
    ·obtain⟨q,h1,_,h3⟩:=hR k1 (b:Int) (by rw[sL,b0];rfl);cases h1;rw[Addr.add_lit,tG]at h3;exact h3)
   have HSS:=aa (fun(W:sK)(h:sG wr.heap.size wr W)=>HS1.o W (HB.o.trans (h.mono HB.o.size)));have e5:(k1:Int)-1=(k:Int):=by omega
   have e6:tk.wrap (k:Int)=(k:Int):=by rw[sW];omega
   have i0:(0:Int)<=(k:Int):=by omega
   have i1:(k:Int)<(m:Int):=by omega
   have i2:(0:Int)<=(k1:Int):=by omega
   have i3:(k1:Int)<(m:Int):=by omega
   have x0:(0:Int)<=(a:Int):=by omega
   have x1:(a:Int)<=(b:Int):=by omega
   have x2:(b:Int)<=(l.length:Int):=by omega
   have HKd:=aa (fun(W:sK)=>zkB (lq l (a,b)) W (by unfold lq;rw[sM,tE];have:=HLl.o;omega));obtain⟨kd,hkd⟩:=aj (rkd (cu (lq l (a,b))));rw[<-hkd]at HKd;have HV:ae (pc3 l x=[.int .i64 (a:Nat),.int .i64 (b:Nat),.int .i64 (kd:Nat)]):=aa (by rw[HX.o,hkd];rfl);have HK1:=aa hk1;clear a0 b0 hx ha hb hkd hk1 hkP;go_wp2_with fail;refine aw [(0,true),(1,true),(2,true),(3,true),(4,true),(5,true),(6,true),(7,true),(8,true),(9,true),(10,true),(11,true),(12,true),(13,true),(14,true),(15,true),(16,true),(17,true),(18,true),(19,true),(20,true),(21,false),(22,true),(23,false),(24,false),(25,true)] (fun W=>W.cell? ⟨g,k,none⟩=some (.int .i64 (a:Nat))/\W.cell? ⟨g,k1,none⟩=some (.int .i64 (b:Nat))) (fun _=>false) (by kernel_rfl) (by kernel_rfl) (fun j hj=>by cases hj) rfl (by kernel_rfl) (HSS.o _ (show sG wr.heap.size wr wr.drew from(sI _ _).drew)) ?_
   iterate 21 (refine aF ?_ rfl (by kernel_rfl) (fun w' hS=>?_) ?_;(rotate_left;(obtain⟨s0,s1⟩:=hS;go_simp;with_reducible rfl);rotate_left))
   refine au rfl (by kernel_rfl) fun KK hKK=>?_;go_simp;rw[zhf];have HBd:ae (sG wr.heap.size wr wr.drew):=aa ((sI _ _).drew);refine(HKd.o wr.drew).mono ?_;rintro e w4 ⟨rfl,hB4⟩;have HB4:=aa (HBd.o.trans (hB4.mono HBd.o.size));clear hB4 HBd HKd;refine hKK _ _ (fun _=>HSS.o _ HB4.o) ?_;clear hKK;refine aF ?_ rfl (by kernel_rfl) (fun w' hS=>?_) ?_;rotate_left
   ·go_simp;with_reducible rfl
   rotate_left;refine au rfl (by kernel_rfl) fun KK hKK=>?_;go_simp;obtain⟨w5,hw5⟩:=aj (w4.alloc (.cells #[.int .i64 (a:Nat),.int .i64 (b:Nat),.int .i64 (kd:Nat)] 45));rw[<-hw5];have HB5:ae (sG w4.heap.size w4 w5):=aa (by rw[hw5];exact Pt.af);have HN5:ae (∀j u,[Value.int .i64 (a:Nat),.int .i64 (b:Nat),.int .i64 (kd:Nat)][j]?=some u->w5.cell? ((⟨w4.heap.size,0,none⟩:Addr).add j)=some u):=aa (by rw[hw5];exact Pt.ziE w4 _ _);clear hw5;have HBB:ae (sG wr.heap.size wr w5):=aa (HB4.o.trans (HB5.o.mono HB4.o.size));refine hKK _ _ (fun _=>HSS.o _ HBB.o) ?_;clear hKK;obtain⟨iR,hiR,hz0,hz1,hz2⟩:=info_parts Tryz.infoPiece;have HO5:ae (w5.ownsRow w1.heap.size 45 3 (.slice vo k vc) k (jG l (P.take k))):=aa ⟨HO.o.1,HO.o.2.imp (fun e=>e) fun⟨q',cap,cur,k1,k2,k3,k4⟩=>⟨q',cap,cur,k1,k2,(HBB.o.block q' (Pt.ag k3)).trans k3,k4⟩⟩;have HlB:ae (w1.heap.size<=w5.heap.size):=aa (tO HB.o.size HBB.o.size);have hn9:n<=80001:=by omega
   refine au rfl (by kernel_rfl) fun KK hKK=>?_;refine wp_append_lies _ _ _ 38 rfl w1.heap.size 45 iR (.agg #[.int .i64 0,.int .i64 0,.int .i64 0]) 3 24 Tryz.underPieces hiR hz0 hz1 hz2 rfl (by decide) (.slice vo k vc) k (jG l (P.take k)) rfl HO5.o ⟨w4.heap.size,0,none⟩ 1 1 [Value.int .i64 (a:Nat),.int .i64 (b:Nat),.int .i64 (kd:Nat)] rfl rfl HN5.o (fun u hu=>by simp at hu;rcases hu with h|h|h<;>rw[h]<;>rfl) (by decide) (by unfold maxLen;omega) (by omega) HlB.o w5.heap.size rfl ?_;intro g8 c8 w6 o6 gr6 hl6 hlt6;have hs6:w1.heap.size<=w5.heap.size:=HlB.o;have HB6:ae (sG w1.heap.size w1 w6):=aa ((HB.o.trans (HBB.o.mono HB.o.size)).grown gr6 hs6 (fun q hq=>by
    rcases HO5.o.2 with ⟨h1,_⟩|⟨q2,_,_,h1,h2,_⟩
    ·rw[h1]at hq;cases hq
    ·rw[h1]at hq;cases hq;exact h2))
   have HO6:ae (w6.ownsRow w1.heap.size 45 3 (.slice (some ⟨g8,0,none⟩) (k+1) c8) (k+1) (jG l (P.take k1))):=aa (by rw[HT.o,zaC,HV.o];exact o6);refine hKK _ _ (fun _=>HS1.o _ HB6.o) ?_;clear hKK;refine aF ?_ rfl (by kernel_rfl) (fun w' hS=>?_) ?_;rotate_left
   ·go_simp;with_reducible rfl
   rotate_left;refine ba (tq ?_);clear HB HB4 HB5 HN5 HBB HO HO5 HlB HSS HS1 o6 gr6 hl6 hlt6;go_simp;go_wp2;go_roundw
   case rel=>exact⟨k1,some ⟨g8,0,none⟩,c8,by rw[HK1.o],by go_num,by have:=HK1.o;omega,aa (by rw[<-HK1.o]at HO6;exact HO6.o),HB6⟩
   case measure=>have:=HK1.o;simp[sS];omega
  ·have i1:¬(k1:Int)<(m:Int):=by omega
   obtain rfl:k=n:=by omega
   have HQ:ae (∃vo' vc',Ending.returned (.slice vo k vc)=.returned (.slice vo' k vc')/\wr.ownsRow w.heap.size 45 3 (.slice vo' k vc') k (jG l P)/\sG w.heap.size w wr):=aa (by have h1:=HO.o;rw[tf (by rw[HN.o];exact sE _)]at h1;exact⟨vo,vc,rfl,⟨h1.1,h1.2.imp (fun e=>e) fun⟨q,cap,cur,k1,k2,k3⟩=>⟨q,cap,cur,k1,tO HB1.o.size k2,k3⟩⟩,HB1.o.trans (HB.o.mono HB1.o.size)⟩);go_wp2;go_ret;exact HQ.o
end Wd
namespace Wd
open Go.RowKit Wt
theorem oO(l:List UInt8):∀(P:List (Nat×Nat))(k:Nat)(x:Nat×Nat),P[k]?=some x->∀j,j<3->(jG l P)[k*3+j]?=(pc3 l x)[j]?
 |[],k,x,h,_,_=>by simp at h
 |y::P,0,x,h,j,hj=>by rw[List.getElem?_cons_zero]at h;cases h;show(pc3 l y++jG l P)[0*3+j]?=_;rw[Nat.zero_mul,tG,List.getElem?_append_left (by show j<3;exact hj)]
 |y::P,k+1,x,h,j,hj=>by rw[List.getElem?_cons_succ]at h;show(pc3 l y++jG l P)[(k+1)*3+j]?=_;rw[List.getElem?_append_right (by show 3<=_;omega),show(k+1)*3+j-(pc3 l y).length=k*3+j by show(k+1)*3+j-3=_;omega];exact oO l P k x h j hj
def fP(l:List UInt8)(x:Nat×Nat):Bool:=decide (3<=rkd (cu (lq l x)))
def zhE(w:sK)(vo:Option Addr)(l:List UInt8)(P:List (Nat×Nat)):Prop:=∀(k:Nat)(x:Nat×Nat),P[k]?=some x->∃g,vo=some ⟨g,0,none⟩/\g<w.heap.size/\w.cell? ⟨g,k*3,none⟩=some (.int .i64 (x.1:Nat))/\w.cell? ⟨g,k*3+1,none⟩=some (.int .i64 (x.2:Nat))/\w.cell? ⟨g,k*3+2,none⟩=some (.int .i64 (rkd (cu (lq l x)):Nat))
theorem zhE.below{w w':sK}{vo:Option Addr}{l:List UInt8}{P:List (Nat×Nat)}(h:zhE w vo l P)(hb:sG w.heap.size w w'):zhE w' vo l P:=fun k x hx=>by obtain⟨g,h1,h2,h3,h4,h5⟩:=h k x hx;exact⟨g,h1,tc h2 hb.size,(hb.cell (p:=⟨g,k*3,none⟩) h2).trans h3,(hb.cell (p:=⟨g,k*3+1,none⟩) h2).trans h4,(hb.cell (p:=⟨g,k*3+2,none⟩) h2).trans h5⟩
theorem zel{w:sK}{B n vc:Nat}{vo:Option Addr}{l:List UInt8}{P:List (Nat×Nat)}(h:w.ownsRow B 45 3 (.slice vo n vc) n (jG l P))(hn:n=P.length):zhE w vo l P:=fun k x hx=>by
 have hk:=(sO.1 hx).1;rcases h.2 with ⟨_,h0⟩|⟨g,cap,cur,h1,h2,h3,_⟩
 ·omega
 ·cases h1;obtain⟨_,_,_,hc⟩:=Pt.di h;refine⟨g,rfl,Pt.ag h3,hc _ _ ?_,hc _ _ ?_,hc _ _ ?_⟩
  ·exact(oO l P k x hx 0 (by decide)).trans rfl
  ·exact(oO l P k x hx 1 (by decide)).trans rfl
  ·exact(oO l P k x hx 2 (by decide)).trans rfl
set_option maxRecDepth 100000 in
theorem kr(l:List UInt8)(hl:l.length<=80000)(w:sK):
  tC Tryz.prog 23 #[.string ⟨l.toArray⟩] w fun e w'=>∃vo vc,e=.returned (.slice vo ((jD l).filter (fP l)).length vc)/\zhE w' vo l ((jD l).filter (fP l))/\sG w.heap.size w w':=by
 have HBD:=aa (zdZ l hl w);have hn9:(jD l).length<=80000:=by have:=gL l;have:=og l;omega
 obtain⟨P,hP⟩:=aj (jD l);rw[<-hP]at HBD hn9⊢;obtain⟨n,hn⟩:=aj P.length;rw[<-hn]at HBD hn9;have HN:=aa hn;clear hl hP hn;go_enter Tryz.func23,Tryz.ntmps23;go_wp2_with fail;refine HBD.o.mono ?_;rintro e w1 ⟨uo,uc,rfl,ho,hb1⟩;have HR:=aa (zel ho HN.o);have HB1:=aa hb1;clear ho hb1 HBD;go_wp2;go_loopw [3,5] (fun x y wr=>∃(k m:Nat)(vo:Option Addr)(vc:Nat),x=.slice vo m vc/\y=.int .i64 k/\k<=n/\m<=k/\ae (m=((P.take k).filter (fP l)).length)/\ae (wr.ownsRow w1.heap.size 45 3 (.slice vo m vc) m (jG l ((P.take k).filter (fP l))))/\ae (sG w1.heap.size w1 wr)) (fun _ y _=>n-(sS y).toNat)
 case atStart=>exact⟨0,0,none,0,rfl,rfl,sJ _,sE _,aa rfl,aa (sT _ _ _ _),aa (sI _ _)⟩
 case round=>
  obtain⟨k,m,vo,vc,rfl,rfl,hk,hmk,HM,HO,HB⟩:=hrel;by_cases hlt:k<n
  ·have hkP:k<P.length:=by have:=HN.o;omega
   obtain⟨x,hx⟩:∃x,P[k]?=some x:=⟨_,sD hkP⟩;obtain⟨g,rfl,hgl,c0,c1,c2⟩:=HR.o.below HB.o k x hx;have HT:ae ((P.take (k+1)).filter (fP l)=(P.take k).filter (fP l)++(if fP l x=true then [x]else [])):=aa (by rw[tP,hx,Option.toList_some,tr];congr 1;by_cases h:fP l x=true<;>simp[h]);obtain⟨a,ha⟩:=aj x.1;obtain⟨b,hb⟩:=aj x.2;obtain⟨kd,hkd⟩:=aj (rkd (cu (lq l x)));have HV:ae (pc3 l x=[.int .i64 (a:Nat),.int .i64 (b:Nat),.int .i64 (kd:Nat)]):=aa (by rw[ha,hb,hkd];rfl);rw[<-ha]at c0;rw[<-hb]at c1;rw[<-hkd]at c2;have i0:(0:Int)<=(k:Int):=by omega
   have i1:(k:Int)<(n:Int):=by omega
   by_cases h3:3<=kd
   ·have i2:(3:Int)<=(kd:Int):=by omega
    have HT2:ae ((P.take (k+1)).filter (fP l)=(P.take k).filter (fP l)++[x]):=aa (by rw[HT.o,if_pos (by unfold fP;rw[<-hkd];exact decide_eq_true h3)]);clear hx ha hb hkd hkP HT;obtain⟨iR,hiR,hz0,hz1,hz2⟩:=info_parts Tryz.infoPiece;have HO5:=aa (HO.o.alloc (.cells #[.int .i64 (a:Nat),.int .i64 (b:Nat),.int .i64 (kd:Nat)] 45));go_wp2_with ((at_builtin;refine wpList_append_lies _ rfl _ _ 38 rfl w1.heap.size 45 iR (.agg #[.int .i64 0,.int .i64 0,.int .i64 0]) 3 24 Tryz.underPieces hiR hz0 hz1 hz2 rfl (by decide) (.slice vo m vc) m (jG l ((P.take k).filter (fP l))) rfl HO5.o ⟨wr.heap.size,0,none⟩ 1 1 [Value.int .i64 (a:Nat),.int .i64 (b:Nat),.int .i64 (kd:Nat)] rfl rfl (Pt.ziE wr _ _) (fun u hu=>by simp at hu;rcases hu with h|h|h<;>rw[h]<;>rfl) (by decide) (by unfold maxLen;omega) (by omega) (by have:=HB.o.size;simp;omega) (wr.heap.size+1) (by simp) ?_;intro g8 c8 w6 o6 gr6 hl6 hlt6;have HO6:=aa o6;have HG6:=aa gr6;clear o6 gr6 hl6 hlt6));have HB6:ae (sG w1.heap.size w1 w6):=aa (((HB.o.trans (Pt.af.mono HB.o.size))).grown HG6.o (by have:=HB.o.size;simp;omega) (fun q hq=>by
     rcases HO5.o.2 with ⟨h1,_⟩|⟨q2,_,_,h1,h2,_⟩
     ·rw[h1]at hq;cases hq
     ·rw[h1]at hq;cases hq;exact h2))
    have HO7:ae (w6.ownsRow w1.heap.size 45 3 (.slice (some ⟨g8,0,none⟩) (m+1) c8) (m+1) (jG l ((P.take (k+1)).filter (fP l)))):=aa (by rw[HT2.o,zaC,HV.o];exact HO6.o);have HM7:ae (m+1=((P.take (k+1)).filter (fP l)).length):=aa (by rw[HT2.o,sQ,<-HM.o];rfl);clear HB HO HO5 HG6 HO6;go_roundw
    case rel=>exact⟨k+1,m+1,_,c8,rfl,by go_num,by omega,by omega,HM7,HO7,HB6⟩
    case measure=>simp[sS];omega
   ·have i2:¬(3:Int)<=(kd:Int):=by omega
    have HT2:ae ((P.take (k+1)).filter (fP l)=(P.take k).filter (fP l)):=aa (by rw[HT.o,if_neg (by unfold fP;rw[<-hkd];simp;omega),List.append_nil]);clear hx ha hb hkd hkP HT;go_wp2;go_roundw
    case rel=>exact⟨k+1,m,vo,vc,rfl,by go_num,by omega,by omega,aa (by rw[HT2.o];exact HM.o),aa (by rw[HT2.o];exact HO.o),HB⟩
    case measure=>simp[sS];omega
  ·have i1:¬(k:Int)<(n:Int):=by omega
   obtain rfl:k=n:=by omega
   have HQ:ae (∃vo' vc',Ending.returned (.slice vo m vc)=.returned (.slice vo' (P.filter (fP l)).length vc')/\zhE wr vo' l (P.filter (fP l))/\sG w.heap.size w wr):=aa (by have h1:=HO.o;have h2:=HM.o;rw[tf (by rw[HN.o];exact sE _)]at h1 h2;exact⟨vo,vc,by rw[h2],zel h1 h2,HB1.o.trans (HB.o.mono HB1.o.size)⟩);go_wp2;go_ret;obtain⟨vo',vc',h1,h2,h3⟩:=HQ.o;exact⟨vo',⟨vc',h1⟩,h2,h3⟩
end Wd
namespace Wd
open Go.RowKit Wt
def tup(o:Option (Nat×Nat)):Value:=match o with
 |some x=>.tuple #[.int .i64 (x.1:Nat),.int .i64 (x.2:Nat),.bool true]
 |none=>.tuple #[.int .i64 0,.int .i64 0,.bool false]
def q8(z:Int)(Q:List (Nat×Nat)):Option (Nat×Nat):=Q.find? fun x=>decide (z<=(x.1:Int))
def bef(z:Int)(Q:List (Nat×Nat)):Option (Nat×Nat):=Q.reverse.find? fun x=>decide ((x.2:Int)<=z)
def ot(l:List UInt8):List (Nat×Nat):=(jD l).filter (fP l)
theorem zil(l:List UInt8)(hl:l.length<=80000):(ot l).length<=80000:=by have:=gL l;have:=og l;have:(ot l).length<=(jD l).length:=tK _ _;omega
set_option maxRecDepth 100000 in
theorem zgy(l:List UInt8)(z:Int)(hl:l.length<=80000)(w:sK):
  tC Tryz.prog 27 #[.string ⟨l.toArray⟩,.int .i64 z] w fun e w'=>e=.returned (tup (q8 z (ot l)))/\sG w.heap.size w w':=by
 have HW:=aa (kr l hl w);have hn9:=zil l hl;obtain⟨Q,hQ⟩:=aj (ot l);rw[show(jD l).filter (fP l)=Q from hQ.symm]at HW;rw[<-hQ]at hn9⊢;obtain⟨n,hn⟩:=aj Q.length;rw[<-hn]at HW hn9;have HN:=aa hn;clear hl hQ hn;go_enter Tryz.func27,Tryz.ntmps27;go_wp2_with fail;refine HW.o.mono ?_;rintro e w1 ⟨vo,vc,rfl,hr,hb⟩;have HR:=aa hr;have HB:=aa hb;clear hr hb HW;go_wp2;go_loopw [8] (fun y wr=>∃i:Nat,y=.int .i64 i/\i<=n/\ae (sG w1.heap.size w1 wr)/\ae (q8 z Q=q8 z (Q.drop i))) (fun y _=>n-(sS y).toNat)
 case atStart=>exact⟨0,rfl,sJ _,aa (sI _ _),aa rfl⟩
 case round=>
  obtain⟨i,rfl,hi,HBr,HE⟩:=hrel;have HBw:=aa (HB.o.trans (HBr.o.mono HB.o.size));by_cases hlt:i<n
  ·have i0:(0:Int)<=(i:Int):=by omega
   have i1:(i:Int)<(n:Int):=by omega
   have hil:i<Q.length:=by have:=HN.o;omega
   obtain⟨x,hx⟩:=aj (Q[i]);obtain⟨g,rfl,_,c0,c1,_⟩:=HR.o.below HBr.o i x (by rw[hx];exact sD hil);have HS:=aa (show q8 z (Q.drop i)=if z<=(x.1:Int)then some x else q8 z (Q.drop (i+1)) by rw[sY hil,<-hx];unfold q8;rw[sR];by_cases h:z<=(x.1:Int)<;>simp[h]);clear hx hil;obtain⟨a,ha⟩:=aj x.1;obtain⟨b,hb⟩:=aj x.2;have HX:ae (tup (some x)=.tuple #[.int .i64 (a:Nat),.int .i64 (b:Nat),.bool true]):=aa (by rw[ha,hb];rfl);rw[<-ha]at c0 HS;rw[<-hb]at c1;clear ha hb;by_cases hz:z<=(a:Int)
   ·have HR2:=aa (HE.o.trans (HS.o.trans (if_pos hz)));go_wp2_with fail;go_quiet (fail);go_wp2;go_ret3;refine⟨?_,HBw.o.os,HBw.o.tape,HBw.o.output,HBw.o.size,HBw.o.block⟩;rw[HR2.o,HX.o];rfl
   ·have HR2:=aa (HE.o.trans (HS.o.trans (if_neg hz)));go_wp2;go_roundw
    case rel=>exact⟨i+1,by go_num,by omega,HBr,HR2⟩
    case measure=>simp[sS];omega
  ·have i1:¬(i:Int)<(n:Int):=by omega
   have HR2:ae (q8 z Q=none):=aa (by rw[HE.o,tH (by have:=HN.o;omega)];rfl);go_wp2;go_ret3;refine⟨?_,HBw.o⟩;rw[HR2.o];rfl
set_option maxRecDepth 100000 in
theorem zem(l:List UInt8)(z:Int)(hl:l.length<=80000)(w:sK):
  tC Tryz.prog 29 #[.string ⟨l.toArray⟩,.int .i64 z] w fun e w'=>e=.returned (tup (bef z (ot l)))/\sG w.heap.size w w':=by
 have HW:=aa (kr l hl w);have hn9:=zil l hl;obtain⟨Q,hQ⟩:=aj (ot l);rw[show(jD l).filter (fP l)=Q from hQ.symm]at HW;rw[<-hQ]at hn9⊢;obtain⟨n,hn⟩:=aj Q.length;rw[<-hn]at HW hn9;have HN:=aa hn;have e9:tk.wrap ((n:Int)-1)=(n:Int)-1:=by rw[sW];omega
 clear hl hQ hn;go_enter Tryz.func29,Tryz.ntmps29;go_wp2_with fail;refine HW.o.mono ?_;rintro e w1 ⟨vo,vc,rfl,hr,hb⟩;have HR:=aa hr;have HB:=aa hb;clear hr hb HW;go_wp2;go_loopw [8] (fun y wr=>∃i:Nat,y=.int .i64 ((i:Int)-1)/\i<=n/\ae (sG w1.heap.size w1 wr)/\ae (bef z Q=bef z (Q.take i))) (fun y _=>(sS y+1).toNat)
 case atStart=>exact⟨n,rfl,sE _,aa (sI _ _),aa (by rw[HN.o,List.take_length])⟩
 case round=>
  obtain⟨i,rfl,hi,HBr,HE⟩:=hrel;have HBw:=aa (HB.o.trans (HBr.o.mono HB.o.size));clear e9;by_cases hlt:0<i
  ·obtain⟨k,rfl⟩:∃k,i=k+1:=⟨i-1,by omega⟩;have e5:((k+1:Nat):Int)-1=(k:Int):=by omega
   rw[e5];have i0:(0:Int)<=(k:Int):=by omega
   have i1:(k:Int)<(n:Int):=by omega
   have e6:tk.wrap ((k:Int)-1)=(k:Int)-1:=by rw[sW];omega
   have hil:k<Q.length:=by have:=HN.o;omega
   obtain⟨x,hx⟩:=aj (Q[k]);obtain⟨g,rfl,_,c0,c1,_⟩:=HR.o.below HBr.o k x (by rw[hx];exact sD hil);have HS:=aa (show bef z (Q.take (k+1))=if (x.2:Int)<=z then some x else bef z (Q.take k) by rw[te hil,<-hx];unfold bef;rw[List.reverse_append,List.reverse_singleton,List.singleton_append,sR];by_cases h:(x.2:Int)<=z<;>simp[h]);clear hx hil e5;obtain⟨a,ha⟩:=aj x.1;obtain⟨b,hb⟩:=aj x.2;have HX:ae (tup (some x)=.tuple #[.int .i64 (a:Nat),.int .i64 (b:Nat),.bool true]):=aa (by rw[ha,hb];rfl);rw[<-ha]at c0;rw[<-hb]at c1 HS;clear ha hb;by_cases hz:(b:Int)<=z
   ·have HR2:=aa (HE.o.trans (HS.o.trans (if_pos hz)));go_wp2_with fail;go_quiet (fail);go_wp2;go_ret3;refine⟨?_,HBw.o.os,HBw.o.tape,HBw.o.output,HBw.o.size,HBw.o.block⟩;rw[HR2.o,HX.o];rfl
   ·have HR2:=aa (HE.o.trans (HS.o.trans (if_neg hz)));go_wp2;go_roundw
    case rel=>exact⟨k,rfl,by omega,HBr,HR2⟩
    case measure=>simp[sS]
  ·obtain rfl:i=0:=by omega
   have e5:((0:Nat):Int)-1= -1:=by decide
   rw[e5];have e6:¬(0:Int)<= -1:=by decide
   have HR2:ae (bef z Q=none):=aa (by rw[HE.o];rfl);go_wp2;go_ret3;refine⟨?_,HBw.o⟩;rw[HR2.o];rfl
end Wd
namespace Wd
open Wt
def wmN(c:Nat):Bool:=c==10||c==9||c==8||c==16
theorem zsX(c:Nat):cX (c:Int)=wmN c:=by
 have e:∀k:Nat,((c:Int)==(k:Int))=(c==k):=fun k=>by
  by_cases h:c=k
  ·subst h;simp
  ·rw[beq_eq_false_iff_ne.2 h,beq_eq_false_iff_ne.2 (by omega)]
 have e10:=e 10;have e9:=e 9;have e8:=e 8;have e16:=e 16;unfold cX bh wmN;rw[<-e10,<-e9,<-e8,<-e16];rfl
theorem rkd3(L:List Nat):3<=rkd L ↔ ∃c∈L,wmN c=true:=by
 have h:(∃c∈L,wmN c=true) ↔ 10∈L\/9∈L\/8∈L\/16∈L:=by
  unfold wmN;constructor
  ·rintro ⟨c,hc,h⟩;simp only[tV,beq_iff_eq]at h;rcases h with ((rfl|rfl)|rfl)|rfl
   ·exact .inl hc
   ·exact .inr (.inl hc)
   ·exact .inr (.inr (.inl hc))
   ·exact .inr (.inr (.inr hc))
  ·rintro (h|h|h|h)
   ·exact⟨_,h,rfl⟩
   ·exact⟨_,h,rfl⟩
   ·exact⟨_,h,rfl⟩
   ·exact⟨_,h,rfl⟩
 rw[h];unfold rkd dU;by_cases h10:10∈L
 ·simp[h10]
 by_cases h9:9∈L
 ·simp[h9]
 by_cases h8:8∈L
 ·simp[h8]
 by_cases h16:16∈L
 ·simp[h10,h9,h8,h16]
 ·simp only[h10,h9,h8,h16,decide_false,Bool.or_self,Bool.false_eq_true,if_false,or_self,iff_false];split
  ·omega
  ·split<;>omega
theorem zuy(l:List UInt8)(i j:Nat)(hij:i<=j)(hj:j<=(rl l).length):rl (lq l (pos l i,pos l j))=((rl l).take j).drop i:=by
 have h1:=Wt.rl_take l j hj;have hi:i<=(rl (l.take (pos l j))).length:=by rw[h1,tE];omega
 have hp:=Wt.znr l i j hij hj;have h2:=Wt.rl_drop (l.take (pos l j)) i hi;rw[hp,h1]at h2;exact h2
theorem zim(l:List UInt8)(i j:Nat)(hij:i<=j)(hj:j<=(rl l).length):fP l (pos l i,pos l j)=true ↔ ∃k,i<=k/\k<j/\cX ((fw l).getD k 0)=true:=by
 unfold fP;rw[decide_eq_true_eq,rkd3];unfold cu;rw[zuy l i j hij hj];have key:∀k x,(rl l)[k]?=some x->cX ((fw l).getD k 0)=wmN (bf x.1).toNat:=fun k x hx=>by
  have h1:(fw l).getD k 0=bf (x.1:Int):=by unfold fw;rw[sH,sL,hx,ta,sX]
  have h2:=zou l (bf (x.1:Int)) (by unfold fw;exact sP.2 ⟨x,List.mem_of_getElem? hx,Eq.refl _⟩);rw[h1,<-zsX];generalize bf (x.1:Int)=z at h2;rw[show((z.toNat:Nat):Int)=z by omega]
 constructor
 ·rintro ⟨c,hc,h⟩;obtain⟨x,hx,hc2⟩:=sP.1 hc;rw[<-hc2]at h;obtain⟨q,hq⟩:=tL.1 hx;have hql:=(sO.1 hq).1;rw[sM,tE]at hql;rw[td,tA (by omega)]at hq;exact⟨i+q,by omega,by omega,by rw[key _ x hq];exact h⟩
 ·rintro ⟨k,h1,h2,h3⟩;obtain⟨x,hx⟩:∃x,(rl l)[k]?=some x:=⟨_,sD (by omega)⟩;rw[key k x hx]at h3;refine⟨_,sP.2 ⟨x,?_,Eq.refl _⟩,h3⟩;refine tL.2 ⟨k-i,?_⟩;rw[td,tA (by omega),show i+(k-i)=k by omega];exact hx
end Wd
namespace Wd
open Go.RowKit Wt
open Sg (Pl)
theorem zpj(l:List UInt8):∀c∈cu l,c<20:=fun c hc=>by unfold cu at hc;obtain⟨x,_,rfl⟩:=sP.1 hc;obtain⟨n,h1,h2⟩:=mo x.1;rw[h1];simpa using h2
theorem zuu(L:List Nat):rkd L<=4:=by unfold rkd;(repeat' split)<;>omega
theorem zqz(l:List UInt8)(x:Nat×Nat):fP l x=wrd (lq l x):=by
 unfold fP wrd;rw[zgT _ (zpj _)];have h:=zuu (cu (lq l x));obtain⟨k,hk⟩:=aj (rkd (cu (lq l x)));rw[<-hk]at h⊢;have:k=0\/k=1\/k=2\/k=3\/k=4:=by omega
 rcases this with rfl|rfl|rfl|rfl|rfl<;>rfl
theorem zbf{l:List UInt8}:∀L:List (Pl l),(L.flatMap jE).map Wq.v=(L.map Pl.v).filter (fP l)
 |[]=>rfl
 |x::L=>by
  rw[List.flatMap_cons,tJ,tM,sN,zbf L,zqz];cases h:wrd (lq l x.v)with
  |true=>rw[zhV x h];rfl
  |false=>rw[zmE x h];rfl
theorem zlA(l:List UInt8)(hl:l.length<=70):∃L:List (Pl l),L.map Pl.v=jD l/\(L.flatMap jE).map Wq.v=ot l/\(L.flatMap jE).length<=l.length:=by
 obtain⟨L,hL⟩:=Sg.zgA l _ _ (bP l);refine⟨L,hL,by rw[zbf,hL];rfl,?_⟩;have h1:(L.flatMap jE).length=(ot l).length:=by rw[<-sZ (f:=Wq.v),zbf,hL];rfl
 rw[h1];have h2:(ot l).length<=(jD l).length:=tK _ _;have h3:=gL l;have h4:=og l;omega
theorem bdr(w:sK):sG w.heap.size w w.drew:=Dc.gZ w
theorem zmB(o:Option (Nat×Nat)):∃(a b:Nat)(c:Bool),tup o=.tuple #[.int .i64 (a:Nat),.int .i64 (b:Nat),.bool c]:=by
 cases o with
 |none=>exact⟨0,0,false,rfl⟩
 |some x=>exact⟨x.1,x.2,true,rfl⟩
end Wd
namespace Wd
open Wt
def wm(l:List UInt8)(k:Nat):Bool:=cX ((fw l).getD k 0)
def zbD(l:List UInt8)(k:Nat):Nat×Nat:=(pos l (Sg.dn (wC l) k),pos l (Sg.nx (wC l) (rl l).length k))
theorem zob(l:List UInt8){j k:Nat}(hj:j<(rl l).length)(hb:j=0\/wC l j=true)(h1:j<=k)(h2:k<Sg.nx (wC l) (rl l).length j):zbD l k=(pos l j,pos l (Sg.nx (wC l) (rl l).length j)):=by have hle:=Sg.eu (C:=wC l) hj;have e1:Sg.dn (wC l) k=j:=Sg.zjl h1 (fun m hm hmk=>Sg.nF (n:=(rl l).length) hm (by omega)) hb;have e2:Sg.nx (wC l) (rl l).length k=Sg.nx (wC l) (rl l).length j:=Sg.znz h2 hle (fun m hm hmk=>Sg.nF (by omega) hmk) (Sg.gM hj);unfold zbD;rw[e1,e2]
theorem zfC(l:List UInt8)(z:Int):∀(d j:Nat),(rl l).length-j<=d->j<=(rl l).length->(j=0\/wC l j=true\/j=(rl l).length)->z<=(pos l j:Nat)->
  (∀k,j<=k->k<(rl l).length->wm l k=true->(∀m,j<=m->m<k->wm l m=false)->q8 z ((wpG l j).filter (fP l))=some (zbD l k))/\((∀m,j<=m->m<(rl l).length->wm l m=false)->q8 z ((wpG l j).filter (fP l))=none)
 |d,j,hd,hj,hb,hz=>by
  by_cases hlt:j<(rl l).length
  ·have hb':j=0\/wC l j=true:=by rcases hb with h|h|h;exact .inl h;exact .inr h;omega
   cases d with
   |zero=>omega
   |succ d=>
    have g1:=Sg.dS (wC l) (rl l).length j;have g2:=Sg.eu (C:=wC l) hlt;have g3:=Sg.gM (C:=wC l) hlt;obtain⟨q,hq⟩:=aj (Sg.nx (wC l) (rl l).length j);have hin:=fun(k:Nat)(h1:j<=k)(h2:k<Sg.nx (wC l) (rl l).length j)=>zob l hlt hb' h1 h2;have hst:=pc l j hlt;rw[<-hq]at g1 g2 g3 hin hst;have hpl:=Sg.fe l g1 g2;have ih:=zfC l z d q (by omega) g2 (by rcases g3 with h|h;exact .inr (.inr h);exact .inr (.inl h)) (by omega);have hw:=zim l j q (by omega) g2;rw[hst,sN];constructor
    ·intro k hk1 hk2 hk3 hk4;by_cases hkq:k<q
     ·rw[if_pos (hw.2 ⟨k,hk1,hkq,hk3⟩)];unfold q8;rw[sR,decide_eq_true hz,hin k hk1 hkq]
     ·have hno:¬fP l (pos l j,pos l q)=true:=fun h=>by obtain⟨m,m1,m2,m3⟩:=hw.1 h;have:=hk4 m m1 (by omega);unfold wm at this;rw[m3]at this;cases this
      rw[if_neg hno];exact ih.1 k (by omega) hk2 hk3 (fun m h1 h2=>hk4 m (by omega) h2)
    ·intro hall;have hno:¬fP l (pos l j,pos l q)=true:=fun h=>by obtain⟨m,m1,m2,m3⟩:=hw.1 h;have:=hall m m1 (by omega);unfold wm at this;rw[m3]at this;cases this
     rw[if_neg hno];exact ih.2 (fun m h1 h2=>hall m (by omega) h2)
  ·rw[zaV l j (by omega)];exact⟨fun k h1 h2=>by omega,fun _=>rfl⟩
theorem zfB(l:List UInt8)(z:Int)(i:Nat)(hi:i<=(rl l).length)(hib:i=0\/wC l i=true\/i=(rl l).length):∀(d j:Nat),i-j<=d->j<=i->(j=0\/wC l j=true)->(∀m,m<i->(m=0\/wC l m=true)->((pos l m:Nat):Int)<z)->q8 z ((wpG l j).filter (fP l))=q8 z ((wpG l i).filter (fP l))
 |d,j,hd,hj,hb,hz=>by
  by_cases e:j=i
  ·rw[e]
  ·cases d with
   |zero=>omega
   |succ d=>
    have hlt:j<(rl l).length:=by omega
    have g1:=Sg.dS (wC l) (rl l).length j;have g2:=Sg.eu (C:=wC l) hlt;have hqi:Sg.nx (wC l) (rl l).length j<=i:=by
     rcases t7 i (Sg.nx (wC l) (rl l).length j)with h|h
     ·rcases hib with h0|h0|h0
      ·omega
      ·have:=Sg.nF (C:=wC l) (n:=(rl l).length) (show j<i by omega) h;rw[h0]at this;cases this
      ·omega
     ·exact h
    have hqb:Sg.nx (wC l) (rl l).length j=i\/wC l (Sg.nx (wC l) (rl l).length j)=true:=by
     rcases Sg.gM (C:=wC l) hlt with h|h
     ·left;omega
     ·exact .inr h
    have hz1:=hz j (by omega) hb;have drop:q8 z ((wpG l j).filter (fP l))=q8 z ((wpG l (Sg.nx (wC l) (rl l).length j)).filter (fP l)):=by
     rw[pc l j hlt,sN];split
     ·unfold q8;rw[sR,decide_eq_false (by show ¬z<=((pos l j:Nat):Int);omega)]
     ·rfl
    rw[drop];rcases hqb with h|h
    ·rw[h]
    ·exact zfB l z i hi hib d _ (by omega) hqi (.inr h) hz
end Wd
namespace Wd
open Wt Br
def bnd(l:List UInt8)(k:Nat):Bool:=k==0||(k==(rl l).length||wC l k)
theorem gE(l:List UInt8):gF l=((tz 0 ((rl l).length+1)).filter (bnd l)).map (pos l):=by rw[<-List.range_eq_range'];refine(Sg.zja (C:=wC l) (D:=bnd l) (by simp[bnd]) (by simp[bnd]) (fun k h1 h2=>?_) l).symm;unfold bnd;rw[beq_eq_false_iff_ne.2 (show k≠0 by omega),beq_eq_false_iff_ne.2 (show k≠(rl l).length by omega),tX,tX]
theorem zcA(l:List UInt8)(z:Int)(d:Nat)(D:Nat->Bool):∀(c j:Nat),(abv z d (((tz j c).filter D).map (pos l))=d/\∀m,j<=m->m<j+c->D m=true->¬z<((pos l m:Nat):Int))∨
  ∃i,j<=i/\i<j+c/\D i=true/\z<((pos l i:Nat):Int)/\abv z d (((tz j c).filter D).map (pos l))=pos l i/\∀m,j<=m->m<i->D m=true->¬z<((pos l m:Nat):Int)
 |0,j=>.inl ⟨rfl,fun m h1 h2=>by omega⟩
 |c+1,j=>by
  rw[tS,sN];have ih:=zcA l z d D c (j+1);by_cases hD:D j=true
  ·rw[if_pos hD,tM,abv];by_cases hz:z<((pos l j:Nat):Int)
   ·rw[if_pos hz];exact .inr ⟨j,sE _,by omega,hD,hz,rfl,fun m h1 h2=>by omega⟩
   ·rw[if_neg hz];rcases ih with ⟨h1,h2⟩|⟨i,h1,h2,h3,h4,h5,h6⟩
    ·exact .inl ⟨h1,fun m m1 m2 m3=>by
      by_cases e:m=j
      ·rw[e];exact hz
      ·exact h2 m (by omega) (by omega) m3⟩
    ·exact .inr ⟨i,by omega,by omega,h3,h4,h5,fun m m1 m2 m3=>by
      by_cases e:m=j
      ·rw[e];exact hz
      ·exact h6 m (by omega) m2 m3⟩
  ·rw[if_neg hD];rcases ih with ⟨h1,h2⟩|⟨i,h1,h2,h3,h4,h5,h6⟩
   ·exact .inl ⟨h1,fun m m1 m2 m3=>by
     by_cases e:m=j
     ·rw[e]at m3;exact absurd m3 hD
     ·exact h2 m (by omega) (by omega) m3⟩
   ·exact .inr ⟨i,by omega,by omega,h3,h4,h5,fun m m1 m2 m3=>by
     by_cases e:m=j
     ·rw[e]at m3;exact absurd m3 hD
     ·exact h6 m (by omega) m2 m3⟩
theorem zcx{l:List UInt8}{k:Nat}(h:bnd l k=true):k=0\/wC l k=true\/k=(rl l).length:=by
 unfold bnd at h;simp only[tV,beq_iff_eq]at h;rcases h with h|h|h
 ·exact .inl h
 ·exact .inr (.inr h)
 ·exact .inr (.inl h)
theorem zpo{l:List UInt8}{k:Nat}(h:k=0\/wC l k=true):bnd l k=true:=by
 unfold bnd;rcases h with h|h
 ·rw[h];rfl
 ·rw[h];simp
def isB(l:List UInt8)(z:Int):Bool:= !l.isEmpty&&(gF l).any fun x=>(x:Int)==z
def frB(l:List UInt8)(z:Int):Int:=if isB l z=true then z else ((abv z l.length (gF l):Nat):Int)
theorem zrn(l:List UInt8)(z:Int):∃i,i<=(rl l).length/\(i=0\/wC l i=true\/i=(rl l).length)/\frB l z=((pos l i:Nat):Int)/\(z<=((pos l i:Nat):Int)\/i=(rl l).length)/\∀m,m<i->(m=0\/wC l m=true)->((pos l m:Nat):Int)<z:=by
 have hn:=bY l (rl l).length (sE _);unfold frB;by_cases hb:isB l z=true
 ·rw[if_pos hb];unfold isB at hb;rw[ti,tj]at hb;obtain⟨_,x,hx,hxz⟩:=hb;rw[gE]at hx;obtain⟨i,hi,rfl⟩:=sP.1 hx;rw[tn,tg]at hi;have hz:=beq_iff_eq.1 hxz;refine⟨i,by omega,zcx hi.2,hz.symm,.inl (by omega),fun m hm _=>?_⟩;have:=Sg.fe l hm (by omega);omega
 ·rw[if_neg hb];have hno:l≠ []->∀m,m<=(rl l).length->bnd l m=true->((pos l m:Nat):Int)≠z:=fun hl m hm hD e=>by apply hb;unfold isB;rw[ti,tj];refine⟨by simpa using hl,pos l m,?_,beq_iff_eq.2 e⟩;rw[gE];exact sP.2 ⟨m,tn.2 ⟨tg.2 ⟨by omega,by omega⟩,hD⟩,rfl⟩
  rw[gE];by_cases hl:l=[]
  ·subst hl;refine⟨0,sJ _,.inl rfl,?_,.inr rfl,fun m hm=>by omega⟩;rcases zcA [] z 0 (bnd []) ((rl []).length+1) 0 with ⟨h1,_⟩|⟨i,_,h2,_,_,h5,_⟩
   ·show((abv z 0 _:Nat):Int)=_;rw[h1];rfl
   ·show((abv z 0 _:Nat):Int)=_;rw[h5];have:i=0:=by rw[show(rl []).length=0 from rfl]at h2;omega
    rw[this]
  ·rcases zcA l z l.length (bnd l) ((rl l).length+1) 0 with ⟨h1,h2⟩|⟨i,_,h2,h3,h4,h5,h6⟩
   ·rw[h1];have h7:=h2 (rl l).length (by omega) (by omega) (by simp[bnd]);rw[hn]at h7;refine⟨(rl l).length,sE _,.inr (.inr rfl),by rw[hn],.inr rfl,fun m hm _=>?_⟩;have:=Sg.fe l hm (sE _);rw[hn]at this;omega
   ·rw[h5];refine⟨i,by omega,zcx h3,rfl,.inl (by omega),fun m hm hmb=>?_⟩;have h8:=h6 m (by omega) hm (zpo hmb);have h9:=hno hl m (by omega) (zpo hmb);omega
theorem zvr(l:List UInt8)(z:Int):∃i,i<=(rl l).length/\frB l z=((pos l i:Nat):Int)∧
  (∀k,i<=k->k<(rl l).length->wm l k=true->(∀m,i<=m->m<k->wm l m=false)->q8 z (ot l)=some (zbD l k))/\((∀m,i<=m->m<(rl l).length->wm l m=false)->q8 z (ot l)=none):=by
 obtain⟨i,h1,h2,h3,h4,h5⟩:=zrn l z;have hs:q8 z (ot l)=q8 z ((wpG l i).filter (fP l)):=zfB l z i h1 h2 _ 0 (sE _) (sJ _) (.inl rfl) h5;refine⟨i,h1,h3,?_⟩;rw[hs];rcases h4 with h4|h4
 ·exact zfC l z _ i (sE _) h1 h2 h4
 ·rw[zaV l i (by omega)];exact⟨fun k k1 k2=>by omega,fun _=>rfl⟩
end Wd
namespace Wd
open Wt Br
def wbG(l:List UInt8)(k:Nat):List (Nat×Nat):=Sg.byt l (Sg.bkF (wC l) k)
theorem zdy(l:List UInt8)(k:Nat):wbG l (k+1)=(pos l (Sg.dn (wC l) k),pos l (k+1))::wbG l (Sg.dn (wC l) k):=by unfold wbG;rw[Sg.zfw];rfl
theorem zqm(l:List UInt8):wbG l (rl l).length=(jD l).reverse:=by unfold wbG jD Sg.byt;rw[Sg.zvo,List.map_reverse]
def qP(l:List UInt8)(z:Int)(k:Nat):Option (Nat×Nat):=((wbG l k).filter (fP l)).find? fun x=>decide ((x.2:Int)<=z)
theorem zrN(l:List UInt8)(z:Int):bef z (ot l)=qP l z (rl l).length:=by unfold bef qP ot;rw[zqm,<-List.filter_reverse]
theorem zhs(l:List UInt8){q k:Nat}(hq:q<(rl l).length)(hb:wC l (q+1)=true\/q+1=(rl l).length)(h1:Sg.dn (wC l) q<=k)(h2:k<=q):zbD l k=(pos l (Sg.dn (wC l) q),pos l (q+1)):=by
 have hd:Sg.dn (wC l) q=0\/wC l (Sg.dn (wC l) q)=true:=by
  rcases tu (Sg.dn (wC l) q)with h|h
  ·exact .inl h
  ·exact .inr (Sg.qC (C:=wC l) q h)
 have e1:Sg.dn (wC l) k=Sg.dn (wC l) q:=Sg.zjl h1 (fun m hm hmk=>Sg.zfk (C:=wC l) q m hm (by omega)) hd;have e2:Sg.nx (wC l) (rl l).length k=q+1:=Sg.znz (by omega) hq (fun m hm hmk=>Sg.zfk (C:=wC l) q m (by omega) (by omega)) hb.symm;unfold zbD;rw[e1,e2]
theorem zfz(l:List UInt8)(z:Int):∀(d j:Nat),j<=d->j<=(rl l).length->(j=0\/wC l j=true\/j=(rl l).length)->((pos l j:Nat):Int)<=z->
  (∀k,k<j->wm l k=true->(∀m,k<m->m<j->wm l m=false)->qP l z j=some (zbD l k))/\((∀m,m<j->wm l m=false)->qP l z j=none)
 |d,0,_,_,_,_=>⟨fun k h=>by omega,fun _=>rfl⟩
 |0,q+1,hd,_,_,_=>by omega
 |d+1,q+1,hd,hj,hb,hz=>by
  have hq:q<(rl l).length:=by omega
  have hb':wC l (q+1)=true\/q+1=(rl l).length:=by rcases hb with h|h|h;omega;exact .inl h;exact .inr h
  have g1:=Sg.fj (wC l) q;have gb:Sg.dn (wC l) q=0\/wC l (Sg.dn (wC l) q)=true\/Sg.dn (wC l) q=(rl l).length:=by
   rcases tu (Sg.dn (wC l) q)with h|h
   ·exact .inl h
   ·exact .inr (.inl (Sg.qC (C:=wC l) q h))
  have hpl:=Sg.fe l (show Sg.dn (wC l) q<q+1 by omega) hj;have ih:=zfz l z d (Sg.dn (wC l) q) (by omega) (by omega) gb (by omega);have hw:=zim l (Sg.dn (wC l) q) (q+1) (by omega) hj;have hst:qP l z (q+1)=if fP l (pos l (Sg.dn (wC l) q),pos l (q+1))=true then some (pos l (Sg.dn (wC l) q),pos l (q+1))else qP l z (Sg.dn (wC l) q):=by
   unfold qP;rw[zdy,sN];split
   ·rw[sR,decide_eq_true hz]
   ·rfl
  rw[hst];constructor
  ·intro k hk1 hk3 hk4;by_cases hkq:Sg.dn (wC l) q<=k
   ·rw[if_pos (hw.2 ⟨k,hkq,hk1,hk3⟩),zhs l hq hb' hkq (by omega)]
   ·have hno:¬fP l (pos l (Sg.dn (wC l) q),pos l (q+1))=true:=fun h=>by obtain⟨m,m1,m2,m3⟩:=hw.1 h;have:=hk4 m (by omega) m2;unfold wm at this;rw[m3]at this;cases this
    rw[if_neg hno];exact ih.1 k (by omega) hk3 (fun m h1 h2=>hk4 m h1 (by omega))
  ·intro hall;have hno:¬fP l (pos l (Sg.dn (wC l) q),pos l (q+1))=true:=fun h=>by obtain⟨m,m1,m2,m3⟩:=hw.1 h;have:=hall m m2;unfold wm at this;rw[m3]at this;cases this
   rw[if_neg hno];exact ih.2 (fun m h1=>hall m (by omega))
theorem zfy(l:List UInt8)(z:Int)(i:Nat)(hib:i=0\/wC l i=true\/i=(rl l).length)(hz:∀m,i<m->m<=(rl l).length->(wC l m=true\/m=(rl l).length)->z<((pos l m:Nat):Int)):∀(d j:Nat),j<=d->i<=j->j<=(rl l).length->(j=0\/wC l j=true\/j=(rl l).length)->qP l z j=qP l z i
 |d,0,_,h,_,_=>by rw[show i=0 by omega]
 |0,q+1,hd,_,_,_=>by omega
 |d+1,q+1,hd,h,hj,hb=>by
  by_cases e:i=q+1
  ·rw[e]
  ·have hb':wC l (q+1)=true\/q+1=(rl l).length:=by
    rcases hb with h|h|h
    ·omega
    ·exact .inl h
    ·exact .inr h
   have hzq:=hz (q+1) (by omega) hj hb';have g1:=Sg.fj (wC l) q;have gb:Sg.dn (wC l) q=0\/wC l (Sg.dn (wC l) q)=true\/Sg.dn (wC l) q=(rl l).length:=by
    rcases tu (Sg.dn (wC l) q)with h|h
    ·exact .inl h
    ·exact .inr (.inl (Sg.qC (C:=wC l) q h))
   have aa:i<=Sg.dn (wC l) q:=by
    rcases t7 (Sg.dn (wC l) q) i with hl|hl
    ·rcases hib with h0|h0|h0
     ·omega
     ·have:=Sg.zfk (C:=wC l) q i hl (by omega);rw[h0]at this;cases this
     ·omega
    ·exact hl
   rw[<-zfy l z i hib hz d (Sg.dn (wC l) q) (by omega) aa (by omega) gb];unfold qP;rw[zdy,sN];split
   ·rw[sR,decide_eq_false (by show ¬((pos l (q+1):Nat):Int)<=z;omega)]
   ·rfl
end Wd
namespace Wd
open Wt Br
theorem lW(l:List UInt8)(z:Int)(D:Nat->Bool):∀(c j b:Nat),(q7 z b (((tz j c).filter D).map (pos l))=b/\∀m,j<=m->m<j+c->D m=true->¬((pos l m:Nat):Int)<z)∨
  ∃i,j<=i/\i<j+c/\D i=true/\((pos l i:Nat):Int)<z/\q7 z b (((tz j c).filter D).map (pos l))=pos l i/\∀m,i<m->m<j+c->D m=true->¬((pos l m:Nat):Int)<z
 |0,j,b=>.inl ⟨rfl,fun m h1 h2=>by omega⟩
 |c+1,j,b=>by
  rw[tS,sN];by_cases hD:D j=true
  ·rw[if_pos hD,tM,q7];by_cases hz:((pos l j:Nat):Int)<z
   ·rw[if_pos hz];rcases lW l z D c (j+1) (pos l j)with ⟨h1,h2⟩|⟨i,h1,h2,h3,h4,h5,h6⟩
    ·exact .inr ⟨j,sE _,by omega,hD,hz,h1,fun m m1 m2 m3=>h2 m (by omega) (by omega) m3⟩
    ·exact .inr ⟨i,by omega,by omega,h3,h4,h5,fun m m1 m2 m3=>h6 m m1 (by omega) m3⟩
   ·rw[if_neg hz];rcases lW l z D c (j+1) b with ⟨h1,h2⟩|⟨i,h1,h2,h3,h4,h5,h6⟩
    ·exact .inl ⟨h1,fun m m1 m2 m3=>by
      by_cases e:m=j
      ·rw[e];exact hz
      ·exact h2 m (by omega) (by omega) m3⟩
    ·exact .inr ⟨i,by omega,by omega,h3,h4,h5,fun m m1 m2 m3=>h6 m m1 (by omega) m3⟩
  ·rw[if_neg hD];rcases lW l z D c (j+1) b with ⟨h1,h2⟩|⟨i,h1,h2,h3,h4,h5,h6⟩
   ·exact .inl ⟨h1,fun m m1 m2 m3=>by
     by_cases e:m=j
     ·rw[e]at m3;exact absurd m3 hD
     ·exact h2 m (by omega) (by omega) m3⟩
   ·exact .inr ⟨i,by omega,by omega,h3,h4,h5,fun m m1 m2 m3=>h6 m m1 (by omega) m3⟩
def toB(l:List UInt8)(z:Int):Int:=if isB l z=true then z else ((q7 z 0 (gF l):Nat):Int)
theorem oU{l:List UInt8}{k:Nat}(h:wC l k=true\/k=(rl l).length):bnd l k=true:=by
 unfold bnd;rcases h with h|h
 ·rw[h];simp
 ·rw[h];simp
theorem zwq(l:List UInt8)(z:Int):∃i,i<=(rl l).length/\(i=0\/wC l i=true\/i=(rl l).length)/\toB l z=((pos l i:Nat):Int)/\(i=0\/((pos l i:Nat):Int)<=z)/\∀m,i<m->m<=(rl l).length->(wC l m=true\/m=(rl l).length)->z<((pos l m:Nat):Int):=by
 unfold toB;by_cases hb:isB l z=true
 ·rw[if_pos hb];unfold isB at hb;rw[ti,tj]at hb;obtain⟨_,x,hx,hxz⟩:=hb;rw[gE]at hx;obtain⟨i,hi,rfl⟩:=sP.1 hx;rw[tn,tg]at hi;have hz:=beq_iff_eq.1 hxz;refine⟨i,by omega,zcx hi.2,hz.symm,.inr (by omega),fun m hm hml _=>?_⟩;have:=Sg.fe l hm hml;omega
 ·rw[if_neg hb];by_cases hl:l=[]
  ·subst hl;refine⟨0,sJ _,.inl rfl,?_,.inl rfl,fun m hm hml=>by rw[show(rl []).length=0 from rfl]at hml;omega⟩;rw[gE];rcases lW [] z (bnd []) ((rl []).length+1) 0 0 with ⟨h1,_⟩|⟨i,_,h2,_,_,h5,_⟩
   ·rw[h1];rfl
   ·rw[h5];have:i=0:=by rw[show(rl []).length=0 from rfl]at h2;omega
    rw[this]
  ·have hno:∀m,m<=(rl l).length->bnd l m=true->((pos l m:Nat):Int)≠z:=fun m hm hD e=>by apply hb;unfold isB;rw[ti,tj];refine⟨by simpa using hl,pos l m,?_,beq_iff_eq.2 e⟩;rw[gE];exact sP.2 ⟨m,tn.2 ⟨tg.2 ⟨by omega,by omega⟩,hD⟩,rfl⟩
   rw[gE];rcases lW l z (bnd l) ((rl l).length+1) 0 0 with ⟨h1,h2⟩|⟨i,_,h2,h3,h4,h5,h6⟩
   ·rw[h1];refine⟨0,sJ _,.inl rfl,rfl,.inl rfl,fun m hm hml hmb=>?_⟩;have h8:=h2 m (by omega) (by omega) (oU hmb);have h9:=hno m hml (oU hmb);omega
   ·rw[h5];refine⟨i,by omega,zcx h3,rfl,.inr (by omega),fun m hm hml hmb=>?_⟩;have h8:=h6 m hm (by omega) (oU hmb);have h9:=hno m hml (oU hmb);omega
theorem zvq(l:List UInt8)(z:Int):∃i,i<=(rl l).length/\toB l z=((pos l i:Nat):Int)∧
  (∀k,k<i->wm l k=true->(∀m,k<m->m<i->wm l m=false)->bef z (ot l)=some (zbD l k))/\((∀m,m<i->wm l m=false)->bef z (ot l)=none):=by
 obtain⟨i,h1,h2,h3,h4,h5⟩:=zwq l z;have hs:bef z (ot l)=qP l z i:=by rw[zrN];exact zfy l z i h2 h5 _ _ (sE _) h1 (sE _) (.inr (.inr rfl))
 refine⟨i,h1,h3,?_⟩;rw[hs];rcases h4 with h4|h4
 ·subst h4;exact⟨fun k h=>by omega,fun _=>rfl⟩
 ·exact zfz l z _ i (sE _) h1 h2 h4
end Wd
namespace Wd
open Go.RowKit Wt
theorem zcy(l:List UInt8)(k:Nat)(h:k<(rl l).length):Br.arn ((pos l k:Nat):Int) (gF l)=zbD l k:=by
 have h1:pos l (Sg.dn (wC l) k)<=pos l k:=by have h1:=cz l (k-Sg.dn (wC l) k) (Sg.dn (wC l) k) (by have:=Sg.fj (wC l) k;omega);rw[show Sg.dn (wC l) k+(k-Sg.dn (wC l) k)=k by have:=Sg.fj (wC l) k;omega]at h1;omega
 have h2:=Sg.fe l (Sg.dS (wC l) (rl l).length k) (Sg.eu (C:=wC l) h);exact(bP l).arn_in (pb l k h) (by omega) (by omega)
set_option maxRecDepth 100000 in
theorem zgg(l:List UInt8)(z:Int)(w:sK)(ht:na w)(hl:l.length<=1000000):
  tC Tryz.prog 26 #[.string ⟨l.toArray⟩,.int .i64 z] w fun e w'=>e=.returned (tup (q8 z (ot l)))/\sG w.heap.size w w':=by
 have HT:=aa ht;have HLl:=aa hl;have HIs:ae (tC Tryz.prog 16 #[.string ⟨l.toArray⟩,.int .i64 z] w fun e w'=>e=.returned (.bool (isB l z))/\sG w.heap.size w w'):=aa (zcX l z w ht (by omega));have HNx:=aa (fun(W:sK)(h:sG w.heap.size w W)=>zhL l z W (HT.o.below h) (by omega));have HAr:=aa (fun(y:Int)(W:sK)(h:sG w.heap.size w W)=>zdz l y W (HT.o.below h) (by omega));obtain⟨i,hi,hfr,hyes,hno⟩:=zvr l z;obtain⟨A,hA⟩:=aj (q8 z (ot l));rw[<-hA]at hyes hno⊢;have HY:=aa hyes;have HNo:=aa hno;have HI:=aa hi;obtain⟨p,hp⟩:=aj (pos l i);have HP:=aa hp;rw[<-hp]at hfr;unfold frB at hfr;have hpl:p<=l.length:=by rw[hp];exact dZ l i hi
 obtain⟨bv,hbv⟩:=aj (isB l z);rw[<-hbv]at hfr HIs;obtain⟨t,htt⟩:=aj (l.drop p);have HTt:=aa htt;have HRt:ae (rl t=(rl l).drop i):=aa (by rw[htt,hp];exact Wt.rl_drop l i hi);have HSZ:ae ((⟨t.toArray⟩:ByteArray).size=t.length):=aa (by show t.toArray.size=_;simp);clear hyes hno hi hp hA hbv htt ht;have p0:(0:Int)<=(p:Int):=by omega
 have p1:(p:Int)<=(l.length:Int):=by omega
 go_enter Tryz.func26,Tryz.ntmps26;go_wp2_with fail;refine HIs.o.mono ?_;rintro e w1 ⟨rfl,hb1⟩;have HB1:=aa hb1;clear hb1 HIs;cases bv with
 |true=>
  rw[if_pos rfl]at hfr;subst hfr;have HW:=aa (tW w1 ⟨t.toArray⟩ 0);have HB2:ae (sG w.heap.size w (w1.alloc (.stringIter ⟨t.toArray⟩ 0))):=aa (HB1.o.trans ((sI w1.heap.size w1).alloc (sE _) _ |>.mono HB1.o.size));have HS1:ae (w.heap.size<=w1.heap.size):=aa HB1.o.size;go_wp2_with fail;rw[ext_drop,<-HTt.o];go_wp2;go_loopw [8] (fun _ wr=>∃k:Nat,k<=(rl t).length/\ae (∀m,i<=m->m<i+k->wm l m=false)/\ae (wr.heap[w1.heap.size]?=some (.stringIter ⟨t.toArray⟩ (pos t k)))/\ae (sG w.heap.size w wr)) (fun _ wr=>t.length-wr.iterPos w1.heap.size)
  case atStart=>exact⟨0,sJ _,aa (fun m h1 h2=>by omega),HW,HB2⟩
  case round=>
   obtain⟨k,hk,HF,HIt,HB⟩:=hrel;have hin:w1.heap.size<wr.heap.size:=(tw.1 HIt.o).1;by_cases hlt:k<(rl t).length
   ·have hpl2:pos t k<t.length:=cU t k hlt;obtain⟨x,hx⟩:=aj ((rl t)[k]);have HE:ae ((rl t)[k]?=some x):=aa (by rw[hx];exact sD hlt);have hnx:=fL (P:=Tryz.prog) wr w1.heap.size ⟨t.toArray⟩ (pos t k) 0 HIt.o (by rw[HSZ.o];exact hpl2);have hdx:dec (t.drop (pos t k))=x:=by have h1:=Wt.rl_drop t k (by omega);rw[bD _ (aY t _ hpl2),sY hlt,<-hx]at h1;exact(List.cons.inj h1).1
    rw[ca t _ hpl2,cM t k hlt,hdx]at hnx;have HEl:ae ((rl l)[i+k]?=some x):=aa (by have:=HE.o;rw[HRt.o,td]at this;exact this);have hil:i+k<(rl l).length:=(sO.1 HEl.o).1;have HWm:=aa (show cX (bf (x.1:Int))=wm l (i+k) by unfold wm fw;rw[sH,sL,HEl.o,ta,sX]);have HPp:ae (p+pos t k=pos l (i+k)):=aa (by rw[HP.o,HTt.o,HP.o];exact pV l i k HI.o);have hpm:=dZ l (i+k) (by omega);rw[<-HPp.o]at hpm;have HMs:=aa (show t.length-pos t (k+1)<t.length-wr.iterPos w1.heap.size by
     have h1:wr.iterPos w1.heap.size=pos t k:=by unfold tB;rw[HIt.o]
     have h2:=dJ t k hlt;rw[h1];omega)
    obtain⟨rr,hrr⟩:∃rr:Int,rr=(x.1:Int):=⟨_,rfl⟩;rw[<-hrr]at hnx HWm;obtain⟨v,hv⟩:=aj (wm l (i+k));have HV:=aa hv;rw[<-hv]at HWm;obtain⟨pp,hpp⟩:=aj (pos t k);rw[<-hpp]at hnx HPp hpm;obtain⟨w2,hw2⟩:=aj (wr.putObj w1.heap.size (.stringIter ⟨t.toArray⟩ (pos t (k+1))));rw[<-hw2]at hnx;have HI2:ae (w2.heap[w1.heap.size]?=some (.stringIter ⟨t.toArray⟩ (pos t (k+1)))):=aa (by rw[hw2];exact tI hin);have HB3:ae (sG w.heap.size w w2):=aa (by rw[hw2];have:=HS1.o;exact HB.o.trans ⟨rfl,rfl,rfl,by simp[t8],fun j hj=>tF (by omega)⟩);have hy2:((p+pp:Nat):Int)=(p:Int)+(pp:Int):=by omega
    have hy3:tk.wrap ((p:Int)+(pp:Int))=(p:Int)+(pp:Int):=by rw[sW];have:=HLl.o;omega
    have HLt:=aa (sV hlt hil);clear hrr hw2 HIt HB hdx hpl2 hx hv hpp hpm hlt hil hin;go_wp2_with fail;refine(eC rr w2).mono ?_;rintro e w3 ⟨rfl,hw3⟩;obtain rfl:=hw3.symm;clear hw3 hnx;go_wp2_with fail;refine(im _ v w2 HWm.o).mono ?_;rintro e w3 ⟨rfl,hw3⟩;obtain rfl:=hw3.symm;clear hw3;cases v with
    |true=>go_wp2_with fail;refine(HAr.o _ w2 HB3.o).mono ?_;rintro e w4 ⟨rfl,hb4⟩;have HB4:=aa (HB3.o.trans (hb4.mono HB3.o.size));have HA2:=aa (show A=some (Br.arn ((p:Int)+(pp:Int)) (gF l)) by rw[HY.o (i+k) (by omega) HLt.o.2 HV.o.symm HF.o,<-zcy l (i+k) HLt.o.2,<-HPp.o,hy2]);obtain⟨a,ha⟩:=aj (Br.arn ((p:Int)+(pp:Int)) (gF l));rw[<-ha]at HA2⊢;obtain⟨a1,a2⟩:=a;clear ha hb4 hy2 hy3;go_wp2;go_ret3;refine⟨?_,HB4.o⟩;rw[HA2.o];rfl
    |false=>
     go_wp2;go_roundw
     case rel=>exact⟨k+1,HLt.o.1,aa (fun m h1 h2=>by
      by_cases e:m=i+k
      ·rw[e];exact HV.o.symm
      ·exact HF.o m h1 (by omega)),HI2,HB3⟩
     case measure=>
      have h1:w2.iterPos w1.heap.size=pos t (k+1):=by unfold tB;rw[HI2.o]
      rw[h1];exact HMs.o
   ·have hnx:=dG (P:=Tryz.prog) wr w1.heap.size ⟨t.toArray⟩ (pos t k) 0 HIt.o (by rw[HSZ.o,bY t k (by omega)];omega);have HA2:ae (A=none):=aa (HNo.o (fun m h1 h2=>HF.o m h1 (by have h3:=congrArg ua HRt.o;rw[sM]at h3;omega)));go_wp2;go_ret3;refine⟨?_,HB.o⟩;rw[HA2.o];rfl
 |false=>
  rw[if_neg (by simp)]at hfr;go_wp2_with fail;refine(HNx.o w1 HB1.o).mono ?_;rintro e w1' ⟨rfl,hb1'⟩;rw[hfr];have HB1':=aa (HB1.o.trans (hb1'.mono HB1.o.size));clear hb1' HB1 hfr;obtain⟨w1,rfl⟩:=aj w1';have HB1:=aa HB1'.o;clear HB1';have HW:=aa (tW w1 ⟨t.toArray⟩ 0);have HB2:ae (sG w.heap.size w (w1.alloc (.stringIter ⟨t.toArray⟩ 0))):=aa (HB1.o.trans ((sI w1.heap.size w1).alloc (sE _) _ |>.mono HB1.o.size));have HS1:ae (w.heap.size<=w1.heap.size):=aa HB1.o.size;go_wp2_with fail;rw[ext_drop,<-HTt.o];go_wp2;go_loopw [8] (fun _ wr=>∃k:Nat,k<=(rl t).length/\ae (∀m,i<=m->m<i+k->wm l m=false)/\ae (wr.heap[w1.heap.size]?=some (.stringIter ⟨t.toArray⟩ (pos t k)))/\ae (sG w.heap.size w wr)) (fun _ wr=>t.length-wr.iterPos w1.heap.size)
  case atStart=>exact⟨0,sJ _,aa (fun m h1 h2=>by omega),HW,HB2⟩
  case round=>
   obtain⟨k,hk,HF,HIt,HB⟩:=hrel;have hin:w1.heap.size<wr.heap.size:=(tw.1 HIt.o).1;by_cases hlt:k<(rl t).length
   ·have hpl2:pos t k<t.length:=cU t k hlt;obtain⟨x,hx⟩:=aj ((rl t)[k]);have HE:ae ((rl t)[k]?=some x):=aa (by rw[hx];exact sD hlt);have hnx:=fL (P:=Tryz.prog) wr w1.heap.size ⟨t.toArray⟩ (pos t k) 0 HIt.o (by rw[HSZ.o];exact hpl2);have hdx:dec (t.drop (pos t k))=x:=by have h1:=Wt.rl_drop t k (by omega);rw[bD _ (aY t _ hpl2),sY hlt,<-hx]at h1;exact(List.cons.inj h1).1
    rw[ca t _ hpl2,cM t k hlt,hdx]at hnx;have HEl:ae ((rl l)[i+k]?=some x):=aa (by have:=HE.o;rw[HRt.o,td]at this;exact this);have hil:i+k<(rl l).length:=(sO.1 HEl.o).1;have HWm:=aa (show cX (bf (x.1:Int))=wm l (i+k) by unfold wm fw;rw[sH,sL,HEl.o,ta,sX]);have HPp:ae (p+pos t k=pos l (i+k)):=aa (by rw[HP.o,HTt.o,HP.o];exact pV l i k HI.o);have hpm:=dZ l (i+k) (by omega);rw[<-HPp.o]at hpm;have HMs:=aa (show t.length-pos t (k+1)<t.length-wr.iterPos w1.heap.size by
     have h1:wr.iterPos w1.heap.size=pos t k:=by unfold tB;rw[HIt.o]
     have h2:=dJ t k hlt;rw[h1];omega)
    obtain⟨rr,hrr⟩:∃rr:Int,rr=(x.1:Int):=⟨_,rfl⟩;rw[<-hrr]at hnx HWm;obtain⟨v,hv⟩:=aj (wm l (i+k));have HV:=aa hv;rw[<-hv]at HWm;obtain⟨pp,hpp⟩:=aj (pos t k);rw[<-hpp]at hnx HPp hpm;obtain⟨w2,hw2⟩:=aj (wr.putObj w1.heap.size (.stringIter ⟨t.toArray⟩ (pos t (k+1))));rw[<-hw2]at hnx;have HI2:ae (w2.heap[w1.heap.size]?=some (.stringIter ⟨t.toArray⟩ (pos t (k+1)))):=aa (by rw[hw2];exact tI hin);have HB3:ae (sG w.heap.size w w2):=aa (by rw[hw2];have:=HS1.o;exact HB.o.trans ⟨rfl,rfl,rfl,by simp[t8],fun j hj=>tF (by omega)⟩);have hy2:((p+pp:Nat):Int)=(p:Int)+(pp:Int):=by omega
    have hy3:tk.wrap ((p:Int)+(pp:Int))=(p:Int)+(pp:Int):=by rw[sW];have:=HLl.o;omega
    have HLt:=aa (sV hlt hil);clear hrr hw2 HIt HB hdx hpl2 hx hv hpp hpm hlt hil hin;go_wp2_with fail;refine(eC rr w2).mono ?_;rintro e w3 ⟨rfl,hw3⟩;obtain rfl:=hw3.symm;clear hw3 hnx;go_wp2_with fail;refine(im _ v w2 HWm.o).mono ?_;rintro e w3 ⟨rfl,hw3⟩;obtain rfl:=hw3.symm;clear hw3;cases v with
    |true=>go_wp2_with fail;refine(HAr.o _ w2 HB3.o).mono ?_;rintro e w4 ⟨rfl,hb4⟩;have HB4:=aa (HB3.o.trans (hb4.mono HB3.o.size));have HA2:=aa (show A=some (Br.arn ((p:Int)+(pp:Int)) (gF l)) by rw[HY.o (i+k) (by omega) HLt.o.2 HV.o.symm HF.o,<-zcy l (i+k) HLt.o.2,<-HPp.o,hy2]);obtain⟨a,ha⟩:=aj (Br.arn ((p:Int)+(pp:Int)) (gF l));rw[<-ha]at HA2⊢;obtain⟨a1,a2⟩:=a;clear ha hb4 hy2 hy3;go_wp2;go_ret3;refine⟨?_,HB4.o⟩;rw[HA2.o];rfl
    |false=>
     go_wp2;go_roundw
     case rel=>exact⟨k+1,HLt.o.1,aa (fun m h1 h2=>by
      by_cases e:m=i+k
      ·rw[e];exact HV.o.symm
      ·exact HF.o m h1 (by omega)),HI2,HB3⟩
     case measure=>
      have h1:w2.iterPos w1.heap.size=pos t (k+1):=by unfold tB;rw[HI2.o]
      rw[h1];exact HMs.o
   ·have hnx:=dG (P:=Tryz.prog) wr w1.heap.size ⟨t.toArray⟩ (pos t k) 0 HIt.o (by rw[HSZ.o,bY t k (by omega)];omega);have HA2:ae (A=none):=aa (HNo.o (fun m h1 h2=>HF.o m h1 (by have h3:=congrArg ua HRt.o;rw[sM]at h3;omega)));go_wp2;go_ret3;refine⟨?_,HB.o⟩;rw[HA2.o];rfl
end Wd
namespace Wd
open Go.RowKit Wt
set_option maxRecDepth 100000 in
theorem zdx(l:List UInt8)(z:Int)(w:sK)(ht:na w)(hl:l.length<=1000000):
  tC Tryz.prog 28 #[.string ⟨l.toArray⟩,.int .i64 z] w fun e w'=>e=.returned (tup (bef z (ot l)))/\sG w.heap.size w w':=by
 have HT:=aa ht;have HLl:=aa hl;have HIs:ae (tC Tryz.prog 16 #[.string ⟨l.toArray⟩,.int .i64 z] w fun e w'=>e=.returned (.bool (isB l z))/\sG w.heap.size w w'):=aa (zcX l z w ht (by omega));have HNx:=aa (fun(W:sK)(h:sG w.heap.size w W)=>rN l z W (HT.o.below h) (by omega));have HAr:=aa (fun(y:Int)(W:sK)(h:sG w.heap.size w W)=>zdz l y W (HT.o.below h) (by omega));obtain⟨i,hi,hfr,hyes,hno⟩:=zvq l z;obtain⟨A,hA⟩:=aj (bef z (ot l));rw[<-hA]at hyes hno⊢;have HY:=aa hyes;have HNo:=aa hno;have HI:=aa hi;obtain⟨p,hp⟩:=aj (pos l i);have HP:=aa hp;rw[<-hp]at hfr;unfold toB at hfr;obtain⟨bv,hbv⟩:=aj (isB l z);rw[<-hbv]at hfr HIs;clear hyes hno hi hp hA hbv ht;go_enter Tryz.func28,Tryz.ntmps28;go_wp2_with fail;refine HIs.o.mono ?_;rintro e w1 ⟨rfl,hb1⟩;have HB1:=aa hb1;clear hb1 HIs;cases bv with
 |true=>
  rw[if_pos rfl]at hfr;subst hfr;clear hl;go_wp2;go_loopw [7] (fun fr wr=>∃j:Nat,fr=.int .i64 (pos l j:Nat)/\j<=i/\ae (∀m,j<=m->m<i->wm l m=false)/\ae (sG w.heap.size w wr)) (fun fr _=>(sS fr).toNat)
  case atStart=>exact⟨i,by rw[<-HP.o],sE _,aa (fun m h1 h2=>by omega),HB1⟩
  case round=>
   obtain⟨j,rfl,hj,HF,HB⟩:=hrel;cases j with
   |zero=>have HA2:ae (A=none):=aa (HNo.o (fun m h1=>HF.o m (sJ _) h1));rw[pW];go_wp2;go_ret3;refine⟨?_,HB.o⟩;rw[HA2.o];rfl
   |succ k=>
    have hkn:k<(rl l).length:=by have:=HI.o;omega
    have hple:=dZ l (k+1) hkn;have hplt:=dJ l k hkn;have HBK:=aa (qR l k hkn);have hke:k<(rl l).length:=hkn;have HWm:=aa (show cX (aQ (l.drop (pos l k)))=wm l k by rw[show l.drop (pos l k)=l.drop (lz l k)from rfl,rQ l k _ (sD hkn)];unfold wm fw;rw[sH,sL,sD hkn,ta,sX]);have HAr2:=aa (zcy l k hkn);obtain⟨v,hv⟩:=aj (wm l k);have HV:=aa hv;rw[<-hv]at HWm;obtain⟨q,hq⟩:=aj (pos l k);have HQ:=aa hq;obtain⟨p2,hp2⟩:=aj (pos l (k+1));rw[<-hq]at HBK HWm HAr2 hplt;rw[<-hp2]at HBK hplt hple⊢;have hp0:(0:Int)<(p2:Int):=by omega
    have hq0:(0:Int)<=(q:Int):=by omega
    have hq1:(q:Int)<=(l.length:Int):=by omega
    have HLT:=aa hplt;have HK:=aa (sV hj hkn);clear hv hq hp2 hkn hke hplt hple hj;go_wp2_with fail;refine(iX l (p2:Int) wr (by have:=HLl.o;omega) (HT.o.below HB.o).tabs (HT.o.below HB.o).two).mono ?_;rintro e w2 ⟨rfl,be⟩;rw[HBK.o];have HB2:=aa (HB.o.trans (be.mono HB.o.size));clear be HB;go_wp2_with fail;rw[ext_drop];refine(gC (l.drop q) w2 (HT.o.below HB2.o)).mono ?_;rintro e w3 ⟨rfl,be⟩;have HB3:=aa (HB2.o.trans (be.mono HB2.o.size));obtain⟨cl,hcl⟩:=aj (aQ (l.drop q));rw[<-hcl]at HWm⊢;clear be HB2 hcl;go_wp2_with fail;refine(im cl v w3 HWm.o).mono ?_;rintro e w4 ⟨rfl,hw4⟩;obtain rfl:=hw4.symm;clear hw4;cases v with
    |true=>go_wp2_with fail;refine(HAr.o _ w3 HB3.o).mono ?_;rintro e w4 ⟨rfl,hb4⟩;have HB4:=aa (HB3.o.trans (hb4.mono HB3.o.size));have HA2:=aa (show A=some (Br.arn (q:Int) (gF l)) by rw[HY.o k (by have:=HK.o;omega) HV.o.symm (fun m h1 h2=>HF.o m (by omega) h2),<-HAr2.o]);obtain⟨a,ha⟩:=aj (Br.arn (q:Int) (gF l));rw[<-ha]at HA2⊢;obtain⟨a1,a2⟩:=a;clear ha hb4 HAr2;go_wp2;go_ret3;refine⟨?_,HB4.o⟩;rw[HA2.o];rfl
    |false=>
     go_wp2;go_roundw
     case rel=>exact⟨k,by rw[HQ.o],by have:=HK.o;omega,aa (fun m h1 h2=>by
      by_cases e:m=k
      ·rw[e];exact HV.o.symm
      ·exact HF.o m (by omega) h2),HB3⟩
     case measure=>have:=HLT.o;simp[sS];omega
 |false=>
  rw[if_neg (by simp)]at hfr;clear hl;go_wp2_with fail;refine(HNx.o w1 HB1.o).mono ?_;rintro e w1' ⟨rfl,hb1'⟩;rw[hfr];have HB1':=aa (HB1.o.trans (hb1'.mono HB1.o.size));clear hb1' HB1 hfr;obtain⟨w1,rfl⟩:=aj w1';have HB1:=aa HB1'.o;clear HB1';go_wp2;go_loopw [7] (fun fr wr=>∃j:Nat,fr=.int .i64 (pos l j:Nat)/\j<=i/\ae (∀m,j<=m->m<i->wm l m=false)/\ae (sG w.heap.size w wr)) (fun fr _=>(sS fr).toNat)
  case atStart=>exact⟨i,by rw[<-HP.o],sE _,aa (fun m h1 h2=>by omega),HB1⟩
  case round=>
   obtain⟨j,rfl,hj,HF,HB⟩:=hrel;cases j with
   |zero=>have HA2:ae (A=none):=aa (HNo.o (fun m h1=>HF.o m (sJ _) h1));rw[pW];go_wp2;go_ret3;refine⟨?_,HB.o⟩;rw[HA2.o];rfl
   |succ k=>
    have hkn:k<(rl l).length:=by have:=HI.o;omega
    have hple:=dZ l (k+1) hkn;have hplt:=dJ l k hkn;have HBK:=aa (qR l k hkn);have hke:k<(rl l).length:=hkn;have HWm:=aa (show cX (aQ (l.drop (pos l k)))=wm l k by rw[show l.drop (pos l k)=l.drop (lz l k)from rfl,rQ l k _ (sD hkn)];unfold wm fw;rw[sH,sL,sD hkn,ta,sX]);have HAr2:=aa (zcy l k hkn);obtain⟨v,hv⟩:=aj (wm l k);have HV:=aa hv;rw[<-hv]at HWm;obtain⟨q,hq⟩:=aj (pos l k);have HQ:=aa hq;obtain⟨p2,hp2⟩:=aj (pos l (k+1));rw[<-hq]at HBK HWm HAr2 hplt;rw[<-hp2]at HBK hplt hple⊢;have hp0:(0:Int)<(p2:Int):=by omega
    have hq0:(0:Int)<=(q:Int):=by omega
    have hq1:(q:Int)<=(l.length:Int):=by omega
    have HLT:=aa hplt;have HK:=aa (sV hj hkn);clear hv hq hp2 hkn hke hplt hple hj;go_wp2_with fail;refine(iX l (p2:Int) wr (by have:=HLl.o;omega) (HT.o.below HB.o).tabs (HT.o.below HB.o).two).mono ?_;rintro e w2 ⟨rfl,be⟩;rw[HBK.o];have HB2:=aa (HB.o.trans (be.mono HB.o.size));clear be HB;go_wp2_with fail;rw[ext_drop];refine(gC (l.drop q) w2 (HT.o.below HB2.o)).mono ?_;rintro e w3 ⟨rfl,be⟩;have HB3:=aa (HB2.o.trans (be.mono HB2.o.size));obtain⟨cl,hcl⟩:=aj (aQ (l.drop q));rw[<-hcl]at HWm⊢;clear be HB2 hcl;go_wp2_with fail;refine(im cl v w3 HWm.o).mono ?_;rintro e w4 ⟨rfl,hw4⟩;obtain rfl:=hw4.symm;clear hw4;cases v with
    |true=>go_wp2_with fail;refine(HAr.o _ w3 HB3.o).mono ?_;rintro e w4 ⟨rfl,hb4⟩;have HB4:=aa (HB3.o.trans (hb4.mono HB3.o.size));have HA2:=aa (show A=some (Br.arn (q:Int) (gF l)) by rw[HY.o k (by have:=HK.o;omega) HV.o.symm (fun m h1 h2=>HF.o m (by omega) h2),<-HAr2.o]);obtain⟨a,ha⟩:=aj (Br.arn (q:Int) (gF l));rw[<-ha]at HA2⊢;obtain⟨a1,a2⟩:=a;clear ha hb4 HAr2;go_wp2;go_ret3;refine⟨?_,HB4.o⟩;rw[HA2.o];rfl
    |false=>
     go_wp2;go_roundw
     case rel=>exact⟨k,by rw[HQ.o],by have:=HK.o;omega,aa (fun m h1 h2=>by
      by_cases e:m=k
      ·rw[e];exact HV.o.symm
      ·exact HF.o m (by omega) h2),HB3⟩
     case measure=>have:=HLT.o;simp[sS];omega
end Wd
end Go.Proofs.YtbbapnpdfcgjnaaGreatDoor
