/- SdRev, SdSide, SdSides: parts of the proof, joined. -/
import Derived.Test.YtbbapnpdfcgjnaaGreatDoorESdApp
open Go renaming cell_of_row->sR, frozen_of_row->sS, World->sW, Value->td, wp_append_lies->tA, heap_setCell_other->tC, bodyPost_ret->tK, info_parts->tT, Calls->tY
open List renaming getElem?_append_right->sT, getElem?_append_left->sY, getElem?_eq_some_iff->tc, getD_eq_getElem?_getD->tn, length_append->tp, getElem?_eq_getElem->tr, length_map->tu, length_singleton->tw, range->tD, getElem_range->tE, getElem?_map->tG, length_range->tH, ext_getElem->tN, getElem_map->tO, getElem_mem->tP
open Go.Value renaming slice->sU, ownBlock->tk, int->tM
open Go.World renaming cell?_of_block->sV, ownsRow_nil->tq, news_of_block->tB, ownsRow_lit->tJ, size_alloc->tL, grownBy->tU
open Go.RowKit renaming Below->sX, intOf->tR
open Go.RowKit.Below renaming refl->sZ, heap_alloc->ta
open Nat renaming lt_of_lt_of_le->te, le_refl->tf, le_trans->tj, sub_self->tt, zero_le->tz, eq_or_lt_of_le->tF, le_of_eq->tI, zero_add->tV
open Go.NoPanic renaming normal->tg
open Option.some renaming inj->ti
open Go.IntKind renaming signed->tS, wrap->tW, bits->tX, i64->tZ
set_option maxHeartbeats 64000000
namespace Go.Proofs.YtbbapnpdfcgjnaaGreatDoor
section
open Go.RowKit
namespace Pt
def RvQ(q:az)(w:sW)(e:Ending)(w':sW):Prop:=∃u0 u1 u2,e=.returned (.agg #[u0,u1,u2])/\dU w' (fun b=>b<w.heap.size) q u0 u1 u2/\sX w.heap.size w w'
structure Rv1(B:Nat)(U:sW)(op:Int)(cls:List Int)(ln:Nat)(W:sW)(p g gc:Nat):Prop where
 at_:W.heap[p]?=some (.cells #[.int .i64 op,.slice (some ⟨g,0,none⟩) ln gc,.slice none 0 0] 105 (0,0))
 below:sX B U W
 lo:B<=p
 glo:B<=g
 gp:g≠p
 rd:RdI W (some ⟨g,0,none⟩) cls
 gl:g<W.heap.size
theorem zfr{B B':Nat}{U W:sW}{op:Int}{cls:List Int}{ln p g gc:Nat}{x0 x1 x2:td}(hp:W.heap[p]?=some (.cells #[x0,x1,x2] 105 (0,0)))(hb:sX B U W)(lo:B<=p)(ho:W.ownsRow B' 3 1 (.slice (some ⟨g,0,none⟩) ln gc) ln (bf cls))(hg:g≠p)(hB:B<=B'):
  Rv1 B U op cls ln (st3 W p (.int .i64 op) (.slice (some ⟨g,0,none⟩) ln gc) (.slice none 0 0)) p g gc:=by
 obtain⟨h1,⟨cur,h2⟩,_,h3⟩:=dd ho;have hy:=nL W p (.int .i64 op) (.slice (some ⟨g,0,none⟩) ln gc) (.slice none 0 0);refine⟨zae hp,hb.trans (hy.below lo),lo,by omega,hg,fun k z hz=>⟨_,rfl,by rw[hy.size];exact ag h2,?_⟩,by rw[hy.size];exact ag h2⟩
 rw[Addr.add_lit,tV,sV (w:=W) (a:=⟨g,k,none⟩) (hy.block g hg)];exact h3 k _ (by unfold bf;rw[tG,hz];rfl)
structure RvI(N P B:Nat)(w:sW)(box:Array td)(op:Int)(cls:List Int)(ln g gc:Nat)(q:Nat->az)(i:Nat)(vo:Option Addr)(vc:Nat)(xs:List td)(wr:sW):Prop where
 at_:wr.heap[P]?=some (.cells #[.int .i64 op,.slice (some ⟨g,0,none⟩) ln gc,.slice vo i vc] 105 (0,0))
 own:wr.ownsRow B 105 3 (.slice vo i vc) i xs
 kid:∀j,j<i->∃u0 u1 u2,xs[j*3]?=some u0/\xs[j*3+1]?=some u1/\xs[j*3+2]?=some u2/\dU wr (fun b=>b<N+2\/b=P\/(sU vo i vc).ownBlock=some b) (q j) u0 u1 u2
 cls:gY wr (fun b=>b<N+2\/b=P\/(sU vo i vc).ownBlock=some b) (some ⟨g,0,none⟩) cls
 pbox:wr.heap[N]?=some (.cells box 105 (0,0))
 res:wr.heap[N+1]?=some (.cells #[.int .i64 0,.slice none 0 0,.slice none 0 0] 105 (0,0))
 below:sX N w wr
 lp:N+2<=P
 lb:P<B
 bs:B<=wr.heap.size
 low:∀b,(sU vo i vc).ownBlock=some b->B<=b
theorem RvI.cells{N P B:Nat}{w:sW}{box:Array td}{op:Int}{cls:List Int}{ln g gc:Nat}{q:Nat->az}{i:Nat}{vo:Option Addr}{vc:Nat}{xs:List td}{wr:sW}(h:RvI N P B w box op cls ln g gc q i vo vc xs wr)(W:sW)(hP:W.heap[P]?=wr.heap[P]?)(hN:W.heap[N]?=wr.heap[N]?):
  W.cell? ⟨P,2,none⟩=some (.slice vo i vc)/\(∀k,W.cell? ⟨N,k,none⟩=box[k]?):=by
 refine⟨by rw[sR W P 2 _ _ _ (hP.trans h.at_)];rfl,fun k=>by rw[sR W N k _ _ _ (hN.trans h.pbox)]⟩
theorem RvI.more{N P B:Nat}{w:sW}{box:Array td}{op:Int}{cls:List Int}{ln g gc:Nat}{q:Nat->az}{i:Nat}{vo:Option Addr}{vc:Nat}{xs ys:List td}{wr w4 w5 w6 w7:sW}{u0 u1 u2:td}{g8 c8:Nat}
  (h:RvI N P B w box op cls ln g gc q i vo vc xs wr) (hq:dU w4 (fun b=>b<wr.heap.size) (q i) u0 u1 u2) (b4:sX wr.heap.size wr w4) (hy:ys=[u0,u1,u2]) (b5:sX w4.heap.size w4 w5)
  (o6:w6.ownsRow B 105 3 (.slice (some ⟨g8,0,none⟩) (i+1) c8) (i+1) (xs++ys)) (gr:tU w5 w6 (sU vo i vc).ownBlock) (hg8:(sU vo i vc).ownBlock=some g8\/g8=w5.heap.size) (h7:w7=w6.setCell ⟨P,2,none⟩ (.slice (some ⟨g8,0,none⟩) (i+1) c8)):
  RvI N P B w box op cls ln g gc q (i+1) (some ⟨g8,0,none⟩) c8 (xs++ys) w7:=by
 have hPl:=ag h.at_;have s4:=b4.size;have s5:=b5.size;have s6:=gr.size;have lp:=h.lp;have lb:=h.lb;have hn5:∀b,b<wr.heap.size->w5.heap[b]?=wr.heap[b]? :=fun b hb=>(b5.block b (by omega)).trans (b4.block b hb)
 have hoB:∀b,(sU vo i vc).ownBlock=some b->B<=b/\b<wr.heap.size:=fun b hb=>by
  refine⟨h.low b hb,?_⟩
  rcases h.own.2 with ⟨k1,_⟩|⟨q',cap,cur,k1,_,k3,_⟩
  ·rw[k1]at hb;cases hb
  ·rw[k1]at hb
   cases hb
   exact ag k3
 have hk:∀b,b<w5.heap.size->(sU vo i vc).ownBlock≠some b->b≠P->w7.heap[b]?=w5.heap[b]? :=fun b hb h1 h2=>by
  rw[h7,tC _ ⟨P,2,none⟩ b _ h2];exact gr.block b hb (fun e=>h1 e.symm)
 have hg8B:B<=g8:=(dd o6).1;have e6:w6.heap[P]?=wr.heap[P]? :=(gr.block P (by omega) (fun e=>by have:=(hoB P e.symm).1;omega)).trans (hn5 P hPl)
 have sz7:w7.heap.size=w6.heap.size:=by rw[h7];simp
 have K1:KpX wr w7 (fun b=>b<N+2\/b=P\/(sU vo i vc).ownBlock=some b) (fun b=>b<N+2\/b=P\/(sU (some ⟨g8,0,none⟩) (i+1) c8).ownBlock=some b):=by
  refine⟨by omega,fun b hb hx=>?_,fun b hb hx=>?_⟩
  ·exact(hk b (by omega) (fun e=>hx (.inr (.inr e))) (fun e=>hx (.inr (.inl e)))).trans (hn5 b hb)
  ·rcases hx with hx|hx|hx
   ·exact .inl hx
   ·exact .inr (.inl hx)
   ·have e:g8=b:=by simpa[tk]using hx
    subst e
    rcases hg8 with h8|h8
    ·exact .inr (.inr h8)
    ·omega
 have K2:KpX w4 w7 (fun b=>b<wr.heap.size) (fun b=>b<N+2\/b=P\/(sU (some ⟨g8,0,none⟩) (i+1) c8).ownBlock=some b):=by
  refine⟨by omega,fun b hb hx=>?_,fun b hb hx=>?_⟩
  ·exact(hk b (by omega) (fun e=>hx (hoB b e).2) (fun e=>hx (by rw[e];exact hPl))).trans (b5.block b hb)
  ·rcases hx with hx|hx|hx
   ·show b<wr.heap.size
    have:=ag h.res;omega
   ·rw[hx];exact hPl
   ·have e:g8=b:=by simpa[tk]using hx
    subst e
    rcases hg8 with h8|h8
    ·exact(hoB _ h8).2
    ·omega
 have hown7:w7.ownsRow B 105 3 (.slice (some ⟨g8,0,none⟩) (i+1) c8) (i+1) (xs++ys):=⟨o6.1,o6.2.imp (fun e=>e) fun⟨q',cap,cur,k1,k2,k3,k4⟩=>⟨q',cap,cur,k1,k2,by rw[h7,tC _ ⟨P,2,none⟩ q' _ (by show q'≠P;omega)];exact k3,k4⟩⟩
 have hNl:=ag h.pbox;have hN1:=ag h.res;have hxl:=h.own.1;refine⟨?_,hown7,fun j hj=>?_,h.cls.keep K1,?_,?_,h.below.trans ?_,lp,lb,by have:=h.bs;omega,fun b hb=>?_⟩
 ·rw[h7]
  exact(heap_setCell_same w6 P 2 _ _ _ (e6.trans h.at_)).trans rfl
 ·by_cases e:j<i
  ·obtain⟨v0,v1,v2,a0,a1,a2,a3⟩:=h.kid j e
   refine⟨v0,v1,v2,?_,?_,?_,dU.keep K1 _ _ _ _ a3⟩
   ·rw[sY (by omega)];exact a0
   ·rw[sY (by omega)];exact a1
   ·rw[sY (by omega)];exact a2
  ·obtain rfl:j=i:=by omega
   subst hy;refine⟨u0,u1,u2,?_,?_,?_,dU.keep K2 _ _ _ _ hq⟩
   ·rw[sT (by omega),hxl,tt];rfl
   ·rw[sT (by omega),hxl,show j*3+1-j*3=1 by omega];rfl
   ·rw[sT (by omega),hxl,show j*3+2-j*3=2 by omega];rfl
 ·exact(hk N (by omega) (fun e=>by have:=(hoB N e).1;omega) (by omega)).trans ((hn5 N hNl).trans h.pbox)
 ·exact(hk (N+1) (by omega) (fun e=>by have:=(hoB _ e).1;omega) (by omega)).trans ((hn5 _ hN1).trans h.res)
 ·have f1:sX N wr w5:=(b4.mono (by omega)).trans (b5.mono (by omega))
  refine f1.trans ⟨by rw[h7];exact gr.os,by rw[h7];exact gr.tape,by rw[h7];exact gr.output,by omega,fun b hb=>hk b (by omega) (fun e=>by have:=(hoB b e).1;omega) (by omega)⟩
 ·have e:g8=b:=by simpa[tk]using hb
  omega
theorem RvI.done{N P B:Nat}{w:sW}{box:Array td}{op:Int}{cls:List Int}{ln g gc:Nat}{q:Nat->az}{i:Nat}{vo:Option Addr}{vc:Nat}{xs:List td}{wr w':sW}(h:RvI N P B w box op cls ln g gc q i vo vc xs wr)(hs:w'.heap.size=wr.heap.size)(hb:∀b,b≠N+1->w'.heap[b]?=wr.heap[b]?)(hln:ln=cls.length)(hl9:ln<=1000000)(hi9:i<=1000000):
  dU w' (fun b=>b<N) (.mk op cls ((tD i).map q)) (.int .i64 op) (.slice (some ⟨g,0,none⟩) ln gc) (.slice vo i vc):=by
 have hK:KpX wr w' (fun b=>b<N+2\/b=P\/(sU vo i vc).ownBlock=some b) (fun b=>b<N):=⟨by omega,fun b _ hx=>hb b (fun e=>hx (.inl (by omega))),fun b _ hx=>.inl (by have h:b<N:=hx;omega)⟩
 unfold dU;refine⟨rfl,⟨_,gc,by rw[hln],h.cls.keep hK,by omega⟩,vo,vc,by simp,?_,by simpa using hi9,by
  rw[tu,tH]
  rcases h.own.2 with ⟨k1,k2⟩|⟨g',cap,cur,k1,_,_,k4,_⟩
  ·omega
  ·cases k1;exact k4⟩
 rcases h.own.2 with ⟨k1,k2⟩|⟨g',cap,cur,k1,k2,k3,k4⟩
 ·subst k2
  unfold fE
  trivial
 ·cases k1
  obtain⟨c1,_,_,c4⟩:=dd h.own;have lp:=h.lp;have lb:=h.lb;refine fE.of g' (by rw[hs];exact ag k3) (by omega) _ 0 fun j p hj=>?_
  have hjl:=(tc.1 hj).1;rw[tu,tH]at hjl;rw[tG,List.getElem?_range hjl]at hj
  cases hj
  obtain⟨u0,u1,u2,a0,a1,a2,a3⟩:=h.kid j hjl;have hc:∀k v,xs[k]?=some v->w'.cell? ⟨g',k,none⟩=some v:=fun k v hv=>(sV (a:=⟨g',k,none⟩) (hb g' (by omega))).trans (c4 k v hv)
  rw[tV];exact⟨u0,u1,u2,hc _ _ a0,hc _ _ a1,hc _ _ a2,dU.keep hK _ _ _ _ a3⟩
theorem dU.shape{w:sW}{X:Nat->Prop}:∀{p:az} {v0 v1 v2:td},dU w X p v0 v1 v2->∃(o:Int)(co:Option Addr)(cn cc:Nat)(ko:Option Addr)(kn kc:Nat),v0=.int .i64 o/\v1=.slice co cn cc/\v2=.slice ko kn kc
 | .mk op cls kids,v0,v1,v2,h=>by
  unfold dU at h;obtain⟨h1,⟨co,cc,h2,h3,h4⟩,ko,kc,h5,h6,h7⟩:=h;exact⟨op,co,_,cc,ko,_,kc,h1,h2,h5⟩
theorem pp(w:sW)(v:Array td)(T:TypeId):∀j u,v.toList[j]?=some u->(w.alloc (.cells v T)).cell? ((⟨w.heap.size,0,none⟩:Addr).add j)=some u:=tB (cs:=v) (heap_alloc_new w _)
theorem oN{B:Nat}{U W V:sW}{H hh:Nat}(hb:sX B U W)(gr:W.grownBy V (some H))(hs:B<=W.heap.size)(hH:hh<=H)(hB:B<=hh):sX B U V:=hb.trans ⟨gr.os,gr.tape,gr.output,gr.size,fun k hk=>gr.block k (by omega) (fun e=>by have e':=ti e;omega)⟩
set_option maxRecDepth 100000 in
theorem ry(z:Bool)(f:Nat->Nat)(lo ko:Option Addr)(ln lc kn kc:Nat)(op:Int)(e2:(op==2)=z)(cls:List Int)(q:Nat->az)(w:sW)(hz:z=true->f=fun i=>kn-1-i)(hy:z=false->f=fun i=>i)(hln:ln=cls.length)(hl9:ln<=1000000)(hk9:kn<=1000000)(hI:RdI w lo cls)(HK:ae (KdQ w ko kn 146 fun j=>RvQ (q j))):
  tY Tryz.prog 146 #[.agg #[.int .i64 op,.slice lo ln lc,.slice ko kn kc]] w (RvQ (.mk op cls ((tD kn).map fun i=>q (f i))) w):=by
 have HLN:=aa hln;clear hln;have HZY:=aa (And.intro hz hy);clear hz hy;have HB00:=aa (fun(o:Obj)=>below_box (w:=w) (o:=o))
 go_enter Tryz.func146,Tryz.ntmps146;go_wp2_with fail;obtain⟨u,hu⟩:=am ((w.alloc (.cells #[.int .i64 op,.slice lo ln lc,.slice ko kn kc] 105)).alloc (.cells #[.int .i64 0,.slice none 0 0,.slice none 0 0] 105));rw[<- hu];have HUb:ae (sX w.heap.size w u):=aa (by rw[hu];exact((sZ _ _).alloc (tf _) _).alloc (by simp) _)
 have hus:u.heap.size=w.heap.size+2:=by rw[hu];simp
 have hN:u.heap[w.heap.size]?=some (.cells #[.int .i64 op,.slice lo ln lc,.slice ko kn kc] 105):=by rw[hu];exact(ta _ _ _ (by simp)).trans (heap_alloc_new w _)
 have hN1:u.heap[w.heap.size+1]?=some (.cells #[.int .i64 0,.slice none 0 0,.slice none 0 0] 105):=by
  have:=heap_alloc_new (w.alloc (.cells #[.int .i64 op,.slice lo ln lc,.slice ko kn kc] 105)) (.cells #[.int .i64 0,.slice none 0 0,.slice none 0 0] 105);rw[tL]at this;rw[hu];exact this
 have HN:=aa hN;have HN1:=aa hN1;have HUS:=aa hus;have HT:ae (∀W,sX (w.heap.size+2) u W->RdI W lo cls):=aa (fun W h=>(hI.below HUb.o).below (by rw[hus];exact h))
 have HC:ae (∀W,sX (w.heap.size+2) u W->W.cell? ⟨w.heap.size,0,none⟩=some (.int .i64 op)/\W.cell? ⟨w.heap.size,1,none⟩=some (.slice lo ln lc)):=aa (fun W h=>⟨by rw[sR W w.heap.size 0 _ _ _ ((h.block _ (by omega)).trans HN.o)];rfl,by rw[sR W w.heap.size 1 _ _ _ ((h.block _ (by omega)).trans HN.o)];rfl⟩)
 clear hu hus hN hN1 hI;refine zsA (fun a' W=>∃(H p g gc:Nat),Rv1 (w.heap.size+2) u op cls ln W p g gc/\a'={tmps:=#[.agg #[.int .i64 op,.slice lo ln lc,.slice ko kn kc],.pointer (some ⟨w.heap.size,0,none⟩),.pointer (some ⟨w.heap.size+1,0,none⟩),.pointer (some ⟨p,0,none⟩),undef,undef,undef,.pointer (some ⟨w.heap.size,0,none⟩),.int .i64 op,.slice (some ⟨H,0,none⟩) 0 0,.pointer (some ⟨w.heap.size,1,none⟩),.slice lo ln lc,.slice (some ⟨g,0,none⟩) ln gc,.agg #[.int .i64 op,.slice (some ⟨g,0,none⟩) ln gc,.slice none 0 0],undef,undef,undef,undef,undef,undef,undef,undef,undef,undef,undef,undef,undef,undef,undef,undef,undef,undef,undef,undef,undef,undef,undef,undef,undef,undef,undef,undef],defers:=[]}) ?m1 ?m2
 case m1=>
  obtain⟨v,hv⟩:=am u.drew;have HB0:ae (sX (w.heap.size+2) u v):=aa (by rw[hv];exact(sZ _ _).drew)
  have HS0:ae (w.heap.size+2<=v.heap.size):=aa (by rw[hv];exact tI HUS.o.symm)
  refine dp (.one 0 1 (.one 1 1 (.one 3 1 (.one 4 1 (.two 2 7 (.two 5 7 (.one 6 1 (.one 7 2 (.one 8 2 .nil))) (.one 5 2 (.one 6 1 (.one 8 2 .nil)))) (.one 2 2 (.one 5 2 (.one 6 1 (.one 8 2 .nil))))))))) (fun _=>True) (fun W=>W.cell? ⟨w.heap.size,0,none⟩=some (.int .i64 op)/\W.cell? ⟨w.heap.size,1,none⟩=some (.slice lo ln lc)) (fun _=>false) (by kernel_rfl) (by kernel_rfl) (fun j hj=>by cases hj) rfl (by kernel_rfl) trivial (HC.o _ (sZ _ _).drew) ?_
  rw[<- hv];clear hv;obtain⟨v0,hv0⟩:=am v;rw[<- hv0]at HB0 HS0;rw[<- hv0];clear hv0
  iterate 4 (refine cT ?_ rfl (by kernel_rfl) (fun w' hS=>?_) ?_;(rotate_left;(obtain⟨s1,s2⟩:=hS;go_simp;with_reducible rfl);rotate_left))
  refine dQ ?x2 ?x7
  case x2=>
   refine bM rfl (by kernel_rfl) fun KK hKK=>?_
   go_simp;have HB1:=aa (HB0.o.alloc HS0.o (.cells #[] 3));refine hKK _ _ (fun _=>trivial) (HC.o _ HB1.o) ?_
   clear hKK KK;obtain⟨v1,hv1⟩:=am (v0.alloc (.cells #[] 3));rw[<- hv1]at HB1;rw[<- hv1];have HS1:ae (w.heap.size+2<=v1.heap.size):=aa (by rw[hv1];have:=HS0.o;simp;omega)
   have HZ1:ae (v1.heap.size=v0.heap.size+1):=aa (by rw[hv1];simp)
   have HA1:ae (v1.heap[v0.heap.size]?=some (.cells #[] 3)):=aa (by rw[hv1];exact heap_alloc_new _ _)
   have HK1:ae (∀b,b<v0.heap.size->v1.heap[b]?=v0.heap[b]?):=aa (fun b hb=>by rw[hv1];exact ta _ _ _ hb)
   have HO1:ae (v1.ownsRow v0.heap.size 3 1 (.slice (some ⟨v0.heap.size,0,none⟩) 0 0) 0 []):=aa (by rw[hv1];exact tJ v0 #[] 0 (tf _) (by decide) (by simp))
   clear hv1;refine dQ ?x5 ?x57
   case x5=>
    have HH:ae (v0.heap.size<=v1.heap.size):=aa (by have:=HZ1.o;omega)
    have HHL:ae (w.heap.size+2<=v0.heap.size):=aa HS0.o;refine bM rfl (by kernel_rfl) fun KK hKK=>?_
    refine sJ _ _ rfl v0.heap.size v0.heap.size rfl HO1.o lo ln lc cls rfl (HT.o _ HB1.o) HLN.o (by omega) HH.o ?_
    intro g gc v2 o2 gr2 hg2 hlt2;have HB2:=aa (oN HB1.o gr2 HS1.o (tf _) HHL.o);have HS2:ae (w.heap.size+2<=v2.heap.size):=aa (tj HS1.o gr2.size);have HR2:=aa o2;have HG2:=aa gr2;have HL2:=aa hlt2;have HGG2:=aa hg2;refine hKK _ _ (fun _=>trivial) (HC.o _ HB2.o) ?_
    clear hKK KK o2 gr2 hg2 hlt2;refine cT ?_ rfl (by kernel_rfl) (fun w' hS=>?_) ?_;(rotate_left;(go_simp;with_reducible rfl);rotate_left)
    refine aH rfl (by kernel_rfl) fun KK hKK=>?_
    go_simp;have HB3:=aa (HB2.o.alloc HS2.o (.cells #[.int .i64 0,.slice none 0 0,.slice none 0 0] 105));refine hKK _ _ (fun _=>trivial) (HC.o _ HB3.o) ?_
    clear hKK KK;obtain⟨v3,hv3⟩:=am (v2.alloc (.cells #[.int .i64 0,.slice none 0 0,.slice none 0 0] 105));rw[<- hv3]at HB3;rw[<- hv3];have HS3:ae (w.heap.size+2<=v3.heap.size):=aa (by rw[hv3];have:=HS2.o;simp;omega)
    have HZ3:ae (v3.heap.size=v2.heap.size+1):=aa (by rw[hv3];simp)
    have HA3:ae (v3.heap[v2.heap.size]?=some (.cells #[.int .i64 0,.slice none 0 0,.slice none 0 0] 105)):=aa (by rw[hv3];exact heap_alloc_new _ _)
    have HK3:ae (∀b,b<v2.heap.size->v3.heap[b]?=v2.heap[b]?):=aa (fun b hb=>by rw[hv3];exact ta _ _ _ hb)
    clear hv3;have HP:=aa HA3.o;have HPP:=aa HS2.o;obtain⟨p,hp⟩:=am v2.heap.size;rw[<- hp]at HP;rw[<- hp];have HPL:ae (w.heap.size+2<=p):=aa (by rw[hp];exact HPP.o)
    have HGP:ae (g≠p):=aa (by rw[hp];have:=HL2.o;omega)
    have HOW:ae (v3.ownsRow v0.heap.size 3 1 (.slice (some ⟨g,0,none⟩) ln gc) ln (bf cls)):=aa ⟨HR2.o.1,HR2.o.2.imp (fun e=>e) fun⟨q',cap,cur,k1,k2,k3,k4⟩=>⟨q',cap,cur,k1,k2,(HK3.o q' (ag k3)).trans k3,k4⟩⟩
    clear hp;have x0:v3.cell? ⟨p,0,none⟩=some (.int .i64 0):=by rw[sR v3 p 0 _ _ _ HP.o];rfl
    have x1:v3.cell? ⟨p,1,none⟩=some (.slice none 0 0):=by rw[sR v3 p 1 _ _ _ HP.o];rfl
    have x2:v3.cell? ⟨p,2,none⟩=some (.slice none 0 0):=by rw[sR v3 p 2 _ _ _ HP.o];rfl
    have z0:=sS v3 p 0 _ _ HP.o;have z1:=sS v3 p 1 _ _ HP.o;have z2:=sS v3 p 2 _ _ HP.o;refine aH rfl (by kernel_rfl) fun KK hKK=>?_
    go_simp;have HQ:=aa (zfr (op:=op) HP.o HB3.o HPL.o HOW.o HGP.o HHL.o);refine hKK _ _ (fun _=>trivial) (HC.o _ HQ.o.below) ?_
    clear hKK KK;refine cg (tg ?_);exact⟨rfl,_,_,_,_,HQ.o,rfl⟩
   case x57=>
    refine bM rfl (by kernel_rfl) fun KK hKK=>?_
    go_simp;have HB2:=aa (HB1.o.alloc HS1.o (.cells #[.int .i64 0,.slice none 0 0,.slice none 0 0] 105));refine hKK _ _ (fun _=>trivial) (HC.o _ HB2.o) ?_
    clear hKK KK;obtain⟨v2,hv2⟩:=am (v1.alloc (.cells #[.int .i64 0,.slice none 0 0,.slice none 0 0] 105));rw[<- hv2]at HB2;rw[<- hv2];have HS2:ae (w.heap.size+2<=v2.heap.size):=aa (by rw[hv2];have:=HS1.o;simp;omega)
    have HZ2:ae (v2.heap.size=v1.heap.size+1):=aa (by rw[hv2];simp)
    have HA2:ae (v2.heap[v1.heap.size]?=some (.cells #[.int .i64 0,.slice none 0 0,.slice none 0 0] 105)):=aa (by rw[hv2];exact heap_alloc_new _ _)
    have HK2:ae (∀b,b<v1.heap.size->v2.heap[b]?=v1.heap[b]?):=aa (fun b hb=>by rw[hv2];exact ta _ _ _ hb)
    clear hv2;have HO2:ae (v2.ownsRow v0.heap.size 3 1 (.slice (some ⟨v0.heap.size,0,none⟩) 0 0) 0 []):=aa ⟨HO1.o.1,HO1.o.2.imp (fun e=>e) fun⟨q',cap,cur,k1,k2,k3,k4⟩=>⟨q',cap,cur,k1,k2,(HK2.o q' (ag k3)).trans k3,k4⟩⟩
    have HH:ae (v0.heap.size<=v2.heap.size):=aa (by have:=HZ1.o;have:=HZ2.o;omega)
    have HHL:ae (w.heap.size+2<=v0.heap.size):=aa HS0.o;refine aH rfl (by kernel_rfl) fun KK hKK=>?_
    refine sJ _ _ rfl v0.heap.size v0.heap.size rfl HO2.o lo ln lc cls rfl (HT.o _ HB2.o) HLN.o (by omega) HH.o ?_
    intro g gc v3 o3 gr3 hg3 hlt3;have HB3:=aa (oN HB2.o gr3 HS2.o (tf _) HHL.o);have HS3:ae (w.heap.size+2<=v3.heap.size):=aa (tj HS2.o gr3.size);have HR3:=aa o3;have HG3:=aa gr3;have HL3:=aa hlt3;have HGG3:=aa hg3;refine hKK _ _ (fun _=>trivial) (HC.o _ HB3.o) ?_
    clear hKK KK o3 gr3 hg3 hlt3;refine cT ?_ rfl (by kernel_rfl) (fun w' hS=>?_) ?_;(rotate_left;(go_simp;with_reducible rfl);rotate_left)
    have HP:ae (v3.heap[v1.heap.size]?=_):=aa ((HG3.o.block v1.heap.size (by have:=HZ2.o;omega) (fun e=>by have e':=ti e;have:=HZ1.o;omega)).trans HA2.o)
    have HPP:=aa HS1.o;obtain⟨p,hp⟩:=am v1.heap.size;rw[<- hp]at HP;rw[<- hp];have HPL:ae (w.heap.size+2<=p):=aa (by rw[hp];exact HPP.o)
    have HGP:ae (g≠p):=aa (by rw[hp];have h1:=HGG3.o;have h2:=HZ1.o;have h3:=HZ2.o;omega)
    have HOW:ae (v3.ownsRow v0.heap.size 3 1 (.slice (some ⟨g,0,none⟩) ln gc) ln (bf cls)):=aa HR3.o;clear hp;have x0:v3.cell? ⟨p,0,none⟩=some (.int .i64 0):=by rw[sR v3 p 0 _ _ _ HP.o];rfl
    have x1:v3.cell? ⟨p,1,none⟩=some (.slice none 0 0):=by rw[sR v3 p 1 _ _ _ HP.o];rfl
    have x2:v3.cell? ⟨p,2,none⟩=some (.slice none 0 0):=by rw[sR v3 p 2 _ _ _ HP.o];rfl
    have z0:=sS v3 p 0 _ _ HP.o;have z1:=sS v3 p 1 _ _ HP.o;have z2:=sS v3 p 2 _ _ HP.o;refine aH rfl (by kernel_rfl) fun KK hKK=>?_
    go_simp;have HQ:=aa (zfr (op:=op) HP.o HB3.o HPL.o HOW.o HGP.o HHL.o);refine hKK _ _ (fun _=>trivial) (HC.o _ HQ.o.below) ?_
    clear hKK KK;refine cg (tg ?_);exact⟨rfl,_,_,_,_,HQ.o,rfl⟩
  case x7=>
   refine bM rfl (by kernel_rfl) fun KK hKK=>?_
   go_simp;have HB1:=aa (HB0.o.alloc HS0.o (.cells #[.int .i64 0,.slice none 0 0,.slice none 0 0] 105));refine hKK _ _ (fun _=>trivial) (HC.o _ HB1.o) ?_
   clear hKK KK;obtain⟨v1,hv1⟩:=am (v0.alloc (.cells #[.int .i64 0,.slice none 0 0,.slice none 0 0] 105));rw[<- hv1]at HB1;rw[<- hv1];have HS1:ae (w.heap.size+2<=v1.heap.size):=aa (by rw[hv1];have:=HS0.o;simp;omega)
   have HZ1:ae (v1.heap.size=v0.heap.size+1):=aa (by rw[hv1];simp)
   have HA1:ae (v1.heap[v0.heap.size]?=some (.cells #[.int .i64 0,.slice none 0 0,.slice none 0 0] 105)):=aa (by rw[hv1];exact heap_alloc_new _ _)
   have HK1:ae (∀b,b<v0.heap.size->v1.heap[b]?=v0.heap[b]?):=aa (fun b hb=>by rw[hv1];exact ta _ _ _ hb)
   clear hv1;refine aH rfl (by kernel_rfl) fun KK hKK=>?_
   go_simp;have HB2:=aa (HB1.o.alloc HS1.o (.cells #[] 3));refine hKK _ _ (fun _=>trivial) (HC.o _ HB2.o) ?_
   clear hKK KK;obtain⟨v2,hv2⟩:=am (v1.alloc (.cells #[] 3));rw[<- hv2]at HB2;rw[<- hv2];have HS2:ae (w.heap.size+2<=v2.heap.size):=aa (by rw[hv2];have:=HS1.o;simp;omega)
   have HZ2:ae (v2.heap.size=v1.heap.size+1):=aa (by rw[hv2];simp)
   have HA2:ae (v2.heap[v1.heap.size]?=some (.cells #[] 3)):=aa (by rw[hv2];exact heap_alloc_new _ _)
   have HK2:ae (∀b,b<v1.heap.size->v2.heap[b]?=v1.heap[b]?):=aa (fun b hb=>by rw[hv2];exact ta _ _ _ hb)
   have HO2:ae (v2.ownsRow v1.heap.size 3 1 (.slice (some ⟨v1.heap.size,0,none⟩) 0 0) 0 []):=aa (by rw[hv2];exact tJ v1 #[] 0 (tf _) (by decide) (by simp))
   clear hv2;have HH:ae (v1.heap.size<=v2.heap.size):=aa (by have:=HZ2.o;omega)
   have HHL:ae (w.heap.size+2<=v1.heap.size):=aa HS1.o;refine aH rfl (by kernel_rfl) fun KK hKK=>?_
   refine sJ _ _ rfl v1.heap.size v1.heap.size rfl HO2.o lo ln lc cls rfl (HT.o _ HB2.o) HLN.o (by omega) HH.o ?_
   intro g gc v3 o3 gr3 hg3 hlt3;have HB3:=aa (oN HB2.o gr3 HS2.o (tf _) HHL.o);have HS3:ae (w.heap.size+2<=v3.heap.size):=aa (tj HS2.o gr3.size);have HR3:=aa o3;have HG3:=aa gr3;have HL3:=aa hlt3;have HGG3:=aa hg3;refine hKK _ _ (fun _=>trivial) (HC.o _ HB3.o) ?_
   clear hKK KK o3 gr3 hg3 hlt3;refine cT ?_ rfl (by kernel_rfl) (fun w' hS=>?_) ?_;(rotate_left;(go_simp;with_reducible rfl);rotate_left)
   have HP:ae (v3.heap[v0.heap.size]?=_):=aa ((HG3.o.block v0.heap.size (by have:=HZ1.o;have:=HZ2.o;omega) (fun e=>by have e':=ti e;have:=HZ1.o;omega)).trans ((HK2.o v0.heap.size (by have:=HZ1.o;omega)).trans HA1.o))
   have HPP:=aa HS0.o;obtain⟨p,hp⟩:=am v0.heap.size;rw[<- hp]at HP;rw[<- hp];have HPL:ae (w.heap.size+2<=p):=aa (by rw[hp];exact HPP.o)
   have HGP:ae (g≠p):=aa (by rw[hp];have h1:=HGG3.o;have h2:=HZ1.o;have h3:=HZ2.o;omega)
   have HOW:ae (v3.ownsRow v1.heap.size 3 1 (.slice (some ⟨g,0,none⟩) ln gc) ln (bf cls)):=aa HR3.o;clear hp;have x0:v3.cell? ⟨p,0,none⟩=some (.int .i64 0):=by rw[sR v3 p 0 _ _ _ HP.o];rfl
   have x1:v3.cell? ⟨p,1,none⟩=some (.slice none 0 0):=by rw[sR v3 p 1 _ _ _ HP.o];rfl
   have x2:v3.cell? ⟨p,2,none⟩=some (.slice none 0 0):=by rw[sR v3 p 2 _ _ _ HP.o];rfl
   have z0:=sS v3 p 0 _ _ HP.o;have z1:=sS v3 p 1 _ _ HP.o;have z2:=sS v3 p 2 _ _ HP.o;refine aH rfl (by kernel_rfl) fun KK hKK=>?_
   go_simp;have HQ:=aa (zfr (op:=op) HP.o HB3.o HPL.o HOW.o HGP.o HHL.o);refine hKK _ _ (fun _=>trivial) (HC.o _ HQ.o.below) ?_
   clear hKK KK;refine cg (tg ?_);exact⟨rfl,_,_,_,_,HQ.o,rfl⟩
 case m2=>
  rintro a' W1 ⟨H,p,g,gc,O1,rfl⟩
  cases z with
  |true=>
   obtain rfl:=HZY.o.1 rfl;obtain⟨B,hB⟩:=am W1.heap.size;have HBz:=aa hB;have HI0:ae (RvI w.heap.size p B w #[.int .i64 op,.slice lo ln lc,.slice ko kn kc] op cls ln g gc (fun i=>q (kn-1-i)) 0 none 0 [] W1):=aa ⟨O1.at_,tq _ _ _ _,fun j hj=>by omega,fun k z hz=>by
    obtain⟨a,h1,h2,h3⟩:=O1.rd k z hz
    cases h1
    exact⟨_,rfl,h2,(fun h=>by
     have h4:=O1.glo
     rcases h with h|h|h
     ·have h':g<w.heap.size+2:=h
      omega
     ·exact O1.gp h
     ·cases h),h3⟩,(O1.below.block _ (by omega)).trans HN.o,(O1.below.block _ (by omega)).trans HN1.o,HUb.o.trans (O1.below.mono (by omega)),O1.lo,by rw[hB];exact ag O1.at_,tI hB,fun b hb=>by cases hb⟩
   clear O1 hB HN HN1 HUS HT HC HUb;have x2:W1.cell? ⟨w.heap.size,2,none⟩=some (.slice ko kn kc):=(HI0.o.cells W1 rfl rfl).2 2;go_wp2;clear x2;go_loopw [5] (fun y wr=>∃(i:Nat)(vo:Option Addr)(vc:Nat)(xs:List td),y=.int .i64 i/\i<=kn/\ae (RvI w.heap.size p B w #[.int .i64 op,.slice lo ln lc,.slice ko kn kc] op cls ln g gc (fun i=>q (kn-1-i)) i vo vc xs wr)) (fun y _=>kn-(tR y).toNat)
   case atStart=>exact⟨0,none,0,[],rfl,tz _,HI0⟩
   case round=>
    clear HI0;obtain⟨i,vo,vc,xs,rfl,hi,HI⟩:=hrel
    by_cases hlt:i<kn
    ·have i1:(i:Int)<(kn:Int):=by omega
     obtain⟨k,hk⟩:=am (kn-1-i);have hkn:k<kn:=by omega
     have k0:(0:Int)<=(k:Int):=by omega
     have k1:(k:Int)<(kn:Int):=by omega
     have HQk:ae (q k=(fun i=>q (kn-1-i)) i):=aa (by rw[hk])
     obtain⟨b,o,u0,u1,u2,rfl,hb,q0,q1,q2,hL⟩:=HK.o k hkn;have hbw:=HI.o.below;have HCs:=aa HI.o.cells;have HBw:=aa hbw;have HLb:=aa hb;have y0:wr.cell? ⟨b,o+k*3,none⟩=some u0:=(hbw.cell (p:=⟨b,o+k*3,none⟩) hb).trans q0;have y1:wr.cell? ⟨b,o+k*3+1,none⟩=some u1:=(hbw.cell (p:=⟨b,o+k*3+1,none⟩) hb).trans q1;have y2:wr.cell? ⟨b,o+k*3+2,none⟩=some u2:=(hbw.cell (p:=⟨b,o+k*3+2,none⟩) hb).trans q2;have HL:=aa (hL wr.drew ⟨hbw.os,hbw.tape,hbw.output,hbw.size,hbw.block⟩);have cN:=(HI.o.cells wr rfl rfl).2 0;have HS:=aa (fun(W:sW)(h:sX wr.heap.size wr W)=>show W.cell? ⟨p,2,none⟩=some (.slice vo i vc)/\W.cell? ⟨w.heap.size,2,none⟩=some (.slice (some ⟨b,o,none⟩) kn kc)/\W.cell? ⟨b,o+k*3,none⟩=some u0/\W.cell? ⟨b,o+k*3+1,none⟩=some u1/\W.cell? ⟨b,o+k*3+2,none⟩=some u2 from by
      have hbr:b<wr.heap.size:=te HLb.o HBw.o.size;have h1:=HCs.o W (h.block _ (ag HI.o.at_)) (h.block _ (ag HI.o.pbox));exact⟨h1.1,h1.2 2,(h.cell (p:=⟨b,o+k*3,none⟩) hbr).trans y0,(h.cell (p:=⟨b,o+k*3+1,none⟩) hbr).trans y1,(h.cell (p:=⟨b,o+k*3+2,none⟩) hbr).trans y2⟩)
     clear q0 q1 q2 hL hbw hb y0 y1 y2;have e3:(kn:Int)-1-(i:Int)=(k:Int):=by omega
     have e4:tZ.wrap ((kn:Int)-1)=(kn:Int)-1:=by unfold tW tX tS;simp;omega
     have e5:tZ.wrap ((kn:Int)-1-(i:Int))=(k:Int):=by rw[e3];unfold tW tX tS;simp;omega
     clear hk e3;go_wp2_with fail;clear cN;refine au [(0,true),(1,true),(2,true),(3,true),(4,true),(5,true),(6,true),(7,false),(8,false),(9,false),(10,false),(11,false)] (fun W=>W.cell? ⟨p,2,none⟩=some (.slice vo i vc)/\W.cell? ⟨w.heap.size,2,none⟩=some (.slice (some ⟨b,o,none⟩) kn kc)/\W.cell? ⟨b,o+k*3,none⟩=some u0/\W.cell? ⟨b,o+k*3+1,none⟩=some u1/\W.cell? ⟨b,o+k*3+2,none⟩=some u2) (fun j=>j==11) (by kernel_rfl) (by kernel_rfl) (fun j hj=>by have:=beq_iff_eq.1 hj;subst this;decide) rfl (by kernel_rfl) (HS.o _ (show sX wr.heap.size wr wr.drew from(sZ _ _).drew)) ?_
     iterate 7 (refine ax ?_ rfl (by kernel_rfl) (fun w' hS=>?_) ?_;(rotate_left;(obtain⟨s0,s1,s2,s3,s4⟩:=hS;go_simp;with_reducible rfl);rotate_left))
     refine av rfl (by kernel_rfl) fun KK hKK=>?_
     go_simp;refine HL.o.mono ?_;rintro e w4 ⟨t0,t1,t2,rfl,hP4,hB4⟩;have HP4:ae (dU w4 (fun b=>b<wr.heap.size) ((fun i=>q (kn-1-i)) i) t0 t1 t2):=aa (by have hh:=hP4;rw[HQk.o]at hh;exact hh)
     have HB4:ae (sX wr.heap.size wr w4):=aa ⟨hB4.os,hB4.tape,hB4.output,hB4.size,hB4.block⟩;obtain⟨z0,zo,zn,zc,zk,zm,zp,rfl,rfl,rfl⟩:=hP4.shape;clear hP4 hB4 HL HQk;refine hKK _ _ (fun _=>HS.o _ HB4.o) ?_
     clear hKK;refine av rfl (by kernel_rfl) fun KK hKK=>?_
     go_simp;obtain⟨w5,hw5⟩:=am (w4.alloc (.cells #[.int .i64 z0,.slice zo zn zc,.slice zk zm zp] 105));rw[<- hw5];have HB5:ae (sX w4.heap.size w4 w5):=aa (by rw[hw5];exact below_box)
     have HN5:ae (∀j u,[tM .i64 z0,.slice zo zn zc,.slice zk zm zp][j]?=some u->w5.cell? ((⟨w4.heap.size,0,none⟩:Addr).add j)=some u):=aa (by rw[hw5];exact pp w4 _ _)
     clear hw5;have HBB:ae (sX wr.heap.size wr w5):=aa (HB4.o.trans (HB5.o.mono HB4.o.size));refine hKK _ _ (fun _=>HS.o _ HBB.o) ?_
     clear hKK;obtain⟨iR,hiR,hz0,hz1,hz2⟩:=tT Tryz.infoPat;have HO5:ae (w5.ownsRow B 105 3 (.slice vo i vc) i xs):=aa ⟨HI.o.own.1,HI.o.own.2.imp (fun e=>e) fun⟨q',cap,cur,k1,k2,k3,k4⟩=>⟨q',cap,cur,k1,k2,(HBB.o.block q' (ag k3)).trans k3,k4⟩⟩
     have HlB:ae (B<=w5.heap.size):=aa (tj HI.o.bs HBB.o.size);refine av rfl (by kernel_rfl) fun KK hKK=>?_
     refine tA _ _ _ 103 rfl B 105 iR (.agg #[.int .i64 0,.slice none 0 0,.slice none 0 0]) 3 56 Tryz.underPats hiR hz0 hz1 hz2 rfl (by decide) (.slice vo i vc) i xs rfl HO5.o ⟨w4.heap.size,0,none⟩ 1 1 [tM .i64 z0,.slice zo zn zc,.slice zk zm zp] rfl rfl HN5.o (fun u hu=>by simp at hu;rcases hu with h|h|h<;>rw[h]<;>rfl) (by decide) (by unfold maxLen;omega) (by omega) HlB.o w5.heap.size rfl ?_
     intro g8 c8 w6 o6 gr6 hl6 hlt6;have HM:=aa (fun(w7:sW)(h7:w7=w6.setCell ⟨p,2,none⟩ (.slice (some ⟨g8,0,none⟩) (i+1) c8))=>HI.o.more HP4.o HB4.o rfl HB5.o o6 gr6 hl6 h7)
     have e6:w6.heap[p]?=wr.heap[p]? :=(gr6.block p (te (ag HI.o.at_) HBB.o.size) (fun e=>by have:=HI.o.low p e.symm;have:=HI.o.lb;omega)).trans (HBB.o.block p (ag HI.o.at_))
     have f6:w6.frozen? ⟨p,2,none⟩=false:=sS w6 p 2 _ _ (e6.trans HI.o.at_);have c6:w6.cell? ⟨p,2,none⟩=some (.slice vo i vc):=by rw[sR w6 p 2 _ _ _ (e6.trans HI.o.at_)];rfl
     have HS6:ae (w6.cell? ⟨p,2,none⟩=some (.slice vo i vc)/\w6.cell? ⟨w.heap.size,2,none⟩=some (.slice (some ⟨b,o,none⟩) kn kc)/\w6.cell? ⟨b,o+k*3,none⟩=some u0/\w6.cell? ⟨b,o+k*3+1,none⟩=some u1/\w6.cell? ⟨b,o+k*3+2,none⟩=some u2):=aa (by
      obtain⟨s0,s1,s2,s3,s4⟩:=HS.o w5 HBB.o;have hbl:=HLb.o;have hws:=HBw.o.size;have hs5:=HBB.o.size;have hlow:=HI.o.low;have hlp:=HI.o.lp;have hlb:=HI.o.lb;have hNl:=ag HI.o.pbox;have hcc:∀(d k:Nat)(v:td),d<w.heap.size+1->w5.cell? ⟨d,k,none⟩=some v->w6.cell? ⟨d,k,none⟩=some v:=fun d k v hd hv=>(sV (a:=⟨d,k,none⟩) (gr6.block d (by omega) (fun e=>by have:=hlow d e.symm;omega))).trans hv
      exact⟨c6,hcc _ _ _ (by omega) s1,hcc _ _ _ (by omega) s2,hcc _ _ _ (by omega) s3,hcc _ _ _ (by omega) s4⟩)
     refine hKK _ _ (fun _=>HS6.o) ?_
     clear hKK o6 gr6 hl6 hlt6 e6;refine av rfl (by kernel_rfl) fun KK hKK=>?_
     go_simp;refine hKK _ _ (fun _=>HS6.o) ?_
     clear hKK;refine av rfl (by kernel_rfl) fun KK hKK=>?_
     go_simp;refine hKK _ _ (fun h=>by cases h) ?_
     clear hKK;refine aS (tg ?_);have HM2:=aa (HM.o _ rfl);clear HM HS HS6 c6 f6;go_wp2;go_roundw
     case rel=>exact⟨i+1,_,_,_,by go_num,by omega,HM2⟩
     case measure=>simp[tR];omega
    ·have i1:¬(i:Int)<(kn:Int):=by omega
     obtain rfl:i=kn:=by omega
     have c0:wr.cell? ⟨p,0,none⟩=some (.int .i64 op):=by rw[sR wr p 0 _ _ _ HI.o.at_];rfl
     have c1:wr.cell? ⟨p,1,none⟩=some (.slice (some ⟨g,0,none⟩) ln gc):=by rw[sR wr p 1 _ _ _ HI.o.at_];rfl
     have c2:wr.cell? ⟨p,2,none⟩=some (.slice vo i vc):=by rw[sR wr p 2 _ _ _ HI.o.at_];rfl
     have d0:wr.cell? ⟨w.heap.size+1,0,none⟩=some (.int .i64 0):=by rw[sR wr _ 0 _ _ _ HI.o.res];rfl
     have d1:wr.cell? ⟨w.heap.size+1,1,none⟩=some (.slice none 0 0):=by rw[sR wr _ 1 _ _ _ HI.o.res];rfl
     have d2:wr.cell? ⟨w.heap.size+1,2,none⟩=some (.slice none 0 0):=by rw[sR wr _ 2 _ _ _ HI.o.res];rfl
     have f0:=sS wr _ 0 _ _ HI.o.res;have f1:=sS wr _ 1 _ _ HI.o.res;have f2:=sS wr _ 2 _ _ HI.o.res;have HI2:ae (wr.cell? ⟨w.heap.size,2,none⟩=some (.slice ko i kc)):=aa ((HI.o.cells wr rfl rfl).2 2);have x2:=HI2.o;have lb:=HI.o.lp;go_wp2;obtain⟨w5,hw5⟩:=am (((wr.setCell ⟨w.heap.size+1,0,none⟩ (.int .i64 op)).setCell ⟨w.heap.size+1,1,none⟩ (.slice (some ⟨g,0,none⟩) ln gc)).setCell ⟨w.heap.size+1,2,none⟩ (.slice vo i vc));rw[<- hw5];have k5:dm (w.heap.size+1) wr w5:=by rw[hw5];exact nL wr (w.heap.size+1) _ _ _
     have z5:w5.heap[w.heap.size+1]?=some (.cells #[.int .i64 op,.slice (some ⟨g,0,none⟩) ln gc,.slice vo i vc] 105 (0,0)):=by rw[hw5];exact zae HI.o.res
     have y0:w5.cell? ⟨w.heap.size+1,0,none⟩=some (.int .i64 op):=by rw[sR w5 _ 0 _ _ _ z5];rfl
     have y1:w5.cell? ⟨w.heap.size+1,1,none⟩=some (.slice (some ⟨g,0,none⟩) ln gc):=by rw[sR w5 _ 1 _ _ _ z5];rfl
     have y2:w5.cell? ⟨w.heap.size+1,2,none⟩=some (.slice vo i vc):=by rw[sR w5 _ 2 _ _ _ z5];rfl
     refine tK (v:=.agg #[.int .i64 op,.slice (some ⟨g,0,none⟩) ln gc,.slice vo i vc]) ?_ rfl ?_
     ·simp[results,Tryz.f146,go_sem,y0,y1,y2]
     ·exact⟨_,_,_,rfl,HI.o.done k5.size (fun b hb=>k5.block b hb) HLN.o hl9 hk9,HI.o.below.trans (k5.below (by omega))⟩
  |false=>
   obtain rfl:=HZY.o.2 rfl;obtain⟨B,hB⟩:=am W1.heap.size;have HBz:=aa hB;have HI0:ae (RvI w.heap.size p B w #[.int .i64 op,.slice lo ln lc,.slice ko kn kc] op cls ln g gc (fun i=>q (i)) 0 none 0 [] W1):=aa ⟨O1.at_,tq _ _ _ _,fun j hj=>by omega,fun k z hz=>by
    obtain⟨a,h1,h2,h3⟩:=O1.rd k z hz
    cases h1
    exact⟨_,rfl,h2,(fun h=>by
     have h4:=O1.glo
     rcases h with h|h|h
     ·have h':g<w.heap.size+2:=h
      omega
     ·exact O1.gp h
     ·cases h),h3⟩,(O1.below.block _ (by omega)).trans HN.o,(O1.below.block _ (by omega)).trans HN1.o,HUb.o.trans (O1.below.mono (by omega)),O1.lo,by rw[hB];exact ag O1.at_,tI hB,fun b hb=>by cases hb⟩
   clear O1 hB HN HN1 HUS HT HC HUb;have x2:W1.cell? ⟨w.heap.size,2,none⟩=some (.slice ko kn kc):=(HI0.o.cells W1 rfl rfl).2 2;go_wp2;clear x2;go_loopw [5] (fun y wr=>∃(i:Nat)(vo:Option Addr)(vc:Nat)(xs:List td),y=.int .i64 i/\i<=kn/\ae (RvI w.heap.size p B w #[.int .i64 op,.slice lo ln lc,.slice ko kn kc] op cls ln g gc (fun i=>q (i)) i vo vc xs wr)) (fun y _=>kn-(tR y).toNat)
   case atStart=>exact⟨0,none,0,[],rfl,tz _,HI0⟩
   case round=>
    clear HI0;obtain⟨i,vo,vc,xs,rfl,hi,HI⟩:=hrel
    by_cases hlt:i<kn
    ·have i1:(i:Int)<(kn:Int):=by omega
     obtain⟨k,hk⟩:=am i;have hkn:k<kn:=by omega
     have k0:(0:Int)<=(k:Int):=by omega
     have k1:(k:Int)<(kn:Int):=by omega
     have HQk:ae (q k=(fun i=>q (i)) i):=aa (by rw[hk])
     obtain⟨b,o,u0,u1,u2,rfl,hb,q0,q1,q2,hL⟩:=HK.o k hkn;have hbw:=HI.o.below;have HCs:=aa HI.o.cells;have HBw:=aa hbw;have HLb:=aa hb;have y0:wr.cell? ⟨b,o+k*3,none⟩=some u0:=(hbw.cell (p:=⟨b,o+k*3,none⟩) hb).trans q0;have y1:wr.cell? ⟨b,o+k*3+1,none⟩=some u1:=(hbw.cell (p:=⟨b,o+k*3+1,none⟩) hb).trans q1;have y2:wr.cell? ⟨b,o+k*3+2,none⟩=some u2:=(hbw.cell (p:=⟨b,o+k*3+2,none⟩) hb).trans q2;have HL:=aa (hL wr.drew ⟨hbw.os,hbw.tape,hbw.output,hbw.size,hbw.block⟩);have cN:=(HI.o.cells wr rfl rfl).2 0;have HS:=aa (fun(W:sW)(h:sX wr.heap.size wr W)=>show W.cell? ⟨p,2,none⟩=some (.slice vo i vc)/\W.cell? ⟨w.heap.size,2,none⟩=some (.slice (some ⟨b,o,none⟩) kn kc)/\W.cell? ⟨b,o+k*3,none⟩=some u0/\W.cell? ⟨b,o+k*3+1,none⟩=some u1/\W.cell? ⟨b,o+k*3+2,none⟩=some u2 from by
      have hbr:b<wr.heap.size:=te HLb.o HBw.o.size;have h1:=HCs.o W (h.block _ (ag HI.o.at_)) (h.block _ (ag HI.o.pbox));exact⟨h1.1,h1.2 2,(h.cell (p:=⟨b,o+k*3,none⟩) hbr).trans y0,(h.cell (p:=⟨b,o+k*3+1,none⟩) hbr).trans y1,(h.cell (p:=⟨b,o+k*3+2,none⟩) hbr).trans y2⟩)
     clear q0 q1 q2 hL hbw hb y0 y1 y2;have hk':=hk.symm;subst hk';clear hk;go_wp2_with fail;clear cN;refine au [(0,true),(1,true),(2,true),(3,true),(4,true),(5,true),(6,true),(7,false),(8,false),(9,false),(10,false),(11,false)] (fun W=>W.cell? ⟨p,2,none⟩=some (.slice vo i vc)/\W.cell? ⟨w.heap.size,2,none⟩=some (.slice (some ⟨b,o,none⟩) kn kc)/\W.cell? ⟨b,o+i*3,none⟩=some u0/\W.cell? ⟨b,o+i*3+1,none⟩=some u1/\W.cell? ⟨b,o+i*3+2,none⟩=some u2) (fun j=>j==11) (by kernel_rfl) (by kernel_rfl) (fun j hj=>by have:=beq_iff_eq.1 hj;subst this;decide) rfl (by kernel_rfl) (HS.o _ (show sX wr.heap.size wr wr.drew from(sZ _ _).drew)) ?_
     iterate 7 (refine ax ?_ rfl (by kernel_rfl) (fun w' hS=>?_) ?_;(rotate_left;(obtain⟨s0,s1,s2,s3,s4⟩:=hS;go_simp;with_reducible rfl);rotate_left))
     refine av rfl (by kernel_rfl) fun KK hKK=>?_
     go_simp;refine HL.o.mono ?_;rintro e w4 ⟨t0,t1,t2,rfl,hP4,hB4⟩;have HP4:ae (dU w4 (fun b=>b<wr.heap.size) ((fun i=>q (i)) i) t0 t1 t2):=aa hP4
     have HB4:ae (sX wr.heap.size wr w4):=aa ⟨hB4.os,hB4.tape,hB4.output,hB4.size,hB4.block⟩;obtain⟨z0,zo,zn,zc,zk,zm,zp,rfl,rfl,rfl⟩:=hP4.shape;clear hP4 hB4 HL HQk;refine hKK _ _ (fun _=>HS.o _ HB4.o) ?_
     clear hKK;refine av rfl (by kernel_rfl) fun KK hKK=>?_
     go_simp;obtain⟨w5,hw5⟩:=am (w4.alloc (.cells #[.int .i64 z0,.slice zo zn zc,.slice zk zm zp] 105));rw[<- hw5];have HB5:ae (sX w4.heap.size w4 w5):=aa (by rw[hw5];exact below_box)
     have HN5:ae (∀j u,[tM .i64 z0,.slice zo zn zc,.slice zk zm zp][j]?=some u->w5.cell? ((⟨w4.heap.size,0,none⟩:Addr).add j)=some u):=aa (by rw[hw5];exact pp w4 _ _)
     clear hw5;have HBB:ae (sX wr.heap.size wr w5):=aa (HB4.o.trans (HB5.o.mono HB4.o.size));refine hKK _ _ (fun _=>HS.o _ HBB.o) ?_
     clear hKK;obtain⟨iR,hiR,hz0,hz1,hz2⟩:=tT Tryz.infoPat;have HO5:ae (w5.ownsRow B 105 3 (.slice vo i vc) i xs):=aa ⟨HI.o.own.1,HI.o.own.2.imp (fun e=>e) fun⟨q',cap,cur,k1,k2,k3,k4⟩=>⟨q',cap,cur,k1,k2,(HBB.o.block q' (ag k3)).trans k3,k4⟩⟩
     have HlB:ae (B<=w5.heap.size):=aa (tj HI.o.bs HBB.o.size);refine av rfl (by kernel_rfl) fun KK hKK=>?_
     refine tA _ _ _ 103 rfl B 105 iR (.agg #[.int .i64 0,.slice none 0 0,.slice none 0 0]) 3 56 Tryz.underPats hiR hz0 hz1 hz2 rfl (by decide) (.slice vo i vc) i xs rfl HO5.o ⟨w4.heap.size,0,none⟩ 1 1 [tM .i64 z0,.slice zo zn zc,.slice zk zm zp] rfl rfl HN5.o (fun u hu=>by simp at hu;rcases hu with h|h|h<;>rw[h]<;>rfl) (by decide) (by unfold maxLen;omega) (by omega) HlB.o w5.heap.size rfl ?_
     intro g8 c8 w6 o6 gr6 hl6 hlt6;have HM:=aa (fun(w7:sW)(h7:w7=w6.setCell ⟨p,2,none⟩ (.slice (some ⟨g8,0,none⟩) (i+1) c8))=>HI.o.more HP4.o HB4.o rfl HB5.o o6 gr6 hl6 h7)
     have e6:w6.heap[p]?=wr.heap[p]? :=(gr6.block p (te (ag HI.o.at_) HBB.o.size) (fun e=>by have:=HI.o.low p e.symm;have:=HI.o.lb;omega)).trans (HBB.o.block p (ag HI.o.at_))
     have f6:w6.frozen? ⟨p,2,none⟩=false:=sS w6 p 2 _ _ (e6.trans HI.o.at_);have c6:w6.cell? ⟨p,2,none⟩=some (.slice vo i vc):=by rw[sR w6 p 2 _ _ _ (e6.trans HI.o.at_)];rfl
     have HS6:ae (w6.cell? ⟨p,2,none⟩=some (.slice vo i vc)/\w6.cell? ⟨w.heap.size,2,none⟩=some (.slice (some ⟨b,o,none⟩) kn kc)/\w6.cell? ⟨b,o+i*3,none⟩=some u0/\w6.cell? ⟨b,o+i*3+1,none⟩=some u1/\w6.cell? ⟨b,o+i*3+2,none⟩=some u2):=aa (by
      obtain⟨s0,s1,s2,s3,s4⟩:=HS.o w5 HBB.o;have hbl:=HLb.o;have hws:=HBw.o.size;have hs5:=HBB.o.size;have hlow:=HI.o.low;have hlp:=HI.o.lp;have hlb:=HI.o.lb;have hNl:=ag HI.o.pbox;have hcc:∀(d k:Nat)(v:td),d<w.heap.size+1->w5.cell? ⟨d,k,none⟩=some v->w6.cell? ⟨d,k,none⟩=some v:=fun d k v hd hv=>(sV (a:=⟨d,k,none⟩) (gr6.block d (by omega) (fun e=>by have:=hlow d e.symm;omega))).trans hv
      exact⟨c6,hcc _ _ _ (by omega) s1,hcc _ _ _ (by omega) s2,hcc _ _ _ (by omega) s3,hcc _ _ _ (by omega) s4⟩)
     refine hKK _ _ (fun _=>HS6.o) ?_
     clear hKK o6 gr6 hl6 hlt6 e6;refine av rfl (by kernel_rfl) fun KK hKK=>?_
     go_simp;refine hKK _ _ (fun _=>HS6.o) ?_
     clear hKK;refine av rfl (by kernel_rfl) fun KK hKK=>?_
     go_simp;refine hKK _ _ (fun h=>by cases h) ?_
     clear hKK;refine aS (tg ?_);have HM2:=aa (HM.o _ rfl);clear HM HS HS6 c6 f6;go_wp2;go_roundw
     case rel=>exact⟨i+1,_,_,_,by go_num,by omega,HM2⟩
     case measure=>simp[tR];omega
    ·have i1:¬(i:Int)<(kn:Int):=by omega
     obtain rfl:i=kn:=by omega
     have c0:wr.cell? ⟨p,0,none⟩=some (.int .i64 op):=by rw[sR wr p 0 _ _ _ HI.o.at_];rfl
     have c1:wr.cell? ⟨p,1,none⟩=some (.slice (some ⟨g,0,none⟩) ln gc):=by rw[sR wr p 1 _ _ _ HI.o.at_];rfl
     have c2:wr.cell? ⟨p,2,none⟩=some (.slice vo i vc):=by rw[sR wr p 2 _ _ _ HI.o.at_];rfl
     have d0:wr.cell? ⟨w.heap.size+1,0,none⟩=some (.int .i64 0):=by rw[sR wr _ 0 _ _ _ HI.o.res];rfl
     have d1:wr.cell? ⟨w.heap.size+1,1,none⟩=some (.slice none 0 0):=by rw[sR wr _ 1 _ _ _ HI.o.res];rfl
     have d2:wr.cell? ⟨w.heap.size+1,2,none⟩=some (.slice none 0 0):=by rw[sR wr _ 2 _ _ _ HI.o.res];rfl
     have f0:=sS wr _ 0 _ _ HI.o.res;have f1:=sS wr _ 1 _ _ HI.o.res;have f2:=sS wr _ 2 _ _ HI.o.res;have HI2:ae (wr.cell? ⟨w.heap.size,2,none⟩=some (.slice ko i kc)):=aa ((HI.o.cells wr rfl rfl).2 2);have x2:=HI2.o;have lb:=HI.o.lp;go_wp2;obtain⟨w5,hw5⟩:=am (((wr.setCell ⟨w.heap.size+1,0,none⟩ (.int .i64 op)).setCell ⟨w.heap.size+1,1,none⟩ (.slice (some ⟨g,0,none⟩) ln gc)).setCell ⟨w.heap.size+1,2,none⟩ (.slice vo i vc));rw[<- hw5];have k5:dm (w.heap.size+1) wr w5:=by rw[hw5];exact nL wr (w.heap.size+1) _ _ _
     have z5:w5.heap[w.heap.size+1]?=some (.cells #[.int .i64 op,.slice (some ⟨g,0,none⟩) ln gc,.slice vo i vc] 105 (0,0)):=by rw[hw5];exact zae HI.o.res
     have y0:w5.cell? ⟨w.heap.size+1,0,none⟩=some (.int .i64 op):=by rw[sR w5 _ 0 _ _ _ z5];rfl
     have y1:w5.cell? ⟨w.heap.size+1,1,none⟩=some (.slice (some ⟨g,0,none⟩) ln gc):=by rw[sR w5 _ 1 _ _ _ z5];rfl
     have y2:w5.cell? ⟨w.heap.size+1,2,none⟩=some (.slice vo i vc):=by rw[sR w5 _ 2 _ _ _ z5];rfl
     refine tK (v:=.agg #[.int .i64 op,.slice (some ⟨g,0,none⟩) ln gc,.slice vo i vc]) ?_ rfl ?_
     ·simp[results,Tryz.f146,go_sem,y0,y1,y2]
     ·exact⟨_,_,_,rfl,HI.o.done k5.size (fun b hb=>k5.block b hb) HLN.o hl9 hk9,HI.o.below.trans (k5.below (by omega))⟩
theorem zfB(kids:List az):(tD kids.length).map (fun i=>oU (kids.getD i (.mk 0 [] [])))=kids.map oU:=by
 apply tN
 ·simp
 ·intro i h1 h2
  have h3:i<kids.length:=by simpa using h1
  simp only[tO,tE,lw h3]
theorem zfA(kids:List az):(tD kids.length).map (fun i=>oU (kids.getD (kids.length-1-i) (.mk 0 [] [])))=(kids.map oU).reverse:=by
 apply tN
 ·simp
 ·intro i h1 h2
  have h3:i<kids.length:=by simpa using h1
  have h4:kids.length-1-i<kids.length:=by omega
  simp only[tO,tE,lw h4,List.getElem_reverse,tu]
theorem zcw:∀p:az,∀(v0 v1 v2:td)(w:sW),cC w p v0 v1 v2->tY Tryz.prog 146 #[.agg #[v0,v1,v2]] w (RvQ (oU p) w):=by
 refine az.ind fun op cls kids ih v0 v1 v2 w hP=>?_
 unfold cC at hP;obtain⟨rfl,⟨lo,lc,rfl,hl1,hl2⟩,ko,kc,rfl,hk1,hk2,_⟩:=hP;have HK:=aa (zgm (Q:=fun p=>RvQ (oU p)) hk1 (fun p hp u0 u1 u2 W hW=>ih p hp u0 u1 u2 W hW))
 rw[zfx]
 by_cases o2:op=2
 ·have h:=ry true _ lo ko cls.length lc kids.length kc op (by rw[o2];rfl) cls (fun j=>oU (kids.getD j (.mk 0 [] []))) w (fun _=>rfl) nofun rfl hl2 hk2 hl1 HK
  rw[if_pos o2,<- zfA];exact h
 ·have h:=ry false _ lo ko cls.length lc kids.length kc op (beq_eq_false_iff_ne.2 o2) cls (fun j=>oU (kids.getD j (.mk 0 [] []))) w nofun (fun _=>rfl) rfl hl2 hk2 hl1 HK
  rw[if_neg o2,<- zfB];exact h
theorem zlX{op:Int}{cls:List Int}{n m:Nat}(h:OkN op cls n)(e:n=m):OkN op cls m:=e ▸ h
theorem zhH:∀ps:List az,(∀p∈ps,jX p)->nB ps
 |[],_=>by unfold nB;trivial
 |p::ps,h=>by
  unfold nB;exact⟨h p (List.mem_cons_self ..),zhH ps fun q hq=>h q (List.mem_cons_of_mem _ hq)⟩
theorem ztb:∀p:az,jX p->jX (oU p):=by
 refine az.ind fun op cls kids ih hO=>?_
 unfold jX at hO;rw[zfx];unfold jX;refine⟨zlX hO.1 (by split<;>simp),zhH _ fun p hp=>?_⟩
 have hm:p∈kids.map oU:=by
  split at hp
  ·exact List.mem_reverse.1 hp
  ·exact hp
 obtain⟨q,hq,rfl⟩:=List.mem_map.1 hm;exact ih q hq (hO.2.mem hq)
theorem sQ:∀ps:List az,kG ps=(ps.map gu).sum
 |[]=>rfl
 |p::ps=>by rw[kG,sQ ps,List.map_cons,List.sum_cons]
theorem zsD:∀p:az,gu (oU p)=gu p:=by
 refine az.ind fun op cls kids ih=>?_
 rw[zfx];unfold gu;rw[sQ,sQ];have e:(kids.map oU).map gu=kids.map gu:=by
  rw[List.map_map];exact List.map_congr_left fun p hp=>ih p hp
 split
 ·rw[List.map_reverse,List.sum_reverse,e]
 ·rw[e]
theorem zan(p:az)(hO:jX p)(hs:gu p<=2048)(v0 v1 v2:td)(w:sW)(hP:cC w p v0 v1 v2):tY Tryz.prog 108 #[.agg #[v0,v1,v2]] w fun e w'=>∃u0 u1 u2,e=.returned (.agg #[u0,u1,u2])/\cC w' (oU p) u0 u1 u2/\sX w.heap.size w w':=by
 have HG:=aa (fun(W:sW)(h:sX w.heap.size w W)=>fT p hO hs v0 v1 v2 W (cC.below h _ _ _ _ hP))
 have HR:=aa (fun(W:sW)(h:sX w.heap.size w W)=>zcw p v0 v1 v2 W (cC.below h _ _ _ _ hP))
 clear hP;go_enter Tryz.func108,Tryz.ntmps108;go_wp2_with fail;obtain⟨w1,hw1⟩:=am ((w.alloc (.cells #[v0,v1,v2] 105)).alloc (.cells #[.int .i64 0,.slice none 0 0,.slice none 0 0] 105));have hb1:sX w.heap.size w w1:=by rw[hw1];exact((sZ _ _).alloc (tf _) _).alloc (by simp) _
 have hN:w1.heap[w.heap.size]?=some (.cells #[v0,v1,v2] 105):=by rw[hw1];exact(ta _ _ _ (by simp)).trans (heap_alloc_new w _)
 have hN1:w1.heap[w.heap.size+1]?=some (.cells #[.int .i64 0,.slice none 0 0,.slice none 0 0] 105):=by
  have:=heap_alloc_new (w.alloc (.cells #[v0,v1,v2] 105)) (.cells #[.int .i64 0,.slice none 0 0,.slice none 0 0] 105);rw[tL]at this;rw[hw1];exact this
 rw[<- hw1];have HB1:=aa hb1;have HN:=aa hN;have HN1:=aa hN1;clear hw1 hb1 hN hN1;refine(HG.o w1 HB1.o).mono ?_;rintro e w2 ⟨rfl,hB2⟩;have hN2:=(hB2.block _ (ag HN.o)).trans HN.o;have HN2:=aa ((hB2.block _ (ag HN1.o)).trans HN1.o);have x0:w2.cell? ⟨w.heap.size,0,none⟩=some v0:=by rw[sR w2 _ 0 _ _ _ hN2];rfl
 have x1:w2.cell? ⟨w.heap.size,1,none⟩=some v1:=by rw[sR w2 _ 1 _ _ _ hN2];rfl
 have x2:w2.cell? ⟨w.heap.size,2,none⟩=some v2:=by rw[sR w2 _ 2 _ _ _ hN2];rfl
 have HB2:=aa (HB1.o.trans (hB2.mono HB1.o.size));clear hB2 hN2;go_wp2_with fail;refine(HR.o w2 HB2.o).mono ?_;rintro e w3 ⟨t0,t1,t2,rfl,hP3,hB3⟩;have HP3:=aa hP3;obtain⟨z0,zo,zn,zc,zk,zm,zp,rfl,rfl,rfl⟩:=hP3.shape;have HN3:=aa ((hB3.block _ (ag HN2.o)).trans HN2.o);have HB3:=aa (HB2.o.trans (hB3.mono HB2.o.size));have HS:=aa (ag HN2.o);have d0:w3.cell? ⟨w.heap.size+1,0,none⟩=some (.int .i64 0):=by rw[sR w3 _ 0 _ _ _ HN3.o];rfl
 have d1:w3.cell? ⟨w.heap.size+1,1,none⟩=some (.slice none 0 0):=by rw[sR w3 _ 1 _ _ _ HN3.o];rfl
 have d2:w3.cell? ⟨w.heap.size+1,2,none⟩=some (.slice none 0 0):=by rw[sR w3 _ 2 _ _ _ HN3.o];rfl
 have f0:=sS w3 _ 0 _ _ HN3.o;have f1:=sS w3 _ 1 _ _ HN3.o;have f2:=sS w3 _ 2 _ _ HN3.o;clear hB3 hP3 x0 x1 x2;go_wp2;obtain⟨w5,hw5⟩:=am (((w3.setCell ⟨w.heap.size+1,0,none⟩ (.int .i64 z0)).setCell ⟨w.heap.size+1,1,none⟩ (.slice zo zn zc)).setCell ⟨w.heap.size+1,2,none⟩ (.slice zk zm zp));rw[<- hw5];have k5:dm (w.heap.size+1) w3 w5:=by rw[hw5];exact nL w3 (w.heap.size+1) _ _ _
 have z5:w5.heap[w.heap.size+1]?=some (.cells #[.int .i64 z0,.slice zo zn zc,.slice zk zm zp] 105 (0,0)):=by rw[hw5];exact zae HN3.o
 have y0:w5.cell? ⟨w.heap.size+1,0,none⟩=some (.int .i64 z0):=by rw[sR w5 _ 0 _ _ _ z5];rfl
 have y1:w5.cell? ⟨w.heap.size+1,1,none⟩=some (.slice zo zn zc):=by rw[sR w5 _ 1 _ _ _ z5];rfl
 have y2:w5.cell? ⟨w.heap.size+1,2,none⟩=some (.slice zk zm zp):=by rw[sR w5 _ 2 _ _ _ z5];rfl
 refine tK (v:=.agg #[.int .i64 z0,.slice zo zn zc,.slice zk zm zp]) ?_ rfl ?_
 ·simp[results,Tryz.f108,go_sem,y0,y1,y2]
 ·refine⟨_,_,_,rfl,dU.rd _ _ _ _ (dU.keep (X':=fun _=>False) ⟨by rw[k5.size];exact tf _,fun b _ hx=>k5.block b (fun e=>hx (by rw[e];exact HS.o)),fun _ _ h=>h.elim⟩ _ _ _ _ HP3.o),HB3.o.trans (k5.below (by omega))⟩
end Pt
end
section
open Go.RowKit
namespace Pt
structure Sd where
 L:List Int
 R:List Int
 noL:Bool
 noR:Bool
def zrI(r:Rl)(s:Sd):Prop:=dG (oU r.left) s.L/\dG r.right s.R/\(s.noL=false->Ful r.left)/\(s.noR=false->Ful r.right)
def Sd.may(s:Sd)(a b:Int):Bool:=(s.noL||kk s.L a)&&(s.noR||kk s.R b)
theorem zqA{r:Rl}{s:Sd}{c:List Int}{k:Nat}(h:zrI r s)(hk0:0<k)(hk:k<c.length)(hA:App r c k):s.may (c.getD (k-1) 0) (c.getD k 0)=true:=by
 obtain⟨⟨i,hi,h1⟩,⟨j,hj,hjc,h2⟩,_,_⟩:=hA;obtain⟨o1,o2,o3,o4⟩:=h;unfold Sd.may;rw[Bool.and_eq_true,Bool.or_eq_true,Bool.or_eq_true]
 constructor
 ·rcases tF hi with e|e
  ·subst e
   cases hn:s.noL with
   |true=>exact .inl rfl
   |false=>exact absurd h1 (o3 hn c i)
  ·right
   have h3:=oa c r.left i k (Nat.le_of_lt hk) h1;obtain⟨z,h4,h5⟩:=o1 c.reverse (c.length-k) (c.length-i) h3 (by omega)
   rw[List.getElem?_reverse (by omega),show c.length-1-(c.length-k)=k-1 by omega]at h4
   rw[tn,h4];exact(cO _ _).2 h5
 ·rcases tF hj with e|e
  ·subst e
   cases hn:s.noR with
   |true=>exact .inl rfl
   |false=>exact absurd h2 (o4 hn c k)
  ·right
   obtain⟨z,h4,h5⟩:=o2 c k j h2 e;rw[tn,h4];exact(cO _ _).2 h5
theorem sy(lo:Option Addr)(n lc:Nat)(l:List Int)(c:Int)(w:sW)(hl:RdI w lo l)(hn:n=l.length)(hm:n<=2048000000):
  tY Tryz.prog 110 #[.slice lo n lc,.int .i64 c] w fun e w'=>e=.returned (.bool (kk l c))/\w'=w:=by
 have HL:=aa hl;have HN:=aa hn;clear hl hn;go_enter Tryz.func110,Tryz.ntmps110;go_wp2;go_loopw [5] (fun y wr=>∃i:Nat,y=.int .i64 i/\i<=n/\wr=w/\ae (∀z∈l.take i,z≠c)) (fun y _=>n-(tR y).toNat)
 case atStart=>exact⟨0,rfl,tz _,rfl,aa (by simp)⟩
 case round=>
  obtain⟨i,rfl,hi,rfl,HT⟩:=hrel
  by_cases hlt:i<n
  ·have i0:(0:Int)<=(i:Int):=by omega
   have i1:(i:Int)<(n:Int):=by omega
   have hil:i<l.length:=by have:=HN.o;omega
   obtain⟨a,rfl,ha,c1⟩:=HL.o.at hil;obtain⟨z,hz⟩:=am (l[i]);rw[<- hz]at c1;have HZ:=aa hz;clear hz
   by_cases e:z=c
   ·subst e
    have b1:(z==z)=true:=by simp
    have HE:ae (kk l z=true):=aa ((cO l z).2 (by rw[HZ.o];exact tP _))
    go_wp2;go_ret;exact⟨by rw[HE.o];rfl,rfl⟩
   ·have b1:(z==c)=false:=by simpa using e
    have HE:=aa e;clear e;go_wp2;go_roundw
    case rel=>
     refine⟨i+1,by go_num,by omega,trivial,aa fun x hx=>?_⟩
     rw[List.take_succ_eq_append_getElem hil,List.mem_append]at hx
     rcases hx with hx|hx
     ·exact HT.o x hx
     ·rw[List.mem_singleton]at hx
      rw[hx,<- HZ.o];exact HE.o
    case measure=>simp[tR];omega
  ·have i1:¬(i:Int)<(n:Int):=by omega
   have HE:ae (kk l c=false):=aa (by
    cases h:kk l c with
    |false=>rfl
    |true=>exact absurd rfl (HT.o c (by rw[List.take_of_length_le (by have:=HN.o;omega)];exact(cO l c).1 h)))
   go_wp2;go_ret;exact⟨by rw[HE.o];rfl,rfl⟩
theorem zqB(s:Sd)(lo ro:Option Addr)(ln lc rn rc:Nat)(a b:Int)(w:sW)(hL:RdI w lo s.L)(hR:RdI w ro s.R)(hln:ln=s.L.length)(hrn:rn=s.R.length)(hl9:ln<=2048000000)(hr9:rn<=2048000000):
  tY Tryz.prog 75 #[.agg #[.slice lo ln lc,.slice ro rn rc,.bool s.noL,.bool s.noR],.int .i64 a,.int .i64 b] w fun e w'=>e=.returned (.bool (s.may a b))/\sX w.heap.size w w':=by
 have HA1:=aa (fun(W:sW)(h:sX w.heap.size w W)=>sy lo ln lc s.L a W (hL.below h) hln hl9)
 have HA2:=aa (fun(W:sW)(h:sX w.heap.size w W)=>sy ro rn rc s.R b W (hR.below h) hrn hr9)
 have HV:ae (s.may a b=((s.noL||kk s.L a)&&(s.noR||kk s.R b))):=aa rfl
 obtain⟨p,hp⟩:=am s.noL;obtain⟨q,hq⟩:=am s.noR;obtain⟨x,hx⟩:=am (kk s.L a);obtain⟨y,hy⟩:=am (kk s.R b);rw[<- hp,<- hq,<- hx,<- hy]at HV;rw[<- hx]at HA1;rw[<- hy]at HA2;rw[<- hp,<- hq,HV.o];clear hL hR hln hrn hl9 hr9 HV hp hq hx hy;have HB:=aa (fun(o:Obj)=>below_box (w:=w) (o:=o))
 cases p with
 |true=>
  cases q with
  |true=>
   go_enter Tryz.func75,Tryz.ntmps75;go_wp2;go_ret;exact⟨rfl,HB.o _⟩
  |false=>
   go_enter Tryz.func75,Tryz.ntmps75;go_wp2_with fail;refine(HA2.o _ (HB.o _)).mono ?_;rintro e w2 ⟨rfl,rfl⟩
   cases y<;>(go_wp2;go_ret;exact⟨rfl,HB.o _⟩)
 |false=>
  go_enter Tryz.func75,Tryz.ntmps75;go_wp2_with fail;refine(HA1.o _ (HB.o _)).mono ?_;rintro e w2 ⟨rfl,rfl⟩
  cases x with
  |false=>
   go_wp2;go_ret;exact⟨rfl,HB.o _⟩
  |true=>
   cases q with
   |true=>
    go_wp2;go_ret;exact⟨rfl,HB.o _⟩
   |false=>
    go_wp2_with fail;refine(HA2.o _ (HB.o _)).mono ?_;rintro e w3 ⟨rfl,rfl⟩
    cases y<;>(go_wp2;go_ret;exact⟨rfl,HB.o _⟩)
end Pt
end
section
open Go.RowKit
namespace Pt
theorem Tryz.infoSide:(Tryz.prog.info? 101).map (fun i=>(i.zero,i.size,i.bytes))=some (some (.agg #[.slice none 0 0,.slice none 0 0,.bool false,.bool false]),4,56):=by kernel_rfl
theorem Tryz.underSides:Tryz.prog.underlying 98=some (.slice 101):=by kernel_rfl
def SdX(w:sW)(X:Nat->Prop)(sds:List Sd)(xs:List td):Prop:=∀(j:Nat)(s:Sd),sds[j]?=some s->∃lo lc ro rc,xs[j*4]?=some (.slice lo s.L.length lc)/\xs[j*4+1]?=some (.slice ro s.R.length rc)/\xs[j*4+2]?=some (.bool s.noL)/\xs[j*4+3]?=some (.bool s.noR)/\gY w X lo s.L/\gY w X ro s.R/\s.L.length<=2048000000/\s.R.length<=2048000000
theorem SdX.keep{w w':sW}{X X':Nat->Prop}{sds:List Sd}{xs:List td}(h:SdX w X sds xs)(hk:KpX w w' X X'):SdX w' X' sds xs:=fun j s hj=>by
 obtain⟨lo,lc,ro,rc,a0,a1,a2,a3,r1,r2,l1,l2⟩:=h j s hj;exact⟨lo,lc,ro,rc,a0,a1,a2,a3,r1.keep hk,r2.keep hk,l1,l2⟩
def zpn(w:sW)(vo:Option Addr)(sds:List Sd):Prop:=∀(j:Nat)(s:Sd),sds[j]?=some s->∃b lo lc ro rc,vo=some ⟨b,0,none⟩/\b<w.heap.size/\w.cell? ⟨b,j*4,none⟩=some (.slice lo s.L.length lc)/\w.cell? ⟨b,j*4+1,none⟩=some (.slice ro s.R.length rc)/\w.cell? ⟨b,j*4+2,none⟩=some (.bool s.noL)/\w.cell? ⟨b,j*4+3,none⟩=some (.bool s.noR)/\RdI w lo s.L/\RdI w ro s.R/\s.L.length<=2048000000/\s.R.length<=2048000000
theorem zpn.below{w w':sW}{vo:Option Addr}{sds:List Sd}(h:zpn w vo sds)(hb:sX w.heap.size w w'):zpn w' vo sds:=fun j s hj=>by
 obtain⟨b,lo,lc,ro,rc,h0,hl,a0,a1,a2,a3,r1,r2,l1,l2⟩:=h j s hj;have hc:∀k v,w.cell? ⟨b,k,none⟩=some v->w'.cell? ⟨b,k,none⟩=some v:=fun k v hk=>(hb.cell (p:=⟨b,k,none⟩) hl).trans hk
 exact⟨b,lo,lc,ro,rc,h0,te hl hb.size,hc _ _ a0,hc _ _ a1,hc _ _ a2,hc _ _ a3,r1.below hb,r2.below hb,l1,l2⟩
def SsQ(rs:List Rl)(w:sW)(e:Ending)(w':sW):Prop:=∃vo vc sds,e=.returned (.slice vo rs.length vc)/\sds.length=rs.length/\(∀(j:Nat)(r:Rl)(s:Sd),rs[j]?=some r->sds[j]?=some s->zrI r s)/\zpn w' vo sds/\sX w.heap.size w w'
structure SdI(B:Nat)(rs:List Rl)(i:Nat)(vo:Option Addr)(vc:Nat)(sds:List Sd)(xs:List td)(wr:sW):Prop where
 own:wr.ownsRow B 101 4 (.slice vo i vc) i xs
 sd:SdX wr (fun b=>(sU vo i vc).ownBlock=some b) sds xs
 ln:sds.length=i
 ok:∀(j:Nat)(r:Rl)(s:Sd),rs[j]?=some r->sds[j]?=some s->zrI r s
theorem SdI.rd{B:Nat}{rs:List Rl}{i:Nat}{vo:Option Addr}{vc:Nat}{sds:List Sd}{xs:List td}{wr:sW}(h:SdI B rs i vo vc sds xs wr):zpn wr vo sds:=fun j s hj=>by
 obtain⟨lo,lc,ro,rc,a0,a1,a2,a3,r1,r2,l1,l2⟩:=h.sd j s hj;have hjl:=(tc.1 hj).1;have hln:=h.ln
 rcases h.own.2 with ⟨_,e⟩|⟨g,cap,cur,k1,k2,k3,_⟩
 ·omega
 ·cases k1
  have hc:=(dd h.own).2.2.2;exact⟨g,lo,lc,ro,rc,rfl,ag k3,hc _ _ a0,hc _ _ a1,hc _ _ a2,hc _ _ a3,r1.rd,r2.rd,l1,l2⟩
theorem SdI.below{B:Nat}{rs:List Rl}{i:Nat}{vo:Option Addr}{vc:Nat}{sds:List Sd}{xs:List td}{wr w':sW}(h:SdI B rs i vo vc sds xs wr)(hb:sX wr.heap.size wr w'):SdI B rs i vo vc sds xs w':=
 ⟨⟨h.own.1,h.own.2.imp (fun e=>e) fun⟨g,cap,cur,a1,a2,a3,a4⟩=>⟨g,cap,cur,a1,a2,(hb.block g (ag a3)).trans a3,a4⟩⟩,h.sd.keep ⟨hb.size,fun k hk _=>hb.block k hk,fun _ _ h=>h⟩,h.ln,h.ok⟩
theorem SdI.more{B:Nat}{rs:List Rl}{i:Nat}{vo:Option Addr}{vc:Nat}{sds:List Sd}{xs:List td}{wr w5 w6:sW}{r:Rl}{s:Sd}{lo ro:Option Addr}{lc rc g8 c8:Nat}(h:SdI B rs i vo vc sds xs wr)(hb:sX wr.heap.size wr w5)(hr:rs[i]?=some r)(hs:zrI r s)
  (rL:gY w5 (fun b=>b<wr.heap.size) lo s.L) (rR:gY w5 (fun b=>b<wr.heap.size) ro s.R) (hL9:s.L.length<=2048000000) (hR9:s.R.length<=2048000000)
  (o6:w6.ownsRow B 101 4 (.slice (some ⟨g8,0,none⟩) (i+1) c8) (i+1) (xs++[.slice lo s.L.length lc,.slice ro s.R.length rc,.bool s.noL,.bool s.noR])) (gr:tU w5 w6 (sU vo i vc).ownBlock) (hg8:(sU vo i vc).ownBlock=some g8\/g8=w5.heap.size):
  SdI B rs (i+1) (some ⟨g8,0,none⟩) c8 (sds++[s]) (xs++[.slice lo s.L.length lc,.slice ro s.R.length rc,.bool s.noL,.bool s.noR]) w6:=by
 have hxl:=h.own.1;have hln:=h.ln;have s5:=hb.size;have hoB:∀b,(sU vo i vc).ownBlock=some b->b<wr.heap.size:=fun b hb=>by
  rcases h.own.2 with ⟨k1,_⟩|⟨q',cap,cur,k1,_,k3,_⟩
  ·rw[k1]at hb;cases hb
  ·rw[k1]at hb
   cases hb
   exact ag k3
 have own8:∀b,(sU (some ⟨g8,0,none⟩) (i+1) c8).ownBlock=some b->b=g8:=fun b hb=>by
  have e:g8=b:=by simpa[tk]using hb
  exact e.symm
 have K1:KpX wr w6 (fun b=>(sU vo i vc).ownBlock=some b) (fun b=>(sU (some ⟨g8,0,none⟩) (i+1) c8).ownBlock=some b):=⟨by have:=gr.size;omega,fun b hb2 hx=>(gr.block b (by omega) (fun e=>hx e.symm)).trans (hb.block b hb2),fun b hb2 hx=>by
  have e:=own8 b hx;subst e
  rcases hg8 with h8|h8
  ·exact h8
  ·omega⟩
 have K2:KpX w5 w6 (fun b=>b<wr.heap.size) (fun b=>(sU (some ⟨g8,0,none⟩) (i+1) c8).ownBlock=some b):=⟨gr.size,fun b hb2 hx=>gr.block b hb2 (fun e=>hx (hoB b e.symm)),fun b hb2 hx=>by
  have e:=own8 b hx;subst e
  rcases hg8 with h8|h8
  ·exact hoB _ h8
  ·omega⟩
 refine⟨o6,fun j t hj=>?_,by rw[tp,hln];rfl,fun j r' s' hj hj2=>?_⟩
 ·by_cases e:j<i
  ·rw[sY (by omega)]at hj
   obtain⟨lo',lc',ro',rc',a0,a1,a2,a3,r1,r2,l1,l2⟩:=h.sd j t hj;refine⟨lo',lc',ro',rc',?_,?_,?_,?_,r1.keep K1,r2.keep K1,l1,l2⟩
   all_goals (rw[sY (by omega)];assumption)
  ·have hjl:=(tc.1 hj).1
   rw[tp,tw]at hjl;obtain rfl:j=i:=by omega
   rw[sT (by omega),hln,tt]at hj
   cases hj
   refine⟨lo,lc,ro,rc,?_,?_,?_,?_,rL.keep K2,rR.keep K2,hL9,hR9⟩
   ·rw[sT (by omega),hxl,tt];rfl
   ·rw[sT (by omega),hxl,show j*4+1-j*4=1 by omega];rfl
   ·rw[sT (by omega),hxl,show j*4+2-j*4=2 by omega];rfl
   ·rw[sT (by omega),hxl,show j*4+3-j*4=3 by omega];rfl
 ·by_cases e:j<i
  ·rw[sY (by omega)]at hj2
   exact h.ok j r' s' hj hj2
  ·have hjl:=(tc.1 hj2).1
   rw[tp,tw]at hjl;obtain rfl:j=i:=by omega
   rw[sT (by omega),hln,tt]at hj2
   cases hj2
   rw[hr]at hj
   cases hj
   exact hs
theorem cC.shape{w:sW}:∀{p:az} {v0 v1 v2:td},cC w p v0 v1 v2->∃(o:Int)(co:Option Addr)(cn cc:Nat)(ko:Option Addr)(kn kc:Nat),v0=.int .i64 o/\v1=.slice co cn cc/\v2=.slice ko kn kc
 | .mk op cls kids,v0,v1,v2,h=>by
  unfold cC at h;obtain⟨h1,⟨co,cc,h2,h3,h4⟩,ko,kc,h5,h6,h7⟩:=h;exact⟨op,co,_,cc,ko,_,kc,h1,h2,h5⟩
theorem gY.later{w w':sW}{X Y:Nat->Prop}{ao:Option Addr}{l:List Int}(h:gY w X ao l)(hb:sX w.heap.size w w')(hX:∀b,Y b->X b):gY w' Y ao l:=h.keep ⟨hb.size,fun k hk _=>hb.block k hk,fun k _ hy=>hX k hy⟩
theorem zwv(w:sW)(v:Array td)(T:TypeId):∀j u,v.toList[j]?=some u->(w.alloc (.cells v T)).cell? ((⟨w.heap.size,0,none⟩:Addr).add j)=some u:=tB (cs:=v) (heap_alloc_new w _)
set_option maxRecDepth 100000 in
theorem qX(rest:Bool)(rs:List Rl)(hrs:∀r∈rs,zgV r)(ro:Option Addr)(rn rc:Nat)(hrn:rn=rs.length)(hr9:rn<=1000)(w:sW)(hR:zbJ w ro rs):
  tY Tryz.prog 74 #[.agg #[.slice ro rn rc,.bool rest]] w (SsQ rs w):=by
 have HR:=aa hR;have HRN:=aa hrn;clear hR hrn;go_enter Tryz.func74,Tryz.ntmps74;go_wp2;obtain⟨w1,hw1⟩:=am (w.alloc (.cells #[.slice ro rn rc,.bool rest] 63));have hb1:sX w.heap.size w w1:=by rw[hw1];exact below_box
 have x0:w1.cell? ⟨w.heap.size,0,none⟩=some (.slice ro rn rc):=by rw[hw1];simp[go_sem]
 have hs1:w.heap.size<w1.heap.size:=by rw[hw1];simp
 rw[<- hw1];have HB1:=aa hb1;have HX:=aa (fun(W:sW)(h:sX w1.heap.size w1 W)=>show W.cell? ⟨w.heap.size,0,none⟩=some (.slice ro rn rc)from(h.cell (p:=⟨w.heap.size,0,none⟩) hs1).trans x0)
 clear hw1 hb1 x0;go_loopw [3,4] (fun x y wr=>∃(i:Nat)(vo:Option Addr)(vc:Nat)(sds:List Sd)(xs:List td),x=.slice vo i vc/\y=.int .i64 i/\i<=rn/\ae (SdI w1.heap.size rs i vo vc sds xs wr)/\ae (sX w1.heap.size w1 wr)) (fun _ y _=>rn-(tR y).toNat)
 case atStart=>exact⟨0,none,0,[],[],rfl,rfl,tz _,aa ⟨tq _ _ _ _,fun j s hj=>by simp at hj,rfl,fun j r s _ hj=>by simp at hj⟩,aa (sZ _ _)⟩
 case round=>
  obtain⟨i,vo,vc,sds,xs,rfl,rfl,hi,HI,HB⟩:=hrel;have x0:=HX.o wr HB.o;have HBw:=aa (HB1.o.trans (HB.o.mono HB1.o.size))
  by_cases hlt:i<rn
  ·have i0:(0:Int)<=(i:Int):=by omega
   have i1:(i:Int)<(rn:Int):=by omega
   have hil:i<rs.length:=by have:=HRN.o;omega
   obtain⟨b,o,l0,l1,l2,r0,r1,r2,rfl,hb,a0,a1,a2,a3,a4,a5,a6,a7,a8,p1,p2⟩:=HR.o i rs[i] (tr hil);obtain⟨e0,eo,en,ec,ek,em,ep,rfl,rfl,rfl⟩:=p1.shape;obtain⟨f0,fo,fn,fc,fk,fm,fp,rfl,rfl,rfl⟩:=p2.shape;have hcc:∀k v,w.cell? ⟨b,k,none⟩=some v->wr.cell? ⟨b,k,none⟩=some v:=fun k v hk=>(HBw.o.cell (p:=⟨b,k,none⟩) hb).trans hk
   have y0:=hcc _ _ a0;have y1:=hcc _ _ a1;have y2:=hcc _ _ a2;have y3:=hcc _ _ a3;have y4:=hcc _ _ a4;have y5:=hcc _ _ a5;have y6:=hcc _ _ a6;have y7:=hcc _ _ a7;have y8:=hcc _ _ a8;obtain⟨r,hr⟩:=am (rs[i]);have HRi:ae (rs[i]?=some r):=aa (by rw[hr];exact tr hil)
   have HOk:=aa (hrs r (by rw[hr];exact tP _))
   rw[<- hr]at y0 y1 y2 p1 p2;have HP1:=aa p1;have HP2:=aa p2;clear hcc a0 a1 a2 a3 a4 a5 a6 a7 a8 hb p1 p2 hr;go_wp2_with fail;obtain⟨wq,hwq⟩:=am (wr.alloc (.cells #[.bool r.brk,.bool r.st,.bool r.en,.int .i64 e0,.slice eo en ec,.slice ek em ep,.int .i64 f0,.slice fo fn fc,.slice fk fm fp] 107));have HBq:ae (sX wr.heap.size wr wq):=aa (by rw[hwq];exact below_box)
   have HQ:ae (wq.heap[wr.heap.size]?=some (.cells #[.bool r.brk,.bool r.st,.bool r.en,.int .i64 e0,.slice eo en ec,.slice ek em ep,.int .i64 f0,.slice fo fn fc,.slice fk fm fp] 107)):=aa (by rw[hwq];exact heap_alloc_new _ _)
   obtain⟨Q,hQ⟩:=am wr.heap.size;have HQs:=aa hQ;rw[<- hwq];rw[<- hQ]at HQ⊢;clear hwq hQ;have HS:=aa (fun(W:sW)(h:sX wq.heap.size wq W)=>show W.cell? ⟨Q,3,none⟩=some (.int .i64 e0)/\W.cell? ⟨Q,4,none⟩=some (.slice eo en ec)/\W.cell? ⟨Q,5,none⟩=some (.slice ek em ep)/\W.cell? ⟨Q,6,none⟩=some (.int .i64 f0)/\W.cell? ⟨Q,7,none⟩=some (.slice fo fn fc)/\W.cell? ⟨Q,8,none⟩=some (.slice fk fm fp)from by
    have h1:=(h.block _ (ag HQ.o)).trans HQ.o;exact⟨by rw[sR W Q 3 _ _ _ h1];rfl,by rw[sR W Q 4 _ _ _ h1];rfl,by rw[sR W Q 5 _ _ _ h1];rfl,by rw[sR W Q 6 _ _ _ h1];rfl,by rw[sR W Q 7 _ _ _ h1];rfl,by rw[sR W Q 8 _ _ _ h1];rfl⟩)
   have HBqw:=aa (HBw.o.trans (HBq.o.mono HBw.o.size));have HRv:=aa (fun(W:sW)(h:sX wq.heap.size wq W)=>zan r.left HOk.o.1 HOk.o.2.2.1 _ _ _ W (cC.below (HBqw.o.trans (h.mono HBqw.o.size)) _ _ _ _ HP1.o))
   have HF2:=aa (fun(W:sW)(h:sX wq.heap.size wq W)=>nl r.right HOk.o.2.1 HOk.o.2.2.2 _ _ _ W (cC.below (HBqw.o.trans (h.mono HBqw.o.size)) _ _ _ _ HP2.o))
   have HE1:=aa (fun(W:sW)(h:sX wq.heap.size wq W)=>jq r.left HOk.o.1 HOk.o.2.2.1 _ _ _ W (cC.below (HBqw.o.trans (h.mono HBqw.o.size)) _ _ _ _ HP1.o))
   have HE2:=aa (fun(W:sW)(h:sX wq.heap.size wq W)=>jq r.right HOk.o.2.1 HOk.o.2.2.2 _ _ _ W (cC.below (HBqw.o.trans (h.mono HBqw.o.size)) _ _ _ _ HP2.o))
   clear y0 y1 y2 y3 y4 y5 y6 y7 y8 x0;refine au [(0,true),(1,true),(2,true),(5,true),(6,true),(8,true),(9,true),(11,true),(12,true),(3,false),(4,false),(7,false),(10,false),(13,false),(14,false),(15,false),(16,false),(17,false)] (fun W=>W.cell? ⟨Q,3,none⟩=some (.int .i64 e0)/\W.cell? ⟨Q,4,none⟩=some (.slice eo en ec)/\W.cell? ⟨Q,5,none⟩=some (.slice ek em ep)/\W.cell? ⟨Q,6,none⟩=some (.int .i64 f0)/\W.cell? ⟨Q,7,none⟩=some (.slice fo fn fc)/\W.cell? ⟨Q,8,none⟩=some (.slice fk fm fp)) (fun _=>false) (by kernel_rfl) (by kernel_rfl) (fun j hj=>by cases hj) rfl (by kernel_rfl) (HS.o _ (show sX wq.heap.size wq wq.drew from(sZ _ _).drew)) ?_
   iterate 9 (refine ax ?_ rfl (by kernel_rfl) (fun w' hS=>?_) ?_;(rotate_left;(obtain⟨s3,s4,s5,s6,s7,s8⟩:=hS;go_simp;with_reducible rfl);rotate_left))
   have HBd:ae (sX wq.heap.size wq wq.drew):=aa ((sZ _ _).drew);refine av rfl (by kernel_rfl) fun KK hKK=>?_
   go_simp;refine(HRv.o wq.drew HBd.o).mono ?_;rintro e w2 ⟨t0,t1,t2,rfl,hP2,hB2⟩;have HB2:=aa (HBd.o.trans (hB2.mono HBd.o.size));have HF1:=aa (nl (oU r.left) (ztb _ HOk.o.1) (by rw[zsD];exact HOk.o.2.2.1) t0 t1 t2 w2 hP2)
   obtain⟨g0,go,gn,gc,gk,gm,gp,rfl,rfl,rfl⟩:=hP2.shape;clear hP2 hB2 HRv HBd;refine hKK _ _ (fun _=>HS.o _ HB2.o) ?_
   clear hKK;refine av rfl (by kernel_rfl) fun KK hKK=>?_
   go_simp;refine HF1.o.mono ?_;rintro e w3 ⟨lo,lc,L,rfl,hI3,hF3,hL3,hB3⟩;have HB3:=aa (HB2.o.trans (hB3.mono HB2.o.size));have HI3:ae (gY w3 (fun b=>b<Q) lo L):=aa (hI3.later (sZ _ _) fun b h=>by
    have h1:=HQs.o;have h2:=HBq.o.size;have h3:=HB2.o.size;have h4:b<Q:=h
    show b<w2.heap.size
    omega)
   have HF3:=aa hF3;have HL3:=aa hL3;clear hI3 hF3 hL3 hB3 HF1 HB2;obtain⟨n,hn⟩:=am L.length;have HNL:=aa hn;rw[<- hn];clear hn;refine hKK _ _ (fun _=>HS.o _ HB3.o) ?_
   clear hKK;refine av rfl (by kernel_rfl) fun KK hKK=>?_
   go_simp;refine(HF2.o w3 HB3.o).mono ?_;rintro e w4 ⟨so,sc,M,rfl,hI4,hF4,hL4,hB4⟩;have HI34:=aa (HI3.o.later hB4 fun b h=>h)
   have HB4:=aa (HB3.o.trans (hB4.mono HB3.o.size));have HI4:ae (gY w4 (fun b=>b<Q) so M):=aa (hI4.later (sZ _ _) fun b h=>by
    have h1:=HQs.o;have h2:=HBq.o.size;have h3:=HB3.o.size;have h4:b<Q:=h
    show b<w3.heap.size
    omega)
   have HF4:=aa hF4;have HL4:=aa hL4;clear hI4 hF4 hL4 hB4 HI3 HB3 HF2;obtain⟨m,hm⟩:=am M.length;have HML:=aa hm;rw[<- hm];clear hm;refine hKK _ _ (fun _=>HS.o _ HB4.o) ?_
   clear hKK;refine av rfl (by kernel_rfl) fun KK hKK=>?_
   go_simp;refine(HE1.o w4 HB4.o).mono ?_;rintro e w5 ⟨b1,rfl,hb1,hB5⟩;have HI35:=aa (HI34.o.later hB5 fun b h=>h)
   have HI45:=aa (HI4.o.later hB5 fun b h=>h)
   have HB5:=aa (HB4.o.trans (hB5.mono HB4.o.size));have HV1:=aa hb1;clear hb1 hB5 HI34 HI4 HB4 HE1;refine hKK _ _ (fun _=>HS.o _ HB5.o) ?_
   clear hKK;refine av rfl (by kernel_rfl) fun KK hKK=>?_
   go_simp;refine(HE2.o w5 HB5.o).mono ?_;rintro e w6 ⟨b2,rfl,hb2,hB6⟩;have HI36:=aa (HI35.o.later hB6 fun b h=>h)
   have HI46:=aa (HI45.o.later hB6 fun b h=>h)
   have HB6:=aa (HB5.o.trans (hB6.mono HB5.o.size));have HV2:=aa hb2;clear hb2 hB6 HI35 HI45 HB5 HE2;refine hKK _ _ (fun _=>HS.o _ HB6.o) ?_
   clear hKK;refine av rfl (by kernel_rfl) fun KK hKK=>?_
   go_simp;refine hKK _ _ (fun _=>HS.o _ HB6.o) ?_
   clear hKK;refine av rfl (by kernel_rfl) fun KK hKK=>?_
   go_simp;obtain⟨w7,hw7⟩:=am (w6.alloc (.cells #[.slice lo n lc,.slice so m sc,.bool b1,.bool b2] 101));rw[<- hw7];have HB67:ae (sX w6.heap.size w6 w7):=aa (by rw[hw7];exact below_box)
   have HN7:ae (∀j u,[sU lo n lc,.slice so m sc,.bool b1,.bool b2][j]?=some u->w7.cell? ((⟨w6.heap.size,0,none⟩:Addr).add j)=some u):=aa (by rw[hw7];exact zwv w6 _ _)
   clear hw7;have HB7:=aa (HB6.o.trans (HB67.o.mono HB6.o.size));have HI37:=aa (HI36.o.later HB67.o fun b h=>h)
   have HI47:=aa (HI46.o.later HB67.o fun b h=>h)
   refine hKK _ _ (fun _=>HS.o _ HB7.o) ?_
   clear hKK HI36 HI46 HB6;have HBr7:ae (sX wr.heap.size wr w7):=aa (HBq.o.trans (HB7.o.mono HBq.o.size));have HO7:=aa (HI.o.below HBr7.o);obtain⟨iR,hiR,hz0,hz1,hz2⟩:=tT Tryz.infoSide;have HlB:ae (w1.heap.size<=w7.heap.size):=aa (tj HB.o.size HBr7.o.size);refine av rfl (by kernel_rfl) fun KK hKK=>?_
   refine tA _ _ _ 98 rfl w1.heap.size 101 iR (.agg #[.slice none 0 0,.slice none 0 0,.bool false,.bool false]) 4 56 Tryz.underSides hiR hz0 hz1 hz2 rfl (by decide) (.slice vo i vc) i xs rfl HO7.o.own ⟨w6.heap.size,0,none⟩ 1 1 [sU lo n lc,.slice so m sc,.bool b1,.bool b2] rfl rfl HN7.o (fun u hu=>by simp at hu;rcases hu with h|h|h|h<;>rw[h]<;>rfl) (by decide) (by unfold maxLen;omega) (by omega) HlB.o w7.heap.size rfl ?_
   intro g8 c8 w8 o8 gr8 hl8 hlt8;have HB8:ae (sX w1.heap.size w1 w8):=aa ((HB.o.trans (HBr7.o.mono HB.o.size)).trans ⟨gr8.os,gr8.tape,gr8.output,gr8.size,fun k hk=>gr8.block k (by have:=HlB.o;omega) (fun e=>by
    rcases HO7.o.own.2 with ⟨k1,_⟩|⟨q',cap,cur,k1,k2,_⟩
    ·rw[k1]at e;cases e
    ·rw[k1]at e
     have e':k=q':=ti e;omega)⟩)
   have HM8:ae (SdI w1.heap.size rs (i+1) (some ⟨g8,0,none⟩) c8 (sds++[⟨L,M,b1,b2⟩]) (xs++[sU lo n lc,.slice so m sc,.bool b1,.bool b2]) w8):=aa (by
    rw[HNL.o,HML.o]at o8⊢;exact HI.o.more (s:=⟨L,M,b1,b2⟩) HBr7.o HRi.o ⟨HF3.o,HF4.o,HV1.o,HV2.o⟩ (HI37.o.later (sZ _ _) fun b h=>by rw[HQs.o];exact h) (HI47.o.later (sZ _ _) fun b h=>by rw[HQs.o];exact h) HL3.o HL4.o o8 gr8 hl8)
   have HS8:ae (w8.cell? ⟨Q,3,none⟩=some (.int .i64 e0)/\w8.cell? ⟨Q,4,none⟩=some (.slice eo en ec)/\w8.cell? ⟨Q,5,none⟩=some (.slice ek em ep)/\w8.cell? ⟨Q,6,none⟩=some (.int .i64 f0)/\w8.cell? ⟨Q,7,none⟩=some (.slice fo fn fc)/\w8.cell? ⟨Q,8,none⟩=some (.slice fk fm fp)):=aa (by
    have h1:w8.heap[Q]?=w7.heap[Q]? :=gr8.block Q (by have:=ag HQ.o;have:=HB7.o.size;omega) (fun e=>by
     rcases HI.o.own.2 with ⟨k1,_⟩|⟨q',cap,cur,k1,_,k3,_⟩
     ·rw[k1]at e;cases e
     ·rw[k1]at e
      have e':Q=q':=ti e;have:=ag k3;have:=HQs.o;omega)
    obtain⟨a3,a4,a5,a6,a7,a8⟩:=HS.o w7 HB7.o;exact⟨(sV h1).trans a3,(sV h1).trans a4,(sV h1).trans a5,(sV h1).trans a6,(sV h1).trans a7,(sV h1).trans a8⟩)
   refine hKK _ _ (fun _=>HS8.o) ?_
   clear hKK o8 gr8 hl8 hlt8;refine av rfl (by kernel_rfl) fun KK hKK=>?_
   go_simp;refine hKK _ _ (fun _=>HS8.o) ?_
   clear hKK;refine aS (tg ?_);go_wp2;go_roundw
   case rel=>exact⟨i+1,_,_,_,_,rfl,by go_num,by omega,HM8,HB8⟩
   case measure=>simp[tR];omega
  ·have i1:¬(i:Int)<(rn:Int):=by omega
   have HQ:ae (SsQ rs w (.returned (.slice vo i vc)) wr):=aa ⟨vo,vc,sds,by rw[show i=rs.length by have:=HRN.o;omega],by rw[HI.o.ln];have:=HRN.o;omega,HI.o.ok,HI.o.rd,HBw.o⟩
   go_wp2;go_ret;exact HQ.o
end Pt
end
end Go.Proofs.YtbbapnpdfcgjnaaGreatDoor
