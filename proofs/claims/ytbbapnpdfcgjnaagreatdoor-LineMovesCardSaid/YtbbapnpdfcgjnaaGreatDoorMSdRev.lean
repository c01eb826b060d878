/- SdRev, SdSide, SdSides: parts of the proof, joined. -/
import Derived.Test.YtbbapnpdfcgjnaaGreatDoorMSdApp
open Go renaming cell_of_row->sD, frozen_of_row->sE, World->sJ, Value->sP, wp_append_lies->te, heap_setCell_other->tg, bodyPost_ret->tr, info_parts->tE, Calls->tJ
open List renaming getElem?_append_right->sG, getElem?_append_left->sL, getElem?_eq_some_iff->sO, getD_eq_getElem?_getD->sW, length_append->sX, getElem?_eq_getElem->sZ, length_map->tb, length_singleton->tc, range->ti, getElem_range->tj, getElem?_map->tm, length_range->tn, ext_getElem->tw, getElem_map->tz, getElem_mem->tA
open Go.Value renaming slice->sH, ownBlock->sV, int->tu
open Go.World renaming cell?_of_block->sI, ownsRow_nil->sY, news_of_block->tf, ownsRow_lit->tq, size_alloc->tt, grownBy->tF
open Go.RowKit renaming Below->sK, intOf->tC
open Go.RowKit.Below renaming refl->sM, heap_alloc->sN
open Nat renaming lt_of_lt_of_le->sQ, le_refl->sR, le_trans->sU, sub_self->ta, zero_le->td, eq_or_lt_of_le->tk, le_of_eq->tp, zero_add->tG
open Go.NoPanic renaming normal->sS
open Option.some renaming inj->sT
open Go.IntKind renaming signed->tD, wrap->tH, bits->tI, i64->tK
set_option maxHeartbeats 64000000
namespace Go.Proofs.YtbbapnpdfcgjnaaGreatDoor
section
open Go.RowKit
namespace Pt
def RvQ (q:ax) (w:sJ) (e:Ending) (w':sJ):Prop:=∃u0 u1 u2,e= .returned (.agg #[u0,u1,u2])/\dR w' (fun b=>b<w.heap.size) q u0 u1 u2/\sK w.heap.size w w'
structure Rv1 (B:Nat) (U:sJ) (op:Int) (cls:List Int) (ln:Nat) (W:sJ) (p g gc:Nat):Prop where
 at_:W.heap[p]? =some (.cells #[.int .i64 op,.slice (some ⟨g,0,none⟩) ln gc,.slice none 0 0] 105 (0,0))
 below:sK B U W
 lo:B<=p
 glo:B<=g
 gp:g≠p
 rd:RdI W (some ⟨g,0,none⟩) cls
 gl:g<W.heap.size
theorem zft {B B':Nat} {U W:sJ} {op:Int} {cls:List Int} {ln p g gc:Nat} {x0 x1 x2:sP} (hp:W.heap[p]? =some (.cells #[x0,x1,x2] 105 (0,0))) (hb:sK B U W) (lo:B<=p) (ho:W.ownsRow B' 3 1 (.slice (some ⟨g,0,none⟩) ln gc) ln (bf cls)) (hg:g≠p) (hB:B<=B'):
  Rv1 B U op cls ln (st3 W p (.int .i64 op) (.slice (some ⟨g,0,none⟩) ln gc) (.slice none 0 0)) p g gc:=by
 obtain⟨h1,⟨cur,h2⟩,_,h3⟩:=cZ ho;have hy:=nl W p (.int .i64 op) (.slice (some ⟨g,0,none⟩) ln gc) (.slice none 0 0);refine⟨sC hp,hb.trans (hy.below lo),lo,by omega,hg,fun k z hz=>⟨_,rfl,by rw[hy.size];exact ae h2,?_⟩,by rw[hy.size];exact ae h2⟩
 rw[Addr.add_lit,tG,sI (w:=W) (a:=⟨g,k,none⟩) (hy.block g hg)];exact h3 k _ (by unfold bf;rw[tm,hz];rfl)
structure RvI (N P B:Nat) (w:sJ) (box:Array sP) (op:Int) (cls:List Int) (ln g gc:Nat) (q:Nat->ax) (i:Nat) (vo:Option Addr) (vc:Nat) (xs:List sP) (wr:sJ):Prop where
 at_:wr.heap[P]? =some (.cells #[.int .i64 op,.slice (some ⟨g,0,none⟩) ln gc,.slice vo i vc] 105 (0,0))
 own:wr.ownsRow B 105 3 (.slice vo i vc) i xs
 kid:∀j,j<i->∃u0 u1 u2,xs[j * 3]? =some u0/\xs[j * 3+1]? =some u1/\xs[j * 3+2]? =some u2/\dR wr (fun b=>b<N+2\/b=P\/(sH vo i vc).ownBlock=some b) (q j) u0 u1 u2
 cls:gU wr (fun b=>b<N+2\/b=P\/(sH vo i vc).ownBlock=some b) (some ⟨g,0,none⟩) cls
 pbox:wr.heap[N]? =some (.cells box 105 (0,0))
 res:wr.heap[N+1]? =some (.cells #[.int .i64 0,.slice none 0 0,.slice none 0 0] 105 (0,0))
 below:sK N w wr
 lp:N+2<=P
 lb:P<B
 bs:B<=wr.heap.size
 low:∀b,(sH vo i vc).ownBlock=some b->B<=b
theorem RvI.cells {N P B:Nat} {w:sJ} {box:Array sP} {op:Int} {cls:List Int} {ln g gc:Nat} {q:Nat->ax} {i:Nat} {vo:Option Addr} {vc:Nat} {xs:List sP} {wr:sJ} (h:RvI N P B w box op cls ln g gc q i vo vc xs wr) (W:sJ) (hP:W.heap[P]? =wr.heap[P]?) (hN:W.heap[N]? =wr.heap[N]?):
  W.cell? ⟨P,2,none⟩=some (.slice vo i vc)/\(∀k,W.cell? ⟨N,k,none⟩=box[k]?):=by
 refine⟨by rw[sD W P 2 _ _ _ (hP.trans h.at_)];rfl,fun k=>by rw[sD W N k _ _ _ (hN.trans h.pbox)]⟩
theorem RvI.more {N P B:Nat} {w:sJ} {box:Array sP} {op:Int} {cls:List Int} {ln g gc:Nat} {q:Nat->ax} {i:Nat} {vo:Option Addr} {vc:Nat} {xs ys:List sP} {wr w4 w5 w6 w7:sJ} {u0 u1 u2:sP} {g8 c8:Nat}
  (h:RvI N P B w box op cls ln g gc q i vo vc xs wr) (hq:dR w4 (fun b=>b<wr.heap.size) (q i) u0 u1 u2) (b4:sK wr.heap.size wr w4) (hy:ys=[u0,u1,u2]) (b5:sK w4.heap.size w4 w5)
  (o6:w6.ownsRow B 105 3 (.slice (some ⟨g8,0,none⟩) (i+1) c8) (i+1) (xs++ys)) (gr:tF w5 w6 (sH vo i vc).ownBlock) (hg8:(sH vo i vc).ownBlock=some g8\/g8=w5.heap.size) (h7:w7=w6.setCell ⟨P,2,none⟩ (.slice (some ⟨g8,0,none⟩) (i+1) c8)):
  RvI N P B w box op cls ln g gc q (i+1) (some ⟨g8,0,none⟩) c8 (xs++ys) w7:=by
 have hPl:=ae h.at_;have s4:=b4.size;have s5:=b5.size;have s6:=gr.size;have lp:=h.lp;have lb:=h.lb;have hn5:∀b,b<wr.heap.size->w5.heap[b]? =wr.heap[b]? :=fun b hb=>(b5.block b (by omega)).trans (b4.block b hb)
 have hoB:∀b,(sH vo i vc).ownBlock=some b->B<=b/\b<wr.heap.size:=fun b hb=>by
  refine⟨h.low b hb,?_⟩
  rcases h.own.2 with ⟨k1,_⟩ | ⟨q',cap,cur,k1,_,k3,_⟩
  ·rw[k1] at hb;cases hb
  ·rw[k1] at hb
   cases hb
   exact ae k3
 have hk:∀b,b<w5.heap.size->(sH vo i vc).ownBlock≠some b->b≠P->w7.heap[b]? =w5.heap[b]? :=fun b hb h1 h2=>by
  rw[h7,tg _ ⟨P,2,none⟩ b _ h2];exact gr.block b hb (fun e=>h1 e.symm)
 have hg8B:B<=g8:=(cZ o6).1;have e6:w6.heap[P]? =wr.heap[P]? :=(gr.block P (by omega) (fun e=>by have:=(hoB P e.symm).1;omega)).trans (hn5 P hPl)
 have sz7:w7.heap.size=w6.heap.size:=by rw[h7];simp
 have K1:KpX wr w7 (fun b=>b<N+2\/b=P\/(sH vo i vc).ownBlock=some b) (fun b=>b<N+2\/b=P\/(sH (some ⟨g8,0,none⟩) (i+1) c8).ownBlock=some b):=by
  refine⟨by omega,fun b hb hx=>?_,fun b hb hx=>?_⟩
  ·exact(hk b (by omega) (fun e=>hx (.inr (.inr e))) (fun e=>hx (.inr (.inl e)))).trans (hn5 b hb)
  ·rcases hx with hx | hx | hx
   ·exact .inl hx
   ·exact .inr (.inl hx)
   ·have e:g8=b:=by simpa[sV] using hx
    subst e
    rcases hg8 with h8 | h8
    ·exact .inr (.inr h8)
    ·omega
 have K2:KpX w4 w7 (fun b=>b<wr.heap.size) (fun b=>b<N+2\/b=P\/(sH (some ⟨g8,0,none⟩) (i+1) c8).ownBlock=some b):=by
  refine⟨by omega,fun b hb hx=>?_,fun b hb hx=>?_⟩
  ·exact(hk b (by omega) (fun e=>hx (hoB b e).2) (fun e=>hx (by rw[e];exact hPl))).trans (b5.block b hb)
  ·rcases hx with hx | hx | hx
   ·show b<wr.heap.size
    have:=ae h.res;omega
   ·rw[hx];exact hPl
   ·have e:g8=b:=by simpa[sV] using hx
    subst e
    rcases hg8 with h8 | h8
    ·exact(hoB _ h8).2
    ·omega
 have hown7:w7.ownsRow B 105 3 (.slice (some ⟨g8,0,none⟩) (i+1) c8) (i+1) (xs++ys):=⟨o6.1,o6.2.imp (fun e=>e) fun⟨q',cap,cur,k1,k2,k3,k4⟩=>⟨q',cap,cur,k1,k2,by rw[h7,tg _ ⟨P,2,none⟩ q' _ (by show q'≠P;omega)];exact k3,k4⟩⟩
 have hNl:=ae h.pbox;have hN1:=ae h.res;have hxl:=h.own.1;refine⟨?_,hown7,fun j hj=>?_,h.cls.keep K1,?_,?_,h.below.trans ?_,lp,lb,by have:=h.bs;omega,fun b hb=>?_⟩
 ·rw[h7]
  exact(heap_setCell_same w6 P 2 _ _ _ (e6.trans h.at_)).trans rfl
 ·by_cases e:j<i
  ·obtain⟨v0,v1,v2,a0,a1,a2,a3⟩:=h.kid j e
   refine⟨v0,v1,v2,?_,?_,?_,dR.keep K1 _ _ _ _ a3⟩
   ·rw[sL (by omega)];exact a0
   ·rw[sL (by omega)];exact a1
   ·rw[sL (by omega)];exact a2
  ·obtain rfl:j=i:=by omega
   subst hy;refine⟨u0,u1,u2,?_,?_,?_,dR.keep K2 _ _ _ _ hq⟩
   ·rw[sG (by omega),hxl,ta];rfl
   ·rw[sG (by omega),hxl,show j * 3+1 - j * 3=1 by omega];rfl
   ·rw[sG (by omega),hxl,show j * 3+2 - j * 3=2 by omega];rfl
 ·exact(hk N (by omega) (fun e=>by have:=(hoB N e).1;omega) (by omega)).trans ((hn5 N hNl).trans h.pbox)
 ·exact(hk (N+1) (by omega) (fun e=>by have:=(hoB _ e).1;omega) (by omega)).trans ((hn5 _ hN1).trans h.res)
 ·have f1:sK N wr w5:=(b4.mono (by omega)).trans (b5.mono (by omega))
  refine f1.trans ⟨by rw[h7];exact gr.os,by rw[h7];exact gr.tape,by rw[h7];exact gr.output,by omega,fun b hb=>hk b (by omega) (fun e=>by have:=(hoB b e).1;omega) (by omega)⟩
 ·have e:g8=b:=by simpa[sV] using hb
  omega
theorem RvI.done {N P B:Nat} {w:sJ} {box:Array sP} {op:Int} {cls:List Int} {ln g gc:Nat} {q:Nat->ax} {i:Nat} {vo:Option Addr} {vc:Nat} {xs:List sP} {wr w':sJ} (h:RvI N P B w box op cls ln g gc q i vo vc xs wr) (hs:w'.heap.size=wr.heap.size) (hb:∀b,b≠N+1->w'.heap[b]? =wr.heap[b]?) (hln:ln=cls.length) (hl9:ln<=1000000) (hi9:i<=1000000):
  dR w' (fun b=>b<N) (.mk op cls ((ti i).map q)) (.int .i64 op) (.slice (some ⟨g,0,none⟩) ln gc) (.slice vo i vc):=by
 have hK:KpX wr w' (fun b=>b<N+2\/b=P\/(sH vo i vc).ownBlock=some b) (fun b=>b<N):=⟨by omega,fun b _ hx=>hb b (fun e=>hx (.inl (by omega))),fun b _ hx=>.inl (by have h:b<N:=hx;omega)⟩
 unfold dR;refine⟨rfl,⟨_,gc,by rw[hln],h.cls.keep hK,by omega⟩,vo,vc,by simp,?_,by simpa using hi9,by
  rw[tb,tn]
  rcases h.own.2 with ⟨k1,k2⟩ | ⟨g',cap,cur,k1,_,_,k4,_⟩
  ·omega
  ·cases k1;exact k4⟩
 rcases h.own.2 with ⟨k1,k2⟩ | ⟨g',cap,cur,k1,k2,k3,k4⟩
 ·subst k2
  unfold fx
  trivial
 ·cases k1
  obtain⟨c1,_,_,c4⟩:=cZ h.own;have lp:=h.lp;have lb:=h.lb;refine fx.of g' (by rw[hs];exact ae k3) (by omega) _ 0 fun j p hj=>?_
  have hjl:=(sO.1 hj).1;rw[tb,tn] at hjl;rw[tm,List.getElem?_range hjl] at hj
  cases hj
  obtain⟨u0,u1,u2,a0,a1,a2,a3⟩:=h.kid j hjl;have hc:∀k v,xs[k]? =some v->w'.cell? ⟨g',k,none⟩=some v:=fun k v hv=>(sI (a:=⟨g',k,none⟩) (hb g' (by omega))).trans (c4 k v hv)
  rw[tG];exact⟨u0,u1,u2,hc _ _ a0,hc _ _ a1,hc _ _ a2,dR.keep hK _ _ _ _ a3⟩
theorem dR.shape {w:sJ} {X:Nat->Prop}:∀{p:ax} {v0 v1 v2:sP},dR w X p v0 v1 v2->∃(o:Int) (co:Option Addr) (cn cc:Nat) (ko:Option Addr) (kn kc:Nat),v0= .int .i64 o/\v1= .slice co cn cc/\v2= .slice ko kn kc
 | .mk op cls kids,v0,v1,v2,h=>by
  unfold dR at h;obtain⟨h1,⟨co,cc,h2,h3,h4⟩,ko,kc,h5,h6,h7⟩:=h;exact⟨op,co,_,cc,ko,_,kc,h1,h2,h5⟩
theorem oX (w:sJ) (v:Array sP) (T:TypeId):∀j u,v.toList[j]? =some u->(w.alloc (.cells v T)).cell? ((⟨w.heap.size,0,none⟩:Addr).add j)=some u:=tf (cs:=v) (heap_alloc_new w _)
theorem oz {B:Nat} {U W V:sJ} {H hh:Nat} (hb:sK B U W) (gr:W.grownBy V (some H)) (hs:B<=W.heap.size) (hH:hh<=H) (hB:B<=hh):sK B U V:=hb.trans ⟨gr.os,gr.tape,gr.output,gr.size,fun k hk=>gr.block k (by omega) (fun e=>by have e':=sT e;omega)⟩
set_option maxRecDepth 100000 in
theorem qV (z:Bool) (f:Nat->Nat) (lo ko:Option Addr) (ln lc kn kc:Nat) (op:Int) (e2:(op==2)=z) (cls:List Int) (q:Nat->ax) (w:sJ) (hz:z=true->f=fun i=>kn - 1 - i) (hy:z=false->f=fun i=>i) (hln:ln=cls.length) (hl9:ln<=1000000) (hk9:kn<=1000000) (hI:RdI w lo cls) (HK:Hid (KdQ w ko kn 146 fun j=>RvQ (q j))):
  tJ Tryz.prog 146 #[.agg #[.int .i64 op,.slice lo ln lc,.slice ko kn kc]] w (RvQ (.mk op cls ((ti kn).map fun i=>q (f i))) w):=by
 have HLN:=hid hln;clear hln;have HZY:=hid (And.intro hz hy);clear hz hy;have HB00:=hid (fun(o:Obj)=>below_box (w:=w) (o:=o))
 go_enter Tryz.func146,Tryz.ntmps146;go_wp2_with fail;obtain⟨u,hu⟩:∃u,u=(w.alloc (.cells #[.int .i64 op,.slice lo ln lc,.slice ko kn kc] 105)).alloc (.cells #[.int .i64 0,.slice none 0 0,.slice none 0 0] 105):=⟨_,rfl⟩;rw[<- hu];have HUb:=hid (show sK w.heap.size w u by rw[hu];exact((sM _ _).alloc (sR _) _).alloc (by simp) _)
 have hus:u.heap.size=w.heap.size+2:=by rw[hu];simp
 have hN:u.heap[w.heap.size]? =some (.cells #[.int .i64 op,.slice lo ln lc,.slice ko kn kc] 105):=by rw[hu];exact(sN _ _ _ (by simp)).trans (heap_alloc_new w _)
 have hN1:u.heap[w.heap.size+1]? =some (.cells #[.int .i64 0,.slice none 0 0,.slice none 0 0] 105):=by
  have:=heap_alloc_new (w.alloc (.cells #[.int .i64 op,.slice lo ln lc,.slice ko kn kc] 105)) (.cells #[.int .i64 0,.slice none 0 0,.slice none 0 0] 105);rw[tt] at this;rw[hu];exact this
 have HN:=hid hN;have HN1:=hid hN1;have HUS:=hid hus;have HT:=hid (show ∀W,sK (w.heap.size+2) u W->RdI W lo cls from fun W h=>(hI.below HUb.out).below (by rw[hus];exact h))
 have HC:=hid (show ∀W,sK (w.heap.size+2) u W->W.cell? ⟨w.heap.size,0,none⟩=some (.int .i64 op)/\W.cell? ⟨w.heap.size,1,none⟩=some (.slice lo ln lc) from fun W h=>⟨by rw[sD W w.heap.size 0 _ _ _ ((h.block _ (by omega)).trans HN.out)];rfl,by rw[sD W w.heap.size 1 _ _ _ ((h.block _ (by omega)).trans HN.out)];rfl⟩)
 clear hu hus hN hN1 hI;refine zsm (fun a' W=>∃(H p g gc:Nat),Rv1 (w.heap.size+2) u op cls ln W p g gc/\a'={tmps:=#[.agg #[.int .i64 op,.slice lo ln lc,.slice ko kn kc],.pointer (some ⟨w.heap.size,0,none⟩),.pointer (some ⟨w.heap.size+1,0,none⟩),.pointer (some ⟨p,0,none⟩),undef,undef,undef,.pointer (some ⟨w.heap.size,0,none⟩),.int .i64 op,.slice (some ⟨H,0,none⟩) 0 0,.pointer (some ⟨w.heap.size,1,none⟩),.slice lo ln lc,.slice (some ⟨g,0,none⟩) ln gc,.agg #[.int .i64 op,.slice (some ⟨g,0,none⟩) ln gc,.slice none 0 0],undef,undef,undef,undef,undef,undef,undef,undef,undef,undef,undef,undef,undef,undef,undef,undef,undef,undef,undef,undef,undef,undef,undef,undef,undef,undef,undef,undef],defers:=[]}) ?m1 ?m2
 case m1=>
  obtain⟨v,hv⟩:∃v,v=u.drew:=⟨_,rfl⟩;have HB0:=hid (show sK (w.heap.size+2) u v by rw[hv];exact(sM _ _).drew)
  have HS0:=hid (show w.heap.size+2<=v.heap.size by rw[hv];exact tp HUS.out.symm)
  refine dj (.one 0 1 (.one 1 1 (.one 3 1 (.one 4 1 (.two 2 7 (.two 5 7 (.one 6 1 (.one 7 2 (.one 8 2 .nil))) (.one 5 2 (.one 6 1 (.one 8 2 .nil)))) (.one 2 2 (.one 5 2 (.one 6 1 (.one 8 2 .nil))))))))) (fun _=>True) (fun W=>W.cell? ⟨w.heap.size,0,none⟩=some (.int .i64 op)/\W.cell? ⟨w.heap.size,1,none⟩=some (.slice lo ln lc)) (fun _=>false) (by kernel_rfl) (by kernel_rfl) (fun j hj=>by cases hj) rfl (by kernel_rfl) trivial (HC.out _ (sM _ _).drew) ?_
  rw[<- hv];clear hv;obtain⟨v0,hv0⟩:∃v0,v0=v:=⟨_,rfl⟩;rw[<- hv0] at HB0 HS0;rw[<- hv0];clear hv0
  iterate 4 (refine cM ?_ rfl (by kernel_rfl) (fun w' hS=>?_) ?_;(rotate_left;(obtain⟨s1,s2⟩:=hS;go_simp;with_reducible rfl);rotate_left))
  refine dO ?x2 ?x7
  case x2=>
   refine bH rfl (by kernel_rfl) fun KK hKK=>?_
   go_simp;have HB1:=hid (HB0.out.alloc HS0.out (.cells #[] 3));refine hKK _ _ (fun _=>trivial) (HC.out _ HB1.out) ?_
   clear hKK KK;obtain⟨v1,hv1⟩:∃W,W=v0.alloc (.cells #[] 3):=⟨_,rfl⟩;rw[<- hv1] at HB1;rw[<- hv1];have HS1:=hid (show w.heap.size+2<=v1.heap.size by rw[hv1];have:=HS0.out;simp;omega)
   have HZ1:=hid (show v1.heap.size=v0.heap.size+1 by rw[hv1];simp)
   have HA1:=hid (show v1.heap[v0.heap.size]? =some (.cells #[] 3) by rw[hv1];exact heap_alloc_new _ _)
   have HK1:=hid (show ∀b,b<v0.heap.size->v1.heap[b]? =v0.heap[b]? from fun b hb=>by rw[hv1];exact sN _ _ _ hb)
   have HO1:=hid (show v1.ownsRow v0.heap.size 3 1 (.slice (some ⟨v0.heap.size,0,none⟩) 0 0) 0 [] by rw[hv1];exact tq v0 #[] 0 (sR _) (by decide) (by simp))
   clear hv1;refine dO ?x5 ?x57
   case x5=>
    have HH:=hid (show v0.heap.size<=v1.heap.size by have:=HZ1.out;omega)
    have HHL:=hid (show w.heap.size+2<=v0.heap.size from HS0.out)
    refine bH rfl (by kernel_rfl) fun KK hKK=>?_
    refine si _ _ rfl v0.heap.size v0.heap.size rfl HO1.out lo ln lc cls rfl (HT.out _ HB1.out) HLN.out (by omega) HH.out ?_
    intro g gc v2 o2 gr2 hg2 hlt2;have HB2:=hid (oz HB1.out gr2 HS1.out (sR _) HHL.out);have HS2:=hid (show w.heap.size+2<=v2.heap.size from sU HS1.out gr2.size)
    have HR2:=hid o2;have HG2:=hid gr2;have HL2:=hid hlt2;have HGG2:=hid hg2;refine hKK _ _ (fun _=>trivial) (HC.out _ HB2.out) ?_
    clear hKK KK o2 gr2 hg2 hlt2;refine cM ?_ rfl (by kernel_rfl) (fun w' hS=>?_) ?_;(rotate_left;(go_simp;with_reducible rfl);rotate_left)
    refine aF rfl (by kernel_rfl) fun KK hKK=>?_
    go_simp;have HB3:=hid (HB2.out.alloc HS2.out (.cells #[.int .i64 0,.slice none 0 0,.slice none 0 0] 105));refine hKK _ _ (fun _=>trivial) (HC.out _ HB3.out) ?_
    clear hKK KK;obtain⟨v3,hv3⟩:∃W,W=v2.alloc (.cells #[.int .i64 0,.slice none 0 0,.slice none 0 0] 105):=⟨_,rfl⟩;rw[<- hv3] at HB3;rw[<- hv3];have HS3:=hid (show w.heap.size+2<=v3.heap.size by rw[hv3];have:=HS2.out;simp;omega)
    have HZ3:=hid (show v3.heap.size=v2.heap.size+1 by rw[hv3];simp)
    have HA3:=hid (show v3.heap[v2.heap.size]? =some (.cells #[.int .i64 0,.slice none 0 0,.slice none 0 0] 105) by rw[hv3];exact heap_alloc_new _ _)
    have HK3:=hid (show ∀b,b<v2.heap.size->v3.heap[b]? =v2.heap[b]? from fun b hb=>by rw[hv3];exact sN _ _ _ hb)
    clear hv3;have HP:=hid HA3.out;have HPP:=hid HS2.out;obtain⟨p,hp⟩:∃p,p=v2.heap.size:=⟨_,rfl⟩;rw[<- hp] at HP;rw[<- hp];have HPL:=hid (show w.heap.size+2<=p by rw[hp];exact HPP.out)
    have HGP:=hid (show g≠p by rw[hp];have:=HL2.out;omega)
    have HOW:=hid (show v3.ownsRow v0.heap.size 3 1 (.slice (some ⟨g,0,none⟩) ln gc) ln (bf cls) from⟨HR2.out.1,HR2.out.2.imp (fun e=>e) fun⟨q',cap,cur,k1,k2,k3,k4⟩=>⟨q',cap,cur,k1,k2,(HK3.out q' (ae k3)).trans k3,k4⟩⟩)
    clear hp;have x0:v3.cell? ⟨p,0,none⟩=some (.int .i64 0):=by rw[sD v3 p 0 _ _ _ HP.out];rfl
    have x1:v3.cell? ⟨p,1,none⟩=some (.slice none 0 0):=by rw[sD v3 p 1 _ _ _ HP.out];rfl
    have x2:v3.cell? ⟨p,2,none⟩=some (.slice none 0 0):=by rw[sD v3 p 2 _ _ _ HP.out];rfl
    have z0:=sE v3 p 0 _ _ HP.out;have z1:=sE v3 p 1 _ _ HP.out;have z2:=sE v3 p 2 _ _ HP.out;refine aF rfl (by kernel_rfl) fun KK hKK=>?_
    go_simp;have HQ:=hid (zft (op:=op) HP.out HB3.out HPL.out HOW.out HGP.out HHL.out);refine hKK _ _ (fun _=>trivial) (HC.out _ HQ.out.below) ?_
    clear hKK KK;refine bZ (sS ?_);exact⟨rfl,_,_,_,_,HQ.out,rfl⟩
   case x57=>
    refine bH rfl (by kernel_rfl) fun KK hKK=>?_
    go_simp;have HB2:=hid (HB1.out.alloc HS1.out (.cells #[.int .i64 0,.slice none 0 0,.slice none 0 0] 105));refine hKK _ _ (fun _=>trivial) (HC.out _ HB2.out) ?_
    clear hKK KK;obtain⟨v2,hv2⟩:∃W,W=v1.alloc (.cells #[.int .i64 0,.slice none 0 0,.slice none 0 0] 105):=⟨_,rfl⟩;rw[<- hv2] at HB2;rw[<- hv2];have HS2:=hid (show w.heap.size+2<=v2.heap.size by rw[hv2];have:=HS1.out;simp;omega)
    have HZ2:=hid (show v2.heap.size=v1.heap.size+1 by rw[hv2];simp)
    have HA2:=hid (show v2.heap[v1.heap.size]? =some (.cells #[.int .i64 0,.slice none 0 0,.slice none 0 0] 105) by rw[hv2];exact heap_alloc_new _ _)
    have HK2:=hid (show ∀b,b<v1.heap.size->v2.heap[b]? =v1.heap[b]? from fun b hb=>by rw[hv2];exact sN _ _ _ hb)
    clear hv2;have HO2:=hid (show v2.ownsRow v0.heap.size 3 1 (.slice (some ⟨v0.heap.size,0,none⟩) 0 0) 0 [] from⟨HO1.out.1,HO1.out.2.imp (fun e=>e) fun⟨q',cap,cur,k1,k2,k3,k4⟩=>⟨q',cap,cur,k1,k2,(HK2.out q' (ae k3)).trans k3,k4⟩⟩)
    have HH:=hid (show v0.heap.size<=v2.heap.size by have:=HZ1.out;have:=HZ2.out;omega)
    have HHL:=hid (show w.heap.size+2<=v0.heap.size from HS0.out)
    refine aF rfl (by kernel_rfl) fun KK hKK=>?_
    refine si _ _ rfl v0.heap.size v0.heap.size rfl HO2.out lo ln lc cls rfl (HT.out _ HB2.out) HLN.out (by omega) HH.out ?_
    intro g gc v3 o3 gr3 hg3 hlt3;have HB3:=hid (oz HB2.out gr3 HS2.out (sR _) HHL.out);have HS3:=hid (show w.heap.size+2<=v3.heap.size from sU HS2.out gr3.size)
    have HR3:=hid o3;have HG3:=hid gr3;have HL3:=hid hlt3;have HGG3:=hid hg3;refine hKK _ _ (fun _=>trivial) (HC.out _ HB3.out) ?_
    clear hKK KK o3 gr3 hg3 hlt3;refine cM ?_ rfl (by kernel_rfl) (fun w' hS=>?_) ?_;(rotate_left;(go_simp;with_reducible rfl);rotate_left)
    have HP:=hid (show v3.heap[v1.heap.size]? =_ from(HG3.out.block v1.heap.size (by have:=HZ2.out;omega) (fun e=>by have e':=sT e;have:=HZ1.out;omega)).trans HA2.out)
    have HPP:=hid HS1.out;obtain⟨p,hp⟩:∃p,p=v1.heap.size:=⟨_,rfl⟩;rw[<- hp] at HP;rw[<- hp];have HPL:=hid (show w.heap.size+2<=p by rw[hp];exact HPP.out)
    have HGP:=hid (show g≠p by rw[hp];have h1:=HGG3.out;have h2:=HZ1.out;have h3:=HZ2.out;omega)
    have HOW:=hid (show v3.ownsRow v0.heap.size 3 1 (.slice (some ⟨g,0,none⟩) ln gc) ln (bf cls) from HR3.out)
    clear hp;have x0:v3.cell? ⟨p,0,none⟩=some (.int .i64 0):=by rw[sD v3 p 0 _ _ _ HP.out];rfl
    have x1:v3.cell? ⟨p,1,none⟩=some (.slice none 0 0):=by rw[sD v3 p 1 _ _ _ HP.out];rfl
    have x2:v3.cell? ⟨p,2,none⟩=some (.slice none 0 0):=by rw[sD v3 p 2 _ _ _ HP.out];rfl
    have z0:=sE v3 p 0 _ _ HP.out;have z1:=sE v3 p 1 _ _ HP.out;have z2:=sE v3 p 2 _ _ HP.out;refine aF rfl (by kernel_rfl) fun KK hKK=>?_
    go_simp;have HQ:=hid (zft (op:=op) HP.out HB3.out HPL.out HOW.out HGP.out HHL.out);refine hKK _ _ (fun _=>trivial) (HC.out _ HQ.out.below) ?_
    clear hKK KK;refine bZ (sS ?_);exact⟨rfl,_,_,_,_,HQ.out,rfl⟩
  case x7=>
   refine bH rfl (by kernel_rfl) fun KK hKK=>?_
   go_simp;have HB1:=hid (HB0.out.alloc HS0.out (.cells #[.int .i64 0,.slice none 0 0,.slice none 0 0] 105));refine hKK _ _ (fun _=>trivial) (HC.out _ HB1.out) ?_
   clear hKK KK;obtain⟨v1,hv1⟩:∃W,W=v0.alloc (.cells #[.int .i64 0,.slice none 0 0,.slice none 0 0] 105):=⟨_,rfl⟩;rw[<- hv1] at HB1;rw[<- hv1];have HS1:=hid (show w.heap.size+2<=v1.heap.size by rw[hv1];have:=HS0.out;simp;omega)
   have HZ1:=hid (show v1.heap.size=v0.heap.size+1 by rw[hv1];simp)
   have HA1:=hid (show v1.heap[v0.heap.size]? =some (.cells #[.int .i64 0,.slice none 0 0,.slice none 0 0] 105) by rw[hv1];exact heap_alloc_new _ _)
   have HK1:=hid (show ∀b,b<v0.heap.size->v1.heap[b]? =v0.heap[b]? from fun b hb=>by rw[hv1];exact sN _ _ _ hb)
   clear hv1;refine aF rfl (by kernel_rfl) fun KK hKK=>?_
   go_simp;have HB2:=hid (HB1.out.alloc HS1.out (.cells #[] 3));refine hKK _ _ (fun _=>trivial) (HC.out _ HB2.out) ?_
   clear hKK KK;obtain⟨v2,hv2⟩:∃W,W=v1.alloc (.cells #[] 3):=⟨_,rfl⟩;rw[<- hv2] at HB2;rw[<- hv2];have HS2:=hid (show w.heap.size+2<=v2.heap.size by rw[hv2];have:=HS1.out;simp;omega)
   have HZ2:=hid (show v2.heap.size=v1.heap.size+1 by rw[hv2];simp)
   have HA2:=hid (show v2.heap[v1.heap.size]? =some (.cells #[] 3) by rw[hv2];exact heap_alloc_new _ _)
   have HK2:=hid (show ∀b,b<v1.heap.size->v2.heap[b]? =v1.heap[b]? from fun b hb=>by rw[hv2];exact sN _ _ _ hb)
   have HO2:=hid (show v2.ownsRow v1.heap.size 3 1 (.slice (some ⟨v1.heap.size,0,none⟩) 0 0) 0 [] by rw[hv2];exact tq v1 #[] 0 (sR _) (by decide) (by simp))
   clear hv2;have HH:=hid (show v1.heap.size<=v2.heap.size by have:=HZ2.out;omega)
   have HHL:=hid (show w.heap.size+2<=v1.heap.size from HS1.out)
   refine aF rfl (by kernel_rfl) fun KK hKK=>?_
   refine si _ _ rfl v1.heap.size v1.heap.size rfl HO2.out lo ln lc cls rfl (HT.out _ HB2.out) HLN.out (by omega) HH.out ?_
   intro g gc v3 o3 gr3 hg3 hlt3;have HB3:=hid (oz HB2.out gr3 HS2.out (sR _) HHL.out);have HS3:=hid (show w.heap.size+2<=v3.heap.size from sU HS2.out gr3.size)
   have HR3:=hid o3;have HG3:=hid gr3;have HL3:=hid hlt3;have HGG3:=hid hg3;refine hKK _ _ (fun _=>trivial) (HC.out _ HB3.out) ?_
   clear hKK KK o3 gr3 hg3 hlt3;refine cM ?_ rfl (by kernel_rfl) (fun w' hS=>?_) ?_;(rotate_left;(go_simp;with_reducible rfl);rotate_left)
   have HP:=hid (show v3.heap[v0.heap.size]? =_ from(HG3.out.block v0.heap.size (by have:=HZ1.out;have:=HZ2.out;omega) (fun e=>by have e':=sT e;have:=HZ1.out;omega)).trans ((HK2.out v0.heap.size (by have:=HZ1.out;omega)).trans HA1.out))
   have HPP:=hid HS0.out;obtain⟨p,hp⟩:∃p,p=v0.heap.size:=⟨_,rfl⟩;rw[<- hp] at HP;rw[<- hp];have HPL:=hid (show w.heap.size+2<=p by rw[hp];exact HPP.out)
   have HGP:=hid (show g≠p by rw[hp];have h1:=HGG3.out;have h2:=HZ1.out;have h3:=HZ2.out;omega)
   have HOW:=hid (show v3.ownsRow v1.heap.size 3 1 (.slice (some ⟨g,0,none⟩) ln gc) ln (bf cls) from HR3.out)
   clear hp;have x0:v3.cell? ⟨p,0,none⟩=some (.int .i64 0):=by rw[sD v3 p 0 _ _ _ HP.out];rfl
   have x1:v3.cell? ⟨p,1,none⟩=some (.slice none 0 0):=by rw[sD v3 p 1 _ _ _ HP.out];rfl
   have x2:v3.cell? ⟨p,2,none⟩=some (.slice none 0 0):=by rw[sD v3 p 2 _ _ _ HP.out];rfl
   have z0:=sE v3 p 0 _ _ HP.out;have z1:=sE v3 p 1 _ _ HP.out;have z2:=sE v3 p 2 _ _ HP.out;refine aF rfl (by kernel_rfl) fun KK hKK=>?_
   go_simp;have HQ:=hid (zft (op:=op) HP.out HB3.out HPL.out HOW.out HGP.out HHL.out);refine hKK _ _ (fun _=>trivial) (HC.out _ HQ.out.below) ?_
   clear hKK KK;refine bZ (sS ?_);exact⟨rfl,_,_,_,_,HQ.out,rfl⟩
 case m2=>
  rintro a' W1 ⟨H,p,g,gc,O1,rfl⟩
  cases z with
  | true=>
   obtain rfl:=HZY.out.1 rfl;obtain⟨B,hB⟩:∃B,B=W1.heap.size:=⟨_,rfl⟩;have HBz:=hid hB;have HI0:=hid (show RvI w.heap.size p B w #[.int .i64 op,.slice lo ln lc,.slice ko kn kc] op cls ln g gc (fun i=>q (kn - 1 - i)) 0 none 0 [] W1 from⟨O1.at_,sY _ _ _ _,fun j hj=>by omega,fun k z hz=>by
    obtain⟨a,h1,h2,h3⟩:=O1.rd k z hz
    cases h1
    exact⟨_,rfl,h2,(fun h=>by
     have h4:=O1.glo
     rcases h with h | h | h
     ·have h':g<w.heap.size+2:=h
      omega
     ·exact O1.gp h
     ·cases h),h3⟩,(O1.below.block _ (by omega)).trans HN.out,(O1.below.block _ (by omega)).trans HN1.out,HUb.out.trans (O1.below.mono (by omega)),O1.lo,by rw[hB];exact ae O1.at_,tp hB,fun b hb=>by cases hb⟩)
   clear O1 hB HN HN1 HUS HT HC HUb;have x2:W1.cell? ⟨w.heap.size,2,none⟩=some (.slice ko kn kc):=(HI0.out.cells W1 rfl rfl).2 2;go_wp2;clear x2;go_loopw [5] (fun y wr=>∃(i:Nat) (vo:Option Addr) (vc:Nat) (xs:List sP),y= .int .i64 i/\i<=kn/\Hid (RvI w.heap.size p B w #[.int .i64 op,.slice lo ln lc,.slice ko kn kc] op cls ln g gc (fun i=>q (kn - 1 - i)) i vo vc xs wr)) (fun y _=>kn - (tC y).toNat)
   case atStart=>exact⟨0,none,0,[],rfl,td _,HI0⟩
   case round=>
    clear HI0;obtain⟨i,vo,vc,xs,rfl,hi,HI⟩:=hrel
    by_cases hlt:i<kn
    ·have i1:(i:Int)<(kn:Int):=by omega
     obtain⟨k,hk⟩:∃k,k=kn - 1 - i:=⟨_,rfl⟩;have hkn:k<kn:=by omega
     have k0:(0:Int)<=(k:Int):=by omega
     have k1:(k:Int)<(kn:Int):=by omega
     have HQk:=hid (show q k=(fun i=>q (kn - 1 - i)) i by rw[hk])
     obtain⟨b,o,u0,u1,u2,rfl,hb,q0,q1,q2,hL⟩:=HK.out k hkn;have hbw:=HI.out.below;have HCs:=hid HI.out.cells;have HBw:=hid hbw;have HLb:=hid hb;have y0:wr.cell? ⟨b,o+k * 3,none⟩=some u0:=(hbw.cell (p:=⟨b,o+k * 3,none⟩) hb).trans q0;have y1:wr.cell? ⟨b,o+k * 3+1,none⟩=some u1:=(hbw.cell (p:=⟨b,o+k * 3+1,none⟩) hb).trans q1;have y2:wr.cell? ⟨b,o+k * 3+2,none⟩=some u2:=(hbw.cell (p:=⟨b,o+k * 3+2,none⟩) hb).trans q2;have HL:=hid (hL wr.drew ⟨hbw.os,hbw.tape,hbw.output,hbw.size,hbw.block⟩);have cN:=(HI.out.cells wr rfl rfl).2 0;have HS:=hid (fun(W:sJ) (h:sK wr.heap.size wr W)=>show W.cell? ⟨p,2,none⟩=some (.slice vo i vc)/\W.cell? ⟨w.heap.size,2,none⟩=some (.slice (some ⟨b,o,none⟩) kn kc)/\W.cell? ⟨b,o+k * 3,none⟩=some u0/\W.cell? ⟨b,o+k * 3+1,none⟩=some u1/\W.cell? ⟨b,o+k * 3+2,none⟩=some u2 from by
      have hbr:b<wr.heap.size:=sQ HLb.out HBw.out.size;have h1:=HCs.out W (h.block _ (ae HI.out.at_)) (h.block _ (ae HI.out.pbox));exact⟨h1.1,h1.2 2,(h.cell (p:=⟨b,o+k * 3,none⟩) hbr).trans y0,(h.cell (p:=⟨b,o+k * 3+1,none⟩) hbr).trans y1,(h.cell (p:=⟨b,o+k * 3+2,none⟩) hbr).trans y2⟩)
     clear q0 q1 q2 hL hbw hb y0 y1 y2;have e3:(kn:Int) - 1 - (i:Int)=(k:Int):=by omega
     have e4:tK.wrap ((kn:Int) - 1)=(kn:Int) - 1:=by unfold tH tI tD;simp;omega
     have e5:tK.wrap ((kn:Int) - 1 - (i:Int))=(k:Int):=by rw[e3];unfold tH tI tD;simp;omega
     clear hk e3;go_wp2_with fail;clear cN;refine am [(0,true),(1,true),(2,true),(3,true),(4,true),(5,true),(6,true),(7,false),(8,false),(9,false),(10,false),(11,false)] (fun W=>W.cell? ⟨p,2,none⟩=some (.slice vo i vc)/\W.cell? ⟨w.heap.size,2,none⟩=some (.slice (some ⟨b,o,none⟩) kn kc)/\W.cell? ⟨b,o+k * 3,none⟩=some u0/\W.cell? ⟨b,o+k * 3+1,none⟩=some u1/\W.cell? ⟨b,o+k * 3+2,none⟩=some u2) (fun j=>j==11) (by kernel_rfl) (by kernel_rfl) (fun j hj=>by have:=beq_iff_eq.1 hj;subst this;decide) rfl (by kernel_rfl) (HS.out _ (show sK wr.heap.size wr wr.drew from(sM _ _).drew)) ?_
     iterate 7 (refine av ?_ rfl (by kernel_rfl) (fun w' hS=>?_) ?_;(rotate_left;(obtain⟨s0,s1,s2,s3,s4⟩:=hS;go_simp;with_reducible rfl);rotate_left))
     refine ar rfl (by kernel_rfl) fun KK hKK=>?_
     go_simp;refine HL.out.mono ?_;rintro e w4 ⟨t0,t1,t2,rfl,hP4,hB4⟩;have HP4:=hid (show dR w4 (fun b=>b<wr.heap.size) ((fun i=>q (kn - 1 - i)) i) t0 t1 t2 from by have hh:=hP4;rw[HQk.out] at hh;exact hh)
     have HB4:=hid (show sK wr.heap.size wr w4 from⟨hB4.os,hB4.tape,hB4.output,hB4.size,hB4.block⟩)
     obtain⟨z0,zo,zn,zc,zk,zm,zp,rfl,rfl,rfl⟩:=hP4.shape;clear hP4 hB4 HL HQk;refine hKK _ _ (fun _=>HS.out _ HB4.out) ?_
     clear hKK;refine ar rfl (by kernel_rfl) fun KK hKK=>?_
     go_simp;obtain⟨w5,hw5⟩:∃w5,w5=w4.alloc (.cells #[.int .i64 z0,.slice zo zn zc,.slice zk zm zp] 105):=⟨_,rfl⟩;rw[<- hw5];have HB5:=hid (show sK w4.heap.size w4 w5 by rw[hw5];exact below_box)
     have HN5:=hid (show ∀j u,[tu .i64 z0,.slice zo zn zc,.slice zk zm zp][j]? =some u->w5.cell? ((⟨w4.heap.size,0,none⟩:Addr).add j)=some u by rw[hw5];exact oX w4 _ _)
     clear hw5;have HBB:=hid (show sK wr.heap.size wr w5 from HB4.out.trans (HB5.out.mono HB4.out.size))
     refine hKK _ _ (fun _=>HS.out _ HBB.out) ?_
     clear hKK;obtain⟨iR,hiR,hz0,hz1,hz2⟩:=tE Tryz.infoPat;have HO5:=hid (show w5.ownsRow B 105 3 (.slice vo i vc) i xs from⟨HI.out.own.1,HI.out.own.2.imp (fun e=>e) fun⟨q',cap,cur,k1,k2,k3,k4⟩=>⟨q',cap,cur,k1,k2,(HBB.out.block q' (ae k3)).trans k3,k4⟩⟩)
     have HlB:=hid (show B<=w5.heap.size from sU HI.out.bs HBB.out.size)
     refine ar rfl (by kernel_rfl) fun KK hKK=>?_
     refine te _ _ _ 103 rfl B 105 iR (.agg #[.int .i64 0,.slice none 0 0,.slice none 0 0]) 3 56 Tryz.underPats hiR hz0 hz1 hz2 rfl (by decide) (.slice vo i vc) i xs rfl HO5.out ⟨w4.heap.size,0,none⟩ 1 1 [tu .i64 z0,.slice zo zn zc,.slice zk zm zp] rfl rfl HN5.out (fun u hu=>by simp at hu;rcases hu with h | h | h<;>rw[h]<;>rfl) (by decide) (by unfold maxLen;omega) (by omega) HlB.out w5.heap.size rfl ?_
     intro g8 c8 w6 o6 gr6 hl6 hlt6;have HM:=hid (fun(w7:sJ) (h7:w7=w6.setCell ⟨p,2,none⟩ (.slice (some ⟨g8,0,none⟩) (i+1) c8))=>HI.out.more HP4.out HB4.out rfl HB5.out o6 gr6 hl6 h7)
     have e6:w6.heap[p]? =wr.heap[p]? :=(gr6.block p (sQ (ae HI.out.at_) HBB.out.size) (fun e=>by have:=HI.out.low p e.symm;have:=HI.out.lb;omega)).trans (HBB.out.block p (ae HI.out.at_))
     have f6:w6.frozen? ⟨p,2,none⟩=false:=sE w6 p 2 _ _ (e6.trans HI.out.at_);have c6:w6.cell? ⟨p,2,none⟩=some (.slice vo i vc):=by rw[sD w6 p 2 _ _ _ (e6.trans HI.out.at_)];rfl
     have HS6:=hid (show w6.cell? ⟨p,2,none⟩=some (.slice vo i vc)/\w6.cell? ⟨w.heap.size,2,none⟩=some (.slice (some ⟨b,o,none⟩) kn kc)/\w6.cell? ⟨b,o+k * 3,none⟩=some u0/\w6.cell? ⟨b,o+k * 3+1,none⟩=some u1/\w6.cell? ⟨b,o+k * 3+2,none⟩=some u2 from by
      obtain⟨s0,s1,s2,s3,s4⟩:=HS.out w5 HBB.out;have hbl:=HLb.out;have hws:=HBw.out.size;have hs5:=HBB.out.size;have hlow:=HI.out.low;have hlp:=HI.out.lp;have hlb:=HI.out.lb;have hNl:=ae HI.out.pbox;have hcc:∀(d k:Nat) (v:sP),d<w.heap.size+1->w5.cell? ⟨d,k,none⟩=some v->w6.cell? ⟨d,k,none⟩=some v:=fun d k v hd hv=>(sI (a:=⟨d,k,none⟩) (gr6.block d (by omega) (fun e=>by have:=hlow d e.symm;omega))).trans hv
      exact⟨c6,hcc _ _ _ (by omega) s1,hcc _ _ _ (by omega) s2,hcc _ _ _ (by omega) s3,hcc _ _ _ (by omega) s4⟩)
     refine hKK _ _ (fun _=>HS6.out) ?_
     clear hKK o6 gr6 hl6 hlt6 e6;refine ar rfl (by kernel_rfl) fun KK hKK=>?_
     go_simp;refine hKK _ _ (fun _=>HS6.out) ?_
     clear hKK;refine ar rfl (by kernel_rfl) fun KK hKK=>?_
     go_simp;refine hKK _ _ (fun h=>by cases h) ?_
     clear hKK;refine aQ (sS ?_);have HM2:=hid (HM.out _ rfl);clear HM HS HS6 c6 f6;go_wp2;go_roundw
     case rel=>exact⟨i+1,_,_,_,by go_num,by omega,HM2⟩
     case measure=>simp[tC];omega
    ·have i1:¬(i:Int)<(kn:Int):=by omega
     obtain rfl:i=kn:=by omega
     have c0:wr.cell? ⟨p,0,none⟩=some (.int .i64 op):=by rw[sD wr p 0 _ _ _ HI.out.at_];rfl
     have c1:wr.cell? ⟨p,1,none⟩=some (.slice (some ⟨g,0,none⟩) ln gc):=by rw[sD wr p 1 _ _ _ HI.out.at_];rfl
     have c2:wr.cell? ⟨p,2,none⟩=some (.slice vo i vc):=by rw[sD wr p 2 _ _ _ HI.out.at_];rfl
     have d0:wr.cell? ⟨w.heap.size+1,0,none⟩=some (.int .i64 0):=by rw[sD wr _ 0 _ _ _ HI.out.res];rfl
     have d1:wr.cell? ⟨w.heap.size+1,1,none⟩=some (.slice none 0 0):=by rw[sD wr _ 1 _ _ _ HI.out.res];rfl
     have d2:wr.cell? ⟨w.heap.size+1,2,none⟩=some (.slice none 0 0):=by rw[sD wr _ 2 _ _ _ HI.out.res];rfl
     have f0:=sE wr _ 0 _ _ HI.out.res;have f1:=sE wr _ 1 _ _ HI.out.res;have f2:=sE wr _ 2 _ _ HI.out.res;have HI2:=hid (show wr.cell? ⟨w.heap.size,2,none⟩=some (.slice ko i kc) from(HI.out.cells wr rfl rfl).2 2)
     have x2:=HI2.out;have lb:=HI.out.lp;go_wp2;obtain⟨w5,hw5⟩:∃w5,w5=((wr.setCell ⟨w.heap.size+1,0,none⟩ (.int .i64 op)).setCell ⟨w.heap.size+1,1,none⟩ (.slice (some ⟨g,0,none⟩) ln gc)).setCell ⟨w.heap.size+1,2,none⟩ (.slice vo i vc):=⟨_,rfl⟩;rw[<- hw5];have k5:di (w.heap.size+1) wr w5:=by rw[hw5];exact nl wr (w.heap.size+1) _ _ _
     have z5:w5.heap[w.heap.size+1]? =some (.cells #[.int .i64 op,.slice (some ⟨g,0,none⟩) ln gc,.slice vo i vc] 105 (0,0)):=by rw[hw5];exact sC HI.out.res
     have y0:w5.cell? ⟨w.heap.size+1,0,none⟩=some (.int .i64 op):=by rw[sD w5 _ 0 _ _ _ z5];rfl
     have y1:w5.cell? ⟨w.heap.size+1,1,none⟩=some (.slice (some ⟨g,0,none⟩) ln gc):=by rw[sD w5 _ 1 _ _ _ z5];rfl
     have y2:w5.cell? ⟨w.heap.size+1,2,none⟩=some (.slice vo i vc):=by rw[sD w5 _ 2 _ _ _ z5];rfl
     refine tr (v:=.agg #[.int .i64 op,.slice (some ⟨g,0,none⟩) ln gc,.slice vo i vc]) ?_ rfl ?_
     ·simp[results,Tryz.f146,go_sem,y0,y1,y2]
     ·exact⟨_,_,_,rfl,HI.out.done k5.size (fun b hb=>k5.block b hb) HLN.out hl9 hk9,HI.out.below.trans (k5.below (by omega))⟩
  | false=>
   obtain rfl:=HZY.out.2 rfl;obtain⟨B,hB⟩:∃B,B=W1.heap.size:=⟨_,rfl⟩;have HBz:=hid hB;have HI0:=hid (show RvI w.heap.size p B w #[.int .i64 op,.slice lo ln lc,.slice ko kn kc] op cls ln g gc (fun i=>q (i)) 0 none 0 [] W1 from⟨O1.at_,sY _ _ _ _,fun j hj=>by omega,fun k z hz=>by
    obtain⟨a,h1,h2,h3⟩:=O1.rd k z hz
    cases h1
    exact⟨_,rfl,h2,(fun h=>by
     have h4:=O1.glo
     rcases h with h | h | h
     ·have h':g<w.heap.size+2:=h
      omega
     ·exact O1.gp h
     ·cases h),h3⟩,(O1.below.block _ (by omega)).trans HN.out,(O1.below.block _ (by omega)).trans HN1.out,HUb.out.trans (O1.below.mono (by omega)),O1.lo,by rw[hB];exact ae O1.at_,tp hB,fun b hb=>by cases hb⟩)
   clear O1 hB HN HN1 HUS HT HC HUb;have x2:W1.cell? ⟨w.heap.size,2,none⟩=some (.slice ko kn kc):=(HI0.out.cells W1 rfl rfl).2 2;go_wp2;clear x2;go_loopw [5] (fun y wr=>∃(i:Nat) (vo:Option Addr) (vc:Nat) (xs:List sP),y= .int .i64 i/\i<=kn/\Hid (RvI w.heap.size p B w #[.int .i64 op,.slice lo ln lc,.slice ko kn kc] op cls ln g gc (fun i=>q (i)) i vo vc xs wr)) (fun y _=>kn - (tC y).toNat)
   case atStart=>exact⟨0,none,0,[],rfl,td _,HI0⟩
   case round=>
    clear HI0;obtain⟨i,vo,vc,xs,rfl,hi,HI⟩:=hrel
    by_cases hlt:i<kn
    ·have i1:(i:Int)<(kn:Int):=by omega
     obtain⟨k,hk⟩:∃k,k=i:=⟨_,rfl⟩;have hkn:k<kn:=by omega
     have k0:(0:Int)<=(k:Int):=by omega
     have k1:(k:Int)<(kn:Int):=by omega
     have HQk:=hid (show q k=(fun i=>q (i)) i by rw[hk])
     obtain⟨b,o,u0,u1,u2,rfl,hb,q0,q1,q2,hL⟩:=HK.out k hkn;have hbw:=HI.out.below;have HCs:=hid HI.out.cells;have HBw:=hid hbw;have HLb:=hid hb;have y0:wr.cell? ⟨b,o+k * 3,none⟩=some u0:=(hbw.cell (p:=⟨b,o+k * 3,none⟩) hb).trans q0;have y1:wr.cell? ⟨b,o+k * 3+1,none⟩=some u1:=(hbw.cell (p:=⟨b,o+k * 3+1,none⟩) hb).trans q1;have y2:wr.cell? ⟨b,o+k * 3+2,none⟩=some u2:=(hbw.cell (p:=⟨b,o+k * 3+2,none⟩) hb).trans q2;have HL:=hid (hL wr.drew ⟨hbw.os,hbw.tape,hbw.output,hbw.size,hbw.block⟩);have cN:=(HI.out.cells wr rfl rfl).2 0;have HS:=hid (fun(W:sJ) (h:sK wr.heap.size wr W)=>show W.cell? ⟨p,2,none⟩=some (.slice vo i vc)/\W.cell? ⟨w.heap.size,2,none⟩=some (.slice (some ⟨b,o,none⟩) kn kc)/\W.cell? ⟨b,o+k * 3,none⟩=some u0/\W.cell? ⟨b,o+k * 3+1,none⟩=some u1/\W.cell? ⟨b,o+k * 3+2,none⟩=some u2 from by
      have hbr:b<wr.heap.size:=sQ HLb.out HBw.out.size;have h1:=HCs.out W (h.block _ (ae HI.out.at_)) (h.block _ (ae HI.out.pbox));exact⟨h1.1,h1.2 2,(h.cell (p:=⟨b,o+k * 3,none⟩) hbr).trans y0,(h.cell (p:=⟨b,o+k * 3+1,none⟩) hbr).trans y1,(h.cell (p:=⟨b,o+k * 3+2,none⟩) hbr).trans y2⟩)
     clear q0 q1 q2 hL hbw hb y0 y1 y2;have hk':=hk.symm;subst hk';clear hk;go_wp2_with fail;clear cN;refine am [(0,true),(1,true),(2,true),(3,true),(4,true),(5,true),(6,true),(7,false),(8,false),(9,false),(10,false),(11,false)] (fun W=>W.cell? ⟨p,2,none⟩=some (.slice vo i vc)/\W.cell? ⟨w.heap.size,2,none⟩=some (.slice (some ⟨b,o,none⟩) kn kc)/\W.cell? ⟨b,o+i * 3,none⟩=some u0/\W.cell? ⟨b,o+i * 3+1,none⟩=some u1/\W.cell? ⟨b,o+i * 3+2,none⟩=some u2) (fun j=>j==11) (by kernel_rfl) (by kernel_rfl) (fun j hj=>by have:=beq_iff_eq.1 hj;subst this;decide) rfl (by kernel_rfl) (HS.out _ (show sK wr.heap.size wr wr.drew from(sM _ _).drew)) ?_
     iterate 7 (refine av ?_ rfl (by kernel_rfl) (fun w' hS=>?_) ?_;(rotate_left;(obtain⟨s0,s1,s2,s3,s4⟩:=hS;go_simp;with_reducible rfl);rotate_left))
     refine ar rfl (by kernel_rfl) fun KK hKK=>?_
     go_simp;refine HL.out.mono ?_;rintro e w4 ⟨t0,t1,t2,rfl,hP4,hB4⟩;have HP4:=hid (show dR w4 (fun b=>b<wr.heap.size) ((fun i=>q (i)) i) t0 t1 t2 from hP4)
     have HB4:=hid (show sK wr.heap.size wr w4 from⟨hB4.os,hB4.tape,hB4.output,hB4.size,hB4.block⟩)
     obtain⟨z0,zo,zn,zc,zk,zm,zp,rfl,rfl,rfl⟩:=hP4.shape;clear hP4 hB4 HL HQk;refine hKK _ _ (fun _=>HS.out _ HB4.out) ?_
     clear hKK;refine ar rfl (by kernel_rfl) fun KK hKK=>?_
     go_simp;obtain⟨w5,hw5⟩:∃w5,w5=w4.alloc (.cells #[.int .i64 z0,.slice zo zn zc,.slice zk zm zp] 105):=⟨_,rfl⟩;rw[<- hw5];have HB5:=hid (show sK w4.heap.size w4 w5 by rw[hw5];exact below_box)
     have HN5:=hid (show ∀j u,[tu .i64 z0,.slice zo zn zc,.slice zk zm zp][j]? =some u->w5.cell? ((⟨w4.heap.size,0,none⟩:Addr).add j)=some u by rw[hw5];exact oX w4 _ _)
     clear hw5;have HBB:=hid (show sK wr.heap.size wr w5 from HB4.out.trans (HB5.out.mono HB4.out.size))
     refine hKK _ _ (fun _=>HS.out _ HBB.out) ?_
     clear hKK;obtain⟨iR,hiR,hz0,hz1,hz2⟩:=tE Tryz.infoPat;have HO5:=hid (show w5.ownsRow B 105 3 (.slice vo i vc) i xs from⟨HI.out.own.1,HI.out.own.2.imp (fun e=>e) fun⟨q',cap,cur,k1,k2,k3,k4⟩=>⟨q',cap,cur,k1,k2,(HBB.out.block q' (ae k3)).trans k3,k4⟩⟩)
     have HlB:=hid (show B<=w5.heap.size from sU HI.out.bs HBB.out.size)
     refine ar rfl (by kernel_rfl) fun KK hKK=>?_
     refine te _ _ _ 103 rfl B 105 iR (.agg #[.int .i64 0,.slice none 0 0,.slice none 0 0]) 3 56 Tryz.underPats hiR hz0 hz1 hz2 rfl (by decide) (.slice vo i vc) i xs rfl HO5.out ⟨w4.heap.size,0,none⟩ 1 1 [tu .i64 z0,.slice zo zn zc,.slice zk zm zp] rfl rfl HN5.out (fun u hu=>by simp at hu;rcases hu with h | h | h<;>rw[h]<;>rfl) (by decide) (by unfold maxLen;omega) (by omega) HlB.out w5.heap.size rfl ?_
     intro g8 c8 w6 o6 gr6 hl6 hlt6;have HM:=hid (fun(w7:sJ) (h7:w7=w6.setCell ⟨p,2,none⟩ (.slice (some ⟨g8,0,none⟩) (i+1) c8))=>HI.out.more HP4.out HB4.out rfl HB5.out o6 gr6 hl6 h7)
     have e6:w6.heap[p]? =wr.heap[p]? :=(gr6.block p (sQ (ae HI.out.at_) HBB.out.size) (fun e=>by have:=HI.out.low p e.symm;have:=HI.out.lb;omega)).trans (HBB.out.block p (ae HI.out.at_))
     have f6:w6.frozen? ⟨p,2,none⟩=false:=sE w6 p 2 _ _ (e6.trans HI.out.at_);have c6:w6.cell? ⟨p,2,none⟩=some (.slice vo i vc):=by rw[sD w6 p 2 _ _ _ (e6.trans HI.out.at_)];rfl
     have HS6:=hid (show w6.cell? ⟨p,2,none⟩=some (.slice vo i vc)/\w6.cell? ⟨w.heap.size,2,none⟩=some (.slice (some ⟨b,o,none⟩) kn kc)/\w6.cell? ⟨b,o+i * 3,none⟩=some u0/\w6.cell? ⟨b,o+i * 3+1,none⟩=some u1/\w6.cell? ⟨b,o+i * 3+2,none⟩=some u2 from by
      obtain⟨s0,s1,s2,s3,s4⟩:=HS.out w5 HBB.out;have hbl:=HLb.out;have hws:=HBw.out.size;have hs5:=HBB.out.size;have hlow:=HI.out.low;have hlp:=HI.out.lp;have hlb:=HI.out.lb;have hNl:=ae HI.out.pbox;have hcc:∀(d k:Nat) (v:sP),d<w.heap.size+1->w5.cell? ⟨d,k,none⟩=some v->w6.cell? ⟨d,k,none⟩=some v:=fun d k v hd hv=>(sI (a:=⟨d,k,none⟩) (gr6.block d (by omega) (fun e=>by have:=hlow d e.symm;omega))).trans hv
      exact⟨c6,hcc _ _ _ (by omega) s1,hcc _ _ _ (by omega) s2,hcc _ _ _ (by omega) s3,hcc _ _ _ (by omega) s4⟩)
     refine hKK _ _ (fun _=>HS6.out) ?_
     clear hKK o6 gr6 hl6 hlt6 e6;refine ar rfl (by kernel_rfl) fun KK hKK=>?_
     go_simp;refine hKK _ _ (fun _=>HS6.out) ?_
     clear hKK;refine ar rfl (by kernel_rfl) fun KK hKK=>?_
     go_simp;refine hKK _ _ (fun h=>by cases h) ?_
     clear hKK;refine aQ (sS ?_);have HM2:=hid (HM.out _ rfl);clear HM HS HS6 c6 f6;go_wp2;go_roundw
     case rel=>exact⟨i+1,_,_,_,by go_num,by omega,HM2⟩
     case measure=>simp[tC];omega
    ·have i1:¬(i:Int)<(kn:Int):=by omega
     obtain rfl:i=kn:=by omega
     have c0:wr.cell? ⟨p,0,none⟩=some (.int .i64 op):=by rw[sD wr p 0 _ _ _ HI.out.at_];rfl
     have c1:wr.cell? ⟨p,1,none⟩=some (.slice (some ⟨g,0,none⟩) ln gc):=by rw[sD wr p 1 _ _ _ HI.out.at_];rfl
     have c2:wr.cell? ⟨p,2,none⟩=some (.slice vo i vc):=by rw[sD wr p 2 _ _ _ HI.out.at_];rfl
     have d0:wr.cell? ⟨w.heap.size+1,0,none⟩=some (.int .i64 0):=by rw[sD wr _ 0 _ _ _ HI.out.res];rfl
     have d1:wr.cell? ⟨w.heap.size+1,1,none⟩=some (.slice none 0 0):=by rw[sD wr _ 1 _ _ _ HI.out.res];rfl
     have d2:wr.cell? ⟨w.heap.size+1,2,none⟩=some (.slice none 0 0):=by rw[sD wr _ 2 _ _ _ HI.out.res];rfl
     have f0:=sE wr _ 0 _ _ HI.out.res;have f1:=sE wr _ 1 _ _ HI.out.res;have f2:=sE wr _ 2 _ _ HI.out.res;have HI2:=hid (show wr.cell? ⟨w.heap.size,2,none⟩=some (.slice ko i kc) from(HI.out.cells wr rfl rfl).2 2)
     have x2:=HI2.out;have lb:=HI.out.lp;go_wp2;obtain⟨w5,hw5⟩:∃w5,w5=((wr.setCell ⟨w.heap.size+1,0,none⟩ (.int .i64 op)).setCell ⟨w.heap.size+1,1,none⟩ (.slice (some ⟨g,0,none⟩) ln gc)).setCell ⟨w.heap.size+1,2,none⟩ (.slice vo i vc):=⟨_,rfl⟩;rw[<- hw5];have k5:di (w.heap.size+1) wr w5:=by rw[hw5];exact nl wr (w.heap.size+1) _ _ _
     have z5:w5.heap[w.heap.size+1]? =some (.cells #[.int .i64 op,.slice (some ⟨g,0,none⟩) ln gc,.slice vo i vc] 105 (0,0)):=by rw[hw5];exact sC HI.out.res
     have y0:w5.cell? ⟨w.heap.size+1,0,none⟩=some (.int .i64 op):=by rw[sD w5 _ 0 _ _ _ z5];rfl
     have y1:w5.cell? ⟨w.heap.size+1,1,none⟩=some (.slice (some ⟨g,0,none⟩) ln gc):=by rw[sD w5 _ 1 _ _ _ z5];rfl
     have y2:w5.cell? ⟨w.heap.size+1,2,none⟩=some (.slice vo i vc):=by rw[sD w5 _ 2 _ _ _ z5];rfl
     refine tr (v:=.agg #[.int .i64 op,.slice (some ⟨g,0,none⟩) ln gc,.slice vo i vc]) ?_ rfl ?_
     ·simp[results,Tryz.f146,go_sem,y0,y1,y2]
     ·exact⟨_,_,_,rfl,HI.out.done k5.size (fun b hb=>k5.block b hb) HLN.out hl9 hk9,HI.out.below.trans (k5.below (by omega))⟩
theorem zfC (kids:List ax):(ti kids.length).map (fun i=>oI (kids.getD i (.mk 0 [] [])))=kids.map oI:=by
 apply tw
 ·simp
 ·intro i h1 h2
  have h3:i<kids.length:=by simpa using h1
  simp only[tz,tj,kW h3]
theorem zfB (kids:List ax):(ti kids.length).map (fun i=>oI (kids.getD (kids.length - 1 - i) (.mk 0 [] [])))=(kids.map oI).reverse:=by
 apply tw
 ·simp
 ·intro i h1 h2
  have h3:i<kids.length:=by simpa using h1
  have h4:kids.length - 1 - i<kids.length:=by omega
  simp only[tz,tj,kW h4,List.getElem_reverse,tb]
theorem zcu:∀p:ax,∀(v0 v1 v2:sP) (w:sJ),cv w p v0 v1 v2->tJ Tryz.prog 146 #[.agg #[v0,v1,v2]] w (RvQ (oI p) w):=by
 refine ax.ind fun op cls kids ih v0 v1 v2 w hP=>?_
 unfold cv at hP;obtain⟨rfl,⟨lo,lc,rfl,hl1,hl2⟩,ko,kc,rfl,hk1,hk2,_⟩:=hP;have HK:=hid (zgm (Q:=fun p=>RvQ (oI p)) hk1 (fun p hp u0 u1 u2 W hW=>ih p hp u0 u1 u2 W hW))
 rw[zfy]
 by_cases o2:op=2
 ·have h:=qV true _ lo ko cls.length lc kids.length kc op (by rw[o2];rfl) cls (fun j=>oI (kids.getD j (.mk 0 [] []))) w (fun _=>rfl) nofun rfl hl2 hk2 hl1 HK
  rw[if_pos o2,<- zfB];exact h
 ·have h:=qV false _ lo ko cls.length lc kids.length kc op (beq_eq_false_iff_ne.2 o2) cls (fun j=>oI (kids.getD j (.mk 0 [] []))) w nofun (fun _=>rfl) rfl hl2 hk2 hl1 HK
  rw[if_neg o2,<- zfC];exact h
theorem zlV {op:Int} {cls:List Int} {n m:Nat} (h:OkN op cls n) (e:n=m):OkN op cls m:=e ▸ h
theorem zhF:∀ps:List ax,(∀p∈ps,jU p)->mX ps
 | [],_=>by unfold mX;trivial
 | p::ps,h=>by
  unfold mX;exact⟨h p (List.mem_cons_self ..),zhF ps fun q hq=>h q (List.mem_cons_of_mem _ hq)⟩
theorem zsM:∀p:ax,jU p->jU (oI p):=by
 refine ax.ind fun op cls kids ih hO=>?_
 unfold jU at hO;rw[zfy];unfold jU;refine⟨zlV hO.1 (by split<;>simp),zhF _ fun p hp=>?_⟩
 have hm:p∈kids.map oI:=by
  split at hp
  ·exact List.mem_reverse.1 hp
  ·exact hp
 obtain⟨q,hq,rfl⟩:=List.mem_map.1 hm;exact ih q hq (hO.2.mem hq)
theorem sw:∀ps:List ax,kC ps=(ps.map gh).sum
 | []=>rfl
 | p::ps=>by rw[kC,sw ps,List.map_cons,List.sum_cons]
theorem zsp:∀p:ax,gh (oI p)=gh p:=by
 refine ax.ind fun op cls kids ih=>?_
 rw[zfy];unfold gh;rw[sw,sw];have e:(kids.map oI).map gh=kids.map gh:=by
  rw[List.map_map];exact List.map_congr_left fun p hp=>ih p hp
 split
 ·rw[List.map_reverse,List.sum_reverse,e]
 ·rw[e]
theorem zah (p:ax) (hO:jU p) (hs:gh p<=2048) (v0 v1 v2:sP) (w:sJ) (hP:cv w p v0 v1 v2):tJ Tryz.prog 108 #[.agg #[v0,v1,v2]] w fun e w'=>∃u0 u1 u2,e= .returned (.agg #[u0,u1,u2])/\cv w' (oI p) u0 u1 u2/\sK w.heap.size w w':=by
 have HG:=hid (fun(W:sJ) (h:sK w.heap.size w W)=>fL p hO hs v0 v1 v2 W (cv.below h _ _ _ _ hP))
 have HR:=hid (fun(W:sJ) (h:sK w.heap.size w W)=>zcu p v0 v1 v2 W (cv.below h _ _ _ _ hP))
 clear hP;go_enter Tryz.func108,Tryz.ntmps108;go_wp2_with fail;obtain⟨w1,hw1⟩:∃w1,w1=(w.alloc (.cells #[v0,v1,v2] 105)).alloc (.cells #[.int .i64 0,.slice none 0 0,.slice none 0 0] 105):=⟨_,rfl⟩;have hb1:sK w.heap.size w w1:=by rw[hw1];exact((sM _ _).alloc (sR _) _).alloc (by simp) _
 have hN:w1.heap[w.heap.size]? =some (.cells #[v0,v1,v2] 105):=by rw[hw1];exact(sN _ _ _ (by simp)).trans (heap_alloc_new w _)
 have hN1:w1.heap[w.heap.size+1]? =some (.cells #[.int .i64 0,.slice none 0 0,.slice none 0 0] 105):=by
  have:=heap_alloc_new (w.alloc (.cells #[v0,v1,v2] 105)) (.cells #[.int .i64 0,.slice none 0 0,.slice none 0 0] 105);rw[tt] at this;rw[hw1];exact this
 rw[<- hw1];have HB1:=hid hb1;have HN:=hid hN;have HN1:=hid hN1;clear hw1 hb1 hN hN1;refine(HG.out w1 HB1.out).mono ?_;rintro e w2 ⟨rfl,hB2⟩;have hN2:=(hB2.block _ (ae HN.out)).trans HN.out;have HN2:=hid ((hB2.block _ (ae HN1.out)).trans HN1.out);have x0:w2.cell? ⟨w.heap.size,0,none⟩=some v0:=by rw[sD w2 _ 0 _ _ _ hN2];rfl
 have x1:w2.cell? ⟨w.heap.size,1,none⟩=some v1:=by rw[sD w2 _ 1 _ _ _ hN2];rfl
 have x2:w2.cell? ⟨w.heap.size,2,none⟩=some v2:=by rw[sD w2 _ 2 _ _ _ hN2];rfl
 have HB2:=hid (HB1.out.trans (hB2.mono HB1.out.size));clear hB2 hN2;go_wp2_with fail;refine(HR.out w2 HB2.out).mono ?_;rintro e w3 ⟨t0,t1,t2,rfl,hP3,hB3⟩;have HP3:=hid hP3;obtain⟨z0,zo,zn,zc,zk,zm,zp,rfl,rfl,rfl⟩:=hP3.shape;have HN3:=hid ((hB3.block _ (ae HN2.out)).trans HN2.out);have HB3:=hid (HB2.out.trans (hB3.mono HB2.out.size));have HS:=hid (ae HN2.out);have d0:w3.cell? ⟨w.heap.size+1,0,none⟩=some (.int .i64 0):=by rw[sD w3 _ 0 _ _ _ HN3.out];rfl
 have d1:w3.cell? ⟨w.heap.size+1,1,none⟩=some (.slice none 0 0):=by rw[sD w3 _ 1 _ _ _ HN3.out];rfl
 have d2:w3.cell? ⟨w.heap.size+1,2,none⟩=some (.slice none 0 0):=by rw[sD w3 _ 2 _ _ _ HN3.out];rfl
 have f0:=sE w3 _ 0 _ _ HN3.out;have f1:=sE w3 _ 1 _ _ HN3.out;have f2:=sE w3 _ 2 _ _ HN3.out;clear hB3 hP3 x0 x1 x2;go_wp2;obtain⟨w5,hw5⟩:∃w5,w5=((w3.setCell ⟨w.heap.size+1,0,none⟩ (.int .i64 z0)).setCell ⟨w.heap.size+1,1,none⟩ (.slice zo zn zc)).setCell ⟨w.heap.size+1,2,none⟩ (.slice zk zm zp):=⟨_,rfl⟩;rw[<- hw5];have k5:di (w.heap.size+1) w3 w5:=by rw[hw5];exact nl w3 (w.heap.size+1) _ _ _
 have z5:w5.heap[w.heap.size+1]? =some (.cells #[.int .i64 z0,.slice zo zn zc,.slice zk zm zp] 105 (0,0)):=by rw[hw5];exact sC HN3.out
 have y0:w5.cell? ⟨w.heap.size+1,0,none⟩=some (.int .i64 z0):=by rw[sD w5 _ 0 _ _ _ z5];rfl
 have y1:w5.cell? ⟨w.heap.size+1,1,none⟩=some (.slice zo zn zc):=by rw[sD w5 _ 1 _ _ _ z5];rfl
 have y2:w5.cell? ⟨w.heap.size+1,2,none⟩=some (.slice zk zm zp):=by rw[sD w5 _ 2 _ _ _ z5];rfl
 refine tr (v:=.agg #[.int .i64 z0,.slice zo zn zc,.slice zk zm zp]) ?_ rfl ?_
 ·simp[results,Tryz.f108,go_sem,y0,y1,y2]
 ·refine⟨_,_,_,rfl,dR.rd _ _ _ _ (dR.keep (X':=fun _=>False) ⟨by rw[k5.size];exact sR _,fun b _ hx=>k5.block b (fun e=>hx (by rw[e];exact HS.out)),fun _ _ h=>h.elim⟩ _ _ _ _ HP3.out),HB3.out.trans (k5.below (by omega))⟩
end Pt
end
section
open Go.RowKit
namespace Pt
structure Sd where
 L:List Int
 R:List Int
 noL:Bool
 noR:Bool
def zrv (r:Rl) (s:Sd):Prop:=dE (oI r.left) s.L/\dE r.right s.R/\(s.noL=false->Ful r.left)/\(s.noR=false->Ful r.right)
def Sd.may (s:Sd) (a b:Int):Bool:=(s.noL || kf s.L a)&&(s.noR || kf s.R b)
theorem zqp {r:Rl} {s:Sd} {c:List Int} {k:Nat} (h:zrv r s) (hk0:0<k) (hk:k<c.length) (hA:App r c k):s.may (c.getD (k - 1) 0) (c.getD k 0)=true:=by
 obtain⟨⟨i,hi,h1⟩,⟨j,hj,hjc,h2⟩,_,_⟩:=hA;obtain⟨o1,o2,o3,o4⟩:=h;unfold Sd.may;rw[Bool.and_eq_true,Bool.or_eq_true,Bool.or_eq_true]
 constructor
 ·rcases tk hi with e | e
  ·subst e
   cases hn:s.noL with
   | true=>exact .inl rfl
   | false=>exact absurd h1 (o3 hn c i)
  ·right
   have h3:=nM c r.left i k (Nat.le_of_lt hk) h1;obtain⟨z,h4,h5⟩:=o1 c.reverse (c.length - k) (c.length - i) h3 (by omega)
   rw[List.getElem?_reverse (by omega),show c.length - 1 - (c.length - k)=k - 1 by omega] at h4
   rw[sW,h4];exact(cI _ _).2 h5
 ·rcases tk hj with e | e
  ·subst e
   cases hn:s.noR with
   | true=>exact .inl rfl
   | false=>exact absurd h2 (o4 hn c k)
  ·right
   obtain⟨z,h4,h5⟩:=o2 c k j h2 e;rw[sW,h4];exact(cI _ _).2 h5
theorem rW (lo:Option Addr) (n lc:Nat) (l:List Int) (c:Int) (w:sJ) (hl:RdI w lo l) (hn:n=l.length) (hm:n<=2048000000):
  tJ Tryz.prog 110 #[.slice lo n lc,.int .i64 c] w fun e w'=>e= .returned (.bool (kf l c))/\w'=w:=by
 have HL:=hid hl;have HN:=hid hn;clear hl hn;go_enter Tryz.func110,Tryz.ntmps110;go_wp2;go_loopw [5] (fun y wr=>∃i:Nat,y= .int .i64 i/\i<=n/\wr=w/\Hid (∀z∈l.take i,z≠c)) (fun y _=>n - (tC y).toNat)
 case atStart=>exact⟨0,rfl,td _,rfl,hid (by simp)⟩
 case round=>
  obtain⟨i,rfl,hi,rfl,HT⟩:=hrel
  by_cases hlt:i<n
  ·have i0:(0:Int)<=(i:Int):=by omega
   have i1:(i:Int)<(n:Int):=by omega
   have hil:i<l.length:=by have:=HN.out;omega
   obtain⟨a,rfl,ha,c1⟩:=HL.out.at hil;obtain⟨z,hz⟩:∃z,z=l[i]:=⟨_,rfl⟩;rw[<- hz] at c1;have HZ:=hid hz;clear hz
   by_cases e:z=c
   ·subst e
    have b1:(z==z)=true:=by simp
    have HE:=hid (show kf l z=true from(cI l z).2 (by rw[HZ.out];exact tA _))
    go_wp2;go_ret;exact⟨by rw[HE.out];rfl,rfl⟩
   ·have b1:(z==c)=false:=by simpa using e
    have HE:=hid e;clear e;go_wp2;go_roundw
    case rel=>
     refine⟨i+1,by go_num,by omega,trivial,hid fun x hx=>?_⟩
     rw[List.take_succ_eq_append_getElem hil,List.mem_append] at hx
     rcases hx with hx | hx
     ·exact HT.out x hx
     ·rw[List.mem_singleton] at hx
      rw[hx,<- HZ.out];exact HE.out
    case measure=>simp[tC];omega
  ·have i1:¬(i:Int)<(n:Int):=by omega
   have HE:=hid (show kf l c=false from by
    cases h:kf l c with
    | false=>rfl
    | true=>exact absurd rfl (HT.out c (by rw[List.take_of_length_le (by have:=HN.out;omega)];exact(cI l c).1 h)))
   go_wp2;go_ret;exact⟨by rw[HE.out];rfl,rfl⟩
theorem zqq (s:Sd) (lo ro:Option Addr) (ln lc rn rc:Nat) (a b:Int) (w:sJ) (hL:RdI w lo s.L) (hR:RdI w ro s.R) (hln:ln=s.L.length) (hrn:rn=s.R.length) (hl9:ln<=2048000000) (hr9:rn<=2048000000):
  tJ Tryz.prog 75 #[.agg #[.slice lo ln lc,.slice ro rn rc,.bool s.noL,.bool s.noR],.int .i64 a,.int .i64 b] w fun e w'=>e= .returned (.bool (s.may a b))/\sK w.heap.size w w':=by
 have HA1:=hid (fun(W:sJ) (h:sK w.heap.size w W)=>rW lo ln lc s.L a W (hL.below h) hln hl9)
 have HA2:=hid (fun(W:sJ) (h:sK w.heap.size w W)=>rW ro rn rc s.R b W (hR.below h) hrn hr9)
 have HV:=hid (show s.may a b=((s.noL || kf s.L a)&&(s.noR || kf s.R b)) from rfl)
 obtain⟨p,hp⟩:∃p,p=s.noL:=⟨_,rfl⟩;obtain⟨q,hq⟩:∃q,q=s.noR:=⟨_,rfl⟩;obtain⟨x,hx⟩:∃x,x=kf s.L a:=⟨_,rfl⟩;obtain⟨y,hy⟩:∃y,y=kf s.R b:=⟨_,rfl⟩;rw[<- hp,<- hq,<- hx,<- hy] at HV;rw[<- hx] at HA1;rw[<- hy] at HA2;rw[<- hp,<- hq,HV.out];clear hL hR hln hrn hl9 hr9 HV hp hq hx hy;have HB:=hid (fun(o:Obj)=>below_box (w:=w) (o:=o))
 cases p with
 | true=>
  cases q with
  | true=>
   go_enter Tryz.func75,Tryz.ntmps75;go_wp2;go_ret;exact⟨rfl,HB.out _⟩
  | false=>
   go_enter Tryz.func75,Tryz.ntmps75;go_wp2_with fail;refine(HA2.out _ (HB.out _)).mono ?_;rintro e w2 ⟨rfl,rfl⟩
   cases y<;>(go_wp2;go_ret;exact⟨rfl,HB.out _⟩)
 | false=>
  go_enter Tryz.func75,Tryz.ntmps75;go_wp2_with fail;refine(HA1.out _ (HB.out _)).mono ?_;rintro e w2 ⟨rfl,rfl⟩
  cases x with
  | false=>
   go_wp2;go_ret;exact⟨rfl,HB.out _⟩
  | true=>
   cases q with
   | true=>
    go_wp2;go_ret;exact⟨rfl,HB.out _⟩
   | false=>
    go_wp2_with fail;refine(HA2.out _ (HB.out _)).mono ?_;rintro e w3 ⟨rfl,rfl⟩
    cases y<;>(go_wp2;go_ret;exact⟨rfl,HB.out _⟩)
end Pt
end
section
open Go.RowKit
namespace Pt
theorem Tryz.infoSide:(Tryz.prog.info? 101).map (fun i=>(i.zero,i.size,i.bytes))=some (some (.agg #[.slice none 0 0,.slice none 0 0,.bool false,.bool false]),4,56):=by kernel_rfl
theorem Tryz.underSides:Tryz.prog.underlying 98=some (.slice 101):=by kernel_rfl
def SdX (w:sJ) (X:Nat->Prop) (sds:List Sd) (xs:List sP):Prop:=∀(j:Nat) (s:Sd),sds[j]? =some s->∃lo lc ro rc,xs[j * 4]? =some (.slice lo s.L.length lc)/\xs[j * 4+1]? =some (.slice ro s.R.length rc)/\xs[j * 4+2]? =some (.bool s.noL)/\xs[j * 4+3]? =some (.bool s.noR)/\gU w X lo s.L/\gU w X ro s.R/\s.L.length<=2048000000/\s.R.length<=2048000000
theorem SdX.keep {w w':sJ} {X X':Nat->Prop} {sds:List Sd} {xs:List sP} (h:SdX w X sds xs) (hk:KpX w w' X X'):SdX w' X' sds xs:=fun j s hj=>by
 obtain⟨lo,lc,ro,rc,a0,a1,a2,a3,r1,r2,l1,l2⟩:=h j s hj;exact⟨lo,lc,ro,rc,a0,a1,a2,a3,r1.keep hk,r2.keep hk,l1,l2⟩
def zph (w:sJ) (vo:Option Addr) (sds:List Sd):Prop:=∀(j:Nat) (s:Sd),sds[j]? =some s->∃b lo lc ro rc,vo=some ⟨b,0,none⟩/\b<w.heap.size/\w.cell? ⟨b,j * 4,none⟩=some (.slice lo s.L.length lc)/\w.cell? ⟨b,j * 4+1,none⟩=some (.slice ro s.R.length rc)/\w.cell? ⟨b,j * 4+2,none⟩=some (.bool s.noL)/\w.cell? ⟨b,j * 4+3,none⟩=some (.bool s.noR)/\RdI w lo s.L/\RdI w ro s.R/\s.L.length<=2048000000/\s.R.length<=2048000000
theorem zph.below {w w':sJ} {vo:Option Addr} {sds:List Sd} (h:zph w vo sds) (hb:sK w.heap.size w w'):zph w' vo sds:=fun j s hj=>by
 obtain⟨b,lo,lc,ro,rc,h0,hl,a0,a1,a2,a3,r1,r2,l1,l2⟩:=h j s hj;have hc:∀k v,w.cell? ⟨b,k,none⟩=some v->w'.cell? ⟨b,k,none⟩=some v:=fun k v hk=>(hb.cell (p:=⟨b,k,none⟩) hl).trans hk
 exact⟨b,lo,lc,ro,rc,h0,sQ hl hb.size,hc _ _ a0,hc _ _ a1,hc _ _ a2,hc _ _ a3,r1.below hb,r2.below hb,l1,l2⟩
def SsQ (rs:List Rl) (w:sJ) (e:Ending) (w':sJ):Prop:=∃vo vc sds,e= .returned (.slice vo rs.length vc)/\sds.length=rs.length/\(∀(j:Nat) (r:Rl) (s:Sd),rs[j]? =some r->sds[j]? =some s->zrv r s)/\zph w' vo sds/\sK w.heap.size w w'
structure SdI (B:Nat) (rs:List Rl) (i:Nat) (vo:Option Addr) (vc:Nat) (sds:List Sd) (xs:List sP) (wr:sJ):Prop where
 own:wr.ownsRow B 101 4 (.slice vo i vc) i xs
 sd:SdX wr (fun b=>(sH vo i vc).ownBlock=some b) sds xs
 ln:sds.length=i
 ok:∀(j:Nat) (r:Rl) (s:Sd),rs[j]? =some r->sds[j]? =some s->zrv r s
theorem SdI.rd {B:Nat} {rs:List Rl} {i:Nat} {vo:Option Addr} {vc:Nat} {sds:List Sd} {xs:List sP} {wr:sJ} (h:SdI B rs i vo vc sds xs wr):zph wr vo sds:=fun j s hj=>by
 obtain⟨lo,lc,ro,rc,a0,a1,a2,a3,r1,r2,l1,l2⟩:=h.sd j s hj;have hjl:=(sO.1 hj).1;have hln:=h.ln
 rcases h.own.2 with ⟨_,e⟩ | ⟨g,cap,cur,k1,k2,k3,_⟩
 ·omega
 ·cases k1
  have hc:=(cZ h.own).2.2.2;exact⟨g,lo,lc,ro,rc,rfl,ae k3,hc _ _ a0,hc _ _ a1,hc _ _ a2,hc _ _ a3,r1.rd,r2.rd,l1,l2⟩
theorem SdI.below {B:Nat} {rs:List Rl} {i:Nat} {vo:Option Addr} {vc:Nat} {sds:List Sd} {xs:List sP} {wr w':sJ} (h:SdI B rs i vo vc sds xs wr) (hb:sK wr.heap.size wr w'):SdI B rs i vo vc sds xs w':=
 ⟨⟨h.own.1,h.own.2.imp (fun e=>e) fun⟨g,cap,cur,a1,a2,a3,a4⟩=>⟨g,cap,cur,a1,a2,(hb.block g (ae a3)).trans a3,a4⟩⟩,h.sd.keep ⟨hb.size,fun k hk _=>hb.block k hk,fun _ _ h=>h⟩,h.ln,h.ok⟩
theorem SdI.more {B:Nat} {rs:List Rl} {i:Nat} {vo:Option Addr} {vc:Nat} {sds:List Sd} {xs:List sP} {wr w5 w6:sJ} {r:Rl} {s:Sd} {lo ro:Option Addr} {lc rc g8 c8:Nat} (h:SdI B rs i vo vc sds xs wr) (hb:sK wr.heap.size wr w5) (hr:rs[i]? =some r) (hs:zrv r s)
  (rL:gU w5 (fun b=>b<wr.heap.size) lo s.L) (rR:gU w5 (fun b=>b<wr.heap.size) ro s.R) (hL9:s.L.length<=2048000000) (hR9:s.R.length<=2048000000)
  (o6:w6.ownsRow B 101 4 (.slice (some ⟨g8,0,none⟩) (i+1) c8) (i+1) (xs++[.slice lo s.L.length lc,.slice ro s.R.length rc,.bool s.noL,.bool s.noR])) (gr:tF w5 w6 (sH vo i vc).ownBlock) (hg8:(sH vo i vc).ownBlock=some g8\/g8=w5.heap.size):
  SdI B rs (i+1) (some ⟨g8,0,none⟩) c8 (sds++[s]) (xs++[.slice lo s.L.length lc,.slice ro s.R.length rc,.bool s.noL,.bool s.noR]) w6:=by
 have hxl:=h.own.1;have hln:=h.ln;have s5:=hb.size;have hoB:∀b,(sH vo i vc).ownBlock=some b->b<wr.heap.size:=fun b hb=>by
  rcases h.own.2 with ⟨k1,_⟩ | ⟨q',cap,cur,k1,_,k3,_⟩
  ·rw[k1] at hb;cases hb
  ·rw[k1] at hb
   cases hb
   exact ae k3
 have own8:∀b,(sH (some ⟨g8,0,none⟩) (i+1) c8).ownBlock=some b->b=g8:=fun b hb=>by
  have e:g8=b:=by simpa[sV] using hb
  exact e.symm
 have K1:KpX wr w6 (fun b=>(sH vo i vc).ownBlock=some b) (fun b=>(sH (some ⟨g8,0,none⟩) (i+1) c8).ownBlock=some b):=⟨by have:=gr.size;omega,fun b hb2 hx=>(gr.block b (by omega) (fun e=>hx e.symm)).trans (hb.block b hb2),fun b hb2 hx=>by
  have e:=own8 b hx;subst e
  rcases hg8 with h8 | h8
  ·exact h8
  ·omega⟩
 have K2:KpX w5 w6 (fun b=>b<wr.heap.size) (fun b=>(sH (some ⟨g8,0,none⟩) (i+1) c8).ownBlock=some b):=⟨gr.size,fun b hb2 hx=>gr.block b hb2 (fun e=>hx (hoB b e.symm)),fun b hb2 hx=>by
  have e:=own8 b hx;subst e
  rcases hg8 with h8 | h8
  ·exact hoB _ h8
  ·omega⟩
 refine⟨o6,fun j t hj=>?_,by rw[sX,hln];rfl,fun j r' s' hj hj2=>?_⟩
 ·by_cases e:j<i
  ·rw[sL (by omega)] at hj
   obtain⟨lo',lc',ro',rc',a0,a1,a2,a3,r1,r2,l1,l2⟩:=h.sd j t hj;refine⟨lo',lc',ro',rc',?_,?_,?_,?_,r1.keep K1,r2.keep K1,l1,l2⟩
   all_goals (rw[sL (by omega)];assumption)
  ·have hjl:=(sO.1 hj).1
   rw[sX,tc] at hjl;obtain rfl:j=i:=by omega
   rw[sG (by omega),hln,ta] at hj
   cases hj
   refine⟨lo,lc,ro,rc,?_,?_,?_,?_,rL.keep K2,rR.keep K2,hL9,hR9⟩
   ·rw[sG (by omega),hxl,ta];rfl
   ·rw[sG (by omega),hxl,show j * 4+1 - j * 4=1 by omega];rfl
   ·rw[sG (by omega),hxl,show j * 4+2 - j * 4=2 by omega];rfl
   ·rw[sG (by omega),hxl,show j * 4+3 - j * 4=3 by omega];rfl
 ·by_cases e:j<i
  ·rw[sL (by omega)] at hj2
   exact h.ok j r' s' hj hj2
  ·have hjl:=(sO.1 hj2).1
   rw[sX,tc] at hjl;obtain rfl:j=i:=by omega
   rw[sG (by omega),hln,ta] at hj2
   cases hj2
   rw[hr] at hj
   cases hj
   exact hs
theorem cv.shape {w:sJ}:∀{p:ax} {v0 v1 v2:sP},cv w p v0 v1 v2->∃(o:Int) (co:Option Addr) (cn cc:Nat) (ko:Option Addr) (kn kc:Nat),v0= .int .i64 o/\v1= .slice co cn cc/\v2= .slice ko kn kc
 | .mk op cls kids,v0,v1,v2,h=>by
  unfold cv at h;obtain⟨h1,⟨co,cc,h2,h3,h4⟩,ko,kc,h5,h6,h7⟩:=h;exact⟨op,co,_,cc,ko,_,kc,h1,h2,h5⟩
theorem gU.later {w w':sJ} {X Y:Nat->Prop} {ao:Option Addr} {l:List Int} (h:gU w X ao l) (hb:sK w.heap.size w w') (hX:∀b,Y b->X b):gU w' Y ao l:=h.keep ⟨hb.size,fun k hk _=>hb.block k hk,fun k _ hy=>hX k hy⟩
theorem zwh (w:sJ) (v:Array sP) (T:TypeId):∀j u,v.toList[j]? =some u->(w.alloc (.cells v T)).cell? ((⟨w.heap.size,0,none⟩:Addr).add j)=some u:=tf (cs:=v) (heap_alloc_new w _)
set_option maxRecDepth 100000 in
theorem qJ (rest:Bool) (rs:List Rl) (hrs:∀r∈rs,zgV r) (ro:Option Addr) (rn rc:Nat) (hrn:rn=rs.length) (hr9:rn<=1000) (w:sJ) (hR:zbF w ro rs):
  tJ Tryz.prog 74 #[.agg #[.slice ro rn rc,.bool rest]] w (SsQ rs w):=by
 have HR:=hid hR;have HRN:=hid hrn;clear hR hrn;go_enter Tryz.func74,Tryz.ntmps74;go_wp2;obtain⟨w1,hw1⟩:∃w1,w1=w.alloc (.cells #[.slice ro rn rc,.bool rest] 63):=⟨_,rfl⟩;have hb1:sK w.heap.size w w1:=by rw[hw1];exact below_box
 have x0:w1.cell? ⟨w.heap.size,0,none⟩=some (.slice ro rn rc):=by rw[hw1];simp[go_sem]
 have hs1:w.heap.size<w1.heap.size:=by rw[hw1];simp
 rw[<- hw1];have HB1:=hid hb1;have HX:=hid (fun(W:sJ) (h:sK w1.heap.size w1 W)=>show W.cell? ⟨w.heap.size,0,none⟩=some (.slice ro rn rc) from(h.cell (p:=⟨w.heap.size,0,none⟩) hs1).trans x0)
 clear hw1 hb1 x0;go_loopw [3,4] (fun x y wr=>∃(i:Nat) (vo:Option Addr) (vc:Nat) (sds:List Sd) (xs:List sP),x= .slice vo i vc/\y= .int .i64 i/\i<=rn/\Hid (SdI w1.heap.size rs i vo vc sds xs wr)/\Hid (sK w1.heap.size w1 wr)) (fun _ y _=>rn - (tC y).toNat)
 case atStart=>exact⟨0,none,0,[],[],rfl,rfl,td _,hid ⟨sY _ _ _ _,fun j s hj=>by simp at hj,rfl,fun j r s _ hj=>by simp at hj⟩,hid (sM _ _)⟩
 case round=>
  obtain⟨i,vo,vc,sds,xs,rfl,rfl,hi,HI,HB⟩:=hrel;have x0:=HX.out wr HB.out;have HBw:=hid (HB1.out.trans (HB.out.mono HB1.out.size))
  by_cases hlt:i<rn
  ·have i0:(0:Int)<=(i:Int):=by omega
   have i1:(i:Int)<(rn:Int):=by omega
   have hil:i<rs.length:=by have:=HRN.out;omega
   obtain⟨b,o,l0,l1,l2,r0,r1,r2,rfl,hb,a0,a1,a2,a3,a4,a5,a6,a7,a8,p1,p2⟩:=HR.out i rs[i] (sZ hil);obtain⟨e0,eo,en,ec,ek,em,ep,rfl,rfl,rfl⟩:=p1.shape;obtain⟨f0,fo,fn,fc,fk,fm,fp,rfl,rfl,rfl⟩:=p2.shape;have hcc:∀k v,w.cell? ⟨b,k,none⟩=some v->wr.cell? ⟨b,k,none⟩=some v:=fun k v hk=>(HBw.out.cell (p:=⟨b,k,none⟩) hb).trans hk
   have y0:=hcc _ _ a0;have y1:=hcc _ _ a1;have y2:=hcc _ _ a2;have y3:=hcc _ _ a3;have y4:=hcc _ _ a4;have y5:=hcc _ _ a5;have y6:=hcc _ _ a6;have y7:=hcc _ _ a7;have y8:=hcc _ _ a8;obtain⟨r,hr⟩:∃r,r=rs[i]:=⟨_,rfl⟩;have HRi:=hid (show rs[i]? =some r by rw[hr];exact sZ hil)
   have HOk:=hid (hrs r (by rw[hr];exact tA _))
   rw[<- hr] at y0 y1 y2 p1 p2;have HP1:=hid p1;have HP2:=hid p2;clear hcc a0 a1 a2 a3 a4 a5 a6 a7 a8 hb p1 p2 hr;go_wp2_with fail;obtain⟨wq,hwq⟩:∃wq,wq=wr.alloc (.cells #[.bool r.brk,.bool r.st,.bool r.en,.int .i64 e0,.slice eo en ec,.slice ek em ep,.int .i64 f0,.slice fo fn fc,.slice fk fm fp] 107):=⟨_,rfl⟩;have HBq:=hid (show sK wr.heap.size wr wq by rw[hwq];exact below_box)
   have HQ:=hid (show wq.heap[wr.heap.size]? =some (.cells #[.bool r.brk,.bool r.st,.bool r.en,.int .i64 e0,.slice eo en ec,.slice ek em ep,.int .i64 f0,.slice fo fn fc,.slice fk fm fp] 107) by rw[hwq];exact heap_alloc_new _ _)
   obtain⟨Q,hQ⟩:∃Q,Q=wr.heap.size:=⟨_,rfl⟩;have HQs:=hid hQ;rw[<- hwq];rw[<- hQ] at HQ⊢;clear hwq hQ;have HS:=hid (fun(W:sJ) (h:sK wq.heap.size wq W)=>show W.cell? ⟨Q,3,none⟩=some (.int .i64 e0)/\W.cell? ⟨Q,4,none⟩=some (.slice eo en ec)/\W.cell? ⟨Q,5,none⟩=some (.slice ek em ep)/\W.cell? ⟨Q,6,none⟩=some (.int .i64 f0)/\W.cell? ⟨Q,7,none⟩=some (.slice fo fn fc)/\W.cell? ⟨Q,8,none⟩=some (.slice fk fm fp) from by
    have h1:=(h.block _ (ae HQ.out)).trans HQ.out;exact⟨by rw[sD W Q 3 _ _ _ h1];rfl,by rw[sD W Q 4 _ _ _ h1];rfl,by rw[sD W Q 5 _ _ _ h1];rfl,by rw[sD W Q 6 _ _ _ h1];rfl,by rw[sD W Q 7 _ _ _ h1];rfl,by rw[sD W Q 8 _ _ _ h1];rfl⟩)
   have HBqw:=hid (HBw.out.trans (HBq.out.mono HBw.out.size));have HRv:=hid (fun(W:sJ) (h:sK wq.heap.size wq W)=>zah r.left HOk.out.1 HOk.out.2.2.1 _ _ _ W (cv.below (HBqw.out.trans (h.mono HBqw.out.size)) _ _ _ _ HP1.out))
   have HF2:=hid (fun(W:sJ) (h:sK wq.heap.size wq W)=>mT r.right HOk.out.2.1 HOk.out.2.2.2 _ _ _ W (cv.below (HBqw.out.trans (h.mono HBqw.out.size)) _ _ _ _ HP2.out))
   have HE1:=hid (fun(W:sJ) (h:sK wq.heap.size wq W)=>jk r.left HOk.out.1 HOk.out.2.2.1 _ _ _ W (cv.below (HBqw.out.trans (h.mono HBqw.out.size)) _ _ _ _ HP1.out))
   have HE2:=hid (fun(W:sJ) (h:sK wq.heap.size wq W)=>jk r.right HOk.out.2.1 HOk.out.2.2.2 _ _ _ W (cv.below (HBqw.out.trans (h.mono HBqw.out.size)) _ _ _ _ HP2.out))
   clear y0 y1 y2 y3 y4 y5 y6 y7 y8 x0;refine am [(0,true),(1,true),(2,true),(5,true),(6,true),(8,true),(9,true),(11,true),(12,true),(3,false),(4,false),(7,false),(10,false),(13,false),(14,false),(15,false),(16,false),(17,false)] (fun W=>W.cell? ⟨Q,3,none⟩=some (.int .i64 e0)/\W.cell? ⟨Q,4,none⟩=some (.slice eo en ec)/\W.cell? ⟨Q,5,none⟩=some (.slice ek em ep)/\W.cell? ⟨Q,6,none⟩=some (.int .i64 f0)/\W.cell? ⟨Q,7,none⟩=some (.slice fo fn fc)/\W.cell? ⟨Q,8,none⟩=some (.slice fk fm fp)) (fun _=>false) (by kernel_rfl) (by kernel_rfl) (fun j hj=>by cases hj) rfl (by kernel_rfl) (HS.out _ (show sK wq.heap.size wq wq.drew from(sM _ _).drew)) ?_
   iterate 9 (refine av ?_ rfl (by kernel_rfl) (fun w' hS=>?_) ?_;(rotate_left;(obtain⟨s3,s4,s5,s6,s7,s8⟩:=hS;go_simp;with_reducible rfl);rotate_left))
   have HBd:=hid (show sK wq.heap.size wq wq.drew from(sM _ _).drew)
   refine ar rfl (by kernel_rfl) fun KK hKK=>?_
   go_simp;refine(HRv.out wq.drew HBd.out).mono ?_;rintro e w2 ⟨t0,t1,t2,rfl,hP2,hB2⟩;have HB2:=hid (HBd.out.trans (hB2.mono HBd.out.size));have HF1:=hid (mT (oI r.left) (zsM _ HOk.out.1) (by rw[zsp];exact HOk.out.2.2.1) t0 t1 t2 w2 hP2)
   obtain⟨g0,go,gn,gc,gk,gm,gp,rfl,rfl,rfl⟩:=hP2.shape;clear hP2 hB2 HRv HBd;refine hKK _ _ (fun _=>HS.out _ HB2.out) ?_
   clear hKK;refine ar rfl (by kernel_rfl) fun KK hKK=>?_
   go_simp;refine HF1.out.mono ?_;rintro e w3 ⟨lo,lc,L,rfl,hI3,hF3,hL3,hB3⟩;have HB3:=hid (HB2.out.trans (hB3.mono HB2.out.size));have HI3:=hid (show gU w3 (fun b=>b<Q) lo L from hI3.later (sM _ _) fun b h=>by
    have h1:=HQs.out;have h2:=HBq.out.size;have h3:=HB2.out.size;have h4:b<Q:=h
    show b<w2.heap.size
    omega)
   have HF3:=hid hF3;have HL3:=hid hL3;clear hI3 hF3 hL3 hB3 HF1 HB2;obtain⟨n,hn⟩:∃n,n=L.length:=⟨_,rfl⟩;have HNL:=hid hn;rw[<- hn];clear hn;refine hKK _ _ (fun _=>HS.out _ HB3.out) ?_
   clear hKK;refine ar rfl (by kernel_rfl) fun KK hKK=>?_
   go_simp;refine(HF2.out w3 HB3.out).mono ?_;rintro e w4 ⟨so,sc,M,rfl,hI4,hF4,hL4,hB4⟩;have HI34:=hid (HI3.out.later hB4 fun b h=>h)
   have HB4:=hid (HB3.out.trans (hB4.mono HB3.out.size));have HI4:=hid (show gU w4 (fun b=>b<Q) so M from hI4.later (sM _ _) fun b h=>by
    have h1:=HQs.out;have h2:=HBq.out.size;have h3:=HB3.out.size;have h4:b<Q:=h
    show b<w3.heap.size
    omega)
   have HF4:=hid hF4;have HL4:=hid hL4;clear hI4 hF4 hL4 hB4 HI3 HB3 HF2;obtain⟨m,hm⟩:∃m,m=M.length:=⟨_,rfl⟩;have HML:=hid hm;rw[<- hm];clear hm;refine hKK _ _ (fun _=>HS.out _ HB4.out) ?_
   clear hKK;refine ar rfl (by kernel_rfl) fun KK hKK=>?_
   go_simp;refine(HE1.out w4 HB4.out).mono ?_;rintro e w5 ⟨b1,rfl,hb1,hB5⟩;have HI35:=hid (HI34.out.later hB5 fun b h=>h)
   have HI45:=hid (HI4.out.later hB5 fun b h=>h)
   have HB5:=hid (HB4.out.trans (hB5.mono HB4.out.size));have HV1:=hid hb1;clear hb1 hB5 HI34 HI4 HB4 HE1;refine hKK _ _ (fun _=>HS.out _ HB5.out) ?_
   clear hKK;refine ar rfl (by kernel_rfl) fun KK hKK=>?_
   go_simp;refine(HE2.out w5 HB5.out).mono ?_;rintro e w6 ⟨b2,rfl,hb2,hB6⟩;have HI36:=hid (HI35.out.later hB6 fun b h=>h)
   have HI46:=hid (HI45.out.later hB6 fun b h=>h)
   have HB6:=hid (HB5.out.trans (hB6.mono HB5.out.size));have HV2:=hid hb2;clear hb2 hB6 HI35 HI45 HB5 HE2;refine hKK _ _ (fun _=>HS.out _ HB6.out) ?_
   clear hKK;refine ar rfl (by kernel_rfl) fun KK hKK=>?_
   go_simp;refine hKK _ _ (fun _=>HS.out _ HB6.out) ?_
   clear hKK;refine ar rfl (by kernel_rfl) fun KK hKK=>?_
   go_simp;obtain⟨w7,hw7⟩:∃w7,w7=w6.alloc (.cells #[.slice lo n lc,.slice so m sc,.bool b1,.bool b2] 101):=⟨_,rfl⟩;rw[<- hw7];have HB67:=hid (show sK w6.heap.size w6 w7 by rw[hw7];exact below_box)
   have HN7:=hid (show ∀j u,[sH lo n lc,.slice so m sc,.bool b1,.bool b2][j]? =some u->w7.cell? ((⟨w6.heap.size,0,none⟩:Addr).add j)=some u by rw[hw7];exact zwh w6 _ _)
   clear hw7;have HB7:=hid (HB6.out.trans (HB67.out.mono HB6.out.size));have HI37:=hid (HI36.out.later HB67.out fun b h=>h)
   have HI47:=hid (HI46.out.later HB67.out fun b h=>h)
   refine hKK _ _ (fun _=>HS.out _ HB7.out) ?_
   clear hKK HI36 HI46 HB6;have HBr7:=hid (show sK wr.heap.size wr w7 from HBq.out.trans (HB7.out.mono HBq.out.size))
   have HO7:=hid (HI.out.below HBr7.out);obtain⟨iR,hiR,hz0,hz1,hz2⟩:=tE Tryz.infoSide;have HlB:=hid (show w1.heap.size<=w7.heap.size from sU HB.out.size HBr7.out.size)
   refine ar rfl (by kernel_rfl) fun KK hKK=>?_
   refine te _ _ _ 98 rfl w1.heap.size 101 iR (.agg #[.slice none 0 0,.slice none 0 0,.bool false,.bool false]) 4 56 Tryz.underSides hiR hz0 hz1 hz2 rfl (by decide) (.slice vo i vc) i xs rfl HO7.out.own ⟨w6.heap.size,0,none⟩ 1 1 [sH lo n lc,.slice so m sc,.bool b1,.bool b2] rfl rfl HN7.out (fun u hu=>by simp at hu;rcases hu with h | h | h | h<;>rw[h]<;>rfl) (by decide) (by unfold maxLen;omega) (by omega) HlB.out w7.heap.size rfl ?_
   intro g8 c8 w8 o8 gr8 hl8 hlt8;have HB8:=hid (show sK w1.heap.size w1 w8 from(HB.out.trans (HBr7.out.mono HB.out.size)).trans ⟨gr8.os,gr8.tape,gr8.output,gr8.size,fun k hk=>gr8.block k (by have:=HlB.out;omega) (fun e=>by
    rcases HO7.out.own.2 with ⟨k1,_⟩ | ⟨q',cap,cur,k1,k2,_⟩
    ·rw[k1] at e;cases e
    ·rw[k1] at e
     have e':k=q':=sT e;omega)⟩)
   have HM8:=hid (show SdI w1.heap.size rs (i+1) (some ⟨g8,0,none⟩) c8 (sds++[⟨L,M,b1,b2⟩]) (xs++[sH lo n lc,.slice so m sc,.bool b1,.bool b2]) w8 from by
    rw[HNL.out,HML.out] at o8⊢;exact HI.out.more (s:=⟨L,M,b1,b2⟩) HBr7.out HRi.out ⟨HF3.out,HF4.out,HV1.out,HV2.out⟩ (HI37.out.later (sM _ _) fun b h=>by rw[HQs.out];exact h) (HI47.out.later (sM _ _) fun b h=>by rw[HQs.out];exact h) HL3.out HL4.out o8 gr8 hl8)
   have HS8:=hid (show w8.cell? ⟨Q,3,none⟩=some (.int .i64 e0)/\w8.cell? ⟨Q,4,none⟩=some (.slice eo en ec)/\w8.cell? ⟨Q,5,none⟩=some (.slice ek em ep)/\w8.cell? ⟨Q,6,none⟩=some (.int .i64 f0)/\w8.cell? ⟨Q,7,none⟩=some (.slice fo fn fc)/\w8.cell? ⟨Q,8,none⟩=some (.slice fk fm fp) from by
    have h1:w8.heap[Q]? =w7.heap[Q]? :=gr8.block Q (by have:=ae HQ.out;have:=HB7.out.size;omega) (fun e=>by
     rcases HI.out.own.2 with ⟨k1,_⟩ | ⟨q',cap,cur,k1,_,k3,_⟩
     ·rw[k1] at e;cases e
     ·rw[k1] at e
      have e':Q=q':=sT e;have:=ae k3;have:=HQs.out;omega)
    obtain⟨a3,a4,a5,a6,a7,a8⟩:=HS.out w7 HB7.out;exact⟨(sI h1).trans a3,(sI h1).trans a4,(sI h1).trans a5,(sI h1).trans a6,(sI h1).trans a7,(sI h1).trans a8⟩)
   refine hKK _ _ (fun _=>HS8.out) ?_
   clear hKK o8 gr8 hl8 hlt8;refine ar rfl (by kernel_rfl) fun KK hKK=>?_
   go_simp;refine hKK _ _ (fun _=>HS8.out) ?_
   clear hKK;refine aQ (sS ?_);go_wp2;go_roundw
   case rel=>exact⟨i+1,_,_,_,_,rfl,by go_num,by omega,HM8,HB8⟩
   case measure=>simp[tC];omega
  ·have i1:¬(i:Int)<(rn:Int):=by omega
   have HQ:=hid (show SsQ rs w (.returned (.slice vo i vc)) wr from⟨vo,vc,sds,by rw[show i=rs.length by have:=HRN.out;omega],by rw[HI.out.ln];have:=HRN.out;omega,HI.out.ok,HI.out.rd,HBw.out⟩)
   go_wp2;go_ret;exact HQ.out
end Pt
end
end Go.Proofs.YtbbapnpdfcgjnaaGreatDoor
