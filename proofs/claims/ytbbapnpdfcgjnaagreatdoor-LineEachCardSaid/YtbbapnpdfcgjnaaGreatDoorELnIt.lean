/- LnIt: parts of the proof, joined. -/
import Derived.Test.YtbbapnpdfcgjnaaGreatDoorELnEach
import Derived.Test.YtbbapnpdfcgjnaaGreatDoorERngO
open Go.World renaming putObj_heap_other->sR
open List renaming cons_append->sS, append_toArray->sY, size_toArray->ta, push_toArray->tc, length_cons->tf, length_nil->tk, nil_append->tn
open Go renaming World->sT, Boxed->sU, callsIn_wide->td, results_none->te, KeepsFrom->tg, run_takeDeferred->ti
open Nat renaming le_refl->sV
open Go.Fence renaming wide->sW
set_option maxHeartbeats 64000000
namespace Go.Proofs.YtbbapnpdfcgjnaaGreatDoor
namespace Ln
open Go.RowKit Go.Shelf
attribute [local go_sem] Oper.semAt_some
def kt(t:Nat):Bool:= !(t==3)
structure Kt(X Y:sT):Prop where
 size:X.heap.size<=Y.heap.size
 low:∀k,k<2->Y.heap[k]?=X.heap[k]?
 cells:∀(k:Nat)(c:Array Value)(t:Nat)(fz:Nat×Nat),X.heap[k]?=some (.cells c t fz)->kt t=true->Y.heap[k]?=some (.cells c t fz)
theorem zkN{A B C:sT}(h:Kt A B)(k:Kt B C):Kt A C:=
 ⟨Nat.le_trans h.size k.size,fun i hi=>(k.low i hi).trans (h.low i hi),fun i c t fz h1 h2=>k.cells i c t fz (h.cells i c t fz h1 h2) h2⟩
theorem zrK{w:sT}(hw:2<=w.heap.size)(W:sT)(l:Nat)(o o':Obj)(hl:w.heap.size<=l)(h:W.heap[l]?=some o)(hc:o.isCells=false)(_:o.isWalk=false):Kt W (W.putObj l o'):=
 ⟨by simp,fun k hk=>sR (by omega),fun k c t fz h1 _=>(sR (fun e=>by subst e;rw[h]at h1;cases h1;cases hc)).trans h1⟩
theorem Kt.refl(X:sT):Kt X X:=⟨sV _,fun _ _=>rfl,fun _ _ _ _ h _=>h⟩
theorem Kt.below{X Y:sT}(h:Below X.heap.size X Y)(h2:2<=X.heap.size):Kt X Y:=
 ⟨h.size,fun k hk=>h.block k (by omega),fun k c t fz h1 _=>(h.block k (Array.getElem?_eq_some_iff.1 h1).1).trans h1⟩
theorem eZ.kt{Bs:Nat}{l:List UInt8}{X Y:sT}(h:eZ Bs l X)(k:Kt X Y):eZ Bs l Y:=h.keeps k.size fun i hi=>by
 rcases hi with rfl|hi
 ·have h1:=h.bs
  unfold sU at h1;rw[h1];exact k.cells _ _ _ _ h1 rfl
 ·exact k.low i hi
theorem zvO{β:Type}(B Bs:Nat)(l:List UInt8)(hB:2<=B):OwnFrom B (fun(_:β) W=>eZ Bs l W):=fun _ A C row h hg hr=>by
 refine h.keeps hg.size fun k hk=>hg.block k (h.lt k hk) fun e=>?_
 obtain⟨hle,o,ho,hc⟩:=hr k e.symm
 rcases hk with rfl|hk
 ·have:=h.bs;unfold sU at this;rw[this]at ho;cases ho;cases hc
 ·omega
theorem Kt.set{W:sT}{B:Nat}{v0:Value}(h:sU W B 3 v0)(h2:2<=B)(v:Value):Kt W (W.setCell ⟨B,0,none⟩ v):=
 ⟨(KeepsWalks.setCell W _ v).size,fun k hk=>Below.heap_setCell _ _ _ k (by show k≠B;omega),fun k c' t' fz h1 h3=>by
  refine(Below.heap_setCell _ _ _ k (fun e=>?_)).trans h1
  have e':k=B:=e;subst e';unfold sU at h;rw[h]at h1
  cases h1
  cases h3⟩
structure Kn(N:Nat)(X Y:sT):Prop where
 kt:Kt X Y
 rng:∀k,N<=k->k<X.heap.size->Y.heap[k]?=X.heap[k]?
theorem zxW(N:Nat){A B C:sT}(h:Kn N A B)(k:Kn N B C):Kn N A C:=⟨zkN h.kt k.kt,fun i h1 h2=>(k.rng i h1 (Nat.lt_of_lt_of_le h2 h.kt.size)).trans (h.rng i h1 h2)⟩
theorem zxX{w:sT}(hw:2<=w.heap.size)(W:sT)(l:Nat)(o o':Obj)(hl:w.heap.size<=l)(h:W.heap[l]?=some o)(hc:o.isCells=false)(hk:o.isWalk=false):Kn (l+1) W (W.putObj l o'):=
 ⟨zrK hw W l o o' hl h hc hk,fun k h1 _=>sR (by omega)⟩
theorem Kn.refl(N:Nat)(X:sT):Kn N X X:=⟨Kt.refl X,fun _ _ _=>rfl⟩
def jd:Int->List (Int×Bool)->List (Int×Int)
 |_,[]=>[]
 |f,x::C=>if x.2=true then (f,x.1)::jd x.1 C else jd f C
def lsM:Int->List (Int×Bool)->Int
 |f,[]=>f
 |f,x::C=>if x.2=true then lsM x.1 C else lsM f C
theorem kX:∀(A B:List (Int×Bool))(f:Int),jd f (A++B)=jd f A++jd (lsM f A) B
 |[],_,_=>rfl
 |x::A,B,f=>by
  rw[sS,jd,jd,lsM]
  split
  ·rw[kX A B x.1];rfl
  ·exact kX A B f
theorem nZ:∀(A B:List (Int×Bool))(f:Int),lsM f (A++B)=lsM (lsM f A) B
 |[],_,_=>rfl
 |x::A,B,f=>by
  rw[sS,lsM,lsM]
  split
  ·exact nZ A B x.1
  ·exact nZ A B f
def zoy(x:Int×Int):Array Value:=#[.int .i64 x.1,.int .i64 x.2]
theorem zfu{m m' lp l:Nat}{f:FuncId}{tmps:Array Value}{assign body:Code}{w:sT}{R:Ending->sT->Prop}(h:RoundIn sW m Tryz.prog l f tmps assign body w R):RoundIn (sW.inRound lp) m' Tryz.prog l f tmps assign body w R:=
 ⟨trivial,fun c cs _=>h.2 c cs (room_wide _)⟩
theorem zaR(n:Nat)(hn:1<=n)(Bs:Nat)(l:List UInt8)(w:sT)(hR:eZ Bs l w)(hl:l.length<=1000000000):
  zkM sW n Tryz.prog 65 #[.pointer (some ⟨Bs,0,none⟩)] zoz (fun _=>Kt) (fun xs=>xs=oz l 0) (fun pre=>pre<+:oz l 0) w:=fun lp J Jx W hbW hJ hJx hY h0=>by
 have HRW:=aa (hR.below hbW);have hcW:=HRW.o.bs.cell;clear hR hbW;refine callsIn_of_wp Tryz.func65 rfl trivial ?_ rfl
 simp only[Tryz.ntmps65,ta,tf,tk,Nat.reduceAdd,Nat.reduceSub,Array.replicate_succ,Array.replicate_zero,tc,sY,tn,sS]
 gi_wp2;gi_loopw [3] (fun v wr=>∃(p:Nat)(pre:List (Int×Bool)),v=.int .i64 p/\p<=l.length/\ae (oz l 0=pre++oz l p)/\ae (J pre wr)/\ae (eZ Bs l wr)) (fun v _=>l.length-(intOf v).toNat)
 case atStart=>exact⟨0,[],rfl,Nat.zero_le _,by simp[ae],h0,HRW⟩
 case round=>
  obtain⟨p,pre,rfl,hp,HP,HJ,HR⟩:=hrel;clear hcW;have hc:=HR.o.bs.cell
  by_cases hlt:p<l.length
  ·have hlti:(p:Int)<(l.length:Int):=by omega
   obtain⟨hb1,hb2⟩:=zfG l p hlt;have HST:=aa (zeX l p hlt);gi_wp2_with fail;refine⟨trivial,(td.2 (zfF l p p wr HR.o.tb hl hp (sV _))).mono ?_⟩;rintro e w1 ⟨rfl,be1⟩;have HJ1:=aa (hJ pre wr w1 none HJ.o (grown_below be1) (fun r e=>by cases e))
   have HR1:=aa (HR.o.below be1);obtain⟨q,hq⟩:=am (onw l p p);rw[<- hq]at hb1 hb2 HST;rw[<- hq];clear be1 hq HJ HR hc;have hc1:=HR1.o.bs.cell;gi_wp2_with fail;refine⟨trivial,(td.2 (zgq l q w1 HR1.o.tb hl hb2)).mono ?_⟩;rintro e w2 ⟨rfl,be2⟩;have HJ2:=aa (hJ pre w1 w2 none HJ1.o (grown_below be2) (fun r e=>by cases e))
   have HR2:=aa (HR1.o.below be2);obtain⟨m,hm⟩:=am (eU l q);rw[<- hm]at HST;rw[<- hm];clear be2 hm HJ1 HR1 hc1;have HP2:ae (oz l 0=(pre++[((q:Int),m)])++oz l q):=aa (by rw[HP.o,HST.o,List.append_assoc];rfl)
   obtain⟨fn,tmps,assign,body,hy,hRR⟩:=hY pre ((q:Int),m) w2 HJ2.o ⟨oz l q,HP2.o.symm⟩
   dsimp only[zoz]at hy
   clear HST hY;gi_wp2;refine hRR.mono ?_;rintro e W3 ⟨_,(⟨rfl,hJ3,hk3⟩|⟨rfl,hJx3⟩)⟩
   ·have HJ3:=aa hJ3
    have HR3:=aa (HR2.o.kt hk3);clear hJ3 hk3;gi_wp2;go_roundw
    case rel=>exact⟨q,pre++[((q:Int),m)],rfl,hb2,HP2,HJ3,HR3⟩
    case measure=>simp[intOf];omega
   ·have HJX:=aa hJx3
    clear hJx3;gi_wp2;refine bodyPost_ret (te rfl _ _ _) rfl ?_;exact⟨⟨_,rfl⟩,.inr ⟨pre++[((q:Int),m)],⟨oz l q,by rw[HP2.o]⟩,HJX.o⟩⟩
  ·have hlti:¬(p:Int)<(l.length:Int):=by omega
   have HE:ae (oz l 0=pre):=aa (by rw[HP.o,zbr l p hlt,List.append_nil])
   gi_wp2;go_end0;exact⟨⟨_,rfl⟩,.inl (by rw[HE.o];exact HJ.o)⟩
theorem znA(l:List UInt8)(w:sT):
  Calls Tryz.prog 41 #[.string ⟨l.toArray⟩] w fun e w'=>e=.returned (.func (.func 66) #[] #[.pointer (some ⟨w.heap.size,0,none⟩)])/\w'=w.alloc (.cells #[.string ⟨l.toArray⟩] 9):=by
 go_enter Tryz.func41,Tryz.ntmps41;go_wp2;go_ret;exact⟨rfl,rfl⟩
set_option maxRecDepth 100000 in
theorem zhS(n Bs:Nat)(l:List UInt8)(w:sT)(hn:4<=n)(hR:eZ Bs l w)(hl:l.length<=1000000):
  zkL sW n Tryz.prog 66 #[.pointer (some ⟨Bs,0,none⟩)] zoy Kn (fun xs=>xs=jd 0 (oz l 0)) (fun pre=>pre<+:jd 0 (oz l 0)) w:=fun lp J Jx W hbW hJ hJx hY h0=>by
 have HRW:=aa (hR.below hbW);have h2:=HRW.o.tb.two;have hBW:=HRW.o.bs.lt;clear hR hbW;have hn1:1<=n:=by omega
 obtain⟨W3,hW3⟩:=am ((W.alloc (.cells #[.func (.yield lp) #[] #[]] 69)).alloc (.cells #[.int .i64 0] 3));have hB3:Below W.heap.size W W3:=by rw[hW3];exact((Below.refl _ _).alloc (sV _) _).alloc (by simp) _
 have HR3:=aa (HRW.o.below hB3);have hs3:W3.heap.size=W.heap.size+2:=by rw[hW3];simp
 have b0:sU W3 W.heap.size 69 (.func (.yield lp) #[] #[]):=by rw[hW3];exact(sU.new W _ _).alloc _
 have b1:sU W3 (W.heap.size+1) 3 (.int .i64 0):=by
  have:=sU.new (W.alloc (.cells #[.func (.yield lp) #[] #[]] 69)) 3 (.int .i64 0);rw[sT.size_alloc]at this;rw[hW3];exact this
 have hc:=HR3.o.bs.cell;rw[hW3]at hc;refine callsIn_of_wp_marks Tryz.func66 rfl trivial ?_ rfl
 simp only[Tryz.ntmps66,ta,tf,tk,Nat.reduceAdd,Nat.reduceSub,Array.replicate_succ,Array.replicate_zero,tc,sY,tn,sS]
 gi_wp2_with fail;rw[<- hW3];refine⟨trivial,(td.2 (rO l W3)).mono ?_⟩;rintro e w' ⟨rfl,rfl⟩;clear hc hW3;have hB4:Below W3.heap.size W3 (W3.alloc (.cells #[.string ⟨l.toArray⟩] 9)):=(Below.refl _ _).alloc (sV _) _;have b3:=sU.new W3 9 (.string ⟨l.toArray⟩);obtain⟨w4,hw4⟩:=am (W3.alloc (.cells #[.string ⟨l.toArray⟩] 9));have hs4:w4.heap.size=W.heap.size+3:=by rw[hw4];simp;omega
 rw[<- hw4]at hB4 b3⊢;rw[hs3]at b3⊢;clear hw4;obtain⟨A,hA⟩:=am W.heap.size;have HJ4:ae (J [] w4):=aa (hJ [] W _ none h0 (grown_below (hB3.trans (hB4.mono (by omega)))) (fun r e=>by cases e))
 have d0:sU w4 W.heap.size 69 (.func (.yield lp) #[] #[]):=(hB4.block _ b0.lt).trans b0;have d1:sU w4 (W.heap.size+1) 3 (.int .i64 0):=(hB4.block _ b1.lt).trans b1;have HWA:ae (eZ (W.heap.size+2) l w4):=aa ⟨b3,(HR3.o.below hB4).tb⟩;rw[<- hA]at d0 d1 hs4 h2 hBW HWA⊢;have HD:=aa (And.intro d0 d1);have HJo:ae (br A J):=aa (by rw[hA];exact hJ)
 have HJx:ae (br A Jx):=aa (by rw[hA];exact hJx)
 have HY:ae (∀pre x W1,J pre W1->pre++[x]<+:jd 0 (oz l 0)->YieldAt sW (n-1) Tryz.prog lp (zoy x) W1 fun e W'=>tg A W1 W'/\((e=.returned (.bool true)/\J (pre++[x]) W'/\Kn A W1 W')\/(e=.returned (.bool false)/\Jx (pre++[x]) W'))):=aa (by rw[hA];exact hY)
 clear b0 b1 b3 d0 d1 hB3 hB4 hs3 HR3 h0 hA hY hJ hJx;gi_wp2;refine zlO rfl hn1 rfl trivial (enters_of Tryz.func65 (by kernel_rfl) rfl) (zaR (n-1) (by omega) (A+2) l w4 HWA.o (by omega)) (fun _=>zkN) (zrK (by omega)) (Below.refl _ _) (fun _=>rfl)
  (fun pre V=>((J (jd 0 pre) V/\eZ (A+2) l V)/\sU V A 69 (.func (.yield lp) #[] #[]))/\sU V (A+1) 3 (.int .i64 (lsM 0 pre)))
  (fun c pre V=>c=.ret/\∃ls,ls<+:jd 0 (oz l 0)/\Jx ls V) ?own ?ownx
  ⟨⟨⟨HJ4.o,HWA.o⟩,HD.o.1⟩,HD.o.2⟩
  (fun x a' _=>a'={tmps:=#[.func (.yield lp) #[] #[],.pointer (some ⟨Bs,0,none⟩),.pointer (some ⟨A,0,none⟩),.pointer (some ⟨A+1,0,none⟩),.int .i64 x.1,.bool x.2,.string ⟨l.toArray⟩,.func (.func 65) #[] #[.pointer (some ⟨A+2,0,none⟩)],.int .i64 x.1,.bool x.2,undef,undef,undef,undef,undef,undef,undef,undef],defers:=[]})
  (fun _ _ _ _ _ _ h _ _=>h) ?assign ?body ?done ?stop
 case own=>exact OwnFrom.and (OwnFrom.and (OwnFrom.and (fun s P C row h hg hr=>kd HJo.o.from (by omega) (jd 0 s) P C row h hg hr) (zvO _ _ l (by omega))) (Own.from (boxed_own _ _ _) _)) (Own.from (boxed_own (A+1) 3 (fun s:List (Int×Bool)=>.int .i64 (lsM 0 s))) _)
 case ownx=>
  rintro c pre P C row ⟨e,ls,k0,k1⟩ hg hr;exact⟨e,ls,k0,kd HJx.o.from (by omega) _ P C row k1 hg hr⟩
 case assign=>
  intro lp2 pre x V K _ hI hK
  dsimp only[zoz]
  gi_wp2;exact hK _ _ (tg.refl _ _) (Kt.refl _) hI rfl
 case body=>
  rintro lp2 pre ⟨xa,xm⟩ a' V hlp _ ⟨⟨⟨kj,ke⟩,k0⟩,k1⟩ rfl hsp;have c0:=k0.cell;have c1:=k1.cell;have HI:=aa (And.intro ke (And.intro k0 k1));have HJV:=aa kj;have HSP:=aa hsp;clear ke k0 k1 kj hsp
  cases xm with
  |false=>
   have HQ:=aa (show tg w4.heap.size V V/\Kt V V/\((J (jd 0 (pre++[(xa,false)])) V/\eZ (A+2) l V)/\sU V A 69 (.func (.yield lp) #[] #[]))/\sU V (A+1) 3 (.int .i64 (lsM 0 (pre++[(xa,false)])))from
    ⟨tg.refl _ _,Kt.refl _,⟨⟨by rw[kX];simpa[jd]using HJV.o,HI.o.1⟩,HI.o.2.1⟩,by rw[nZ];simpa[lsM]using HI.o.2.2⟩)
   gi_wp2;exact HQ.o
  |true=>
   have HF1:ae (jd 0 (pre++[(xa,true)])=jd 0 pre++[(lsM 0 pre,xa)]):=aa (by rw[kX];rfl)
   have HM1:ae (lsM 0 (pre++[(xa,true)])=xa):=aa (by rw[nZ];rfl)
   have HPX:=aa (show jd 0 pre++[(lsM 0 pre,xa)]<+:jd 0 (oz l 0) by
    obtain⟨R,hR⟩:=HSP.o;rw[<- hR,kX,HF1.o];exact⟨_,rfl⟩)
   obtain⟨fm,hfm⟩:=am (lsM 0 pre);obtain⟨fn,tmps,assign,body,hy,hRR⟩:=HY.o (jd 0 pre) (lsM 0 pre,xa) V HJV.o HPX.o
   dsimp only[zoy]at hy
   rw[<- hfm]at hy c1 HI hRR HF1 HPX;clear hfm;gi_wp2;refine⟨fun _=>by omega,(zfu hRR).mono ?_⟩
   rintro e V3 ⟨hkf,(⟨rfl,hJ3,hk3⟩|⟨rfl,hJx3⟩)⟩
   ·have e0:sU V3 A 69 (.func (.yield lp) #[] #[]):=(hk3.rng A (sV _) HI.o.2.1.lt).trans HI.o.2.1
    have e1:sU V3 (A+1) 3 (.int .i64 fm):=(hk3.rng (A+1) (Nat.le_succ _) HI.o.2.2.lt).trans HI.o.2.2;have c3:=e1.cell;have f3:=e1.frozen;have hA4:A+1<w4.heap.size:=by omega
    have HQ:ae (tg w4.heap.size V (V3.setCell ⟨A+1,0,none⟩ (.int .i64 xa))/\Kt V (V3.setCell ⟨A+1,0,none⟩ (.int .i64 xa))/\((J (jd 0 (pre++[(xa,true)])) (V3.setCell ⟨A+1,0,none⟩ (.int .i64 xa))/\eZ (A+2) l (V3.setCell ⟨A+1,0,none⟩ (.int .i64 xa)))/\sU (V3.setCell ⟨A+1,0,none⟩ (.int .i64 xa)) A 69 (.func (.yield lp) #[] #[]))/\sU (V3.setCell ⟨A+1,0,none⟩ (.int .i64 xa)) (A+1) 3 (.int .i64 (lsM 0 (pre++[(xa,true)])))):=aa (by
     have q7:=Kt.set e1 (by omega) (.int .i64 xa)
     refine⟨(fP hkf (by omega)).trans (tg.of_grownBy (grownBy_setCell' _ _ _) (fun r e=>by cases e;omega)),zkN hk3.kt q7,⟨⟨?_,(HI.o.1.kt hk3.kt).kt q7⟩,e0.other (by omega) _⟩,by rw[HM1.o];exact e1.set _⟩
     rw[HF1.o];exact HJo.o.setCell _ hJ3 (by omega))
    clear hkf hJ3 hk3 e0 e1;gi_wp2;exact HQ.o
   ·have HQ:ae (tg w4.heap.size V V3/\∃ls,ls<+:jd 0 (oz l 0)/\Jx ls V3):=aa ⟨fP hkf (by omega),_,HPX.o,hJx3⟩
    clear hkf hJx3;gi_wp2;exact⟨HQ.o.1,rfl,HQ.o.2⟩
 case done=>
  rintro D xs V hD rfl ⟨⟨⟨hj,_⟩,_⟩,_⟩ hK;gi_wp2;refine⟨by simp,.inl ⟨_,_,rfl,ti hK,?_⟩⟩
  exact⟨_,te rfl _ _ _,⟨_,rfl⟩,.inl ⟨_,rfl,HJo.o.putObj _ hj (by omega) hK rfl⟩⟩
 case stop=>
  rintro D c pre V hD hp ⟨rfl,ls,hls,hj⟩ hK;gi_wp2;refine⟨by simp,.inl ⟨_,_,rfl,ti hK,?_⟩⟩
  exact⟨_,te rfl _ _ _,⟨_,rfl⟩,.inr ⟨ls,hls,HJx.o.putObj _ hj (by omega) hK rfl⟩⟩
end Ln
end Go.Proofs.YtbbapnpdfcgjnaaGreatDoor
