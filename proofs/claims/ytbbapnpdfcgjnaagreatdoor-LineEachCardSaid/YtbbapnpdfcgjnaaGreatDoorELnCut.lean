/- LnCut, LnCh: parts of the proof, joined. -/
import Derived.Test.YtbbapnpdfcgjnaaGreatDoorEStBd
import Derived.Test.YtbbapnpdfcgjnaaGreatDoorELnNm
import Derived.Test.YtbbapnpdfcgjnaaGreatDoorELnEdge
open Go.RowKit renaming Below->sR, intOf->tg
open List renaming length_append->sS, getElem?_eq_some_iff->ta, all_eq_true->te, getElem_mem->tf, mem_range->ti, mem_map->tj
open Nat renaming le_trans->sT, le_refl->sZ
open Go.Value renaming int->sU
open Go.RowKit.Below renaming refl->sV, drew->tc
open Go renaming wp_append_lies->sW, info_parts->td, maxLen->tk
open Go.NoPanic renaming normal->sX
open Bool renaming false_or->sY
set_option maxHeartbeats 64000000
namespace Go.Proofs.YtbbapnpdfcgjnaaGreatDoor
namespace Ln
open Go.RowKit Wt
theorem zal:∀(n:Nat)(l:List UInt8),l.length<=n->∀x∈rl l,x.1<=1114111
 |n,l,hn,x,hx=>by
  by_cases hl:l=[]
  ·rw[hl,ik]at hx;cases hx
  ·have h1:=dec_ge l hl
   have hp:0<l.length:=List.length_pos_iff.2 hl;rw[cK l hl]at hx
   rcases List.mem_cons.1 hx with rfl|hx
   ·exact dec_rune l hl
   ·cases n with
    |zero=>omega
    |succ n=>exact zal n _ (by rw[List.length_drop];omega) x hx
theorem zhR:Dc.lnU.length=26:=by decide
theorem zod(l:List UInt8):Li.Cls (fl l):=fun c hc=>by
 unfold fl at hc;obtain⟨x,hx,rfl⟩:=tj.1 hc;have h:=zal _ l (sZ _) x hx;have h2:=Dc.zgr Dc.lnW _ Dc.zaM Dc.zaN (x.1:Int) (by omega) (by omega)
 rw[Dc.zfZ (x.1:Int) (by omega) (by omega)]
 rw[zhR]at h2;exact⟨by omega,by omega⟩
theorem zwx:∀r∈Pt.qD,Pt.zgV r:=Pt.zjm (by decide+kernel)
theorem ztp(l:List UInt8):Pt.lH Dc.lnW l=fl l:=by
 unfold Pt.lH Pt.dcl fl;rw[List.map_map]
 apply List.map_congr_left
 intro x hx;have h:=zal _ l (sZ _) x hx
 show((Dc.gtp (Dc.cj (x.1:Int)) Dc.lnW:Nat):Int)=bJ (x.1:Int)
 rw[show Dc.cj (x.1:Int)=(x.1:Int) by unfold Dc.cj;rw[if_neg (by omega)],Dc.zfZ _ (by omega) (by omega)]
theorem zrX(l:List UInt8):Pt.zrv Dc.lnW Pt.qD true l=lbs l:=by
 unfold Pt.zrv lbs
 by_cases h:l=[]
 ·rw[if_pos h,if_pos h]
 rw[if_neg h,if_neg h,ztp];have hne:fl l≠ []:=fun e=>by rw[zil l h]at e;cases e
 unfold Pt.kC lbd lpF;refine Sg.zij ?_ ?_ (fun k h0 hk=>?_) l
 ·unfold Pt.zeR;rw[if_neg hne,if_pos (.inl rfl)]
 ·unfold Pt.zeR;rw[if_neg hne,if_pos (.inr (zgv l).symm)]
 ·have hk':k<(fl l).length:=by rw[zgv];exact hk
  unfold Pt.zeR;rw[if_neg hne,if_neg (by omega),Li.ztq (zod l) h0 hk']
  rfl
theorem ztr:Dc.fa Dc.lnU=Pt.aj:=by rfl
theorem zgj(c:Nat)(hc:c<26)(k:Nat)(hk:k<26)(h:c≠k)(b:List UInt8)(hb:Dc.lnN (k:Int)=b):(Dc.lnN (c:Int)==b)=false:=by
 rw[<- hb];have H:((List.range 26).all fun x=>(List.range 26).all fun y=>x==y||!(Dc.lnN (x:Int)==Dc.lnN (y:Int)))=true:=by decide+kernel
 have h1:=te.1 (te.1 H c (ti.2 hc)) k (ti.2 hk);rw[beq_eq_false_iff_ne.2 h,sY]at h1
 simpa using h1
def ch2(x:Nat×Bool):List Value:=[.int .i64 (x.1:Nat),.bool x.2]
def dZ(P:List (Nat×Bool)):List Value:=P.flatMap ch2
theorem fX(P:List (Nat×Bool))(x:Nat×Bool):dZ (P++[x])=dZ P++ch2 x:=by simp[dZ]
theorem Tryz.infoChance:(Tryz.prog.info? 53).map (fun i=>(i.zero,i.size,i.bytes))=some (some (.agg #[.int .i64 0,.bool false]),2,16):=by kernel_rfl
theorem Tryz.underChances:Tryz.prog.underlying 49=some (.slice 53):=by kernel_rfl
end Ln
namespace Ln
open Go.RowKit Wt
theorem zqL(l:List UInt8):(lbs l).length<=l.length+1:=by
 unfold lbs
 by_cases h:l=[]
 ·rw[if_pos h];simp
 ·rw[if_neg h,zaS,List.length_map]
  have h1:=List.length_filter_le (d7 l) (List.range' 0 ((rl l).length+1));rw[List.length_range']at h1;have h2:=Pt.rv _ l (sZ _);omega
theorem pd{w w':World}{B n:Nat}{v:Value}{xs:List Value}(h:w.ownsRow B 53 2 v n xs)(hb:sR w.heap.size w w'):w'.ownsRow B 53 2 v n xs:=⟨h.1,h.2.imp (fun e=>e) fun⟨q',cap,cur,k1,k2,k3,k4⟩=>⟨q',cap,cur,k1,k2,(hb.block q' (Pt.ag k3)).trans k3,k4⟩⟩
set_option maxRecDepth 100000 in
theorem kM(l:List UInt8)(hl:l.length<=80000)(w:World):
  Calls Tryz.prog 32 #[.string ⟨l.toArray⟩] w fun e w'=>∃vo vc,e=.returned (.slice vo (d9 l (rl l).length).length vc)/\w'.ownsRow w.heap.size 53 2 (.slice vo (d9 l (rl l).length).length vc) (d9 l (rl l).length).length (dZ (d9 l (rl l).length))/\sR w.heap.size w w':=by
 have HL:=aa hl;have hbl:=zqL l;clear hl;go_enter Tryz.func32,Tryz.ntmps32;go_wp2_with fail;refine(Dc.db14 w).mono ?_;rintro e w1 ⟨hb,Q,rfl,hk⟩;have HB1:=aa hb;have HK:=aa hk;clear hb hk;go_wp2_with fail;refine(Dc.zgB Dc.lnU Dc.lnW Q w1 HK.o (by decide) (by decide)).mono ?_
 rintro e w2 ⟨g,nc,rfl,hn,hg,hb2⟩;rw[zhR];have HPg:=aa (Pt.zmr g nc w2 (by rw[<- ztr];exact hn))
 have HG:=aa hg;have HB2:=aa hb2;clear hn hg hb2;go_wp2_with fail;refine(HPg.o).mono ?_;rintro e w3 ⟨ro,rc,rfl,hr,ho⟩;have HB3:=aa (HB2.o.trans (ho.below HB2.o.size HG.o));have HR:=aa hr;clear hr ho HPg;have HBd:=aa (fun(W:World)(h:sR w3.heap.size w3 W)=>Pt.zbu Dc.lnU Dc.lnW Pt.qD true zwx (by decide) Dc.zaM Dc.zaN (by decide) (by decide+kernel) Q ro rc l HL.o W ((HK.o.below HB3.o).below h) (HR.o.below h))
 obtain⟨nr,hnr⟩:=am Pt.qD.length;rw[<- hnr]at HBd⊢;clear hnr HR HB2 HG;go_wp2_with fail;have HBw:ae (sR w3.heap.size w3 (w3.alloc (.cells #[.slice ro nr rc,.bool true] 63))):=aa ((sV _ _).alloc (sZ _) _);refine(HBd.o _ HBw.o).mono ?_;rintro e w4 ⟨bo,bc,rfl,hO,hB4⟩;rw[zrX]at hO;have hRB:=Pt.nO hO rfl;have HB0:=aa (show(lbs l).length=0\/∃g,bo=some ⟨g,0,none⟩ by
  rcases hO.2 with ⟨_,h2⟩|⟨g,_,_,h1,_⟩
  ·exact .inl h2
  ·cases h1
   exact .inr ⟨g,rfl⟩)
 have HB4:ae (sR w.heap.size w w4):=aa (HB1.o.trans ((HB3.o.mono HB1.o.size).trans ((HBw.o.trans (hB4.mono HBw.o.size)).mono (sT HB1.o.size HB3.o.size))));have HK4:=aa (((HK.o.below HB3.o).below HBw.o).below hB4);rw[zrX];obtain⟨D,hD⟩:=am (lbs l);rw[<- hD]at hRB hbl HB0⊢;have HDe:=aa hD;obtain⟨nb,hnb⟩:=am D.length;rw[<- hnb]at hbl HB0⊢;have HNb:=aa hnb;have HRB:=aa hRB;clear hO hB4 HBd HBw HB1 HB3 HK hRB hD hnb;go_wp2_with fail;refine(Dc.iU l w4 (by have:=HL.o;omega)).mono ?_
 rintro e w5 ⟨xo,xc,rfl,hr,b2⟩;have HX:=aa hr;have HB5:=aa (HB4.o.trans (b2.mono HB4.o.size));have HK5:=aa (HK4.o.below b2);have HR5:=aa (HRB.o.below b2);have HN:=aa (sM l);obtain⟨n,hn⟩:=am ((Dc.txt l).length);rw[<- hn]at HN⊢;have hn9:n<=80000:=by have:=HN.o;have:=Pt.rv _ l (sZ _);have:=HL.o;omega
 have hnb9:nb<=80001:=by have:=HL.o;omega
 clear hr b2 hn HB4 HK4 HRB hbl;go_wp2;go_loopw [9,10,11] (fun x y z wr=>∃(i m k:Nat)(vo:Option Addr)(vc:Nat),x=.slice vo m vc/\y=.int .i64 k/\z=.int .i64 i/\i<=n/\m<=i/\ae (k=zgD l i)/\ae (m=(d9 l i).length)/\ae (wr.ownsRow w5.heap.size 53 2 (.slice vo m vc) m (dZ (d9 l i)))/\ae (sR w5.heap.size w5 wr)) (fun _ _ z _=>n-(tg z).toNat)
 case atStart=>exact⟨0,0,0,none,0,rfl,rfl,rfl,Nat.zero_le _,Nat.zero_le _,aa rfl,aa rfl,aa (World.ownsRow_nil _ _ _ _),aa (sV _ _)⟩
 case round=>
  obtain⟨i,m,k,vo,vc,rfl,rfl,rfl,hi,hmi,HKc,HM,HO,HB⟩:=hrel
  by_cases hlt:i<n
  ·have hj:i<(rl l).length:=by have:=HN.o;omega
   have hne:l≠ []:=fun e=>by subst e;simp[ik]at hj
   have hDl:D=lbd l:=by rw[HDe.o];exact if_neg hne
   obtain⟨x,hx⟩:=am ((rl l)[i]);have hE:(rl l)[i]?=some x:=by rw[hx];exact List.getElem?_eq_getElem hj
   have hxr:=zal _ l (sZ _) x (by rw[hx];exact tf hj)
   obtain⟨gx,hgx,hgl,q0,_,q2⟩:=HX.o i _ (j5 l i x hE);subst hgx;have hmu:=zqx l i x hE;obtain⟨p1,hp1⟩:=am (pos l (i+1));have q2:w5.cell? ⟨gx,i*3+2,none⟩=some (.int .i64 (p1:Nat)):=by rw[hp1];exact q2
   rw[<- hp1]at hmu;obtain⟨j0,a1,a2,a3,a4,a5⟩:=zfa l i (by omega)
   obtain⟨j1,b1,b2,b3,b4,b5⟩:=zfa l (i+1) hj;rw[<- hDl]at a5 b5;rw[<- HKc.o]at a5;have hks:=zvU l i;rw[<- HKc.o]at hks;obtain⟨k1,hk1⟩:=am (zgD l (i+1));rw[<- hk1]at b5 hks;have hknb:k<nb:=by have:=(ta.1 a5).1;have:=HNb.o;omega
   have hk1nb:k1<nb:=by have:=(ta.1 b5).1;have:=HNb.o;omega
   obtain⟨g,hg⟩:∃g,bo=some ⟨g,0,none⟩:=by
    rcases HB0.o with h|h
    ·omega
    ·exact h
   subst hg;have rd:∀t p,D[t]?=some p->g<w5.heap.size/\w5.cell? ⟨g,t,none⟩=some (.int .i64 (p:Nat)):=fun t p h=>by
    obtain⟨a,h1,h2,h3⟩:=HR5.o t (p:Int) (by rw[List.getElem?_map,h];rfl)
    cases h1
    rw[Addr.add_lit,Nat.zero_add]at h3;exact⟨h2,h3⟩
   obtain⟨pj0,hpj0⟩:=am (pos l j0);obtain⟨pj1,hpj1⟩:=am (pos l j1);rw[<- hpj0]at a5;rw[<- hpj1]at b5;have HCk:=aa (rd k pj0 a5);have HCk1:=aa (rd k1 pj1 b5);have HC1:=aa hk1;have HJ0:ae (d7 l i=true->pj0<p1):=aa (fun h=>by rw[hpj0,hp1,a4 h];exact pa l i hj)
   have HJ1:ae (p1<=pj1):=aa (by rw[hpj1,hp1];exact zqr l _ _ b1)
   have HJ2:ae (d7 l (i+1)=true->pj1=p1):=aa (fun h=>by rw[hpj1,hp1,b4 h])
   have HJ3:ae (d7 l (i+1)=false->p1<pj1):=aa (fun h=>by
    have:i+1≠j1:=fun e=>by rw[e]at h;rw[h]at b3;cases b3
    rw[hpj1,hp1];exact Sg.zhA l (by omega) b2)
   have HTs:ae (d9 l (i+1)=d9 l i++if d7 l (i+1)=true then [chO l p1]else []):=aa (by rw[hp1];exact zxQ l i)
   have HQ:=aa (And.intro hgl (And.intro q0 q2));have HXR:=aa hxr;have HXC:ae (0<=bJ x.1/\bJ x.1<=25):=aa (zod l _ (by unfold fl;exact tj.2 ⟨x,by rw[hx];exact tf hj,rfl⟩))
   have HMU:=aa hmu;have HKS:=aa hks;clear hj hne hDl hx hE hxr q0 q2 hmu hp1 a1 a2 a3 a4 a5 b1 b2 b3 b4 b5 hks hk1 rd hpj0 hpj1 hgl;have hin:(i:Int)<(n:Int):=by omega
   have hi0:(0:Int)<=(i:Int):=by omega
   obtain⟨wo,rfl⟩:=am wr;go_wp2;go_loopw [10] (fun y wr=>∃t:Nat,y=.int .i64 t/\(t=k\/t=k1)/\ae (sR wo.heap.size wo wr)) (fun y _=>k1+1-(tg y).toNat)
   case atStart=>exact⟨k,rfl,.inl rfl,aa (sV _ _)⟩
   case round=>
    obtain⟨t,rfl,htk,HBi⟩:=hrel;have HBW:=aa (HB.o.trans (HBi.o.mono HB.o.size));have c2:=(HBW.o.cell (p:=⟨gx,i*3+2,none⟩) HQ.o.1).trans HQ.o.2.2;have c0:=(HBW.o.cell (p:=⟨gx,i*3,none⟩) HQ.o.1).trans HQ.o.2.1
    by_cases hne:t=k1
    ·subst hne
     have cb:=(HBW.o.cell (p:=⟨g,t,none⟩) HCk1.o.1).trans HCk1.o.2;have ht0:(0:Int)<=(t:Int):=by omega
     have htn:(t:Int)<(nb:Int):=by omega
     have hnl:¬(pj1:Int)<(p1:Int):=by have:=HJ1.o;omega
     obtain⟨bb,hbb⟩:=am (d7 l (i+1));have HJ2:=HJ2;rw[<- hbb]at HTs HJ2 HJ3;have HCb:=aa HCk1.o;clear hbb HCk HCk1 HJ0 HJ1 HKS HKc;go_wp2_with fail;go_quiet (fail);obtain⟨wx,hwx⟩:=am (wr.drewN nq);have HBx:ae (sR wo.heap.size wo wx):=aa (by rw[hwx];exact⟨HBi.o.os,HBi.o.tape,HBi.o.output,HBi.o.size,HBi.o.block⟩)
     rw[<- hwx];have HBX:=aa (HB.o.trans (HBx.o.mono HB.o.size));have c2:=(HBX.o.cell (p:=⟨gx,i*3+2,none⟩) HQ.o.1).trans HQ.o.2.2;have c0:=(HBX.o.cell (p:=⟨gx,i*3,none⟩) HQ.o.1).trans HQ.o.2.1;have cb:=(HBX.o.cell (p:=⟨g,t,none⟩) HCb.o.1).trans HCb.o.2;clear hwx HBi HBW
     cases bb with
     |false=>
      have hpe:((pj1:Int)==(p1:Int))=false:=beq_eq_false_iff_ne.2 (by have:=HJ3.o rfl;omega)
      have HT0:ae (d9 l (i+1)=d9 l i):=aa (by rw[HTs.o,if_neg (by simp),List.append_nil])
      go_wp2_with fail;go_quiet (fail);obtain⟨wy,hwy⟩:=am (wx.drewN nq);have HBy:ae (sR wo.heap.size wo wy):=aa (by rw[hwy];exact⟨HBx.o.os,HBx.o.tape,HBx.o.output,HBx.o.size,HBx.o.block⟩)
      rw[<- hwy];clear hwy c2 c0 cb;go_wp2;go_roundw
      case rel=>exact⟨i+1,m,t,vo,vc,rfl,rfl,by go_num,by omega,by omega,HC1,aa (by rw[HT0.o];exact HM.o),aa (by rw[HT0.o];exact pd HO.o HBy.o),aa (HB.o.trans (HBy.o.mono HB.o.size))⟩
      case measure=>simp[tg];omega
     |true=>
      have hpe0:=HJ2.o rfl;subst hpe0;have hpe:((pj1:Int)==(pj1:Int))=true:=by simp
      have HT:ae (d9 l (i+1)=d9 l i++[chO l pj1]):=aa (by rw[HTs.o,if_pos rfl])
      go_wp2_with fail;go_quiet (fail);obtain⟨wy,hwy⟩:=am (wx.drewN nq);have HBy:ae (sR wo.heap.size wo wy):=aa (by rw[hwy];exact⟨HBx.o.os,HBx.o.tape,HBx.o.output,HBx.o.size,HBx.o.block⟩)
      rw[<- hwy];have HBY:=aa (HB.o.trans (HBy.o.mono HB.o.size));have c2:=(HBY.o.cell (p:=⟨gx,i*3+2,none⟩) HQ.o.1).trans HQ.o.2.2;have c0:=(HBY.o.cell (p:=⟨gx,i*3,none⟩) HQ.o.1).trans HQ.o.2.1;clear hwy cb;go_wp2_with fail;refine(Dc.zmj Q x.1 wy (HK5.o.below HBY.o) HXR.o).mono ?_;rintro e w6 ⟨rfl,be⟩;have HB6:=aa (HBY.o.trans (be.mono HBY.o.size));have HO6:=aa (pd HO.o (HBy.o.trans (be.mono HBy.o.size)));obtain⟨c,hc,hc26⟩:∃c:Nat,bJ x.1=(c:Int)/\c<26:=by
       have h:=HXC.o;exact⟨(bJ x.1).toNat,by omega,by omega⟩
      rw[hc]at HMU⊢;obtain⟨u,hu⟩:=am (Dc.lnN (c:Int));rw[<- hu];have HU:=aa hu;have HS1:=aa (fun(W:World)(h:sR w5.heap.size w5 W)=>show W.cell? ⟨g,t,none⟩=some (.int .i64 (pj1:Nat))/\W.cell? ⟨gx,i*3+2,none⟩=some (.int .i64 (pj1:Nat))from⟨(h.cell (p:=⟨g,t,none⟩) HCb.o.1).trans HCb.o.2,(h.cell (p:=⟨gx,i*3+2,none⟩) HQ.o.1).trans HQ.o.2.2⟩)
      have HSS:=aa (fun(W:World)(h:sR w6.heap.size w6 W)=>HS1.o W (HB6.o.trans (h.mono HB6.o.size)))
      clear be hu c2 c0 HBx HBX HBy HBY HO;have m9:m<=80000:=by omega
      by_cases hme:pj1=l.length
      ·have ee:((pj1:Int)==(l.length:Int))=true:=by rw[hme];simp
       have een:(pj1==l.length)=true:=by rw[hme];simp
       have eed:decide (pj1=l.length)=true:=decide_eq_true hme;have HCV:ae (ch2 (chO l pj1)=[.int .i64 (pj1:Nat),.bool true]):=aa (by unfold ch2 chO;rw[HMU.o,eed,Bool.true_or])
       clear hme hc hc26;go_wp2_with fail;refine au [(0,true),(1,true),(2,true),(3,true),(4,true),(5,true),(6,true),(7,true),(8,true),(9,true),(10,true),(11,true),(12,true),(13,true),(14,true),(15,true),(16,true),(17,true),(18,true),(19,true),(20,true),(21,true),(22,true),(23,true),(24,true),(25,true),(26,false),(27,false),(28,true)] (fun W=>W.cell? ⟨g,t,none⟩=some (.int .i64 (pj1:Nat))/\W.cell? ⟨gx,i*3+2,none⟩=some (.int .i64 (pj1:Nat))) (fun _=>false) (by kernel_rfl) (by kernel_rfl) (fun j hj=>by cases hj) rfl (by kernel_rfl) (HSS.o _ (show sR w6.heap.size w6 w6.drew from(sV _ _).drew)) ?_
       iterate 14 (refine ax ?_ rfl (by kernel_rfl) (fun w' hS=>?_) ?_;(rotate_left;(obtain⟨s0,s1⟩:=hS;go_simp;(try simp only[ee,een,eed]);with_reducible rfl);rotate_left))
       iterate 2 (refine eR rfl (by kernel_rfl) ?_)
       iterate 2 (refine ax ?_ rfl (by kernel_rfl) (fun w' hS=>?_) ?_;(rotate_left;(obtain⟨s0,s1⟩:=hS;go_simp;(try simp only[ee,een,eed]);with_reducible rfl);rotate_left))
       iterate 2 (refine eR rfl (by kernel_rfl) ?_)
       iterate 2 (refine ax ?_ rfl (by kernel_rfl) (fun w' hS=>?_) ?_;(rotate_left;(obtain⟨s0,s1⟩:=hS;go_simp;(try simp only[ee,een,eed]);with_reducible rfl);rotate_left))
       iterate 2 (refine eR rfl (by kernel_rfl) ?_)
       iterate 2 (refine ax ?_ rfl (by kernel_rfl) (fun w' hS=>?_) ?_;(rotate_left;(obtain⟨s0,s1⟩:=hS;go_simp;(try simp only[ee,een,eed]);with_reducible rfl);rotate_left))
       refine av rfl (by kernel_rfl) fun KK hKK=>?_
       go_simp;obtain⟨w7,hw7⟩:=am ((w6.alloc (.cells #[.int .i64 (pj1:Nat),.bool true] 53)).drew);rw[<- hw7];have HBB:ae (sR w6.heap.size w6 w7):=aa (by rw[hw7];exact tc Pt.below_box)
       have HN7:ae (∀j u,[sU .i64 (pj1:Nat),.bool true][j]?=some u->w7.cell? ((⟨w6.heap.size,0,none⟩:Addr).add j)=some u):=aa (by rw[hw7];exact Pt.pp w6 #[.int .i64 (pj1:Nat),.bool true] _)
       clear hw7;refine hKK _ _ (fun _=>HSS.o _ HBB.o) ?_
       clear hKK;obtain⟨iR,hiR,hz0,hz1,hz2⟩:=td Tryz.infoChance;have HO7:ae (w7.ownsRow w5.heap.size 53 2 (.slice vo m vc) m (dZ (d9 l i))):=aa ⟨HO6.o.1,HO6.o.2.imp (fun e=>e) fun⟨q',cap,cur,k1,k2,k3,k4⟩=>⟨q',cap,cur,k1,k2,(HBB.o.block q' (Pt.ag k3)).trans k3,k4⟩⟩
       have HlB:ae (w5.heap.size<=w7.heap.size):=aa (sT HB6.o.size HBB.o.size);refine av rfl (by kernel_rfl) fun KK hKK=>?_
       refine sW _ _ _ 49 rfl w5.heap.size 53 iR (.agg #[.int .i64 0,.bool false]) 2 16 Tryz.underChances hiR hz0 hz1 hz2 rfl (by decide) (.slice vo m vc) m (dZ (d9 l i)) rfl HO7.o ⟨w6.heap.size,0,none⟩ 1 1 [sU .i64 (pj1:Nat),.bool true] rfl rfl HN7.o (fun u hu=>by simp at hu;rcases hu with h|h<;>rw[h]<;>rfl) (by decide) (by unfold tk;omega) (by omega) HlB.o w7.heap.size rfl ?_
       intro g8 c8 w8 o8 gr8 hl8 hlt8;have hs8:w5.heap.size<=w7.heap.size:=HlB.o;have HB8:ae (sR w5.heap.size w5 w8):=aa ((HB6.o.trans (HBB.o.mono HB6.o.size)).grown gr8 hs8 (fun q hq=>by
        rcases HO7.o.2 with ⟨h1,_⟩|⟨q2,_,_,h1,h2,_⟩
        ·rw[h1]at hq;cases hq
        ·rw[h1]at hq;cases hq;exact h2))
       have HO8:ae (w8.ownsRow w5.heap.size 53 2 (.slice (some ⟨g8,0,none⟩) (m+1) c8) (m+1) (dZ (d9 l (i+1)))):=aa (by rw[HT.o,fX,HCV.o];exact o8)
       have HM8:ae (m+1=(d9 l (i+1)).length):=aa (by rw[HT.o,sS,<- HM.o];rfl)
       refine hKK _ _ (fun _=>HS1.o _ HB8.o) ?_
       clear hKK;refine ax ?_ rfl (by kernel_rfl) (fun w' hS=>?_) ?_
       rotate_left
       ·go_simp
        with_reducible rfl
       rotate_left;refine aS (sX ?_);clear HN7 HBB HO7 HlB HSS HS1 o8 gr8 hl8 hlt8;go_simp;go_wp2;go_roundw
       case rel=>exact⟨i+1,m+1,t,_,c8,rfl,rfl,by go_num,by omega,by omega,HC1,HM8,HO8,HB8⟩
       case measure=>simp[tg];omega
      have ee:((pj1:Int)==(l.length:Int))=false:=beq_eq_false_iff_ne.2 (by omega)
      have een:(pj1==l.length)=false:=beq_eq_false_iff_ne.2 hme;have eed:decide (pj1=l.length)=false:=decide_eq_false hme;clear hme hc
      by_cases c1:c=1
      ·subst c1
       have HCV:ae (ch2 (chO l pj1)=[.int .i64 (pj1:Nat),.bool true]):=aa (by unfold ch2 chO;rw[HMU.o,eed,sY];rfl)
       obtain rfl:u=[66,107]:=HU.o.trans (by decide+kernel)
       clear hc26 HU;go_wp2_with fail;refine au [(0,true),(1,true),(2,true),(3,true),(4,true),(5,true),(6,true),(7,true),(8,true),(9,true),(10,true),(11,true),(12,true),(13,true),(14,true),(15,true),(16,true),(17,true),(18,true),(19,true),(20,true),(21,true),(22,true),(23,true),(24,true),(25,true),(26,false),(27,false),(28,true)] (fun W=>W.cell? ⟨g,t,none⟩=some (.int .i64 (pj1:Nat))/\W.cell? ⟨gx,i*3+2,none⟩=some (.int .i64 (pj1:Nat))) (fun _=>false) (by kernel_rfl) (by kernel_rfl) (fun j hj=>by cases hj) rfl (by kernel_rfl) (HSS.o _ (show sR w6.heap.size w6 w6.drew from(sV _ _).drew)) ?_
       iterate 18 (refine ax ?_ rfl (by kernel_rfl) (fun w' hS=>?_) ?_;(rotate_left;(obtain⟨s0,s1⟩:=hS;go_simp;(try simp only[ee,een,eed]);with_reducible rfl);rotate_left))
       iterate 2 (refine eR rfl (by kernel_rfl) ?_)
       iterate 2 (refine ax ?_ rfl (by kernel_rfl) (fun w' hS=>?_) ?_;(rotate_left;(obtain⟨s0,s1⟩:=hS;go_simp;(try simp only[ee,een,eed]);with_reducible rfl);rotate_left))
       iterate 2 (refine eR rfl (by kernel_rfl) ?_)
       iterate 2 (refine ax ?_ rfl (by kernel_rfl) (fun w' hS=>?_) ?_;(rotate_left;(obtain⟨s0,s1⟩:=hS;go_simp;(try simp only[ee,een,eed]);with_reducible rfl);rotate_left))
       refine av rfl (by kernel_rfl) fun KK hKK=>?_
       go_simp;obtain⟨w7,hw7⟩:=am ((w6.alloc (.cells #[.int .i64 (pj1:Nat),.bool true] 53)).drew);rw[<- hw7];have HBB:ae (sR w6.heap.size w6 w7):=aa (by rw[hw7];exact tc Pt.below_box)
       have HN7:ae (∀j u,[sU .i64 (pj1:Nat),.bool true][j]?=some u->w7.cell? ((⟨w6.heap.size,0,none⟩:Addr).add j)=some u):=aa (by rw[hw7];exact Pt.pp w6 #[.int .i64 (pj1:Nat),.bool true] _)
       clear hw7;refine hKK _ _ (fun _=>HSS.o _ HBB.o) ?_
       clear hKK;obtain⟨iR,hiR,hz0,hz1,hz2⟩:=td Tryz.infoChance;have HO7:ae (w7.ownsRow w5.heap.size 53 2 (.slice vo m vc) m (dZ (d9 l i))):=aa ⟨HO6.o.1,HO6.o.2.imp (fun e=>e) fun⟨q',cap,cur,k1,k2,k3,k4⟩=>⟨q',cap,cur,k1,k2,(HBB.o.block q' (Pt.ag k3)).trans k3,k4⟩⟩
       have HlB:ae (w5.heap.size<=w7.heap.size):=aa (sT HB6.o.size HBB.o.size);refine av rfl (by kernel_rfl) fun KK hKK=>?_
       refine sW _ _ _ 49 rfl w5.heap.size 53 iR (.agg #[.int .i64 0,.bool false]) 2 16 Tryz.underChances hiR hz0 hz1 hz2 rfl (by decide) (.slice vo m vc) m (dZ (d9 l i)) rfl HO7.o ⟨w6.heap.size,0,none⟩ 1 1 [sU .i64 (pj1:Nat),.bool true] rfl rfl HN7.o (fun u hu=>by simp at hu;rcases hu with h|h<;>rw[h]<;>rfl) (by decide) (by unfold tk;omega) (by omega) HlB.o w7.heap.size rfl ?_
       intro g8 c8 w8 o8 gr8 hl8 hlt8;have hs8:w5.heap.size<=w7.heap.size:=HlB.o;have HB8:ae (sR w5.heap.size w5 w8):=aa ((HB6.o.trans (HBB.o.mono HB6.o.size)).grown gr8 hs8 (fun q hq=>by
        rcases HO7.o.2 with ⟨h1,_⟩|⟨q2,_,_,h1,h2,_⟩
        ·rw[h1]at hq;cases hq
        ·rw[h1]at hq;cases hq;exact h2))
       have HO8:ae (w8.ownsRow w5.heap.size 53 2 (.slice (some ⟨g8,0,none⟩) (m+1) c8) (m+1) (dZ (d9 l (i+1)))):=aa (by rw[HT.o,fX,HCV.o];exact o8)
       have HM8:ae (m+1=(d9 l (i+1)).length):=aa (by rw[HT.o,sS,<- HM.o];rfl)
       refine hKK _ _ (fun _=>HS1.o _ HB8.o) ?_
       clear hKK;refine ax ?_ rfl (by kernel_rfl) (fun w' hS=>?_) ?_
       rotate_left
       ·go_simp
        with_reducible rfl
       rotate_left;refine aS (sX ?_);clear HN7 HBB HO7 HlB HSS HS1 o8 gr8 hl8 hlt8;go_simp;go_wp2;go_roundw
       case rel=>exact⟨i+1,m+1,t,_,c8,rfl,rfl,by go_num,by omega,by omega,HC1,HM8,HO8,HB8⟩
       case measure=>simp[tg];omega
      by_cases c3:c=3
      ·subst c3
       have HCV:ae (ch2 (chO l pj1)=[.int .i64 (pj1:Nat),.bool true]):=aa (by unfold ch2 chO;rw[HMU.o,eed,sY];rfl)
       obtain rfl:u=[76,102]:=HU.o.trans (by decide+kernel)
       clear hc26 HU;go_wp2_with fail;refine au [(0,true),(1,true),(2,true),(3,true),(4,true),(5,true),(6,true),(7,true),(8,true),(9,true),(10,true),(11,true),(12,true),(13,true),(14,true),(15,true),(16,true),(17,true),(18,true),(19,true),(20,true),(21,true),(22,true),(23,true),(24,true),(25,true),(26,false),(27,false),(28,true)] (fun W=>W.cell? ⟨g,t,none⟩=some (.int .i64 (pj1:Nat))/\W.cell? ⟨gx,i*3+2,none⟩=some (.int .i64 (pj1:Nat))) (fun _=>false) (by kernel_rfl) (by kernel_rfl) (fun j hj=>by cases hj) rfl (by kernel_rfl) (HSS.o _ (show sR w6.heap.size w6 w6.drew from(sV _ _).drew)) ?_
       iterate 22 (refine ax ?_ rfl (by kernel_rfl) (fun w' hS=>?_) ?_;(rotate_left;(obtain⟨s0,s1⟩:=hS;go_simp;(try simp only[ee,een,eed]);with_reducible rfl);rotate_left))
       iterate 2 (refine eR rfl (by kernel_rfl) ?_)
       iterate 2 (refine ax ?_ rfl (by kernel_rfl) (fun w' hS=>?_) ?_;(rotate_left;(obtain⟨s0,s1⟩:=hS;go_simp;(try simp only[ee,een,eed]);with_reducible rfl);rotate_left))
       refine av rfl (by kernel_rfl) fun KK hKK=>?_
       go_simp;obtain⟨w7,hw7⟩:=am ((w6.alloc (.cells #[.int .i64 (pj1:Nat),.bool true] 53)).drew);rw[<- hw7];have HBB:ae (sR w6.heap.size w6 w7):=aa (by rw[hw7];exact tc Pt.below_box)
       have HN7:ae (∀j u,[sU .i64 (pj1:Nat),.bool true][j]?=some u->w7.cell? ((⟨w6.heap.size,0,none⟩:Addr).add j)=some u):=aa (by rw[hw7];exact Pt.pp w6 #[.int .i64 (pj1:Nat),.bool true] _)
       clear hw7;refine hKK _ _ (fun _=>HSS.o _ HBB.o) ?_
       clear hKK;obtain⟨iR,hiR,hz0,hz1,hz2⟩:=td Tryz.infoChance;have HO7:ae (w7.ownsRow w5.heap.size 53 2 (.slice vo m vc) m (dZ (d9 l i))):=aa ⟨HO6.o.1,HO6.o.2.imp (fun e=>e) fun⟨q',cap,cur,k1,k2,k3,k4⟩=>⟨q',cap,cur,k1,k2,(HBB.o.block q' (Pt.ag k3)).trans k3,k4⟩⟩
       have HlB:ae (w5.heap.size<=w7.heap.size):=aa (sT HB6.o.size HBB.o.size);refine av rfl (by kernel_rfl) fun KK hKK=>?_
       refine sW _ _ _ 49 rfl w5.heap.size 53 iR (.agg #[.int .i64 0,.bool false]) 2 16 Tryz.underChances hiR hz0 hz1 hz2 rfl (by decide) (.slice vo m vc) m (dZ (d9 l i)) rfl HO7.o ⟨w6.heap.size,0,none⟩ 1 1 [sU .i64 (pj1:Nat),.bool true] rfl rfl HN7.o (fun u hu=>by simp at hu;rcases hu with h|h<;>rw[h]<;>rfl) (by decide) (by unfold tk;omega) (by omega) HlB.o w7.heap.size rfl ?_
       intro g8 c8 w8 o8 gr8 hl8 hlt8;have hs8:w5.heap.size<=w7.heap.size:=HlB.o;have HB8:ae (sR w5.heap.size w5 w8):=aa ((HB6.o.trans (HBB.o.mono HB6.o.size)).grown gr8 hs8 (fun q hq=>by
        rcases HO7.o.2 with ⟨h1,_⟩|⟨q2,_,_,h1,h2,_⟩
        ·rw[h1]at hq;cases hq
        ·rw[h1]at hq;cases hq;exact h2))
       have HO8:ae (w8.ownsRow w5.heap.size 53 2 (.slice (some ⟨g8,0,none⟩) (m+1) c8) (m+1) (dZ (d9 l (i+1)))):=aa (by rw[HT.o,fX,HCV.o];exact o8)
       have HM8:ae (m+1=(d9 l (i+1)).length):=aa (by rw[HT.o,sS,<- HM.o];rfl)
       refine hKK _ _ (fun _=>HS1.o _ HB8.o) ?_
       clear hKK;refine ax ?_ rfl (by kernel_rfl) (fun w' hS=>?_) ?_
       rotate_left
       ·go_simp
        with_reducible rfl
       rotate_left;refine aS (sX ?_);clear HN7 HBB HO7 HlB HSS HS1 o8 gr8 hl8 hlt8;go_simp;go_wp2;go_roundw
       case rel=>exact⟨i+1,m+1,t,_,c8,rfl,rfl,by go_num,by omega,by omega,HC1,HM8,HO8,HB8⟩
       case measure=>simp[tg];omega
      by_cases c2:c=2
      ·subst c2
       have HCV:ae (ch2 (chO l pj1)=[.int .i64 (pj1:Nat),.bool true]):=aa (by unfold ch2 chO;rw[HMU.o,eed,sY];rfl)
       obtain rfl:u=[67,114]:=HU.o.trans (by decide+kernel)
       clear hc26 HU;go_wp2_with fail;refine au [(0,true),(1,true),(2,true),(3,true),(4,true),(5,true),(6,true),(7,true),(8,true),(9,true),(10,true),(11,true),(12,true),(13,true),(14,true),(15,true),(16,true),(17,true),(18,true),(19,true),(20,true),(21,true),(22,true),(23,true),(24,true),(25,true),(26,false),(27,false),(28,true)] (fun W=>W.cell? ⟨g,t,none⟩=some (.int .i64 (pj1:Nat))/\W.cell? ⟨gx,i*3+2,none⟩=some (.int .i64 (pj1:Nat))) (fun _=>false) (by kernel_rfl) (by kernel_rfl) (fun j hj=>by cases hj) rfl (by kernel_rfl) (HSS.o _ (show sR w6.heap.size w6 w6.drew from(sV _ _).drew)) ?_
       iterate 26 (refine ax ?_ rfl (by kernel_rfl) (fun w' hS=>?_) ?_;(rotate_left;(obtain⟨s0,s1⟩:=hS;go_simp;(try simp only[ee,een,eed]);with_reducible rfl);rotate_left))
       refine av rfl (by kernel_rfl) fun KK hKK=>?_
       go_simp;obtain⟨w7,hw7⟩:=am ((w6.alloc (.cells #[.int .i64 (pj1:Nat),.bool true] 53)).drew);rw[<- hw7];have HBB:ae (sR w6.heap.size w6 w7):=aa (by rw[hw7];exact tc Pt.below_box)
       have HN7:ae (∀j u,[sU .i64 (pj1:Nat),.bool true][j]?=some u->w7.cell? ((⟨w6.heap.size,0,none⟩:Addr).add j)=some u):=aa (by rw[hw7];exact Pt.pp w6 #[.int .i64 (pj1:Nat),.bool true] _)
       clear hw7;refine hKK _ _ (fun _=>HSS.o _ HBB.o) ?_
       clear hKK;obtain⟨iR,hiR,hz0,hz1,hz2⟩:=td Tryz.infoChance;have HO7:ae (w7.ownsRow w5.heap.size 53 2 (.slice vo m vc) m (dZ (d9 l i))):=aa ⟨HO6.o.1,HO6.o.2.imp (fun e=>e) fun⟨q',cap,cur,k1,k2,k3,k4⟩=>⟨q',cap,cur,k1,k2,(HBB.o.block q' (Pt.ag k3)).trans k3,k4⟩⟩
       have HlB:ae (w5.heap.size<=w7.heap.size):=aa (sT HB6.o.size HBB.o.size);refine av rfl (by kernel_rfl) fun KK hKK=>?_
       refine sW _ _ _ 49 rfl w5.heap.size 53 iR (.agg #[.int .i64 0,.bool false]) 2 16 Tryz.underChances hiR hz0 hz1 hz2 rfl (by decide) (.slice vo m vc) m (dZ (d9 l i)) rfl HO7.o ⟨w6.heap.size,0,none⟩ 1 1 [sU .i64 (pj1:Nat),.bool true] rfl rfl HN7.o (fun u hu=>by simp at hu;rcases hu with h|h<;>rw[h]<;>rfl) (by decide) (by unfold tk;omega) (by omega) HlB.o w7.heap.size rfl ?_
       intro g8 c8 w8 o8 gr8 hl8 hlt8;have hs8:w5.heap.size<=w7.heap.size:=HlB.o;have HB8:ae (sR w5.heap.size w5 w8):=aa ((HB6.o.trans (HBB.o.mono HB6.o.size)).grown gr8 hs8 (fun q hq=>by
        rcases HO7.o.2 with ⟨h1,_⟩|⟨q2,_,_,h1,h2,_⟩
        ·rw[h1]at hq;cases hq
        ·rw[h1]at hq;cases hq;exact h2))
       have HO8:ae (w8.ownsRow w5.heap.size 53 2 (.slice (some ⟨g8,0,none⟩) (m+1) c8) (m+1) (dZ (d9 l (i+1)))):=aa (by rw[HT.o,fX,HCV.o];exact o8)
       have HM8:ae (m+1=(d9 l (i+1)).length):=aa (by rw[HT.o,sS,<- HM.o];rfl)
       refine hKK _ _ (fun _=>HS1.o _ HB8.o) ?_
       clear hKK;refine ax ?_ rfl (by kernel_rfl) (fun w' hS=>?_) ?_
       rotate_left
       ·go_simp
        with_reducible rfl
       rotate_left;refine aS (sX ?_);clear HN7 HBB HO7 HlB HSS HS1 o8 gr8 hl8 hlt8;go_simp;go_wp2;go_roundw
       case rel=>exact⟨i+1,m+1,t,_,c8,rfl,rfl,by go_num,by omega,by omega,HC1,HM8,HO8,HB8⟩
       case measure=>simp[tg];omega
      have HCV:=aa (show ch2 (chO l pj1)=[.int .i64 (pj1:Nat),.bool false] by
       unfold ch2 chO;rw[HMU.o,eed,sY];unfold Li.qN;rw[beq_eq_false_iff_ne.2 (show(c:Int)≠1 by omega),beq_eq_false_iff_ne.2 (show(c:Int)≠2 by omega),beq_eq_false_iff_ne.2 (show(c:Int)≠3 by omega)]
       rfl)
      have u1:(u== [66,107])=false:=by rw[HU.o];exact zgj c hc26 1 (by omega) c1 _ (by decide+kernel)
      have u3:(u== [76,102])=false:=by rw[HU.o];exact zgj c hc26 3 (by omega) c3 _ (by decide+kernel)
      have u2:(u== [67,114])=false:=by rw[HU.o];exact zgj c hc26 2 (by omega) c2 _ (by decide+kernel)
      clear c1 c2 c3 hc26 HU;go_wp2_with fail;refine au [(0,true),(1,true),(2,true),(3,true),(4,true),(5,true),(6,true),(7,true),(8,true),(9,true),(10,true),(11,true),(12,true),(13,true),(14,true),(15,true),(16,true),(17,true),(18,true),(19,true),(20,true),(21,true),(22,true),(23,true),(24,true),(25,true),(26,false),(27,false),(28,true)] (fun W=>W.cell? ⟨g,t,none⟩=some (.int .i64 (pj1:Nat))/\W.cell? ⟨gx,i*3+2,none⟩=some (.int .i64 (pj1:Nat))) (fun _=>false) (by kernel_rfl) (by kernel_rfl) (fun j hj=>by cases hj) rfl (by kernel_rfl) (HSS.o _ (show sR w6.heap.size w6 w6.drew from(sV _ _).drew)) ?_
      iterate 26 (refine ax ?_ rfl (by kernel_rfl) (fun w' hS=>?_) ?_;(rotate_left;(obtain⟨s0,s1⟩:=hS;go_simp;(try simp only[ee,een,eed]);with_reducible rfl);rotate_left))
      refine av rfl (by kernel_rfl) fun KK hKK=>?_
      go_simp;obtain⟨w7,hw7⟩:=am ((w6.alloc (.cells #[.int .i64 (pj1:Nat),.bool false] 53)).drew);rw[<- hw7];have HBB:ae (sR w6.heap.size w6 w7):=aa (by rw[hw7];exact tc Pt.below_box)
      have HN7:ae (∀j u,[sU .i64 (pj1:Nat),.bool false][j]?=some u->w7.cell? ((⟨w6.heap.size,0,none⟩:Addr).add j)=some u):=aa (by rw[hw7];exact Pt.pp w6 #[.int .i64 (pj1:Nat),.bool false] _)
      clear hw7;refine hKK _ _ (fun _=>HSS.o _ HBB.o) ?_
      clear hKK;obtain⟨iR,hiR,hz0,hz1,hz2⟩:=td Tryz.infoChance;have HO7:ae (w7.ownsRow w5.heap.size 53 2 (.slice vo m vc) m (dZ (d9 l i))):=aa ⟨HO6.o.1,HO6.o.2.imp (fun e=>e) fun⟨q',cap,cur,k1,k2,k3,k4⟩=>⟨q',cap,cur,k1,k2,(HBB.o.block q' (Pt.ag k3)).trans k3,k4⟩⟩
      have HlB:ae (w5.heap.size<=w7.heap.size):=aa (sT HB6.o.size HBB.o.size);refine av rfl (by kernel_rfl) fun KK hKK=>?_
      refine sW _ _ _ 49 rfl w5.heap.size 53 iR (.agg #[.int .i64 0,.bool false]) 2 16 Tryz.underChances hiR hz0 hz1 hz2 rfl (by decide) (.slice vo m vc) m (dZ (d9 l i)) rfl HO7.o ⟨w6.heap.size,0,none⟩ 1 1 [sU .i64 (pj1:Nat),.bool false] rfl rfl HN7.o (fun u hu=>by simp at hu;rcases hu with h|h<;>rw[h]<;>rfl) (by decide) (by unfold tk;omega) (by omega) HlB.o w7.heap.size rfl ?_
      intro g8 c8 w8 o8 gr8 hl8 hlt8;have hs8:w5.heap.size<=w7.heap.size:=HlB.o;have HB8:ae (sR w5.heap.size w5 w8):=aa ((HB6.o.trans (HBB.o.mono HB6.o.size)).grown gr8 hs8 (fun q hq=>by
       rcases HO7.o.2 with ⟨h1,_⟩|⟨q2,_,_,h1,h2,_⟩
       ·rw[h1]at hq;cases hq
       ·rw[h1]at hq;cases hq;exact h2))
      have HO8:ae (w8.ownsRow w5.heap.size 53 2 (.slice (some ⟨g8,0,none⟩) (m+1) c8) (m+1) (dZ (d9 l (i+1)))):=aa (by rw[HT.o,fX,HCV.o];exact o8)
      have HM8:ae (m+1=(d9 l (i+1)).length):=aa (by rw[HT.o,sS,<- HM.o];rfl)
      refine hKK _ _ (fun _=>HS1.o _ HB8.o) ?_
      clear hKK;refine ax ?_ rfl (by kernel_rfl) (fun w' hS=>?_) ?_
      rotate_left
      ·go_simp
       with_reducible rfl
      rotate_left;refine aS (sX ?_);clear HN7 HBB HO7 HlB HSS HS1 o8 gr8 hl8 hlt8;go_simp;go_wp2;go_roundw
      case rel=>exact⟨i+1,m+1,t,_,c8,rfl,rfl,by go_num,by omega,by omega,HC1,HM8,HO8,HB8⟩
      case measure=>simp[tg];omega
    ·have htk':t=k:=by omega
     subst htk';have hb:d7 l i=true/\k1=t+1:=by
      have:=HKS.o
      by_cases h:d7 l i=true
      ·rw[if_pos h]at this;exact⟨h,this⟩
      ·rw[if_neg h]at this;omega
     have hlt0:=HJ0.o hb.1;have cb:=(HBW.o.cell (p:=⟨g,t,none⟩) HCk.o.1).trans HCk.o.2;have hl0:(pj0:Int)<(p1:Int):=by omega
     have ht0:(0:Int)<=(t:Int):=by omega
     have htn:(t:Int)<(nb:Int):=by omega
     have HKE:=aa hb.2;clear hb hlt0 hne htk;go_wp2_with fail;go_quiet (fail);obtain⟨wx,hwx⟩:=am (wr.drewN nq);have HBx:ae (sR wo.heap.size wo wx):=aa (by rw[hwx];exact⟨HBi.o.os,HBi.o.tape,HBi.o.output,HBi.o.size,HBi.o.block⟩)
     rw[<- hwx];clear hwx c2 c0 cb;go_wp2;go_roundw
     case rel=>exact⟨t+1,by go_num,.inr HKE.o.symm,HBx⟩
     case measure=>have:=HKE.o;simp[tg];omega
  ·have hin:¬(i:Int)<(n:Int):=by omega
   obtain rfl:i=n:=by omega
   have HQ:ae (∃vo' vc',Ending.returned (.slice vo m vc)=.returned (.slice vo' (d9 l (rl l).length).length vc')/\wr.ownsRow w.heap.size 53 2 (.slice vo' (d9 l (rl l).length).length vc') (d9 l (rl l).length).length (dZ (d9 l (rl l).length))/\sR w.heap.size w wr):=aa (by
    have h1:=HO.o;have h2:=HM.o;rw[show i=(rl l).length from HN.o]at h1 h2
    rw[<- h2];exact⟨vo,vc,rfl,⟨h1.1,h1.2.imp (fun e=>e) fun⟨q,cap,cur,k1,k2,k3⟩=>⟨q,cap,cur,k1,sT HB5.o.size k2,k3⟩⟩,HB5.o.trans (HB.o.mono HB5.o.size)⟩)
   go_wp2;go_ret;exact HQ.o
end Ln
end Go.Proofs.YtbbapnpdfcgjnaaGreatDoor
