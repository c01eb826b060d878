/- LnCut, LnCh: parts of the proof, joined. -/
import Derived.Test.YtbbapnpdfcgjnaaGreatDoorMStBd
import Derived.Test.YtbbapnpdfcgjnaaGreatDoorMLnNm
import Derived.Test.YtbbapnpdfcgjnaaGreatDoorMLnEdge
open Go.RowKit renaming Below->sD, intOf->sS
open List renaming length_append->sE, getElem?_eq_some_iff->sN, all_eq_true->sQ, getElem_mem->sR, mem_range->sT, mem_map->sU
open Nat renaming le_trans->sG, le_refl->sM
open Go.Value renaming int->sH
open Go.RowKit.Below renaming refl->sI, drew->sO
open Go renaming wp_append_lies->sJ, info_parts->sP, maxLen->sV
open Go.NoPanic renaming normal->sK
open Bool renaming false_or->sL
set_option maxHeartbeats 64000000
namespace Go.Proofs.YtbbapnpdfcgjnaaGreatDoor
namespace Ln
open Go.RowKit Wt
theorem zaf:∀(n:Nat) (l:List UInt8),l.length<=n->∀x∈rl l,x.1<=1114111
 | n,l,hn,x,hx=>by
  by_cases hl:l=[]
  ·rw[hl,ib] at hx;cases hx
  ·have h1:=dec_ge l hl
   have hp:0<l.length:=List.length_pos_iff.2 hl;rw[bX l hl] at hx
   rcases List.mem_cons.1 hx with rfl | hx
   ·exact dec_rune l hl
   ·cases n with
    | zero=>omega
    | succ n=>exact zaf n _ (by rw[List.length_drop];omega) x hx
theorem zhO:Dc.lnU.length=26:=by decide
theorem znZ (l:List UInt8):Li.Cls (fl l):=fun c hc=>by
 unfold fl at hc;obtain⟨x,hx,rfl⟩:=sU.1 hc;have h:=zaf _ l (sM _) x hx;have h2:=Dc.zgq Dc.lnW _ Dc.zaH Dc.zaI (x.1:Int) (by omega) (by omega)
 rw[Dc.zfZ (x.1:Int) (by omega) (by omega)]
 rw[zhO] at h2;exact⟨by omega,by omega⟩
theorem zwj:∀r∈Pt.qp,Pt.zgV r:=Pt.zjl (by decide+kernel)
theorem ztc (l:List UInt8):Pt.lu Dc.lnW l=fl l:=by
 unfold Pt.lu Pt.dcl fl;rw[List.map_map]
 apply List.map_congr_left
 intro x hx;have h:=zaf _ l (sM _) x hx
 show((Dc.gtp (Dc.cd (x.1:Int)) Dc.lnW:Nat):Int)=bE (x.1:Int)
 rw[show Dc.cd (x.1:Int)=(x.1:Int) by unfold Dc.cd;rw[if_neg (by omega)],Dc.zfZ _ (by omega) (by omega)]
theorem zrJ (l:List UInt8):Pt.zrj Dc.lnW Pt.qp true l=lbs l:=by
 unfold Pt.zrj lbs
 by_cases h:l=[]
 ·rw[if_pos h,if_pos h]
 rw[if_neg h,if_neg h,ztc];have hne:fl l≠ []:=fun e=>by rw[zij l h] at e;cases e
 unfold Pt.kw lbd lpF;refine Sg.zih ?_ ?_ (fun k h0 hk=>?_) l
 ·unfold Pt.zeU;rw[if_neg hne,if_pos (.inl rfl)]
 ·unfold Pt.zeU;rw[if_neg hne,if_pos (.inr (zgu l).symm)]
 ·have hk':k<(fl l).length:=by rw[zgu];exact hk
  unfold Pt.zeU;rw[if_neg hne,if_neg (by omega),Li.ztd (znZ l) h0 hk']
  rfl
theorem zte:Dc.eT Dc.lnU=Pt.ah:=by rfl
theorem zgj (c:Nat) (hc:c<26) (k:Nat) (hk:k<26) (h:c≠k) (b:List UInt8) (hb:Dc.lnN (k:Int)=b):(Dc.lnN (c:Int)==b)=false:=by
 rw[<- hb];have H:((List.range 26).all fun x=>(List.range 26).all fun y=>x==y || !(Dc.lnN (x:Int)==Dc.lnN (y:Int)))=true:=by decide+kernel
 have h1:=sQ.1 (sQ.1 H c (sT.2 hc)) k (sT.2 hk);rw[beq_eq_false_iff_ne.2 h,sL] at h1
 simpa using h1
def ch2 (x:Nat × Bool):List Value:=[.int .i64 (x.1:Nat),.bool x.2]
def dX (P:List (Nat × Bool)):List Value:=P.flatMap ch2
theorem fP (P:List (Nat × Bool)) (x:Nat × Bool):dX (P++[x])=dX P++ch2 x:=by simp[dX]
theorem Tryz.infoChance:(Tryz.prog.info? 53).map (fun i=>(i.zero,i.size,i.bytes))=some (some (.agg #[.int .i64 0,.bool false]),2,16):=by kernel_rfl
theorem Tryz.underChances:Tryz.prog.underlying 49=some (.slice 53):=by kernel_rfl
end Ln
namespace Ln
open Go.RowKit Wt
theorem zqA (l:List UInt8):(lbs l).length<=l.length+1:=by
 unfold lbs
 by_cases h:l=[]
 ·rw[if_pos h];simp
 ·rw[if_neg h,zhZ,List.length_map]
  have h1:=List.length_filter_le (cW l) (List.range' 0 ((rl l).length+1));rw[List.length_range'] at h1;have h2:=Pt.oF _ l (sM _);omega
theorem oQ {w w':World} {B n:Nat} {v:Value} {xs:List Value} (h:w.ownsRow B 53 2 v n xs) (hb:sD w.heap.size w w'):w'.ownsRow B 53 2 v n xs:=⟨h.1,h.2.imp (fun e=>e) fun⟨q',cap,cur,k1,k2,k3,k4⟩=>⟨q',cap,cur,k1,k2,(hb.block q' (Pt.ae k3)).trans k3,k4⟩⟩
set_option maxRecDepth 100000 in
theorem gz (l:List UInt8) (hl:l.length<=80000) (w:World):
  Calls Tryz.prog 32 #[.string ⟨l.toArray⟩] w fun e w'=>∃vo vc,e= .returned (.slice vo (ct l (rl l).length).length vc)/\w'.ownsRow w.heap.size 53 2 (.slice vo (ct l (rl l).length).length vc) (ct l (rl l).length).length (dX (ct l (rl l).length))/\sD w.heap.size w w':=by
 have HL:=hid hl;have hbl:=zqA l;clear hl;go_enter Tryz.func32,Tryz.ntmps32;go_wp2_with fail;refine(Dc.db14 w).mono ?_;rintro e w1 ⟨hb,Q,rfl,hk⟩;have HB1:=hid hb;have HK:=hid hk;clear hb hk;go_wp2_with fail;refine(Dc.zgA Dc.lnU Dc.lnW Q w1 HK.out (by decide) (by decide)).mono ?_
 rintro e w2 ⟨g,nc,rfl,hn,hg,hb2⟩;rw[zhO];have HPg:=hid (Pt.zmp g nc w2 (by rw[<- zte];exact hn))
 have HG:=hid hg;have HB2:=hid hb2;clear hn hg hb2;go_wp2_with fail;refine(HPg.out).mono ?_;rintro e w3 ⟨ro,rc,rfl,hr,ho⟩;have HB3:=hid (HB2.out.trans (ho.below HB2.out.size HG.out));have HR:=hid hr;clear hr ho HPg;have HBd:=hid (fun(W:World) (h:sD w3.heap.size w3 W)=>Pt.zbq Dc.lnU Dc.lnW Pt.qp true zwj (by decide) Dc.zaH Dc.zaI (by decide) (by decide+kernel) Q ro rc l HL.out W ((HK.out.below HB3.out).below h) (HR.out.below h))
 obtain⟨nr,hnr⟩:∃n,n=Pt.qp.length:=⟨_,rfl⟩;rw[<- hnr] at HBd⊢;clear hnr HR HB2 HG;go_wp2_with fail;have HBw:=hid (show sD w3.heap.size w3 (w3.alloc (.cells #[.slice ro nr rc,.bool true] 63)) from(sI _ _).alloc (sM _) _)
 refine(HBd.out _ HBw.out).mono ?_;rintro e w4 ⟨bo,bc,rfl,hO,hB4⟩;rw[zrJ] at hO;have hRB:=Pt.nA hO rfl;have HB0:=hid (show(lbs l).length=0\/∃g,bo=some ⟨g,0,none⟩ by
  rcases hO.2 with ⟨_,h2⟩ | ⟨g,_,_,h1,_⟩
  ·exact .inl h2
  ·cases h1
   exact .inr ⟨g,rfl⟩)
 have HB4:=hid (show sD w.heap.size w w4 from HB1.out.trans ((HB3.out.mono HB1.out.size).trans ((HBw.out.trans (hB4.mono HBw.out.size)).mono (sG HB1.out.size HB3.out.size))))
 have HK4:=hid (((HK.out.below HB3.out).below HBw.out).below hB4);rw[zrJ];obtain⟨D,hD⟩:∃D,D=lbs l:=⟨_,rfl⟩;rw[<- hD] at hRB hbl HB0⊢;have HDe:=hid hD;obtain⟨nb,hnb⟩:∃nb,nb=D.length:=⟨_,rfl⟩;rw[<- hnb] at hbl HB0⊢;have HNb:=hid hnb;have HRB:=hid hRB;clear hO hB4 HBd HBw HB1 HB3 HK hRB hD hnb;go_wp2_with fail;refine(Dc.iQ l w4 (by have:=HL.out;omega)).mono ?_
 rintro e w5 ⟨xo,xc,rfl,hr,b2⟩;have HX:=hid hr;have HB5:=hid (HB4.out.trans (b2.mono HB4.out.size));have HK5:=hid (HK4.out.below b2);have HR5:=hid (HRB.out.below b2);have HN:=hid (sq l);obtain⟨n,hn⟩:∃n,n=(Dc.txt l).length:=⟨_,rfl⟩;rw[<- hn] at HN⊢;have hn9:n<=80000:=by have:=HN.out;have:=Pt.oF _ l (sM _);have:=HL.out;omega
 have hnb9:nb<=80001:=by have:=HL.out;omega
 clear hr b2 hn HB4 HK4 HRB hbl;go_wp2;go_loopw [9,10,11] (fun x y z wr=>∃(i m k:Nat) (vo:Option Addr) (vc:Nat),x= .slice vo m vc/\y= .int .i64 k/\z= .int .i64 i/\i<=n/\m<=i/\Hid (k=zgC l i)/\Hid (m=(ct l i).length)/\Hid (wr.ownsRow w5.heap.size 53 2 (.slice vo m vc) m (dX (ct l i)))/\Hid (sD w5.heap.size w5 wr)) (fun _ _ z _=>n - (sS z).toNat)
 case atStart=>exact⟨0,0,0,none,0,rfl,rfl,rfl,Nat.zero_le _,Nat.zero_le _,hid rfl,hid rfl,hid (World.ownsRow_nil _ _ _ _),hid (sI _ _)⟩
 case round=>
  obtain⟨i,m,k,vo,vc,rfl,rfl,rfl,hi,hmi,HKc,HM,HO,HB⟩:=hrel
  by_cases hlt:i<n
  ·have hj:i<(rl l).length:=by have:=HN.out;omega
   have hne:l≠ []:=fun e=>by subst e;simp[ib] at hj
   have hDl:D=lbd l:=by rw[HDe.out];exact if_neg hne
   obtain⟨x,hx⟩:∃x,x=(rl l)[i]:=⟨_,rfl⟩;have hE:(rl l)[i]? =some x:=by rw[hx];exact List.getElem?_eq_getElem hj
   have hxr:=zaf _ l (sM _) x (by rw[hx];exact sR hj)
   obtain⟨gx,hgx,hgl,q0,_,q2⟩:=HX.out i _ (jX l i x hE);subst hgx;have hmu:=zqm l i x hE;obtain⟨p1,hp1⟩:∃p,p=pos l (i+1):=⟨_,rfl⟩;have q2:w5.cell? ⟨gx,i * 3+2,none⟩=some (.int .i64 (p1:Nat)):=by rw[hp1];exact q2
   rw[<- hp1] at hmu;obtain⟨j0,a1,a2,a3,a4,a5⟩:=zfc l i (by omega)
   obtain⟨j1,b1,b2,b3,b4,b5⟩:=zfc l (i+1) hj;rw[<- hDl] at a5 b5;rw[<- HKc.out] at a5;have hks:=zvF l i;rw[<- HKc.out] at hks;obtain⟨k1,hk1⟩:∃k1,k1=zgC l (i+1):=⟨_,rfl⟩;rw[<- hk1] at b5 hks;have hknb:k<nb:=by have:=(sN.1 a5).1;have:=HNb.out;omega
   have hk1nb:k1<nb:=by have:=(sN.1 b5).1;have:=HNb.out;omega
   obtain⟨g,hg⟩:∃g,bo=some ⟨g,0,none⟩:=by
    rcases HB0.out with h | h
    ·omega
    ·exact h
   subst hg;have rd:∀t p,D[t]? =some p->g<w5.heap.size/\w5.cell? ⟨g,t,none⟩=some (.int .i64 (p:Nat)):=fun t p h=>by
    obtain⟨a,h1,h2,h3⟩:=HR5.out t (p:Int) (by rw[List.getElem?_map,h];rfl)
    cases h1
    rw[Addr.add_lit,Nat.zero_add] at h3;exact⟨h2,h3⟩
   obtain⟨pj0,hpj0⟩:∃p,p=pos l j0:=⟨_,rfl⟩;obtain⟨pj1,hpj1⟩:∃p,p=pos l j1:=⟨_,rfl⟩;rw[<- hpj0] at a5;rw[<- hpj1] at b5;have HCk:=hid (rd k pj0 a5);have HCk1:=hid (rd k1 pj1 b5);have HC1:=hid hk1;have HJ0:=hid (show cW l i=true->pj0<p1 from fun h=>by rw[hpj0,hp1,a4 h];exact j8 l i hj)
   have HJ1:=hid (show p1<=pj1 by rw[hpj1,hp1];exact gB l _ _ b1)
   have HJ2:=hid (show cW l (i+1)=true->pj1=p1 from fun h=>by rw[hpj1,hp1,b4 h])
   have HJ3:=hid (show cW l (i+1)=false->p1<pj1 from fun h=>by
    have:i+1≠j1:=fun e=>by rw[e] at h;rw[h] at b3;cases b3
    rw[hpj1,hp1];exact Sg.gC l (by omega) b2)
   have HTs:=hid (show ct l (i+1)=ct l i++if cW l (i+1)=true then [qg l p1] else [] by rw[hp1];exact zxB l i)
   have HQ:=hid (And.intro hgl (And.intro q0 q2));have HXR:=hid hxr;have HXC:=hid (show 0<=bE x.1/\bE x.1<=25 from znZ l _ (by unfold fl;exact sU.2 ⟨x,by rw[hx];exact sR hj,rfl⟩))
   have HMU:=hid hmu;have HKS:=hid hks;clear hj hne hDl hx hE hxr q0 q2 hmu hp1 a1 a2 a3 a4 a5 b1 b2 b3 b4 b5 hks hk1 rd hpj0 hpj1 hgl;have hin:(i:Int)<(n:Int):=by omega
   have hi0:(0:Int)<=(i:Int):=by omega
   obtain⟨wo,rfl⟩:∃v,v=wr:=⟨_,rfl⟩;go_wp2;go_loopw [10] (fun y wr=>∃t:Nat,y= .int .i64 t/\(t=k\/t=k1)/\Hid (sD wo.heap.size wo wr)) (fun y _=>k1+1 - (sS y).toNat)
   case atStart=>exact⟨k,rfl,.inl rfl,hid (sI _ _)⟩
   case round=>
    obtain⟨t,rfl,htk,HBi⟩:=hrel;have HBW:=hid (HB.out.trans (HBi.out.mono HB.out.size));have c2:=(HBW.out.cell (p:=⟨gx,i * 3+2,none⟩) HQ.out.1).trans HQ.out.2.2;have c0:=(HBW.out.cell (p:=⟨gx,i * 3,none⟩) HQ.out.1).trans HQ.out.2.1
    by_cases hne:t=k1
    ·subst hne
     have cb:=(HBW.out.cell (p:=⟨g,t,none⟩) HCk1.out.1).trans HCk1.out.2;have ht0:(0:Int)<=(t:Int):=by omega
     have htn:(t:Int)<(nb:Int):=by omega
     have hnl:¬(pj1:Int)<(p1:Int):=by have:=HJ1.out;omega
     obtain⟨bb,hbb⟩:∃b,b=cW l (i+1):=⟨_,rfl⟩;have HJ2:=HJ2;rw[<- hbb] at HTs HJ2 HJ3;have HCb:=hid HCk1.out;clear hbb HCk HCk1 HJ0 HJ1 HKS HKc;go_wp2_with fail;go_quiet (fail);obtain⟨wx,hwx⟩:∃v,v=wr.drewN nq:=⟨_,rfl⟩;have HBx:=hid (show sD wo.heap.size wo wx by rw[hwx];exact⟨HBi.out.os,HBi.out.tape,HBi.out.output,HBi.out.size,HBi.out.block⟩)
     rw[<- hwx];have HBX:=hid (HB.out.trans (HBx.out.mono HB.out.size));have c2:=(HBX.out.cell (p:=⟨gx,i * 3+2,none⟩) HQ.out.1).trans HQ.out.2.2;have c0:=(HBX.out.cell (p:=⟨gx,i * 3,none⟩) HQ.out.1).trans HQ.out.2.1;have cb:=(HBX.out.cell (p:=⟨g,t,none⟩) HCb.out.1).trans HCb.out.2;clear hwx HBi HBW
     cases bb with
     | false=>
      have hpe:((pj1:Int)==(p1:Int))=false:=beq_eq_false_iff_ne.2 (by have:=HJ3.out rfl;omega)
      have HT0:=hid (show ct l (i+1)=ct l i by rw[HTs.out,if_neg (by simp),List.append_nil])
      go_wp2_with fail;go_quiet (fail);obtain⟨wy,hwy⟩:∃v,v=wx.drewN nq:=⟨_,rfl⟩;have HBy:=hid (show sD wo.heap.size wo wy by rw[hwy];exact⟨HBx.out.os,HBx.out.tape,HBx.out.output,HBx.out.size,HBx.out.block⟩)
      rw[<- hwy];clear hwy c2 c0 cb;go_wp2;go_roundw
      case rel=>exact⟨i+1,m,t,vo,vc,rfl,rfl,by go_num,by omega,by omega,HC1,hid (by rw[HT0.out];exact HM.out),hid (by rw[HT0.out];exact oQ HO.out HBy.out),hid (HB.out.trans (HBy.out.mono HB.out.size))⟩
      case measure=>simp[sS];omega
     | true=>
      have hpe0:=HJ2.out rfl;subst hpe0;have hpe:((pj1:Int)==(pj1:Int))=true:=by simp
      have HT:=hid (show ct l (i+1)=ct l i++[qg l pj1] by rw[HTs.out,if_pos rfl])
      go_wp2_with fail;go_quiet (fail);obtain⟨wy,hwy⟩:∃v,v=wx.drewN nq:=⟨_,rfl⟩;have HBy:=hid (show sD wo.heap.size wo wy by rw[hwy];exact⟨HBx.out.os,HBx.out.tape,HBx.out.output,HBx.out.size,HBx.out.block⟩)
      rw[<- hwy];have HBY:=hid (HB.out.trans (HBy.out.mono HB.out.size));have c2:=(HBY.out.cell (p:=⟨gx,i * 3+2,none⟩) HQ.out.1).trans HQ.out.2.2;have c0:=(HBY.out.cell (p:=⟨gx,i * 3,none⟩) HQ.out.1).trans HQ.out.2.1;clear hwy cb;go_wp2_with fail;refine(Dc.zmi Q x.1 wy (HK5.out.below HBY.out) HXR.out).mono ?_;rintro e w6 ⟨rfl,be⟩;have HB6:=hid (HBY.out.trans (be.mono HBY.out.size));have HO6:=hid (oQ HO.out (HBy.out.trans (be.mono HBy.out.size)));obtain⟨c,hc,hc26⟩:∃c:Nat,bE x.1=(c:Int)/\c<26:=by
       have h:=HXC.out;exact⟨(bE x.1).toNat,by omega,by omega⟩
      rw[hc] at HMU⊢;obtain⟨u,hu⟩:∃u,u=Dc.lnN (c:Int):=⟨_,rfl⟩;rw[<- hu];have HU:=hid hu;have HS1:=hid (fun(W:World) (h:sD w5.heap.size w5 W)=>show W.cell? ⟨g,t,none⟩=some (.int .i64 (pj1:Nat))/\W.cell? ⟨gx,i * 3+2,none⟩=some (.int .i64 (pj1:Nat)) from⟨(h.cell (p:=⟨g,t,none⟩) HCb.out.1).trans HCb.out.2,(h.cell (p:=⟨gx,i * 3+2,none⟩) HQ.out.1).trans HQ.out.2.2⟩)
      have HSS:=hid (fun(W:World) (h:sD w6.heap.size w6 W)=>HS1.out W (HB6.out.trans (h.mono HB6.out.size)))
      clear be hu c2 c0 HBx HBX HBy HBY HO;have m9:m<=80000:=by omega
      by_cases hme:pj1=l.length
      ·have ee:((pj1:Int)==(l.length:Int))=true:=by rw[hme];simp
       have een:(pj1==l.length)=true:=by rw[hme];simp
       have eed:decide (pj1=l.length)=true:=decide_eq_true hme;have HCV:=hid (show ch2 (qg l pj1)=[.int .i64 (pj1:Nat),.bool true] by unfold ch2 qg;rw[HMU.out,eed,Bool.true_or])
       clear hme hc hc26;go_wp2_with fail;refine am [(0,true),(1,true),(2,true),(3,true),(4,true),(5,true),(6,true),(7,true),(8,true),(9,true),(10,true),(11,true),(12,true),(13,true),(14,true),(15,true),(16,true),(17,true),(18,true),(19,true),(20,true),(21,true),(22,true),(23,true),(24,true),(25,true),(26,false),(27,false),(28,true)] (fun W=>W.cell? ⟨g,t,none⟩=some (.int .i64 (pj1:Nat))/\W.cell? ⟨gx,i * 3+2,none⟩=some (.int .i64 (pj1:Nat))) (fun _=>false) (by kernel_rfl) (by kernel_rfl) (fun j hj=>by cases hj) rfl (by kernel_rfl) (HSS.out _ (show sD w6.heap.size w6 w6.drew from(sI _ _).drew)) ?_
       iterate 14 (refine av ?_ rfl (by kernel_rfl) (fun w' hS=>?_) ?_;(rotate_left;(obtain⟨s0,s1⟩:=hS;go_simp;(try simp only[ee,een,eed]);with_reducible rfl);rotate_left))
       iterate 2 (refine eJ rfl (by kernel_rfl) ?_)
       iterate 2 (refine av ?_ rfl (by kernel_rfl) (fun w' hS=>?_) ?_;(rotate_left;(obtain⟨s0,s1⟩:=hS;go_simp;(try simp only[ee,een,eed]);with_reducible rfl);rotate_left))
       iterate 2 (refine eJ rfl (by kernel_rfl) ?_)
       iterate 2 (refine av ?_ rfl (by kernel_rfl) (fun w' hS=>?_) ?_;(rotate_left;(obtain⟨s0,s1⟩:=hS;go_simp;(try simp only[ee,een,eed]);with_reducible rfl);rotate_left))
       iterate 2 (refine eJ rfl (by kernel_rfl) ?_)
       iterate 2 (refine av ?_ rfl (by kernel_rfl) (fun w' hS=>?_) ?_;(rotate_left;(obtain⟨s0,s1⟩:=hS;go_simp;(try simp only[ee,een,eed]);with_reducible rfl);rotate_left))
       refine ar rfl (by kernel_rfl) fun KK hKK=>?_
       go_simp;obtain⟨w7,hw7⟩:∃w7,w7=(w6.alloc (.cells #[.int .i64 (pj1:Nat),.bool true] 53)).drew:=⟨_,rfl⟩;rw[<- hw7];have HBB:=hid (show sD w6.heap.size w6 w7 by rw[hw7];exact sO Pt.below_box)
       have HN7:=hid (show ∀j u,[sH .i64 (pj1:Nat),.bool true][j]? =some u->w7.cell? ((⟨w6.heap.size,0,none⟩:Addr).add j)=some u by rw[hw7];exact Pt.oX w6 #[.int .i64 (pj1:Nat),.bool true] _)
       clear hw7;refine hKK _ _ (fun _=>HSS.out _ HBB.out) ?_
       clear hKK;obtain⟨iR,hiR,hz0,hz1,hz2⟩:=sP Tryz.infoChance;have HO7:=hid (show w7.ownsRow w5.heap.size 53 2 (.slice vo m vc) m (dX (ct l i)) from⟨HO6.out.1,HO6.out.2.imp (fun e=>e) fun⟨q',cap,cur,k1,k2,k3,k4⟩=>⟨q',cap,cur,k1,k2,(HBB.out.block q' (Pt.ae k3)).trans k3,k4⟩⟩)
       have HlB:=hid (show w5.heap.size<=w7.heap.size from sG HB6.out.size HBB.out.size)
       refine ar rfl (by kernel_rfl) fun KK hKK=>?_
       refine sJ _ _ _ 49 rfl w5.heap.size 53 iR (.agg #[.int .i64 0,.bool false]) 2 16 Tryz.underChances hiR hz0 hz1 hz2 rfl (by decide) (.slice vo m vc) m (dX (ct l i)) rfl HO7.out ⟨w6.heap.size,0,none⟩ 1 1 [sH .i64 (pj1:Nat),.bool true] rfl rfl HN7.out (fun u hu=>by simp at hu;rcases hu with h | h<;>rw[h]<;>rfl) (by decide) (by unfold sV;omega) (by omega) HlB.out w7.heap.size rfl ?_
       intro g8 c8 w8 o8 gr8 hl8 hlt8;have hs8:w5.heap.size<=w7.heap.size:=HlB.out;have HB8:=hid (show sD w5.heap.size w5 w8 from(HB6.out.trans (HBB.out.mono HB6.out.size)).grown gr8 hs8 (fun q hq=>by
        rcases HO7.out.2 with ⟨h1,_⟩ | ⟨q2,_,_,h1,h2,_⟩
        ·rw[h1] at hq;cases hq
        ·rw[h1] at hq;cases hq;exact h2))
       have HO8:=hid (show w8.ownsRow w5.heap.size 53 2 (.slice (some ⟨g8,0,none⟩) (m+1) c8) (m+1) (dX (ct l (i+1))) by rw[HT.out,fP,HCV.out];exact o8)
       have HM8:=hid (show m+1=(ct l (i+1)).length by rw[HT.out,sE,<- HM.out];rfl)
       refine hKK _ _ (fun _=>HS1.out _ HB8.out) ?_
       clear hKK;refine av ?_ rfl (by kernel_rfl) (fun w' hS=>?_) ?_
       rotate_left
       ·go_simp
        with_reducible rfl
       rotate_left;refine aQ (sK ?_);clear HN7 HBB HO7 HlB HSS HS1 o8 gr8 hl8 hlt8;go_simp;go_wp2;go_roundw
       case rel=>exact⟨i+1,m+1,t,_,c8,rfl,rfl,by go_num,by omega,by omega,HC1,HM8,HO8,HB8⟩
       case measure=>simp[sS];omega
      have ee:((pj1:Int)==(l.length:Int))=false:=beq_eq_false_iff_ne.2 (by omega)
      have een:(pj1==l.length)=false:=beq_eq_false_iff_ne.2 hme;have eed:decide (pj1=l.length)=false:=decide_eq_false hme;clear hme hc
      by_cases c1:c=1
      ·subst c1
       have HCV:=hid (show ch2 (qg l pj1)=[.int .i64 (pj1:Nat),.bool true] by unfold ch2 qg;rw[HMU.out,eed,sL];rfl)
       obtain rfl:u=[66,107]:=HU.out.trans (by decide+kernel)
       clear hc26 HU;go_wp2_with fail;refine am [(0,true),(1,true),(2,true),(3,true),(4,true),(5,true),(6,true),(7,true),(8,true),(9,true),(10,true),(11,true),(12,true),(13,true),(14,true),(15,true),(16,true),(17,true),(18,true),(19,true),(20,true),(21,true),(22,true),(23,true),(24,true),(25,true),(26,false),(27,false),(28,true)] (fun W=>W.cell? ⟨g,t,none⟩=some (.int .i64 (pj1:Nat))/\W.cell? ⟨gx,i * 3+2,none⟩=some (.int .i64 (pj1:Nat))) (fun _=>false) (by kernel_rfl) (by kernel_rfl) (fun j hj=>by cases hj) rfl (by kernel_rfl) (HSS.out _ (show sD w6.heap.size w6 w6.drew from(sI _ _).drew)) ?_
       iterate 18 (refine av ?_ rfl (by kernel_rfl) (fun w' hS=>?_) ?_;(rotate_left;(obtain⟨s0,s1⟩:=hS;go_simp;(try simp only[ee,een,eed]);with_reducible rfl);rotate_left))
       iterate 2 (refine eJ rfl (by kernel_rfl) ?_)
       iterate 2 (refine av ?_ rfl (by kernel_rfl) (fun w' hS=>?_) ?_;(rotate_left;(obtain⟨s0,s1⟩:=hS;go_simp;(try simp only[ee,een,eed]);with_reducible rfl);rotate_left))
       iterate 2 (refine eJ rfl (by kernel_rfl) ?_)
       iterate 2 (refine av ?_ rfl (by kernel_rfl) (fun w' hS=>?_) ?_;(rotate_left;(obtain⟨s0,s1⟩:=hS;go_simp;(try simp only[ee,een,eed]);with_reducible rfl);rotate_left))
       refine ar rfl (by kernel_rfl) fun KK hKK=>?_
       go_simp;obtain⟨w7,hw7⟩:∃w7,w7=(w6.alloc (.cells #[.int .i64 (pj1:Nat),.bool true] 53)).drew:=⟨_,rfl⟩;rw[<- hw7];have HBB:=hid (show sD w6.heap.size w6 w7 by rw[hw7];exact sO Pt.below_box)
       have HN7:=hid (show ∀j u,[sH .i64 (pj1:Nat),.bool true][j]? =some u->w7.cell? ((⟨w6.heap.size,0,none⟩:Addr).add j)=some u by rw[hw7];exact Pt.oX w6 #[.int .i64 (pj1:Nat),.bool true] _)
       clear hw7;refine hKK _ _ (fun _=>HSS.out _ HBB.out) ?_
       clear hKK;obtain⟨iR,hiR,hz0,hz1,hz2⟩:=sP Tryz.infoChance;have HO7:=hid (show w7.ownsRow w5.heap.size 53 2 (.slice vo m vc) m (dX (ct l i)) from⟨HO6.out.1,HO6.out.2.imp (fun e=>e) fun⟨q',cap,cur,k1,k2,k3,k4⟩=>⟨q',cap,cur,k1,k2,(HBB.out.block q' (Pt.ae k3)).trans k3,k4⟩⟩)
       have HlB:=hid (show w5.heap.size<=w7.heap.size from sG HB6.out.size HBB.out.size)
       refine ar rfl (by kernel_rfl) fun KK hKK=>?_
       refine sJ _ _ _ 49 rfl w5.heap.size 53 iR (.agg #[.int .i64 0,.bool false]) 2 16 Tryz.underChances hiR hz0 hz1 hz2 rfl (by decide) (.slice vo m vc) m (dX (ct l i)) rfl HO7.out ⟨w6.heap.size,0,none⟩ 1 1 [sH .i64 (pj1:Nat),.bool true] rfl rfl HN7.out (fun u hu=>by simp at hu;rcases hu with h | h<;>rw[h]<;>rfl) (by decide) (by unfold sV;omega) (by omega) HlB.out w7.heap.size rfl ?_
       intro g8 c8 w8 o8 gr8 hl8 hlt8;have hs8:w5.heap.size<=w7.heap.size:=HlB.out;have HB8:=hid (show sD w5.heap.size w5 w8 from(HB6.out.trans (HBB.out.mono HB6.out.size)).grown gr8 hs8 (fun q hq=>by
        rcases HO7.out.2 with ⟨h1,_⟩ | ⟨q2,_,_,h1,h2,_⟩
        ·rw[h1] at hq;cases hq
        ·rw[h1] at hq;cases hq;exact h2))
       have HO8:=hid (show w8.ownsRow w5.heap.size 53 2 (.slice (some ⟨g8,0,none⟩) (m+1) c8) (m+1) (dX (ct l (i+1))) by rw[HT.out,fP,HCV.out];exact o8)
       have HM8:=hid (show m+1=(ct l (i+1)).length by rw[HT.out,sE,<- HM.out];rfl)
       refine hKK _ _ (fun _=>HS1.out _ HB8.out) ?_
       clear hKK;refine av ?_ rfl (by kernel_rfl) (fun w' hS=>?_) ?_
       rotate_left
       ·go_simp
        with_reducible rfl
       rotate_left;refine aQ (sK ?_);clear HN7 HBB HO7 HlB HSS HS1 o8 gr8 hl8 hlt8;go_simp;go_wp2;go_roundw
       case rel=>exact⟨i+1,m+1,t,_,c8,rfl,rfl,by go_num,by omega,by omega,HC1,HM8,HO8,HB8⟩
       case measure=>simp[sS];omega
      by_cases c3:c=3
      ·subst c3
       have HCV:=hid (show ch2 (qg l pj1)=[.int .i64 (pj1:Nat),.bool true] by unfold ch2 qg;rw[HMU.out,eed,sL];rfl)
       obtain rfl:u=[76,102]:=HU.out.trans (by decide+kernel)
       clear hc26 HU;go_wp2_with fail;refine am [(0,true),(1,true),(2,true),(3,true),(4,true),(5,true),(6,true),(7,true),(8,true),(9,true),(10,true),(11,true),(12,true),(13,true),(14,true),(15,true),(16,true),(17,true),(18,true),(19,true),(20,true),(21,true),(22,true),(23,true),(24,true),(25,true),(26,false),(27,false),(28,true)] (fun W=>W.cell? ⟨g,t,none⟩=some (.int .i64 (pj1:Nat))/\W.cell? ⟨gx,i * 3+2,none⟩=some (.int .i64 (pj1:Nat))) (fun _=>false) (by kernel_rfl) (by kernel_rfl) (fun j hj=>by cases hj) rfl (by kernel_rfl) (HSS.out _ (show sD w6.heap.size w6 w6.drew from(sI _ _).drew)) ?_
       iterate 22 (refine av ?_ rfl (by kernel_rfl) (fun w' hS=>?_) ?_;(rotate_left;(obtain⟨s0,s1⟩:=hS;go_simp;(try simp only[ee,een,eed]);with_reducible rfl);rotate_left))
       iterate 2 (refine eJ rfl (by kernel_rfl) ?_)
       iterate 2 (refine av ?_ rfl (by kernel_rfl) (fun w' hS=>?_) ?_;(rotate_left;(obtain⟨s0,s1⟩:=hS;go_simp;(try simp only[ee,een,eed]);with_reducible rfl);rotate_left))
       refine ar rfl (by kernel_rfl) fun KK hKK=>?_
       go_simp;obtain⟨w7,hw7⟩:∃w7,w7=(w6.alloc (.cells #[.int .i64 (pj1:Nat),.bool true] 53)).drew:=⟨_,rfl⟩;rw[<- hw7];have HBB:=hid (show sD w6.heap.size w6 w7 by rw[hw7];exact sO Pt.below_box)
       have HN7:=hid (show ∀j u,[sH .i64 (pj1:Nat),.bool true][j]? =some u->w7.cell? ((⟨w6.heap.size,0,none⟩:Addr).add j)=some u by rw[hw7];exact Pt.oX w6 #[.int .i64 (pj1:Nat),.bool true] _)
       clear hw7;refine hKK _ _ (fun _=>HSS.out _ HBB.out) ?_
       clear hKK;obtain⟨iR,hiR,hz0,hz1,hz2⟩:=sP Tryz.infoChance;have HO7:=hid (show w7.ownsRow w5.heap.size 53 2 (.slice vo m vc) m (dX (ct l i)) from⟨HO6.out.1,HO6.out.2.imp (fun e=>e) fun⟨q',cap,cur,k1,k2,k3,k4⟩=>⟨q',cap,cur,k1,k2,(HBB.out.block q' (Pt.ae k3)).trans k3,k4⟩⟩)
       have HlB:=hid (show w5.heap.size<=w7.heap.size from sG HB6.out.size HBB.out.size)
       refine ar rfl (by kernel_rfl) fun KK hKK=>?_
       refine sJ _ _ _ 49 rfl w5.heap.size 53 iR (.agg #[.int .i64 0,.bool false]) 2 16 Tryz.underChances hiR hz0 hz1 hz2 rfl (by decide) (.slice vo m vc) m (dX (ct l i)) rfl HO7.out ⟨w6.heap.size,0,none⟩ 1 1 [sH .i64 (pj1:Nat),.bool true] rfl rfl HN7.out (fun u hu=>by simp at hu;rcases hu with h | h<;>rw[h]<;>rfl) (by decide) (by unfold sV;omega) (by omega) HlB.out w7.heap.size rfl ?_
       intro g8 c8 w8 o8 gr8 hl8 hlt8;have hs8:w5.heap.size<=w7.heap.size:=HlB.out;have HB8:=hid (show sD w5.heap.size w5 w8 from(HB6.out.trans (HBB.out.mono HB6.out.size)).grown gr8 hs8 (fun q hq=>by
        rcases HO7.out.2 with ⟨h1,_⟩ | ⟨q2,_,_,h1,h2,_⟩
        ·rw[h1] at hq;cases hq
        ·rw[h1] at hq;cases hq;exact h2))
       have HO8:=hid (show w8.ownsRow w5.heap.size 53 2 (.slice (some ⟨g8,0,none⟩) (m+1) c8) (m+1) (dX (ct l (i+1))) by rw[HT.out,fP,HCV.out];exact o8)
       have HM8:=hid (show m+1=(ct l (i+1)).length by rw[HT.out,sE,<- HM.out];rfl)
       refine hKK _ _ (fun _=>HS1.out _ HB8.out) ?_
       clear hKK;refine av ?_ rfl (by kernel_rfl) (fun w' hS=>?_) ?_
       rotate_left
       ·go_simp
        with_reducible rfl
       rotate_left;refine aQ (sK ?_);clear HN7 HBB HO7 HlB HSS HS1 o8 gr8 hl8 hlt8;go_simp;go_wp2;go_roundw
       case rel=>exact⟨i+1,m+1,t,_,c8,rfl,rfl,by go_num,by omega,by omega,HC1,HM8,HO8,HB8⟩
       case measure=>simp[sS];omega
      by_cases c2:c=2
      ·subst c2
       have HCV:=hid (show ch2 (qg l pj1)=[.int .i64 (pj1:Nat),.bool true] by unfold ch2 qg;rw[HMU.out,eed,sL];rfl)
       obtain rfl:u=[67,114]:=HU.out.trans (by decide+kernel)
       clear hc26 HU;go_wp2_with fail;refine am [(0,true),(1,true),(2,true),(3,true),(4,true),(5,true),(6,true),(7,true),(8,true),(9,true),(10,true),(11,true),(12,true),(13,true),(14,true),(15,true),(16,true),(17,true),(18,true),(19,true),(20,true),(21,true),(22,true),(23,true),(24,true),(25,true),(26,false),(27,false),(28,true)] (fun W=>W.cell? ⟨g,t,none⟩=some (.int .i64 (pj1:Nat))/\W.cell? ⟨gx,i * 3+2,none⟩=some (.int .i64 (pj1:Nat))) (fun _=>false) (by kernel_rfl) (by kernel_rfl) (fun j hj=>by cases hj) rfl (by kernel_rfl) (HSS.out _ (show sD w6.heap.size w6 w6.drew from(sI _ _).drew)) ?_
       iterate 26 (refine av ?_ rfl (by kernel_rfl) (fun w' hS=>?_) ?_;(rotate_left;(obtain⟨s0,s1⟩:=hS;go_simp;(try simp only[ee,een,eed]);with_reducible rfl);rotate_left))
       refine ar rfl (by kernel_rfl) fun KK hKK=>?_
       go_simp;obtain⟨w7,hw7⟩:∃w7,w7=(w6.alloc (.cells #[.int .i64 (pj1:Nat),.bool true] 53)).drew:=⟨_,rfl⟩;rw[<- hw7];have HBB:=hid (show sD w6.heap.size w6 w7 by rw[hw7];exact sO Pt.below_box)
       have HN7:=hid (show ∀j u,[sH .i64 (pj1:Nat),.bool true][j]? =some u->w7.cell? ((⟨w6.heap.size,0,none⟩:Addr).add j)=some u by rw[hw7];exact Pt.oX w6 #[.int .i64 (pj1:Nat),.bool true] _)
       clear hw7;refine hKK _ _ (fun _=>HSS.out _ HBB.out) ?_
       clear hKK;obtain⟨iR,hiR,hz0,hz1,hz2⟩:=sP Tryz.infoChance;have HO7:=hid (show w7.ownsRow w5.heap.size 53 2 (.slice vo m vc) m (dX (ct l i)) from⟨HO6.out.1,HO6.out.2.imp (fun e=>e) fun⟨q',cap,cur,k1,k2,k3,k4⟩=>⟨q',cap,cur,k1,k2,(HBB.out.block q' (Pt.ae k3)).trans k3,k4⟩⟩)
       have HlB:=hid (show w5.heap.size<=w7.heap.size from sG HB6.out.size HBB.out.size)
       refine ar rfl (by kernel_rfl) fun KK hKK=>?_
       refine sJ _ _ _ 49 rfl w5.heap.size 53 iR (.agg #[.int .i64 0,.bool false]) 2 16 Tryz.underChances hiR hz0 hz1 hz2 rfl (by decide) (.slice vo m vc) m (dX (ct l i)) rfl HO7.out ⟨w6.heap.size,0,none⟩ 1 1 [sH .i64 (pj1:Nat),.bool true] rfl rfl HN7.out (fun u hu=>by simp at hu;rcases hu with h | h<;>rw[h]<;>rfl) (by decide) (by unfold sV;omega) (by omega) HlB.out w7.heap.size rfl ?_
       intro g8 c8 w8 o8 gr8 hl8 hlt8;have hs8:w5.heap.size<=w7.heap.size:=HlB.out;have HB8:=hid (show sD w5.heap.size w5 w8 from(HB6.out.trans (HBB.out.mono HB6.out.size)).grown gr8 hs8 (fun q hq=>by
        rcases HO7.out.2 with ⟨h1,_⟩ | ⟨q2,_,_,h1,h2,_⟩
        ·rw[h1] at hq;cases hq
        ·rw[h1] at hq;cases hq;exact h2))
       have HO8:=hid (show w8.ownsRow w5.heap.size 53 2 (.slice (some ⟨g8,0,none⟩) (m+1) c8) (m+1) (dX (ct l (i+1))) by rw[HT.out,fP,HCV.out];exact o8)
       have HM8:=hid (show m+1=(ct l (i+1)).length by rw[HT.out,sE,<- HM.out];rfl)
       refine hKK _ _ (fun _=>HS1.out _ HB8.out) ?_
       clear hKK;refine av ?_ rfl (by kernel_rfl) (fun w' hS=>?_) ?_
       rotate_left
       ·go_simp
        with_reducible rfl
       rotate_left;refine aQ (sK ?_);clear HN7 HBB HO7 HlB HSS HS1 o8 gr8 hl8 hlt8;go_simp;go_wp2;go_roundw
       case rel=>exact⟨i+1,m+1,t,_,c8,rfl,rfl,by go_num,by omega,by omega,HC1,HM8,HO8,HB8⟩
       case measure=>simp[sS];omega
      have HCV:=hid (show ch2 (qg l pj1)=[.int .i64 (pj1:Nat),.bool false] by
       unfold ch2 qg;rw[HMU.out,eed,sL];unfold Li.qA;rw[beq_eq_false_iff_ne.2 (show(c:Int)≠1 by omega),beq_eq_false_iff_ne.2 (show(c:Int)≠2 by omega),beq_eq_false_iff_ne.2 (show(c:Int)≠3 by omega)]
       rfl)
      have u1:(u== [66,107])=false:=by rw[HU.out];exact zgj c hc26 1 (by omega) c1 _ (by decide+kernel)
      have u3:(u== [76,102])=false:=by rw[HU.out];exact zgj c hc26 3 (by omega) c3 _ (by decide+kernel)
      have u2:(u== [67,114])=false:=by rw[HU.out];exact zgj c hc26 2 (by omega) c2 _ (by decide+kernel)
      clear c1 c2 c3 hc26 HU;go_wp2_with fail;refine am [(0,true),(1,true),(2,true),(3,true),(4,true),(5,true),(6,true),(7,true),(8,true),(9,true),(10,true),(11,true),(12,true),(13,true),(14,true),(15,true),(16,true),(17,true),(18,true),(19,true),(20,true),(21,true),(22,true),(23,true),(24,true),(25,true),(26,false),(27,false),(28,true)] (fun W=>W.cell? ⟨g,t,none⟩=some (.int .i64 (pj1:Nat))/\W.cell? ⟨gx,i * 3+2,none⟩=some (.int .i64 (pj1:Nat))) (fun _=>false) (by kernel_rfl) (by kernel_rfl) (fun j hj=>by cases hj) rfl (by kernel_rfl) (HSS.out _ (show sD w6.heap.size w6 w6.drew from(sI _ _).drew)) ?_
      iterate 26 (refine av ?_ rfl (by kernel_rfl) (fun w' hS=>?_) ?_;(rotate_left;(obtain⟨s0,s1⟩:=hS;go_simp;(try simp only[ee,een,eed]);with_reducible rfl);rotate_left))
      refine ar rfl (by kernel_rfl) fun KK hKK=>?_
      go_simp;obtain⟨w7,hw7⟩:∃w7,w7=(w6.alloc (.cells #[.int .i64 (pj1:Nat),.bool false] 53)).drew:=⟨_,rfl⟩;rw[<- hw7];have HBB:=hid (show sD w6.heap.size w6 w7 by rw[hw7];exact sO Pt.below_box)
      have HN7:=hid (show ∀j u,[sH .i64 (pj1:Nat),.bool false][j]? =some u->w7.cell? ((⟨w6.heap.size,0,none⟩:Addr).add j)=some u by rw[hw7];exact Pt.oX w6 #[.int .i64 (pj1:Nat),.bool false] _)
      clear hw7;refine hKK _ _ (fun _=>HSS.out _ HBB.out) ?_
      clear hKK;obtain⟨iR,hiR,hz0,hz1,hz2⟩:=sP Tryz.infoChance;have HO7:=hid (show w7.ownsRow w5.heap.size 53 2 (.slice vo m vc) m (dX (ct l i)) from⟨HO6.out.1,HO6.out.2.imp (fun e=>e) fun⟨q',cap,cur,k1,k2,k3,k4⟩=>⟨q',cap,cur,k1,k2,(HBB.out.block q' (Pt.ae k3)).trans k3,k4⟩⟩)
      have HlB:=hid (show w5.heap.size<=w7.heap.size from sG HB6.out.size HBB.out.size)
      refine ar rfl (by kernel_rfl) fun KK hKK=>?_
      refine sJ _ _ _ 49 rfl w5.heap.size 53 iR (.agg #[.int .i64 0,.bool false]) 2 16 Tryz.underChances hiR hz0 hz1 hz2 rfl (by decide) (.slice vo m vc) m (dX (ct l i)) rfl HO7.out ⟨w6.heap.size,0,none⟩ 1 1 [sH .i64 (pj1:Nat),.bool false] rfl rfl HN7.out (fun u hu=>by simp at hu;rcases hu with h | h<;>rw[h]<;>rfl) (by decide) (by unfold sV;omega) (by omega) HlB.out w7.heap.size rfl ?_
      intro g8 c8 w8 o8 gr8 hl8 hlt8;have hs8:w5.heap.size<=w7.heap.size:=HlB.out;have HB8:=hid (show sD w5.heap.size w5 w8 from(HB6.out.trans (HBB.out.mono HB6.out.size)).grown gr8 hs8 (fun q hq=>by
       rcases HO7.out.2 with ⟨h1,_⟩ | ⟨q2,_,_,h1,h2,_⟩
       ·rw[h1] at hq;cases hq
       ·rw[h1] at hq;cases hq;exact h2))
      have HO8:=hid (show w8.ownsRow w5.heap.size 53 2 (.slice (some ⟨g8,0,none⟩) (m+1) c8) (m+1) (dX (ct l (i+1))) by rw[HT.out,fP,HCV.out];exact o8)
      have HM8:=hid (show m+1=(ct l (i+1)).length by rw[HT.out,sE,<- HM.out];rfl)
      refine hKK _ _ (fun _=>HS1.out _ HB8.out) ?_
      clear hKK;refine av ?_ rfl (by kernel_rfl) (fun w' hS=>?_) ?_
      rotate_left
      ·go_simp
       with_reducible rfl
      rotate_left;refine aQ (sK ?_);clear HN7 HBB HO7 HlB HSS HS1 o8 gr8 hl8 hlt8;go_simp;go_wp2;go_roundw
      case rel=>exact⟨i+1,m+1,t,_,c8,rfl,rfl,by go_num,by omega,by omega,HC1,HM8,HO8,HB8⟩
      case measure=>simp[sS];omega
    ·have htk':t=k:=by omega
     subst htk';have hb:cW l i=true/\k1=t+1:=by
      have:=HKS.out
      by_cases h:cW l i=true
      ·rw[if_pos h] at this;exact⟨h,this⟩
      ·rw[if_neg h] at this;omega
     have hlt0:=HJ0.out hb.1;have cb:=(HBW.out.cell (p:=⟨g,t,none⟩) HCk.out.1).trans HCk.out.2;have hl0:(pj0:Int)<(p1:Int):=by omega
     have ht0:(0:Int)<=(t:Int):=by omega
     have htn:(t:Int)<(nb:Int):=by omega
     have HKE:=hid hb.2;clear hb hlt0 hne htk;go_wp2_with fail;go_quiet (fail);obtain⟨wx,hwx⟩:∃v,v=wr.drewN nq:=⟨_,rfl⟩;have HBx:=hid (show sD wo.heap.size wo wx by rw[hwx];exact⟨HBi.out.os,HBi.out.tape,HBi.out.output,HBi.out.size,HBi.out.block⟩)
     rw[<- hwx];clear hwx c2 c0 cb;go_wp2;go_roundw
     case rel=>exact⟨t+1,by go_num,.inr HKE.out.symm,HBx⟩
     case measure=>have:=HKE.out;simp[sS];omega
  ·have hin:¬(i:Int)<(n:Int):=by omega
   obtain rfl:i=n:=by omega
   have HQ:=hid (show ∃vo' vc',Ending.returned (.slice vo m vc)= .returned (.slice vo' (ct l (rl l).length).length vc')/\wr.ownsRow w.heap.size 53 2 (.slice vo' (ct l (rl l).length).length vc') (ct l (rl l).length).length (dX (ct l (rl l).length))/\sD w.heap.size w wr from by
    have h1:=HO.out;have h2:=HM.out;rw[show i=(rl l).length from HN.out] at h1 h2
    rw[<- h2];exact⟨vo,vc,rfl,⟨h1.1,h1.2.imp (fun e=>e) fun⟨q,cap,cur,k1,k2,k3⟩=>⟨q,cap,cur,k1,sG HB5.out.size k2,k3⟩⟩,HB5.out.trans (HB.out.mono HB5.out.size)⟩)
   go_wp2;go_ret;exact HQ.out
end Ln
end Go.Proofs.YtbbapnpdfcgjnaaGreatDoor
