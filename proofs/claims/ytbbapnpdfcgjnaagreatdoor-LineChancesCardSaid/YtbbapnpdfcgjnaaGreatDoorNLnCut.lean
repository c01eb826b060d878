/- LnCut, LnCh, LnChP: parts of the proof, joined. -/
import Derived.Test.YtbbapnpdfcgjnaaGreatDoorNStBd
import Derived.Test.YtbbapnpdfcgjnaaGreatDoorNLnNm
import Derived.Test.YtbbapnpdfcgjnaaGreatDoorNLnEdge
open Go.RowKit renaming Below->sH, intOf->sW
open List renaming length_append->sI, getElem?_eq_some_iff->sR, all_eq_true->sU, getElem_mem->sV, length_map->sX, mem_range->sY, mem_map->tc
open Nat renaming le_refl->sJ, le_trans->sL
open Go.RowKit.Below renaming refl->sK, drew->sS
open Go.Value renaming int->sM
open Go renaming wp_append_lies->sN, info_parts->sQ, World->sZ, maxLen->ta, Value->td
open Go.NoPanic renaming normal->sO
open Bool renaming false_or->sP
set_option maxHeartbeats 64000000
namespace Go.Proofs.YtbbapnpdfcgjnaaGreatDoor
namespace Ln
open Go.RowKit Wt
theorem sq:∀(n:Nat) (l:List UInt8),l.length<=n->∀x∈rl l,x.1<=1114111
 | n,l,hn,x,hx=>by
  by_cases hl:l=[]
  ·rw[hl,gU] at hx;cases hx
  ·have h1:=dec_ge l hl
   have hp:0<l.length:=List.length_pos_iff.2 hl;rw[cC l hl] at hx
   rcases List.mem_cons.1 hx with rfl | hx
   ·exact dec_rune l hl
   ·cases n with
    | zero=>omega
    | succ n=>exact sq n _ (by rw[List.length_drop];omega) x hx
theorem zhv:Dc.lnU.length=26:=by decide
theorem znC (l:List UInt8):Li.Cls (fl l):=fun c hc=>by
 unfold fl at hc;obtain⟨x,hx,rfl⟩:=tc.1 hc;have h:=sq _ l (sJ _) x hx;have h2:=Dc.zfV Dc.lnW _ Dc.zaq Dc.zar (x.1:Int) (by omega) (by omega)
 rw[Dc.zfD (x.1:Int) (by omega) (by omega)]
 rw[zhv] at h2;exact⟨by omega,by omega⟩
theorem zvO:∀r∈Pt.qa,Pt.zgz r:=Pt.ziN (by decide+kernel)
theorem zsH (l:List UInt8):Pt.kX Dc.lnW l=fl l:=by
 unfold Pt.kX Pt.dcl fl;rw[List.map_map]
 apply List.map_congr_left
 intro x hx;have h:=sq _ l (sJ _) x hx
 show((Dc.gtp (Dc.cd (x.1:Int)) Dc.lnW:Nat):Int)=bE (x.1:Int)
 rw[show Dc.cd (x.1:Int)=(x.1:Int) by unfold Dc.cd;rw[if_neg (by omega)],Dc.zfD _ (by omega) (by omega)]
theorem zrq (l:List UInt8):Pt.zqO Dc.lnW Pt.qa true l=lbs l:=by
 unfold Pt.zqO lbs
 by_cases h:l=[]
 ·rw[if_pos h,if_pos h]
 rw[if_neg h,if_neg h,zsH];have hne:fl l≠ []:=fun e=>by rw[zhP l h] at e;cases e
 unfold Pt.kf lbd lpF;refine Sg.zhN ?_ ?_ (fun k h0 hk=>?_) l
 ·unfold Pt.zey;rw[if_neg hne,if_pos (.inl rfl)]
 ·unfold Pt.zey;rw[if_neg hne,if_pos (.inr (zfZ l).symm)]
 ·have hk':k<(fl l).length:=by rw[zfZ];exact hk
  unfold Pt.zey;rw[if_neg hne,if_neg (by omega),Li.zsI (znC l) h0 hk']
  rfl
theorem zsJ:Dc.eR Dc.lnU=Pt.ah:=by rfl
theorem zfN (c:Nat) (hc:c<26) (k:Nat) (hk:k<26) (h:c≠k) (b:List UInt8) (hb:Dc.lnN (k:Int)=b):(Dc.lnN (c:Int)==b)=false:=by
 rw[<- hb];have H:((List.range 26).all fun x=>(List.range 26).all fun y=>x==y || !(Dc.lnN (x:Int)==Dc.lnN (y:Int)))=true:=by decide+kernel
 have h1:=sU.1 (sU.1 H c (sY.2 hc)) k (sY.2 hk);rw[beq_eq_false_iff_ne.2 h,sP] at h1
 simpa using h1
def ch2 (x:Nat × Bool):List td:=[.int .i64 (x.1:Nat),.bool x.2]
def du (P:List (Nat × Bool)):List td:=P.flatMap ch2
theorem fH (P:List (Nat × Bool)) (x:Nat × Bool):du (P++[x])=du P++ch2 x:=by simp[du]
theorem Tryz.infoChance:(Tryz.prog.info? 53).map (fun i=>(i.zero,i.size,i.bytes))=some (some (.agg #[.int .i64 0,.bool false]),2,16):=by kernel_rfl
theorem Tryz.underChances:Tryz.prog.underlying 49=some (.slice 53):=by kernel_rfl
end Ln
namespace Ln
open Go.RowKit Wt
theorem zqd (l:List UInt8):(lbs l).length<=l.length+1:=by
 unfold lbs
 by_cases h:l=[]
 ·rw[if_pos h];simp
 ·rw[if_neg h,zaw,sX]
  have h1:=List.length_filter_le (dT l) (List.range' 0 ((rl l).length+1));rw[List.length_range'] at h1;have h2:=Pt.zbW _ l (sJ _);omega
theorem oI {w w':sZ} {B n:Nat} {v:td} {xs:List td} (h:w.ownsRow B 53 2 v n xs) (hb:sH w.heap.size w w'):w'.ownsRow B 53 2 v n xs:=⟨h.1,h.2.imp (fun e=>e) fun⟨q',cap,cur,k1,k2,k3,k4⟩=>⟨q',cap,cur,k1,k2,(hb.block q' (Pt.ae k3)).trans k3,k4⟩⟩
set_option maxRecDepth 100000 in
theorem sA (l:List UInt8) (hl:l.length<=80000) (w:sZ):
  Calls Tryz.prog 32 #[.string ⟨l.toArray⟩] w fun e w'=>∃vo vc,e= .returned (.slice vo (eM l (rl l).length).length vc)/\w'.ownsRow w.heap.size 53 2 (.slice vo (eM l (rl l).length).length vc) (eM l (rl l).length).length (du (eM l (rl l).length))/\sH w.heap.size w w':=by
 have HL:=hid hl;have hbl:=zqd l;clear hl;go_enter Tryz.func32,Tryz.ntmps32;go_wp2_with fail;refine(Dc.db14 w).mono ?_;rintro e w1 ⟨hb,Q,rfl,hk⟩;have HB1:=hid hb;have HK:=hid hk;clear hb hk;go_wp2_with fail;refine(Dc.zgf Dc.lnU Dc.lnW Q w1 HK.out (by decide) (by decide)).mono ?_
 rintro e w2 ⟨g,nc,rfl,hn,hg,hb2⟩;rw[zhv];have HPg:=hid (Pt.zlR g nc w2 (by rw[<- zsJ];exact hn))
 have HG:=hid hg;have HB2:=hid hb2;clear hn hg hb2;go_wp2_with fail;refine(HPg.out).mono ?_;rintro e w3 ⟨ro,rc,rfl,hr,ho⟩;have HB3:=hid (HB2.out.trans (ho.below HB2.out.size HG.out));have HR:=hid hr;clear hr ho HPg;have HBd:=hid (fun(W:sZ) (h:sH w3.heap.size w3 W)=>Pt.zaY Dc.lnU Dc.lnW Pt.qa true zvO (by decide) Dc.zaq Dc.zar (by decide) (by decide+kernel) Q ro rc l HL.out W ((HK.out.below HB3.out).below h) (HR.out.below h))
 obtain⟨nr,hnr⟩:∃n,n=Pt.qa.length:=⟨_,rfl⟩;rw[<- hnr] at HBd⊢;clear hnr HR HB2 HG;go_wp2_with fail;have HBw:=hid (show sH w3.heap.size w3 (w3.alloc (.cells #[.slice ro nr rc,.bool true] 63)) from(sK _ _).alloc (sJ _) _)
 refine(HBd.out _ HBw.out).mono ?_;rintro e w4 ⟨bo,bc,rfl,hO,hB4⟩;rw[zrq] at hO;have hRB:=Pt.nh hO rfl;have HB0:=hid (show(lbs l).length=0\/∃g,bo=some ⟨g,0,none⟩ by
  rcases hO.2 with ⟨_,h2⟩ | ⟨g,_,_,h1,_⟩
  ·exact .inl h2
  ·cases h1
   exact .inr ⟨g,rfl⟩)
 have HB4:=hid (show sH w.heap.size w w4 from HB1.out.trans ((HB3.out.mono HB1.out.size).trans ((HBw.out.trans (hB4.mono HBw.out.size)).mono (sL HB1.out.size HB3.out.size))))
 have HK4:=hid (((HK.out.below HB3.out).below HBw.out).below hB4);rw[zrq];obtain⟨D,hD⟩:∃D,D=lbs l:=⟨_,rfl⟩;rw[<- hD] at hRB hbl HB0⊢;have HDe:=hid hD;obtain⟨nb,hnb⟩:∃nb,nb=D.length:=⟨_,rfl⟩;rw[<- hnb] at hbl HB0⊢;have HNb:=hid hnb;have HRB:=hid hRB;clear hO hB4 HBd HBw HB1 HB3 HK hRB hD hnb;go_wp2_with fail;refine(Dc.iI l w4 (by have:=HL.out;omega)).mono ?_
 rintro e w5 ⟨xo,xc,rfl,hr,b2⟩;have HX:=hid hr;have HB5:=hid (HB4.out.trans (b2.mono HB4.out.size));have HK5:=hid (HK4.out.below b2);have HR5:=hid (HRB.out.below b2);have HN:=hid (rO l);obtain⟨n,hn⟩:∃n,n=(Dc.txt l).length:=⟨_,rfl⟩;rw[<- hn] at HN⊢;have hn9:n<=80000:=by have:=HN.out;have:=Pt.zbW _ l (sJ _);have:=HL.out;omega
 have hnb9:nb<=80001:=by have:=HL.out;omega
 clear hr b2 hn HB4 HK4 HRB hbl;go_wp2;go_loopw [9,10,11] (fun x y z wr=>∃(i m k:Nat) (vo:Option Addr) (vc:Nat),x= .slice vo m vc/\y= .int .i64 k/\z= .int .i64 i/\i<=n/\m<=i/\Hid (k=zgh l i)/\Hid (m=(eM l i).length)/\Hid (wr.ownsRow w5.heap.size 53 2 (.slice vo m vc) m (du (eM l i)))/\Hid (sH w5.heap.size w5 wr)) (fun _ _ z _=>n - (sW z).toNat)
 case atStart=>exact⟨0,0,0,none,0,rfl,rfl,rfl,Nat.zero_le _,Nat.zero_le _,hid rfl,hid rfl,hid (sZ.ownsRow_nil _ _ _ _),hid (sK _ _)⟩
 case round=>
  obtain⟨i,m,k,vo,vc,rfl,rfl,rfl,hi,hmi,HKc,HM,HO,HB⟩:=hrel
  by_cases hlt:i<n
  ·have hj:i<(rl l).length:=by have:=HN.out;omega
   have hne:l≠ []:=fun e=>by subst e;simp[gU] at hj
   have hDl:D=lbd l:=by rw[HDe.out];exact if_neg hne
   obtain⟨x,hx⟩:∃x,x=(rl l)[i]:=⟨_,rfl⟩;have hE:(rl l)[i]? =some x:=by rw[hx];exact List.getElem?_eq_getElem hj
   have hxr:=sq _ l (sJ _) x (by rw[hx];exact sV hj)
   obtain⟨gx,hgx,hgl,q0,_,q2⟩:=HX.out i _ (jM l i x hE);subst hgx;have hmu:=zpP l i x hE;obtain⟨p1,hp1⟩:∃p,p=pos l (i+1):=⟨_,rfl⟩;have q2:w5.cell? ⟨gx,i * 3+2,none⟩=some (.int .i64 (p1:Nat)):=by rw[hp1];exact q2
   rw[<- hp1] at hmu;obtain⟨j0,a1,a2,a3,a4,a5⟩:=zeG l i (by omega)
   obtain⟨j1,b1,b2,b3,b4,b5⟩:=zeG l (i+1) hj;rw[<- hDl] at a5 b5;rw[<- HKc.out] at a5;have hks:=zvl l i;rw[<- HKc.out] at hks;obtain⟨k1,hk1⟩:∃k1,k1=zgh l (i+1):=⟨_,rfl⟩;rw[<- hk1] at b5 hks;have hknb:k<nb:=by have:=(sR.1 a5).1;have:=HNb.out;omega
   have hk1nb:k1<nb:=by have:=(sR.1 b5).1;have:=HNb.out;omega
   obtain⟨g,hg⟩:∃g,bo=some ⟨g,0,none⟩:=by
    rcases HB0.out with h | h
    ·omega
    ·exact h
   subst hg;have rd:∀t p,D[t]? =some p->g<w5.heap.size/\w5.cell? ⟨g,t,none⟩=some (.int .i64 (p:Nat)):=fun t p h=>by
    obtain⟨a,h1,h2,h3⟩:=HR5.out t (p:Int) (by rw[List.getElem?_map,h];rfl)
    cases h1
    rw[Addr.add_lit,Nat.zero_add] at h3;exact⟨h2,h3⟩
   obtain⟨pj0,hpj0⟩:∃p,p=pos l j0:=⟨_,rfl⟩;obtain⟨pj1,hpj1⟩:∃p,p=pos l j1:=⟨_,rfl⟩;rw[<- hpj0] at a5;rw[<- hpj1] at b5;have HCk:=hid (rd k pj0 a5);have HCk1:=hid (rd k1 pj1 b5);have HC1:=hid hk1;have HJ0:=hid (show dT l i=true->pj0<p1 from fun h=>by rw[hpj0,hp1,a4 h];exact oF l i hj)
   have HJ1:=hid (show p1<=pj1 by rw[hpj1,hp1];exact zpI l _ _ b1)
   have HJ2:=hid (show dT l (i+1)=true->pj1=p1 from fun h=>by rw[hpj1,hp1,b4 h])
   have HJ3:=hid (show dT l (i+1)=false->p1<pj1 from fun h=>by
    have:i+1≠j1:=fun e=>by rw[e] at h;rw[h] at b3;cases b3
    rw[hpj1,hp1];exact Sg.zhe l (by omega) b2)
   have HTs:=hid (show eM l (i+1)=eM l i++if dT l (i+1)=true then [chO l p1] else [] by rw[hp1];exact zxg l i)
   have HQ:=hid (And.intro hgl (And.intro q0 q2));have HXR:=hid hxr;have HXC:=hid (show 0<=bE x.1/\bE x.1<=25 from znC l _ (by unfold fl;exact tc.2 ⟨x,by rw[hx];exact sV hj,rfl⟩))
   have HMU:=hid hmu;have HKS:=hid hks;clear hj hne hDl hx hE hxr q0 q2 hmu hp1 a1 a2 a3 a4 a5 b1 b2 b3 b4 b5 hks hk1 rd hpj0 hpj1 hgl;have hin:(i:Int)<(n:Int):=by omega
   have hi0:(0:Int)<=(i:Int):=by omega
   obtain⟨wo,rfl⟩:∃v,v=wr:=⟨_,rfl⟩;go_wp2;go_loopw [10] (fun y wr=>∃t:Nat,y= .int .i64 t/\(t=k\/t=k1)/\Hid (sH wo.heap.size wo wr)) (fun y _=>k1+1 - (sW y).toNat)
   case atStart=>exact⟨k,rfl,.inl rfl,hid (sK _ _)⟩
   case round=>
    obtain⟨t,rfl,htk,HBi⟩:=hrel;have HBW:=hid (HB.out.trans (HBi.out.mono HB.out.size));have c2:=(HBW.out.cell (p:=⟨gx,i * 3+2,none⟩) HQ.out.1).trans HQ.out.2.2;have c0:=(HBW.out.cell (p:=⟨gx,i * 3,none⟩) HQ.out.1).trans HQ.out.2.1
    by_cases hne:t=k1
    ·subst hne
     have cb:=(HBW.out.cell (p:=⟨g,t,none⟩) HCk1.out.1).trans HCk1.out.2;have ht0:(0:Int)<=(t:Int):=by omega
     have htn:(t:Int)<(nb:Int):=by omega
     have hnl:¬(pj1:Int)<(p1:Int):=by have:=HJ1.out;omega
     obtain⟨bb,hbb⟩:∃b,b=dT l (i+1):=⟨_,rfl⟩;have HJ2:=HJ2;rw[<- hbb] at HTs HJ2 HJ3;have HCb:=hid HCk1.out;clear hbb HCk HCk1 HJ0 HJ1 HKS HKc;go_wp2_with fail;go_quiet (fail);obtain⟨wx,hwx⟩:∃v,v=wr.drewN nq:=⟨_,rfl⟩;have HBx:=hid (show sH wo.heap.size wo wx by rw[hwx];exact⟨HBi.out.os,HBi.out.tape,HBi.out.output,HBi.out.size,HBi.out.block⟩)
     rw[<- hwx];have HBX:=hid (HB.out.trans (HBx.out.mono HB.out.size));have c2:=(HBX.out.cell (p:=⟨gx,i * 3+2,none⟩) HQ.out.1).trans HQ.out.2.2;have c0:=(HBX.out.cell (p:=⟨gx,i * 3,none⟩) HQ.out.1).trans HQ.out.2.1;have cb:=(HBX.out.cell (p:=⟨g,t,none⟩) HCb.out.1).trans HCb.out.2;clear hwx HBi HBW
     cases bb with
     | false=>
      have hpe:((pj1:Int)==(p1:Int))=false:=beq_eq_false_iff_ne.2 (by have:=HJ3.out rfl;omega)
      have HT0:=hid (show eM l (i+1)=eM l i by rw[HTs.out,if_neg (by simp),List.append_nil])
      go_wp2_with fail;go_quiet (fail);obtain⟨wy,hwy⟩:∃v,v=wx.drewN nq:=⟨_,rfl⟩;have HBy:=hid (show sH wo.heap.size wo wy by rw[hwy];exact⟨HBx.out.os,HBx.out.tape,HBx.out.output,HBx.out.size,HBx.out.block⟩)
      rw[<- hwy];clear hwy c2 c0 cb;go_wp2;go_roundw
      case rel=>exact⟨i+1,m,t,vo,vc,rfl,rfl,by go_num,by omega,by omega,HC1,hid (by rw[HT0.out];exact HM.out),hid (by rw[HT0.out];exact oI HO.out HBy.out),hid (HB.out.trans (HBy.out.mono HB.out.size))⟩
      case measure=>simp[sW];omega
     | true=>
      have hpe0:=HJ2.out rfl;subst hpe0;have hpe:((pj1:Int)==(pj1:Int))=true:=by simp
      have HT:=hid (show eM l (i+1)=eM l i++[chO l pj1] by rw[HTs.out,if_pos rfl])
      go_wp2_with fail;go_quiet (fail);obtain⟨wy,hwy⟩:∃v,v=wx.drewN nq:=⟨_,rfl⟩;have HBy:=hid (show sH wo.heap.size wo wy by rw[hwy];exact⟨HBx.out.os,HBx.out.tape,HBx.out.output,HBx.out.size,HBx.out.block⟩)
      rw[<- hwy];have HBY:=hid (HB.out.trans (HBy.out.mono HB.out.size));have c2:=(HBY.out.cell (p:=⟨gx,i * 3+2,none⟩) HQ.out.1).trans HQ.out.2.2;have c0:=(HBY.out.cell (p:=⟨gx,i * 3,none⟩) HQ.out.1).trans HQ.out.2.1;clear hwy cb;go_wp2_with fail;refine(Dc.zlJ Q x.1 wy (HK5.out.below HBY.out) HXR.out).mono ?_;rintro e w6 ⟨rfl,be⟩;have HB6:=hid (HBY.out.trans (be.mono HBY.out.size));have HO6:=hid (oI HO.out (HBy.out.trans (be.mono HBy.out.size)));obtain⟨c,hc,hc26⟩:∃c:Nat,bE x.1=(c:Int)/\c<26:=by
       have h:=HXC.out;exact⟨(bE x.1).toNat,by omega,by omega⟩
      rw[hc] at HMU⊢;obtain⟨u,hu⟩:∃u,u=Dc.lnN (c:Int):=⟨_,rfl⟩;rw[<- hu];have HU:=hid hu;have HS1:=hid (fun(W:sZ) (h:sH w5.heap.size w5 W)=>show W.cell? ⟨g,t,none⟩=some (.int .i64 (pj1:Nat))/\W.cell? ⟨gx,i * 3+2,none⟩=some (.int .i64 (pj1:Nat)) from⟨(h.cell (p:=⟨g,t,none⟩) HCb.out.1).trans HCb.out.2,(h.cell (p:=⟨gx,i * 3+2,none⟩) HQ.out.1).trans HQ.out.2.2⟩)
      have HSS:=hid (fun(W:sZ) (h:sH w6.heap.size w6 W)=>HS1.out W (HB6.out.trans (h.mono HB6.out.size)))
      clear be hu c2 c0 HBx HBX HBy HBY HO;have m9:m<=80000:=by omega
      by_cases hme:pj1=l.length
      ·have ee:((pj1:Int)==(l.length:Int))=true:=by rw[hme];simp
       have een:(pj1==l.length)=true:=by rw[hme];simp
       have eed:decide (pj1=l.length)=true:=decide_eq_true hme;have HCV:=hid (show ch2 (chO l pj1)=[.int .i64 (pj1:Nat),.bool true] by unfold ch2 chO;rw[HMU.out,eed,Bool.true_or])
       clear hme hc hc26;go_wp2_with fail;refine ak [(0,true),(1,true),(2,true),(3,true),(4,true),(5,true),(6,true),(7,true),(8,true),(9,true),(10,true),(11,true),(12,true),(13,true),(14,true),(15,true),(16,true),(17,true),(18,true),(19,true),(20,true),(21,true),(22,true),(23,true),(24,true),(25,true),(26,false),(27,false),(28,true)] (fun W=>W.cell? ⟨g,t,none⟩=some (.int .i64 (pj1:Nat))/\W.cell? ⟨gx,i * 3+2,none⟩=some (.int .i64 (pj1:Nat))) (fun _=>false) (by kernel_rfl) (by kernel_rfl) (fun j hj=>by cases hj) rfl (by kernel_rfl) (HSS.out _ (show sH w6.heap.size w6 w6.drew from(sK _ _).drew)) ?_
       iterate 14 (refine au ?_ rfl (by kernel_rfl) (fun w' hS=>?_) ?_;(rotate_left;(obtain⟨s0,s1⟩:=hS;go_simp;(try simp only[ee,een,eed]);with_reducible rfl);rotate_left))
       iterate 2 (refine eG rfl (by kernel_rfl) ?_)
       iterate 2 (refine au ?_ rfl (by kernel_rfl) (fun w' hS=>?_) ?_;(rotate_left;(obtain⟨s0,s1⟩:=hS;go_simp;(try simp only[ee,een,eed]);with_reducible rfl);rotate_left))
       iterate 2 (refine eG rfl (by kernel_rfl) ?_)
       iterate 2 (refine au ?_ rfl (by kernel_rfl) (fun w' hS=>?_) ?_;(rotate_left;(obtain⟨s0,s1⟩:=hS;go_simp;(try simp only[ee,een,eed]);with_reducible rfl);rotate_left))
       iterate 2 (refine eG rfl (by kernel_rfl) ?_)
       iterate 2 (refine au ?_ rfl (by kernel_rfl) (fun w' hS=>?_) ?_;(rotate_left;(obtain⟨s0,s1⟩:=hS;go_simp;(try simp only[ee,een,eed]);with_reducible rfl);rotate_left))
       refine am rfl (by kernel_rfl) fun KK hKK=>?_
       go_simp;obtain⟨w7,hw7⟩:∃w7,w7=(w6.alloc (.cells #[.int .i64 (pj1:Nat),.bool true] 53)).drew:=⟨_,rfl⟩;rw[<- hw7];have HBB:=hid (show sH w6.heap.size w6 w7 by rw[hw7];exact sS Pt.below_box)
       have HN7:=hid (show ∀j u,[sM .i64 (pj1:Nat),.bool true][j]? =some u->w7.cell? ((⟨w6.heap.size,0,none⟩:Addr).add j)=some u by rw[hw7];exact Pt.oP w6 #[.int .i64 (pj1:Nat),.bool true] _)
       clear hw7;refine hKK _ _ (fun _=>HSS.out _ HBB.out) ?_
       clear hKK;obtain⟨iR,hiR,hz0,hz1,hz2⟩:=sQ Tryz.infoChance;have HO7:=hid (show w7.ownsRow w5.heap.size 53 2 (.slice vo m vc) m (du (eM l i)) from⟨HO6.out.1,HO6.out.2.imp (fun e=>e) fun⟨q',cap,cur,k1,k2,k3,k4⟩=>⟨q',cap,cur,k1,k2,(HBB.out.block q' (Pt.ae k3)).trans k3,k4⟩⟩)
       have HlB:=hid (show w5.heap.size<=w7.heap.size from sL HB6.out.size HBB.out.size)
       refine am rfl (by kernel_rfl) fun KK hKK=>?_
       refine sN _ _ _ 49 rfl w5.heap.size 53 iR (.agg #[.int .i64 0,.bool false]) 2 16 Tryz.underChances hiR hz0 hz1 hz2 rfl (by decide) (.slice vo m vc) m (du (eM l i)) rfl HO7.out ⟨w6.heap.size,0,none⟩ 1 1 [sM .i64 (pj1:Nat),.bool true] rfl rfl HN7.out (fun u hu=>by simp at hu;rcases hu with h | h<;>rw[h]<;>rfl) (by decide) (by unfold ta;omega) (by omega) HlB.out w7.heap.size rfl ?_
       intro g8 c8 w8 o8 gr8 hl8 hlt8;have hs8:w5.heap.size<=w7.heap.size:=HlB.out;have HB8:=hid (show sH w5.heap.size w5 w8 from(HB6.out.trans (HBB.out.mono HB6.out.size)).grown gr8 hs8 (fun q hq=>by
        rcases HO7.out.2 with ⟨h1,_⟩ | ⟨q2,_,_,h1,h2,_⟩
        ·rw[h1] at hq;cases hq
        ·rw[h1] at hq;cases hq;exact h2))
       have HO8:=hid (show w8.ownsRow w5.heap.size 53 2 (.slice (some ⟨g8,0,none⟩) (m+1) c8) (m+1) (du (eM l (i+1))) by rw[HT.out,fH,HCV.out];exact o8)
       have HM8:=hid (show m+1=(eM l (i+1)).length by rw[HT.out,sI,<- HM.out];rfl)
       refine hKK _ _ (fun _=>HS1.out _ HB8.out) ?_
       clear hKK;refine au ?_ rfl (by kernel_rfl) (fun w' hS=>?_) ?_
       rotate_left
       ·go_simp
        with_reducible rfl
       rotate_left;refine aP (sO ?_);clear HN7 HBB HO7 HlB HSS HS1 o8 gr8 hl8 hlt8;go_simp;go_wp2;go_roundw
       case rel=>exact⟨i+1,m+1,t,_,c8,rfl,rfl,by go_num,by omega,by omega,HC1,HM8,HO8,HB8⟩
       case measure=>simp[sW];omega
      have ee:((pj1:Int)==(l.length:Int))=false:=beq_eq_false_iff_ne.2 (by omega)
      have een:(pj1==l.length)=false:=beq_eq_false_iff_ne.2 hme;have eed:decide (pj1=l.length)=false:=decide_eq_false hme;clear hme hc
      by_cases c1:c=1
      ·subst c1
       have HCV:=hid (show ch2 (chO l pj1)=[.int .i64 (pj1:Nat),.bool true] by unfold ch2 chO;rw[HMU.out,eed,sP];rfl)
       obtain rfl:u=[66,107]:=HU.out.trans (by decide+kernel)
       clear hc26 HU;go_wp2_with fail;refine ak [(0,true),(1,true),(2,true),(3,true),(4,true),(5,true),(6,true),(7,true),(8,true),(9,true),(10,true),(11,true),(12,true),(13,true),(14,true),(15,true),(16,true),(17,true),(18,true),(19,true),(20,true),(21,true),(22,true),(23,true),(24,true),(25,true),(26,false),(27,false),(28,true)] (fun W=>W.cell? ⟨g,t,none⟩=some (.int .i64 (pj1:Nat))/\W.cell? ⟨gx,i * 3+2,none⟩=some (.int .i64 (pj1:Nat))) (fun _=>false) (by kernel_rfl) (by kernel_rfl) (fun j hj=>by cases hj) rfl (by kernel_rfl) (HSS.out _ (show sH w6.heap.size w6 w6.drew from(sK _ _).drew)) ?_
       iterate 18 (refine au ?_ rfl (by kernel_rfl) (fun w' hS=>?_) ?_;(rotate_left;(obtain⟨s0,s1⟩:=hS;go_simp;(try simp only[ee,een,eed]);with_reducible rfl);rotate_left))
       iterate 2 (refine eG rfl (by kernel_rfl) ?_)
       iterate 2 (refine au ?_ rfl (by kernel_rfl) (fun w' hS=>?_) ?_;(rotate_left;(obtain⟨s0,s1⟩:=hS;go_simp;(try simp only[ee,een,eed]);with_reducible rfl);rotate_left))
       iterate 2 (refine eG rfl (by kernel_rfl) ?_)
       iterate 2 (refine au ?_ rfl (by kernel_rfl) (fun w' hS=>?_) ?_;(rotate_left;(obtain⟨s0,s1⟩:=hS;go_simp;(try simp only[ee,een,eed]);with_reducible rfl);rotate_left))
       refine am rfl (by kernel_rfl) fun KK hKK=>?_
       go_simp;obtain⟨w7,hw7⟩:∃w7,w7=(w6.alloc (.cells #[.int .i64 (pj1:Nat),.bool true] 53)).drew:=⟨_,rfl⟩;rw[<- hw7];have HBB:=hid (show sH w6.heap.size w6 w7 by rw[hw7];exact sS Pt.below_box)
       have HN7:=hid (show ∀j u,[sM .i64 (pj1:Nat),.bool true][j]? =some u->w7.cell? ((⟨w6.heap.size,0,none⟩:Addr).add j)=some u by rw[hw7];exact Pt.oP w6 #[.int .i64 (pj1:Nat),.bool true] _)
       clear hw7;refine hKK _ _ (fun _=>HSS.out _ HBB.out) ?_
       clear hKK;obtain⟨iR,hiR,hz0,hz1,hz2⟩:=sQ Tryz.infoChance;have HO7:=hid (show w7.ownsRow w5.heap.size 53 2 (.slice vo m vc) m (du (eM l i)) from⟨HO6.out.1,HO6.out.2.imp (fun e=>e) fun⟨q',cap,cur,k1,k2,k3,k4⟩=>⟨q',cap,cur,k1,k2,(HBB.out.block q' (Pt.ae k3)).trans k3,k4⟩⟩)
       have HlB:=hid (show w5.heap.size<=w7.heap.size from sL HB6.out.size HBB.out.size)
       refine am rfl (by kernel_rfl) fun KK hKK=>?_
       refine sN _ _ _ 49 rfl w5.heap.size 53 iR (.agg #[.int .i64 0,.bool false]) 2 16 Tryz.underChances hiR hz0 hz1 hz2 rfl (by decide) (.slice vo m vc) m (du (eM l i)) rfl HO7.out ⟨w6.heap.size,0,none⟩ 1 1 [sM .i64 (pj1:Nat),.bool true] rfl rfl HN7.out (fun u hu=>by simp at hu;rcases hu with h | h<;>rw[h]<;>rfl) (by decide) (by unfold ta;omega) (by omega) HlB.out w7.heap.size rfl ?_
       intro g8 c8 w8 o8 gr8 hl8 hlt8;have hs8:w5.heap.size<=w7.heap.size:=HlB.out;have HB8:=hid (show sH w5.heap.size w5 w8 from(HB6.out.trans (HBB.out.mono HB6.out.size)).grown gr8 hs8 (fun q hq=>by
        rcases HO7.out.2 with ⟨h1,_⟩ | ⟨q2,_,_,h1,h2,_⟩
        ·rw[h1] at hq;cases hq
        ·rw[h1] at hq;cases hq;exact h2))
       have HO8:=hid (show w8.ownsRow w5.heap.size 53 2 (.slice (some ⟨g8,0,none⟩) (m+1) c8) (m+1) (du (eM l (i+1))) by rw[HT.out,fH,HCV.out];exact o8)
       have HM8:=hid (show m+1=(eM l (i+1)).length by rw[HT.out,sI,<- HM.out];rfl)
       refine hKK _ _ (fun _=>HS1.out _ HB8.out) ?_
       clear hKK;refine au ?_ rfl (by kernel_rfl) (fun w' hS=>?_) ?_
       rotate_left
       ·go_simp
        with_reducible rfl
       rotate_left;refine aP (sO ?_);clear HN7 HBB HO7 HlB HSS HS1 o8 gr8 hl8 hlt8;go_simp;go_wp2;go_roundw
       case rel=>exact⟨i+1,m+1,t,_,c8,rfl,rfl,by go_num,by omega,by omega,HC1,HM8,HO8,HB8⟩
       case measure=>simp[sW];omega
      by_cases c3:c=3
      ·subst c3
       have HCV:=hid (show ch2 (chO l pj1)=[.int .i64 (pj1:Nat),.bool true] by unfold ch2 chO;rw[HMU.out,eed,sP];rfl)
       obtain rfl:u=[76,102]:=HU.out.trans (by decide+kernel)
       clear hc26 HU;go_wp2_with fail;refine ak [(0,true),(1,true),(2,true),(3,true),(4,true),(5,true),(6,true),(7,true),(8,true),(9,true),(10,true),(11,true),(12,true),(13,true),(14,true),(15,true),(16,true),(17,true),(18,true),(19,true),(20,true),(21,true),(22,true),(23,true),(24,true),(25,true),(26,false),(27,false),(28,true)] (fun W=>W.cell? ⟨g,t,none⟩=some (.int .i64 (pj1:Nat))/\W.cell? ⟨gx,i * 3+2,none⟩=some (.int .i64 (pj1:Nat))) (fun _=>false) (by kernel_rfl) (by kernel_rfl) (fun j hj=>by cases hj) rfl (by kernel_rfl) (HSS.out _ (show sH w6.heap.size w6 w6.drew from(sK _ _).drew)) ?_
       iterate 22 (refine au ?_ rfl (by kernel_rfl) (fun w' hS=>?_) ?_;(rotate_left;(obtain⟨s0,s1⟩:=hS;go_simp;(try simp only[ee,een,eed]);with_reducible rfl);rotate_left))
       iterate 2 (refine eG rfl (by kernel_rfl) ?_)
       iterate 2 (refine au ?_ rfl (by kernel_rfl) (fun w' hS=>?_) ?_;(rotate_left;(obtain⟨s0,s1⟩:=hS;go_simp;(try simp only[ee,een,eed]);with_reducible rfl);rotate_left))
       refine am rfl (by kernel_rfl) fun KK hKK=>?_
       go_simp;obtain⟨w7,hw7⟩:∃w7,w7=(w6.alloc (.cells #[.int .i64 (pj1:Nat),.bool true] 53)).drew:=⟨_,rfl⟩;rw[<- hw7];have HBB:=hid (show sH w6.heap.size w6 w7 by rw[hw7];exact sS Pt.below_box)
       have HN7:=hid (show ∀j u,[sM .i64 (pj1:Nat),.bool true][j]? =some u->w7.cell? ((⟨w6.heap.size,0,none⟩:Addr).add j)=some u by rw[hw7];exact Pt.oP w6 #[.int .i64 (pj1:Nat),.bool true] _)
       clear hw7;refine hKK _ _ (fun _=>HSS.out _ HBB.out) ?_
       clear hKK;obtain⟨iR,hiR,hz0,hz1,hz2⟩:=sQ Tryz.infoChance;have HO7:=hid (show w7.ownsRow w5.heap.size 53 2 (.slice vo m vc) m (du (eM l i)) from⟨HO6.out.1,HO6.out.2.imp (fun e=>e) fun⟨q',cap,cur,k1,k2,k3,k4⟩=>⟨q',cap,cur,k1,k2,(HBB.out.block q' (Pt.ae k3)).trans k3,k4⟩⟩)
       have HlB:=hid (show w5.heap.size<=w7.heap.size from sL HB6.out.size HBB.out.size)
       refine am rfl (by kernel_rfl) fun KK hKK=>?_
       refine sN _ _ _ 49 rfl w5.heap.size 53 iR (.agg #[.int .i64 0,.bool false]) 2 16 Tryz.underChances hiR hz0 hz1 hz2 rfl (by decide) (.slice vo m vc) m (du (eM l i)) rfl HO7.out ⟨w6.heap.size,0,none⟩ 1 1 [sM .i64 (pj1:Nat),.bool true] rfl rfl HN7.out (fun u hu=>by simp at hu;rcases hu with h | h<;>rw[h]<;>rfl) (by decide) (by unfold ta;omega) (by omega) HlB.out w7.heap.size rfl ?_
       intro g8 c8 w8 o8 gr8 hl8 hlt8;have hs8:w5.heap.size<=w7.heap.size:=HlB.out;have HB8:=hid (show sH w5.heap.size w5 w8 from(HB6.out.trans (HBB.out.mono HB6.out.size)).grown gr8 hs8 (fun q hq=>by
        rcases HO7.out.2 with ⟨h1,_⟩ | ⟨q2,_,_,h1,h2,_⟩
        ·rw[h1] at hq;cases hq
        ·rw[h1] at hq;cases hq;exact h2))
       have HO8:=hid (show w8.ownsRow w5.heap.size 53 2 (.slice (some ⟨g8,0,none⟩) (m+1) c8) (m+1) (du (eM l (i+1))) by rw[HT.out,fH,HCV.out];exact o8)
       have HM8:=hid (show m+1=(eM l (i+1)).length by rw[HT.out,sI,<- HM.out];rfl)
       refine hKK _ _ (fun _=>HS1.out _ HB8.out) ?_
       clear hKK;refine au ?_ rfl (by kernel_rfl) (fun w' hS=>?_) ?_
       rotate_left
       ·go_simp
        with_reducible rfl
       rotate_left;refine aP (sO ?_);clear HN7 HBB HO7 HlB HSS HS1 o8 gr8 hl8 hlt8;go_simp;go_wp2;go_roundw
       case rel=>exact⟨i+1,m+1,t,_,c8,rfl,rfl,by go_num,by omega,by omega,HC1,HM8,HO8,HB8⟩
       case measure=>simp[sW];omega
      by_cases c2:c=2
      ·subst c2
       have HCV:=hid (show ch2 (chO l pj1)=[.int .i64 (pj1:Nat),.bool true] by unfold ch2 chO;rw[HMU.out,eed,sP];rfl)
       obtain rfl:u=[67,114]:=HU.out.trans (by decide+kernel)
       clear hc26 HU;go_wp2_with fail;refine ak [(0,true),(1,true),(2,true),(3,true),(4,true),(5,true),(6,true),(7,true),(8,true),(9,true),(10,true),(11,true),(12,true),(13,true),(14,true),(15,true),(16,true),(17,true),(18,true),(19,true),(20,true),(21,true),(22,true),(23,true),(24,true),(25,true),(26,false),(27,false),(28,true)] (fun W=>W.cell? ⟨g,t,none⟩=some (.int .i64 (pj1:Nat))/\W.cell? ⟨gx,i * 3+2,none⟩=some (.int .i64 (pj1:Nat))) (fun _=>false) (by kernel_rfl) (by kernel_rfl) (fun j hj=>by cases hj) rfl (by kernel_rfl) (HSS.out _ (show sH w6.heap.size w6 w6.drew from(sK _ _).drew)) ?_
       iterate 26 (refine au ?_ rfl (by kernel_rfl) (fun w' hS=>?_) ?_;(rotate_left;(obtain⟨s0,s1⟩:=hS;go_simp;(try simp only[ee,een,eed]);with_reducible rfl);rotate_left))
       refine am rfl (by kernel_rfl) fun KK hKK=>?_
       go_simp;obtain⟨w7,hw7⟩:∃w7,w7=(w6.alloc (.cells #[.int .i64 (pj1:Nat),.bool true] 53)).drew:=⟨_,rfl⟩;rw[<- hw7];have HBB:=hid (show sH w6.heap.size w6 w7 by rw[hw7];exact sS Pt.below_box)
       have HN7:=hid (show ∀j u,[sM .i64 (pj1:Nat),.bool true][j]? =some u->w7.cell? ((⟨w6.heap.size,0,none⟩:Addr).add j)=some u by rw[hw7];exact Pt.oP w6 #[.int .i64 (pj1:Nat),.bool true] _)
       clear hw7;refine hKK _ _ (fun _=>HSS.out _ HBB.out) ?_
       clear hKK;obtain⟨iR,hiR,hz0,hz1,hz2⟩:=sQ Tryz.infoChance;have HO7:=hid (show w7.ownsRow w5.heap.size 53 2 (.slice vo m vc) m (du (eM l i)) from⟨HO6.out.1,HO6.out.2.imp (fun e=>e) fun⟨q',cap,cur,k1,k2,k3,k4⟩=>⟨q',cap,cur,k1,k2,(HBB.out.block q' (Pt.ae k3)).trans k3,k4⟩⟩)
       have HlB:=hid (show w5.heap.size<=w7.heap.size from sL HB6.out.size HBB.out.size)
       refine am rfl (by kernel_rfl) fun KK hKK=>?_
       refine sN _ _ _ 49 rfl w5.heap.size 53 iR (.agg #[.int .i64 0,.bool false]) 2 16 Tryz.underChances hiR hz0 hz1 hz2 rfl (by decide) (.slice vo m vc) m (du (eM l i)) rfl HO7.out ⟨w6.heap.size,0,none⟩ 1 1 [sM .i64 (pj1:Nat),.bool true] rfl rfl HN7.out (fun u hu=>by simp at hu;rcases hu with h | h<;>rw[h]<;>rfl) (by decide) (by unfold ta;omega) (by omega) HlB.out w7.heap.size rfl ?_
       intro g8 c8 w8 o8 gr8 hl8 hlt8;have hs8:w5.heap.size<=w7.heap.size:=HlB.out;have HB8:=hid (show sH w5.heap.size w5 w8 from(HB6.out.trans (HBB.out.mono HB6.out.size)).grown gr8 hs8 (fun q hq=>by
        rcases HO7.out.2 with ⟨h1,_⟩ | ⟨q2,_,_,h1,h2,_⟩
        ·rw[h1] at hq;cases hq
        ·rw[h1] at hq;cases hq;exact h2))
       have HO8:=hid (show w8.ownsRow w5.heap.size 53 2 (.slice (some ⟨g8,0,none⟩) (m+1) c8) (m+1) (du (eM l (i+1))) by rw[HT.out,fH,HCV.out];exact o8)
       have HM8:=hid (show m+1=(eM l (i+1)).length by rw[HT.out,sI,<- HM.out];rfl)
       refine hKK _ _ (fun _=>HS1.out _ HB8.out) ?_
       clear hKK;refine au ?_ rfl (by kernel_rfl) (fun w' hS=>?_) ?_
       rotate_left
       ·go_simp
        with_reducible rfl
       rotate_left;refine aP (sO ?_);clear HN7 HBB HO7 HlB HSS HS1 o8 gr8 hl8 hlt8;go_simp;go_wp2;go_roundw
       case rel=>exact⟨i+1,m+1,t,_,c8,rfl,rfl,by go_num,by omega,by omega,HC1,HM8,HO8,HB8⟩
       case measure=>simp[sW];omega
      have HCV:=hid (show ch2 (chO l pj1)=[.int .i64 (pj1:Nat),.bool false] by
       unfold ch2 chO;rw[HMU.out,eed,sP];unfold Li.ql;rw[beq_eq_false_iff_ne.2 (show(c:Int)≠1 by omega),beq_eq_false_iff_ne.2 (show(c:Int)≠2 by omega),beq_eq_false_iff_ne.2 (show(c:Int)≠3 by omega)]
       rfl)
      have u1:(u== [66,107])=false:=by rw[HU.out];exact zfN c hc26 1 (by omega) c1 _ (by decide+kernel)
      have u3:(u== [76,102])=false:=by rw[HU.out];exact zfN c hc26 3 (by omega) c3 _ (by decide+kernel)
      have u2:(u== [67,114])=false:=by rw[HU.out];exact zfN c hc26 2 (by omega) c2 _ (by decide+kernel)
      clear c1 c2 c3 hc26 HU;go_wp2_with fail;refine ak [(0,true),(1,true),(2,true),(3,true),(4,true),(5,true),(6,true),(7,true),(8,true),(9,true),(10,true),(11,true),(12,true),(13,true),(14,true),(15,true),(16,true),(17,true),(18,true),(19,true),(20,true),(21,true),(22,true),(23,true),(24,true),(25,true),(26,false),(27,false),(28,true)] (fun W=>W.cell? ⟨g,t,none⟩=some (.int .i64 (pj1:Nat))/\W.cell? ⟨gx,i * 3+2,none⟩=some (.int .i64 (pj1:Nat))) (fun _=>false) (by kernel_rfl) (by kernel_rfl) (fun j hj=>by cases hj) rfl (by kernel_rfl) (HSS.out _ (show sH w6.heap.size w6 w6.drew from(sK _ _).drew)) ?_
      iterate 26 (refine au ?_ rfl (by kernel_rfl) (fun w' hS=>?_) ?_;(rotate_left;(obtain⟨s0,s1⟩:=hS;go_simp;(try simp only[ee,een,eed]);with_reducible rfl);rotate_left))
      refine am rfl (by kernel_rfl) fun KK hKK=>?_
      go_simp;obtain⟨w7,hw7⟩:∃w7,w7=(w6.alloc (.cells #[.int .i64 (pj1:Nat),.bool false] 53)).drew:=⟨_,rfl⟩;rw[<- hw7];have HBB:=hid (show sH w6.heap.size w6 w7 by rw[hw7];exact sS Pt.below_box)
      have HN7:=hid (show ∀j u,[sM .i64 (pj1:Nat),.bool false][j]? =some u->w7.cell? ((⟨w6.heap.size,0,none⟩:Addr).add j)=some u by rw[hw7];exact Pt.oP w6 #[.int .i64 (pj1:Nat),.bool false] _)
      clear hw7;refine hKK _ _ (fun _=>HSS.out _ HBB.out) ?_
      clear hKK;obtain⟨iR,hiR,hz0,hz1,hz2⟩:=sQ Tryz.infoChance;have HO7:=hid (show w7.ownsRow w5.heap.size 53 2 (.slice vo m vc) m (du (eM l i)) from⟨HO6.out.1,HO6.out.2.imp (fun e=>e) fun⟨q',cap,cur,k1,k2,k3,k4⟩=>⟨q',cap,cur,k1,k2,(HBB.out.block q' (Pt.ae k3)).trans k3,k4⟩⟩)
      have HlB:=hid (show w5.heap.size<=w7.heap.size from sL HB6.out.size HBB.out.size)
      refine am rfl (by kernel_rfl) fun KK hKK=>?_
      refine sN _ _ _ 49 rfl w5.heap.size 53 iR (.agg #[.int .i64 0,.bool false]) 2 16 Tryz.underChances hiR hz0 hz1 hz2 rfl (by decide) (.slice vo m vc) m (du (eM l i)) rfl HO7.out ⟨w6.heap.size,0,none⟩ 1 1 [sM .i64 (pj1:Nat),.bool false] rfl rfl HN7.out (fun u hu=>by simp at hu;rcases hu with h | h<;>rw[h]<;>rfl) (by decide) (by unfold ta;omega) (by omega) HlB.out w7.heap.size rfl ?_
      intro g8 c8 w8 o8 gr8 hl8 hlt8;have hs8:w5.heap.size<=w7.heap.size:=HlB.out;have HB8:=hid (show sH w5.heap.size w5 w8 from(HB6.out.trans (HBB.out.mono HB6.out.size)).grown gr8 hs8 (fun q hq=>by
       rcases HO7.out.2 with ⟨h1,_⟩ | ⟨q2,_,_,h1,h2,_⟩
       ·rw[h1] at hq;cases hq
       ·rw[h1] at hq;cases hq;exact h2))
      have HO8:=hid (show w8.ownsRow w5.heap.size 53 2 (.slice (some ⟨g8,0,none⟩) (m+1) c8) (m+1) (du (eM l (i+1))) by rw[HT.out,fH,HCV.out];exact o8)
      have HM8:=hid (show m+1=(eM l (i+1)).length by rw[HT.out,sI,<- HM.out];rfl)
      refine hKK _ _ (fun _=>HS1.out _ HB8.out) ?_
      clear hKK;refine au ?_ rfl (by kernel_rfl) (fun w' hS=>?_) ?_
      rotate_left
      ·go_simp
       with_reducible rfl
      rotate_left;refine aP (sO ?_);clear HN7 HBB HO7 HlB HSS HS1 o8 gr8 hl8 hlt8;go_simp;go_wp2;go_roundw
      case rel=>exact⟨i+1,m+1,t,_,c8,rfl,rfl,by go_num,by omega,by omega,HC1,HM8,HO8,HB8⟩
      case measure=>simp[sW];omega
    ·have htk':t=k:=by omega
     subst htk';have hb:dT l i=true/\k1=t+1:=by
      have:=HKS.out
      by_cases h:dT l i=true
      ·rw[if_pos h] at this;exact⟨h,this⟩
      ·rw[if_neg h] at this;omega
     have hlt0:=HJ0.out hb.1;have cb:=(HBW.out.cell (p:=⟨g,t,none⟩) HCk.out.1).trans HCk.out.2;have hl0:(pj0:Int)<(p1:Int):=by omega
     have ht0:(0:Int)<=(t:Int):=by omega
     have htn:(t:Int)<(nb:Int):=by omega
     have HKE:=hid hb.2;clear hb hlt0 hne htk;go_wp2_with fail;go_quiet (fail);obtain⟨wx,hwx⟩:∃v,v=wr.drewN nq:=⟨_,rfl⟩;have HBx:=hid (show sH wo.heap.size wo wx by rw[hwx];exact⟨HBi.out.os,HBi.out.tape,HBi.out.output,HBi.out.size,HBi.out.block⟩)
     rw[<- hwx];clear hwx c2 c0 cb;go_wp2;go_roundw
     case rel=>exact⟨t+1,by go_num,.inr HKE.out.symm,HBx⟩
     case measure=>have:=HKE.out;simp[sW];omega
  ·have hin:¬(i:Int)<(n:Int):=by omega
   obtain rfl:i=n:=by omega
   have HQ:=hid (show ∃vo' vc',Ending.returned (.slice vo m vc)= .returned (.slice vo' (eM l (rl l).length).length vc')/\wr.ownsRow w.heap.size 53 2 (.slice vo' (eM l (rl l).length).length vc') (eM l (rl l).length).length (du (eM l (rl l).length))/\sH w.heap.size w wr from by
    have h1:=HO.out;have h2:=HM.out;rw[show i=(rl l).length from HN.out] at h1 h2
    rw[<- h2];exact⟨vo,vc,rfl,⟨h1.1,h1.2.imp (fun e=>e) fun⟨q,cap,cur,k1,k2,k3⟩=>⟨q,cap,cur,k1,sL HB5.out.size k2,k3⟩⟩,HB5.out.trans (HB.out.mono HB5.out.size)⟩)
   go_wp2;go_ret;exact HQ.out
end Ln
namespace Ln
open Go.RowKit Go.Shelf
attribute [local go_sem] Oper.semAt_some
theorem zvf {β:Type} (B Bs:Nat) (l:List UInt8) (hB:2<=B):OwnFrom B (fun(_:β) W=>mj Bs l W):=fun _ A C row h hg hr=>by
 refine h.keeps hg.size fun k hk=>hg.block k (h.lt k hk) fun e=>?_
 obtain⟨hle,o,ho,hc⟩:=hr k e.symm
 rcases hk with rfl | hk
 ·have:=h.bs;unfold Boxed at this;rw[this] at ho;cases ho;cases hc
 ·omega
def zei (P:List (Int × Bool)):List td:=P.flatMap fun x=>[.int .i64 x.1,.bool x.2]
theorem zjS (P:List (Int × Bool)) (x:Int × Bool):zei (P++[x])=zei P++[.int .i64 x.1,.bool x.2]:=by simp[zei]
theorem znx (P:List (Nat × Bool)):zei (P.map toC)=du P:=by
 unfold zei du;rw[List.flatMap_map]
 rfl
theorem zpM (W:sZ) (a b:td) (t:TypeId):∀j u,[a,b][j]? =some u->(W.alloc (.cells #[a,b] t)).cell? ((⟨W.heap.size,0,none⟩:Addr).add j)=some u:=sZ.news_of_block (cs:=#[a,b]) (sZ.alloc_heap_new W _)
theorem zdT (l:List UInt8) (w:sZ) (ht:Tb w) (hl:l.length<=100000000):
  CallsIn Fence.wide 3 Tryz.prog 31 #[.string ⟨l.toArray⟩] w fun e W'=>∃v,e= .returned v/\W'.ownsRow w.heap.size 53 2 v (chs l 0).length (zei (chs l 0))/\sH w.heap.size w W':=by
 obtain⟨i0,hi,hz0,hz1,hz2⟩:=sQ Tryz.infoChance;have HT:=hid ht;clear ht;refine callsIn_of_wp_marks Tryz.func31 rfl trivial ?_ rfl
 simp only[Tryz.ntmps31,List.size_toArray,List.length_cons,List.length_nil,Nat.reduceAdd,Nat.reduceSub,Array.replicate_succ,Array.replicate_zero,List.push_toArray,List.append_toArray,List.nil_append,List.cons_append]
 gi_wp2_with (refine⟨trivial,?_⟩;gi_at_call 40;refine(callsIn_wide.2 (zjJ l _)).mono ?_;rintro e w' ⟨rfl,rfl⟩);have bL:=Boxed.new w 49 (.slice none 0 0);have bS:=Boxed.new (w.alloc (.cells #[.slice none 0 0] 49)) 9 (.string ⟨l.toArray⟩);rw[sZ.size_alloc] at bS;have hB0:sH w.heap.size w ((w.alloc (.cells #[.slice none 0 0] 49)).alloc (.cells #[.string ⟨l.toArray⟩] 9)):=((sK _ _).alloc (sJ _) _).alloc (by simp) _
 have hEa:mj (w.heap.size+1) l ((w.alloc (.cells #[.slice none 0 0] 49)).alloc (.cells #[.string ⟨l.toArray⟩] 9)):=⟨bS,HT.out.below hB0⟩;have hpl:=zii l _ 0 (sJ _);have h2:=HT.out.two;refine wpIn_rangeFunc_ownG rfl (by omega) (gf:=65) (lb:=#[.pointer (some ⟨w.heap.size+1,0,none⟩)]) rfl trivial (enters_of Tryz.func65 (by kernel_rfl) rfl)
  (zdS (3 - 1) (by omega) (w.heap.size+1) l _ hEa (by omega)) Kr_t (Kr_b hEa.lt) (sK _ _) (fun _=>rfl)
  (fun pre W=>((∃v,Boxed W w.heap.size 49 v/\W.ownsRow w.heap.size 53 2 v pre.length (zei pre)/\True)/\sH w.heap.size w W)/\mj (w.heap.size+1) l W)
  (fun _ _ _=>False)
  (OwnFrom.and (OwnFrom.and (Own.from (holdsRow_own w.heap.size w.heap.size 49 53 2 (fun pre=>pre.length) (fun pre=>zei pre) (fun _ _=>True)) _) (ownFrom_below (sJ _) (by simp;omega))) (zvf _ _ l (by simp)))
  (fun _ _ _ _ _ hs _ _=>hs)
  ⟨⟨⟨_,bL.alloc _,sZ.ownsRow_nil _ _ _ _,trivial⟩,hB0⟩,hEa⟩
  (fun x=>{tmps:=#[.string ⟨l.toArray⟩,undef,.slice none 0 0,.pointer (some ⟨w.heap.size,0,none⟩),.int .i64 x.1,.bool x.2,.string ⟨l.toArray⟩,.func (.func 65) #[] #[.pointer (some ⟨w.heap.size+1,0,none⟩)],.int .i64 x.1,.bool x.2,undef,undef,undef,undef,undef,undef,undef],defers:=[]}) ?assign ?body ?done ?stop
 case assign=>
  intro lp x W K hK
  dsimp only[zvd]
  gi_wp2;exact hK
 case body=>
  rintro lp pre x W ⟨⟨⟨v,hv,hrow,_⟩,hB⟩,hE⟩ hlt;have hc:=hv.cell;have hBs:=hB.size;gi_wp2_with (gi_at_builtin;refine wpListIn_append_own _ rfl _ _ 49 rfl w.heap.size 53 i0 (.agg #[.int .i64 0,.bool false]) 2 16 Tryz.underChances hi hz0 hz1 hz2 rfl (by decide) _ _ _ rfl (hrow.alloc _) ⟨W.heap.size,0,none⟩ 1 1 [.int .i64 x.1,.bool x.2] rfl rfl (zpM _ _ _ _) (by simp[td.oneCell']) (by unfold ta;omega) (by omega) (by simp;omega) ?_;intro v' w3 hown' hgrow _;obtain⟨g',cap',rfl⟩:=ownsRow_succ hown';obtain⟨hv1,hv2,hr2,hk2,hb2⟩:=hv.appended (by decide) hrow hB.size (by omega) hown' hgrow;have hc1:=hv1.cell;have hf1:=hv1.frozen)
  have hS1:Boxed w3 (w.heap.size+1) 9 (.string ⟨l.toArray⟩):=(hE.bs.alloc _).kept hgrow (hE.bs.not_row (by decide) hrow)
  have hKK:∀k,KE (w.heap.size+1) k->(w3.setCell ⟨w.heap.size,0,none⟩ (.slice (some ⟨g',0,none⟩) (pre.length+1) cap')).heap[k]? =W.heap[k]? :=by
   rintro k (rfl | hk)
   ·exact((grownBy_setCell' w3 w.heap.size _).block _ hS1.lt (by simp)).trans (Eq.trans hS1 hE.bs.symm)
   ·exact hb2.block k (by omega)
  exact⟨hk2.from _,⟨⟨hk2.size,fun k o h hw=>hk2.same k o h (Obj.not_cells_of_walk hw)⟩,hKK⟩,⟨⟨_,hv2,by rw[zjS,sI];exact hr2,trivial⟩,hB.trans hb2⟩,hE.keeps hb2.size hKK⟩
 case done=>
  rintro D ys W hD rfl ⟨⟨⟨v,hv,hrow,_⟩,hB⟩,_⟩ hK;have hc:=hv.cell;gi_wp2;refine⟨by simp,.inl ⟨_,_,rfl,run_takeDeferred hK,?_⟩⟩
  exact⟨_,results_tmp rfl _ _ _,v,rfl,ownsRow_putObj hrow _ hK rfl,hB.trans (belowK_b (w:=w) (sJ _) W D _ _ (by simp at hD;omega) hK rfl rfl)⟩
 case stop=>
  rintro D c pre W _ _ h _;exact h.elim
theorem zav (l:List UInt8) (w:sZ) (ht:Tb w) (hl:l.length<=100000000):
  Calls Tryz.prog 31 #[.string ⟨l.toArray⟩] w fun e W'=>∃v,e= .returned v/\W'.ownsRow w.heap.size 53 2 v (eM l (rl l).length).length (du (eM l (rl l).length))/\sH w.heap.size w W':=
 (callsIn_wide.1 (zdT l w ht hl)).mono fun e W' ⟨v,h1,h2,h3⟩=>by
  rw[zqL,sX,znx] at h2;exact⟨v,h1,h2,h3⟩
end Ln
end Go.Proofs.YtbbapnpdfcgjnaaGreatDoor
