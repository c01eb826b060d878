/- SdSome, PtDc, PtOk, PtEnM: parts of the proof, joined. -/
import Derived.Test.YtbbapnpdfcgjnaaGreatDoorEPtFun1
open Nat renaming eq_of_beq_eq_true->sR, lt_of_lt_of_le->sY, zero_le->sZ, beq->td, ble->te
open List renaming getElem?_eq_some_iff->sS, getElem?_cons_succ->sU, drop_eq_getElem_cons->sW
open Bool renaming and_eq_true->sT
open Go renaming World->sV, Calls->sX
set_option maxHeartbeats 64000000
namespace Go.Proofs.YtbbapnpdfcgjnaaGreatDoor
section
open Go.RowKit
namespace Pt
def BlQ(w:sV)(A:Prop)(e:Ending)(w':sV):Prop:=∃b:Bool,e=.returned (.bool b)/\(b=false->A)/\Below w.heap.size w w'
def KdQ(w:sV)(ko:Option Addr)(kn:Nat)(f:FuncId)(Q:Nat->sV->Ending->sV->Prop):Prop:=∀j,j<kn->∃b o u0 u1 u2,ko=some ⟨b,o,none⟩/\b<w.heap.size/\w.cell? ⟨b,o+j*3,none⟩=some u0/\w.cell? ⟨b,o+j*3+1,none⟩=some u1/\w.cell? ⟨b,o+j*3+2,none⟩=some u2/\∀W,Below w.heap.size w W->sX Tryz.prog f #[.agg #[u0,u1,u2]] W (Q j W)
theorem KdQ.below{w w':sV}{ko:Option Addr}{kn:Nat}{f:FuncId}{Q:Nat->sV->Ending->sV->Prop}(h:KdQ w ko kn f Q)(hb:Below w.heap.size w w'):KdQ w' ko kn f Q:=fun j hj=>by
 obtain⟨b,o,u0,u1,u2,h1,h2,q0,q1,q2,hq⟩:=h j hj;have hc:∀k v,w.cell? ⟨b,k,none⟩=some v->w'.cell? ⟨b,k,none⟩=some v:=fun k v hk=>(hb.cell (p:=⟨b,k,none⟩) h2).trans hk
 exact⟨b,o,u0,u1,u2,h1,sY h2 hb.size,hc _ _ q0,hc _ _ q1,hc _ _ q2,fun W hW=>hq W (hb.trans (hW.mono hb.size))⟩
set_option maxRecDepth 100000 in
theorem zhz(ko:Option Addr)(kn kc:Nat)(M:Nat->Prop)(w:sV)(hk9:kn<=1000000)(HK:ae (KdQ w ko kn 168 fun j W=>BlQ W (M j))):
  sX Tryz.prog 169 #[.slice ko kn kc] w (BlQ w (∃j,j<kn/\M j)):=by
 go_enter Tryz.func169,Tryz.ntmps169;go_wp2;go_loopw [3] (fun y wr=>∃i:Nat,y=.int .i64 i/\i<=kn/\ae (Below w.heap.size w wr)) (fun y _=>kn-(intOf y).toNat)
 case atStart=>exact⟨0,rfl,sZ _,aa (Below.refl _ _)⟩
 case round=>
  obtain⟨i,rfl,hi,HB⟩:=hrel
  by_cases hlt:i<kn
  ·have i0:(0:Int)<=(i:Int):=by omega
   have i1:(i:Int)<(kn:Int):=by omega
   obtain⟨b,o,u0,u1,u2,rfl,hb,q0,q1,q2,hL⟩:=HK.o i hlt;have y0:wr.cell? ⟨b,o+i*3,none⟩=some u0:=(HB.o.cell (p:=⟨b,o+i*3,none⟩) hb).trans q0;have y1:wr.cell? ⟨b,o+i*3+1,none⟩=some u1:=(HB.o.cell (p:=⟨b,o+i*3+1,none⟩) hb).trans q1;have y2:wr.cell? ⟨b,o+i*3+2,none⟩=some u2:=(HB.o.cell (p:=⟨b,o+i*3+2,none⟩) hb).trans q2;have HL:=aa (hL wr HB.o);clear q0 q1 q2 hL;go_wp2_with fail;refine HL.o.mono ?_;rintro e w3 ⟨v,rfl,hv,hB3⟩;have HB3:=aa (HB.o.trans (hB3.mono HB.o.size));have HV:=aa hv;clear hB3 hv y0 y1 y2
   cases v with
   |true=>
    go_wp2;go_roundw
    case rel=>exact⟨i+1,by go_num,by omega,HB3⟩
    case measure=>simp[intOf];omega
   |false=>
    have HM:ae (∃j,j<kn/\M j):=aa ⟨i,hlt,HV.o rfl⟩;go_wp2;go_ret;exact⟨false,rfl,fun _=>HM.o,HB3.o⟩
  ·have i1:¬(i:Int)<(kn:Int):=by omega
   go_wp2;go_ret;exact⟨true,rfl,nofun,HB.o⟩
section
variable (lo ko:Option Addr) (ln lc kn kc:Nat) (w:sV)
theorem zsJ(v2:Value)(cls:List Int)(kids:List az)(hln:ln=cls.length):sX Tryz.prog 168 #[.agg #[.int .i64 1,.slice lo ln lc,v2]] w (BlQ w (Nil (.mk 1 cls kids))):=by
 have HB:=aa (fun(o:Obj)=>below_box (w:=w) (o:=o))
 by_cases h:ln=0
 ·have HN:ae (Nil (.mk 1 cls kids)):=aa (by rw[List.length_eq_zero_iff.1 (hln.symm.trans h)];exact zqt _)
  subst h;clear hln;go_enter Tryz.func168,Tryz.ntmps168;go_wp2;go_ret;exact⟨_,rfl,fun _=>HN.o,HB.o _⟩
 ·have h1:(0:Int)<(ln:Int):=by omega
  clear hln;go_enter Tryz.func168,Tryz.ntmps168;go_wp2;go_ret;exact⟨_,rfl,fun h2=>absurd (of_decide_eq_false h2) (by omega),HB.o _⟩
theorem zsI(M:Nat->Prop)(hk9:kn<=1000000)(HK:ae (KdQ w ko kn 168 fun j W=>BlQ W (M j))):sX Tryz.prog 168 #[.agg #[.int .i64 2,.slice lo ln lc,.slice ko kn kc]] w (BlQ w (∃j,j<kn/\M j)):=by
 have HB:=aa (fun(o:Obj)=>below_box (w:=w) (o:=o))
 have HR:=aa (fun(o:Obj)=>zhz ko kn kc M (w.alloc o) hk9 (aa (HK.o.below (below_box (o:=o)))))
 clear hk9;go_enter Tryz.func168,Tryz.ntmps168;go_wp2_with fail;refine(HR.o _).mono ?_;rintro e w3 ⟨v,rfl,hv,hB3⟩;have HV:=aa hv;have HB3:=aa ((HB.o _).trans (hB3.mono (by simp)))
 clear hv hB3;go_wp2;go_ret;exact⟨v,rfl,HV.o,HB3.o⟩
theorem zsH(M:Nat->Prop)(hk9:kn<=1000000)(HK:ae (KdQ w ko kn 168 fun j W=>BlQ W (M j))):sX Tryz.prog 168 #[.agg #[.int .i64 3,.slice lo ln lc,.slice ko kn kc]] w (BlQ w (∀j,j<kn->M j)):=by
 go_enter Tryz.func168,Tryz.ntmps168;go_wp2;obtain⟨w1,hw1⟩:=am (w.alloc (.cells #[.int .i64 3,.slice lo ln lc,.slice ko kn kc] 105));have hb1:Below w.heap.size w w1:=by rw[hw1];exact below_box
 have x2:w1.cell? ⟨w.heap.size,2,none⟩=some (.slice ko kn kc):=by rw[hw1];simp[go_sem]
 have hs1:w.heap.size<w1.heap.size:=by rw[hw1];simp
 rw[<- hw1];have HB1:=aa hb1;have HX2:=aa x2;clear hw1 hb1 x2;go_loopw [3] (fun y wr=>∃i:Nat,y=.int .i64 i/\i<=kn/\ae (∀j,j<i->M j)/\ae (Below w1.heap.size w1 wr)) (fun y _=>kn-(intOf y).toNat)
 case atStart=>exact⟨0,rfl,sZ _,aa (fun j h=>by omega),aa (Below.refl _ _)⟩
 case round=>
  obtain⟨i,rfl,hi,HM,HB⟩:=hrel;have x2:wr.cell? ⟨w.heap.size,2,none⟩=some (.slice ko kn kc):=(HB.o.cell (p:=⟨w.heap.size,2,none⟩) hs1).trans HX2.o;have HBw:=aa (HB1.o.trans (HB.o.mono HB1.o.size))
  by_cases hlt:i<kn
  ·have i0:(0:Int)<=(i:Int):=by omega
   have i1:(i:Int)<(kn:Int):=by omega
   obtain⟨b,o,u0,u1,u2,rfl,hb,q0,q1,q2,hL⟩:=HK.o i hlt;have y0:wr.cell? ⟨b,o+i*3,none⟩=some u0:=(HBw.o.cell (p:=⟨b,o+i*3,none⟩) hb).trans q0;have y1:wr.cell? ⟨b,o+i*3+1,none⟩=some u1:=(HBw.o.cell (p:=⟨b,o+i*3+1,none⟩) hb).trans q1;have y2:wr.cell? ⟨b,o+i*3+2,none⟩=some u2:=(HBw.o.cell (p:=⟨b,o+i*3+2,none⟩) hb).trans q2;have HL:=aa (hL wr HBw.o);clear q0 q1 q2 hL;go_wp2_with fail;refine HL.o.mono ?_;rintro e w3 ⟨v,rfl,hv,hB3⟩;have HB3:=aa (HB.o.trans (hB3.mono HB.o.size));have HBw3:=aa (HB1.o.trans (HB3.o.mono HB1.o.size));have HV:=aa hv;clear hB3 hv y0 y1 y2 x2
   cases v with
   |true=>
    go_wp2;go_ret;exact⟨true,rfl,nofun,HBw3.o⟩
   |false=>
    have HM2:ae (∀j,j<i+1->M j):=aa (fun j hj=>by
     rcases Nat.lt_or_ge j i with h|h
     ·exact HM.o j h
     ·obtain rfl:j=i:=by omega
      exact HV.o rfl)
    go_wp2;go_roundw
    case rel=>exact⟨i+1,by go_num,by omega,HM2,HB3⟩
    case measure=>simp[intOf];omega
  ·have i1:¬(i:Int)<(kn:Int):=by omega
   have HQ:ae (∀j,j<kn->M j):=aa (fun j hj=>HM.o j (by omega))
   go_wp2;go_ret;exact⟨false,rfl,fun _=>HQ.o,HBw.o⟩
theorem zsG(M:Nat->Prop)(hk0:0<kn)(HK:ae (KdQ w ko kn 168 fun j W=>BlQ W (M j))):sX Tryz.prog 168 #[.agg #[.int .i64 5,.slice lo ln lc,.slice ko kn kc]] w (BlQ w (M 0)):=by
 have k0:(0:Int)<(kn:Int):=by omega
 obtain⟨b,o,u0,u1,u2,rfl,hb,q0,q1,q2,hL⟩:=HK.o 0 hk0;rw[Nat.zero_mul,Nat.add_zero]at q0 q1 q2;have HB1:=aa (fun(o:Obj)=>below_box (w:=w) (o:=o))
 have y0:=fun(o1:Obj)=>((HB1.o o1).cell (p:=⟨b,o,none⟩) hb).trans q0
 have y1:=fun(o1:Obj)=>((HB1.o o1).cell (p:=⟨b,o+1,none⟩) hb).trans q1
 have y2:=fun(o1:Obj)=>((HB1.o o1).cell (p:=⟨b,o+2,none⟩) hb).trans q2
 have HL:=aa (fun(o1:Obj)=>hL (w.alloc o1) (HB1.o o1))
 clear q0 q1 q2 hL HK;go_enter Tryz.func168,Tryz.ntmps168;go_wp2_with fail;refine(HL.o _).mono ?_;rintro e w3 ⟨v,rfl,hv,hB3⟩;have HV:=aa hv;have HB3:=aa ((HB1.o _).trans (hB3.mono (by simp)))
 clear hv hB3 y0 y1 y2;go_wp2;go_ret;exact⟨v,rfl,HV.o,HB3.o⟩
theorem zsF(v1 v2:Value)(op:Int)(A:Prop)(h1:op≠1)(h2:op≠2)(h3:op≠3)(h5:op≠5):sX Tryz.prog 168 #[.agg #[.int .i64 op,v1,v2]] w (BlQ w A):=by
 have HB:=aa (fun(o:Obj)=>below_box (w:=w) (o:=o))
 have e1:(op==1)=false:=beq_eq_false_iff_ne.2 h1;have e2:(op==2)=false:=beq_eq_false_iff_ne.2 h2;have e3:(op==3)=false:=beq_eq_false_iff_ne.2 h3;have e5:(op==5)=false:=beq_eq_false_iff_ne.2 h5;clear h1 h2 h3 h5;go_enter Tryz.func168,Tryz.ntmps168;go_wp2;go_ret;exact⟨true,rfl,nofun,HB.o _⟩
end
theorem zgm{w:sV}{kids:List az}{ko:Option Addr}{f:FuncId}{Q:az->sV->Ending->sV->Prop}(hk:gz w kids ko 0)(h:∀p∈kids,∀(v0 v1 v2:Value)(W:sV),cC W p v0 v1 v2->sX Tryz.prog f #[.agg #[v0,v1,v2]] W (Q p W)):KdQ w ko kids.length f fun j W=>Q (kids.getD j (.mk 0 [] [])) W:=fun j hj=>by
 obtain⟨b,o,h1,h2,u0,u1,u2,q0,q1,q2,hq⟩:=gz.at kids ko 0 j _ hk (List.getElem?_eq_getElem hj);rw[Nat.zero_add]at q0 q1 q2;have e:kids.getD j (.mk 0 [] [])=kids[j]:=by simp[List.getD,hj]
 refine⟨b,o,u0,u1,u2,h1,h2,q0,q1,q2,fun W hW=>?_⟩
 simp only[e]
 exact h _ (List.getElem_mem hj) u0 u1 u2 W (cC.below hW _ _ _ _ hq)
theorem lw{kids:List az}{j:Nat}(hj:j<kids.length):kids.getD j (.mk 0 [] [])=kids[j]:=by simp[List.getD,hj]
theorem oM:∀p:az,jX p->∀(v0 v1 v2:Value)(w:sV),cC w p v0 v1 v2->sX Tryz.prog 168 #[.agg #[v0,v1,v2]] w (BlQ w (Nil p)):=by
 refine az.ind fun op cls kids ih hO v0 v1 v2 w hP=>?_
 unfold cC at hP;unfold jX at hO;obtain⟨rfl,⟨lo,lc,rfl,hl1,hl2⟩,ko,kc,rfl,hk1,hk2,_⟩:=hP;obtain⟨h1,hOK⟩:=hO;have HK:=aa (zgm hk1 (fun p hp u0 u1 u2 W hW=>ih p hp (hOK.mem hp) u0 u1 u2 W hW))
 have hm:∀{A B:Prop} {f:FuncId} {args:Array Value},(A->B)->sX Tryz.prog f args w (BlQ w A)->sX Tryz.prog f args w (BlQ w B):=fun hab hc=>hc.mono fun e w' ⟨b,h1,h2,h3⟩=>⟨b,h1,fun h=>hab (h2 h),h3⟩
 by_cases o1:op=1
 ·subst o1
  exact zsJ lo cls.length lc w _ cls kids rfl
 by_cases o2:op=2
 ·subst o2
  refine hm ?_ (zsI lo ko cls.length lc kids.length kc w _ hk2 HK);rintro ⟨j,hj,h⟩
  simp only[lw hj]at h
  exact zmd (zhK hj h)
 by_cases o3:op=3
 ·subst o3
  refine hm ?_ (zsH lo ko cls.length lc kids.length kc w _ hk2 HK);intro h;refine ztj fun p hp=>?_
  obtain⟨j,hj,rfl⟩:=List.getElem_of_mem hp;have:=h j hj
  simp only[lw hj]at this
  exact this
 by_cases o5:op=5
 ·subst o5
  have hk0:0<kids.length:=by
   unfold OkN at h1
   rcases h1 with ⟨h1,_⟩|⟨_,h1⟩<;>omega
  refine hm ?_ (zsG lo ko cls.length lc kids.length kc w _ hk0 HK);intro h
  cases kids with
  |nil=>simp at hk0
  |cons p ps=>exact zme h
 ·exact zsF w _ _ op _ o1 o2 o3 o5
theorem zlJ(ps:List az)(hO:nB ps)(ko:Option Addr)(kc:Nat)(w:sV)(hk:gz w ps ko 0)(h9:ps.length<=1000000):sX Tryz.prog 169 #[.slice ko ps.length kc] w (BlQ w (zbK ps)):=by
 have HK:=aa (zgm hk (fun p hp u0 u1 u2 W hW=>oM p (hO.mem hp) u0 u1 u2 W hW))
 refine(zhz ko ps.length kc _ w h9 HK).mono ?_;rintro e w' ⟨b,h1,h2,h3⟩;refine⟨b,h1,fun h=>?_,h3⟩
 obtain⟨j,hj,h4⟩:=h2 h
 simp only[lw hj]at h4
 exact zhK hj h4
end Pt
end
section
open Go.RowKit
namespace Pt
def zbJ(w:sV)(ro:Option Addr)(rs:List Rl):Prop:=∀(j:Nat)(r:Rl),rs[j]?=some r->∃b o l0 l1 l2 r0 r1 r2,ro=some ⟨b,o,none⟩/\b<w.heap.size/\w.cell? ⟨b,o+j*9,none⟩=some (.bool r.brk)/\w.cell? ⟨b,o+j*9+1,none⟩=some (.bool r.st)/\w.cell? ⟨b,o+j*9+2,none⟩=some (.bool r.en)∧
 w.cell? ⟨b,o+j*9+3,none⟩=some l0/\w.cell? ⟨b,o+j*9+4,none⟩=some l1/\w.cell? ⟨b,o+j*9+5,none⟩=some l2/\w.cell? ⟨b,o+j*9+6,none⟩=some r0/\w.cell? ⟨b,o+j*9+7,none⟩=some r1/\w.cell? ⟨b,o+j*9+8,none⟩=some r2/\cC w r.left l0 l1 l2/\cC w r.right r0 r1 r2
theorem zbJ.below{w w':sV}{ro:Option Addr}{rs:List Rl}(h:zbJ w ro rs)(hb:Below w.heap.size w w'):zbJ w' ro rs:=fun j r hj=>by
 obtain⟨b,o,l0,l1,l2,r0,r1,r2,h0,hl,a0,a1,a2,a3,a4,a5,a6,a7,a8,p1,p2⟩:=h j r hj;have hc:∀k v,w.cell? ⟨b,k,none⟩=some v->w'.cell? ⟨b,k,none⟩=some v:=fun k v hk=>(hb.cell (p:=⟨b,k,none⟩) hl).trans hk
 exact⟨b,o,l0,l1,l2,r0,r1,r2,h0,sY hl hb.size,hc _ _ a0,hc _ _ a1,hc _ _ a2,hc _ _ a3,hc _ _ a4,hc _ _ a5,hc _ _ a6,hc _ _ a7,hc _ _ a8,cC.below hb _ _ _ _ p1,cC.below hb _ _ _ _ p2⟩
open Classical in
noncomputable def dcd(rest:Bool)(c:List Int)(k:Nat):List Rl->Bool
 |[]=>rest
 |r::rs=>if App r c k then r.brk else dcd rest c k rs
theorem zrj{rest:Bool}{c:List Int}{k i:Nat}{rs:List Rl}{r:Rl}(hr:rs[i]?=some r)(h:App r c k):dcd rest c k (rs.drop i)=r.brk:=by
 have hi:=(sS.1 hr).1;have he:rs[i]=r:=(sS.1 hr).2;rw[sW hi,he];unfold dcd;rw[if_pos h]
theorem zvQ{rest:Bool}{c:List Int}{k i:Nat}{rs:List Rl}{r:Rl}(hr:rs[i]?=some r)(h:¬App r c k):dcd rest c k (rs.drop i)=dcd rest c k (rs.drop (i+1)):=by
 have hi:=(sS.1 hr).1;have he:rs[i]=r:=(sS.1 hr).2;rw[sW hi,he]
 conv=>lhs;unfold dcd
 rw[if_neg h]
noncomputable def zeR(rest:Bool)(rs:List Rl)(c:List Int)(k:Nat):Bool:=if c=[]then false else if k=0\/k=c.length then true else dcd rest c k rs
end Pt
end
section
namespace Pt
def zlG:List Int->Int->Bool
 |[],_=>true
 |x::l,b=>decide (b<x)&&(decide (x<2147483647)&&zlG l x)
theorem nM:∀(l:List Int)(b:Int),zlG l b=true->∀(k:Nat)(z:Int),l[k]?=some z->b<z/\z<2147483647/\∀(y:Int),l[k+1]?=some y->z<y
 |[],_,_,k,z,hk=>by simp at hk
 |x::l,b,h,k,z,hk=>by
  simp only[zlG,sT,decide_eq_true_eq]at h
  obtain⟨h1,h2,h3⟩:=h
  cases k with
  |zero=>
   cases hk
   refine⟨h1,h2,fun y hy=>?_⟩
   rw[sU]at hy;exact(nM l x h3 0 y hy).1
  |succ k=>
   rw[sU]at hk;obtain⟨q1,q2,q3⟩:=nM l x h3 k z hk;refine⟨by omega,q2,fun y hy=>q3 y ?_⟩
   rwa [sU]at hy
def okN(op:Int)(cls:List Int)(n:Nat):Bool:=
 (decide (op=1)&&(td n 0&&zlG cls (-1)))||(cls.isEmpty&&((decide (op=0)&&td n 0)||((decide (op=2)||decide (op=3))&&te 2 n)||((decide (op=4)||decide (op=5)||decide (op=6))&&td n 1)))
mutual
def okP:az->Bool
 | .mk op cls kids=>okN op cls kids.length&&okL kids
def okL:List az->Bool
 |[]=>true
 |p::ps=>okP p&&okL ps
end
theorem zqk{cls:List Int}(h:zlG cls (-1)=true):Rs cls:=fun i z hz=>by
 obtain⟨h1,h2,_⟩:=nM cls (-1) h i z hz;refine⟨by omega,h2,fun y hi hy=>?_⟩
 obtain⟨_,_,h3⟩:=nM cls (-1) h (i-1) y hy;exact h3 z (by rwa [Nat.sub_add_cancel hi])
theorem zjn{op:Int}{cls:List Int}{n:Nat}(h:okN op cls n=true):OkN op cls n:=by
 unfold okN at h
 simp only[Bool.or_eq_true,sT,decide_eq_true_eq,Nat.ble_eq,List.isEmpty_iff]at h
 rcases h with ⟨h1,h2,h3⟩|⟨h1,h2⟩
 ·exact .inl ⟨h1,sR h2,zqk h3⟩
 ·refine .inr ⟨h1,?_⟩
  rcases h2 with (⟨h2,h3⟩|⟨h2|h2,h3⟩)|⟨(h2|h2)|h2,h3⟩
  ·exact .inl ⟨h2,sR h3⟩
  ·exact .inr (.inl ⟨h2,h3⟩)
  ·exact .inr (.inr (.inl ⟨h2,h3⟩))
  ·exact .inr (.inr (.inr (.inl ⟨h2,sR h3⟩)))
  ·exact .inr (.inr (.inr (.inr (.inl ⟨h2,sR h3⟩))))
  ·exact .inr (.inr (.inr (.inr (.inr ⟨h2,sR h3⟩))))
mutual
theorem mc:∀p:az,okP p=true->jX p
 | .mk op cls kids,h=>by
  unfold okP at h;rw[sT]at h;unfold jX;exact⟨zjn h.1,rD kids h.2⟩
theorem rD:∀ps:List az,okL ps=true->nB ps
 |[],_=>by unfold nB;trivial
 |p::ps,h=>by
  unfold okL at h;rw[sT]at h;unfold nB;exact⟨mc p h.1,rD ps h.2⟩
end
def okR(r:Rl):Bool:=okP r.left&&(okP r.right&&(te (gu r.left) 2048&&te (gu r.right) 2048))
theorem zjm{rs:List Rl}(h:(rs.all okR)=true):∀r∈rs,zgV r:=fun r hr=>by
 have h1:=List.all_eq_true.1 h r hr;unfold okR at h1
 simp only[sT,Nat.ble_eq]at h1
 exact⟨mc _ h1.1,mc _ h1.2.1,h1.2.2.1,h1.2.2.2⟩
end Pt
end
section
open Go.RowKit
namespace Pt
def En(c:List Int)(p:az)(k:Nat):Prop:=∃i,i<=k/\aQ c p i k
def Sw(c:List Int)(p:az)(k:Nat):Prop:=∃j,k<=j/\j<=c.length/\aQ c p k j
theorem zxu(c:List Int)(i k:Nat):aQ c (.mk 0 [] []) i k ↔ i=k:=by
 unfold aQ
 simp
theorem mq(c cls:List Int)(kids:List az)(i k:Nat):aQ c (.mk 1 cls kids) i k ↔ k=i+1/\∃z,c[i]?=some z/\z∈cls:=by
 unfold aQ
 simp
theorem zaQ(c cls:List Int)(ks:List az)(i k:Nat):aQ c (.mk 2 cls ks) i k ↔ cF c ks i k:=by
 unfold aQ
 simp
theorem led3(c cls:List Int)(ks:List az)(i k:Nat):aQ c (.mk 3 cls ks) i k ↔ bU c ks i k:=by
 unfold aQ
 simp
theorem zen(c cls:List Int)(p:az)(ps:List az)(i k:Nat):aQ c (.mk 4 cls (p::ps)) i k ↔ cr (aQ c p) i k:=by
 have h:cM c (p::ps)=aQ c p:=by rw[cM]
 conv=>lhs;unfold aQ
 simp[h]
theorem zxt(c cls:List Int)(p:az)(ps:List az)(i k:Nat):aQ c (.mk 6 cls (p::ps)) i k ↔ i=k\/aQ c p i k:=by
 have h:cM c (p::ps)=aQ c p:=by rw[cM]
 conv=>lhs;unfold aQ
 simp[h]
theorem gJ(c:List Int)(i k:Nat):cF c [] i k ↔ i=k:=by rw[ci]
theorem gI(c:List Int)(p:az)(ps:List az)(i k:Nat):cF c (p::ps) i k ↔ ∃j,aQ c p i j/\cF c ps j k:=by rw[bY];exact Iff.rfl
theorem zvx(c:List Int)(i k:Nat):bU c [] i k ↔ False:=by rw[bU]
theorem zvw(c:List Int)(p:az)(ps:List az)(i k:Nat):bU c (p::ps) i k ↔ aQ c p i k\/bU c ps i k:=by rw[bU]
theorem zbY(c cls:List Int)(kids:List az)(i k:Nat):cr (aQ c (.mk 1 cls kids)) i k ↔ i<=k/\∀m,i<=m->m<k->∃z,c[m]?=some z/\z∈cls:=by
 constructor
 ·intro h
  induction h with
  |refl=>exact⟨Nat.le_refl _,fun m h1 h2=>by omega⟩
  |step h1 _ ih=>
   rw[mq]at h1;obtain⟨rfl,hz⟩:=h1;obtain⟨h2,h3⟩:=ih;refine⟨by omega,fun m k1 k2=>?_⟩
   rcases Nat.eq_or_lt_of_le k1 with e2|e2
   ·exact e2 ▸ hz
   ·exact h3 m e2 k2
 ·rintro ⟨h1,h2⟩
  obtain⟨n,rfl⟩:∃n,k=i+n:=⟨k-i,by omega⟩
  clear h1
  induction n generalizing i with
  |zero=>exact .refl _
  |succ n ih=>
   refine .step (j:=i+1) ((mq _ _ _ _ _).2 ⟨rfl,h2 i (Nat.le_refl _) (by omega)⟩) ?_
   have:=ih (i+1) (fun m k1 k2=>h2 m (by omega) (by omega))
   rwa [show i+1+n=i+(n+1) by omega]at this
theorem aB(brk:Bool)(l r:az)(c:List Int)(k:Nat):App ⟨brk,false,false,l,r⟩ c k ↔ En c l k/\Sw c r k:=by
 unfold App En Sw
 simp
theorem sw(brk:Bool)(l r:az)(c:List Int)(k:Nat):App ⟨brk,true,false,l,r⟩ c k ↔ aQ c l 0 k/\Sw c r k:=by
 unfold App Sw
 simp only[true_implies,Bool.false_eq_true,false_implies,and_true]
 exact⟨fun h=>⟨h.2.2,h.2.1⟩,fun h=>⟨⟨0,sZ _,h.1⟩,h.2,h.1⟩⟩
theorem zrk(rest:Bool)(c:List Int)(k:Nat):dcd rest c k []=rest:=rfl
theorem aE{r:Rl}{c:List Int}{k:Nat}{d:Bool}(h:App r c k ↔ d=true)(rest:Bool)(rs:List Rl):dcd rest c k (r::rs)=bif d then r.brk else dcd rest c k rs:=by
 conv=>lhs;unfold dcd
 cases d with
 |true=>rw[if_pos (h.2 rfl)];rfl
 |false=>rw[if_neg (fun e=>by have:=h.1 e;cases this)];rfl
end Pt
end
end Go.Proofs.YtbbapnpdfcgjnaaGreatDoor
