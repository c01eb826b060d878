/- StBd, StBd2: parts of the proof, joined. -/
import Derived.Test.YtbbapnpdfcgjnaaGreatDoorEStCls
import Derived.Test.YtbbapnpdfcgjnaaGreatDoorESdRev
open List renaming getElem?_eq_getElem->sR, length_append->sT, getD_eq_getElem?_getD->sW, length_pos_iff->tc, filter_append->td, length_drop->tg, range_succ->tk, map_append->tn
open Go renaming cell_of_row->sS, World->ta
open Go.RowKit.Below renaming refl->sU, heap_alloc->ti
open Nat renaming lt_of_lt_of_le->sV, le_refl->sX
open Go.RowKit renaming Below->sY, intOf->te
open And renaming intro->sZ
open Go.World renaming ownsRow_nil->tf, size_alloc->tj
set_option maxHeartbeats 64000000
namespace Go.Proofs.YtbbapnpdfcgjnaaGreatDoor
section
open Go.RowKit
namespace Pt
theorem zxO(rest:Bool)(c:List Int)(k:Nat):dcd rest c k []=rest:=rfl
noncomputable def kC(A:Nat->Bool)(l:List UInt8)(k:Nat):List Nat:=((List.range k).filter A).map (Wt.pos l)
theorem oA{A:Nat->Bool}{l:List UInt8}{k:Nat}(h:A k=true):kC A l (k+1)=kC A l k++[Wt.pos l k]:=by
 unfold kC;rw[tk,td,tn]
 simp[h]
theorem zoS{A:Nat->Bool}{l:List UInt8}{k:Nat}(h:A k=false):kC A l (k+1)=kC A l k:=by
 unfold kC;rw[tk,td,tn]
 simp[h]
def toZ(L:List Nat):List Int:=L.map fun(x:Nat)=>(x:Int)
theorem kF(L:List Nat)(x:Nat):toZ (L++[x])=toZ L++[(x:Int)]:=by simp[toZ]
noncomputable def zrv(A:List Dc.Tr)(rs:List Rl)(rest:Bool)(l:List UInt8):List Nat:=if l=[]then []else kC (zeR rest rs (lH A l)) l ((rl l).length+1)
theorem rv:∀(n:Nat)(l:List UInt8),l.length<=n->(rl l).length<=l.length
 |n,l,hn=>by
  by_cases h:l=[]
  ·subst h;exact sX _
  ·have h1:=dec_ge l h
   have hp:0<l.length:=tc.2 h;rw[cK l h,List.length_cons]
   cases n with
   |zero=>omega
   |succ n=>
    have:=rv n (l.drop (dec l).2) (by rw[tg];omega)
    rw[tg]at this;omega
set_option maxRecDepth 100000 in
theorem zeZ(U:List (List UInt8))(D:List Dc.Tr)(rs:List Rl)(rest:Bool)(hrs:∀r∈rs,zgV r)(hr9:rs.length<=1000)(hC:Dc.mL 0 D 1114112)(hc:∀g∈D,g.2.2<U.length)(hU:U.length<=1000)(hA:D.length<=10000000)(Q:Nat)(ro:Option Addr)(rc:Nat)(l:List UInt8)(hl:l.length<=80000)(hne:l≠ [])(w:ta)(hD:Dc.Bk U D Q w)(hR:zbJ w ro rs):
  Calls Tryz.prog 47 #[.pointer (some ⟨Q,0,none⟩),.agg #[.slice ro rs.length rc,.bool rest],.string ⟨l.toArray⟩] w (LsQ w (kC (zeR rest rs (lH D l)) l ((rl l).length+1))):=by
 obtain⟨B,nv,sv,vs,hD⟩:=hD;have hl0:0<l.length:=tc.2 hne;have hrl:=rv _ l (sX _);have hrl0:0<(rl l).length:=by rw[cK l hne];simp
 have HD:=aa (fun(W:ta)(h:sY w.heap.size w W)=>hD.below h)
 have HR:=aa (fun(W:ta)(h:sY w.heap.size w W)=>hR.below h)
 have HRs:=aa hrs;have HDB:=aa (sZ hC (sZ hc (sZ hU hA)));have HTl:=aa (sM l);obtain⟨rn,hrn⟩:=am rs.length;have HRN:=aa hrn;rw[<- hrn]at hr9⊢;obtain⟨n,hn⟩:=am ((rl l).length);have HN:=aa hn;rw[<- hn]at hrl hrl0 HTl⊢;have hcne:lH D l≠ []:=fun e=>by
  have:=dK D l;rw[e,<- hn]at this
  simp at this
  omega
 have hn9:n<=80000:=by omega
 have HLl:=aa hl;obtain⟨A,hAA⟩:=am (zeR rest rs (lH D l));have HA0:ae (∀k,k=0\/k=n->A k=true):=aa (fun k hk=>by
  rw[hAA];unfold zeR;rw[if_neg hcne,if_pos (by rw[dK,<- hn];exact hk)])
 have HAd:ae (∀k,0<k->k<n->A k=dcd rest (lH D l) k rs):=aa (fun k h1 h2=>by
  rw[hAA];unfold zeR;rw[if_neg hcne,if_neg (by rw[dK,<- hn];omega)])
 rw[<- hAA];clear hD hR hrs hC hc hU hA hne hl hn hrn hcne hAA;have HBX:=aa (fun(o:Obj)=>below_box (w:=w) (o:=o))
 go_enter Tryz.func47,Tryz.ntmps47;go_wp2_with fail;obtain⟨w1,hw1⟩:=am ((w.alloc (.cells #[.slice ro rn rc,.bool rest] 63)).alloc (.cells #[.pointer (some ⟨Q,0,none⟩),.slice ro rn rc,.bool rest,.slice none 0 0,.slice none 0 0,.int .i64 0,.int .i64 0] 96));have HB1:ae (sY w.heap.size w w1):=aa (by rw[hw1];exact((sU _ _).alloc (sX _) _).alloc (by simp) _)
 have HN1:ae (w1.heap[w.heap.size]?=some (.cells #[.slice ro rn rc,.bool rest] 63)):=aa (by rw[hw1];exact(ti _ _ _ (by simp)).trans (heap_alloc_new w _))
 have HX1:=aa (show w1.heap[w.heap.size+1]?=some (.cells #[.pointer (some ⟨Q,0,none⟩),.slice ro rn rc,.bool rest,.slice none 0 0,.slice none 0 0,.int .i64 0,.int .i64 0] 96) by
  have:=heap_alloc_new (w.alloc (.cells #[.slice ro rn rc,.bool rest] 63)) (.cells #[.pointer (some ⟨Q,0,none⟩),.slice ro rn rc,.bool rest,.slice none 0 0,.slice none 0 0,.int .i64 0,.int .i64 0] 96);rw[tj]at this;rw[hw1];exact this)
 rw[<- hw1];clear hw1;refine(Dc.iU l w1 (by have:=HLl.o;omega)).mono ?_
 rintro e w2 ⟨xo,xc,rfl,hT,hB2⟩;rw[HTl.o];have HB2:=aa (HB1.o.trans (hB2.mono HB1.o.size));have HB12:=aa hB2;have HT2:=aa hT;clear hT hB2;go_wp2_with fail;refine(nA U D HDB.o.1 HDB.o.2.1 HDB.o.2.2.1 HDB.o.2.2.2 B Q nv sv vs (w.heap.size+1) l xo n xc w2 (HD.o w2 HB2.o) (by rw[sS w2 _ 0 _ _ _ ((HB12.o.block _ (ag HX1.o)).trans HX1.o)];rfl) (sV (ag HX1.o) HB12.o.size) HT2.o HN.o (by omega)).mono ?_
 rintro e w3 ⟨co,cc,rfl,hO3,hB3⟩;obtain⟨g,hco,hcc⟩:∃g,co=some ⟨g,0,none⟩/\n<=cc:=by
  rcases hO3.2 with ⟨_,e⟩|⟨g,cap,cur,k1,_,_,k4,_⟩
  ·omega
  ·cases k1;exact⟨g,rfl,k4⟩
 subst hco;have HC3:=aa (dO hO3 (by rw[dK];exact HN.o))
 have HB3:=aa (HB2.o.trans (hB3.mono HB2.o.size));have HB13:=aa (HB12.o.trans (hB3.mono HB12.o.size));have HT3:=aa (HT2.o.below hB3);have hN3:=(HB13.o.block _ (ag HN1.o)).trans HN1.o;have x0:w3.cell? ⟨w.heap.size,0,none⟩=some (.slice ro rn rc):=by rw[sS w3 _ 0 _ _ _ hN3];rfl
 have x1:w3.cell? ⟨w.heap.size,1,none⟩=some (.bool rest):=by rw[sS w3 _ 1 _ _ _ hN3];rfl
 clear hO3 hB3 hN3 HT2;go_wp2_with fail;refine(qX rest rs HRs.o ro rn rc HRN.o hr9 w3 (HR.o w3 HB3.o)).mono ?_;rintro e w5 ⟨uo,uc,sds,rfl,hsl,hsk,hsr,hB5⟩;have HB5:=aa (HB3.o.trans (hB5.mono HB3.o.size));have HSl:=aa hsl;have HSk:=aa hsk;have HSr:=aa hsr;have HC:=aa (fun(W:ta)(h:sY w5.heap.size w5 W)=>(HC3.o.below hB5).below h)
 have HT:=aa (fun(W:ta)(h:sY w5.heap.size w5 W)=>(HT3.o.below hB5).below h)
 have HN5:=aa ((((HB13.o.trans (hB5.mono HB13.o.size))).block _ (ag HN1.o)).trans HN1.o);rw[<- HRN.o];obtain⟨gx0,hgx0⟩:∃gx,xo=some ⟨gx,0,none⟩:=by
  have hx:=(rl l)[0]?;obtain⟨y,hy⟩:∃y,(rl l)[0]?=some y:=⟨_,sR (by rw[<- HN.o];exact hrl0)⟩
  obtain⟨gx,h1,_⟩:=HT3.o 0 _ (j5 l 0 y hy);exact⟨gx,h1⟩
 subst hgx0;clear hsl hsk hsr hB5 x0 x1 HC3 HT3 HX1 HN1 HB12 HB13 HB1 HB2 HD HDB;go_wp2;go_loopw [11,12] (fun x y wr=>∃(k m:Nat)(vo:Option Addr)(vc:Nat),x=.slice vo m vc/\y=.int .i64 k/\k<=n+1/\m<=k/\ae (m=(kC A l k).length)/\ae (wr.ownsRow w5.heap.size 3 1 (.slice vo m vc) m (bf (toZ (kC A l k))))/\ae (sY w5.heap.size w5 wr)) (fun _ y _=>n+1-(te y).toNat)
 case atStart=>exact⟨0,0,none,0,rfl,rfl,Nat.zero_le _,sX _,aa rfl,aa (tf _ _ _ _),aa (sU _ _)⟩
 case round=>
  obtain⟨k,m,vo,vc,rfl,rfl,hk,hm,HM,HOw,HB⟩:=hrel
  by_cases hlt:k<n+1
  ·have i0:(0:Int)<=(k:Int):=by omega
   have i1:(k:Int)<=(n:Int):=by omega
   have i2:(0:Int)<(n:Int):=by omega
   by_cases hkn:k=n
   ·have HAk:=aa (HA0.o k (.inr hkn))
    have HPn:ae (Wt.pos l k=l.length):=aa (Wt.gG l k (by rw[hkn];exact Nat.le_of_eq HN.o.symm))
    have i3:((k:Int)==0)=false:=beq_eq_false_iff_ne.2 (by omega)
    have i4:((k:Int)==(n:Int))=true:=beq_iff_eq.2 (by omega)
    have i5:¬(k:Int)<(n:Int):=by omega
    clear hkn;have HA:ae (kC A l (k+1)=kC A l k++[Wt.pos l k]):=aa (oA HAk.o);rw[HPn.o]at HA;go_wp2_with (at_builtin;refine cD rfl _ _ rfl w5.heap.size (.slice vo m vc) m (toZ (kC A l k)) rfl (aD HOw.o below_box) (some ⟨wr.heap.size,0,none⟩) 1 1 [(l.length:Int)] rfl (cw (heap_alloc_new _ _)) rfl (by omega) (by have:=HB.o.size;simp;omega) ?_;intro vo9 vc9 w9 ho9 hg9 _;have HB9:=aa ((HB.o.trans ((below_box (w:=wr) (o:=.cells #[.int .i64 (l.length:Int)] 3)).mono HB.o.size)).trans (grown_below (aD HOw.o below_box) hg9 (by have:=HB.o.size;simp;omega)));have HO9:=aa ho9;clear ho9 hg9)
    go_roundw
    case rel=>exact⟨k+1,m+1,vo9,vc9,rfl,by go_num,by omega,by omega,aa (by rw[HA.o,sT,HM.o];rfl),aa (by rw[HA.o,kF];exact HO9.o),HB9⟩
    case measure=>simp[te];omega
   have hkl:k<(rl l).length:=by have:=HN.o;omega
   obtain⟨x,hx⟩:=am ((rl l)[k]);have hxk:(rl l)[k]?=some x:=by rw[hx];exact sR hkl
   have hkn2:k<n:=by omega
   have i5:(k:Int)<(n:Int):=by omega
   have i6:((k:Int)==(n:Int))=false:=beq_eq_false_iff_ne.2 (by omega)
   clear hx
   by_cases hk0:k=0
   ·have HAk:=aa (HA0.o k (.inl hk0))
    have i3:((k:Int)==0)=true:=beq_iff_eq.2 (by omega)
    clear hk0;obtain⟨gx,hgx,_,_,cx0,_⟩:=HT.o wr HB.o k _ (j5 l k x hxk)
    cases hgx
    have cx:wr.cell? ⟨gx0,k*3+1,none⟩=some (.int .i64 (Wt.pos l k:Nat)):=cx0;clear cx0;have HA:ae (kC A l (k+1)=kC A l k++[Wt.pos l k]):=aa (oA HAk.o);obtain⟨pq,hpq⟩:=am (Wt.pos l k);rw[<- hpq]at cx HA;clear hpq;go_wp2_with (at_builtin;refine cD rfl _ _ rfl w5.heap.size (.slice vo m vc) m (toZ (kC A l k)) rfl (aD HOw.o below_box) (some ⟨wr.heap.size,0,none⟩) 1 1 [(pq:Int)] rfl (cw (heap_alloc_new _ _)) rfl (by omega) (by have:=HB.o.size;simp;omega) ?_;intro vo9 vc9 w9 ho9 hg9 _;have HB9:=aa ((HB.o.trans ((below_box (w:=wr) (o:=.cells #[.int .i64 (pq:Int)] 3)).mono HB.o.size)).trans (grown_below (aD HOw.o below_box) hg9 (by have:=HB.o.size;simp;omega)));have HO9:=aa ho9;clear ho9 hg9)
    go_roundw
    case rel=>exact⟨k+1,m+1,vo9,vc9,rfl,by go_num,by omega,by omega,aa (by rw[HA.o,sT,HM.o];rfl),aa (by rw[HA.o,kF];exact HO9.o),HB9⟩
    case measure=>simp[te];omega
   ·have i3:((k:Int)==0)=false:=beq_eq_false_iff_ne.2 (by omega)
    have HDk:=aa (HAd.o k (by omega) hkn2)
    have y1:wr.cell? ⟨w.heap.size,1,none⟩=some (.bool rest):=by rw[sS wr w.heap.size 1 _ _ _ ((HB.o.block _ (ag HN5.o)).trans HN5.o)];rfl
    have hk1:1<=k:=by omega
    obtain⟨wo,rfl⟩:=am wr;go_wp2;clear y1;go_loopw [13,14] (fun x y wr=>∃i:Nat,x=.bool rest/\y=.int .i64 i/\i<=rn/\ae (dcd rest (lH D l) k rs=dcd rest (lH D l) k (rs.drop i))/\ae (sY wo.heap.size wo wr)) (fun _ y _=>rn-(te y).toNat)
    case atStart=>exact⟨0,rfl,rfl,Nat.zero_le _,aa rfl,aa (sU _ _)⟩
    case round=>
     obtain⟨i,rfl,rfl,hi,HDc,HBi⟩:=hrel;have HBv:=aa (HB.o.trans (HBi.o.mono HB.o.size));have y0:wr.cell? ⟨w.heap.size,0,none⟩=some (.slice ro rn rc):=by rw[sS wr w.heap.size 0 _ _ _ ((HBv.o.block _ (ag HN5.o)).trans HN5.o)];rfl
     by_cases hir:i<rn
     ·have j0:(0:Int)<=(i:Int):=by omega
      have j1:(i:Int)<(rn:Int):=by omega
      have hil:i<rs.length:=by have:=HRN.o;omega
      have his:i<sds.length:=by have:=HRN.o;have:=HSl.o;omega
      obtain⟨r,hr⟩:=am (rs[i]);have HRi:ae (rs[i]?=some r):=aa (by rw[hr];exact sR hil)
      have HROk:=aa (HRs.o r (by rw[hr];exact List.getElem_mem _))
      obtain⟨s,hs⟩:=am (sds[i]);have HSi:ae (sds[i]?=some s):=aa (by rw[hs];exact sR his)
      have HSOk:=aa (HSk.o i r s HRi.o HSi.o);clear hr hs;obtain⟨b,o,l0,l1,l2,r0,r1,r2,rfl,hb,a0,a1,a2,a3,a4,a5,a6,a7,a8,p1,p2⟩:=(HR.o wr (HB5.o.trans (HBv.o.mono HB5.o.size))) i r HRi.o;obtain⟨e0,eo,en,ec,ek,em,ep,rfl,rfl,rfl⟩:=p1.shape;obtain⟨f0,fo,fn,fc,fk,fm,fp,rfl,rfl,rfl⟩:=p2.shape;obtain⟨F,lo,lc,so,sc,rfl,hF,b0,b1,b2,b3,q1,q2,q3,q4⟩:=(HSr.o.below HBv.o) i s HSi.o;have hk1l:k-1<(lH D l).length:=by rw[dK];omega
      have hkl2:k<(lH D l).length:=by rw[dK];exact hkl
      obtain⟨ga,hga,_,d0⟩:=(HC.o wr HBv.o).at hk1l
      cases hga
      obtain⟨gb,hgb,hgl,d1⟩:=(HC.o wr HBv.o).at hkl2
      cases hgb
      rw[Addr.add_lit,Nat.zero_add]at d0 d1;obtain⟨a,ha⟩:=am ((lH D l)[k-1]);obtain⟨z,hz⟩:=am ((lH D l)[k]);have HGa:ae ((lH D l).getD (k-1) 0=a):=aa (by rw[sW,sR hk1l,ha];rfl)
      have HGz:ae ((lH D l).getD k 0=z):=aa (by rw[sW,sR hkl2,hz];rfl)
      rw[<- ha]at d0;rw[<- hz]at d1;have HMay:=aa (fun(W:ta)(h:sY wr.heap.size wr W)=>zqB s lo so s.L.length lc s.R.length sc a z W (q1.below h) (q2.below h) rfl rfl q3 q4)
      have HNo:ae (s.may a z=false->¬App r (lH D l) k):=aa (fun h hA=>by
       have:=zqA HSOk.o hk1 (by rw[dK];exact hkl) hA
       rw[HGa.o,HGz.o,h]at this
       cases this)
      have HAp:=aa (fun(W:ta)(h:sY wr.heap.size wr W)=>zfc r HROk.o _ _ _ _ _ _ (lH D l) g 0 n cc k (by rw[dK];exact HN.o) (by omega) hcc (by omega) W (cC.below h _ _ _ _ p1) (cC.below h _ _ _ _ p2) ((HC.o wr HBv.o).below h))
      have HYes:=aa (fun(h:App r (lH D l) k)=>zrj (rest:=rest) HRi.o h)
      have HNoD:=aa (fun(h:¬App r (lH D l) k)=>zvQ (rest:=rest) HRi.o h)
      obtain⟨rb,hrb⟩:=am r.brk;obtain⟨rs1,hrs1⟩:=am r.st;obtain⟨re,hre⟩:=am r.en;obtain⟨p1',hp1⟩:=am s.noL;obtain⟨p2',hp2⟩:=am s.noR;obtain⟨ln,hln⟩:=am s.L.length;obtain⟨sn,hsn⟩:=am s.R.length;obtain⟨my,hmy⟩:=am (s.may a z);rw[<- hrb,<- hrs1,<- hre]at HAp;rw[<- hrb]at a0 HYes;rw[<- hrs1]at a1;rw[<- hre]at a2;rw[<- hp1,<- hp2,<- hln,<- hsn,<- hmy]at HMay;rw[<- hmy]at HNo;rw[<- hln]at b0;rw[<- hsn]at b1;rw[<- hp1]at b2;rw[<- hp2]at b3;have HSS:=aa (fun(W:ta)(h:sY wr.heap.size wr W)=>show W.cell? ⟨w.heap.size,0,none⟩=some (.slice (some ⟨b,o,none⟩) rn rc)/\W.cell? ⟨F,i*4,none⟩=some (.slice lo ln lc)/\W.cell? ⟨F,i*4+1,none⟩=some (.slice so sn sc)/\W.cell? ⟨F,i*4+2,none⟩=some (.bool p1')/\W.cell? ⟨F,i*4+3,none⟩=some (.bool p2')/\W.cell? ⟨g,k-1,none⟩=some (.int .i64 a)/\W.cell? ⟨g,k,none⟩=some (.int .i64 z)/\W.cell? ⟨b,o+i*9,none⟩=some (.bool rb)/\W.cell? ⟨b,o+i*9+1,none⟩=some (.bool rs1)/\W.cell? ⟨b,o+i*9+2,none⟩=some (.bool re)/\W.cell? ⟨b,o+i*9+3,none⟩=some (.int .i64 e0)/\W.cell? ⟨b,o+i*9+4,none⟩=some (.slice eo en ec)/\W.cell? ⟨b,o+i*9+5,none⟩=some (.slice ek em ep)/\W.cell? ⟨b,o+i*9+6,none⟩=some (.int .i64 f0)/\W.cell? ⟨b,o+i*9+7,none⟩=some (.slice fo fn fc)/\W.cell? ⟨b,o+i*9+8,none⟩=some (.slice fk fm fp)from by
       have hNl:=sV (ag HN5.o) HBv.o.size;have hc1:∀k v,wr.cell? ⟨b,k,none⟩=some v->W.cell? ⟨b,k,none⟩=some v:=fun k v hk=>(h.cell (p:=⟨b,k,none⟩) hb).trans hk
       have hc2:∀k v,wr.cell? ⟨F,k,none⟩=some v->W.cell? ⟨F,k,none⟩=some v:=fun k v hk=>(h.cell (p:=⟨F,k,none⟩) hF).trans hk
       have hc3:∀k v,wr.cell? ⟨g,k,none⟩=some v->W.cell? ⟨g,k,none⟩=some v:=fun k v hk=>(h.cell (p:=⟨g,k,none⟩) hgl).trans hk
       exact⟨(h.cell (p:=⟨w.heap.size,0,none⟩) hNl).trans y0,hc2 _ _ b0,hc2 _ _ b1,hc2 _ _ b2,hc2 _ _ b3,hc3 _ _ d0,hc3 _ _ d1,hc1 _ _ a0,hc1 _ _ a1,hc1 _ _ a2,hc1 _ _ a3,hc1 _ _ a4,hc1 _ _ a5,hc1 _ _ a6,hc1 _ _ a7,hc1 _ _ a8⟩)
      have e4:IntKind.i64.wrap ((k:Int)-1)=(k:Int)-1:=by unfold IntKind.wrap IntKind.bits IntKind.signed;simp;omega
      have e5:((k:Int)-1).toNat=k-1:=by omega
      have e6:(0:Int)<=(k:Int)-1:=by omega
      have e7:(k:Int)-1<(n:Int):=by omega
      have e8:(1:Int)<=(k:Int):=by omega
      have y9:=y0;clear a1 a2 a3 a4 a5 a6 a7 a8 p1 p2 b0 b1 b2 b3 q1 q2 q3 q4 d0 d1 ha hz hrb hrs1 hre hp1 hp2 hln hsn hmy hk1l hkl2 HGa HGz HSOk HROk;go_wp2_with fail;clear y9;refine au [(0,true),(1,true),(2,true),(3,true),(4,true),(5,true),(6,true),(7,true),(8,true),(9,true),(10,true),(11,true),(12,true),(13,false),(14,true),(15,true),(16,true),(17,true),(18,true),(19,true),(20,true),(21,true),(22,false),(23,true)] (fun W=>W.cell? ⟨w.heap.size,0,none⟩=some (.slice (some ⟨b,o,none⟩) rn rc)/\W.cell? ⟨F,i*4,none⟩=some (.slice lo ln lc)/\W.cell? ⟨F,i*4+1,none⟩=some (.slice so sn sc)/\W.cell? ⟨F,i*4+2,none⟩=some (.bool p1')/\W.cell? ⟨F,i*4+3,none⟩=some (.bool p2')/\W.cell? ⟨g,k-1,none⟩=some (.int .i64 a)/\W.cell? ⟨g,k,none⟩=some (.int .i64 z)/\W.cell? ⟨b,o+i*9,none⟩=some (.bool rb)/\W.cell? ⟨b,o+i*9+1,none⟩=some (.bool rs1)/\W.cell? ⟨b,o+i*9+2,none⟩=some (.bool re)/\W.cell? ⟨b,o+i*9+3,none⟩=some (.int .i64 e0)/\W.cell? ⟨b,o+i*9+4,none⟩=some (.slice eo en ec)/\W.cell? ⟨b,o+i*9+5,none⟩=some (.slice ek em ep)/\W.cell? ⟨b,o+i*9+6,none⟩=some (.int .i64 f0)/\W.cell? ⟨b,o+i*9+7,none⟩=some (.slice fo fn fc)/\W.cell? ⟨b,o+i*9+8,none⟩=some (.slice fk fm fp)) (fun _=>false) (by kernel_rfl) (by kernel_rfl) (fun j hj=>by cases hj) rfl (by kernel_rfl) (HSS.o _ (show sY wr.heap.size wr wr.drew from(sU _ _).drew)) ?_
      iterate 13 (refine ax ?_ rfl (by kernel_rfl) (fun w' hS=>?_) ?_;(rotate_left;(obtain⟨s0,s1,s2,s3,s4,s5,s6,s7,s8,s9,s10,s11,s12,s13,s14,s15⟩:=hS;go_simp;with_reducible rfl);rotate_left))
      refine av rfl (by kernel_rfl) fun KK hKK=>?_
      go_simp;have HBd:ae (sY wr.heap.size wr wr.drew):=aa ((sU _ _).drew);refine(HMay.o wr.drew HBd.o).mono ?_;rintro e w6 ⟨rfl,hB6⟩;have HB6:=aa (HBd.o.trans (hB6.mono HBd.o.size));clear hB6 HBd HMay;refine hKK _ _ (fun _=>HSS.o _ HB6.o) ?_
      clear hKK
      cases my with
      |false=>
       have HNA:=aa (HNo.o rfl);refine ax ?_ rfl (by kernel_rfl) (fun w' hS=>?_) ?_
       rotate_left
       ·go_simp
        with_reducible rfl
       rotate_left
       iterate 7 (refine eR rfl (by kernel_rfl) ?_)
       refine zbN rfl (by kernel_rfl) (HSS.o _ HB6.o) ?_
       refine ax ?_ rfl (by kernel_rfl) (fun w' hS=>?_) ?_
       rotate_left
       ·go_simp
        with_reducible rfl
       rotate_left;refine aS (NoPanic.normal ?_);have HD2:=aa (HDc.o.trans (HNoD.o HNA.o));have HBo:=aa (HBi.o.trans (HB6.o.mono HBi.o.size));clear a0;go_simp;go_wp2;go_roundw
       case rel=>exact⟨i+1,rfl,by go_num,by omega,HD2,HBo⟩
       case measure=>simp[te];omega
      |true=>
       iterate 8 (refine ax ?_ rfl (by kernel_rfl) (fun w' hS=>?_) ?_;(rotate_left;(obtain⟨s0,s1,s2,s3,s4,s5,s6,s7,s8,s9,s10,s11,s12,s13,s14,s15⟩:=hS;go_simp;with_reducible rfl);rotate_left))
       refine av rfl (by kernel_rfl) fun KK hKK=>?_
       go_simp;refine(HAp.o w6 HB6.o).mono ?_;rintro e w7 ⟨ap,rfl,hap,hB7⟩;have HB7:=aa (HB6.o.trans (hB7.mono HB6.o.size));have HAP:=aa hap;clear hB7 hap HAp;refine hKK _ _ (fun _=>HSS.o _ HB7.o) ?_
       clear hKK;refine ax ?_ rfl (by kernel_rfl) (fun w' hS=>?_) ?_
       rotate_left
       ·go_simp
        with_reducible rfl
       rotate_left;refine aS (NoPanic.normal ?_);have HBo:=aa (HBi.o.trans (HB7.o.mono HBi.o.size));obtain⟨s0,_,_,_,_,_,_,s7,_⟩:=HSS.o w7 HB7.o;clear a0
       cases ap with
       |false=>
        have HD2:=aa (HDc.o.trans (HNoD.o fun h=>by have:=HAP.o.2 h;cases this))
        go_wp2;go_roundw
        case rel=>exact⟨i+1,rfl,by go_num,by omega,HD2,HBo⟩
        case measure=>simp[te];omega
       |true=>
        have HV:ae (A k=rb):=aa (HDk.o.trans (HDc.o.trans (HYes.o (HAP.o.1 rfl))));have HBq:=aa (HB.o.trans (HBo.o.mono HB.o.size));have HOq:=aa (aD HOw.o HBo.o);clear HSS HNo HYes HNoD e4 e5 e6 e7 e8;obtain⟨v,hv⟩:=am rb;rw[<- hv]at HV s7;clear hv
        cases v with
        |true=>
         have HAk:ae (A k=true):=aa HV.o;obtain⟨gx,hgx,_,_,cx0,_⟩:=HT.o w7 HBq.o k _ (j5 l k x hxk)
         cases hgx
         have cx:w7.cell? ⟨gx0,k*3+1,none⟩=some (.int .i64 (Wt.pos l k:Nat)):=cx0;clear cx0;have HA:ae (kC A l (k+1)=kC A l k++[Wt.pos l k]):=aa (oA HAk.o);obtain⟨pq,hpq⟩:=am (Wt.pos l k);rw[<- hpq]at cx HA;clear hpq;go_wp2_with (at_builtin;refine cD rfl _ _ rfl w5.heap.size (.slice vo m vc) m (toZ (kC A l k)) rfl (aD HOq.o below_box) (some ⟨w7.heap.size,0,none⟩) 1 1 [(pq:Int)] rfl (cw (heap_alloc_new _ _)) rfl (by omega) (by have:=HBq.o.size;simp;omega) ?_;intro vo9 vc9 w9 ho9 hg9 _;have HB9:=aa ((HBq.o.trans ((below_box (w:=w7) (o:=.cells #[.int .i64 (pq:Int)] 3)).mono HBq.o.size)).trans (grown_below (aD HOq.o below_box) hg9 (by have:=HBq.o.size;simp;omega)));have HO9:=aa ho9;clear ho9 hg9)
         go_roundw
         case rel=>exact⟨k+1,m+1,vo9,vc9,rfl,by go_num,by omega,by omega,aa (by rw[HA.o,sT,HM.o];rfl),aa (by rw[HA.o,kF];exact HO9.o),HB9⟩
         case measure=>simp[te];omega
        |false=>
         have HAk:ae (A k=false):=aa HV.o;have HA:ae (kC A l (k+1)=kC A l k):=aa (zoS HAk.o);go_wp2;go_roundw
         case rel=>exact⟨k+1,m,vo,vc,rfl,by go_num,by omega,by omega,aa (by rw[HA.o];exact HM.o),aa (by rw[HA.o];exact HOq.o),HBq⟩
         case measure=>simp[te];omega
     ·have j1:¬(i:Int)<(rn:Int):=by omega
      have HV:ae (A k=rest):=aa (by
       have h1:=HDk.o.trans HDc.o
       rwa [List.drop_of_length_le (by have:=HRN.o;omega),zxO]at h1)
      have HOq:=aa (aD HOw.o HBi.o)
      cases rest with
      |true=>
       have HAk:ae (A k=true):=aa HV.o;obtain⟨gx,hgx,_,_,cx0,_⟩:=HT.o wr HBv.o k _ (j5 l k x hxk)
       cases hgx
       have cx:wr.cell? ⟨gx0,k*3+1,none⟩=some (.int .i64 (Wt.pos l k:Nat)):=cx0;clear cx0;have HA:ae (kC A l (k+1)=kC A l k++[Wt.pos l k]):=aa (oA HAk.o);obtain⟨pq,hpq⟩:=am (Wt.pos l k);rw[<- hpq]at cx HA;clear hpq;go_wp2_with (at_builtin;refine cD rfl _ _ rfl w5.heap.size (.slice vo m vc) m (toZ (kC A l k)) rfl (aD HOq.o below_box) (some ⟨wr.heap.size,0,none⟩) 1 1 [(pq:Int)] rfl (cw (heap_alloc_new _ _)) rfl (by omega) (by have:=HBv.o.size;simp;omega) ?_;intro vo9 vc9 w9 ho9 hg9 _;have HB9:=aa ((HBv.o.trans ((below_box (w:=wr) (o:=.cells #[.int .i64 (pq:Int)] 3)).mono HBv.o.size)).trans (grown_below (aD HOq.o below_box) hg9 (by have:=HBv.o.size;simp;omega)));have HO9:=aa ho9;clear ho9 hg9)
       go_roundw
       case rel=>exact⟨k+1,m+1,vo9,vc9,rfl,by go_num,by omega,by omega,aa (by rw[HA.o,sT,HM.o];rfl),aa (by rw[HA.o,kF];exact HO9.o),HB9⟩
       case measure=>simp[te];omega
      |false=>
       have HAk:ae (A k=false):=aa HV.o;have HA:ae (kC A l (k+1)=kC A l k):=aa (zoS HAk.o);go_wp2;go_roundw
       case rel=>exact⟨k+1,m,vo,vc,rfl,by go_num,by omega,by omega,aa (by rw[HA.o];exact HM.o),aa (by rw[HA.o];exact HOq.o),HBv⟩
       case measure=>simp[te];omega
  ·have i1:¬(k:Int)<=(n:Int):=by omega
   obtain rfl:k=n+1:=by omega
   have HQ:ae (LsQ w (kC A l (n+1)) (.returned (.slice vo m vc)) wr):=aa (by
    have h1:=HOw.o;rw[show bf (toZ (kC A l (n+1)))=kp (kC A l (n+1))from znK _,HM.o]at h1
    exact⟨vo,vc,by rw[HM.o],aZ h1 (by have:=HB5.o.size;omega),HB5.o.trans (HB.o.mono HB5.o.size)⟩)
   go_wp2;go_ret;exact HQ.o
end Pt
end
section
open Go.RowKit
namespace Pt
set_option maxRecDepth 100000 in
theorem zbt(U:List (List UInt8))(D:List Dc.Tr)(rs:List Rl)(rest:Bool)(hrs:∀r∈rs,zgV r)(hr9:rs.length<=1000)(hC:Dc.mL 0 D 1114112)(hc:∀g∈D,g.2.2<U.length)(hU:U.length<=1000)(hA:D.length<=10000000)(Q:Nat)(ro:Option Addr)(rc:Nat)(l:List UInt8)(hl:l.length<=80000)(hne:l=[])(w:ta)(hD:Dc.Bk U D Q w)(hR:zbJ w ro rs):
  Calls Tryz.prog 47 #[.pointer (some ⟨Q,0,none⟩),.agg #[.slice ro rs.length rc,.bool rest],.string ⟨l.toArray⟩] w (LsQ w []):=by
 obtain⟨B,nv,sv,vs,hD⟩:=hD;have HD:=aa (fun(W:ta)(h:sY w.heap.size w W)=>hD.below h)
 have HR:=aa (fun(W:ta)(h:sY w.heap.size w W)=>hR.below h)
 have HRs:=aa hrs;have HDB:=aa (sZ hC (sZ hc (sZ hU hA)));have HTl:=aa (sM l);obtain⟨rn,hrn⟩:=am rs.length;have HRN:=aa hrn;rw[<- hrn]at hr9⊢;obtain⟨n,hn⟩:=am ((rl l).length);have HN:=aa hn;rw[<- hn]at HTl;have HN0:ae (n=0):=aa (by rw[hn,hne];rfl)
 have HLl:=aa hl;clear hD hR hrs hC hc hU hA hne hl hn hrn;have HBX:=aa (fun(o:Obj)=>below_box (w:=w) (o:=o))
 go_enter Tryz.func47,Tryz.ntmps47;go_wp2_with fail;obtain⟨w1,hw1⟩:=am ((w.alloc (.cells #[.slice ro rn rc,.bool rest] 63)).alloc (.cells #[.pointer (some ⟨Q,0,none⟩),.slice ro rn rc,.bool rest,.slice none 0 0,.slice none 0 0,.int .i64 0,.int .i64 0] 96));have HB1:ae (sY w.heap.size w w1):=aa (by rw[hw1];exact((sU _ _).alloc (sX _) _).alloc (by simp) _)
 have HN1:ae (w1.heap[w.heap.size]?=some (.cells #[.slice ro rn rc,.bool rest] 63)):=aa (by rw[hw1];exact(ti _ _ _ (by simp)).trans (heap_alloc_new w _))
 have HX1:=aa (show w1.heap[w.heap.size+1]?=some (.cells #[.pointer (some ⟨Q,0,none⟩),.slice ro rn rc,.bool rest,.slice none 0 0,.slice none 0 0,.int .i64 0,.int .i64 0] 96) by
  have:=heap_alloc_new (w.alloc (.cells #[.slice ro rn rc,.bool rest] 63)) (.cells #[.pointer (some ⟨Q,0,none⟩),.slice ro rn rc,.bool rest,.slice none 0 0,.slice none 0 0,.int .i64 0,.int .i64 0] 96);rw[tj]at this;rw[hw1];exact this)
 rw[<- hw1];clear hw1;refine(Dc.iU l w1 (by have:=HLl.o;omega)).mono ?_
 rintro e w2 ⟨xo,xc,rfl,hT,hB2⟩;rw[HTl.o];have HB2:=aa (HB1.o.trans (hB2.mono HB1.o.size));have HB12:=aa hB2;have HT2:=aa hT;clear hT hB2;go_wp2_with fail;refine(nA U D HDB.o.1 HDB.o.2.1 HDB.o.2.2.1 HDB.o.2.2.2 B Q nv sv vs (w.heap.size+1) l xo n xc w2 (HD.o w2 HB2.o) (by rw[sS w2 _ 0 _ _ _ ((HB12.o.block _ (ag HX1.o)).trans HX1.o)];rfl) (sV (ag HX1.o) HB12.o.size) HT2.o HN.o (by have:=HN0.o;omega)).mono ?_
 rintro e w3 ⟨co,cc,rfl,hO3,hB3⟩;have HB3:=aa (HB2.o.trans (hB3.mono HB2.o.size));have HB13:=aa (HB12.o.trans (hB3.mono HB12.o.size));have HT3:=aa (HT2.o.below hB3);have hN3:=(HB13.o.block _ (ag HN1.o)).trans HN1.o;have x0:w3.cell? ⟨w.heap.size,0,none⟩=some (.slice ro rn rc):=by rw[sS w3 _ 0 _ _ _ hN3];rfl
 have x1:w3.cell? ⟨w.heap.size,1,none⟩=some (.bool rest):=by rw[sS w3 _ 1 _ _ _ hN3];rfl
 clear hO3 hB3 hN3 HT2;go_wp2_with fail;refine(qX rest rs HRs.o ro rn rc HRN.o hr9 w3 (HR.o w3 HB3.o)).mono ?_;rintro e w5 ⟨uo,uc,sds,rfl,hsl,hsk,hsr,hB5⟩;have HB5:=aa (HB3.o.trans (hB5.mono HB3.o.size));have HSl:=aa hsl;have HSk:=aa hsk;have HSr:=aa hsr;have HN5:=aa ((((HB13.o.trans (hB5.mono HB13.o.size))).block _ (ag HN1.o)).trans HN1.o);rw[<- HRN.o];obtain rfl:=HN0.o;clear hsl hsk hsr hB5 x0 x1 HD HDB;go_wp2;go_loopw [11,12] (fun x y wr=>x=.slice none 0 0/\y=.int .i64 0/\wr=w5) (fun _ _ _=>0)
 case atStart=>exact⟨rfl,rfl,rfl⟩
 case round=>
  obtain⟨rfl,rfl,rfl⟩:=hrel;have HQ:ae (LsQ w [] (.returned (.slice none 0 0)) wr):=aa ⟨none,0,rfl,tf _ _ _ _,HB5.o⟩;go_wp2;go_ret;exact HQ.o
theorem zbu(U:List (List UInt8))(D:List Dc.Tr)(rs:List Rl)(rest:Bool)(hrs:∀r∈rs,zgV r)(hr9:rs.length<=1000)(hC:Dc.mL 0 D 1114112)(hc:∀g∈D,g.2.2<U.length)(hU:U.length<=1000)(hA:D.length<=10000000)(Q:Nat)(ro:Option Addr)(rc:Nat)(l:List UInt8)(hl:l.length<=80000)(w:ta)(hD:Dc.Bk U D Q w)(hR:zbJ w ro rs):
  Calls Tryz.prog 47 #[.pointer (some ⟨Q,0,none⟩),.agg #[.slice ro rs.length rc,.bool rest],.string ⟨l.toArray⟩] w (LsQ w (zrv D rs rest l)):=by
 unfold zrv
 split
 ·exact zbt U D rs rest hrs hr9 hC hc hU hA Q ro rc l hl ‹_› w hD hR
 ·exact zeZ U D rs rest hrs hr9 hC hc hU hA Q ro rc l hl ‹_› w hD hR
end Pt
end
end Go.Proofs.YtbbapnpdfcgjnaaGreatDoor
