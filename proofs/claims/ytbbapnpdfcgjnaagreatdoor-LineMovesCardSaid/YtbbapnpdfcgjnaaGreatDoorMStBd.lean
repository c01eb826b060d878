/- StBd, StBd2: parts of the proof, joined. -/
import Derived.Test.YtbbapnpdfcgjnaaGreatDoorMStCls
import Derived.Test.YtbbapnpdfcgjnaaGreatDoorMSdRev
open List renaming getElem?_eq_getElem->sD, length_append->sG, getD_eq_getElem?_getD->sJ, length_pos_iff->sO, filter_append->sP, length_drop->sS, range_succ->sV, map_append->sW
open Go renaming cell_of_row->sE, World->sN
open Go.RowKit.Below renaming refl->sH, heap_alloc->sT
open Nat renaming lt_of_lt_of_le->sI, le_refl->sK
open Go.RowKit renaming Below->sL, intOf->sQ
open And renaming intro->sM
open Go.World renaming ownsRow_nil->sR, size_alloc->sU
set_option maxHeartbeats 64000000
namespace Go.Proofs.YtbbapnpdfcgjnaaGreatDoor
section
open Go.RowKit
namespace Pt
theorem zxz (rest:Bool) (c:List Int) (k:Nat):dcd rest c k []=rest:=rfl
noncomputable def kw (A:Nat->Bool) (l:List UInt8) (k:Nat):List Nat:=((List.range k).filter A).map (Wt.pos l)
theorem nW {A:Nat->Bool} {l:List UInt8} {k:Nat} (h:A k=true):kw A l (k+1)=kw A l k++[Wt.pos l k]:=by
 unfold kw;rw[sV,sP,sW]
 simp[h]
theorem zoK {A:Nat->Bool} {l:List UInt8} {k:Nat} (h:A k=false):kw A l (k+1)=kw A l k:=by
 unfold kw;rw[sV,sP,sW]
 simp[h]
def toZ (L:List Nat):List Int:=L.map fun(x:Nat)=>(x:Int)
theorem kB (L:List Nat) (x:Nat):toZ (L++[x])=toZ L++[(x:Int)]:=by simp[toZ]
noncomputable def zrj (A:List Dc.Tr) (rs:List Rl) (rest:Bool) (l:List UInt8):List Nat:=if l=[] then [] else kw (zeU rest rs (lu A l)) l ((rl l).length+1)
theorem oF:∀(n:Nat) (l:List UInt8),l.length<=n->(rl l).length<=l.length
 | n,l,hn=>by
  by_cases h:l=[]
  ·subst h;exact sK _
  ·have h1:=dec_ge l h
   have hp:0<l.length:=sO.2 h;rw[bX l h,List.length_cons]
   cases n with
   | zero=>omega
   | succ n=>
    have:=oF n (l.drop (dec l).2) (by rw[sS];omega)
    rw[sS] at this;omega
set_option maxRecDepth 100000 in
theorem zfb (U:List (List UInt8)) (D:List Dc.Tr) (rs:List Rl) (rest:Bool) (hrs:∀r∈rs,zgV r) (hr9:rs.length<=1000) (hC:Dc.mw 0 D 1114112) (hc:∀g∈D,g.2.2<U.length) (hU:U.length<=1000) (hA:D.length<=10000000) (Q:Nat) (ro:Option Addr) (rc:Nat) (l:List UInt8) (hl:l.length<=80000) (hne:l≠ []) (w:sN) (hD:Dc.Bk U D Q w) (hR:zbF w ro rs):
  Calls Tryz.prog 47 #[.pointer (some ⟨Q,0,none⟩),.agg #[.slice ro rs.length rc,.bool rest],.string ⟨l.toArray⟩] w (LsQ w (kw (zeU rest rs (lu D l)) l ((rl l).length+1))):=by
 obtain⟨B,nv,sv,vs,hD⟩:=hD;have hl0:0<l.length:=sO.2 hne;have hrl:=oF _ l (sK _);have hrl0:0<(rl l).length:=by rw[bX l hne];simp
 have HD:=hid (fun(W:sN) (h:sL w.heap.size w W)=>hD.below h)
 have HR:=hid (fun(W:sN) (h:sL w.heap.size w W)=>hR.below h)
 have HRs:=hid hrs;have HDB:=hid (sM hC (sM hc (sM hU hA)));have HTl:=hid (sq l);obtain⟨rn,hrn⟩:∃rn,rn=rs.length:=⟨_,rfl⟩;have HRN:=hid hrn;rw[<- hrn] at hr9⊢;obtain⟨n,hn⟩:∃n,n=(rl l).length:=⟨_,rfl⟩;have HN:=hid hn;rw[<- hn] at hrl hrl0 HTl⊢;have hcne:lu D l≠ []:=fun e=>by
  have:=dJ D l;rw[e,<- hn] at this
  simp at this
  omega
 have hn9:n<=80000:=by omega
 have HLl:=hid hl;obtain⟨A,hAA⟩:∃A,A=zeU rest rs (lu D l):=⟨_,rfl⟩;have HA0:=hid (show ∀k,k=0\/k=n->A k=true from fun k hk=>by
  rw[hAA];unfold zeU;rw[if_neg hcne,if_pos (by rw[dJ,<- hn];exact hk)])
 have HAd:=hid (show ∀k,0<k->k<n->A k=dcd rest (lu D l) k rs from fun k h1 h2=>by
  rw[hAA];unfold zeU;rw[if_neg hcne,if_neg (by rw[dJ,<- hn];omega)])
 rw[<- hAA];clear hD hR hrs hC hc hU hA hne hl hn hrn hcne hAA;have HBX:=hid (fun(o:Obj)=>below_box (w:=w) (o:=o))
 go_enter Tryz.func47,Tryz.ntmps47;go_wp2_with fail;obtain⟨w1,hw1⟩:∃w1,w1=(w.alloc (.cells #[.slice ro rn rc,.bool rest] 63)).alloc (.cells #[.pointer (some ⟨Q,0,none⟩),.slice ro rn rc,.bool rest,.slice none 0 0,.slice none 0 0,.int .i64 0,.int .i64 0] 96):=⟨_,rfl⟩;have HB1:=hid (show sL w.heap.size w w1 by rw[hw1];exact((sH _ _).alloc (sK _) _).alloc (by simp) _)
 have HN1:=hid (show w1.heap[w.heap.size]? =some (.cells #[.slice ro rn rc,.bool rest] 63) by rw[hw1];exact(sT _ _ _ (by simp)).trans (heap_alloc_new w _))
 have HX1:=hid (show w1.heap[w.heap.size+1]? =some (.cells #[.pointer (some ⟨Q,0,none⟩),.slice ro rn rc,.bool rest,.slice none 0 0,.slice none 0 0,.int .i64 0,.int .i64 0] 96) by
  have:=heap_alloc_new (w.alloc (.cells #[.slice ro rn rc,.bool rest] 63)) (.cells #[.pointer (some ⟨Q,0,none⟩),.slice ro rn rc,.bool rest,.slice none 0 0,.slice none 0 0,.int .i64 0,.int .i64 0] 96);rw[sU] at this;rw[hw1];exact this)
 rw[<- hw1];clear hw1;refine(Dc.iQ l w1 (by have:=HLl.out;omega)).mono ?_
 rintro e w2 ⟨xo,xc,rfl,hT,hB2⟩;rw[HTl.out];have HB2:=hid (HB1.out.trans (hB2.mono HB1.out.size));have HB12:=hid hB2;have HT2:=hid hT;clear hT hB2;go_wp2_with fail;refine(mW U D HDB.out.1 HDB.out.2.1 HDB.out.2.2.1 HDB.out.2.2.2 B Q nv sv vs (w.heap.size+1) l xo n xc w2 (HD.out w2 HB2.out) (by rw[sE w2 _ 0 _ _ _ ((HB12.out.block _ (ae HX1.out)).trans HX1.out)];rfl) (sI (ae HX1.out) HB12.out.size) HT2.out HN.out (by omega)).mono ?_
 rintro e w3 ⟨co,cc,rfl,hO3,hB3⟩;obtain⟨g,hco,hcc⟩:∃g,co=some ⟨g,0,none⟩/\n<=cc:=by
  rcases hO3.2 with ⟨_,e⟩ | ⟨g,cap,cur,k1,_,_,k4,_⟩
  ·omega
  ·cases k1;exact⟨g,rfl,k4⟩
 subst hco;have HC3:=hid (eD hO3 (by rw[dJ];exact HN.out))
 have HB3:=hid (HB2.out.trans (hB3.mono HB2.out.size));have HB13:=hid (HB12.out.trans (hB3.mono HB12.out.size));have HT3:=hid (HT2.out.below hB3);have hN3:=(HB13.out.block _ (ae HN1.out)).trans HN1.out;have x0:w3.cell? ⟨w.heap.size,0,none⟩=some (.slice ro rn rc):=by rw[sE w3 _ 0 _ _ _ hN3];rfl
 have x1:w3.cell? ⟨w.heap.size,1,none⟩=some (.bool rest):=by rw[sE w3 _ 1 _ _ _ hN3];rfl
 clear hO3 hB3 hN3 HT2;go_wp2_with fail;refine(qJ rest rs HRs.out ro rn rc HRN.out hr9 w3 (HR.out w3 HB3.out)).mono ?_;rintro e w5 ⟨uo,uc,sds,rfl,hsl,hsk,hsr,hB5⟩;have HB5:=hid (HB3.out.trans (hB5.mono HB3.out.size));have HSl:=hid hsl;have HSk:=hid hsk;have HSr:=hid hsr;have HC:=hid (fun(W:sN) (h:sL w5.heap.size w5 W)=>(HC3.out.below hB5).below h)
 have HT:=hid (fun(W:sN) (h:sL w5.heap.size w5 W)=>(HT3.out.below hB5).below h)
 have HN5:=hid ((((HB13.out.trans (hB5.mono HB13.out.size))).block _ (ae HN1.out)).trans HN1.out);rw[<- HRN.out];obtain⟨gx0,hgx0⟩:∃gx,xo=some ⟨gx,0,none⟩:=by
  have hx:=(rl l)[0]?;obtain⟨y,hy⟩:∃y,(rl l)[0]? =some y:=⟨_,sD (by rw[<- HN.out];exact hrl0)⟩
  obtain⟨gx,h1,_⟩:=HT3.out 0 _ (jX l 0 y hy);exact⟨gx,h1⟩
 subst hgx0;clear hsl hsk hsr hB5 x0 x1 HC3 HT3 HX1 HN1 HB12 HB13 HB1 HB2 HD HDB;go_wp2;go_loopw [11,12] (fun x y wr=>∃(k m:Nat) (vo:Option Addr) (vc:Nat),x= .slice vo m vc/\y= .int .i64 k/\k<=n+1/\m<=k/\Hid (m=(kw A l k).length)/\Hid (wr.ownsRow w5.heap.size 3 1 (.slice vo m vc) m (bf (toZ (kw A l k))))/\Hid (sL w5.heap.size w5 wr)) (fun _ y _=>n+1 - (sQ y).toNat)
 case atStart=>exact⟨0,0,none,0,rfl,rfl,Nat.zero_le _,sK _,hid rfl,hid (sR _ _ _ _),hid (sH _ _)⟩
 case round=>
  obtain⟨k,m,vo,vc,rfl,rfl,hk,hm,HM,HOw,HB⟩:=hrel
  by_cases hlt:k<n+1
  ·have i0:(0:Int)<=(k:Int):=by omega
   have i1:(k:Int)<=(n:Int):=by omega
   have i2:(0:Int)<(n:Int):=by omega
   by_cases hkn:k=n
   ·have HAk:=hid (HA0.out k (.inr hkn))
    have HPn:=hid (show Wt.pos l k=l.length from Wt.dG l k (by rw[hkn];exact Nat.le_of_eq HN.out.symm))
    have i3:((k:Int)==0)=false:=beq_eq_false_iff_ne.2 (by omega)
    have i4:((k:Int)==(n:Int))=true:=beq_iff_eq.2 (by omega)
    have i5:¬(k:Int)<(n:Int):=by omega
    clear hkn;have HA:=hid (show kw A l (k+1)=kw A l k++[Wt.pos l k] from nW HAk.out)
    rw[HPn.out] at HA;go_wp2_with (at_builtin;refine cX rfl _ _ rfl w5.heap.size (.slice vo m vc) m (toZ (kw A l k)) rfl (aB HOw.out below_box) (some ⟨wr.heap.size,0,none⟩) 1 1 [(l.length:Int)] rfl (cq (heap_alloc_new _ _)) rfl (by omega) (by have:=HB.out.size;simp;omega) ?_;intro vo9 vc9 w9 ho9 hg9 _;have HB9:=hid ((HB.out.trans ((below_box (w:=wr) (o:=.cells #[.int .i64 (l.length:Int)] 3)).mono HB.out.size)).trans (aj (aB HOw.out below_box) hg9 (by have:=HB.out.size;simp;omega)));have HO9:=hid ho9;clear ho9 hg9)
    go_roundw
    case rel=>exact⟨k+1,m+1,vo9,vc9,rfl,by go_num,by omega,by omega,hid (by rw[HA.out,sG,HM.out];rfl),hid (by rw[HA.out,kB];exact HO9.out),HB9⟩
    case measure=>simp[sQ];omega
   have hkl:k<(rl l).length:=by have:=HN.out;omega
   obtain⟨x,hx⟩:∃x,x=(rl l)[k]:=⟨_,rfl⟩;have hxk:(rl l)[k]? =some x:=by rw[hx];exact sD hkl
   have hkn2:k<n:=by omega
   have i5:(k:Int)<(n:Int):=by omega
   have i6:((k:Int)==(n:Int))=false:=beq_eq_false_iff_ne.2 (by omega)
   clear hx
   by_cases hk0:k=0
   ·have HAk:=hid (HA0.out k (.inl hk0))
    have i3:((k:Int)==0)=true:=beq_iff_eq.2 (by omega)
    clear hk0;obtain⟨gx,hgx,_,_,cx0,_⟩:=HT.out wr HB.out k _ (jX l k x hxk)
    cases hgx
    have cx:wr.cell? ⟨gx0,k * 3+1,none⟩=some (.int .i64 (Wt.pos l k:Nat)):=cx0;clear cx0;have HA:=hid (show kw A l (k+1)=kw A l k++[Wt.pos l k] from nW HAk.out)
    obtain⟨pq,hpq⟩:∃pq,pq=Wt.pos l k:=⟨_,rfl⟩;rw[<- hpq] at cx HA;clear hpq;go_wp2_with (at_builtin;refine cX rfl _ _ rfl w5.heap.size (.slice vo m vc) m (toZ (kw A l k)) rfl (aB HOw.out below_box) (some ⟨wr.heap.size,0,none⟩) 1 1 [(pq:Int)] rfl (cq (heap_alloc_new _ _)) rfl (by omega) (by have:=HB.out.size;simp;omega) ?_;intro vo9 vc9 w9 ho9 hg9 _;have HB9:=hid ((HB.out.trans ((below_box (w:=wr) (o:=.cells #[.int .i64 (pq:Int)] 3)).mono HB.out.size)).trans (aj (aB HOw.out below_box) hg9 (by have:=HB.out.size;simp;omega)));have HO9:=hid ho9;clear ho9 hg9)
    go_roundw
    case rel=>exact⟨k+1,m+1,vo9,vc9,rfl,by go_num,by omega,by omega,hid (by rw[HA.out,sG,HM.out];rfl),hid (by rw[HA.out,kB];exact HO9.out),HB9⟩
    case measure=>simp[sQ];omega
   ·have i3:((k:Int)==0)=false:=beq_eq_false_iff_ne.2 (by omega)
    have HDk:=hid (HAd.out k (by omega) hkn2)
    have y1:wr.cell? ⟨w.heap.size,1,none⟩=some (.bool rest):=by rw[sE wr w.heap.size 1 _ _ _ ((HB.out.block _ (ae HN5.out)).trans HN5.out)];rfl
    have hk1:1<=k:=by omega
    obtain⟨wo,rfl⟩:∃wo,wo=wr:=⟨_,rfl⟩;go_wp2;clear y1;go_loopw [13,14] (fun x y wr=>∃i:Nat,x= .bool rest/\y= .int .i64 i/\i<=rn/\Hid (dcd rest (lu D l) k rs=dcd rest (lu D l) k (rs.drop i))/\Hid (sL wo.heap.size wo wr)) (fun _ y _=>rn - (sQ y).toNat)
    case atStart=>exact⟨0,rfl,rfl,Nat.zero_le _,hid rfl,hid (sH _ _)⟩
    case round=>
     obtain⟨i,rfl,rfl,hi,HDc,HBi⟩:=hrel;have HBv:=hid (HB.out.trans (HBi.out.mono HB.out.size));have y0:wr.cell? ⟨w.heap.size,0,none⟩=some (.slice ro rn rc):=by rw[sE wr w.heap.size 0 _ _ _ ((HBv.out.block _ (ae HN5.out)).trans HN5.out)];rfl
     by_cases hir:i<rn
     ·have j0:(0:Int)<=(i:Int):=by omega
      have j1:(i:Int)<(rn:Int):=by omega
      have hil:i<rs.length:=by have:=HRN.out;omega
      have his:i<sds.length:=by have:=HRN.out;have:=HSl.out;omega
      obtain⟨r,hr⟩:∃r,r=rs[i]:=⟨_,rfl⟩;have HRi:=hid (show rs[i]? =some r by rw[hr];exact sD hil)
      have HROk:=hid (HRs.out r (by rw[hr];exact List.getElem_mem _))
      obtain⟨s,hs⟩:∃s,s=sds[i]:=⟨_,rfl⟩;have HSi:=hid (show sds[i]? =some s by rw[hs];exact sD his)
      have HSOk:=hid (HSk.out i r s HRi.out HSi.out);clear hr hs;obtain⟨b,o,l0,l1,l2,r0,r1,r2,rfl,hb,a0,a1,a2,a3,a4,a5,a6,a7,a8,p1,p2⟩:=(HR.out wr (HB5.out.trans (HBv.out.mono HB5.out.size))) i r HRi.out;obtain⟨e0,eo,en,ec,ek,em,ep,rfl,rfl,rfl⟩:=p1.shape;obtain⟨f0,fo,fn,fc,fk,fm,fp,rfl,rfl,rfl⟩:=p2.shape;obtain⟨F,lo,lc,so,sc,rfl,hF,b0,b1,b2,b3,q1,q2,q3,q4⟩:=(HSr.out.below HBv.out) i s HSi.out;have hk1l:k - 1<(lu D l).length:=by rw[dJ];omega
      have hkl2:k<(lu D l).length:=by rw[dJ];exact hkl
      obtain⟨ga,hga,_,d0⟩:=(HC.out wr HBv.out).at hk1l
      cases hga
      obtain⟨gb,hgb,hgl,d1⟩:=(HC.out wr HBv.out).at hkl2
      cases hgb
      rw[Addr.add_lit,Nat.zero_add] at d0 d1;obtain⟨a,ha⟩:∃a,a=(lu D l)[k - 1]:=⟨_,rfl⟩;obtain⟨z,hz⟩:∃z,z=(lu D l)[k]:=⟨_,rfl⟩;have HGa:=hid (show(lu D l).getD (k - 1) 0=a from by rw[sJ,sD hk1l,ha];rfl)
      have HGz:=hid (show(lu D l).getD k 0=z from by rw[sJ,sD hkl2,hz];rfl)
      rw[<- ha] at d0;rw[<- hz] at d1;have HMay:=hid (fun(W:sN) (h:sL wr.heap.size wr W)=>zqq s lo so s.L.length lc s.R.length sc a z W (q1.below h) (q2.below h) rfl rfl q3 q4)
      have HNo:=hid (show s.may a z=false->¬App r (lu D l) k from fun h hA=>by
       have:=zqp HSOk.out hk1 (by rw[dJ];exact hkl) hA
       rw[HGa.out,HGz.out,h] at this
       cases this)
      have HAp:=hid (fun(W:sN) (h:sL wr.heap.size wr W)=>zfe r HROk.out _ _ _ _ _ _ (lu D l) g 0 n cc k (by rw[dJ];exact HN.out) (by omega) hcc (by omega) W (cv.below h _ _ _ _ p1) (cv.below h _ _ _ _ p2) ((HC.out wr HBv.out).below h))
      have HYes:=hid (fun(h:App r (lu D l) k)=>zqZ (rest:=rest) HRi.out h)
      have HNoD:=hid (fun(h:¬App r (lu D l) k)=>zvB (rest:=rest) HRi.out h)
      obtain⟨rb,hrb⟩:∃v,v=r.brk:=⟨_,rfl⟩;obtain⟨rs1,hrs1⟩:∃v,v=r.st:=⟨_,rfl⟩;obtain⟨re,hre⟩:∃v,v=r.en:=⟨_,rfl⟩;obtain⟨p1',hp1⟩:∃v,v=s.noL:=⟨_,rfl⟩;obtain⟨p2',hp2⟩:∃v,v=s.noR:=⟨_,rfl⟩;obtain⟨ln,hln⟩:∃v,v=s.L.length:=⟨_,rfl⟩;obtain⟨sn,hsn⟩:∃v,v=s.R.length:=⟨_,rfl⟩;obtain⟨my,hmy⟩:∃v,v=s.may a z:=⟨_,rfl⟩;rw[<- hrb,<- hrs1,<- hre] at HAp;rw[<- hrb] at a0 HYes;rw[<- hrs1] at a1;rw[<- hre] at a2;rw[<- hp1,<- hp2,<- hln,<- hsn,<- hmy] at HMay;rw[<- hmy] at HNo;rw[<- hln] at b0;rw[<- hsn] at b1;rw[<- hp1] at b2;rw[<- hp2] at b3;have HSS:=hid (fun(W:sN) (h:sL wr.heap.size wr W)=>show W.cell? ⟨w.heap.size,0,none⟩=some (.slice (some ⟨b,o,none⟩) rn rc)/\W.cell? ⟨F,i * 4,none⟩=some (.slice lo ln lc)/\W.cell? ⟨F,i * 4+1,none⟩=some (.slice so sn sc)/\W.cell? ⟨F,i * 4+2,none⟩=some (.bool p1')/\W.cell? ⟨F,i * 4+3,none⟩=some (.bool p2')/\W.cell? ⟨g,k - 1,none⟩=some (.int .i64 a)/\W.cell? ⟨g,k,none⟩=some (.int .i64 z)/\W.cell? ⟨b,o+i * 9,none⟩=some (.bool rb)/\W.cell? ⟨b,o+i * 9+1,none⟩=some (.bool rs1)/\W.cell? ⟨b,o+i * 9+2,none⟩=some (.bool re)/\W.cell? ⟨b,o+i * 9+3,none⟩=some (.int .i64 e0)/\W.cell? ⟨b,o+i * 9+4,none⟩=some (.slice eo en ec)/\W.cell? ⟨b,o+i * 9+5,none⟩=some (.slice ek em ep)/\W.cell? ⟨b,o+i * 9+6,none⟩=some (.int .i64 f0)/\W.cell? ⟨b,o+i * 9+7,none⟩=some (.slice fo fn fc)/\W.cell? ⟨b,o+i * 9+8,none⟩=some (.slice fk fm fp) from by
       have hNl:=sI (ae HN5.out) HBv.out.size;have hc1:∀k v,wr.cell? ⟨b,k,none⟩=some v->W.cell? ⟨b,k,none⟩=some v:=fun k v hk=>(h.cell (p:=⟨b,k,none⟩) hb).trans hk
       have hc2:∀k v,wr.cell? ⟨F,k,none⟩=some v->W.cell? ⟨F,k,none⟩=some v:=fun k v hk=>(h.cell (p:=⟨F,k,none⟩) hF).trans hk
       have hc3:∀k v,wr.cell? ⟨g,k,none⟩=some v->W.cell? ⟨g,k,none⟩=some v:=fun k v hk=>(h.cell (p:=⟨g,k,none⟩) hgl).trans hk
       exact⟨(h.cell (p:=⟨w.heap.size,0,none⟩) hNl).trans y0,hc2 _ _ b0,hc2 _ _ b1,hc2 _ _ b2,hc2 _ _ b3,hc3 _ _ d0,hc3 _ _ d1,hc1 _ _ a0,hc1 _ _ a1,hc1 _ _ a2,hc1 _ _ a3,hc1 _ _ a4,hc1 _ _ a5,hc1 _ _ a6,hc1 _ _ a7,hc1 _ _ a8⟩)
      have e4:IntKind.i64.wrap ((k:Int) - 1)=(k:Int) - 1:=by unfold IntKind.wrap IntKind.bits IntKind.signed;simp;omega
      have e5:((k:Int) - 1).toNat=k - 1:=by omega
      have e6:(0:Int)<=(k:Int) - 1:=by omega
      have e7:(k:Int) - 1<(n:Int):=by omega
      have e8:(1:Int)<=(k:Int):=by omega
      have y9:=y0;clear a1 a2 a3 a4 a5 a6 a7 a8 p1 p2 b0 b1 b2 b3 q1 q2 q3 q4 d0 d1 ha hz hrb hrs1 hre hp1 hp2 hln hsn hmy hk1l hkl2 HGa HGz HSOk HROk;go_wp2_with fail;clear y9;refine am [(0,true),(1,true),(2,true),(3,true),(4,true),(5,true),(6,true),(7,true),(8,true),(9,true),(10,true),(11,true),(12,true),(13,false),(14,true),(15,true),(16,true),(17,true),(18,true),(19,true),(20,true),(21,true),(22,false),(23,true)] (fun W=>W.cell? ⟨w.heap.size,0,none⟩=some (.slice (some ⟨b,o,none⟩) rn rc)/\W.cell? ⟨F,i * 4,none⟩=some (.slice lo ln lc)/\W.cell? ⟨F,i * 4+1,none⟩=some (.slice so sn sc)/\W.cell? ⟨F,i * 4+2,none⟩=some (.bool p1')/\W.cell? ⟨F,i * 4+3,none⟩=some (.bool p2')/\W.cell? ⟨g,k - 1,none⟩=some (.int .i64 a)/\W.cell? ⟨g,k,none⟩=some (.int .i64 z)/\W.cell? ⟨b,o+i * 9,none⟩=some (.bool rb)/\W.cell? ⟨b,o+i * 9+1,none⟩=some (.bool rs1)/\W.cell? ⟨b,o+i * 9+2,none⟩=some (.bool re)/\W.cell? ⟨b,o+i * 9+3,none⟩=some (.int .i64 e0)/\W.cell? ⟨b,o+i * 9+4,none⟩=some (.slice eo en ec)/\W.cell? ⟨b,o+i * 9+5,none⟩=some (.slice ek em ep)/\W.cell? ⟨b,o+i * 9+6,none⟩=some (.int .i64 f0)/\W.cell? ⟨b,o+i * 9+7,none⟩=some (.slice fo fn fc)/\W.cell? ⟨b,o+i * 9+8,none⟩=some (.slice fk fm fp)) (fun _=>false) (by kernel_rfl) (by kernel_rfl) (fun j hj=>by cases hj) rfl (by kernel_rfl) (HSS.out _ (show sL wr.heap.size wr wr.drew from(sH _ _).drew)) ?_
      iterate 13 (refine av ?_ rfl (by kernel_rfl) (fun w' hS=>?_) ?_;(rotate_left;(obtain⟨s0,s1,s2,s3,s4,s5,s6,s7,s8,s9,s10,s11,s12,s13,s14,s15⟩:=hS;go_simp;with_reducible rfl);rotate_left))
      refine ar rfl (by kernel_rfl) fun KK hKK=>?_
      go_simp;have HBd:=hid (show sL wr.heap.size wr wr.drew from(sH _ _).drew)
      refine(HMay.out wr.drew HBd.out).mono ?_;rintro e w6 ⟨rfl,hB6⟩;have HB6:=hid (HBd.out.trans (hB6.mono HBd.out.size));clear hB6 HBd HMay;refine hKK _ _ (fun _=>HSS.out _ HB6.out) ?_
      clear hKK
      cases my with
      | false=>
       have HNA:=hid (HNo.out rfl);refine av ?_ rfl (by kernel_rfl) (fun w' hS=>?_) ?_
       rotate_left
       ·go_simp
        with_reducible rfl
       rotate_left
       iterate 7 (refine eJ rfl (by kernel_rfl) ?_)
       refine zbJ rfl (by kernel_rfl) (HSS.out _ HB6.out) ?_
       refine av ?_ rfl (by kernel_rfl) (fun w' hS=>?_) ?_
       rotate_left
       ·go_simp
        with_reducible rfl
       rotate_left;refine aQ (NoPanic.normal ?_);have HD2:=hid (HDc.out.trans (HNoD.out HNA.out));have HBo:=hid (HBi.out.trans (HB6.out.mono HBi.out.size));clear a0;go_simp;go_wp2;go_roundw
       case rel=>exact⟨i+1,rfl,by go_num,by omega,HD2,HBo⟩
       case measure=>simp[sQ];omega
      | true=>
       iterate 8 (refine av ?_ rfl (by kernel_rfl) (fun w' hS=>?_) ?_;(rotate_left;(obtain⟨s0,s1,s2,s3,s4,s5,s6,s7,s8,s9,s10,s11,s12,s13,s14,s15⟩:=hS;go_simp;with_reducible rfl);rotate_left))
       refine ar rfl (by kernel_rfl) fun KK hKK=>?_
       go_simp;refine(HAp.out w6 HB6.out).mono ?_;rintro e w7 ⟨ap,rfl,hap,hB7⟩;have HB7:=hid (HB6.out.trans (hB7.mono HB6.out.size));have HAP:=hid hap;clear hB7 hap HAp;refine hKK _ _ (fun _=>HSS.out _ HB7.out) ?_
       clear hKK;refine av ?_ rfl (by kernel_rfl) (fun w' hS=>?_) ?_
       rotate_left
       ·go_simp
        with_reducible rfl
       rotate_left;refine aQ (NoPanic.normal ?_);have HBo:=hid (HBi.out.trans (HB7.out.mono HBi.out.size));obtain⟨s0,_,_,_,_,_,_,s7,_⟩:=HSS.out w7 HB7.out;clear a0
       cases ap with
       | false=>
        have HD2:=hid (HDc.out.trans (HNoD.out fun h=>by have:=HAP.out.2 h;cases this))
        go_wp2;go_roundw
        case rel=>exact⟨i+1,rfl,by go_num,by omega,HD2,HBo⟩
        case measure=>simp[sQ];omega
       | true=>
        have HV:=hid (show A k=rb from HDk.out.trans (HDc.out.trans (HYes.out (HAP.out.1 rfl))))
        have HBq:=hid (HB.out.trans (HBo.out.mono HB.out.size));have HOq:=hid (aB HOw.out HBo.out);clear HSS HNo HYes HNoD e4 e5 e6 e7 e8;obtain⟨v,hv⟩:∃v,v=rb:=⟨_,rfl⟩;rw[<- hv] at HV s7;clear hv
        cases v with
        | true=>
         have HAk:=hid (show A k=true from HV.out)
         obtain⟨gx,hgx,_,_,cx0,_⟩:=HT.out w7 HBq.out k _ (jX l k x hxk)
         cases hgx
         have cx:w7.cell? ⟨gx0,k * 3+1,none⟩=some (.int .i64 (Wt.pos l k:Nat)):=cx0;clear cx0;have HA:=hid (show kw A l (k+1)=kw A l k++[Wt.pos l k] from nW HAk.out)
         obtain⟨pq,hpq⟩:∃pq,pq=Wt.pos l k:=⟨_,rfl⟩;rw[<- hpq] at cx HA;clear hpq;go_wp2_with (at_builtin;refine cX rfl _ _ rfl w5.heap.size (.slice vo m vc) m (toZ (kw A l k)) rfl (aB HOq.out below_box) (some ⟨w7.heap.size,0,none⟩) 1 1 [(pq:Int)] rfl (cq (heap_alloc_new _ _)) rfl (by omega) (by have:=HBq.out.size;simp;omega) ?_;intro vo9 vc9 w9 ho9 hg9 _;have HB9:=hid ((HBq.out.trans ((below_box (w:=w7) (o:=.cells #[.int .i64 (pq:Int)] 3)).mono HBq.out.size)).trans (aj (aB HOq.out below_box) hg9 (by have:=HBq.out.size;simp;omega)));have HO9:=hid ho9;clear ho9 hg9)
         go_roundw
         case rel=>exact⟨k+1,m+1,vo9,vc9,rfl,by go_num,by omega,by omega,hid (by rw[HA.out,sG,HM.out];rfl),hid (by rw[HA.out,kB];exact HO9.out),HB9⟩
         case measure=>simp[sQ];omega
        | false=>
         have HAk:=hid (show A k=false from HV.out)
         have HA:=hid (show kw A l (k+1)=kw A l k from zoK HAk.out)
         go_wp2;go_roundw
         case rel=>exact⟨k+1,m,vo,vc,rfl,by go_num,by omega,by omega,hid (by rw[HA.out];exact HM.out),hid (by rw[HA.out];exact HOq.out),HBq⟩
         case measure=>simp[sQ];omega
     ·have j1:¬(i:Int)<(rn:Int):=by omega
      have HV:=hid (show A k=rest from by
       have h1:=HDk.out.trans HDc.out
       rwa [List.drop_of_length_le (by have:=HRN.out;omega),zxz] at h1)
      have HOq:=hid (aB HOw.out HBi.out)
      cases rest with
      | true=>
       have HAk:=hid (show A k=true from HV.out)
       obtain⟨gx,hgx,_,_,cx0,_⟩:=HT.out wr HBv.out k _ (jX l k x hxk)
       cases hgx
       have cx:wr.cell? ⟨gx0,k * 3+1,none⟩=some (.int .i64 (Wt.pos l k:Nat)):=cx0;clear cx0;have HA:=hid (show kw A l (k+1)=kw A l k++[Wt.pos l k] from nW HAk.out)
       obtain⟨pq,hpq⟩:∃pq,pq=Wt.pos l k:=⟨_,rfl⟩;rw[<- hpq] at cx HA;clear hpq;go_wp2_with (at_builtin;refine cX rfl _ _ rfl w5.heap.size (.slice vo m vc) m (toZ (kw A l k)) rfl (aB HOq.out below_box) (some ⟨wr.heap.size,0,none⟩) 1 1 [(pq:Int)] rfl (cq (heap_alloc_new _ _)) rfl (by omega) (by have:=HBv.out.size;simp;omega) ?_;intro vo9 vc9 w9 ho9 hg9 _;have HB9:=hid ((HBv.out.trans ((below_box (w:=wr) (o:=.cells #[.int .i64 (pq:Int)] 3)).mono HBv.out.size)).trans (aj (aB HOq.out below_box) hg9 (by have:=HBv.out.size;simp;omega)));have HO9:=hid ho9;clear ho9 hg9)
       go_roundw
       case rel=>exact⟨k+1,m+1,vo9,vc9,rfl,by go_num,by omega,by omega,hid (by rw[HA.out,sG,HM.out];rfl),hid (by rw[HA.out,kB];exact HO9.out),HB9⟩
       case measure=>simp[sQ];omega
      | false=>
       have HAk:=hid (show A k=false from HV.out)
       have HA:=hid (show kw A l (k+1)=kw A l k from zoK HAk.out)
       go_wp2;go_roundw
       case rel=>exact⟨k+1,m,vo,vc,rfl,by go_num,by omega,by omega,hid (by rw[HA.out];exact HM.out),hid (by rw[HA.out];exact HOq.out),HBv⟩
       case measure=>simp[sQ];omega
  ·have i1:¬(k:Int)<=(n:Int):=by omega
   obtain rfl:k=n+1:=by omega
   have HQ:=hid (show LsQ w (kw A l (n+1)) (.returned (.slice vo m vc)) wr from by
    have h1:=HOw.out;rw[show bf (toZ (kw A l (n+1)))=kh (kw A l (n+1)) from znG _,HM.out] at h1
    exact⟨vo,vc,by rw[HM.out],aW h1 (by have:=HB5.out.size;omega),HB5.out.trans (HB.out.mono HB5.out.size)⟩)
   go_wp2;go_ret;exact HQ.out
end Pt
end
section
open Go.RowKit
namespace Pt
set_option maxRecDepth 100000 in
theorem zbp (U:List (List UInt8)) (D:List Dc.Tr) (rs:List Rl) (rest:Bool) (hrs:∀r∈rs,zgV r) (hr9:rs.length<=1000) (hC:Dc.mw 0 D 1114112) (hc:∀g∈D,g.2.2<U.length) (hU:U.length<=1000) (hA:D.length<=10000000) (Q:Nat) (ro:Option Addr) (rc:Nat) (l:List UInt8) (hl:l.length<=80000) (hne:l=[]) (w:sN) (hD:Dc.Bk U D Q w) (hR:zbF w ro rs):
  Calls Tryz.prog 47 #[.pointer (some ⟨Q,0,none⟩),.agg #[.slice ro rs.length rc,.bool rest],.string ⟨l.toArray⟩] w (LsQ w []):=by
 obtain⟨B,nv,sv,vs,hD⟩:=hD;have HD:=hid (fun(W:sN) (h:sL w.heap.size w W)=>hD.below h)
 have HR:=hid (fun(W:sN) (h:sL w.heap.size w W)=>hR.below h)
 have HRs:=hid hrs;have HDB:=hid (sM hC (sM hc (sM hU hA)));have HTl:=hid (sq l);obtain⟨rn,hrn⟩:∃rn,rn=rs.length:=⟨_,rfl⟩;have HRN:=hid hrn;rw[<- hrn] at hr9⊢;obtain⟨n,hn⟩:∃n,n=(rl l).length:=⟨_,rfl⟩;have HN:=hid hn;rw[<- hn] at HTl;have HN0:=hid (show n=0 by rw[hn,hne];rfl)
 have HLl:=hid hl;clear hD hR hrs hC hc hU hA hne hl hn hrn;have HBX:=hid (fun(o:Obj)=>below_box (w:=w) (o:=o))
 go_enter Tryz.func47,Tryz.ntmps47;go_wp2_with fail;obtain⟨w1,hw1⟩:∃w1,w1=(w.alloc (.cells #[.slice ro rn rc,.bool rest] 63)).alloc (.cells #[.pointer (some ⟨Q,0,none⟩),.slice ro rn rc,.bool rest,.slice none 0 0,.slice none 0 0,.int .i64 0,.int .i64 0] 96):=⟨_,rfl⟩;have HB1:=hid (show sL w.heap.size w w1 by rw[hw1];exact((sH _ _).alloc (sK _) _).alloc (by simp) _)
 have HN1:=hid (show w1.heap[w.heap.size]? =some (.cells #[.slice ro rn rc,.bool rest] 63) by rw[hw1];exact(sT _ _ _ (by simp)).trans (heap_alloc_new w _))
 have HX1:=hid (show w1.heap[w.heap.size+1]? =some (.cells #[.pointer (some ⟨Q,0,none⟩),.slice ro rn rc,.bool rest,.slice none 0 0,.slice none 0 0,.int .i64 0,.int .i64 0] 96) by
  have:=heap_alloc_new (w.alloc (.cells #[.slice ro rn rc,.bool rest] 63)) (.cells #[.pointer (some ⟨Q,0,none⟩),.slice ro rn rc,.bool rest,.slice none 0 0,.slice none 0 0,.int .i64 0,.int .i64 0] 96);rw[sU] at this;rw[hw1];exact this)
 rw[<- hw1];clear hw1;refine(Dc.iQ l w1 (by have:=HLl.out;omega)).mono ?_
 rintro e w2 ⟨xo,xc,rfl,hT,hB2⟩;rw[HTl.out];have HB2:=hid (HB1.out.trans (hB2.mono HB1.out.size));have HB12:=hid hB2;have HT2:=hid hT;clear hT hB2;go_wp2_with fail;refine(mW U D HDB.out.1 HDB.out.2.1 HDB.out.2.2.1 HDB.out.2.2.2 B Q nv sv vs (w.heap.size+1) l xo n xc w2 (HD.out w2 HB2.out) (by rw[sE w2 _ 0 _ _ _ ((HB12.out.block _ (ae HX1.out)).trans HX1.out)];rfl) (sI (ae HX1.out) HB12.out.size) HT2.out HN.out (by have:=HN0.out;omega)).mono ?_
 rintro e w3 ⟨co,cc,rfl,hO3,hB3⟩;have HB3:=hid (HB2.out.trans (hB3.mono HB2.out.size));have HB13:=hid (HB12.out.trans (hB3.mono HB12.out.size));have HT3:=hid (HT2.out.below hB3);have hN3:=(HB13.out.block _ (ae HN1.out)).trans HN1.out;have x0:w3.cell? ⟨w.heap.size,0,none⟩=some (.slice ro rn rc):=by rw[sE w3 _ 0 _ _ _ hN3];rfl
 have x1:w3.cell? ⟨w.heap.size,1,none⟩=some (.bool rest):=by rw[sE w3 _ 1 _ _ _ hN3];rfl
 clear hO3 hB3 hN3 HT2;go_wp2_with fail;refine(qJ rest rs HRs.out ro rn rc HRN.out hr9 w3 (HR.out w3 HB3.out)).mono ?_;rintro e w5 ⟨uo,uc,sds,rfl,hsl,hsk,hsr,hB5⟩;have HB5:=hid (HB3.out.trans (hB5.mono HB3.out.size));have HSl:=hid hsl;have HSk:=hid hsk;have HSr:=hid hsr;have HN5:=hid ((((HB13.out.trans (hB5.mono HB13.out.size))).block _ (ae HN1.out)).trans HN1.out);rw[<- HRN.out];obtain rfl:=HN0.out;clear hsl hsk hsr hB5 x0 x1 HD HDB;go_wp2;go_loopw [11,12] (fun x y wr=>x= .slice none 0 0/\y= .int .i64 0/\wr=w5) (fun _ _ _=>0)
 case atStart=>exact⟨rfl,rfl,rfl⟩
 case round=>
  obtain⟨rfl,rfl,rfl⟩:=hrel;have HQ:=hid (show LsQ w [] (.returned (.slice none 0 0)) wr from⟨none,0,rfl,sR _ _ _ _,HB5.out⟩)
  go_wp2;go_ret;exact HQ.out
theorem zbq (U:List (List UInt8)) (D:List Dc.Tr) (rs:List Rl) (rest:Bool) (hrs:∀r∈rs,zgV r) (hr9:rs.length<=1000) (hC:Dc.mw 0 D 1114112) (hc:∀g∈D,g.2.2<U.length) (hU:U.length<=1000) (hA:D.length<=10000000) (Q:Nat) (ro:Option Addr) (rc:Nat) (l:List UInt8) (hl:l.length<=80000) (w:sN) (hD:Dc.Bk U D Q w) (hR:zbF w ro rs):
  Calls Tryz.prog 47 #[.pointer (some ⟨Q,0,none⟩),.agg #[.slice ro rs.length rc,.bool rest],.string ⟨l.toArray⟩] w (LsQ w (zrj D rs rest l)):=by
 unfold zrj
 split
 ·exact zbp U D rs rest hrs hr9 hC hc hU hA Q ro rc l hl ‹_› w hD hR
 ·exact zfb U D rs rest hrs hr9 hC hc hU hA Q ro rc l hl ‹_› w hD hR
end Pt
end
end Go.Proofs.YtbbapnpdfcgjnaaGreatDoor
