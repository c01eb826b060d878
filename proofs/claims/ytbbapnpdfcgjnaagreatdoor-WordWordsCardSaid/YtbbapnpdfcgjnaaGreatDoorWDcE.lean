/- DcE, DbMath, DbBk: parts of the proof, joined. -/
import Derived.Test.YtbbapnpdfcgjnaaGreatDoorWMix
import Derived.Test.YtbbapnpdfcgjnaaGreatDoorWDcD
open List renaming getElem?_eq_getElem->sD, getD_eq_getElem?_getD->sE, setIfInBounds_toArray->sG, length_append->sH, getElem?_eq_some_iff->sK, length_take->sO, getElem_mem->sP, take_succ_eq_append_getElem->sX, drop_eq_getElem_cons->ta, length_drop->tc, take_of_length_le->te, take_append_drop->tf, mem_singleton->tj, length_map->tr, mem_append->tu, mem_range->tw
open Go.RowKit renaming Below->sI, intOf->sS
open Nat renaming le_refl->sJ, sub_self->tA
open Go.RowKit.Below renaming refl->sL
open Go.World renaming size_alloc->sM, ownsRow_nil->sW, setCell->tz
open Go renaming World->sN, wpList_append_lies->sT, Value->sU, Calls->sZ, info_parts->td, maxLen->ti, wpList_append_own->tp
open Bool renaming and_eq_true->sQ, or_eq_true_iff->sY
open Classical renaming byContradiction->sR
open Go.Value renaming slice->sV
set_option maxHeartbeats 64000000
namespace Go.Proofs.YtbbapnpdfcgjnaaGreatDoor
namespace Dc
open Go.RowKit
theorem Tryz.infoLRange:(Tryz.prog.info? 125).map (fun i=>(i.zero,i.size,i.bytes))=some (some (.slice none 0 0),1,24):=by kernel_rfl
theorem zdV(s:ByteArray)(l m:List UInt8)(hm:m=tls l)(w:sN)(hs:s=⟨l.toArray⟩)(hl:l.length<=1000000000):
  sZ Tryz.prog 133 #[.string s] w fun e w'=>e=.returned (.string ⟨m.toArray⟩)/\w'=w:=by
 subst hs hm;exact zmC l w (by omega)
theorem zkt(s:ByteArray)(l r:List UInt8)(hr:r=l.map tbl)(w:sN)(hs:s=⟨l.toArray⟩)(hl:l.length<=100000):
  sZ Tryz.prog 136 #[.string s] w fun e w'=>e=.returned (.string ⟨r.toArray⟩)/\sI w.heap.size w w':=by
 subst hs hr;exact zgm l w (by omega)
theorem zgJ(w:sN)(b:sU)(T:TypeId):∀j u,[b][j]?=some u->(w.alloc (.cells #[b] T)).cell? ((⟨w.heap.size,0,none⟩:Addr).add j)=some u:=sN.news_of_block (cs:=#[b]) (heap_alloc_new w _)
theorem zqP(w:sN)(H:Nat)(hH:w.heap.size=H)(b:sU)(T:TypeId):∀j u,[b][j]?=some u->(w.alloc (.cells #[b] T)).cell? ((⟨H,0,none⟩:Addr).add j)=some u:=by subst hH;exact zgJ w b T
theorem zgh(b:sU)(h:b.oneCell'=true:=by rfl):∀v∈ [b],v.oneCell'=true:=fun v hv=>by simp at hv;subst hv;exact h
theorem hsw{B Q n sc:Nat}{U:List (List UInt8)}{D:List (List Rg)}{nv:sU}{so:Option Addr}{vs:List sU}{w:sN}(h:bg B Q U D nv (.slice so n sc) vs w)(hn:n=D.length):w.ownsRow B 125 1 (.slice so n sc) n vs:=by have h5:=h.hS;rw[<-hn]at h5;exact h5
theorem hsz4{B:Nat}{w w':sN}{o:Obj}(h:w.heap.size<=w'.heap.size)(hB:B<=w.heap.size):B<=(w'.alloc o).heap.size:=by rw[sM];omega
theorem hq6{B Q n sc:Nat}{U:List (List UInt8)}{D:List (List Rg)}{nv:sU}{so:Option Addr}{vs:List sU}{w w2:sN}{o:Obj}(h:bg B Q U D nv (.slice so n sc) vs w)(gr:(w.alloc o).grownBy w2 (sV so n sc).ownBlock):w2.cell? ⟨Q,1,none⟩=some (.slice so n sc)/\w2.frozen? ⟨Q,1,none⟩=false:=by have hQ2:w2.heap[Q]?=some (.cells #[nv,.slice so n sc] 91 (0,0)):=(gr.block Q (by rw[sM];have h5:=aO h.hQ;omega) (fun e=>bj h.hS Q _ 91 h.hQ (by decide) e.symm)).trans ((cD w _ Q (aO h.hQ)).trans h.hQ);exact⟨cell_row w2 Q 1 [_,_] 91 _ hQ2 rfl,frozen_row hQ2 1⟩
theorem zoq{B Q n sc q2 c2:Nat}{U:List (List UInt8)}{D:List (List Rg)}{nv:sU}{so:Option Addr}{vs:List sU}{w w2:sN}{o:Obj}(h:bg B Q U D nv (.slice so n sc) vs w)(hn:n=D.length)(o2:w2.ownsRow B 125 1 (.slice (some ⟨q2,0,none⟩) (n+1) c2) (n+1) (vs++[.slice none 0 0]))(gr:(w.alloc o).grownBy w2 (sV so n sc).ownBlock):
  bg B Q U (D++[[]]) nv (.slice (some ⟨q2,0,none⟩) (n+1) c2) (vs++[.slice none 0 0]) (w2.setCell ⟨Q,1,none⟩ (.slice (some ⟨q2,0,none⟩) (n+1) c2))/\gv Q nv nv w (w2.setCell ⟨Q,1,none⟩ (.slice (some ⟨q2,0,none⟩) (n+1) c2))/\sI B w (w2.setCell ⟨Q,1,none⟩ (.slice (some ⟨q2,0,none⟩) (n+1) c2)):=by
 obtain⟨r1,r2,r3⟩:=h.grown hn ((sL _ w).alloc (sJ _) o) o2 gr;exact⟨r1,r2,((sL B w).alloc (by have h5:=aO h.hQ;have h6:=h.bQ;omega) _).trans r3⟩
theorem zwz{B Q:Nat}{U:List (List UInt8)}{D:List (List Rg)}{nv nv' sv:sU}{vs:List sU}{w w':sN}(h:bg B Q U D nv sv vs w)(hf:gv Q nv nv' w w'){B' s n:Nat}{v:sU}{xs:List sU}(hr:w.ownsRow B' 146 s v n xs):w'.ownsRow B' 146 s v n xs:=
 cy hr (fun b hb=>hf.st b (hr.lt b hb).2 (fun e=>by subst e;exact bj hr b _ 91 h.hQ (by decide) hb) (fun e=>pJ h.hN hr (by decide) e hb) (fun cs f e=>by obtain⟨c,hc⟩:=jh hr hb;rw[hc]at e;cases e))
theorem zvg(l:List UInt8)(h:¬(mg l).2<0):(mg l).2.toNat<(l.take (mg l).1).length:=by
 have e2:=zjn l;have hl:(l.take (fi 35 l)).length=fi 35 l:=by rw[sO];have:=zcf 35 l;omega
 rw[zjo,hl];by_cases hc:fi 59 (l.take (fi 35 l))<fi 35 l
 ·rw[if_pos hc]at e2;rw[e2];exact hc
 ·rw[if_neg hc]at e2;omega
theorem zfq(D:List (List Rg))(c:Nat)(L:List Rg):∀j,j<1->iU D c L j=false:=fun j hj=>by
 have h:j=0:=by omega
 subst h;rfl
theorem zjs(D:List (List Rg))(n c:Nat)(L:List Rg)(h:∀j,j<n->iU D c L j=false):zct D n c L=false:=by unfold zct;rw[List.any_eq_false];intro x hx;rw[h x (tw.1 hx)];decide
theorem zfp(D:List (List Rg))(n c:Nat)(L:List Rg)(j:Nat)(hj:j<n)(h:iU D c L j=true):zct D n c L=true:=by unfold zct;exact List.any_eq_true.2 ⟨j,tw.2 hj,h⟩
set_option maxRecDepth 100000 in
theorem zkA(B Q:Nat)(U:List (List UInt8))(D:List (List Rg))(nv sv:sU)(vs:List sU)(l:List UInt8)(w:sN)(h:bg B Q U D nv sv vs w)(hB:B<=w.heap.size)(hl:l.length<=12000)(hU:U.length<=64)(hU0:1<=U.length)(hUD:D.length=U.length)(hD:∀x∈D,x.length<=20000):
  sZ Tryz.prog 100 #[.pointer (some ⟨Q,0,none⟩),.string ⟨l.toArray⟩] w fun e w'=>e=.returned (.int .i64 (dcS U D l).1)/\sI B w w'∧
   ((dcS U D l).1=0->∃nv' sv' vs',bg B Q (dcS U D l).2.1 (dcS U D l).2.2 nv' sv' vs' w'/\gv Q nv nv' w w'):=by
 obtain⟨i9,hi9,hz90,hz91,hz92⟩:=td Tryz.infoStr;obtain⟨i47,hi47,hz470,hz471,hz472⟩:=td Tryz.infoLRange;have HR:=aa h;obtain⟨N,hN⟩:=aj w.heap.size;have HN:=aa hN;have hBN:B<=N:=by omega
 obtain⟨R,hR⟩:=aj (dcS U D l);rw[<-hR];unfold dcS at hR;have hzl:=zvg l;obtain⟨z,hz⟩:=aj ((mg l).2);obtain⟨s,hs⟩:=aj (l.take (mg l).1);have hsl:s.length<=12000:=by rw[hs,sO];omega
 have HCU:=aa (zno l w (by omega));rw[<-hs,<-hz]at hR hzl;rw[<-hs,<-hz]at HCU;obtain⟨t,ht⟩:=aj (tls s);have HT1:ae (∀W,sZ Tryz.prog 133 #[.string ⟨s.toArray⟩] W fun e w'=>e=.returned (.string ⟨t.toArray⟩)/\w'=W):=aa (fun W=>zdV _ s t ht W rfl (by omega));rw[<-ht]at hR;have HR':=aa hR;have HZL:=aa hzl;have HSZ:ae ((⟨s.toArray⟩:ByteArray).size=s.length):=aa (by show s.toArray.size=_;simp);clear hs ht hR hzl h hz hN;go_enter Tryz.func100,Tryz.ntmps100;go_wp2_with fail;refine HCU.o.mono ?_;rintro e w1 ⟨rfl,b1⟩;have HB1:ae (sI N w w1):=aa (by rw[HN.o];exact b1);clear b1 HCU;go_wp2_with fail;refine(HT1.o w1).mono ?_;rintro e w1' ⟨rfl,hw⟩;obtain rfl:=hw.symm;clear HT1;by_cases hz0:t=[]
 ·have HE:ae (R=(0,U,D)):=aa (by rw[HR'.o,if_pos hz0]);subst hz0;go_wp2;go_ret;rw[HE.o];exact⟨rfl,HB1.o.mono hBN,fun _=>⟨nv,sv,vs,HR.o.below (by rw[<-HN.o];exact HB1.o),.of_below (by rw[<-HN.o];exact HB1.o)⟩⟩
 have hie:t.isEmpty=false:=by cases t with|nil=>exact absurd rfl hz0|cons=>rfl
 have HE1:ae (R=_):=aa (by rw[HR'.o,if_neg hz0]);clear hz0 HR';by_cases hneg:z<0
 ·have HE:ae (R=(42,U,D)):=aa (by rw[HE1.o,if_pos hneg]);go_wp2;go_ret;rw[HE.o];exact⟨rfl,HB1.o.mono hBN,fun h=>by cases h⟩
 have HE2:ae (R=_):=aa (by rw[HE1.o,if_neg hneg]);have hml:=HZL.o (by omega);obtain⟨m,rfl⟩:∃m:Nat,z=(m:Int):=⟨z.toNat,by omega⟩;rw[Int.toNat_natCast]at hml;have HTN:ae (((m:Int)).toNat=m):=aa (Int.toNat_natCast m);rw[HTN.o]at HE2;obtain⟨b,hb⟩:=aj (tls (s.drop (m+1)));have hbl:b.length<=12000:=by rw[hb];have h5:=zhW (s.drop (m+1));rw[tc]at h5;omega
 obtain⟨sp,hsp⟩:=aj ((s.take m).map tbl);have hspl:sp.length<=12000:=by rw[hsp,tr,sO];omega
 rw[<-hb,<-hsp]at HE2;have HT2:ae (∀W,sZ Tryz.prog 133 #[.string ((⟨s.toArray⟩:ByteArray).extract (m+1) s.length)] W fun e w'=>e=.returned (.string ⟨b.toArray⟩)/\w'=W):=aa (fun W=>zdV _ (s.drop (m+1)) b hb W (ext_drop s (m+1)) (by simp;omega));have HSP:ae (∀W,sZ Tryz.prog 136 #[.string ((⟨s.toArray⟩:ByteArray).extract 0 m)] W fun e w'=>e=.returned (.string ⟨sp.toArray⟩)/\sI W.heap.size W w'):=aa (fun W=>zkt _ (s.take m) sp hsp W (lR s m) (by simp;omega));have HPA:=aa (fun W=>zgp sp W (by omega));have HGL:ae ((lB sp).1.length<=12000):=aa (by have h5:=zbE sp;omega);obtain⟨G,hG⟩:=aj ((lB sp).1);obtain⟨er,her⟩:=aj ((lB sp).2.1);obtain⟨ep,hep⟩:=aj ((lB sp).2.2);rw[<-hG,<-her]at HE2;rw[<-hG]at HGL;rw[<-hG,<-her,<-hep]at HPA;have HNA:ae (∀W,sZ Tryz.prog 134 #[.string ⟨b.toArray⟩] W fun e w'=>e=.returned (.bool (rF b))/\w'=W):=aa (fun W=>zkz b W (by omega));have e1:IntKind.i64.wrap ((m:Int)+1)=((m+1:Nat):Int):=by rw[IntKind.wrap_i64];omega
 have j1:(m:Int)+1<=(s.length:Int):=by omega
 have j0:(0:Int)<=(m:Int)+1:=by omega
 have j2:(m:Int)<=(s.length:Int):=by omega
 have j3:(0:Int)<=(m:Int):=by omega
 clear HZL HE1 hb hsp hG her hep HTN;go_wp2_with fail;refine(HT2.o w1).mono ?_;rintro e w1' ⟨rfl,hw⟩;obtain rfl:=hw.symm;clear HT2;go_wp2_with fail;refine(HNA.o w1).mono ?_;rintro e w1' ⟨rfl,hw⟩;obtain rfl:=hw.symm;clear HNA;cases hna:rF b with
 |false=>have HE:ae (R=(40,U,D)):=aa (by rw[HE2.o,if_pos (.inl hna)]);clear hna;go_wp2;go_ret;rw[HE.o];exact⟨rfl,HB1.o.mono hBN,fun h=>by cases h⟩
 |true=>
  by_cases ho:b=oth
  ·have HE:ae (R=(40,U,D)):=aa (by rw[HE2.o,if_pos (.inr ho)]);subst ho;clear hna;go_wp2;go_ret;rw[HE.o];exact⟨rfl,HB1.o.mono hBN,fun h=>by cases h⟩
  have HE3:ae (R=_):=aa (by rw[HE2.o,if_neg (by rw[hna];rintro (h|h);cases h;exact ho h)]);have ho':(b== [79,116,104,101,114])=false:=by rw[beq_eq_false_iff_ne];exact ho
  clear HE2 ho hna;go_wp2_with fail;refine(HSP.o w1).mono ?_;rintro e w2 ⟨rfl,b2⟩;have HB2:=aa (HB1.o.trans (b2.mono (by have h5:=HN.o;have h6:=HB1.o.size;omega)));clear b2 HB1 HSP ho';go_wp2_with fail;refine(HPA.o w2).mono ?_;rintro e w3 ⟨v3,rfl,o3,b3⟩;have HB3:=aa (HB2.o.trans (b3.mono (by have h5:=HN.o;have h6:=HB2.o.size;omega)));have HO3:=aa (aZ o3 (show B<=w2.heap.size by have h5:=HN.o;have h6:=HB2.o.size;omega));clear b3 HB2 HPA o3;by_cases he:er=0
  ·subst he;have HE4:ae (R=dcN U D b G):=aa (by rw[HE3.o,if_neg (by simp)]);have HR3:=aa (HR.o.below (show sI w.heap.size w w3 by rw[<-HN.o];exact HB3.o));obtain⟨no,nc,rfl,hrdn⟩:=ll HR3.o.hN rfl;obtain⟨so,sc,rfl,hrdd⟩:=HR3.o.rd;obtain⟨go,gc,rfl,hgr,hgn⟩:=eI HO3.o;have c0:=HR3.o.c0;have c1:=HR3.o.c1;have HRD:=aa hrdd;have HGR:=aa hgr;have HGN:=aa hgn;have HCL:=aa (pS Q no nc U.length U b w3 c0 hrdn rfl (by omega));clear HE3 HR hrdn hrdd hgr hgn;by_cases hm:b∈U
   ·have HD1:ae (clx U b=((U.idxOf b:Nat):Int)):=aa (by unfold clx;rw[if_pos hm]);have HD2:ae (cly U b=true):=aa (decide_eq_true hm);rw[HD1.o,HD2.o]at HCL;have hcU:=List.idxOf_lt_length_of_mem hm;have HAD:ae (gz b U=(U,U.idxOf b)):=aa (by unfold gz;rw[if_pos hm]);have HE5:=aa (show R=if zct D U.length (U.idxOf b) G=true then (41,U,D)else (0,U,D.set (U.idxOf b) (nE (D.getD (U.idxOf b) []) G)) by rw[HE4.o];unfold dcN;rw[if_neg (fun h=>h.1 hm),HAD.o,if_pos hm]);obtain⟨c,hc⟩:=aj (U.idxOf b);rw[<-hc]at HCL hcU HE5;clear hm HD1 HD2 HAD HE4 hc;obtain⟨n,hn⟩:=aj U.length;have HNU:=aa hn;have HNDn:ae (n=D.length):=aa (by omega);rw[<-hn]at c0 hU hcU HE5;have hDn:D.length=n:=by omega
    rw[hDn]at c1;clear hn hUD hDn;go_wp2_with fail;refine HCL.o.mono ?_;rintro e w3' ⟨rfl,hw⟩;obtain rfl:=hw.symm;clear HCL;go_wp2;go_loopw [12] (fun x wr=>∃i:Nat,1<=i/\i<=n/\x=.int .i64 (i:Int)/\ae (∀j,j<i->iU D c G j=false)/\ae (sI w3.heap.size w3 wr)) (fun x _=>n-(sS x).toNat)
    case atStart=>exact⟨1,by omega,by omega,rfl,zfq D c G,sL _ _⟩
    case round=>
     obtain⟨i,hi1,hi,rfl,HI,HBr⟩:=hrel;have d0:=(HBr.o.cell (p:=⟨Q,0,none⟩) (aO HR3.o.hQ)).trans c0;have d1:=(HBr.o.cell (p:=⟨Q,1,none⟩) (aO HR3.o.hQ)).trans c1;by_cases hlt:i<n
     ·have i3:(i:Int)<(n:Int):=by omega
      by_cases hic:i=c
      ·have i4:((i:Int) != (c:Int))=false:=by rw[hic];simp
       have HZ:ae (∀j,j<i+1->iU D c G j=false):=aa (fun j hj=>by
        by_cases h5:j<i
        ·exact HI.o j h5
        ·have h6:j=c:=by omega
         unfold iU;rw[h6];simp)
       clear hic;go_wp2;go_roundw
       case rel=>exact⟨i+1,by omega,by omega,by go_num,HZ,HBr⟩
       case measure=>simp[sS];omega
      ·have i4:((i:Int) != (c:Int))=true:=bne_iff_ne.2 (by omega);have hiD:i<D.length:=by have h5:=HNDn.o;omega
       obtain⟨a,rfl,ha,ao,ac,a0,hra,hna⟩:=HRD.o.below HBr.o i D[i] (sD hiD);have HXL:=aa (hD D[i] (sP hiD));have HME:=aa (zeD ao go ac gc D[i] G wr hra (HGR.o.below HBr.o) (by have h5:=HXL.o;omega) (by have h5:=HGL.o;omega));have HC1:=aa (show iU D c G i=mtR D[i] G by unfold iU;rw[decide_eq_true hi1,decide_eq_true hic,sE,sD hiD];rfl);have i0:(0:Int)<=(i:Int):=by omega
       generalize D[i].length=nx at*;obtain⟨mt,hmt⟩:=aj (mtR D[i] G);rw[<-hmt]at HME HC1;clear hmt hic hra hna hiD;cases mt with
       |true=>have HE:ae (R=(41,U,D)):=aa (by rw[HE5.o,if_pos (zfp D n c G i hlt HC1.o)]);go_wp2_with fail;refine HME.o.mono ?_;rintro e w4 ⟨rfl,b4⟩;have HB4:=aa (HBr.o.trans (b4.mono HBr.o.size));clear b4 HME;go_wp2;go_ret;rw[HE.o];exact⟨rfl,(HB3.o.mono hBN).trans (HB4.o.mono (by have h5:=HB3.o.size;have h6:=HN.o;omega)),fun h=>by cases h⟩
       |false=>
        have HZ:ae (∀j,j<i+1->iU D c G j=false):=aa (fun j hj=>by
         by_cases h5:j<i
         ·exact HI.o j h5
         ·have h6:j=i:=by omega
          rw[h6];exact HC1.o)
        go_wp2_with fail;refine HME.o.mono ?_;rintro e w4 ⟨rfl,b4⟩;have HB4:=aa (HBr.o.trans (b4.mono HBr.o.size));clear b4 HME;go_wp2;go_roundw
        case rel=>exact⟨i+1,by omega,by omega,by go_num,HZ,HB4⟩
        case measure=>simp[sS];omega
     ·have hin:i=n:=by omega
      have i3:¬(i:Int)<(n:Int):=by omega
      have HEZ:ae (R=(0,U,D.set c (nE (D.getD c []) G))):=aa (by rw[HE5.o,if_neg (by rw[zjs D n c G (fun j hj=>HI.o j (by omega))];decide)]);have HRr:=aa (HR3.o.below HBr.o);have hwr:=HBr.o.size;have hw3:=HB3.o.size;clear hin HI HRD HE5 c0 c1;have hcD:c<D.length:=(by have h5:=HNDn.o;omega);obtain⟨q,cap,hq,_,hqs⟩:=HRr.o.hS.form (by omega);cases hq;obtain⟨vc,hv1,hv2⟩:=HRr.o.hV c D[c] (sD hcD);obtain⟨ao,ac,rfl,hra,hrn⟩:=eI hv2;have HXL:ae (D[c].length<=20000):=aa (hD _ (sP hcD));have HHS:ae (wr.ownsRow B 125 1 (.slice (some ⟨q,0,none⟩) D.length sc) D.length vs):=aa HRr.o.hS;have HS1:ae (wr.cell? ⟨Q,1,none⟩=some (.slice (some ⟨q,0,none⟩) D.length sc)):=aa HRr.o.c1;have HS2:ae (wr.cell? ⟨q,c,none⟩=some (.slice ao D[c].length ac)):=aa (by rw[HHS.o.cellAt c (by omega)];exact hv1);have HGW:ae (RdR wr go G):=aa (HGR.o.below HBr.o);have HRA:=aa hra;have HOR:ae (sZ Tryz.prog 139 #[.slice ao D[c].length ac,.slice go G.length gc] wr.drew fun e w'=>∃v,e=.returned v/\w'.ownsRow wr.heap.size 146 2 v (nE D[c] G).length (aH (nE D[c] G))/\sI wr.heap.size wr.drew w'):=aa (zir ao go ac gc D[c] G wr.drew (HRA.o.below (gZ wr)) (HGW.o.below (gZ wr)) hrn HGN.o (by have h5:=HXL.o;omega) (by have h5:=HGL.o;omega));have HGD:ae (D.getD c []=D[c]):=aa (by rw[sE,sD hcD];rfl);rw[HGD.o]at HEZ;obtain⟨xc,hxc⟩:=aj (nE D[c] G);rw[<-hxc]at HOR HEZ;have HC2:ae (∀W',sI wr.heap.size wr W'->W'.cell? ⟨Q,1,none⟩=some (.slice (some ⟨q,0,none⟩) D.length sc)/\W'.cell? ⟨q,c,none⟩=some (.slice ao D[c].length ac)):=aa (fun W' hW=>⟨(hW.cell (p:=⟨Q,1,none⟩) (aO HRr.o.hQ)).trans HS1.o,(hW.cell (p:=⟨q,c,none⟩) hqs).trans HS2.o⟩);generalize D[c].length=nx at HOR HC2;obtain⟨nd,hnd⟩:=aj D.length;rw[<-hnd]at HC2;have k1:(c:Int)<(nd:Int):=by omega
      have k0:(0:Int)<=(c:Int):=by omega
      have HND:=aa hnd;clear HS1 HS2 HRA HGW hra hrn hv1 hv2 hxc HGD hnd;go_wp2;refine eE [(0,1),(1,1),(2,1),(3,0),(4,1),(5,1),(6,1),(7,1),(8,0),(9,1),(10,1),(11,0),(12,1),(13,2),(14,1),(15,2)] (fun W=>W.cell? ⟨Q,1,none⟩=some (.slice (some ⟨q,0,none⟩) nd sc)/\W.cell? ⟨q,c,none⟩=some (.slice ao nx ac)) (fun _=>True) (fun j=>j==15) (by kernel_rfl) (by kernel_rfl) (fun j hj=>by simp at hj;rw[hj];decide) rfl (by kernel_rfl) (HC2.o _ (gZ wr)) trivial ?_
      iterate 13 ((first|refine zgM ?_ rfl (by kernel_rfl) (fun w' hS=>?_) ?_|refine mI ?_ rfl (by kernel_rfl) (fun w' hS=>?_) ?_);(rotate_left;((first|obtain⟨s1,s2⟩:=hS|clear hS);go_simp;with_reducible rfl);rotate_left))
      simp only[Act.put,sG];refine js rfl (by kernel_rfl) fun KK hKK=>?_;go_simp;refine HOR.o.mono ?_;rintro e w5 ⟨v5,rfl,o5,b5⟩;have b5':sI wr.heap.size wr w5:=(gZ wr).trans b5;have HR5:=aa (HRr.o.below b5');have HO5:=aa (aZ o5 (show B<=wr.heap.size from(by have h5:=HN.o;omega)));obtain⟨d5,f5,l5⟩:=HR5.o.store rfl hcD HO5.o;obtain⟨xo,xcp,rfl⟩:=iE HO5.o;have p1:=(HC2.o w5 b5').2;have HHS5:=aa (lC HHS.o b5');have p2:=HHS5.o.frozenAt c;have HD5:=aa d5;have HF5:ae (gv Q _ _ w _):=aa ((gv.of_below (Q:=Q) (show sI w.heap.size w wr by rw[<-HN.o];exact HB3.o.trans (HBr.o.mono (by have h5:=HN.o;omega)))).trans ((gv.of_below b5').trans f5));have HB5:ae (sI B w _):=aa ((((HB3.o.mono hBN).trans (HBr.o.mono (by have h5:=HN.o;omega))).trans (b5'.mono (by have h5:=HN.o;omega))).trans l5);refine hKK _ _ (fun _=>HC2.o w5 b5') trivial ?_;clear hKK KK o5 b5 b5' d5 f5 l5 HR5 HO5;refine mI ?_ rfl (by kernel_rfl) (fun w' hS=>?_) ?_;(rotate_left;(go_simp;with_reducible rfl);rotate_left)
      simp only[Act.put,sG];refine js rfl (by kernel_rfl) fun KK hKK=>?_;go_simp;refine hKK _ _ (fun h=>by cases h) trivial ?_;clear hKK KK p1 p2;refine qa (NoPanic.normal ?_);go_wp2;go_ret;rw[HEZ.o];exact⟨rfl,HB5.o,fun _=>⟨_,_,_,HD5.o,HF5.o⟩⟩
   ·have HD1:ae (clx U b=0):=aa (by unfold clx;rw[if_neg hm]);have HD2:ae (cly U b=false):=aa (decide_eq_false hm);rw[HD1.o,HD2.o]at HCL;have HAD:ae (gz b U=(U++[b],U.length)):=aa (by unfold gz;rw[if_neg hm]);have HE5':=aa (show R=if 64<=U.length then (6,U,D)else if zct D U.length U.length G=true then (41,U,D)else (0,U++[b],D++[nE [] G]) by
     rw[HE4.o];unfold dcN;rw[HAD.o,if_neg hm];by_cases h6:64<=U.length
     ·rw[if_pos ⟨hm,h6⟩,if_pos h6]
     ·rw[if_neg (fun h=>h6 h.2),if_neg h6])
    clear hm HD1 HD2 HAD HE4;obtain⟨n,hn⟩:=aj U.length;have HNU:=aa hn;have HNDn:ae (n=D.length):=aa (by omega);rw[<-hn]at c0 hU hU0 HE5';have hDn:D.length=n:=by omega
    rw[hDn]at c1;have hn0:1<=n:=hU0;clear hn hUD hDn;by_cases h64:64<=n
    ·have HE:ae (R=(6,U,D)):=aa (by rw[HE5'.o,if_pos h64]);have h64':(64:Int)<=(n:Int):=by omega
     go_wp2_with fail;refine HCL.o.mono ?_;rintro e w3' ⟨rfl,hw⟩;obtain rfl:=hw.symm;clear HCL;go_wp2;go_ret;rw[HE.o];exact⟨rfl,HB3.o.mono hBN,fun h=>by cases h⟩
    have HE5:ae (R=_):=aa (by rw[HE5'.o,if_neg h64]);have h64':¬(64:Int)<=(n:Int):=by omega
    clear HE5' h64;go_wp2_with fail;refine HCL.o.mono ?_;rintro e w3' ⟨rfl,hw⟩;obtain rfl:=hw.symm;clear HCL;go_wp2;go_loopw [12] (fun x wr=>∃i:Nat,1<=i/\i<=n/\x=.int .i64 (i:Int)/\ae (∀j,j<i->iU D n G j=false)/\ae (sI w3.heap.size w3 wr)) (fun x _=>n-(sS x).toNat)
    case atStart=>exact⟨1,by omega,hn0,rfl,zfq D n G,sL _ _⟩
    case round=>
     obtain⟨i,hi1,hi,rfl,HI,HBr⟩:=hrel;have d0:=(HBr.o.cell (p:=⟨Q,0,none⟩) (aO HR3.o.hQ)).trans c0;have d1:=(HBr.o.cell (p:=⟨Q,1,none⟩) (aO HR3.o.hQ)).trans c1;by_cases hlt:i<n
     ·have i3:(i:Int)<(n:Int):=by omega
      by_cases hic:i=n
      ·have i4:((i:Int) != (n:Int))=false:=by rw[hic];simp
       have HZ:ae (∀j,j<i+1->iU D n G j=false):=aa (fun j hj=>by
        by_cases h5:j<i
        ·exact HI.o j h5
        ·have h6:j=n:=by omega
         unfold iU;rw[h6];simp)
       clear hic;go_wp2;go_roundw
       case rel=>exact⟨i+1,by omega,by omega,by go_num,HZ,HBr⟩
       case measure=>simp[sS];omega
      ·have i4:((i:Int) != (n:Int))=true:=bne_iff_ne.2 (by omega);have hiD:i<D.length:=by have h5:=HNDn.o;omega
       obtain⟨a,rfl,ha,ao,ac,a0,hra,hna⟩:=HRD.o.below HBr.o i D[i] (sD hiD);have HXL:=aa (hD D[i] (sP hiD));have HME:=aa (zeD ao go ac gc D[i] G wr hra (HGR.o.below HBr.o) (by have h5:=HXL.o;omega) (by have h5:=HGL.o;omega));have HC1:=aa (show iU D n G i=mtR D[i] G by unfold iU;rw[decide_eq_true hi1,decide_eq_true hic,sE,sD hiD];rfl);have i0:(0:Int)<=(i:Int):=by omega
       generalize D[i].length=nx at*;obtain⟨mt,hmt⟩:=aj (mtR D[i] G);rw[<-hmt]at HME HC1;clear hmt hic hra hna hiD;cases mt with
       |true=>have HE:ae (R=(41,U,D)):=aa (by rw[HE5.o,if_pos (zfp D n n G i hlt HC1.o)]);go_wp2_with fail;refine HME.o.mono ?_;rintro e w4 ⟨rfl,b4⟩;have HB4:=aa (HBr.o.trans (b4.mono HBr.o.size));clear b4 HME;go_wp2;go_ret;rw[HE.o];exact⟨rfl,(HB3.o.mono hBN).trans (HB4.o.mono (by have h5:=HB3.o.size;have h6:=HN.o;omega)),fun h=>by cases h⟩
       |false=>
        have HZ:ae (∀j,j<i+1->iU D n G j=false):=aa (fun j hj=>by
         by_cases h5:j<i
         ·exact HI.o j h5
         ·have h6:j=i:=by omega
          rw[h6];exact HC1.o)
        go_wp2_with fail;refine HME.o.mono ?_;rintro e w4 ⟨rfl,b4⟩;have HB4:=aa (HBr.o.trans (b4.mono HBr.o.size));clear b4 HME;go_wp2;go_roundw
        case rel=>exact⟨i+1,by omega,by omega,by go_num,HZ,HB4⟩
        case measure=>simp[sS];omega
     ·have hin:i=n:=by omega
      have i3:¬(i:Int)<(n:Int):=by omega
      have HEZ0:ae (R=(0,U++[b],D++[nE [] G])):=aa (by rw[HE5.o,if_neg (by rw[zjs D n n G (fun j hj=>HI.o j (by omega))];decide)]);have HRr:=aa (HR3.o.below HBr.o);have hwr:=HBr.o.size;have hw3:=HB3.o.size;have HGr:=aa (HO3.o);clear hin HI HRD HE5 c0 c1;have HP1:ae (∀(w4:sN),(wr.alloc (.cells #[.string ⟨b.toArray⟩] 9)).grownBy w4 (sV no n nc).ownBlock->w4.heap[Q]?=some (.cells #[.slice no n nc,.slice so n sc] 91 (0,0))):=aa (fun w4 gr=>by have h6:=HRr.o.hQ;rw[<-HNU.o,<-HNDn.o]at h6;have h7:=HRr.o.hN;rw[<-HNU.o]at h7;exact(gr.block Q (by simp;have h5:=aO h6;omega) (fun e=>bj h7 Q _ 91 h6 (by decide) e.symm)).trans ((cD wr _ Q (aO h6)).trans h6));have HRW:ae (wr.ownsRow B 9 1 (.slice no n nc) n (nms U)):=aa (by have h7:=HRr.o.hN;rw[<-HNU.o]at h7;exact h7);have HBW:ae (B<=wr.heap.size):=aa (by have h5:=HN.o;omega);have hBW:=HBW.o;have HNM:=aa (show ∀(q2 c2:Nat)(w4:sN),w4.ownsRow B 9 1 (.slice (some ⟨q2,0,none⟩) (n+1) c2) (n+1) (nms U++[.string ⟨b.toArray⟩])->(wr.alloc (.cells #[.string ⟨b.toArray⟩] 9)).grownBy w4 (sV no n nc).ownBlock->((sV no n nc).ownBlock=some q2\/q2=wr.heap.size+1)->
        bg B Q (U++[b]) D (.slice (some ⟨q2,0,none⟩) (n+1) c2) (.slice so n sc) vs (w4.setCell ⟨Q,0,none⟩ (.slice (some ⟨q2,0,none⟩) (n+1) c2))/\gv Q (.slice no n nc) (.slice (some ⟨q2,0,none⟩) (n+1) c2) wr (w4.setCell ⟨Q,0,none⟩ (.slice (some ⟨q2,0,none⟩) (n+1) c2))/\sI B wr (w4.setCell ⟨Q,0,none⟩ (.slice (some ⟨q2,0,none⟩) (n+1) c2))from fun q2 c2 w4 o4 gr hl4=>by
       have h6:=HRr.o;rw[<-HNU.o,<-HNDn.o]at h6;obtain⟨r1,r2,r3⟩:=h6.named HNU.o ((sL _ wr).alloc (sJ _) (.cells #[.string ⟨b.toArray⟩] 9)) o4 gr (by rw[sM];exact hl4);exact⟨r1,r2,((sL B wr).alloc hBW _).trans r3⟩)
      go_wp2_with (first|(at_builtin;refine sT _ rfl _ _ 66 rfl B 9 i9 (.string ⟨#[]⟩) 1 16 Tryz.underlying66 hi9 hz90 hz91 hz92 rfl (by decide) _ n (nms U) rfl (HRW.o.alloc _) ⟨wr.heap.size,0,none⟩ 1 1 [.string ⟨b.toArray⟩] rfl rfl (zgK wr ⟨b.toArray⟩ 9) (zbi _) (by decide) (by unfold ti;omega) (by omega) (by simp;omega) (wr.heap.size+1) (by simp) ?_;intro q2 c2 w4 o4 gr4 hl4 hlt4;have f0:=HP1.o w4 gr4;have f1:w4.cell? ⟨Q,0,none⟩=some (.slice no n nc):=cell_row w4 Q 0 [_,_] 91 _ f0 rfl;have f2:=frozen_row f0 0;have f3:w4.cell? ⟨Q,1,none⟩=some (.slice so n sc):=cell_row w4 Q 1 [_,_] 91 _ f0 rfl;have HD4:=aa (HNM.o q2 c2 w4 o4 gr4 hl4);clear f0 o4 gr4 hl4 hlt4)|(at_builtin;refine sT _ rfl _ _ 89 rfl B 125 i47 (.slice none 0 0) 1 24 Tryz.underlying89 hi47 hz470 hz471 hz472 rfl (by decide) _ n vs rfl (sN.ownsRow.alloc (hsw HD4.o.1 HNDn.o) _) ⟨w4.heap.size,0,none⟩ 1 1 [.slice none 0 0] rfl rfl (zqP _ w4.heap.size (by simp[tz]) _ 125) (zgh _) (by decide) (by unfold ti;omega) (by omega) (hsz4 HD4.o.2.2.size hBW) (w4.heap.size+1) (by simp[tz]) ?_;intro q3 c3 w6 o6 gr6 hl6 hlt6;have HD6:=aa (zoq HD4.o.1 HNDn.o o6 gr6);have f4:=(hq6 HD4.o.1 gr6).1;have f5:=(hq6 HD4.o.1 gr6).2;clear o6 gr6 hl6 hlt6)|fail);obtain⟨d6,fr6,bl6⟩:=HD6.o;obtain⟨d4,fr4,bl4⟩:=HD4.o;obtain⟨W6,hW6⟩:=aj (w6.setCell ⟨Q,1,none⟩ (.slice (some ⟨q3,0,none⟩) (n+1) c3));rw[<-hW6]at d6 fr6 bl6⊢;have HQ6:=aa d6;have HF6:=aa (fr4.trans fr6);have HB6:=aa (bl4.trans bl6);have hD2:(D++[[]]).length=n+1:=by have h5:=HNDn.o;simp;omega
      have HEZ:=aa (show R=(0,U++[b],(D++[[]]).set n (nE ((D++[[]]).getD n []) G)) by rw[HEZ0.o,HNDn.o,List.set_append_right _ _ (sJ _),tA,sE,List.getElem?_append_right (sJ _),tA];rfl);have HG6:ae (RdR W6 go G):=aa (by have h5:=lC HO3.o HBr.o;have h6:=zwz HRr.o (show gv Q _ _ wr W6 by rw[<-HNU.o];exact HF6.o) h5;obtain⟨go',gc',e',hg',_⟩:=eI h6;cases e';exact hg');have hwB:B<=W6.heap.size:=by have h5:=HB6.o.size;omega
      clear d6 fr6 bl6 d4 fr4 bl4 HD6 HD4 hW6 f1 f2 f3 f4 f5 HNM HP1 HRW HEZ0;have hcD:n<(D++[[]]).length:=(by omega);have hqs:=(HQ6.o.hS.lt q3 rfl).2;obtain⟨vc,hv1,hv2⟩:=HQ6.o.hV n (D++[[]])[n] (sD hcD);obtain⟨ao,ac,rfl,hra,hrn⟩:=eI hv2;have HXL:ae ((D++[[]])[n].length<=20000):=aa (by rcases tu.1 (sP hcD)with h5|h5;exact hD _ h5;rw[tj.1 h5];exact Nat.zero_le _);have HHS:ae (W6.ownsRow B 125 1 (.slice (some ⟨q3,0,none⟩) (n+1) c3) (n+1) (vs++[.slice none 0 0])):=aa (by have h5:=HQ6.o.hS;rw[hD2]at h5;exact h5);have HS1:ae (W6.cell? ⟨Q,1,none⟩=some (.slice (some ⟨q3,0,none⟩) (n+1) c3)):=aa HQ6.o.c1;have HS2:ae (W6.cell? ⟨q3,n,none⟩=some (.slice ao (D++[[]])[n].length ac)):=aa (by rw[HHS.o.cellAt n (by omega)];exact hv1);have HGW:ae (RdR W6 go G):=aa HG6.o;have HRA:=aa hra;have HOR:ae (sZ Tryz.prog 139 #[.slice ao (D++[[]])[n].length ac,.slice go G.length gc] W6.drew fun e w'=>∃v,e=.returned v/\w'.ownsRow W6.heap.size 146 2 v (nE (D++[[]])[n] G).length (aH (nE (D++[[]])[n] G))/\sI W6.heap.size W6.drew w'):=aa (zir ao go ac gc (D++[[]])[n] G W6.drew (HRA.o.below (gZ W6)) (HGW.o.below (gZ W6)) hrn HGN.o (by have h5:=HXL.o;omega) (by have h5:=HGL.o;omega));have HGD:ae ((D++[[]]).getD n []=(D++[[]])[n]):=aa (by rw[sE,sD hcD];rfl);rw[HGD.o]at HEZ;obtain⟨xc,hxc⟩:=aj (nE (D++[[]])[n] G);rw[<-hxc]at HOR HEZ;have HC2:ae (∀W',sI W6.heap.size W6 W'->W'.cell? ⟨Q,1,none⟩=some (.slice (some ⟨q3,0,none⟩) (n+1) c3)/\W'.cell? ⟨q3,n,none⟩=some (.slice ao (D++[[]])[n].length ac)):=aa (fun W' hW=>⟨(hW.cell (p:=⟨Q,1,none⟩) (aO HQ6.o.hQ)).trans HS1.o,(hW.cell (p:=⟨q3,n,none⟩) hqs).trans HS2.o⟩);generalize (D++[[]])[n].length=nx at HOR HC2;obtain⟨nd,hnd⟩:=aj (n+1);rw[<-hnd]at HC2;have k1:(n:Int)<(nd:Int):=by omega
      have k0:(0:Int)<=(n:Int):=by omega
      have HND:=aa hnd;clear HS1 HS2 HRA HGW hra hrn hv1 hv2 hxc HGD hnd;go_wp2;refine eE [(0,1),(1,1),(2,1),(3,0),(4,1),(5,1),(6,1),(7,1),(8,0),(9,1),(10,1),(11,0),(12,1),(13,2),(14,1),(15,2)] (fun W=>W.cell? ⟨Q,1,none⟩=some (.slice (some ⟨q3,0,none⟩) nd c3)/\W.cell? ⟨q3,n,none⟩=some (.slice ao nx ac)) (fun _=>True) (fun j=>j==15) (by kernel_rfl) (by kernel_rfl) (fun j hj=>by simp at hj;rw[hj];decide) rfl (by kernel_rfl) (HC2.o _ (gZ W6)) trivial ?_
      iterate 13 ((first|refine zgM ?_ rfl (by kernel_rfl) (fun w' hS=>?_) ?_|refine mI ?_ rfl (by kernel_rfl) (fun w' hS=>?_) ?_);(rotate_left;((first|obtain⟨s1,s2⟩:=hS|clear hS);go_simp;with_reducible rfl);rotate_left))
      simp only[Act.put,sG];refine js rfl (by kernel_rfl) fun KK hKK=>?_;go_simp;refine HOR.o.mono ?_;rintro e w5 ⟨v5,rfl,o5,b5⟩;have b5':sI W6.heap.size W6 w5:=(gZ W6).trans b5;have HR5:=aa (HQ6.o.below b5');have HO5:=aa (aZ o5 (show B<=W6.heap.size from hwB));obtain⟨d5,f5,l5⟩:=HR5.o.store hD2.symm hcD HO5.o;obtain⟨xo,xcp,rfl⟩:=iE HO5.o;have p1:=(HC2.o w5 b5').2;have HHS5:=aa (lC HHS.o b5');have p2:=HHS5.o.frozenAt n;have HD5:=aa d5;have HF5:ae (gv Q (.slice no n nc) _ w _):=aa (((gv.of_below (Q:=Q) (nv:=.slice no n nc) (show sI w.heap.size w wr by rw[<-HN.o];exact HB3.o.trans (HBr.o.mono (by have h5:=HN.o;omega)))).trans HF6.o).trans ((gv.of_below b5').trans f5));have HB5:ae (sI B w _):=aa (((((HB3.o.mono hBN).trans (HBr.o.mono (by have h5:=HN.o;omega))).trans HB6.o).trans (b5'.mono hwB)).trans l5);refine hKK _ _ (fun _=>HC2.o w5 b5') trivial ?_;clear hKK KK o5 b5 b5' d5 f5 l5 HR5 HO5;refine mI ?_ rfl (by kernel_rfl) (fun w' hS=>?_) ?_;(rotate_left;(go_simp;with_reducible rfl);rotate_left)
      simp only[Act.put,sG];refine js rfl (by kernel_rfl) fun KK hKK=>?_;go_simp;refine hKK _ _ (fun h=>by cases h) trivial ?_;clear hKK KK p1 p2;refine qa (NoPanic.normal ?_);go_wp2;go_ret;rw[HEZ.o];exact⟨rfl,HB5.o,fun _=>⟨_,_,_,HD5.o,by rw[<-HNU.o];exact HF5.o⟩⟩
  ·have HE:ae (R=(er,U,D)):=aa (by rw[HE3.o,if_pos he]);have her':(er != 0)=true:=bne_iff_ne.2 he;have HER:=aa he;clear he;go_wp2;go_ret;rw[HE.o];exact⟨rfl,HB3.o.mono hBN,fun h=>absurd h HER.o⟩
end Dc
namespace Dc
open Go.RowKit
set_option maxRecDepth 100000 in
theorem zne(ao:Option Addr)(ac:Nat)(l:List Rg)(w:sN)(ha:RdR w ao l)(hl:l.length<=100000):
  sZ Tryz.prog 140 #[.slice ao l.length ac] w fun e w'=>∃v,e=.returned v/\w'.ownsRow w.heap.size 146 2 v (nt l).length (aH (nt l))/\sI w.heap.size w w':=by
 obtain⟨i0,hi,hz0,hz1,hz2⟩:=td Tryz.infoRange;have HSO:=aa (mB ao ac l w ha hl);clear ha;go_enter Tryz.func140,Tryz.ntmps140;go_wp2_with fail;refine HSO.o.mono ?_;rintro e Wr ⟨v,rfl,o1,hB⟩;obtain⟨so,sc,rfl,hrd⟩:=zbu o1;have HNT:ae (ntF 0 (oE l)=nt l):=aa rfl;have hsl:=zbK l;have HNF:=aa (d8 l);obtain⟨s,hs⟩:∃s,oE l=s:=⟨_,rfl⟩;rw[hs]at HNT HNF hrd hsl⊢;have HRD:=aa hrd;have HB0:=aa hB;have hws:=hB.size;have hs5:s.length<=100000:=by omega
 clear hrd hB HSO hsl o1 hs;go_wp2;go_loopw [4,5,6] (fun v x i wq=>∃(k:Nat)(O:List Rg)(lo:Int),k<=s.length/\i=.int .i64 k/\x=.int .i32 lo/\0<=lo/\lo<=1114112/\ae (wq.ownsRow Wr.heap.size 146 2 v O.length (aH O))/\ae (Ntm s O k lo)/\O.length<=k/\ae (sI Wr.heap.size Wr wq)) (fun _ _ i _=>s.length-(sS i).toNat)
 case atStart=>exact⟨0,[],0,by omega,rfl,rfl,by omega,by omega,sW _ _ _ _,rfl,by simp,sL _ _⟩
 case round=>
  obtain⟨k,O,lo,hk,rfl,rfl,hlo0,hlo1,HO,HMi,hok,HB⟩:=hrel;have hbs:=HB.o.size;by_cases hlt:k<s.length
  ·obtain⟨gs,rfl,hgs,y0,y1⟩:=HRD.o k s[k] (sD hlt);obtain⟨b1,b2,b3⟩:=znF HNF.o (sD hlt);unfold cJ at b3;replace y0:=(HB.o.cell (p:=gs.add (k*2)) (by rw[add_blk];exact hgs)).trans y0;replace y1:=(HB.o.cell (p:=⟨(gs.add (k*2)).block,(gs.add (k*2)).off+1,none⟩) (show(gs.add (k*2)).block<_ by rw[add_blk];exact hgs)).trans y1;have i3:(k:Int)<(s.length:Int):=by omega
   have hgw:gs.block<wr.heap.size:=by omega
   have HY:=aa (fun hc=>Ntm.yes hlt HMi.o hc);have HN:=aa (fun hc=>Ntm.no hlt HMi.o hc);generalize s[k].1=f0 at*;generalize s[k].2=f1 at*;have e1:IntKind.i32.wrap (f0-1)=f0-1:=by rw[IntKind.wrap_i32];omega
   have e2:IntKind.i32.wrap (f1+1)=f1+1:=by rw[IntKind.wrap_i32];omega
   by_cases hc:lo<f0
   ·have HY2:=aa (HY.o hc);clear HY HN HMi;have HY1:ae (∀W,sI Wr.heap.size Wr W->W.cell? ⟨(gs.add (k*2)).block,(gs.add (k*2)).off+1,none⟩=some (.int .i32 f1)):=aa (fun W hW=>(hW.cell (p:=⟨(gs.add (k*2)).block,(gs.add (k*2)).off+1,none⟩) (show(gs.add (k*2)).block<_ by rw[add_blk];exact hgs)).trans ((HB.o.cell (p:=⟨(gs.add (k*2)).block,(gs.add (k*2)).off+1,none⟩) (show(gs.add (k*2)).block<_ by rw[add_blk];exact hgs)).symm.trans y1));go_wp2_with (at_builtin;refine tp _ rfl _ _ 125 rfl Wr.heap.size 146 i0 (.agg #[.int .i32 0,.int .i32 0]) 2 8 Tryz.underlying125 hi hz0 hz1 hz2 rfl (by decide) _ O.length (aH O) rfl (HO.o.alloc _) ⟨wr.heap.size,0,none⟩ 1 1 (rgc (lo,f0-1)) rfl rfl ?c1 ?c2 ?c3 ?c4 ?c5 ?_)
    case c1=>exact gq _ (lo,f0-1) _ rfl
    case c2=>exact ez _
    case c3=>unfold ti;omega
    case c4=>omega
    case c5=>simp;omega
    intro v2 w2 o2 gr2 _;have HO2:ae (w2.ownsRow Wr.heap.size 146 2 v2 (O++[(lo,f0-1)]).length (aH (O++[(lo,f0-1)]))):=aa (by rw[dh,bJ];exact o2);have HB2:=aa ((HB.o.alloc hbs (.cells #[.int .i32 lo,.int .i32 (f0-1)] 146)).grown gr2 (by simp;omega) (fun j hj=>(HO.o.lt j hj).1));have z1:=HY1.o w2 HB2.o;clear o2 gr2 y0 y1;go_wp2;go_roundw
    case rel=>exact⟨k+1,O++[(lo,f0-1)],f1+1,by omega,by go_num,by go_num,by omega,by omega,HO2,HY2,by rw[bJ];omega,HB2⟩
    case measure=>simp[sS];omega
   ·have HN2:=aa (HN.o hc);clear HY HN HMi;go_wp2;go_roundw
    case rel=>exact⟨k+1,O,f1+1,by omega,by go_num,by go_num,by omega,by omega,HO,HN2,by omega,HB⟩
    case measure=>simp[sS];omega
  ·obtain⟨hd1,hd2⟩:=HMi.o.done hlt;unfold cJ at hd1 hd2;by_cases hc:lo<=1114111
   ·have HD:=aa (hd1 hc);clear hd1 hd2 HMi;go_wp2_with (at_builtin;refine tp _ rfl _ _ 125 rfl Wr.heap.size 146 i0 (.agg #[.int .i32 0,.int .i32 0]) 2 8 Tryz.underlying125 hi hz0 hz1 hz2 rfl (by decide) _ O.length (aH O) rfl (HO.o.alloc _) ⟨wr.heap.size,0,none⟩ 1 1 (rgc (lo,1114111)) rfl rfl ?c1 ?c2 ?c3 ?c4 ?c5 ?_)
    case c1=>exact gq _ (lo,1114111) _ rfl
    case c2=>exact ez _
    case c3=>unfold ti;omega
    case c4=>omega
    case c5=>simp;omega
    intro v2 w2 o2 gr2 _;have HO2:ae (w2.ownsRow Wr.heap.size 146 2 v2 (O++[(lo,1114111)]).length (aH (O++[(lo,1114111)]))):=aa (by rw[dh,bJ];exact o2);have HB2:=aa ((HB.o.alloc hbs (.cells #[.int .i32 lo,.int .i32 1114111] 146)).grown gr2 (by simp;omega) (fun j hj=>(HO.o.lt j hj).1));clear o2 gr2;go_wp2;go_ret;exact⟨_,rfl,by rw[<-HNT.o,<-HD.o];exact aZ HO2.o HB0.o.size,HB0.o.trans (HB2.o.mono HB0.o.size)⟩
   ·have HD:=aa (hd2 hc);clear hd1 hd2 HMi;go_wp2;go_ret;exact⟨_,rfl,by rw[<-HNT.o,<-HD.o];exact aZ HO.o HB0.o.size,HB0.o.trans (HB.o.mono HB0.o.size)⟩
end Dc
namespace Dc
open Go.RowKit
def mS(D:List (List Rg))(i:Nat):List Rg:=((D.take i).drop 1).flatten
theorem zow(D:List (List Rg)):mS D 1=[]:=by
 unfold mS;cases D with
 |nil=>rfl
 |cons x D=>simp
theorem zkX(D:List (List Rg))(i:Nat)(h1:1<=i)(hi:i<D.length):mS D (i+1)=mS D i++D[i]:=by unfold mS;rw[sX hi,List.drop_append_of_le_length (by rw[sO];omega)];simp
theorem zox(D:List (List Rg))(i:Nat)(hi:D.length<=i):mS D i=(D.drop 1).flatten:=by unfold mS;rw[te hi]
theorem zro(D:List (List Rg))(i:Nat):(mS D i).length<=(D.drop 1).flatten.length:=by
 unfold mS;rw[List.drop_take];obtain⟨L,hL⟩:=aj (D.drop 1);rw[<-hL];have e:L.flatten=(L.take (i-1)).flatten++(L.drop (i-1)).flatten:=by rw[<-List.flatten_append,tf]
 rw[e,sH];omega
set_option maxRecDepth 100000 in
theorem zkw(B Q:Nat)(U:List (List UInt8))(D:List (List Rg))(nv sv:sU)(vs:List sU)(w:sN)(h:bg B Q U D nv sv vs w)(hB:B<=w.heap.size)(h1:1<=D.length)(hD1:D.length<=1000)(hD:(D.drop 1).flatten.length<=40000):
  sZ Tryz.prog 101 #[.pointer (some ⟨Q,0,none⟩)] w fun e w'=>e=.returned (.tuple #[])/\sI B w w'/\∃sv' vs',bg B Q U (D.set 0 (nt (D.drop 1).flatten)) nv sv' vs' w':=by
 obtain⟨i0,hi,hz0,hz1,hz2⟩:=td Tryz.infoRange;have HR:=aa h;obtain⟨so,sc,rfl,hrd⟩:=h.rd;have HRD:=aa hrd;have c1:=h.c1;obtain⟨n,hn⟩:=aj D.length;have HN:=aa hn;rw[<-hn]at c1 h1 hD1;have hQ:=aO h.hQ;have HLE:=aa (zro D);clear h hrd hn;go_enter Tryz.func101,Tryz.ntmps101;go_wp2;go_loopw [2,3] (fun v x wr=>∃i:Nat,1<=i/\i<=n/\x=.int .i64 (i:Int)/\ae (wr.ownsRow w.heap.size 146 2 v (mS D i).length (aH (mS D i)))/\ae (sI w.heap.size w wr)) (fun _ x _=>n-(sS x).toNat)
 case atStart=>exact⟨1,by omega,h1,rfl,by rw[zow];exact sW _ _ _ _,sL _ _⟩
 case round=>
  obtain⟨i,hi1,hin,rfl,HO,HBr⟩:=hrel;have d1:=(HBr.o.cell (p:=⟨Q,1,none⟩) hQ).trans c1;have hwr:=HBr.o.size;by_cases hlt:i<n
  ·have i3:(i:Int)<(n:Int):=by omega
   have i0':(0:Int)<=(i:Int):=by omega
   have hiD:i<D.length:=by have h5:=HN.o;omega
   obtain⟨a,rfl,ha,ao,ac,a0,hra,hna⟩:=HRD.o.below HBr.o i D[i] (sD hiD);have HE:=aa (zkX D i hi1 hiD);have HRA:=aa hra;have HNA:=aa hna;have hl2:(mS D i).length+D[i].length<=40000:=by have h5:=HLE.o (i+1);rw[HE.o,sH]at h5;omega
   obtain⟨x,hx⟩:=aj (D[i]);rw[<-hx]at a0 HRA HE hl2;obtain⟨y,hy⟩:=aj (mS D i);rw[<-hy]at HO HE hl2;clear hra hna hiD hx hy;go_wp2_with (at_builtin;refine dF rfl _ _ 125 rfl w.heap.size 146 i0 (.agg #[.int .i32 0,.int .i32 0]) 8 Tryz.underlying125 hi hz0 hz1 hz2 (by rfl) _ y.length (aH y) rfl HO.o ao ac x rfl HNA.o HRA.o (by unfold ti;omega) (by omega) (by omega) ?_;intro v2 w2 o2 gr2;have HB2:=aa (HBr.o.grown gr2 hwr (fun k hk=>(HO.o.lt k hk).1));have HO2:ae (w2.ownsRow w.heap.size 146 2 v2 (y++x).length (aH (y++x))):=aa (by rw[zeg,sH];exact o2);clear o2 gr2);go_roundw
   case rel=>exact⟨i+1,by omega,by omega,by go_num,by rw[HE.o];exact HO2,HB2⟩
   case measure=>simp[sS];omega
  ·have i3:¬(i:Int)<(n:Int):=by omega
   have HE:=aa (zox D i (by have h5:=HN.o;omega));rw[HE.o]at HO;have HFL:=aa hD;obtain⟨x,hx⟩:=aj ((D.drop 1).flatten);have HX:=aa hx;rw[<-hx]at HO HFL;obtain⟨xo,xc,rfl,hrx,_⟩:=eI HO.o;have HRr:=aa (HR.o.below HBr.o);obtain⟨q,cap,hq,_,hqs⟩:=HRr.o.hS.form (by have h5:=HN.o;omega);cases hq;rw[<-HN.o]at HRr;have HNT:ae (sZ Tryz.prog 140 #[.slice xo x.length xc] wr.drew fun e w'=>∃v,e=.returned v/\w'.ownsRow wr.heap.size 146 2 v (nt x).length (aH (nt x))/\sI wr.heap.size wr.drew w'):=aa (zne xo xc x wr.drew (hrx.below (gZ wr)) (by have h5:=HFL.o;omega));have HC2:ae (∀W',sI wr.heap.size wr W'->W'.cell? ⟨Q,1,none⟩=some (.slice (some ⟨q,0,none⟩) n sc)):=aa (fun W' hW=>(hW.cell (p:=⟨Q,1,none⟩) (Nat.lt_of_lt_of_le hQ hwr)).trans d1);have HHS:ae (wr.ownsRow B 125 1 (.slice (some ⟨q,0,none⟩) n sc) n vs):=aa (by have h5:=HRr.o.hS;rw[<-HN.o]at h5;exact h5);have k1:(0:Int)<(n:Int):=by omega
   have hBW:B<=wr.heap.size:=by omega
   have k2:0<n:=by omega
   clear HO HE hrx HRD c1 hx;go_wp2;refine eE [(0,1),(1,1),(2,1),(3,0),(4,1),(5,2),(6,1),(7,2)] (fun W=>W.cell? ⟨Q,1,none⟩=some (.slice (some ⟨q,0,none⟩) n sc)) (fun _=>True) (fun j=>j==7) (by kernel_rfl) (by kernel_rfl) (fun j hj=>by simp at hj;rw[hj];decide) rfl (by kernel_rfl) (HC2.o _ (gZ wr)) trivial ?_
   iterate 5 ((first|refine zgM ?_ rfl (by kernel_rfl) (fun w' hS=>?_) ?_|refine mI ?_ rfl (by kernel_rfl) (fun w' hS=>?_) ?_);(rotate_left;(go_simp;with_reducible rfl);rotate_left))
   simp only[Act.put,sG];refine js rfl (by kernel_rfl) fun KK hKK=>?_;go_simp;refine HNT.o.mono ?_;rintro e w5 ⟨v5,rfl,o5,b5⟩;have b5':sI wr.heap.size wr w5:=(gZ wr).trans b5;have HR5:=aa (HRr.o.below b5');have HO5:=aa (aZ o5 hBW);obtain⟨d5,f5,l5⟩:=HR5.o.store (c:=0) HN.o (by have h5:=HN.o;omega) HO5.o;obtain⟨yo,yc,rfl⟩:=iE HO5.o;have HHS5:=aa (lC HHS.o b5');have p1:w5.cell? ⟨q,0,none⟩=vs[0]? :=HHS5.o.cellAt 0 (by omega);have p2:=HHS5.o.frozenAt 0;obtain⟨v0,hv0⟩:∃v0,vs[0]?=some v0:=⟨_,sD (by have h5:=HHS.o.1;omega)⟩;rw[hv0]at p1;have HD5:=aa d5;have HB5:ae (sI B w _):=aa ((((HBr.o.mono hB).trans (b5'.mono hBW))).trans l5);refine hKK _ _ (fun _=>HC2.o w5 b5') trivial ?_;clear hKK KK o5 b5 b5' d5 f5 l5 HR5 HO5 hv0;refine mI ?_ rfl (by kernel_rfl) (fun w' hS=>?_) ?_;(rotate_left;(go_simp;with_reducible rfl);rotate_left)
   simp only[Act.put,sG];refine js rfl (by kernel_rfl) fun KK hKK=>?_;go_simp;refine hKK _ _ (fun h=>by cases h) trivial ?_;clear hKK KK p1 p2;refine qa (NoPanic.normal ?_);refine bodyPost_end (v:=.tuple #[]) (by simp[results,Tryz.f101,go_sem]) rfl ?_;exact⟨rfl,HB5.o,_,_,by rw[<-HX.o];exact HD5.o⟩
end Dc
namespace Dc
open Go.RowKit
structure LnI(t:List UInt8)(i f:Nat)(D:List (List UInt8)):Prop where
 eq:ib t=D++ib (t.drop f)
 le:f<=i
 no:(10:UInt8) ∉ (t.drop f).take (i-f)
theorem LnI.skip{t:List UInt8}{i f:Nat}{D:List (List UInt8)}(h:LnI t i f D)(hi:i<t.length)(hb:t[i]≠10):LnI t (i+1) f D:=by
 refine⟨h.eq,by have:=h.le;omega,?_⟩;have hle:=h.le;have e:i+1-f=(i-f)+1:=by omega
 have hlt:i-f<(t.drop f).length:=by rw[tc];omega
 rw[e,sX hlt];intro hm;rcases tu.1 hm with h5|h5
 ·exact h.no h5
 ·have h6:=tj.1 h5;rw[List.getElem_drop]at h6;have e2:f+(i-f)=i:=by omega
  simp only[e2]at h6;exact hb h6.symm
theorem LnI.cut{t:List UInt8}{i f:Nat}{D:List (List UInt8)}(h:LnI t i f D)(hi:i<t.length)(hb:t[i]=10):LnI t (i+1) (i+1) (D++[(t.drop f).take (i-f)]):=by
 have hle:=h.le;have hsp:t.drop f=(t.drop f).take (i-f)++10::t.drop (i+1):=by
  conv=>lhs;rw[<-tf (i-f) (t.drop f)]
  rw[List.drop_drop,show f+(i-f)=i by omega,ta hi,hb]
 refine⟨?_,sJ _,by simp⟩;rw[h.eq,List.append_assoc]
 conv=>lhs;rw[hsp]
 rw[znP _ _ h.no];rfl
theorem LnI.done{t:List UInt8}{f:Nat}{D:List (List UInt8)}(h:LnI t t.length f D):ib t=D++[t.drop f]:=by have h5:=h.no;rw[te (by rw[tc];exact sJ _)]at h5;rw[h.eq,znO _ h5]
theorem LnI.len{t:List UInt8}{i f:Nat}{D:List (List UInt8)}(h:LnI t i f D):D.length<=t.length+1:=by have h5:=zbS t;rw[h.eq,sH]at h5;omega
set_option maxRecDepth 100000 in
theorem zgr(t:List UInt8)(w:sN)(hl:t.length<=1000000):
  sZ Tryz.prog 99 #[.string ⟨t.toArray⟩] w fun e w'=>∃v',e=.returned v'/\w'.ownsRow w.heap.size 9 1 v' (ib t).length (nms (ib t))/\sI w.heap.size w w':=by
 obtain⟨i0,hi9,hz0,hz1,hz2⟩:=td Tryz.infoStr;have HSZ:ae ((⟨t.toArray⟩:ByteArray).size=t.length):=aa (by show t.toArray.size=_;simp);obtain⟨N,hNE⟩:=aj w.heap.size;have HNE:=aa hNE;have HB0:ae (sI N w w):=aa (by rw[hNE];exact sL _ _);rw[<-hNE];clear hNE;go_enter Tryz.func99,Tryz.ntmps99;go_wp2;go_loopw [3,4,5] (fun x y z wr=>∃(i f m:Nat)(vo:Option Addr)(vc:Nat)(D:List (List UInt8)),x=.slice vo m vc/\y=.int .i64 (f:Int)/\z=.int .i64 (i:Int)/\i<=t.length/\f<=i/\ae (LnI t i f D)/\ae (m=D.length)/\ae (wr.ownsRow N 9 1 (.slice vo m vc) m (nms D))/\ae (sI N w wr)) (fun _ _ z _=>t.length-(sS z).toNat)
 case atStart=>exact⟨0,0,0,none,0,[],rfl,rfl,rfl,by omega,by omega,⟨rfl,by omega,by simp⟩,rfl,sW w N 9 1,HB0⟩
 case round=>
  obtain⟨i,f,m,vo,vc,D,rfl,rfl,rfl,hi,hf,HL,HM,HO,HB⟩:=hrel;have hwN:N<=wr.heap.size:=by have h5:=HNE.o;have h6:=HB.o.size;omega
  have hm1:m<=1000001:=by have h5:=HL.o.len;have h6:=HM.o;omega
  by_cases hlt:i<t.length
  ·have hszk:i<(⟨t.toArray⟩:ByteArray).size:=by rw[HSZ.o];exact hlt
   have i3:(i:Int)<(t.length:Int):=by omega
   have i4:(i:Int)<=(t.length:Int):=by omega
   have i0':(0:Int)<=(i:Int):=by omega
   have f0:(0:Int)<=(f:Int):=by omega
   have f1:(f:Int)<=(i:Int):=by omega
   have hq:(⟨t.toArray⟩:ByteArray)[i]'hszk=t[i]:=rfl;by_cases hb:t[i]=10
   ·have HLC:=aa (HL.o.cut hlt hb);have hb':((t[i].toNat:Int)==10)=true:=by rw[hb];rfl
    have HX:=aa (show(⟨t.toArray⟩:ByteArray).extract f i=⟨((t.drop f).take (i-f)).toArray⟩ by have h5:=zci t f (i-f);rw[show f+(i-f)=i by omega]at h5;exact h5);generalize t[i]=b at*;clear hb;go_wp2_with (at_builtin;refine sT _ rfl _ _ 66 rfl N 9 i0 (.string ⟨#[]⟩) 1 16 Tryz.underlying66 hi9 hz0 hz1 hz2 rfl (by decide) _ m (nms D) rfl (HO.o.alloc _) ⟨wr.heap.size,0,none⟩ 1 1 [.string ((⟨t.toArray⟩:ByteArray).extract f i)] rfl rfl (zgK wr ((⟨t.toArray⟩:ByteArray).extract f i) 9) (zbi _) (by decide) (by unfold ti;omega) (by omega) (by simp;omega) (wr.heap.size+1) (by simp) ?_;intro q2 c2 w2 o2 gr2 hl2 hlt2);have HB2:=aa ((HB.o.alloc hwN (.cells #[.string ((⟨t.toArray⟩:ByteArray).extract f i)] 9)).grown gr2 (by simp;omega) (fun k hk=>(HO.o.lt k hk).1));have HO2:ae (w2.ownsRow N 9 1 (.slice (some ⟨q2,0,none⟩) (m+1) c2) (m+1) (nms (D++[(t.drop f).take (i-f)]))):=aa (by rw[p7,<-HX.o];exact o2);clear o2 gr2 hl2 hlt2;go_roundw
    case rel=>exact⟨i+1,i+1,m+1,some ⟨q2,0,none⟩,c2,_,rfl,by go_num,by go_num,by omega,by omega,HLC,by show m+1=_;rw[sH,<-HM.o];rfl,HO2,HB2⟩
    case measure=>simp[sS];omega
   ·have HLC:=aa (HL.o.skip hlt hb);have hb':((t[i].toNat:Int)==10)=false:=beq_eq_false_iff_ne.2 (fun e=>hb (UInt8.toNat_inj.1 (show t[i].toNat=10 by omega)));generalize t[i]=b at*;clear hb;go_wp2;go_roundw
    case rel=>exact⟨i+1,f,m,vo,vc,D,rfl,rfl,by go_num,by omega,by omega,HLC,HM,HO,HB⟩
    case measure=>simp[sS];omega
  ·have hit:i=t.length:=by omega
   subst hit;have i3:¬(t.length:Int)<(t.length:Int):=by omega
   have f0:(0:Int)<=(f:Int):=by omega
   have f1:(f:Int)<=(t.length:Int):=by omega
   have HLD:=aa HL.o.done;have HX:ae ((⟨t.toArray⟩:ByteArray).extract f t.length=⟨(t.drop f).toArray⟩):=aa (ext_drop t f);go_wp2_with (at_builtin;refine sT _ rfl _ _ 66 rfl N 9 i0 (.string ⟨#[]⟩) 1 16 Tryz.underlying66 hi9 hz0 hz1 hz2 rfl (by decide) _ m (nms D) rfl (HO.o.alloc _) ⟨wr.heap.size,0,none⟩ 1 1 [.string ((⟨t.toArray⟩:ByteArray).extract f t.length)] rfl rfl (zgK wr ((⟨t.toArray⟩:ByteArray).extract f t.length) 9) (zbi _) (by decide) (by unfold ti;omega) (by omega) (by simp;omega) (wr.heap.size+1) (by simp) ?_;intro q2 c2 w2 o2 gr2 hl2 hlt2);have HB2:=aa ((HB.o.alloc hwN (.cells #[.string ((⟨t.toArray⟩:ByteArray).extract f t.length)] 9)).grown gr2 (by simp;omega) (fun k hk=>(HO.o.lt k hk).1));have HO2:ae (w2.ownsRow N 9 1 (.slice (some ⟨q2,0,none⟩) (m+1) c2) (m+1) (nms (D++[t.drop f]))):=aa (by rw[p7,<-HX.o];exact o2);clear o2 gr2 hl2 hlt2;go_ret;refine⟨_,rfl,?_,HB2.o⟩;rw[HLD.o,sH,<-HM.o];exact HO2.o
end Dc
namespace Dc
open Go.RowKit
theorem zrx(s b:List UInt8)(L:List Rg)(e:Int)(h:qZ s=some (b,L,e)):L.length<=s.length:=by
 unfold qZ at h;split at h
 ·injection h with h;injection h with _ h;injection h with h _;rw[<-h];have h5:=zbE ((s.take (fi 59 s)).map tbl);rw[tr,sO]at h5;omega
 ·cases h
theorem jc:∀(D:List (List Rg))(c:Nat),(D.getD c []).length<=fK D
 |[],c=>by simp[fK]
 |l::D,0=>by show l.length<=l.length+fK D;omega
 |l::D,c+1=>by have:=jc D c;show(D.getD c []).length<=l.length+fK D;omega
theorem zhU:∀(D E:List (List Rg)),fK (D++E)=fK D+fK E
 |[],E=>by simp[fK]
 |l::D,E=>by show l.length+fK (D++E)=l.length+fK D+fK E;rw[zhU D E];omega
theorem zqr(D:List (List Rg))(x:List Rg)(h:x∈D):x.length<=fK D:=by obtain⟨k,hk⟩:=List.mem_iff_getElem?.1 h;have h5:=jc D k;rw[sE,hk]at h5;exact h5
theorem zdD:∀(D:List (List Rg)),D.flatten.length=fK D
 |[]=>rfl
 |l::D=>by rw[List.flatten_cons,sH,zdD D];rfl
theorem zmD(D:List (List Rg)):(D.drop 1).flatten.length<=fK D:=by
 rw[zdD];cases D with
 |nil=>exact sJ _
 |cons l D=>show fK D<=l.length+fK D;omega
theorem zix(a b:List Rg):(nE a b).length<=a.length+b.length:=by unfold nE;have h:=zbK (a++b);rw[sH]at h;exact h
theorem zrC(U:List (List UInt8))(D:List (List Rg))(b:List UInt8)(L:List Rg):fK (dcN U D b L).2.2<=fK D+L.length:=by
 unfold dcN;split
 ·show fK D<=_;omega
 ·split
  ·show fK D<=_;omega
  ·dsimp only;split
   ·have h1:=zhT D (U.idxOf b) (nE (D.getD (U.idxOf b) []) L);have h2:=zix (D.getD (U.idxOf b) []) L;have h3:=jc D (U.idxOf b);omega
   ·rw[zhU];have h2:=zix [] L;show fK D+((nE [] L).length+0)<=_;simp only[List.length_nil]at h2;omega
theorem zrB(U:List (List UInt8))(D:List (List Rg))(l:List UInt8):fK (dcS U D l).2.2<=fK D+l.length:=by
 rw[zsN];split
 ·show fK D<=_;omega
 ·have h5:=zec l;cases h:qZ (cE l)with
  |none=>show fK D<=_;omega
  |some x=>
   obtain⟨b,L,e⟩:=x;have h6:=zrx _ b L e h;dsimp only[dcO];split
   ·show fK D<=_;omega
   ·split
    ·show fK D<=_;omega
    ·have h7:=zrC U D b L;omega
theorem zkr(L:List (List UInt8))(k:Nat)(x:List UInt8)(h:L[k]?=some x):kX (L.drop k)=x.length+kX (L.drop (k+1)):=by obtain⟨hk,rfl⟩:=sK.1 h;rw[ta hk];rfl
theorem zwr(w:sN)(a b c:Obj)(w':sN)(h:w'=((w.alloc a).alloc b).alloc c):w'.heap[w.heap.size]?=some a/\w'.heap[w.heap.size+1]?=some b/\w'.heap[w.heap.size+2]?=some c/\w'.heap.size=w.heap.size+3:=by
 subst h;refine⟨?_,?_,?_,by simp⟩
 ·rw[cD _ _ _ (by simp;omega),cD _ _ _ (by simp),heap_alloc_new]
 ·rw[cD _ _ _ (by simp)];have h5:=heap_alloc_new (w.alloc a) b;rw[sM]at h5;exact h5
 ·have h5:=heap_alloc_new ((w.alloc a).alloc b) c;rw[sM,sM]at h5;exact h5
theorem zlc(w:sN):bg w.heap.size (w.heap.size+2) [oth] [[]] (.slice (some ⟨w.heap.size,0,none⟩) 1 1) (.slice (some ⟨w.heap.size+1,0,none⟩) 1 1) [.slice none 0 0]
  (((w.alloc (.cells #[.string ⟨#[79,116,104,101,114]⟩] 9)).alloc (.cells #[.slice none 0 0] 125)).alloc (.cells #[.slice (some ⟨w.heap.size,0,none⟩) 1 1,.slice (some ⟨w.heap.size+1,0,none⟩) 1 1] 91)):=by
 obtain⟨h0,h1,h2,_⟩:=zwr w (.cells #[.string ⟨#[79,116,104,101,114]⟩] 9) (.cells #[.slice none 0 0] 125) (.cells #[.slice (some ⟨w.heap.size,0,none⟩) 1 1,.slice (some ⟨w.heap.size+1,0,none⟩) 1 1] 91) _ rfl;refine⟨h2,⟨rfl,.inr ⟨w.heap.size,1,_,rfl,sJ _,h0,sJ _,by unfold ti;omega,rfl,rfl⟩⟩,⟨rfl,.inr ⟨w.heap.size+1,1,_,rfl,by omega,h1,sJ _,by unfold ti;omega,rfl,rfl⟩⟩,fun k l hk=>?_,by omega⟩;have hk0:k=0:=by have h5:=(sK.1 hk).1;simp at h5;omega
 subst hk0;cases hk;exact⟨_,rfl,sW _ _ _ _⟩
theorem zqX:∀l:List UInt8,1<=(ib l).length
 |[]=>by simp[ib]
 |b::l=>by rw[eO];split<;>simp
set_option maxRecDepth 100000 in
theorem znf(t:List UInt8)(w:sN)(ht:t.length<=12000\/65536<t.length):
  sZ Tryz.prog 69 #[.string ⟨t.toArray⟩] w fun e w'=>sI w.heap.size w w'∧
   (((nw t).1.1≠0/\e=.returned (.tuple #[.pointer none,.int .i64 (nw t).1.1,.int .i64 ((nw t).1.2:Int)]))∨
   ((nw t).1.1=0/\∃Q nv sv vs,e=.returned (.tuple #[.pointer (some ⟨Q,0,none⟩),.int .i64 0,.int .i64 0])/\bg w.heap.size Q (nw t).2.1 (dst (nw t).2.1.length (whl (nw t).2.2)) nv sv vs w')):=by
 have HSZ:ae ((⟨t.toArray⟩:ByteArray).size=t.length):=aa (by show t.toArray.size=_;simp);by_cases hlong:65536<t.length
 ·have HNW:ae (nw t=((1,0),[oth],[])):=aa (by unfold nw;rw[if_pos hlong]);have hl':(65536:Int)<(t.length:Int):=by omega
  rw[HNW.o];clear hlong ht;go_enter Tryz.func69,Tryz.ntmps69;go_wp2;go_ret3;exact⟨sL _ _,.inl ⟨by decide,rfl⟩⟩
 ·have HNW:ae (nw t=nwF 0 [oth] [] (ib t)):=aa (by unfold nw;rw[if_neg hlong]);have hl':¬(65536:Int)<(t.length:Int):=by omega
  have htl:t.length<=12000:=by omega
  obtain⟨N,hN⟩:=aj w.heap.size;have HN:=aa hN;obtain⟨W3,hW3⟩:=aj (((w.alloc (.cells #[.string ⟨#[79,116,104,101,114]⟩] 9)).alloc (.cells #[.slice none 0 0] 125)).alloc (.cells #[.slice (some ⟨w.heap.size,0,none⟩) 1 1,.slice (some ⟨w.heap.size+1,0,none⟩) 1 1] 91));have HW3:=aa hW3;have HD3:ae (bg N (N+2) [oth] [[]] (.slice (some ⟨N,0,none⟩) 1 1) (.slice (some ⟨N+1,0,none⟩) 1 1) [.slice none 0 0] W3):=aa (by rw[hW3,hN];exact zlc w);have HB3:ae (sI N w W3):=aa (by rw[hW3,hN];exact(((sL _ w).alloc (sJ _) _).alloc (by simp) _).alloc (by simp;omega) _);have hs3:W3.heap.size=N+3:=by rw[hW3,hN];simp
  have HLI:=aa (zgr t W3 (by omega));obtain⟨L,hL⟩:=aj (ib t);have HLP:ae (1<=L.length):=aa (by rw[hL];exact zqX t);have hLL:L.length<=12001:=by rw[hL];have h5:=zbS t;omega
  have HLM:ae (∀x∈L,x.length<=t.length):=aa (by rw[hL];exact oI t);have HSU:ae (kX L<=t.length):=aa (by rw[hL];exact zia t);rw[<-hL]at HLI HNW;clear hlong ht hN hW3 hL;go_enter Tryz.func69,Tryz.ntmps69;go_wp2_with fail;rw[<-HW3.o];refine HLI.o.mono ?_;rintro e w4 ⟨lv,rfl,o4,b4⟩;have HD4:=aa (HD3.o.below b4);have HB4:ae (sI N w w4):=aa (HB3.o.trans (b4.mono (by omega)));have hs4:=b4.size;obtain⟨lo,lc,rfl,_⟩:=ll o4 rfl;have HO4:=aa o4;obtain⟨n,hn⟩:=aj L.length;have HNL:=aa hn;rw[<-hn]at HO4 hLL⊢;rw[<-HN.o];clear o4 b4 HLI HW3 HD3 HB3 hn;go_wp2;go_loopw [7,8] (fun x _ wr=>∃(k:Nat)(U:List (List UInt8))(S:List Tr)(D:List (List Rg))(nv sv:sU)(vs:List sU),x=.int .i64 (k:Int)/\k<=n/\ae (nw t=nwF k U S (L.drop k))/\ae (zly U S D)/\ae (fK D+kX (L.drop k)<=t.length)/\ae (bg N (N+2) U D nv sv vs wr)/\ae (wr.ownsRow W3.heap.size 9 1 (.slice lo n lc) n (nms L))/\ae (∀y,(sV lo n lc).ownBlock=some y->nv.ownBlock≠some y)/\ae (sI N w wr)) (fun x _ _=>n-(sS x).toNat)
  case atStart=>
   refine⟨0,[oth],[],[[]],_,_,_,rfl,by omega,HNW,zho,by show 0+0+kX L<=t.length;have h5:=HSU.o;omega,HD4,HO4,fun y hy he=>?_,HB4⟩;have h5:=(HO4.o.lt y hy).1;have e2:N=y:=by simpa[sU.ownBlock]using he
   omega
  case round=>
   obtain⟨k,U,S,D,nv,sv,vs,rfl,hk,HE,HBO,HTO,HDO,HOR,HNE,HBr⟩:=hrel;have hwr:=HBr.o.size;have hNr:N<=wr.heap.size:=by have h5:=HN.o;omega
   by_cases hlt:k<n
   ·have hkL:k<L.length:=by have h5:=HNL.o;omega
    have i3:(k:Int)<(n:Int):=by omega
    have i0':(0:Int)<=(k:Int):=by omega
    obtain⟨lo',lc',e',hrn⟩:=ll HOR.o HNL.o;cases e';obtain⟨a,rfl,ha,a0⟩:=hrn k L[k] (sD hkL);have HAT:=aa (zuH k U S L k L[k] (sD hkL));have HSD:=aa (zkr L k L[k] (sD hkL));have hxl:=HLM.o L[k] (sP hkL);obtain⟨x,hx⟩:=aj (L[k]);rw[<-hx]at a0 HAT HSD hxl;have HTS:=aa (zrB U D x);obtain⟨q1,q2⟩:=zxd U S D x HBO.o;have hU0:1<=U.length:=(sK.1 HBO.o.good.1).1;have HLN:=aa (zkA N (N+2) U D nv sv vs x wr HDO.o hNr (by omega) HBO.o.len hU0 HBO.o.rel.1 (fun y hy=>by have h5:=zqr D y hy;have h6:=HTO.o;omega));have HQ2:=aa q2;have HQ1:=aa q1;rw[q1]at HLN;clear q1 q2 hrn hx hkL;obtain⟨er,her⟩:=aj ((rC U S x).1);have HER:=aa her;rw[<-her]at HLN HQ2 HAT;clear her;by_cases he:er=0
    ·have HN5:ae (nw t=_):=aa (by rw[HE.o,HAT.o,if_pos he]);obtain⟨HU2,HB2⟩:=HQ2.o he;rw[HU2]at HLN;subst he;go_wp2_with fail;refine HLN.o.mono ?_;rintro e w5 ⟨rfl,b5,hok⟩;obtain⟨nv',sv',vs',d5,f5⟩:=hok (by first|rfl|trivial);have HD5:=aa d5;have HB5:=aa (HBr.o.trans b5);have HO5:=aa (cy HOR.o (fun y hy=>f5.st y (HOR.o.lt y hy).2 (fun e=>by subst e;exact bj HOR.o _ _ 91 HDO.o.hQ (by decide) hy) (HNE.o y hy) (fun cs f e=>by obtain⟨c,hc⟩:=jh HOR.o hy;rw[hc]at e;cases e)));have HN6:ae (∀y,(sV (some a) n lc).ownBlock=some y->nv'.ownBlock≠some y):=aa (fun y hy he=>by
      rcases f5.nw y he with h5|h5
      ·exact HNE.o y hy h5
      ·have h6:=(HOR.o.lt y hy).2;omega)
     have HB3:=aa HB2;have HT5:ae (fK (dcS U D x).2.2+kX (L.drop (k+1))<=t.length):=aa (by have h5:=HTO.o;have h6:=HSD.o;have h7:=HTS.o;omega);clear hok d5 f5 b5 HLN HAT;go_wp2;go_roundw
     case rel=>exact⟨k+1,_,_,_,nv',sv',vs',by go_num,by omega,HN5,HB3,HT5,HD5,HO5,HN6,HB5⟩
     case measure=>simp[sS];omega
    ·have HN5:ae (nw t=((er,k+1),U,S)):=aa (by rw[HE.o,HAT.o,if_neg he]);have he':(er != 0)=true:=bne_iff_ne.2 he;have HNZ:=aa he;clear he;go_wp2_with fail;refine HLN.o.mono ?_;rintro e w5 ⟨rfl,b5,hok⟩;have HB5:=aa (HBr.o.trans b5);clear hok b5 HLN HAT;go_wp2;go_ret3;rw[HN5.o];exact⟨by rw[<-HN.o];exact HB5.o,.inl ⟨HNZ.o,by go_num⟩⟩
   ·have i3:¬(k:Int)<(n:Int):=by omega
    have HN5:ae (nw t=((0,0),U,S)):=aa (by rw[HE.o,List.drop_of_length_le (by have h5:=HNL.o;omega)];rfl);have hU0:1<=U.length:=(sK.1 HBO.o.good.1).1;have hDU:=HBO.o.rel.1;have hU64:=HBO.o.len;obtain⟨g1,g2,g3,g4⟩:=zlI U S HBO.o.good HBO.o.rs;have HFI:=aa (zoY U.length S D hU0 HBO.o.rs HBO.o.good.2 g1 g2 HBO.o.rel);have HRE:=aa (zkw N (N+2) U D nv sv vs wr HDO.o hNr (by omega) (by omega) (by have h5:=zmD D;have h6:=HTO.o;omega));rw[HFI.o]at HRE;clear g1 g2 g3 g4 HFI hDU;go_wp2_with fail;refine HRE.o.mono ?_;rintro e w5 ⟨rfl,b5,sv',vs',d5⟩;have HD5:=aa d5;have HB5:=aa (HBr.o.trans b5);clear d5 b5 HRE;go_wp2;go_ret3;rw[HN5.o];exact⟨by rw[<-HN.o];exact HB5.o,.inr ⟨rfl,N+2,nv,sv',vs',by go_num,by rw[<-HN.o];exact HD5.o⟩⟩
end Dc
namespace Dc
open Go.RowKit
theorem zop(A:List Tr)(n:Nat)(hC:nT 0 A 1114112)(hc:∀g∈A,g.2.2<n)(r:Int)(h0:0<=r)(h1:r<=1114111):gtp r A<n:=by obtain⟨g,hg,h3,h4⟩:=zcr A 0 1114112 r hC (by omega) (by omega);rw[mR A 0 _ r g hC hg h3 h4];exact hc g hg
theorem zoa(r:Int):0<=cQ r/\cQ r<=1114111:=by unfold cQ;split<;>omega
set_option maxRecDepth 100000 in
theorem zed(B Q n:Nat)(U:List (List UInt8))(A:List Tr)(nv sv:sU)(vs:List sU)(r:Int)(w:sN)(h:bg B Q U (dst n A) nv sv vs w)(hC:nT 0 A 1114112)(hc:∀g∈A,g.2.2<n)(hn:n<=1000)(hl:A.length<=10000000):
  sZ Tryz.prog 91 #[.pointer (some ⟨Q,0,none⟩),.int .i32 r] w fun e w'=>e=.returned (.int .i64 (gtp (cQ r) A:Nat))/\w'=w:=by
 obtain⟨i1,i2⟩:=zoa r;have HAS:=aa (fun k:Nat=>zrj A hC (cQ r) k i1 i2);have HGN:=aa (zop A n hC hc (cQ r) i1 i2);obtain⟨G,hG⟩:=aj (gtp (cQ r) A);rw[<-hG]at HAS HGN⊢;have hn1:1<=n:=by have h5:=HGN.o;omega
 obtain⟨so,sc,rfl,hrd⟩:=h.rd;have HRD:=aa hrd;have c1:=h.c1;rw[zjj]at c1;clear h hrd hG i1 i2 hC hc;by_cases h1:r<0
 ·have HI:ae (cQ r=65533):=aa (by unfold cQ;rw[if_pos (.inl h1)]);rw[HI.o]at HAS;clear HI;go_enter Tryz.func91,Tryz.ntmps91;go_wp2;go_loopw [5] (fun x wr=>∃k:Nat,1<=k/\k<=n/\x=.int .i64 (k:Int)/\ae (∀j,1<=j->j<k->G≠j)/\wr=w) (fun x _=>n-(sS x).toNat)
  case atStart=>exact⟨1,by omega,by omega,rfl,fun j h1 h2=>by omega,rfl⟩
  case round=>
   obtain⟨k,hk1,hk,rfl,HJ,hw⟩:=hrel;subst hw;by_cases hlt:k<n
   ·have i3:(k:Int)<(n:Int):=by omega
    have i0':(0:Int)<=(k:Int):=by omega
    obtain⟨a,rfl,ha,ao,ac,a0,hra,_⟩:=HRD.o k (jF (k:Int) A) (zco n A k hlt);have HH:=aa (pM ao ac (jF (k:Int) A) 65533 wr hra (by have h5:=zbk (k:Int) A;omega));rw[HAS.o k]at HH;generalize (jF (k:Int) A).length=nx at*;by_cases hG:G=k
    ·rw[decide_eq_true hG]at HH;have HG:=aa hG;clear hG hra;go_wp2_with fail;refine HH.o.mono ?_;rintro e w2 ⟨rfl,hw⟩;obtain rfl:=hw.symm;clear HH;go_wp2;go_ret;exact⟨by rw[HG.o];rfl,rfl⟩
    ·rw[decide_eq_false hG]at HH;have HZ:ae (∀j,1<=j->j<k+1->G≠j):=aa (fun j h1 h2=>by
      by_cases h5:j<k
      ·exact HJ.o j h1 h5
      ·have h6:j=k:=by omega
       rw[h6];exact hG)
     clear hG hra;go_wp2_with fail;refine HH.o.mono ?_;rintro e w2 ⟨rfl,hw⟩;obtain rfl:=hw.symm;clear HH;go_wp2;go_roundw
     case rel=>exact⟨k+1,by omega,by omega,by go_num,HZ,trivial⟩
     case measure=>simp[sS];omega
   ·have i3:¬(k:Int)<(n:Int):=by omega
    have HG:=aa (show G=0 by apply sR;intro h5;exact HJ.o G (by omega) (by have h6:=HGN.o;omega) rfl);go_wp2;go_ret;exact⟨by rw[HG.o];rfl,rfl⟩
 by_cases h2:1114111<r
 ·have HI:ae (cQ r=65533):=aa (by unfold cQ;rw[if_pos (.inr h2)]);rw[HI.o]at HAS;clear HI;go_enter Tryz.func91,Tryz.ntmps91;go_wp2;go_loopw [5] (fun x wr=>∃k:Nat,1<=k/\k<=n/\x=.int .i64 (k:Int)/\ae (∀j,1<=j->j<k->G≠j)/\wr=w) (fun x _=>n-(sS x).toNat)
  case atStart=>exact⟨1,by omega,by omega,rfl,fun j h1 h2=>by omega,rfl⟩
  case round=>
   obtain⟨k,hk1,hk,rfl,HJ,hw⟩:=hrel;subst hw;by_cases hlt:k<n
   ·have i3:(k:Int)<(n:Int):=by omega
    have i0':(0:Int)<=(k:Int):=by omega
    obtain⟨a,rfl,ha,ao,ac,a0,hra,_⟩:=HRD.o k (jF (k:Int) A) (zco n A k hlt);have HH:=aa (pM ao ac (jF (k:Int) A) 65533 wr hra (by have h5:=zbk (k:Int) A;omega));rw[HAS.o k]at HH;generalize (jF (k:Int) A).length=nx at*;by_cases hG:G=k
    ·rw[decide_eq_true hG]at HH;have HG:=aa hG;clear hG hra;go_wp2_with fail;refine HH.o.mono ?_;rintro e w2 ⟨rfl,hw⟩;obtain rfl:=hw.symm;clear HH;go_wp2;go_ret;exact⟨by rw[HG.o];rfl,rfl⟩
    ·rw[decide_eq_false hG]at HH;have HZ:ae (∀j,1<=j->j<k+1->G≠j):=aa (fun j h1 h2=>by
      by_cases h5:j<k
      ·exact HJ.o j h1 h5
      ·have h6:j=k:=by omega
       rw[h6];exact hG)
     clear hG hra;go_wp2_with fail;refine HH.o.mono ?_;rintro e w2 ⟨rfl,hw⟩;obtain rfl:=hw.symm;clear HH;go_wp2;go_roundw
     case rel=>exact⟨k+1,by omega,by omega,by go_num,HZ,trivial⟩
     case measure=>simp[sS];omega
   ·have i3:¬(k:Int)<(n:Int):=by omega
    have HG:=aa (show G=0 by apply sR;intro h5;exact HJ.o G (by omega) (by have h6:=HGN.o;omega) rfl);go_wp2;go_ret;exact⟨by rw[HG.o];rfl,rfl⟩
 ·have HI:ae (cQ r=r):=aa (by unfold cQ;rw[if_neg (by omega)]);rw[HI.o]at HAS;clear HI;go_enter Tryz.func91,Tryz.ntmps91;go_wp2;go_loopw [5] (fun x wr=>∃k:Nat,1<=k/\k<=n/\x=.int .i64 (k:Int)/\ae (∀j,1<=j->j<k->G≠j)/\wr=w) (fun x _=>n-(sS x).toNat)
  case atStart=>exact⟨1,by omega,by omega,rfl,fun j h1 h2=>by omega,rfl⟩
  case round=>
   obtain⟨k,hk1,hk,rfl,HJ,hw⟩:=hrel;subst hw;by_cases hlt:k<n
   ·have i3:(k:Int)<(n:Int):=by omega
    have i0':(0:Int)<=(k:Int):=by omega
    obtain⟨a,rfl,ha,ao,ac,a0,hra,_⟩:=HRD.o k (jF (k:Int) A) (zco n A k hlt);have HH:=aa (pM ao ac (jF (k:Int) A) r wr hra (by have h5:=zbk (k:Int) A;omega));rw[HAS.o k]at HH;generalize (jF (k:Int) A).length=nx at*;by_cases hG:G=k
    ·rw[decide_eq_true hG]at HH;have HG:=aa hG;clear hG hra;go_wp2_with fail;refine HH.o.mono ?_;rintro e w2 ⟨rfl,hw⟩;obtain rfl:=hw.symm;clear HH;go_wp2;go_ret;exact⟨by rw[HG.o];rfl,rfl⟩
    ·rw[decide_eq_false hG]at HH;have HZ:ae (∀j,1<=j->j<k+1->G≠j):=aa (fun j h1 h2=>by
      by_cases h5:j<k
      ·exact HJ.o j h1 h5
      ·have h6:j=k:=by omega
       rw[h6];exact hG)
     clear hG hra;go_wp2_with fail;refine HH.o.mono ?_;rintro e w2 ⟨rfl,hw⟩;obtain rfl:=hw.symm;clear HH;go_wp2;go_roundw
     case rel=>exact⟨k+1,by omega,by omega,by go_num,HZ,trivial⟩
     case measure=>simp[sS];omega
   ·have i3:¬(k:Int)<(n:Int):=by omega
    have HG:=aa (show G=0 by apply sR;intro h5;exact HJ.o G (by omega) (by have h6:=HGN.o;omega) rfl);go_wp2;go_ret;exact⟨by rw[HG.o];rfl,rfl⟩
end Dc
namespace Dc
def chn(d:Int)(r:Int):List (Int×Int×Int)->Int
 |[]=>d
 |g::L=>if g.1<=r/\r<=g.2.1 then g.2.2 else chn d r L
def okc(c d:Int):Int->Int->List (Int×Int×Int)->Bool
 |_,_,[]=>d==c
 |lo,hi,g::L=>if hi<g.1\/g.2.1<lo then okc c d lo hi L else (g.2.2==c)&&(decide (g.1<=lo)||okc c d lo (g.1-1) L)&&(decide (hi<=g.2.1)||okc c d (g.2.1+1) hi L)
theorem jr(c d r:Int):∀(L:List (Int×Int×Int))(lo hi:Int),lo<=r->r<=hi->okc c d lo hi L=true->chn d r L=c
 |[],_,_,_,_,h=>by show d=c;simpa[okc]using h
 |g::L,lo,hi,h1,h2,h=>by
  unfold okc at h;unfold chn;split at h
  ·rw[if_neg (by omega)];exact jr c d r L lo hi h1 h2 h
  ·rw[sQ,sQ]at h;by_cases c1:g.1<=r/\r<=g.2.1
   ·rw[if_pos c1];exact eq_of_beq h.1.1
   ·rw[if_neg c1];by_cases c2:r<g.1
    ·rcases sY.1 h.1.2 with h5|h5
     ·have h6:=of_decide_eq_true h5;omega
     ·exact jr c d r L _ _ h1 (by omega) h5
    ·rcases sY.1 h.2 with h5|h5
     ·have h6:=of_decide_eq_true h5;omega
     ·exact jr c d r L _ _ (by omega) h2 h5
def chk(L:List (Int×Int×Int))(d a b:Int):Int->List Tr->Bool
 |nx,[]=>decide (b<nx)
 |nx,g::R=>(decide (min (g.2.1:Int) b<max nx a)||okc (g.2.2:Int) d (max nx a) (min (g.2.1:Int) b) L)&&chk L d a b ((g.2.1:Int)+1) R
theorem dp(L:List (Int×Int×Int))(d a b r:Int)(h1:a<=r)(h2:r<=b):∀(A:List Tr)(nx:Int),nx<=r->chk L d a b nx A=true->chn d r L=(gtp r A:Int)
 |[],nx,hn,h=>by unfold chk at h;have h5:=of_decide_eq_true h;omega
 |g::R,nx,hn,h=>by
  unfold chk at h;rw[sQ]at h;unfold gtp;by_cases hc:(g.2.1:Int)<r
  ·rw[if_pos hc];exact dp L d a b r h1 h2 R _ (by omega) h.2
  ·rw[if_neg hc];rcases sY.1 h.1 with h5|h5
   ·have h6:=of_decide_eq_true h5;omega
   ·exact jr _ d r L _ _ (by omega) (by omega) h5
theorem zcl(r a:Int):(r=a)=(a<=r/\r<=a):=propext ⟨fun h=>by omega,fun h=>by omega⟩
def zrH:Nat->List Tr->Nat->Bool
 |a,[],b=>a==b
 |a,g::R,b=>(g.1==a)&&decide (g.1<=g.2.1)&&zrH (g.2.1+1) R b
theorem qF:∀(A:List Tr)(a b:Nat),zrH a A b=true->nT a A b
 |[],a,b,h=>by unfold zrH at h;exact eq_of_beq h
 |g::R,a,b,h=>by unfold zrH at h;rw[sQ,sQ]at h;exact⟨eq_of_beq h.1.1,of_decide_eq_true h.1.2,qF R _ _ h.2⟩
def clsB(n:Nat)(A:List Tr):Bool:=A.all fun g=>decide (g.2.2<n)
theorem zhl{n:Nat}{A:List Tr}(h:clsB n A=true):∀g∈A,g.2.2<n:=fun g hg=>of_decide_eq_true (List.all_eq_true.1 h g hg)
end Dc
namespace Dc
open Go.RowKit
def Bk(U:List (List UInt8))(A:List Tr)(Q:Nat)(w:sN):Prop:=∃B nv sv vs,bg B Q U (dst U.length A) nv sv vs w
theorem Bk.below{U:List (List UInt8)}{A:List Tr}{Q:Nat}{w w':sN}(h:Bk U A Q w)(hb:sI w.heap.size w w'):Bk U A Q w':=by obtain⟨B,nv,sv,vs,h⟩:=h;exact⟨B,nv,sv,vs,h.below hb⟩
theorem Bk.names{U:List (List UInt8)}{A:List Tr}{Q:Nat}{w:sN}(h:Bk U A Q w)(k:Nat)(b:List UInt8)(hk:U[k]?=some b):∃a ac,w.cell? ⟨Q,0,none⟩=some (.slice (some a) U.length ac)/\w.cell? (a.add k)=some (.string ⟨b.toArray⟩):=by obtain⟨B,nv,sv,vs,h⟩:=h;obtain⟨ao,ac,rfl,hr⟩:=ll h.hN rfl;obtain⟨a,rfl,_,h2⟩:=hr k b hk;exact⟨a,ac,h.c0,h2⟩
theorem zis(s:ByteArray)(t:List UInt8)(w:sN)(hs:s=⟨t.toArray⟩)(ht:t.length<=12000\/65536<t.length)(U:List (List UInt8))(S:List Tr)(W:List Tr)(hn:nw t=((0,0),U,S))(hw:whl S=W):
  sZ Tryz.prog 69 #[.string s] w fun e w'=>sI w.heap.size w w'/\∃Q,e=.returned (.tuple #[.pointer (some ⟨Q,0,none⟩),.int .i64 0,.int .i64 0])/\Bk U W Q w':=by
 subst hs;refine(znf t w ht).mono ?_;rintro e w' ⟨hb,h⟩;rw[hn,hw]at h;refine⟨hb,?_⟩;rcases h with ⟨h1,_⟩|⟨_,Q,nv,sv,vs,h1,h2⟩
 ·exact absurd rfl h1
 ·exact⟨Q,h1,_,nv,sv,vs,h2⟩
end Dc
end Go.Proofs.YtbbapnpdfcgjnaaGreatDoor
