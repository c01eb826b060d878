/- DcE, DbMath, DbBk: parts of the proof, joined. -/
import Derived.Test.YtbbapnpdfcgjnaaGreatDoorMMix
import Derived.Test.YtbbapnpdfcgjnaaGreatDoorMDcD
open List renaming getElem?_eq_getElem->sD, getD_eq_getElem?_getD->sE, setIfInBounds_toArray->sG, length_append->sH, getElem?_eq_some_iff->sK, length_take->sO, getElem_mem->sP, take_succ_eq_append_getElem->sX, drop_eq_getElem_cons->ta, length_drop->tb, take_of_length_le->td, take_append_drop->te, mem_singleton->ti, length_map->tp, mem_append->tq, mem_range->tr
open Go.RowKit renaming Below->sI, intOf->sS
open Nat renaming le_refl->sJ, sub_self->tu
open Go.RowKit.Below renaming refl->sL
open Go.World renaming size_alloc->sM, ownsRow_nil->sW, setCell->tt
open Go renaming World->sN, wpList_append_lies->sT, Value->sU, Calls->sZ, info_parts->tc, maxLen->tg, wpList_append_own->tm
open Bool renaming and_eq_true->sQ, or_eq_true_iff->sY
open Classical renaming byContradiction->sR
open Go.Value renaming slice->sV
set_option maxHeartbeats 64000000
namespace Go.Proofs.YtbbapnpdfcgjnaaGreatDoor
namespace Dc
open Go.RowKit
theorem Tryz.infoLRange:(Tryz.prog.info? 125).map (fun i=>(i.zero,i.size,i.bytes))=some (some (.slice none 0 0),1,24):=by kernel_rfl
theorem zch (s:ByteArray) (l m:List UInt8) (hm:m=ss l) (w:sN) (hs:s=⟨l.toArray⟩) (hl:l.length<=1000000000):
  sZ Tryz.prog 133 #[.string s] w fun e w'=>e= .returned (.string ⟨m.toArray⟩)/\w'=w:=by
 subst hs hm;exact zkW l w (by omega)
theorem ziY (s:ByteArray) (l r:List UInt8) (hr:r=l.map tbl) (w:sN) (hs:s=⟨l.toArray⟩) (hl:l.length<=100000):
  sZ Tryz.prog 136 #[.string s] w fun e w'=>e= .returned (.string ⟨r.toArray⟩)/\sI w.heap.size w w':=by
 subst hs hr;exact zfs l w (by omega)
theorem zfO (w:sN) (b:sU) (T:TypeId):∀j u,[b][j]? =some u->(w.alloc (.cells #[b] T)).cell? ((⟨w.heap.size,0,none⟩:Addr).add j)=some u:=sN.news_of_block (cs:=#[b]) (heap_alloc_new w _)
theorem zqj (w:sN) (H:Nat) (hH:w.heap.size=H) (b:sU) (T:TypeId):∀j u,[b][j]? =some u->(w.alloc (.cells #[b] T)).cell? ((⟨H,0,none⟩:Addr).add j)=some u:=by
 subst hH;exact zfO w b T
theorem zfp (b:sU) (h:b.oneCell'=true:=by rfl):∀v∈ [b],v.oneCell'=true:=fun v hv=>by
 simp at hv;subst hv;exact h
theorem hsw {B Q n sc:Nat} {U:List (List UInt8)} {D:List (List Rg)} {nv:sU} {so:Option Addr} {vs:List sU} {w:sN} (h:aX B Q U D nv (.slice so n sc) vs w) (hn:n=D.length):w.ownsRow B 125 1 (.slice so n sc) n vs:=by
 have h5:=h.hS;rw[<- hn] at h5;exact h5
theorem hsz4 {B:Nat} {w w':sN} {o:Obj} (h:w.heap.size<=w'.heap.size) (hB:B<=w.heap.size):B<=(w'.alloc o).heap.size:=by
 rw[sM];omega
theorem hq6 {B Q n sc:Nat} {U:List (List UInt8)} {D:List (List Rg)} {nv:sU} {so:Option Addr} {vs:List sU} {w w2:sN} {o:Obj} (h:aX B Q U D nv (.slice so n sc) vs w) (gr:(w.alloc o).grownBy w2 (sV so n sc).ownBlock):w2.cell? ⟨Q,1,none⟩=some (.slice so n sc)/\w2.frozen? ⟨Q,1,none⟩=false:=by
 have hQ2:w2.heap[Q]? =some (.cells #[nv,.slice so n sc] 91 (0,0)):=(gr.block Q (by rw[sM];have h5:=aK h.hQ;omega) (fun e=>aY h.hS Q _ 91 h.hQ (by decide) e.symm)).trans ((cC w _ Q (aK h.hQ)).trans h.hQ)
 exact⟨cell_row w2 Q 1 [_,_] 91 _ hQ2 rfl,frozen_row hQ2 1⟩
theorem znQ {B Q n sc q2 c2:Nat} {U:List (List UInt8)} {D:List (List Rg)} {nv:sU} {so:Option Addr} {vs:List sU} {w w2:sN} {o:Obj} (h:aX B Q U D nv (.slice so n sc) vs w) (hn:n=D.length) (o2:w2.ownsRow B 125 1 (.slice (some ⟨q2,0,none⟩) (n+1) c2) (n+1) (vs++[.slice none 0 0])) (gr:(w.alloc o).grownBy w2 (sV so n sc).ownBlock):
  aX B Q U (D++[[]]) nv (.slice (some ⟨q2,0,none⟩) (n+1) c2) (vs++[.slice none 0 0]) (w2.setCell ⟨Q,1,none⟩ (.slice (some ⟨q2,0,none⟩) (n+1) c2))/\gf Q nv nv w (w2.setCell ⟨Q,1,none⟩ (.slice (some ⟨q2,0,none⟩) (n+1) c2))/\sI B w (w2.setCell ⟨Q,1,none⟩ (.slice (some ⟨q2,0,none⟩) (n+1) c2)):=by
 obtain⟨r1,r2,r3⟩:=h.grown hn ((sL _ w).alloc (sJ _) o) o2 gr;exact⟨r1,r2,((sL B w).alloc (by have h5:=aK h.hQ;have h6:=h.bQ;omega) _).trans r3⟩
theorem zwb {B Q:Nat} {U:List (List UInt8)} {D:List (List Rg)} {nv nv' sv:sU} {vs:List sU} {w w':sN} (h:aX B Q U D nv sv vs w) (hf:gf Q nv nv' w w') {B' s n:Nat} {v:sU} {xs:List sU} (hr:w.ownsRow B' 146 s v n xs):w'.ownsRow B' 146 s v n xs:=
 cw hr (fun b hb=>hf.st b (hr.lt b hb).2 (fun e=>by subst e;exact aY hr b _ 91 h.hQ (by decide) hb) (fun e=>oD h.hN hr (by decide) e hb) (fun cs f e=>by obtain⟨c,hc⟩:=iS hr hb;rw[hc] at e;cases e))
theorem zvD (l:List UInt8) (h:¬(lH l).2<0):(lH l).2.toNat<(l.take (lH l).1).length:=by
 have e2:=ziw l;have hl:(l.take (ff 35 l)).length=ff 35 l:=by rw[sO];have:=zba 35 l;omega
 rw[zix,hl]
 by_cases hc:ff 59 (l.take (ff 35 l))<ff 35 l
 ·rw[if_pos hc] at e2
  rw[e2];exact hc
 ·rw[if_neg hc] at e2
  omega
theorem zeX (D:List (List Rg)) (c:Nat) (L:List Rg):∀j,j<1->iH D c L j=false:=fun j hj=>by
 have h:j=0:=by omega
 subst h
 rfl
theorem ziB (D:List (List Rg)) (n c:Nat) (L:List Rg) (h:∀j,j<n->iH D c L j=false):zbm D n c L=false:=by
 unfold zbm;rw[List.any_eq_false];intro x hx;rw[h x (tr.1 hx)]
 decide
theorem zeW (D:List (List Rg)) (n c:Nat) (L:List Rg) (j:Nat) (hj:j<n) (h:iH D c L j=true):zbm D n c L=true:=by
 unfold zbm;exact List.any_eq_true.2 ⟨j,tr.2 hj,h⟩
set_option maxRecDepth 100000 in
theorem zjh (B Q:Nat) (U:List (List UInt8)) (D:List (List Rg)) (nv sv:sU) (vs:List sU) (l:List UInt8) (w:sN) (h:aX B Q U D nv sv vs w) (hB:B<=w.heap.size) (hl:l.length<=12000) (hU:U.length<=64) (hU0:1<=U.length) (hUD:D.length=U.length) (hD:∀x∈D,x.length<=20000):
  sZ Tryz.prog 100 #[.pointer (some ⟨Q,0,none⟩),.string ⟨l.toArray⟩] w fun e w'=>e= .returned (.int .i64 (dcS U D l).1)/\sI B w w'∧
   ((dcS U D l).1=0->∃nv' sv' vs',aX B Q (dcS U D l).2.1 (dcS U D l).2.2 nv' sv' vs' w'/\gf Q nv nv' w w'):=by
 obtain⟨i9,hi9,hz90,hz91,hz92⟩:=tc Tryz.infoStr;obtain⟨i47,hi47,hz470,hz471,hz472⟩:=tc Tryz.infoLRange;have HR:=hid h;obtain⟨N,hN⟩:∃N,N=w.heap.size:=⟨_,rfl⟩;have HN:=hid hN;have hBN:B<=N:=by omega
 obtain⟨R,hR⟩:∃R,R=dcS U D l:=⟨_,rfl⟩;rw[<- hR];unfold dcS at hR;have hzl:=zvD l;obtain⟨z,hz⟩:∃z,z=(lH l).2:=⟨_,rfl⟩;obtain⟨s,hs⟩:∃s,s=l.take (lH l).1:=⟨_,rfl⟩;have hsl:s.length<=12000:=by rw[hs,sO];omega
 have HCU:=hid (zlM l w (by omega))
 rw[<- hs,<- hz] at hR hzl;rw[<- hs,<- hz] at HCU;obtain⟨t,ht⟩:∃t,t=ss s:=⟨_,rfl⟩;have HT1:=hid (show ∀W,sZ Tryz.prog 133 #[.string ⟨s.toArray⟩] W fun e w'=>e= .returned (.string ⟨t.toArray⟩)/\w'=W from fun W=>zch _ s t ht W rfl (by omega))
 rw[<- ht] at hR;have HR':=hid hR;have HZL:=hid hzl;have HSZ:=hid (show(⟨s.toArray⟩:ByteArray).size=s.length by show s.toArray.size=_;simp)
 clear hs ht hR hzl h hz hN;go_enter Tryz.func100,Tryz.ntmps100;go_wp2_with fail;refine HCU.out.mono ?_;rintro e w1 ⟨rfl,b1⟩;have HB1:=hid (show sI N w w1 by rw[HN.out];exact b1)
 clear b1 HCU;go_wp2_with fail;refine(HT1.out w1).mono ?_;rintro e w1' ⟨rfl,hw⟩;obtain rfl:=hw.symm;clear HT1
 by_cases hz0:t=[]
 ·have HE:=hid (show R=(0,U,D) by rw[HR'.out,if_pos hz0])
  subst hz0;go_wp2;go_ret;rw[HE.out];exact⟨rfl,HB1.out.mono hBN,fun _=>⟨nv,sv,vs,HR.out.below (by rw[<- HN.out];exact HB1.out),.of_below (by rw[<- HN.out];exact HB1.out)⟩⟩
 have hie:t.isEmpty=false:=by cases t with | nil=>exact absurd rfl hz0 | cons=>rfl
 have HE1:=hid (show R=_ by rw[HR'.out,if_neg hz0])
 clear hz0 HR'
 by_cases hneg:z<0
 ·have HE:=hid (show R=(42,U,D) by rw[HE1.out,if_pos hneg])
  go_wp2;go_ret;rw[HE.out];exact⟨rfl,HB1.out.mono hBN,fun h=>by cases h⟩
 have HE2:=hid (show R=_ by rw[HE1.out,if_neg hneg])
 have hml:=HZL.out (by omega)
 obtain⟨m,rfl⟩:∃m:Nat,z=(m:Int):=⟨z.toNat,by omega⟩
 rw[Int.toNat_natCast] at hml;have HTN:=hid (show((m:Int)).toNat=m from Int.toNat_natCast m)
 rw[HTN.out] at HE2;obtain⟨b,hb⟩:∃b,b=ss (s.drop (m+1)):=⟨_,rfl⟩;have hbl:b.length<=12000:=by rw[hb];have h5:=zhh (s.drop (m+1));rw[tb] at h5;omega
 obtain⟨sp,hsp⟩:∃sp,sp=(s.take m).map tbl:=⟨_,rfl⟩;have hspl:sp.length<=12000:=by rw[hsp,tp,sO];omega
 rw[<- hb,<- hsp] at HE2;have HT2:=hid (show ∀W,sZ Tryz.prog 133 #[.string ((⟨s.toArray⟩:ByteArray).extract (m+1) s.length)] W fun e w'=>e= .returned (.string ⟨b.toArray⟩)/\w'=W from fun W=>zch _ (s.drop (m+1)) b hb W (ext_drop s (m+1)) (by simp;omega))
 have HSP:=hid (show ∀W,sZ Tryz.prog 136 #[.string ((⟨s.toArray⟩:ByteArray).extract 0 m)] W fun e w'=>e= .returned (.string ⟨sp.toArray⟩)/\sI W.heap.size W w' from fun W=>ziY _ (s.take m) sp hsp W (ext_take s m) (by simp;omega))
 have HPA:=hid (fun W=>zfv sp W (by omega))
 have HGL:=hid (show(kL sp).1.length<=12000 by have h5:=zas sp;omega)
 obtain⟨G,hG⟩:∃G,G=(kL sp).1:=⟨_,rfl⟩;obtain⟨er,her⟩:∃er,er=(kL sp).2.1:=⟨_,rfl⟩;obtain⟨ep,hep⟩:∃ep,ep=(kL sp).2.2:=⟨_,rfl⟩;rw[<- hG,<- her] at HE2;rw[<- hG] at HGL;rw[<- hG,<- her,<- hep] at HPA;have HNA:=hid (show ∀W,sZ Tryz.prog 134 #[.string ⟨b.toArray⟩] W fun e w'=>e= .returned (.bool (ql b))/\w'=W from fun W=>zjg b W (by omega))
 have e1:IntKind.i64.wrap ((m:Int)+1)=((m+1:Nat):Int):=by rw[IntKind.wrap_i64];omega
 have j1:(m:Int)+1<=(s.length:Int):=by omega
 have j0:(0:Int)<=(m:Int)+1:=by omega
 have j2:(m:Int)<=(s.length:Int):=by omega
 have j3:(0:Int)<=(m:Int):=by omega
 clear HZL HE1 hb hsp hG her hep HTN;go_wp2_with fail;refine(HT2.out w1).mono ?_;rintro e w1' ⟨rfl,hw⟩;obtain rfl:=hw.symm;clear HT2;go_wp2_with fail;refine(HNA.out w1).mono ?_;rintro e w1' ⟨rfl,hw⟩;obtain rfl:=hw.symm;clear HNA
 cases hna:ql b with
 | false=>
  have HE:=hid (show R=(40,U,D) by rw[HE2.out,if_pos (.inl hna)])
  clear hna;go_wp2;go_ret;rw[HE.out];exact⟨rfl,HB1.out.mono hBN,fun h=>by cases h⟩
 | true=>
  by_cases ho:b=oth
  ·have HE:=hid (show R=(40,U,D) by rw[HE2.out,if_pos (.inr ho)])
   subst ho;clear hna;go_wp2;go_ret;rw[HE.out];exact⟨rfl,HB1.out.mono hBN,fun h=>by cases h⟩
  have HE3:=hid (show R=_ by rw[HE2.out,if_neg (by rw[hna];rintro (h | h);cases h;exact ho h)])
  have ho':(b== [79,116,104,101,114])=false:=by
   rw[beq_eq_false_iff_ne];exact ho
  clear HE2 ho hna;go_wp2_with fail;refine(HSP.out w1).mono ?_;rintro e w2 ⟨rfl,b2⟩;have HB2:=hid (HB1.out.trans (b2.mono (by have h5:=HN.out;have h6:=HB1.out.size;omega)))
  clear b2 HB1 HSP ho';go_wp2_with fail;refine(HPA.out w2).mono ?_;rintro e w3 ⟨v3,rfl,o3,b3⟩;have HB3:=hid (HB2.out.trans (b3.mono (by have h5:=HN.out;have h6:=HB2.out.size;omega)))
  have HO3:=hid (aU o3 (show B<=w2.heap.size by have h5:=HN.out;have h6:=HB2.out.size;omega))
  clear b3 HB2 HPA o3
  by_cases he:er=0
  ·subst he
   have HE4:=hid (show R=dcN U D b G by rw[HE3.out,if_neg (by simp)])
   have HR3:=hid (HR.out.below (show sI w.heap.size w w3 by rw[<- HN.out];exact HB3.out))
   obtain⟨no,nc,rfl,hrdn⟩:=nu HR3.out.hN rfl;obtain⟨so,sc,rfl,hrdd⟩:=HR3.out.rd;obtain⟨go,gc,rfl,hgr,hgn⟩:=eC HO3.out;have c0:=HR3.out.c0;have c1:=HR3.out.c1;have HRD:=hid hrdd;have HGR:=hid hgr;have HGN:=hid hgn;have HCL:=hid (zfA Q no nc U.length U b w3 c0 hrdn rfl (by omega))
   clear HE3 HR hrdn hrdd hgr hgn
   by_cases hm:b∈U
   ·have HD1:=hid (show clx U b=((U.idxOf b:Nat):Int) by unfold clx;rw[if_pos hm])
    have HD2:=hid (show cly U b=true from decide_eq_true hm)
    rw[HD1.out,HD2.out] at HCL;have hcU:=List.idxOf_lt_length_of_mem hm;have HAD:=hid (show gq b U=(U,U.idxOf b) by unfold gq;rw[if_pos hm])
    have HE5:=hid (show R=if zbm D U.length (U.idxOf b) G=true then (41,U,D) else (0,U,D.set (U.idxOf b) (mE (D.getD (U.idxOf b) []) G)) by
     rw[HE4.out];unfold dcN;rw[if_neg (fun h=>h.1 hm),HAD.out,if_pos hm])
    obtain⟨c,hc⟩:∃c,c=U.idxOf b:=⟨_,rfl⟩;rw[<- hc] at HCL hcU HE5;clear hm HD1 HD2 HAD HE4 hc;obtain⟨n,hn⟩:∃n,n=U.length:=⟨_,rfl⟩;have HNU:=hid hn;have HNDn:=hid (show n=D.length by omega)
    rw[<- hn] at c0 hU hcU HE5;have hDn:D.length=n:=by omega
    rw[hDn] at c1;clear hn hUD hDn;go_wp2_with fail;refine HCL.out.mono ?_;rintro e w3' ⟨rfl,hw⟩;obtain rfl:=hw.symm;clear HCL;go_wp2;go_loopw [12] (fun x wr=>∃i:Nat,1<=i/\i<=n/\x= .int .i64 (i:Int)/\Hid (∀j,j<i->iH D c G j=false)/\Hid (sI w3.heap.size w3 wr)) (fun x _=>n - (sS x).toNat)
    case atStart=>exact⟨1,by omega,by omega,rfl,zeX D c G,sL _ _⟩
    case round=>
     obtain⟨i,hi1,hi,rfl,HI,HBr⟩:=hrel;have d0:=(HBr.out.cell (p:=⟨Q,0,none⟩) (aK HR3.out.hQ)).trans c0;have d1:=(HBr.out.cell (p:=⟨Q,1,none⟩) (aK HR3.out.hQ)).trans c1
     by_cases hlt:i<n
     ·have i3:(i:Int)<(n:Int):=by omega
      by_cases hic:i=c
      ·have i4:((i:Int) != (c:Int))=false:=by rw[hic];simp
       have HZ:=hid (show ∀j,j<i+1->iH D c G j=false from fun j hj=>by
        by_cases h5:j<i
        ·exact HI.out j h5
        ·have h6:j=c:=by omega
         unfold iH;rw[h6];simp)
       clear hic;go_wp2;go_roundw
       case rel=>exact⟨i+1,by omega,by omega,by go_num,HZ,HBr⟩
       case measure=>simp[sS];omega
      ·have i4:((i:Int) != (c:Int))=true:=bne_iff_ne.2 (by omega)
       have hiD:i<D.length:=by have h5:=HNDn.out;omega
       obtain⟨a,rfl,ha,ao,ac,a0,hra,hna⟩:=HRD.out.below HBr.out i D[i] (sD hiD);have HXL:=hid (hD D[i] (sP hiD));have HME:=hid (zcQ ao go ac gc D[i] G wr hra (HGR.out.below HBr.out) (by have h5:=HXL.out;omega) (by have h5:=HGL.out;omega))
       have HC1:=hid (show iH D c G i=mtR D[i] G by
        unfold iH;rw[decide_eq_true hi1,decide_eq_true hic,sE,sD hiD];rfl)
       have i0:(0:Int)<=(i:Int):=by omega
       generalize D[i].length=nx at *
       obtain⟨mt,hmt⟩:∃mt,mt=mtR D[i] G:=⟨_,rfl⟩;rw[<- hmt] at HME HC1;clear hmt hic hra hna hiD
       cases mt with
       | true=>
        have HE:=hid (show R=(41,U,D) by rw[HE5.out,if_pos (zeW D n c G i hlt HC1.out)])
        go_wp2_with fail;refine HME.out.mono ?_;rintro e w4 ⟨rfl,b4⟩;have HB4:=hid (HBr.out.trans (b4.mono HBr.out.size));clear b4 HME;go_wp2;go_ret;rw[HE.out];exact⟨rfl,(HB3.out.mono hBN).trans (HB4.out.mono (by have h5:=HB3.out.size;have h6:=HN.out;omega)),fun h=>by cases h⟩
       | false=>
        have HZ:=hid (show ∀j,j<i+1->iH D c G j=false from fun j hj=>by
         by_cases h5:j<i
         ·exact HI.out j h5
         ·have h6:j=i:=by omega
          rw[h6];exact HC1.out)
        go_wp2_with fail;refine HME.out.mono ?_;rintro e w4 ⟨rfl,b4⟩;have HB4:=hid (HBr.out.trans (b4.mono HBr.out.size));clear b4 HME;go_wp2;go_roundw
        case rel=>exact⟨i+1,by omega,by omega,by go_num,HZ,HB4⟩
        case measure=>simp[sS];omega
     ·have hin:i=n:=by omega
      have i3:¬(i:Int)<(n:Int):=by omega
      have HEZ:=hid (show R=(0,U,D.set c (mE (D.getD c []) G)) by rw[HE5.out,if_neg (by rw[ziB D n c G (fun j hj=>HI.out j (by omega))];decide)])
      have HRr:=hid (HR3.out.below HBr.out);have hwr:=HBr.out.size;have hw3:=HB3.out.size;clear hin HI HRD HE5 c0 c1;have hcD:c<D.length:=(by have h5:=HNDn.out;omega)
      obtain⟨q,cap,hq,_,hqs⟩:=HRr.out.hS.form (by omega)
      cases hq
      obtain⟨vc,hv1,hv2⟩:=HRr.out.hV c D[c] (sD hcD);obtain⟨ao,ac,rfl,hra,hrn⟩:=eC hv2;have HXL:=hid (show D[c].length<=20000 from hD _ (sP hcD))
      have HHS:=hid (show wr.ownsRow B 125 1 (.slice (some ⟨q,0,none⟩) D.length sc) D.length vs from HRr.out.hS)
      have HS1:=hid (show wr.cell? ⟨Q,1,none⟩=some (.slice (some ⟨q,0,none⟩) D.length sc) from HRr.out.c1)
      have HS2:=hid (show wr.cell? ⟨q,c,none⟩=some (.slice ao D[c].length ac) by rw[HHS.out.cellAt c (by omega)];exact hv1)
      have HGW:=hid (show RdR wr go G from HGR.out.below HBr.out)
      have HRA:=hid hra;have HOR:=hid (show sZ Tryz.prog 139 #[.slice ao D[c].length ac,.slice go G.length gc] wr.drew fun e w'=>∃v,e= .returned v/\w'.ownsRow wr.heap.size 146 2 v (mE D[c] G).length (aI (mE D[c] G))/\sI wr.heap.size wr.drew w' from zhw ao go ac gc D[c] G wr.drew (HRA.out.below (fY wr)) (HGW.out.below (fY wr)) hrn HGN.out (by have h5:=HXL.out;omega) (by have h5:=HGL.out;omega))
      have HGD:=hid (show D.getD c []=D[c] by rw[sE,sD hcD];rfl)
      rw[HGD.out] at HEZ;obtain⟨xc,hxc⟩:∃xc,xc=mE D[c] G:=⟨_,rfl⟩;rw[<- hxc] at HOR HEZ;have HC2:=hid (show ∀W',sI wr.heap.size wr W'->W'.cell? ⟨Q,1,none⟩=some (.slice (some ⟨q,0,none⟩) D.length sc)/\W'.cell? ⟨q,c,none⟩=some (.slice ao D[c].length ac) from fun W' hW=>⟨(hW.cell (p:=⟨Q,1,none⟩) (aK HRr.out.hQ)).trans HS1.out,(hW.cell (p:=⟨q,c,none⟩) hqs).trans HS2.out⟩)
      generalize D[c].length=nx at HOR HC2
      obtain⟨nd,hnd⟩:∃nd,nd=D.length:=⟨_,rfl⟩;rw[<- hnd] at HC2;have k1:(c:Int)<(nd:Int):=by omega
      have k0:(0:Int)<=(c:Int):=by omega
      have HND:=hid hnd;clear HS1 HS2 HRA HGW hra hrn hv1 hv2 hxc HGD hnd;go_wp2;refine eh [(0,1),(1,1),(2,1),(3,0),(4,1),(5,1),(6,1),(7,1),(8,0),(9,1),(10,1),(11,0),(12,1),(13,2),(14,1),(15,2)] (fun W=>W.cell? ⟨Q,1,none⟩=some (.slice (some ⟨q,0,none⟩) nd sc)/\W.cell? ⟨q,c,none⟩=some (.slice ao nx ac)) (fun _=>True) (fun j=>j==15) (by kernel_rfl) (by kernel_rfl) (fun j hj=>by simp at hj;rw[hj];decide) rfl (by kernel_rfl) (HC2.out _ (fY wr)) trivial ?_
      iterate 13 ((first | refine zfR ?_ rfl (by kernel_rfl) (fun w' hS=>?_) ?_ | refine lX ?_ rfl (by kernel_rfl) (fun w' hS=>?_) ?_);(rotate_left;((first | obtain⟨s1,s2⟩:=hS | clear hS);go_simp;with_reducible rfl);rotate_left))
      simp only[Act.put,sG]
      refine i7 rfl (by kernel_rfl) fun KK hKK=>?_
      go_simp;refine HOR.out.mono ?_;rintro e w5 ⟨v5,rfl,o5,b5⟩;have b5':sI wr.heap.size wr w5:=(fY wr).trans b5;have HR5:=hid (HRr.out.below b5');have HO5:=hid (aU o5 (show B<=wr.heap.size from(by have h5:=HN.out;omega)))
      obtain⟨d5,f5,l5⟩:=HR5.out.store rfl hcD HO5.out;obtain⟨xo,xcp,rfl⟩:=ik HO5.out;have p1:=(HC2.out w5 b5').2;have HHS5:=hid (kM HHS.out b5');have p2:=HHS5.out.frozenAt c;have HD5:=hid d5;have HF5:=hid (show gf Q _ _ w _ from(gf.of_below (Q:=Q) (show sI w.heap.size w wr by rw[<- HN.out];exact HB3.out.trans (HBr.out.mono (by have h5:=HN.out;omega)))).trans ((gf.of_below b5').trans f5))
      have HB5:=hid (show sI B w _ from(((HB3.out.mono hBN).trans (HBr.out.mono (by have h5:=HN.out;omega))).trans (b5'.mono (by have h5:=HN.out;omega))).trans l5)
      refine hKK _ _ (fun _=>HC2.out w5 b5') trivial ?_
      clear hKK KK o5 b5 b5' d5 f5 l5 HR5 HO5;refine lX ?_ rfl (by kernel_rfl) (fun w' hS=>?_) ?_;(rotate_left;(go_simp;with_reducible rfl);rotate_left)
      simp only[Act.put,sG]
      refine i7 rfl (by kernel_rfl) fun KK hKK=>?_
      go_simp;refine hKK _ _ (fun h=>by cases h) trivial ?_
      clear hKK KK p1 p2;refine o7 (NoPanic.normal ?_);go_wp2;go_ret;rw[HEZ.out];exact⟨rfl,HB5.out,fun _=>⟨_,_,_,HD5.out,HF5.out⟩⟩
   ·have HD1:=hid (show clx U b=0 by unfold clx;rw[if_neg hm])
    have HD2:=hid (show cly U b=false from decide_eq_false hm)
    rw[HD1.out,HD2.out] at HCL;have HAD:=hid (show gq b U=(U++[b],U.length) by unfold gq;rw[if_neg hm])
    have HE5':=hid (show R=if 64<=U.length then (6,U,D) else if zbm D U.length U.length G=true then (41,U,D) else (0,U++[b],D++[mE [] G]) by
     rw[HE4.out];unfold dcN;rw[HAD.out,if_neg hm]
     by_cases h6:64<=U.length
     ·rw[if_pos ⟨hm,h6⟩,if_pos h6]
     ·rw[if_neg (fun h=>h6 h.2),if_neg h6])
    clear hm HD1 HD2 HAD HE4;obtain⟨n,hn⟩:∃n,n=U.length:=⟨_,rfl⟩;have HNU:=hid hn;have HNDn:=hid (show n=D.length by omega)
    rw[<- hn] at c0 hU hU0 HE5';have hDn:D.length=n:=by omega
    rw[hDn] at c1;have hn0:1<=n:=hU0;clear hn hUD hDn
    by_cases h64:64<=n
    ·have HE:=hid (show R=(6,U,D) by rw[HE5'.out,if_pos h64])
     have h64':(64:Int)<=(n:Int):=by omega
     go_wp2_with fail;refine HCL.out.mono ?_;rintro e w3' ⟨rfl,hw⟩;obtain rfl:=hw.symm;clear HCL;go_wp2;go_ret;rw[HE.out];exact⟨rfl,HB3.out.mono hBN,fun h=>by cases h⟩
    have HE5:=hid (show R=_ by rw[HE5'.out,if_neg h64])
    have h64':¬(64:Int)<=(n:Int):=by omega
    clear HE5' h64;go_wp2_with fail;refine HCL.out.mono ?_;rintro e w3' ⟨rfl,hw⟩;obtain rfl:=hw.symm;clear HCL;go_wp2;go_loopw [12] (fun x wr=>∃i:Nat,1<=i/\i<=n/\x= .int .i64 (i:Int)/\Hid (∀j,j<i->iH D n G j=false)/\Hid (sI w3.heap.size w3 wr)) (fun x _=>n - (sS x).toNat)
    case atStart=>exact⟨1,by omega,hn0,rfl,zeX D n G,sL _ _⟩
    case round=>
     obtain⟨i,hi1,hi,rfl,HI,HBr⟩:=hrel;have d0:=(HBr.out.cell (p:=⟨Q,0,none⟩) (aK HR3.out.hQ)).trans c0;have d1:=(HBr.out.cell (p:=⟨Q,1,none⟩) (aK HR3.out.hQ)).trans c1
     by_cases hlt:i<n
     ·have i3:(i:Int)<(n:Int):=by omega
      by_cases hic:i=n
      ·have i4:((i:Int) != (n:Int))=false:=by rw[hic];simp
       have HZ:=hid (show ∀j,j<i+1->iH D n G j=false from fun j hj=>by
        by_cases h5:j<i
        ·exact HI.out j h5
        ·have h6:j=n:=by omega
         unfold iH;rw[h6];simp)
       clear hic;go_wp2;go_roundw
       case rel=>exact⟨i+1,by omega,by omega,by go_num,HZ,HBr⟩
       case measure=>simp[sS];omega
      ·have i4:((i:Int) != (n:Int))=true:=bne_iff_ne.2 (by omega)
       have hiD:i<D.length:=by have h5:=HNDn.out;omega
       obtain⟨a,rfl,ha,ao,ac,a0,hra,hna⟩:=HRD.out.below HBr.out i D[i] (sD hiD);have HXL:=hid (hD D[i] (sP hiD));have HME:=hid (zcQ ao go ac gc D[i] G wr hra (HGR.out.below HBr.out) (by have h5:=HXL.out;omega) (by have h5:=HGL.out;omega))
       have HC1:=hid (show iH D n G i=mtR D[i] G by
        unfold iH;rw[decide_eq_true hi1,decide_eq_true hic,sE,sD hiD];rfl)
       have i0:(0:Int)<=(i:Int):=by omega
       generalize D[i].length=nx at *
       obtain⟨mt,hmt⟩:∃mt,mt=mtR D[i] G:=⟨_,rfl⟩;rw[<- hmt] at HME HC1;clear hmt hic hra hna hiD
       cases mt with
       | true=>
        have HE:=hid (show R=(41,U,D) by rw[HE5.out,if_pos (zeW D n n G i hlt HC1.out)])
        go_wp2_with fail;refine HME.out.mono ?_;rintro e w4 ⟨rfl,b4⟩;have HB4:=hid (HBr.out.trans (b4.mono HBr.out.size));clear b4 HME;go_wp2;go_ret;rw[HE.out];exact⟨rfl,(HB3.out.mono hBN).trans (HB4.out.mono (by have h5:=HB3.out.size;have h6:=HN.out;omega)),fun h=>by cases h⟩
       | false=>
        have HZ:=hid (show ∀j,j<i+1->iH D n G j=false from fun j hj=>by
         by_cases h5:j<i
         ·exact HI.out j h5
         ·have h6:j=i:=by omega
          rw[h6];exact HC1.out)
        go_wp2_with fail;refine HME.out.mono ?_;rintro e w4 ⟨rfl,b4⟩;have HB4:=hid (HBr.out.trans (b4.mono HBr.out.size));clear b4 HME;go_wp2;go_roundw
        case rel=>exact⟨i+1,by omega,by omega,by go_num,HZ,HB4⟩
        case measure=>simp[sS];omega
     ·have hin:i=n:=by omega
      have i3:¬(i:Int)<(n:Int):=by omega
      have HEZ0:=hid (show R=(0,U++[b],D++[mE [] G]) by rw[HE5.out,if_neg (by rw[ziB D n n G (fun j hj=>HI.out j (by omega))];decide)])
      have HRr:=hid (HR3.out.below HBr.out);have hwr:=HBr.out.size;have hw3:=HB3.out.size;have HGr:=hid (HO3.out);clear hin HI HRD HE5 c0 c1;have HP1:=hid (show ∀(w4:sN),(wr.alloc (.cells #[.string ⟨b.toArray⟩] 9)).grownBy w4 (sV no n nc).ownBlock->w4.heap[Q]? =some (.cells #[.slice no n nc,.slice so n sc] 91 (0,0)) from fun w4 gr=>by
       have h6:=HRr.out.hQ;rw[<- HNU.out,<- HNDn.out] at h6;have h7:=HRr.out.hN;rw[<- HNU.out] at h7;exact(gr.block Q (by simp;have h5:=aK h6;omega) (fun e=>aY h7 Q _ 91 h6 (by decide) e.symm)).trans ((cC wr _ Q (aK h6)).trans h6))
      have HRW:=hid (show wr.ownsRow B 9 1 (.slice no n nc) n (nms U) by have h7:=HRr.out.hN;rw[<- HNU.out] at h7;exact h7)
      have HBW:=hid (show B<=wr.heap.size by have h5:=HN.out;omega)
      have hBW:=HBW.out;have HNM:=hid (show ∀(q2 c2:Nat) (w4:sN),w4.ownsRow B 9 1 (.slice (some ⟨q2,0,none⟩) (n+1) c2) (n+1) (nms U++[.string ⟨b.toArray⟩])->(wr.alloc (.cells #[.string ⟨b.toArray⟩] 9)).grownBy w4 (sV no n nc).ownBlock->((sV no n nc).ownBlock=some q2\/q2=wr.heap.size+1)->
        aX B Q (U++[b]) D (.slice (some ⟨q2,0,none⟩) (n+1) c2) (.slice so n sc) vs (w4.setCell ⟨Q,0,none⟩ (.slice (some ⟨q2,0,none⟩) (n+1) c2))/\gf Q (.slice no n nc) (.slice (some ⟨q2,0,none⟩) (n+1) c2) wr (w4.setCell ⟨Q,0,none⟩ (.slice (some ⟨q2,0,none⟩) (n+1) c2))/\sI B wr (w4.setCell ⟨Q,0,none⟩ (.slice (some ⟨q2,0,none⟩) (n+1) c2)) from fun q2 c2 w4 o4 gr hl4=>by
       have h6:=HRr.out;rw[<- HNU.out,<- HNDn.out] at h6;obtain⟨r1,r2,r3⟩:=h6.named HNU.out ((sL _ wr).alloc (sJ _) (.cells #[.string ⟨b.toArray⟩] 9)) o4 gr (by rw[sM];exact hl4)
       exact⟨r1,r2,((sL B wr).alloc hBW _).trans r3⟩)
      go_wp2_with (first | (at_builtin;refine sT _ rfl _ _ 66 rfl B 9 i9 (.string ⟨#[]⟩) 1 16 Tryz.underlying66 hi9 hz90 hz91 hz92 rfl (by decide) _ n (nms U) rfl (HRW.out.alloc _) ⟨wr.heap.size,0,none⟩ 1 1 [.string ⟨b.toArray⟩] rfl rfl (zfP wr ⟨b.toArray⟩ 9) (sx _) (by decide) (by unfold tg;omega) (by omega) (by simp;omega) (wr.heap.size+1) (by simp) ?_;intro q2 c2 w4 o4 gr4 hl4 hlt4;have f0:=HP1.out w4 gr4;have f1:w4.cell? ⟨Q,0,none⟩=some (.slice no n nc):=cell_row w4 Q 0 [_,_] 91 _ f0 rfl;have f2:=frozen_row f0 0;have f3:w4.cell? ⟨Q,1,none⟩=some (.slice so n sc):=cell_row w4 Q 1 [_,_] 91 _ f0 rfl;have HD4:=hid (HNM.out q2 c2 w4 o4 gr4 hl4);clear f0 o4 gr4 hl4 hlt4) | (at_builtin;refine sT _ rfl _ _ 89 rfl B 125 i47 (.slice none 0 0) 1 24 Tryz.underlying89 hi47 hz470 hz471 hz472 rfl (by decide) _ n vs rfl (sN.ownsRow.alloc (hsw HD4.out.1 HNDn.out) _) ⟨w4.heap.size,0,none⟩ 1 1 [.slice none 0 0] rfl rfl (zqj _ w4.heap.size (by simp[tt]) _ 125) (zfp _) (by decide) (by unfold tg;omega) (by omega) (hsz4 HD4.out.2.2.size hBW) (w4.heap.size+1) (by simp[tt]) ?_;intro q3 c3 w6 o6 gr6 hl6 hlt6;have HD6:=hid (znQ HD4.out.1 HNDn.out o6 gr6);have f4:=(hq6 HD4.out.1 gr6).1;have f5:=(hq6 HD4.out.1 gr6).2;clear o6 gr6 hl6 hlt6) | fail)
      obtain⟨d6,fr6,bl6⟩:=HD6.out;obtain⟨d4,fr4,bl4⟩:=HD4.out;obtain⟨W6,hW6⟩:∃W6,W6=w6.setCell ⟨Q,1,none⟩ (.slice (some ⟨q3,0,none⟩) (n+1) c3):=⟨_,rfl⟩;rw[<- hW6] at d6 fr6 bl6⊢;have HQ6:=hid d6;have HF6:=hid (fr4.trans fr6);have HB6:=hid (bl4.trans bl6);have hD2:(D++[[]]).length=n+1:=by have h5:=HNDn.out;simp;omega
      have HEZ:=hid (show R=(0,U++[b],(D++[[]]).set n (mE ((D++[[]]).getD n []) G)) by
       rw[HEZ0.out,HNDn.out,List.set_append_right _ _ (sJ _),tu,sE,List.getElem?_append_right (sJ _),tu];rfl)
      have HG6:=hid (show RdR W6 go G from by
       have h5:=kM HO3.out HBr.out;have h6:=zwb HRr.out (show gf Q _ _ wr W6 by rw[<- HNU.out];exact HF6.out) h5
       obtain⟨go',gc',e',hg',_⟩:=eC h6
       cases e'
       exact hg')
      have hwB:B<=W6.heap.size:=by have h5:=HB6.out.size;omega
      clear d6 fr6 bl6 d4 fr4 bl4 HD6 HD4 hW6 f1 f2 f3 f4 f5 HNM HP1 HRW HEZ0;have hcD:n<(D++[[]]).length:=(by omega)
      have hqs:=(HQ6.out.hS.lt q3 rfl).2;obtain⟨vc,hv1,hv2⟩:=HQ6.out.hV n (D++[[]])[n] (sD hcD);obtain⟨ao,ac,rfl,hra,hrn⟩:=eC hv2;have HXL:=hid (show(D++[[]])[n].length<=20000 from(by rcases tq.1 (sP hcD) with h5 | h5;exact hD _ h5;rw[ti.1 h5];exact Nat.zero_le _))
      have HHS:=hid (show W6.ownsRow B 125 1 (.slice (some ⟨q3,0,none⟩) (n+1) c3) (n+1) (vs++[.slice none 0 0]) from(by have h5:=HQ6.out.hS;rw[hD2] at h5;exact h5))
      have HS1:=hid (show W6.cell? ⟨Q,1,none⟩=some (.slice (some ⟨q3,0,none⟩) (n+1) c3) from HQ6.out.c1)
      have HS2:=hid (show W6.cell? ⟨q3,n,none⟩=some (.slice ao (D++[[]])[n].length ac) by rw[HHS.out.cellAt n (by omega)];exact hv1)
      have HGW:=hid (show RdR W6 go G from HG6.out)
      have HRA:=hid hra;have HOR:=hid (show sZ Tryz.prog 139 #[.slice ao (D++[[]])[n].length ac,.slice go G.length gc] W6.drew fun e w'=>∃v,e= .returned v/\w'.ownsRow W6.heap.size 146 2 v (mE (D++[[]])[n] G).length (aI (mE (D++[[]])[n] G))/\sI W6.heap.size W6.drew w' from zhw ao go ac gc (D++[[]])[n] G W6.drew (HRA.out.below (fY W6)) (HGW.out.below (fY W6)) hrn HGN.out (by have h5:=HXL.out;omega) (by have h5:=HGL.out;omega))
      have HGD:=hid (show(D++[[]]).getD n []=(D++[[]])[n] by rw[sE,sD hcD];rfl)
      rw[HGD.out] at HEZ;obtain⟨xc,hxc⟩:∃xc,xc=mE (D++[[]])[n] G:=⟨_,rfl⟩;rw[<- hxc] at HOR HEZ;have HC2:=hid (show ∀W',sI W6.heap.size W6 W'->W'.cell? ⟨Q,1,none⟩=some (.slice (some ⟨q3,0,none⟩) (n+1) c3)/\W'.cell? ⟨q3,n,none⟩=some (.slice ao (D++[[]])[n].length ac) from fun W' hW=>⟨(hW.cell (p:=⟨Q,1,none⟩) (aK HQ6.out.hQ)).trans HS1.out,(hW.cell (p:=⟨q3,n,none⟩) hqs).trans HS2.out⟩)
      generalize (D++[[]])[n].length=nx at HOR HC2
      obtain⟨nd,hnd⟩:∃nd,nd=(n+1):=⟨_,rfl⟩;rw[<- hnd] at HC2;have k1:(n:Int)<(nd:Int):=by omega
      have k0:(0:Int)<=(n:Int):=by omega
      have HND:=hid hnd;clear HS1 HS2 HRA HGW hra hrn hv1 hv2 hxc HGD hnd;go_wp2;refine eh [(0,1),(1,1),(2,1),(3,0),(4,1),(5,1),(6,1),(7,1),(8,0),(9,1),(10,1),(11,0),(12,1),(13,2),(14,1),(15,2)] (fun W=>W.cell? ⟨Q,1,none⟩=some (.slice (some ⟨q3,0,none⟩) nd c3)/\W.cell? ⟨q3,n,none⟩=some (.slice ao nx ac)) (fun _=>True) (fun j=>j==15) (by kernel_rfl) (by kernel_rfl) (fun j hj=>by simp at hj;rw[hj];decide) rfl (by kernel_rfl) (HC2.out _ (fY W6)) trivial ?_
      iterate 13 ((first | refine zfR ?_ rfl (by kernel_rfl) (fun w' hS=>?_) ?_ | refine lX ?_ rfl (by kernel_rfl) (fun w' hS=>?_) ?_);(rotate_left;((first | obtain⟨s1,s2⟩:=hS | clear hS);go_simp;with_reducible rfl);rotate_left))
      simp only[Act.put,sG]
      refine i7 rfl (by kernel_rfl) fun KK hKK=>?_
      go_simp;refine HOR.out.mono ?_;rintro e w5 ⟨v5,rfl,o5,b5⟩;have b5':sI W6.heap.size W6 w5:=(fY W6).trans b5;have HR5:=hid (HQ6.out.below b5');have HO5:=hid (aU o5 (show B<=W6.heap.size from hwB))
      obtain⟨d5,f5,l5⟩:=HR5.out.store hD2.symm hcD HO5.out;obtain⟨xo,xcp,rfl⟩:=ik HO5.out;have p1:=(HC2.out w5 b5').2;have HHS5:=hid (kM HHS.out b5');have p2:=HHS5.out.frozenAt n;have HD5:=hid d5;have HF5:=hid (show gf Q (.slice no n nc) _ w _ from((gf.of_below (Q:=Q) (nv:=.slice no n nc) (show sI w.heap.size w wr by rw[<- HN.out];exact HB3.out.trans (HBr.out.mono (by have h5:=HN.out;omega)))).trans HF6.out).trans ((gf.of_below b5').trans f5))
      have HB5:=hid (show sI B w _ from((((HB3.out.mono hBN).trans (HBr.out.mono (by have h5:=HN.out;omega))).trans HB6.out).trans (b5'.mono hwB)).trans l5)
      refine hKK _ _ (fun _=>HC2.out w5 b5') trivial ?_
      clear hKK KK o5 b5 b5' d5 f5 l5 HR5 HO5;refine lX ?_ rfl (by kernel_rfl) (fun w' hS=>?_) ?_;(rotate_left;(go_simp;with_reducible rfl);rotate_left)
      simp only[Act.put,sG]
      refine i7 rfl (by kernel_rfl) fun KK hKK=>?_
      go_simp;refine hKK _ _ (fun h=>by cases h) trivial ?_
      clear hKK KK p1 p2;refine o7 (NoPanic.normal ?_);go_wp2;go_ret;rw[HEZ.out];exact⟨rfl,HB5.out,fun _=>⟨_,_,_,HD5.out,by rw[<- HNU.out];exact HF5.out⟩⟩
  ·have HE:=hid (show R=(er,U,D) by rw[HE3.out,if_pos he])
   have her':(er != 0)=true:=bne_iff_ne.2 he;have HER:=hid he;clear he;go_wp2;go_ret;rw[HE.out];exact⟨rfl,HB3.out.mono hBN,fun h=>absurd h HER.out⟩
end Dc
namespace Dc
open Go.RowKit
set_option maxRecDepth 100000 in
theorem zlA (ao:Option Addr) (ac:Nat) (l:List Rg) (w:sN) (ha:RdR w ao l) (hl:l.length<=100000):
  sZ Tryz.prog 140 #[.slice ao l.length ac] w fun e w'=>∃v,e= .returned v/\w'.ownsRow w.heap.size 146 2 v (nt l).length (aI (nt l))/\sI w.heap.size w w':=by
 obtain⟨i0,hi,hz0,hz1,hz2⟩:=tc Tryz.infoRange;have HSO:=hid (lP ao ac l w ha hl);clear ha;go_enter Tryz.func140,Tryz.ntmps140;go_wp2_with fail;refine HSO.out.mono ?_;rintro e Wr ⟨v,rfl,o1,hB⟩;obtain⟨so,sc,rfl,hrd⟩:=zai o1;have HNT:=hid (show ntF 0 (nH l)=nt l from rfl)
 have hsl:=zay l;have HNF:=hid (dU l);obtain⟨s,hs⟩:∃s,nH l=s:=⟨_,rfl⟩;rw[hs] at HNT HNF hrd hsl⊢;have HRD:=hid hrd;have HB0:=hid hB;have hws:=hB.size;have hs5:s.length<=100000:=by omega
 clear hrd hB HSO hsl o1 hs;go_wp2;go_loopw [4,5,6] (fun v x i wq=>∃(k:Nat) (O:List Rg) (lo:Int),k<=s.length/\i= .int .i64 k/\x= .int .i32 lo/\0<=lo/\lo<=1114112/\Hid (wq.ownsRow Wr.heap.size 146 2 v O.length (aI O))/\Hid (Ntm s O k lo)/\O.length<=k/\Hid (sI Wr.heap.size Wr wq)) (fun _ _ i _=>s.length - (sS i).toNat)
 case atStart=>exact⟨0,[],0,by omega,rfl,rfl,by omega,by omega,sW _ _ _ _,rfl,by simp,sL _ _⟩
 case round=>
  obtain⟨k,O,lo,hk,rfl,rfl,hlo0,hlo1,HO,HMi,hok,HB⟩:=hrel;have hbs:=HB.out.size
  by_cases hlt:k<s.length
  ·obtain⟨gs,rfl,hgs,y0,y1⟩:=HRD.out k s[k] (sD hlt)
   obtain⟨b1,b2,b3⟩:=zmf HNF.out (sD hlt);unfold cL at b3
   replace y0:=(HB.out.cell (p:=gs.add (k * 2)) (by rw[add_blk];exact hgs)).trans y0
   replace y1:=(HB.out.cell (p:=⟨(gs.add (k * 2)).block,(gs.add (k * 2)).off+1,none⟩) (show(gs.add (k * 2)).block<_ by rw[add_blk];exact hgs)).trans y1
   have i3:(k:Int)<(s.length:Int):=by omega
   have hgw:gs.block<wr.heap.size:=by omega
   have HY:=hid (fun hc=>Ntm.yes hlt HMi.out hc)
   have HN:=hid (fun hc=>Ntm.no hlt HMi.out hc)
   generalize s[k].1=f0 at *
   generalize s[k].2=f1 at *
   have e1:IntKind.i32.wrap (f0 - 1)=f0 - 1:=by rw[IntKind.wrap_i32];omega
   have e2:IntKind.i32.wrap (f1+1)=f1+1:=by rw[IntKind.wrap_i32];omega
   by_cases hc:lo<f0
   ·have HY2:=hid (HY.out hc)
    clear HY HN HMi;have HY1:=hid (show ∀W,sI Wr.heap.size Wr W->W.cell? ⟨(gs.add (k * 2)).block,(gs.add (k * 2)).off+1,none⟩=some (.int .i32 f1) from fun W hW=>(hW.cell (p:=⟨(gs.add (k * 2)).block,(gs.add (k * 2)).off+1,none⟩) (show(gs.add (k * 2)).block<_ by rw[add_blk];exact hgs)).trans ((HB.out.cell (p:=⟨(gs.add (k * 2)).block,(gs.add (k * 2)).off+1,none⟩) (show(gs.add (k * 2)).block<_ by rw[add_blk];exact hgs)).symm.trans y1))
    go_wp2_with (at_builtin;refine tm _ rfl _ _ 125 rfl Wr.heap.size 146 i0 (.agg #[.int .i32 0,.int .i32 0]) 2 8 Tryz.underlying125 hi hz0 hz1 hz2 rfl (by decide) _ O.length (aI O) rfl (HO.out.alloc _) ⟨wr.heap.size,0,none⟩ 1 1 (rgc (lo,f0 - 1)) rfl rfl ?c1 ?c2 ?c3 ?c4 ?c5 ?_)
    case c1=>exact f9 _ (lo,f0 - 1) _ rfl
    case c2=>exact dZ _
    case c3=>unfold tg;omega
    case c4=>omega
    case c5=>simp;omega
    intro v2 w2 o2 gr2 _;have HO2:=hid (show w2.ownsRow Wr.heap.size 146 2 v2 (O++[(lo,f0 - 1)]).length (aI (O++[(lo,f0 - 1)])) by rw[cY,bF];exact o2)
    have HB2:=hid ((HB.out.alloc hbs (.cells #[.int .i32 lo,.int .i32 (f0 - 1)] 146)).grown gr2 (by simp;omega) (fun j hj=>(HO.out.lt j hj).1))
    have z1:=HY1.out w2 HB2.out;clear o2 gr2 y0 y1;go_wp2;go_roundw
    case rel=>exact⟨k+1,O++[(lo,f0 - 1)],f1+1,by omega,by go_num,by go_num,by omega,by omega,HO2,HY2,by rw[bF];omega,HB2⟩
    case measure=>simp[sS];omega
   ·have HN2:=hid (HN.out hc)
    clear HY HN HMi;go_wp2;go_roundw
    case rel=>exact⟨k+1,O,f1+1,by omega,by go_num,by go_num,by omega,by omega,HO,HN2,by omega,HB⟩
    case measure=>simp[sS];omega
  ·obtain⟨hd1,hd2⟩:=HMi.out.done hlt
   unfold cL at hd1 hd2
   by_cases hc:lo<=1114111
   ·have HD:=hid (hd1 hc)
    clear hd1 hd2 HMi;go_wp2_with (at_builtin;refine tm _ rfl _ _ 125 rfl Wr.heap.size 146 i0 (.agg #[.int .i32 0,.int .i32 0]) 2 8 Tryz.underlying125 hi hz0 hz1 hz2 rfl (by decide) _ O.length (aI O) rfl (HO.out.alloc _) ⟨wr.heap.size,0,none⟩ 1 1 (rgc (lo,1114111)) rfl rfl ?c1 ?c2 ?c3 ?c4 ?c5 ?_)
    case c1=>exact f9 _ (lo,1114111) _ rfl
    case c2=>exact dZ _
    case c3=>unfold tg;omega
    case c4=>omega
    case c5=>simp;omega
    intro v2 w2 o2 gr2 _;have HO2:=hid (show w2.ownsRow Wr.heap.size 146 2 v2 (O++[(lo,1114111)]).length (aI (O++[(lo,1114111)])) by rw[cY,bF];exact o2)
    have HB2:=hid ((HB.out.alloc hbs (.cells #[.int .i32 lo,.int .i32 1114111] 146)).grown gr2 (by simp;omega) (fun j hj=>(HO.out.lt j hj).1))
    clear o2 gr2;go_wp2;go_ret;exact⟨_,rfl,by rw[<- HNT.out,<- HD.out];exact aU HO2.out HB0.out.size,HB0.out.trans (HB2.out.mono HB0.out.size)⟩
   ·have HD:=hid (hd2 hc)
    clear hd1 hd2 HMi;go_wp2;go_ret;exact⟨_,rfl,by rw[<- HNT.out,<- HD.out];exact aU HO.out HB0.out.size,HB0.out.trans (HB.out.mono HB0.out.size)⟩
end Dc
namespace Dc
open Go.RowKit
def mj (D:List (List Rg)) (i:Nat):List Rg:=((D.take i).drop 1).flatten
theorem znV (D:List (List Rg)):mj D 1=[]:=by
 unfold mj
 cases D with
 | nil=>rfl
 | cons x D=>simp
theorem zkr (D:List (List Rg)) (i:Nat) (h1:1<=i) (hi:i<D.length):mj D (i+1)=mj D i++D[i]:=by
 unfold mj;rw[sX hi,List.drop_append_of_le_length (by rw[sO];omega)]
 simp
theorem znW (D:List (List Rg)) (i:Nat) (hi:D.length<=i):mj D i=(D.drop 1).flatten:=by
 unfold mj;rw[td hi]
theorem zqN (D:List (List Rg)) (i:Nat):(mj D i).length<=(D.drop 1).flatten.length:=by
 unfold mj;rw[List.drop_take];obtain⟨L,hL⟩:∃L,L=D.drop 1:=⟨_,rfl⟩;rw[<- hL];have e:L.flatten=(L.take (i - 1)).flatten++(L.drop (i - 1)).flatten:=by rw[<- List.flatten_append,te]
 rw[e,sH];omega
set_option maxRecDepth 100000 in
theorem zjb (B Q:Nat) (U:List (List UInt8)) (D:List (List Rg)) (nv sv:sU) (vs:List sU) (w:sN) (h:aX B Q U D nv sv vs w) (hB:B<=w.heap.size) (h1:1<=D.length) (hD1:D.length<=1000) (hD:(D.drop 1).flatten.length<=40000):
  sZ Tryz.prog 101 #[.pointer (some ⟨Q,0,none⟩)] w fun e w'=>e= .returned (.tuple #[])/\sI B w w'/\∃sv' vs',aX B Q U (D.set 0 (nt (D.drop 1).flatten)) nv sv' vs' w':=by
 obtain⟨i0,hi,hz0,hz1,hz2⟩:=tc Tryz.infoRange;have HR:=hid h;obtain⟨so,sc,rfl,hrd⟩:=h.rd;have HRD:=hid hrd;have c1:=h.c1;obtain⟨n,hn⟩:∃n,n=D.length:=⟨_,rfl⟩;have HN:=hid hn;rw[<- hn] at c1 h1 hD1;have hQ:=aK h.hQ;have HLE:=hid (zqN D);clear h hrd hn;go_enter Tryz.func101,Tryz.ntmps101;go_wp2;go_loopw [2,3] (fun v x wr=>∃i:Nat,1<=i/\i<=n/\x= .int .i64 (i:Int)/\Hid (wr.ownsRow w.heap.size 146 2 v (mj D i).length (aI (mj D i)))/\Hid (sI w.heap.size w wr)) (fun _ x _=>n - (sS x).toNat)
 case atStart=>exact⟨1,by omega,h1,rfl,by rw[znV];exact sW _ _ _ _,sL _ _⟩
 case round=>
  obtain⟨i,hi1,hin,rfl,HO,HBr⟩:=hrel;have d1:=(HBr.out.cell (p:=⟨Q,1,none⟩) hQ).trans c1;have hwr:=HBr.out.size
  by_cases hlt:i<n
  ·have i3:(i:Int)<(n:Int):=by omega
   have i0':(0:Int)<=(i:Int):=by omega
   have hiD:i<D.length:=by have h5:=HN.out;omega
   obtain⟨a,rfl,ha,ao,ac,a0,hra,hna⟩:=HRD.out.below HBr.out i D[i] (sD hiD);have HE:=hid (zkr D i hi1 hiD);have HRA:=hid hra;have HNA:=hid hna;have hl2:(mj D i).length+D[i].length<=40000:=by have h5:=HLE.out (i+1);rw[HE.out,sH] at h5;omega
   obtain⟨x,hx⟩:∃x,x=D[i]:=⟨_,rfl⟩;rw[<- hx] at a0 HRA HE hl2;obtain⟨y,hy⟩:∃y,y=mj D i:=⟨_,rfl⟩;rw[<- hy] at HO HE hl2;clear hra hna hiD hx hy;go_wp2_with (at_builtin;refine dz rfl _ _ 125 rfl w.heap.size 146 i0 (.agg #[.int .i32 0,.int .i32 0]) 8 Tryz.underlying125 hi hz0 hz1 hz2 (by rfl) _ y.length (aI y) rfl HO.out ao ac x rfl HNA.out HRA.out (by unfold tg;omega) (by omega) (by omega) ?_;intro v2 w2 o2 gr2;have HB2:=hid (HBr.out.grown gr2 hwr (fun k hk=>(HO.out.lt k hk).1));have HO2:=hid (show w2.ownsRow w.heap.size 146 2 v2 (y++x).length (aI (y++x)) by rw[zcs,sH];exact o2);clear o2 gr2)
   go_roundw
   case rel=>exact⟨i+1,by omega,by omega,by go_num,by rw[HE.out];exact HO2,HB2⟩
   case measure=>simp[sS];omega
  ·have i3:¬(i:Int)<(n:Int):=by omega
   have HE:=hid (znW D i (by have h5:=HN.out;omega))
   rw[HE.out] at HO;have HFL:=hid hD;obtain⟨x,hx⟩:∃x,x=(D.drop 1).flatten:=⟨_,rfl⟩;have HX:=hid hx;rw[<- hx] at HO HFL;obtain⟨xo,xc,rfl,hrx,_⟩:=eC HO.out;have HRr:=hid (HR.out.below HBr.out);obtain⟨q,cap,hq,_,hqs⟩:=HRr.out.hS.form (by have h5:=HN.out;omega)
   cases hq
   rw[<- HN.out] at HRr;have HNT:=hid (show sZ Tryz.prog 140 #[.slice xo x.length xc] wr.drew fun e w'=>∃v,e= .returned v/\w'.ownsRow wr.heap.size 146 2 v (nt x).length (aI (nt x))/\sI wr.heap.size wr.drew w' from zlA xo xc x wr.drew (hrx.below (fY wr)) (by have h5:=HFL.out;omega))
   have HC2:=hid (show ∀W',sI wr.heap.size wr W'->W'.cell? ⟨Q,1,none⟩=some (.slice (some ⟨q,0,none⟩) n sc) from fun W' hW=>(hW.cell (p:=⟨Q,1,none⟩) (Nat.lt_of_lt_of_le hQ hwr)).trans d1)
   have HHS:=hid (show wr.ownsRow B 125 1 (.slice (some ⟨q,0,none⟩) n sc) n vs by have h5:=HRr.out.hS;rw[<- HN.out] at h5;exact h5)
   have k1:(0:Int)<(n:Int):=by omega
   have hBW:B<=wr.heap.size:=by omega
   have k2:0<n:=by omega
   clear HO HE hrx HRD c1 hx;go_wp2;refine eh [(0,1),(1,1),(2,1),(3,0),(4,1),(5,2),(6,1),(7,2)] (fun W=>W.cell? ⟨Q,1,none⟩=some (.slice (some ⟨q,0,none⟩) n sc)) (fun _=>True) (fun j=>j==7) (by kernel_rfl) (by kernel_rfl) (fun j hj=>by simp at hj;rw[hj];decide) rfl (by kernel_rfl) (HC2.out _ (fY wr)) trivial ?_
   iterate 5 ((first | refine zfR ?_ rfl (by kernel_rfl) (fun w' hS=>?_) ?_ | refine lX ?_ rfl (by kernel_rfl) (fun w' hS=>?_) ?_);(rotate_left;(go_simp;with_reducible rfl);rotate_left))
   simp only[Act.put,sG]
   refine i7 rfl (by kernel_rfl) fun KK hKK=>?_
   go_simp;refine HNT.out.mono ?_;rintro e w5 ⟨v5,rfl,o5,b5⟩;have b5':sI wr.heap.size wr w5:=(fY wr).trans b5;have HR5:=hid (HRr.out.below b5');have HO5:=hid (aU o5 hBW);obtain⟨d5,f5,l5⟩:=HR5.out.store (c:=0) HN.out (by have h5:=HN.out;omega) HO5.out
   obtain⟨yo,yc,rfl⟩:=ik HO5.out;have HHS5:=hid (kM HHS.out b5');have p1:w5.cell? ⟨q,0,none⟩=vs[0]? :=HHS5.out.cellAt 0 (by omega)
   have p2:=HHS5.out.frozenAt 0;obtain⟨v0,hv0⟩:∃v0,vs[0]? =some v0:=⟨_,sD (by have h5:=HHS.out.1;omega)⟩
   rw[hv0] at p1;have HD5:=hid d5;have HB5:=hid (show sI B w _ from(((HBr.out.mono hB).trans (b5'.mono hBW))).trans l5)
   refine hKK _ _ (fun _=>HC2.out w5 b5') trivial ?_
   clear hKK KK o5 b5 b5' d5 f5 l5 HR5 HO5 hv0;refine lX ?_ rfl (by kernel_rfl) (fun w' hS=>?_) ?_;(rotate_left;(go_simp;with_reducible rfl);rotate_left)
   simp only[Act.put,sG]
   refine i7 rfl (by kernel_rfl) fun KK hKK=>?_
   go_simp;refine hKK _ _ (fun h=>by cases h) trivial ?_
   clear hKK KK p1 p2;refine o7 (NoPanic.normal ?_);refine bodyPost_end (v:=.tuple #[]) (by simp[results,Tryz.f101,go_sem]) rfl ?_
   exact⟨rfl,HB5.out,_,_,by rw[<- HX.out];exact HD5.out⟩
end Dc
namespace Dc
open Go.RowKit
structure LnI (t:List UInt8) (i f:Nat) (D:List (List UInt8)):Prop where
 eq:gQ t=D++gQ (t.drop f)
 le:f<=i
 no:(10:UInt8) ∉ (t.drop f).take (i - f)
theorem LnI.skip {t:List UInt8} {i f:Nat} {D:List (List UInt8)} (h:LnI t i f D) (hi:i<t.length) (hb:t[i]≠10):LnI t (i+1) f D:=by
 refine⟨h.eq,by have:=h.le;omega,?_⟩
 have hle:=h.le;have e:i+1 - f=(i - f)+1:=by omega
 have hlt:i - f<(t.drop f).length:=by rw[tb];omega
 rw[e,sX hlt];intro hm
 rcases tq.1 hm with h5 | h5
 ·exact h.no h5
 ·have h6:=ti.1 h5
  rw[List.getElem_drop] at h6;have e2:f+(i - f)=i:=by omega
  simp only[e2] at h6
  exact hb h6.symm
theorem LnI.cut {t:List UInt8} {i f:Nat} {D:List (List UInt8)} (h:LnI t i f D) (hi:i<t.length) (hb:t[i]=10):LnI t (i+1) (i+1) (D++[(t.drop f).take (i - f)]):=by
 have hle:=h.le;have hsp:t.drop f=(t.drop f).take (i - f)++10::t.drop (i+1):=by
  conv=>lhs;rw[<- te (i - f) (t.drop f)]
  rw[List.drop_drop,show f+(i - f)=i by omega,ta hi,hb]
 refine⟨?_,sJ _,by simp⟩
 rw[h.eq,List.append_assoc]
 conv=>lhs;rw[hsp]
 rw[zmo _ _ h.no]
 rfl
theorem LnI.done {t:List UInt8} {f:Nat} {D:List (List UInt8)} (h:LnI t t.length f D):gQ t=D++[t.drop f]:=by
 have h5:=h.no;rw[td (by rw[tb];exact sJ _)] at h5
 rw[h.eq,zmn _ h5]
theorem LnI.len {t:List UInt8} {i f:Nat} {D:List (List UInt8)} (h:LnI t i f D):D.length<=t.length+1:=by
 have h5:=zaG t;rw[h.eq,sH] at h5;omega
set_option maxRecDepth 100000 in
theorem zfw (t:List UInt8) (w:sN) (hl:t.length<=1000000):
  sZ Tryz.prog 99 #[.string ⟨t.toArray⟩] w fun e w'=>∃v',e= .returned v'/\w'.ownsRow w.heap.size 9 1 v' (gQ t).length (nms (gQ t))/\sI w.heap.size w w':=by
 obtain⟨i0,hi9,hz0,hz1,hz2⟩:=tc Tryz.infoStr;have HSZ:=hid (show(⟨t.toArray⟩:ByteArray).size=t.length by show t.toArray.size=_;simp)
 obtain⟨N,hNE⟩:∃N,N=w.heap.size:=⟨_,rfl⟩;have HNE:=hid hNE;have HB0:=hid (show sI N w w by rw[hNE];exact sL _ _)
 rw[<- hNE];clear hNE;go_enter Tryz.func99,Tryz.ntmps99;go_wp2;go_loopw [3,4,5] (fun x y z wr=>∃(i f m:Nat) (vo:Option Addr) (vc:Nat) (D:List (List UInt8)),x= .slice vo m vc/\y= .int .i64 (f:Int)/\z= .int .i64 (i:Int)/\i<=t.length/\f<=i/\Hid (LnI t i f D)/\Hid (m=D.length)/\Hid (wr.ownsRow N 9 1 (.slice vo m vc) m (nms D))/\Hid (sI N w wr)) (fun _ _ z _=>t.length - (sS z).toNat)
 case atStart=>exact⟨0,0,0,none,0,[],rfl,rfl,rfl,by omega,by omega,⟨rfl,by omega,by simp⟩,rfl,sW w N 9 1,HB0⟩
 case round=>
  obtain⟨i,f,m,vo,vc,D,rfl,rfl,rfl,hi,hf,HL,HM,HO,HB⟩:=hrel;have hwN:N<=wr.heap.size:=by have h5:=HNE.out;have h6:=HB.out.size;omega
  have hm1:m<=1000001:=by have h5:=HL.out.len;have h6:=HM.out;omega
  by_cases hlt:i<t.length
  ·have hszk:i<(⟨t.toArray⟩:ByteArray).size:=by rw[HSZ.out];exact hlt
   have i3:(i:Int)<(t.length:Int):=by omega
   have i4:(i:Int)<=(t.length:Int):=by omega
   have i0':(0:Int)<=(i:Int):=by omega
   have f0:(0:Int)<=(f:Int):=by omega
   have f1:(f:Int)<=(i:Int):=by omega
   have hq:(⟨t.toArray⟩:ByteArray)[i]'hszk=t[i]:=rfl
   by_cases hb:t[i]=10
   ·have HLC:=hid (HL.out.cut hlt hb)
    have hb':((t[i].toNat:Int)==10)=true:=by rw[hb];rfl
    have HX:=hid (show(⟨t.toArray⟩:ByteArray).extract f i=⟨((t.drop f).take (i - f)).toArray⟩ by
     have h5:=ext_mid t f (i - f);rw[show f+(i - f)=i by omega] at h5
     exact h5)
    generalize t[i]=b at *
    clear hb;go_wp2_with (at_builtin;refine sT _ rfl _ _ 66 rfl N 9 i0 (.string ⟨#[]⟩) 1 16 Tryz.underlying66 hi9 hz0 hz1 hz2 rfl (by decide) _ m (nms D) rfl (HO.out.alloc _) ⟨wr.heap.size,0,none⟩ 1 1 [.string ((⟨t.toArray⟩:ByteArray).extract f i)] rfl rfl (zfP wr ((⟨t.toArray⟩:ByteArray).extract f i) 9) (sx _) (by decide) (by unfold tg;omega) (by omega) (by simp;omega) (wr.heap.size+1) (by simp) ?_;intro q2 c2 w2 o2 gr2 hl2 hlt2)
    have HB2:=hid ((HB.out.alloc hwN (.cells #[.string ((⟨t.toArray⟩:ByteArray).extract f i)] 9)).grown gr2 (by simp;omega) (fun k hk=>(HO.out.lt k hk).1))
    have HO2:=hid (show w2.ownsRow N 9 1 (.slice (some ⟨q2,0,none⟩) (m+1) c2) (m+1) (nms (D++[(t.drop f).take (i - f)])) by rw[oW,<- HX.out];exact o2)
    clear o2 gr2 hl2 hlt2;go_roundw
    case rel=>exact⟨i+1,i+1,m+1,some ⟨q2,0,none⟩,c2,_,rfl,by go_num,by go_num,by omega,by omega,HLC,by show m+1=_;rw[sH,<- HM.out];rfl,HO2,HB2⟩
    case measure=>simp[sS];omega
   ·have HLC:=hid (HL.out.skip hlt hb)
    have hb':((t[i].toNat:Int)==10)=false:=beq_eq_false_iff_ne.2 (fun e=>hb (UInt8.toNat_inj.1 (show t[i].toNat=10 by omega)))
    generalize t[i]=b at *
    clear hb;go_wp2;go_roundw
    case rel=>exact⟨i+1,f,m,vo,vc,D,rfl,rfl,by go_num,by omega,by omega,HLC,HM,HO,HB⟩
    case measure=>simp[sS];omega
  ·have hit:i=t.length:=by omega
   subst hit;have i3:¬(t.length:Int)<(t.length:Int):=by omega
   have f0:(0:Int)<=(f:Int):=by omega
   have f1:(f:Int)<=(t.length:Int):=by omega
   have HLD:=hid HL.out.done;have HX:=hid (show(⟨t.toArray⟩:ByteArray).extract f t.length=⟨(t.drop f).toArray⟩ from ext_drop t f)
   go_wp2_with (at_builtin;refine sT _ rfl _ _ 66 rfl N 9 i0 (.string ⟨#[]⟩) 1 16 Tryz.underlying66 hi9 hz0 hz1 hz2 rfl (by decide) _ m (nms D) rfl (HO.out.alloc _) ⟨wr.heap.size,0,none⟩ 1 1 [.string ((⟨t.toArray⟩:ByteArray).extract f t.length)] rfl rfl (zfP wr ((⟨t.toArray⟩:ByteArray).extract f t.length) 9) (sx _) (by decide) (by unfold tg;omega) (by omega) (by simp;omega) (wr.heap.size+1) (by simp) ?_;intro q2 c2 w2 o2 gr2 hl2 hlt2)
   have HB2:=hid ((HB.out.alloc hwN (.cells #[.string ((⟨t.toArray⟩:ByteArray).extract f t.length)] 9)).grown gr2 (by simp;omega) (fun k hk=>(HO.out.lt k hk).1))
   have HO2:=hid (show w2.ownsRow N 9 1 (.slice (some ⟨q2,0,none⟩) (m+1) c2) (m+1) (nms (D++[t.drop f])) by rw[oW,<- HX.out];exact o2)
   clear o2 gr2 hl2 hlt2;go_ret;refine⟨_,rfl,?_,HB2.out⟩;rw[HLD.out,sH,<- HM.out];exact HO2.out
end Dc
namespace Dc
open Go.RowKit
theorem zqW (s b:List UInt8) (L:List Rg) (e:Int) (h:qf s=some (b,L,e)):L.length<=s.length:=by
 unfold qf at h
 split at h
 ·injection h with h;injection h with _ h;injection h with h _
  rw[<- h];have h5:=zas ((s.take (ff 59 s)).map tbl);rw[tp,sO] at h5;omega
 ·cases h
theorem iM:∀(D:List (List Rg)) (c:Nat),(D.getD c []).length<=fC D
 | [],c=>by simp[fC]
 | l::D,0=>by show l.length<=l.length+fC D;omega
 | l::D,c+1=>by
  have:=iM D c
  show(D.getD c []).length<=l.length+fC D
  omega
theorem zhg:∀(D E:List (List Rg)),fC (D++E)=fC D+fC E
 | [],E=>by simp[fC]
 | l::D,E=>by
  show l.length+fC (D++E)=l.length+fC D+fC E
  rw[zhg D E];omega
theorem zpM (D:List (List Rg)) (x:List Rg) (h:x∈D):x.length<=fC D:=by
 obtain⟨k,hk⟩:=List.mem_iff_getElem?.1 h;have h5:=iM D k;rw[sE,hk] at h5;exact h5
theorem zbO:∀(D:List (List Rg)),D.flatten.length=fC D
 | []=>rfl
 | l::D=>by rw[List.flatten_cons,sH,zbO D];rfl
theorem zkX (D:List (List Rg)):(D.drop 1).flatten.length<=fC D:=by
 rw[zbO]
 cases D with
 | nil=>exact sJ _
 | cons l D=>show fC D<=l.length+fC D;omega
theorem zhD (a b:List Rg):(mE a b).length<=a.length+b.length:=by
 unfold mE;have h:=zay (a++b);rw[sH] at h;exact h
theorem zrc (U:List (List UInt8)) (D:List (List Rg)) (b:List UInt8) (L:List Rg):fC (dcN U D b L).2.2<=fC D+L.length:=by
 unfold dcN
 split
 ·show fC D<=_;omega
 ·split
  ·show fC D<=_;omega
  ·dsimp only
   split
   ·have h1:=zhf D (U.idxOf b) (mE (D.getD (U.idxOf b) []) L)
    have h2:=zhD (D.getD (U.idxOf b) []) L;have h3:=iM D (U.idxOf b);omega
   ·rw[zhg]
    have h2:=zhD [] L
    show fC D+((mE [] L).length+0)<=_
    simp only[List.length_nil] at h2
    omega
theorem zrb (U:List (List UInt8)) (D:List (List Rg)) (l:List UInt8):fC (dcS U D l).2.2<=fC D+l.length:=by
 rw[zsh]
 split
 ·show fC D<=_;omega
 ·have h5:=zcn l
  cases h:qf (cE l) with
  | none=>show fC D<=_;omega
  | some x=>
   obtain⟨b,L,e⟩:=x;have h6:=zqW _ b L e h
   dsimp only[dcO]
   split
   ·show fC D<=_;omega
   ·split
    ·show fC D<=_;omega
    ·have h7:=zrc U D b L
     omega
theorem ziW (L:List (List UInt8)) (k:Nat) (x:List UInt8) (h:L[k]? =some x):kD (L.drop k)=x.length+kD (L.drop (k+1)):=by
 obtain⟨hk,rfl⟩:=sK.1 h;rw[ta hk]
 rfl
theorem zvT (w:sN) (a b c:Obj) (w':sN) (h:w'=((w.alloc a).alloc b).alloc c):w'.heap[w.heap.size]? =some a/\w'.heap[w.heap.size+1]? =some b/\w'.heap[w.heap.size+2]? =some c/\w'.heap.size=w.heap.size+3:=by
 subst h;refine⟨?_,?_,?_,by simp⟩
 ·rw[cC _ _ _ (by simp;omega),cC _ _ _ (by simp),heap_alloc_new]
 ·rw[cC _ _ _ (by simp)]
  have h5:=heap_alloc_new (w.alloc a) b;rw[sM] at h5;exact h5
 ·have h5:=heap_alloc_new ((w.alloc a).alloc b) c
  rw[sM,sM] at h5;exact h5
theorem zkv (w:sN):aX w.heap.size (w.heap.size+2) [oth] [[]] (.slice (some ⟨w.heap.size,0,none⟩) 1 1) (.slice (some ⟨w.heap.size+1,0,none⟩) 1 1) [.slice none 0 0]
  (((w.alloc (.cells #[.string ⟨#[79,116,104,101,114]⟩] 9)).alloc (.cells #[.slice none 0 0] 125)).alloc (.cells #[.slice (some ⟨w.heap.size,0,none⟩) 1 1,.slice (some ⟨w.heap.size+1,0,none⟩) 1 1] 91)):=by
 obtain⟨h0,h1,h2,_⟩:=zvT w (.cells #[.string ⟨#[79,116,104,101,114]⟩] 9) (.cells #[.slice none 0 0] 125) (.cells #[.slice (some ⟨w.heap.size,0,none⟩) 1 1,.slice (some ⟨w.heap.size+1,0,none⟩) 1 1] 91) _ rfl;refine⟨h2,⟨rfl,.inr ⟨w.heap.size,1,_,rfl,sJ _,h0,sJ _,by unfold tg;omega,rfl,rfl⟩⟩,⟨rfl,.inr ⟨w.heap.size+1,1,_,rfl,by omega,h1,sJ _,by unfold tg;omega,rfl,rfl⟩⟩,fun k l hk=>?_,by omega⟩
 have hk0:k=0:=by have h5:=(sK.1 hk).1;simp at h5;omega
 subst hk0
 cases hk
 exact⟨_,rfl,sW _ _ _ _⟩
theorem zqs:∀l:List UInt8,1<=(gQ l).length
 | []=>by simp[gQ]
 | b::l=>by
  rw[eM]
  split<;>simp
set_option maxRecDepth 100000 in
theorem zlB (t : List UInt8) (w : sN) (ht : t.length ≤ 12000 ∨ 65536 < t.length) :
    sZ Tryz.prog 69 #[.string ⟨t.toArray⟩] w fun e w' => sI w.heap.size w w' ∧
      (((nw t).1.1 ≠ 0 ∧ e = .returned (.tuple #[.pointer none, .int .i64 (nw t).1.1, .int .i64 ((nw t).1.2 : Int)])) ∨
       ((nw t).1.1 = 0 ∧ ∃ Q nv sv vs, e = .returned (.tuple #[.pointer (some ⟨Q, 0, none⟩), .int .i64 0, .int .i64 0]) ∧ aX w.heap.size Q (nw t).2.1 (dst (nw t).2.1.length (whl (nw t).2.2)) nv sv vs w')) := by
  have HSZ := hid (show (⟨t.toArray⟩ : ByteArray).size = t.length by show t.toArray.size = _; simp)
  by_cases hlong : 65536 < t.length
  · have HNW := hid (show nw t = ((1, 0), [oth], []) by unfold nw; rw [if_pos hlong])
    have hl' : (65536 : Int) < (t.length : Int) := by omega
    rw [HNW.out]
    clear hlong ht
    go_enter Tryz.func69, Tryz.ntmps69
    go_wp2
    go_ret3
    exact ⟨sL _ _, .inl ⟨by decide, rfl⟩⟩
  · have HNW := hid (show nw t = nwF 0 [oth] [] (gQ t) by unfold nw; rw [if_neg hlong])
    have hl' : ¬ (65536 : Int) < (t.length : Int) := by omega
    have htl : t.length ≤ 12000 := by omega
    obtain ⟨N, hN⟩ : ∃ N, N = w.heap.size := ⟨_, rfl⟩
    have HN := hid hN
    obtain ⟨W3, hW3⟩ : ∃ W3, W3 = ((w.alloc (.cells #[.string ⟨#[79, 116, 104, 101, 114]⟩] 9)).alloc (.cells #[.slice none 0 0] 125)).alloc (.cells #[.slice (some ⟨w.heap.size, 0, none⟩) 1 1, .slice (some ⟨w.heap.size + 1, 0, none⟩) 1 1] 91) := ⟨_, rfl⟩
    have HW3 := hid hW3
    have HD3 := hid (show aX N (N + 2) [oth] [[]] (.slice (some ⟨N, 0, none⟩) 1 1) (.slice (some ⟨N + 1, 0, none⟩) 1 1) [.slice none 0 0] W3 by rw [hW3, hN]; exact zkv w)
    have HB3 := hid (show sI N w W3 by rw [hW3, hN]; exact (((sL _ w).alloc (sJ _) _).alloc (by simp) _).alloc (by simp; omega) _)
    have hs3 : W3.heap.size = N + 3 := by rw [hW3, hN]; simp
    have HLI := hid (zfw t W3 (by omega))
    obtain ⟨L, hL⟩ : ∃ L, L = gQ t := ⟨_, rfl⟩
    have HLP := hid (show 1 ≤ L.length by rw [hL]; exact zqs t)
    have hLL : L.length ≤ 12001 := by rw [hL]; have h5 := zaG t; omega
    have HLM := hid (show ∀ x ∈ L, x.length ≤ t.length by rw [hL]; exact nL t)
    have HSU := hid (show kD L ≤ t.length by rw [hL]; exact zhj t)
    rw [← hL] at HLI HNW
    clear hlong ht hN hW3 hL
    go_enter Tryz.func69, Tryz.ntmps69
    go_wp2_with fail
    rw [← HW3.out]
    refine HLI.out.mono ?_
    rintro e w4 ⟨lv, rfl, o4, b4⟩
    have HD4 := hid (HD3.out.below b4)
    have HB4 := hid (show sI N w w4 from HB3.out.trans (b4.mono (by omega)))
    have hs4 := b4.size
    obtain ⟨lo, lc, rfl, _⟩ := nu o4 rfl
    have HO4 := hid o4
    obtain ⟨n, hn⟩ : ∃ n, n = L.length := ⟨_, rfl⟩
    have HNL := hid hn
    rw [← hn] at HO4 hLL ⊢
    rw [← HN.out]
    clear o4 b4 HLI HW3 HD3 HB3 hn
    go_wp2
    go_loopw [7, 8] (fun x _ wr => ∃ (k : Nat) (U : List (List UInt8)) (S : List Tr) (D : List (List Rg)) (nv sv : sU) (vs : List sU), x = .int .i64 (k : Int) ∧ k ≤ n ∧ Hid (nw t = nwF k U S (L.drop k)) ∧ Hid (zkP U S D) ∧ Hid (fC D + kD (L.drop k) ≤ t.length) ∧ Hid (aX N (N + 2) U D nv sv vs wr) ∧ Hid (wr.ownsRow W3.heap.size 9 1 (.slice lo n lc) n (nms L)) ∧ Hid (∀ y, (sV lo n lc).ownBlock = some y → nv.ownBlock ≠ some y) ∧ Hid (sI N w wr)) (fun x _ _ => n - (sS x).toNat)
    case atStart =>
      refine ⟨0, [oth], [], [[]], _, _, _, rfl, by omega, HNW, zgI, by show 0 + 0 + kD L ≤ t.length; have h5 := HSU.out; omega, HD4, HO4, fun y hy he => ?_, HB4⟩
      have h5 := (HO4.out.lt y hy).1
      have e2 : N = y := by simpa [sU.ownBlock] using he
      omega
    case round =>
      obtain ⟨k, U, S, D, nv, sv, vs, rfl, hk, HE, HBO, HTO, HDO, HOR, HNE, HBr⟩ := hrel
      have hwr := HBr.out.size
      have hNr : N ≤ wr.heap.size := by have h5 := HN.out; omega
      by_cases hlt : k < n
      · have hkL : k < L.length := by have h5 := HNL.out; omega
        have i3 : (k : Int) < (n : Int) := by omega
        have i0' : (0 : Int) ≤ (k : Int) := by omega
        obtain ⟨lo', lc', e', hrn⟩ := nu HOR.out HNL.out
        cases e'
        obtain ⟨a, rfl, ha, a0⟩ := hrn k L[k] (sD hkL)
        have HAT := hid (zsS k U S L k L[k] (sD hkL))
        have HSD := hid (ziW L k L[k] (sD hkL))
        have hxl := HLM.out L[k] (sP hkL)
        obtain ⟨x, hx⟩ : ∃ x, x = L[k] := ⟨_, rfl⟩
        rw [← hx] at a0 HAT HSD hxl
        have HTS := hid (zrb U D x)
        obtain ⟨q1, q2⟩ := zxA U S D x HBO.out
        have hU0 : 1 ≤ U.length := (sK.1 HBO.out.good.1).1
        have HLN := hid (zjh N (N + 2) U D nv sv vs x wr HDO.out hNr (by omega) HBO.out.len hU0 HBO.out.rel.1 (fun y hy => by have h5 := zpM D y hy; have h6 := HTO.out; omega))
        have HQ2 := hid q2
        have HQ1 := hid q1
        rw [q1] at HLN
        clear q1 q2 hrn hx hkL
        obtain ⟨er, her⟩ : ∃ er, er = (qj U S x).1 := ⟨_, rfl⟩
        have HER := hid her
        rw [← her] at HLN HQ2 HAT
        clear her
        by_cases he : er = 0
        · have HN5 := hid (show nw t = _ by rw [HE.out, HAT.out, if_pos he])
          obtain ⟨HU2, HB2⟩ := HQ2.out he
          rw [HU2] at HLN
          subst he
          go_wp2_with fail
          refine HLN.out.mono ?_
          rintro e w5 ⟨rfl, b5, hok⟩
          obtain ⟨nv', sv', vs', d5, f5⟩ := hok (by first | rfl | trivial)
          have HD5 := hid d5
          have HB5 := hid (HBr.out.trans b5)
          have HO5 := hid (cw HOR.out (fun y hy => f5.st y (HOR.out.lt y hy).2 (fun e => by subst e; exact aY HOR.out _ _ 91 HDO.out.hQ (by decide) hy) (HNE.out y hy) (fun cs f e => by obtain ⟨c, hc⟩ := iS HOR.out hy; rw [hc] at e; cases e)))
          have HN6 := hid (show ∀ y, (sV (some a) n lc).ownBlock = some y → nv'.ownBlock ≠ some y from fun y hy he => by
            rcases f5.nw y he with h5 | h5
            · exact HNE.out y hy h5
            · have h6 := (HOR.out.lt y hy).2; omega)
          have HB3 := hid HB2
          have HT5 := hid (show fC (dcS U D x).2.2 + kD (L.drop (k + 1)) ≤ t.length by have h5 := HTO.out; have h6 := HSD.out; have h7 := HTS.out; omega)
          clear hok d5 f5 b5 HLN HAT
          go_wp2
          go_roundw
          case rel => exact ⟨k + 1, _, _, _, nv', sv', vs', by go_num, by omega, HN5, HB3, HT5, HD5, HO5, HN6, HB5⟩
          case measure => simp [sS]; omega
        · have HN5 := hid (show nw t = ((er, k + 1), U, S) by rw [HE.out, HAT.out, if_neg he])
          have he' : (er != 0) = true := bne_iff_ne.2 he
          have HNZ := hid he
          clear he
          go_wp2_with fail
          refine HLN.out.mono ?_
          rintro e w5 ⟨rfl, b5, hok⟩
          have HB5 := hid (HBr.out.trans b5)
          clear hok b5 HLN HAT
          go_wp2
          go_ret3
          rw [HN5.out]
          exact ⟨by rw [← HN.out]; exact HB5.out, .inl ⟨HNZ.out, by go_num⟩⟩
      · have i3 : ¬ (k : Int) < (n : Int) := by omega
        have HN5 := hid (show nw t = ((0, 0), U, S) by rw [HE.out, List.drop_of_length_le (by have h5 := HNL.out; omega)]; rfl)
        have hU0 : 1 ≤ U.length := (sK.1 HBO.out.good.1).1
        have hDU := HBO.out.rel.1
        have hU64 := HBO.out.len
        obtain ⟨g1, g2, g3, g4⟩ := zkS U S HBO.out.good HBO.out.rs
        have HFI := hid (zox U.length S D hU0 HBO.out.rs HBO.out.good.2 g1 g2 HBO.out.rel)
        have HRE := hid (zjb N (N + 2) U D nv sv vs wr HDO.out hNr (by omega) (by omega) (by have h5 := zkX D; have h6 := HTO.out; omega))
        rw [HFI.out] at HRE
        clear g1 g2 g3 g4 HFI hDU
        go_wp2_with fail
        refine HRE.out.mono ?_
        rintro e w5 ⟨rfl, b5, sv', vs', d5⟩
        have HD5 := hid d5
        have HB5 := hid (HBr.out.trans b5)
        clear d5 b5 HRE
        go_wp2
        go_ret3
        rw [HN5.out]
        exact ⟨by rw [← HN.out]; exact HB5.out, .inr ⟨rfl, N + 2, nv, sv', vs', by go_num, by rw [← HN.out]; exact HD5.out⟩⟩
end Dc
namespace Dc
open Go.RowKit
theorem zgq (A:List Tr) (n:Nat) (hC:mw 0 A 1114112) (hc:∀g∈A,g.2.2<n) (r:Int) (h0:0<=r) (h1:r<=1114111):gtp r A<n:=by
 obtain⟨g,hg,h3,h4⟩:=zbk A 0 1114112 r hC (by omega) (by omega)
 rw[mi A 0 _ r g hC hg h3 h4];exact hc g hg
theorem zex (r:Int):0<=cd r/\cd r<=1114111:=by
 unfold cd
 split<;>omega
set_option maxRecDepth 100000 in
theorem zcp (B Q n:Nat) (U:List (List UInt8)) (A:List Tr) (nv sv:sU) (vs:List sU) (r:Int) (w:sN) (h:aX B Q U (dst n A) nv sv vs w) (hC:mw 0 A 1114112) (hc:∀g∈A,g.2.2<n) (hn:n<=1000) (hl:A.length<=10000000):
  sZ Tryz.prog 91 #[.pointer (some ⟨Q,0,none⟩),.int .i32 r] w fun e w'=>e= .returned (.int .i64 (gtp (cd r) A:Nat))/\w'=w:=by
 obtain⟨i1,i2⟩:=zex r;have HAS:=hid (fun k:Nat=>zqI A hC (cd r) k i1 i2)
 have HGN:=hid (zgq A n hC hc (cd r) i1 i2);obtain⟨G,hG⟩:∃G,G=gtp (cd r) A:=⟨_,rfl⟩;rw[<- hG] at HAS HGN⊢;have hn1:1<=n:=by have h5:=HGN.out;omega
 obtain⟨so,sc,rfl,hrd⟩:=h.rd;have HRD:=hid hrd;have c1:=h.c1;rw[zis] at c1;clear h hrd hG i1 i2 hC hc
 by_cases h1:r<0
 ·have HI:=hid (show cd r=65533 by unfold cd;rw[if_pos (.inl h1)])
  rw[HI.out] at HAS;clear HI;go_enter Tryz.func91,Tryz.ntmps91;go_wp2;go_loopw [5] (fun x wr=>∃k:Nat,1<=k/\k<=n/\x= .int .i64 (k:Int)/\Hid (∀j,1<=j->j<k->G≠j)/\wr=w) (fun x _=>n - (sS x).toNat)
  case atStart=>exact⟨1,by omega,by omega,rfl,fun j h1 h2=>by omega,rfl⟩
  case round=>
   obtain⟨k,hk1,hk,rfl,HJ,hw⟩:=hrel;subst hw
   by_cases hlt:k<n
   ·have i3:(k:Int)<(n:Int):=by omega
    have i0':(0:Int)<=(k:Int):=by omega
    obtain⟨a,rfl,ha,ao,ac,a0,hra,_⟩:=HRD.out k (jm (k:Int) A) (zbg n A k hlt);have HH:=hid (oG ao ac (jm (k:Int) A) 65533 wr hra (by have h5:=sB (k:Int) A;omega))
    rw[HAS.out k] at HH
    generalize (jm (k:Int) A).length=nx at *
    by_cases hG:G=k
    ·rw[decide_eq_true hG] at HH
     have HG:=hid hG;clear hG hra;go_wp2_with fail;refine HH.out.mono ?_;rintro e w2 ⟨rfl,hw⟩;obtain rfl:=hw.symm;clear HH;go_wp2;go_ret;exact⟨by rw[HG.out];rfl,rfl⟩
    ·rw[decide_eq_false hG] at HH
     have HZ:=hid (show ∀j,1<=j->j<k+1->G≠j from fun j h1 h2=>by
      by_cases h5:j<k
      ·exact HJ.out j h1 h5
      ·have h6:j=k:=by omega
       rw[h6];exact hG)
     clear hG hra;go_wp2_with fail;refine HH.out.mono ?_;rintro e w2 ⟨rfl,hw⟩;obtain rfl:=hw.symm;clear HH;go_wp2;go_roundw
     case rel=>exact⟨k+1,by omega,by omega,by go_num,HZ,trivial⟩
     case measure=>simp[sS];omega
   ·have i3:¬(k:Int)<(n:Int):=by omega
    have HG:=hid (show G=0 by
     apply sR
     intro h5;exact HJ.out G (by omega) (by have h6:=HGN.out;omega) rfl)
    go_wp2;go_ret;exact⟨by rw[HG.out];rfl,rfl⟩
 by_cases h2:1114111<r
 ·have HI:=hid (show cd r=65533 by unfold cd;rw[if_pos (.inr h2)])
  rw[HI.out] at HAS;clear HI;go_enter Tryz.func91,Tryz.ntmps91;go_wp2;go_loopw [5] (fun x wr=>∃k:Nat,1<=k/\k<=n/\x= .int .i64 (k:Int)/\Hid (∀j,1<=j->j<k->G≠j)/\wr=w) (fun x _=>n - (sS x).toNat)
  case atStart=>exact⟨1,by omega,by omega,rfl,fun j h1 h2=>by omega,rfl⟩
  case round=>
   obtain⟨k,hk1,hk,rfl,HJ,hw⟩:=hrel;subst hw
   by_cases hlt:k<n
   ·have i3:(k:Int)<(n:Int):=by omega
    have i0':(0:Int)<=(k:Int):=by omega
    obtain⟨a,rfl,ha,ao,ac,a0,hra,_⟩:=HRD.out k (jm (k:Int) A) (zbg n A k hlt);have HH:=hid (oG ao ac (jm (k:Int) A) 65533 wr hra (by have h5:=sB (k:Int) A;omega))
    rw[HAS.out k] at HH
    generalize (jm (k:Int) A).length=nx at *
    by_cases hG:G=k
    ·rw[decide_eq_true hG] at HH
     have HG:=hid hG;clear hG hra;go_wp2_with fail;refine HH.out.mono ?_;rintro e w2 ⟨rfl,hw⟩;obtain rfl:=hw.symm;clear HH;go_wp2;go_ret;exact⟨by rw[HG.out];rfl,rfl⟩
    ·rw[decide_eq_false hG] at HH
     have HZ:=hid (show ∀j,1<=j->j<k+1->G≠j from fun j h1 h2=>by
      by_cases h5:j<k
      ·exact HJ.out j h1 h5
      ·have h6:j=k:=by omega
       rw[h6];exact hG)
     clear hG hra;go_wp2_with fail;refine HH.out.mono ?_;rintro e w2 ⟨rfl,hw⟩;obtain rfl:=hw.symm;clear HH;go_wp2;go_roundw
     case rel=>exact⟨k+1,by omega,by omega,by go_num,HZ,trivial⟩
     case measure=>simp[sS];omega
   ·have i3:¬(k:Int)<(n:Int):=by omega
    have HG:=hid (show G=0 by
     apply sR
     intro h5;exact HJ.out G (by omega) (by have h6:=HGN.out;omega) rfl)
    go_wp2;go_ret;exact⟨by rw[HG.out];rfl,rfl⟩
 ·have HI:=hid (show cd r=r by unfold cd;rw[if_neg (by omega)])
  rw[HI.out] at HAS;clear HI;go_enter Tryz.func91,Tryz.ntmps91;go_wp2;go_loopw [5] (fun x wr=>∃k:Nat,1<=k/\k<=n/\x= .int .i64 (k:Int)/\Hid (∀j,1<=j->j<k->G≠j)/\wr=w) (fun x _=>n - (sS x).toNat)
  case atStart=>exact⟨1,by omega,by omega,rfl,fun j h1 h2=>by omega,rfl⟩
  case round=>
   obtain⟨k,hk1,hk,rfl,HJ,hw⟩:=hrel;subst hw
   by_cases hlt:k<n
   ·have i3:(k:Int)<(n:Int):=by omega
    have i0':(0:Int)<=(k:Int):=by omega
    obtain⟨a,rfl,ha,ao,ac,a0,hra,_⟩:=HRD.out k (jm (k:Int) A) (zbg n A k hlt);have HH:=hid (oG ao ac (jm (k:Int) A) r wr hra (by have h5:=sB (k:Int) A;omega))
    rw[HAS.out k] at HH
    generalize (jm (k:Int) A).length=nx at *
    by_cases hG:G=k
    ·rw[decide_eq_true hG] at HH
     have HG:=hid hG;clear hG hra;go_wp2_with fail;refine HH.out.mono ?_;rintro e w2 ⟨rfl,hw⟩;obtain rfl:=hw.symm;clear HH;go_wp2;go_ret;exact⟨by rw[HG.out];rfl,rfl⟩
    ·rw[decide_eq_false hG] at HH
     have HZ:=hid (show ∀j,1<=j->j<k+1->G≠j from fun j h1 h2=>by
      by_cases h5:j<k
      ·exact HJ.out j h1 h5
      ·have h6:j=k:=by omega
       rw[h6];exact hG)
     clear hG hra;go_wp2_with fail;refine HH.out.mono ?_;rintro e w2 ⟨rfl,hw⟩;obtain rfl:=hw.symm;clear HH;go_wp2;go_roundw
     case rel=>exact⟨k+1,by omega,by omega,by go_num,HZ,trivial⟩
     case measure=>simp[sS];omega
   ·have i3:¬(k:Int)<(n:Int):=by omega
    have HG:=hid (show G=0 by
     apply sR
     intro h5;exact HJ.out G (by omega) (by have h6:=HGN.out;omega) rfl)
    go_wp2;go_ret;exact⟨by rw[HG.out];rfl,rfl⟩
end Dc
namespace Dc
def chn (d:Int) (r:Int):List (Int × Int × Int)->Int
 | []=>d
 | g::L=>if g.1<=r/\r<=g.2.1 then g.2.2 else chn d r L
def okc (c d:Int):Int->Int->List (Int × Int × Int)->Bool
 | _,_,[]=>d==c
 | lo,hi,g::L=>if hi<g.1\/g.2.1<lo then okc c d lo hi L else (g.2.2==c)&&(decide (g.1<=lo) || okc c d lo (g.1 - 1) L)&&(decide (hi<=g.2.1) || okc c d (g.2.1+1) hi L)
theorem iZ (c d r:Int):∀(L:List (Int × Int × Int)) (lo hi:Int),lo<=r->r<=hi->okc c d lo hi L=true->chn d r L=c
 | [],_,_,_,_,h=>by
  show d=c
  simpa[okc] using h
 | g::L,lo,hi,h1,h2,h=>by
  unfold okc at h;unfold chn
  split at h
  ·rw[if_neg (by omega)]
   exact iZ c d r L lo hi h1 h2 h
  ·rw[sQ,sQ] at h
   by_cases c1:g.1<=r/\r<=g.2.1
   ·rw[if_pos c1]
    exact eq_of_beq h.1.1
   ·rw[if_neg c1]
    by_cases c2:r<g.1
    ·rcases sY.1 h.1.2 with h5 | h5
     ·have h6:=of_decide_eq_true h5
      omega
     ·exact iZ c d r L _ _ h1 (by omega) h5
    ·rcases sY.1 h.2 with h5 | h5
     ·have h6:=of_decide_eq_true h5
      omega
     ·exact iZ c d r L _ _ (by omega) h2 h5
def chk (L:List (Int × Int × Int)) (d a b:Int):Int->List Tr->Bool
 | nx,[]=>decide (b<nx)
 | nx,g::R=>(decide (min (g.2.1:Int) b<max nx a) || okc (g.2.2:Int) d (max nx a) (min (g.2.1:Int) b) L)&&chk L d a b ((g.2.1:Int)+1) R
theorem dC (L:List (Int × Int × Int)) (d a b r:Int) (h1:a<=r) (h2:r<=b):∀(A:List Tr) (nx:Int),nx<=r->chk L d a b nx A=true->chn d r L=(gtp r A:Int)
 | [],nx,hn,h=>by
  unfold chk at h;have h5:=of_decide_eq_true h;omega
 | g::R,nx,hn,h=>by
  unfold chk at h;rw[sQ] at h;unfold gtp
  by_cases hc:(g.2.1:Int)<r
  ·rw[if_pos hc]
   exact dC L d a b r h1 h2 R _ (by omega) h.2
  ·rw[if_neg hc]
   rcases sY.1 h.1 with h5 | h5
   ·have h6:=of_decide_eq_true h5
    omega
   ·exact iZ _ d r L _ _ (by omega) (by omega) h5
theorem pI (r a:Int):(r=a)=(a<=r/\r<=a):=propext ⟨fun h=>by omega,fun h=>by omega⟩
def zrg:Nat->List Tr->Nat->Bool
 | a,[],b=>a==b
 | a,g::R,b=>(g.1==a)&&decide (g.1<=g.2.1)&&zrg (g.2.1+1) R b
theorem pN:∀(A:List Tr) (a b:Nat),zrg a A b=true->mw a A b
 | [],a,b,h=>by
  unfold zrg at h;exact eq_of_beq h
 | g::R,a,b,h=>by
  unfold zrg at h;rw[sQ,sQ] at h;exact⟨eq_of_beq h.1.1,of_decide_eq_true h.1.2,pN R _ _ h.2⟩
def clsB (n:Nat) (A:List Tr):Bool:=A.all fun g=>decide (g.2.2<n)
theorem zgE {n:Nat} {A:List Tr} (h:clsB n A=true):∀g∈A,g.2.2<n:=fun g hg=>of_decide_eq_true (List.all_eq_true.1 h g hg)
end Dc
namespace Dc
open Go.RowKit
def Bk (U:List (List UInt8)) (A:List Tr) (Q:Nat) (w:sN):Prop:=∃B nv sv vs,aX B Q U (dst U.length A) nv sv vs w
theorem Bk.below {U:List (List UInt8)} {A:List Tr} {Q:Nat} {w w':sN} (h:Bk U A Q w) (hb:sI w.heap.size w w'):Bk U A Q w':=by
 obtain⟨B,nv,sv,vs,h⟩:=h;exact⟨B,nv,sv,vs,h.below hb⟩
theorem Bk.names {U:List (List UInt8)} {A:List Tr} {Q:Nat} {w:sN} (h:Bk U A Q w) (k:Nat) (b:List UInt8) (hk:U[k]? =some b):∃a ac,w.cell? ⟨Q,0,none⟩=some (.slice (some a) U.length ac)/\w.cell? (a.add k)=some (.string ⟨b.toArray⟩):=by
 obtain⟨B,nv,sv,vs,h⟩:=h;obtain⟨ao,ac,rfl,hr⟩:=nu h.hN rfl;obtain⟨a,rfl,_,h2⟩:=hr k b hk;exact⟨a,ac,h.c0,h2⟩
theorem zpX (s:ByteArray) (t:List UInt8) (w:sN) (hs:s=⟨t.toArray⟩) (ht:t.length<=12000\/65536<t.length) (U:List (List UInt8)) (S:List Tr) (W:List Tr) (hn:nw t=((0,0),U,S)) (hw:whl S=W):
  sZ Tryz.prog 69 #[.string s] w fun e w'=>sI w.heap.size w w'/\∃Q,e= .returned (.tuple #[.pointer (some ⟨Q,0,none⟩),.int .i64 0,.int .i64 0])/\Bk U W Q w':=by
 subst hs;refine(zlB t w ht).mono ?_;rintro e w' ⟨hb,h⟩;rw[hn,hw] at h;refine⟨hb,?_⟩
 rcases h with ⟨h1,_⟩ | ⟨_,Q,nv,sv,vs,h1,h2⟩
 ·exact absurd rfl h1
 ·exact⟨Q,h1,_,nv,sv,vs,h2⟩
end Dc
end Go.Proofs.YtbbapnpdfcgjnaaGreatDoor
