/- DcE, DbMath, DbBk: parts of the proof, joined. -/
import Derived.Test.YtbbapnpdfcgjnaaGreatDoorNMix
import Derived.Test.YtbbapnpdfcgjnaaGreatDoorNDcD
open List renaming getElem?_eq_getElem->sH, getD_eq_getElem?_getD->sI, setIfInBounds_toArray->sJ, length_append->sK, getElem?_eq_some_iff->sN, length_take->sR, getElem_mem->sS, take_succ_eq_append_getElem->ta, drop_eq_getElem_cons->te, length_drop->tf, take_of_length_le->ti, take_append_drop->tj, mem_singleton->tn, length_map->tu, mem_append->tw, mem_range->tz
open Go.RowKit renaming Below->sL, intOf->sV
open Nat renaming le_refl->sM, sub_self->tB
open Go.RowKit.Below renaming refl->sO
open Go.World renaming size_alloc->sP, ownsRow_nil->sZ, setCell->tA
open Go renaming World->sQ, wpList_append_lies->sW, Value->sX, Calls->td, info_parts->tg, maxLen->tm, wpList_append_own->tr
open Bool renaming and_eq_true->sT, or_eq_true_iff->tc
open Classical renaming byContradiction->sU
open Go.Value renaming slice->sY
set_option maxHeartbeats 64000000
namespace Go.Proofs.YtbbapnpdfcgjnaaGreatDoor
namespace Dc
open Go.RowKit
theorem Tryz.infoLRange:(Tryz.prog.info? 125).map (fun i=>(i.zero,i.size,i.bytes))=some (some (.slice none 0 0),1,24):=by kernel_rfl
theorem zbP (s:ByteArray) (l m:List UInt8) (hm:m=rQ l) (w:sQ) (hs:s=⟨l.toArray⟩) (hl:l.length<=1000000000):
  td Tryz.prog 133 #[.string s] w fun e w'=>e= .returned (.string ⟨m.toArray⟩)/\w'=w:=by
 subst hs hm;exact zky l w (by omega)
theorem ziC (s:ByteArray) (l r:List UInt8) (hr:r=l.map tbl) (w:sQ) (hs:s=⟨l.toArray⟩) (hl:l.length<=100000):
  td Tryz.prog 136 #[.string s] w fun e w'=>e= .returned (.string ⟨r.toArray⟩)/\sL w.heap.size w w':=by
 subst hs hr;exact zeW l w (by omega)
theorem zfs (w:sQ) (b:sX) (T:TypeId):∀j u,[b][j]? =some u->(w.alloc (.cells #[b] T)).cell? ((⟨w.heap.size,0,none⟩:Addr).add j)=some u:=sQ.news_of_block (cs:=#[b]) (heap_alloc_new w _)
theorem zpL (w:sQ) (H:Nat) (hH:w.heap.size=H) (b:sX) (T:TypeId):∀j u,[b][j]? =some u->(w.alloc (.cells #[b] T)).cell? ((⟨H,0,none⟩:Addr).add j)=some u:=by
 subst hH;exact zfs w b T
theorem zeT (b:sX) (h:b.oneCell'=true:=by rfl):∀v∈ [b],v.oneCell'=true:=fun v hv=>by
 simp at hv;subst hv;exact h
theorem hsw {B Q n sc:Nat} {U:List (List UInt8)} {D:List (List Rg)} {nv:sX} {so:Option Addr} {vs:List sX} {w:sQ} (h:aW B Q U D nv (.slice so n sc) vs w) (hn:n=D.length):w.ownsRow B 125 1 (.slice so n sc) n vs:=by
 have h5:=h.hS;rw[<- hn] at h5;exact h5
theorem hsz4 {B:Nat} {w w':sQ} {o:Obj} (h:w.heap.size<=w'.heap.size) (hB:B<=w.heap.size):B<=(w'.alloc o).heap.size:=by
 rw[sP];omega
theorem hq6 {B Q n sc:Nat} {U:List (List UInt8)} {D:List (List Rg)} {nv:sX} {so:Option Addr} {vs:List sX} {w w2:sQ} {o:Obj} (h:aW B Q U D nv (.slice so n sc) vs w) (gr:(w.alloc o).grownBy w2 (sY so n sc).ownBlock):w2.cell? ⟨Q,1,none⟩=some (.slice so n sc)/\w2.frozen? ⟨Q,1,none⟩=false:=by
 have hQ2:w2.heap[Q]? =some (.cells #[nv,.slice so n sc] 91 (0,0)):=(gr.block Q (by rw[sP];have h5:=aJ h.hQ;omega) (fun e=>aX h.hS Q _ 91 h.hQ (by decide) e.symm)).trans ((cw w _ Q (aJ h.hQ)).trans h.hQ)
 exact⟨cell_row w2 Q 1 [_,_] 91 _ hQ2 rfl,frozen_row hQ2 1⟩
theorem zns {B Q n sc q2 c2:Nat} {U:List (List UInt8)} {D:List (List Rg)} {nv:sX} {so:Option Addr} {vs:List sX} {w w2:sQ} {o:Obj} (h:aW B Q U D nv (.slice so n sc) vs w) (hn:n=D.length) (o2:w2.ownsRow B 125 1 (.slice (some ⟨q2,0,none⟩) (n+1) c2) (n+1) (vs++[.slice none 0 0])) (gr:(w.alloc o).grownBy w2 (sY so n sc).ownBlock):
  aW B Q U (D++[[]]) nv (.slice (some ⟨q2,0,none⟩) (n+1) c2) (vs++[.slice none 0 0]) (w2.setCell ⟨Q,1,none⟩ (.slice (some ⟨q2,0,none⟩) (n+1) c2))/\fY Q nv nv w (w2.setCell ⟨Q,1,none⟩ (.slice (some ⟨q2,0,none⟩) (n+1) c2))/\sL B w (w2.setCell ⟨Q,1,none⟩ (.slice (some ⟨q2,0,none⟩) (n+1) c2)):=by
 obtain⟨r1,r2,r3⟩:=h.grown hn ((sO _ w).alloc (sM _) o) o2 gr;exact⟨r1,r2,((sO B w).alloc (by have h5:=aJ h.hQ;have h6:=h.bQ;omega) _).trans r3⟩
theorem zvG {B Q:Nat} {U:List (List UInt8)} {D:List (List Rg)} {nv nv' sv:sX} {vs:List sX} {w w':sQ} (h:aW B Q U D nv sv vs w) (hf:fY Q nv nv' w w') {B' s n:Nat} {v:sX} {xs:List sX} (hr:w.ownsRow B' 146 s v n xs):w'.ownsRow B' 146 s v n xs:=
 cu hr (fun b hb=>hf.st b (hr.lt b hb).2 (fun e=>by subst e;exact aX hr b _ 91 h.hQ (by decide) hb) (fun e=>oq h.hN hr (by decide) e hb) (fun cs f e=>by obtain⟨c,hc⟩:=iJ hr hb;rw[hc] at e;cases e))
theorem zvj (l:List UInt8) (h:¬(lw l).2<0):(lw l).2.toNat<(l.take (lw l).1).length:=by
 have e2:=zib l;have hl:(l.take (fb 35 l)).length=fb 35 l:=by rw[sR];have:=zaI 35 l;omega
 rw[zic,hl]
 by_cases hc:fb 59 (l.take (fb 35 l))<fb 35 l
 ·rw[if_pos hc] at e2
  rw[e2];exact hc
 ·rw[if_neg hc] at e2
  omega
theorem zeB (D:List (List Rg)) (c:Nat) (L:List Rg):∀j,j<1->iz D c L j=false:=fun j hj=>by
 have h:j=0:=by omega
 subst h
 rfl
theorem zig (D:List (List Rg)) (n c:Nat) (L:List Rg) (h:∀j,j<n->iz D c L j=false):zaU D n c L=false:=by
 unfold zaU;rw[List.any_eq_false];intro x hx;rw[h x (tz.1 hx)]
 decide
theorem zeA (D:List (List Rg)) (n c:Nat) (L:List Rg) (j:Nat) (hj:j<n) (h:iz D c L j=true):zaU D n c L=true:=by
 unfold zaU;exact List.any_eq_true.2 ⟨j,tz.2 hj,h⟩
set_option maxRecDepth 100000 in
theorem ziJ (B Q:Nat) (U:List (List UInt8)) (D:List (List Rg)) (nv sv:sX) (vs:List sX) (l:List UInt8) (w:sQ) (h:aW B Q U D nv sv vs w) (hB:B<=w.heap.size) (hl:l.length<=12000) (hU:U.length<=64) (hU0:1<=U.length) (hUD:D.length=U.length) (hD:∀x∈D,x.length<=20000):
  td Tryz.prog 100 #[.pointer (some ⟨Q,0,none⟩),.string ⟨l.toArray⟩] w fun e w'=>e= .returned (.int .i64 (dcS U D l).1)/\sL B w w'∧
   ((dcS U D l).1=0->∃nv' sv' vs',aW B Q (dcS U D l).2.1 (dcS U D l).2.2 nv' sv' vs' w'/\fY Q nv nv' w w'):=by
 obtain⟨i9,hi9,hz90,hz91,hz92⟩:=tg Tryz.infoStr;obtain⟨i47,hi47,hz470,hz471,hz472⟩:=tg Tryz.infoLRange;have HR:=hid h;obtain⟨N,hN⟩:∃N,N=w.heap.size:=⟨_,rfl⟩;have HN:=hid hN;have hBN:B<=N:=by omega
 obtain⟨R,hR⟩:∃R,R=dcS U D l:=⟨_,rfl⟩;rw[<- hR];unfold dcS at hR;have hzl:=zvj l;obtain⟨z,hz⟩:∃z,z=(lw l).2:=⟨_,rfl⟩;obtain⟨s,hs⟩:∃s,s=l.take (lw l).1:=⟨_,rfl⟩;have hsl:s.length<=12000:=by rw[hs,sR];omega
 have HCU:=hid (zlo l w (by omega))
 rw[<- hs,<- hz] at hR hzl;rw[<- hs,<- hz] at HCU;obtain⟨t,ht⟩:∃t,t=rQ s:=⟨_,rfl⟩;have HT1:=hid (show ∀W,td Tryz.prog 133 #[.string ⟨s.toArray⟩] W fun e w'=>e= .returned (.string ⟨t.toArray⟩)/\w'=W from fun W=>zbP _ s t ht W rfl (by omega))
 rw[<- ht] at hR;have HR':=hid hR;have HZL:=hid hzl;have HSZ:=hid (show(⟨s.toArray⟩:ByteArray).size=s.length by show s.toArray.size=_;simp)
 clear hs ht hR hzl h hz hN;go_enter Tryz.func100,Tryz.ntmps100;go_wp2_with fail;refine HCU.out.mono ?_;rintro e w1 ⟨rfl,b1⟩;have HB1:=hid (show sL N w w1 by rw[HN.out];exact b1)
 clear b1 HCU;go_wp2_with fail;refine(HT1.out w1).mono ?_;rintro e w1' ⟨rfl,hw⟩;obtain rfl:=hw.symm;clear HT1
 by_cases hz0:t=[]
 ·have HE:=hid (show R=(0,U,D) by rw[HR'.out,if_pos hz0])
  subst hz0;go_wp2;go_ret;rw[HE.out];exact⟨rfl,HB1.out.mono hBN,fun _=>⟨nv,sv,vs,HR.out.below (by rw[<- HN.out];exact HB1.out),.of_below (by rw[<- HN.out];exact HB1.out)⟩⟩
 have hie:t.isEmpty=false:=by cases t with | nil=>exact absurd rfl hz0 | cons=>rfl
 have HE1:=hid (show R=_ by rw[HR'.out,if_neg hz0])
 clear hz0 HR'
 by_cases hneg:z<0
 ·have HE:=hid (show R=(42,U,D) by rw[HE1.out,if_pos hneg])
  go_wp2;go_ret;rw[HE.out];exact⟨rfl,HB1.out.mono hBN,fun h=>by cases h⟩
 have HE2:=hid (show R=_ by rw[HE1.out,if_neg hneg])
 have hml:=HZL.out (by omega)
 obtain⟨m,rfl⟩:∃m:Nat,z=(m:Int):=⟨z.toNat,by omega⟩
 rw[Int.toNat_natCast] at hml;have HTN:=hid (show((m:Int)).toNat=m from Int.toNat_natCast m)
 rw[HTN.out] at HE2;obtain⟨b,hb⟩:∃b,b=rQ (s.drop (m+1)):=⟨_,rfl⟩;have hbl:b.length<=12000:=by rw[hb];have h5:=zgK (s.drop (m+1));rw[tf] at h5;omega
 obtain⟨sp,hsp⟩:∃sp,sp=(s.take m).map tbl:=⟨_,rfl⟩;have hspl:sp.length<=12000:=by rw[hsp,tu,sR];omega
 rw[<- hb,<- hsp] at HE2;have HT2:=hid (show ∀W,td Tryz.prog 133 #[.string ((⟨s.toArray⟩:ByteArray).extract (m+1) s.length)] W fun e w'=>e= .returned (.string ⟨b.toArray⟩)/\w'=W from fun W=>zbP _ (s.drop (m+1)) b hb W (ext_drop s (m+1)) (by simp;omega))
 have HSP:=hid (show ∀W,td Tryz.prog 136 #[.string ((⟨s.toArray⟩:ByteArray).extract 0 m)] W fun e w'=>e= .returned (.string ⟨sp.toArray⟩)/\sL W.heap.size W w' from fun W=>ziC _ (s.take m) sp hsp W (ext_take s m) (by simp;omega))
 have HPA:=hid (fun W=>zeZ sp W (by omega))
 have HGL:=hid (show(kB sp).1.length<=12000 by have h5:=zab sp;omega)
 obtain⟨G,hG⟩:∃G,G=(kB sp).1:=⟨_,rfl⟩;obtain⟨er,her⟩:∃er,er=(kB sp).2.1:=⟨_,rfl⟩;obtain⟨ep,hep⟩:∃ep,ep=(kB sp).2.2:=⟨_,rfl⟩;rw[<- hG,<- her] at HE2;rw[<- hG] at HGL;rw[<- hG,<- her,<- hep] at HPA;have HNA:=hid (show ∀W,td Tryz.prog 134 #[.string ⟨b.toArray⟩] W fun e w'=>e= .returned (.bool (p7 b))/\w'=W from fun W=>ziI b W (by omega))
 have e1:IntKind.i64.wrap ((m:Int)+1)=((m+1:Nat):Int):=by rw[IntKind.wrap_i64];omega
 have j1:(m:Int)+1<=(s.length:Int):=by omega
 have j0:(0:Int)<=(m:Int)+1:=by omega
 have j2:(m:Int)<=(s.length:Int):=by omega
 have j3:(0:Int)<=(m:Int):=by omega
 clear HZL HE1 hb hsp hG her hep HTN;go_wp2_with fail;refine(HT2.out w1).mono ?_;rintro e w1' ⟨rfl,hw⟩;obtain rfl:=hw.symm;clear HT2;go_wp2_with fail;refine(HNA.out w1).mono ?_;rintro e w1' ⟨rfl,hw⟩;obtain rfl:=hw.symm;clear HNA
 cases hna:p7 b with
 | false=>
  have HE:=hid (show R=(40,U,D) by rw[HE2.out,if_pos (.inl hna)])
  clear hna;go_wp2;go_ret;rw[HE.out];exact⟨rfl,HB1.out.mono hBN,fun h=>by cases h⟩
 | true=>
  by_cases ho:b=oth
  ·have HE:=hid (show R=(40,U,D) by rw[HE2.out,if_pos (.inr ho)])
   subst ho;clear hna;go_wp2;go_ret;rw[HE.out];exact⟨rfl,HB1.out.mono hBN,fun h=>by cases h⟩
  have HE3:=hid (show R=_ by rw[HE2.out,if_neg (by rw[hna];rintro (h | h);cases h;exact ho h)])
  have ho':(b== [79,116,104,101,114])=false:=by
   rw[beq_eq_false_iff_ne];exact ho
  clear HE2 ho hna;go_wp2_with fail;refine(HSP.out w1).mono ?_;rintro e w2 ⟨rfl,b2⟩;have HB2:=hid (HB1.out.trans (b2.mono (by have h5:=HN.out;have h6:=HB1.out.size;omega)))
  clear b2 HB1 HSP ho';go_wp2_with fail;refine(HPA.out w2).mono ?_;rintro e w3 ⟨v3,rfl,o3,b3⟩;have HB3:=hid (HB2.out.trans (b3.mono (by have h5:=HN.out;have h6:=HB2.out.size;omega)))
  have HO3:=hid (aT o3 (show B<=w2.heap.size by have h5:=HN.out;have h6:=HB2.out.size;omega))
  clear b3 HB2 HPA o3
  by_cases he:er=0
  ·subst he
   have HE4:=hid (show R=dcN U D b G by rw[HE3.out,if_neg (by simp)])
   have HR3:=hid (HR.out.below (show sL w.heap.size w w3 by rw[<- HN.out];exact HB3.out))
   obtain⟨no,nc,rfl,hrdn⟩:=na HR3.out.hN rfl;obtain⟨so,sc,rfl,hrdd⟩:=HR3.out.rd;obtain⟨go,gc,rfl,hgr,hgn⟩:=ez HO3.out;have c0:=HR3.out.c0;have c1:=HR3.out.c1;have HRD:=hid hrdd;have HGR:=hid hgr;have HGN:=hid hgn;have HCL:=hid (zfe Q no nc U.length U b w3 c0 hrdn rfl (by omega))
   clear HE3 HR hrdn hrdd hgr hgn
   by_cases hm:b∈U
   ·have HD1:=hid (show clx U b=((U.idxOf b:Nat):Int) by unfold clx;rw[if_pos hm])
    have HD2:=hid (show cly U b=true from decide_eq_true hm)
    rw[HD1.out,HD2.out] at HCL;have hcU:=List.idxOf_lt_length_of_mem hm;have HAD:=hid (show gd b U=(U,U.idxOf b) by unfold gd;rw[if_pos hm])
    have HE5:=hid (show R=if zaU D U.length (U.idxOf b) G=true then (41,U,D) else (0,U,D.set (U.idxOf b) (mu (D.getD (U.idxOf b) []) G)) by
     rw[HE4.out];unfold dcN;rw[if_neg (fun h=>h.1 hm),HAD.out,if_pos hm])
    obtain⟨c,hc⟩:∃c,c=U.idxOf b:=⟨_,rfl⟩;rw[<- hc] at HCL hcU HE5;clear hm HD1 HD2 HAD HE4 hc;obtain⟨n,hn⟩:∃n,n=U.length:=⟨_,rfl⟩;have HNU:=hid hn;have HNDn:=hid (show n=D.length by omega)
    rw[<- hn] at c0 hU hcU HE5;have hDn:D.length=n:=by omega
    rw[hDn] at c1;clear hn hUD hDn;go_wp2_with fail;refine HCL.out.mono ?_;rintro e w3' ⟨rfl,hw⟩;obtain rfl:=hw.symm;clear HCL;go_wp2;go_loopw [12] (fun x wr=>∃i:Nat,1<=i/\i<=n/\x= .int .i64 (i:Int)/\Hid (∀j,j<i->iz D c G j=false)/\Hid (sL w3.heap.size w3 wr)) (fun x _=>n - (sV x).toNat)
    case atStart=>exact⟨1,by omega,by omega,rfl,zeB D c G,sO _ _⟩
    case round=>
     obtain⟨i,hi1,hi,rfl,HI,HBr⟩:=hrel;have d0:=(HBr.out.cell (p:=⟨Q,0,none⟩) (aJ HR3.out.hQ)).trans c0;have d1:=(HBr.out.cell (p:=⟨Q,1,none⟩) (aJ HR3.out.hQ)).trans c1
     by_cases hlt:i<n
     ·have i3:(i:Int)<(n:Int):=by omega
      by_cases hic:i=c
      ·have i4:((i:Int) != (c:Int))=false:=by rw[hic];simp
       have HZ:=hid (show ∀j,j<i+1->iz D c G j=false from fun j hj=>by
        by_cases h5:j<i
        ·exact HI.out j h5
        ·have h6:j=c:=by omega
         unfold iz;rw[h6];simp)
       clear hic;go_wp2;go_roundw
       case rel=>exact⟨i+1,by omega,by omega,by go_num,HZ,HBr⟩
       case measure=>simp[sV];omega
      ·have i4:((i:Int) != (c:Int))=true:=bne_iff_ne.2 (by omega)
       have hiD:i<D.length:=by have h5:=HNDn.out;omega
       obtain⟨a,rfl,ha,ao,ac,a0,hra,hna⟩:=HRD.out.below HBr.out i D[i] (sH hiD);have HXL:=hid (hD D[i] (sS hiD));have HME:=hid (zct ao go ac gc D[i] G wr hra (HGR.out.below HBr.out) (by have h5:=HXL.out;omega) (by have h5:=HGL.out;omega))
       have HC1:=hid (show iz D c G i=mtR D[i] G by
        unfold iz;rw[decide_eq_true hi1,decide_eq_true hic,sI,sH hiD];rfl)
       have i0:(0:Int)<=(i:Int):=by omega
       generalize D[i].length=nx at *
       obtain⟨mt,hmt⟩:∃mt,mt=mtR D[i] G:=⟨_,rfl⟩;rw[<- hmt] at HME HC1;clear hmt hic hra hna hiD
       cases mt with
       | true=>
        have HE:=hid (show R=(41,U,D) by rw[HE5.out,if_pos (zeA D n c G i hlt HC1.out)])
        go_wp2_with fail;refine HME.out.mono ?_;rintro e w4 ⟨rfl,b4⟩;have HB4:=hid (HBr.out.trans (b4.mono HBr.out.size));clear b4 HME;go_wp2;go_ret;rw[HE.out];exact⟨rfl,(HB3.out.mono hBN).trans (HB4.out.mono (by have h5:=HB3.out.size;have h6:=HN.out;omega)),fun h=>by cases h⟩
       | false=>
        have HZ:=hid (show ∀j,j<i+1->iz D c G j=false from fun j hj=>by
         by_cases h5:j<i
         ·exact HI.out j h5
         ·have h6:j=i:=by omega
          rw[h6];exact HC1.out)
        go_wp2_with fail;refine HME.out.mono ?_;rintro e w4 ⟨rfl,b4⟩;have HB4:=hid (HBr.out.trans (b4.mono HBr.out.size));clear b4 HME;go_wp2;go_roundw
        case rel=>exact⟨i+1,by omega,by omega,by go_num,HZ,HB4⟩
        case measure=>simp[sV];omega
     ·have hin:i=n:=by omega
      have i3:¬(i:Int)<(n:Int):=by omega
      have HEZ:=hid (show R=(0,U,D.set c (mu (D.getD c []) G)) by rw[HE5.out,if_neg (by rw[zig D n c G (fun j hj=>HI.out j (by omega))];decide)])
      have HRr:=hid (HR3.out.below HBr.out);have hwr:=HBr.out.size;have hw3:=HB3.out.size;clear hin HI HRD HE5 c0 c1;have hcD:c<D.length:=(by have h5:=HNDn.out;omega)
      obtain⟨q,cap,hq,_,hqs⟩:=HRr.out.hS.form (by omega)
      cases hq
      obtain⟨vc,hv1,hv2⟩:=HRr.out.hV c D[c] (sH hcD);obtain⟨ao,ac,rfl,hra,hrn⟩:=ez hv2;have HXL:=hid (show D[c].length<=20000 from hD _ (sS hcD))
      have HHS:=hid (show wr.ownsRow B 125 1 (.slice (some ⟨q,0,none⟩) D.length sc) D.length vs from HRr.out.hS)
      have HS1:=hid (show wr.cell? ⟨Q,1,none⟩=some (.slice (some ⟨q,0,none⟩) D.length sc) from HRr.out.c1)
      have HS2:=hid (show wr.cell? ⟨q,c,none⟩=some (.slice ao D[c].length ac) by rw[HHS.out.cellAt c (by omega)];exact hv1)
      have HGW:=hid (show RdR wr go G from HGR.out.below HBr.out)
      have HRA:=hid hra;have HOR:=hid (show td Tryz.prog 139 #[.slice ao D[c].length ac,.slice go G.length gc] wr.drew fun e w'=>∃v,e= .returned v/\w'.ownsRow wr.heap.size 146 2 v (mu D[c] G).length (aH (mu D[c] G))/\sL wr.heap.size wr.drew w' from zgZ ao go ac gc D[c] G wr.drew (HRA.out.below (fQ wr)) (HGW.out.below (fQ wr)) hrn HGN.out (by have h5:=HXL.out;omega) (by have h5:=HGL.out;omega))
      have HGD:=hid (show D.getD c []=D[c] by rw[sI,sH hcD];rfl)
      rw[HGD.out] at HEZ;obtain⟨xc,hxc⟩:∃xc,xc=mu D[c] G:=⟨_,rfl⟩;rw[<- hxc] at HOR HEZ;have HC2:=hid (show ∀W',sL wr.heap.size wr W'->W'.cell? ⟨Q,1,none⟩=some (.slice (some ⟨q,0,none⟩) D.length sc)/\W'.cell? ⟨q,c,none⟩=some (.slice ao D[c].length ac) from fun W' hW=>⟨(hW.cell (p:=⟨Q,1,none⟩) (aJ HRr.out.hQ)).trans HS1.out,(hW.cell (p:=⟨q,c,none⟩) hqs).trans HS2.out⟩)
      generalize D[c].length=nx at HOR HC2
      obtain⟨nd,hnd⟩:∃nd,nd=D.length:=⟨_,rfl⟩;rw[<- hnd] at HC2;have k1:(c:Int)<(nd:Int):=by omega
      have k0:(0:Int)<=(c:Int):=by omega
      have HND:=hid hnd;clear HS1 HS2 HRA HGW hra hrn hv1 hv2 hxc HGD hnd;go_wp2;refine d9 [(0,1),(1,1),(2,1),(3,0),(4,1),(5,1),(6,1),(7,1),(8,0),(9,1),(10,1),(11,0),(12,1),(13,2),(14,1),(15,2)] (fun W=>W.cell? ⟨Q,1,none⟩=some (.slice (some ⟨q,0,none⟩) nd sc)/\W.cell? ⟨q,c,none⟩=some (.slice ao nx ac)) (fun _=>True) (fun j=>j==15) (by kernel_rfl) (by kernel_rfl) (fun j hj=>by simp at hj;rw[hj];decide) rfl (by kernel_rfl) (HC2.out _ (fQ wr)) trivial ?_
      iterate 13 ((first | refine zfv ?_ rfl (by kernel_rfl) (fun w' hS=>?_) ?_ | refine lQ ?_ rfl (by kernel_rfl) (fun w' hS=>?_) ?_);(rotate_left;((first | obtain⟨s1,s2⟩:=hS | clear hS);go_simp;with_reducible rfl);rotate_left))
      simp only[Act.put,sJ]
      refine iP rfl (by kernel_rfl) fun KK hKK=>?_
      go_simp;refine HOR.out.mono ?_;rintro e w5 ⟨v5,rfl,o5,b5⟩;have b5':sL wr.heap.size wr w5:=(fQ wr).trans b5;have HR5:=hid (HRr.out.below b5');have HO5:=hid (aT o5 (show B<=wr.heap.size from(by have h5:=HN.out;omega)))
      obtain⟨d5,f5,l5⟩:=HR5.out.store rfl hcD HO5.out;obtain⟨xo,xcp,rfl⟩:=gY HO5.out;have p1:=(HC2.out w5 b5').2;have HHS5:=hid (kC HHS.out b5');have p2:=HHS5.out.frozenAt c;have HD5:=hid d5;have HF5:=hid (show fY Q _ _ w _ from(fY.of_below (Q:=Q) (show sL w.heap.size w wr by rw[<- HN.out];exact HB3.out.trans (HBr.out.mono (by have h5:=HN.out;omega)))).trans ((fY.of_below b5').trans f5))
      have HB5:=hid (show sL B w _ from(((HB3.out.mono hBN).trans (HBr.out.mono (by have h5:=HN.out;omega))).trans (b5'.mono (by have h5:=HN.out;omega))).trans l5)
      refine hKK _ _ (fun _=>HC2.out w5 b5') trivial ?_
      clear hKK KK o5 b5 b5' d5 f5 l5 HR5 HO5;refine lQ ?_ rfl (by kernel_rfl) (fun w' hS=>?_) ?_;(rotate_left;(go_simp;with_reducible rfl);rotate_left)
      simp only[Act.put,sJ]
      refine iP rfl (by kernel_rfl) fun KK hKK=>?_
      go_simp;refine hKK _ _ (fun h=>by cases h) trivial ?_
      clear hKK KK p1 p2;refine oS (NoPanic.normal ?_);go_wp2;go_ret;rw[HEZ.out];exact⟨rfl,HB5.out,fun _=>⟨_,_,_,HD5.out,HF5.out⟩⟩
   ·have HD1:=hid (show clx U b=0 by unfold clx;rw[if_neg hm])
    have HD2:=hid (show cly U b=false from decide_eq_false hm)
    rw[HD1.out,HD2.out] at HCL;have HAD:=hid (show gd b U=(U++[b],U.length) by unfold gd;rw[if_neg hm])
    have HE5':=hid (show R=if 64<=U.length then (6,U,D) else if zaU D U.length U.length G=true then (41,U,D) else (0,U++[b],D++[mu [] G]) by
     rw[HE4.out];unfold dcN;rw[HAD.out,if_neg hm]
     by_cases h6:64<=U.length
     ·rw[if_pos ⟨hm,h6⟩,if_pos h6]
     ·rw[if_neg (fun h=>h6 h.2),if_neg h6])
    clear hm HD1 HD2 HAD HE4;obtain⟨n,hn⟩:∃n,n=U.length:=⟨_,rfl⟩;have HNU:=hid hn;have HNDn:=hid (show n=D.length by omega)
    rw[<- hn] at c0 hU hU0 HE5';have hDn:D.length=n:=by omega
    rw[hDn] at c1;have hn0:1<=n:=hU0;clear hn hUD hDn
    by_cases h64:64<=n
    ·have HE:=hid (show R=(6,U,D) by rw[HE5'.out,if_pos h64])
     have h64':(64:Int)<=(n:Int):=by omega
     go_wp2_with fail;refine HCL.out.mono ?_;rintro e w3' ⟨rfl,hw⟩;obtain rfl:=hw.symm;clear HCL;go_wp2;go_ret;rw[HE.out];exact⟨rfl,HB3.out.mono hBN,fun h=>by cases h⟩
    have HE5:=hid (show R=_ by rw[HE5'.out,if_neg h64])
    have h64':¬(64:Int)<=(n:Int):=by omega
    clear HE5' h64;go_wp2_with fail;refine HCL.out.mono ?_;rintro e w3' ⟨rfl,hw⟩;obtain rfl:=hw.symm;clear HCL;go_wp2;go_loopw [12] (fun x wr=>∃i:Nat,1<=i/\i<=n/\x= .int .i64 (i:Int)/\Hid (∀j,j<i->iz D n G j=false)/\Hid (sL w3.heap.size w3 wr)) (fun x _=>n - (sV x).toNat)
    case atStart=>exact⟨1,by omega,hn0,rfl,zeB D n G,sO _ _⟩
    case round=>
     obtain⟨i,hi1,hi,rfl,HI,HBr⟩:=hrel;have d0:=(HBr.out.cell (p:=⟨Q,0,none⟩) (aJ HR3.out.hQ)).trans c0;have d1:=(HBr.out.cell (p:=⟨Q,1,none⟩) (aJ HR3.out.hQ)).trans c1
     by_cases hlt:i<n
     ·have i3:(i:Int)<(n:Int):=by omega
      by_cases hic:i=n
      ·have i4:((i:Int) != (n:Int))=false:=by rw[hic];simp
       have HZ:=hid (show ∀j,j<i+1->iz D n G j=false from fun j hj=>by
        by_cases h5:j<i
        ·exact HI.out j h5
        ·have h6:j=n:=by omega
         unfold iz;rw[h6];simp)
       clear hic;go_wp2;go_roundw
       case rel=>exact⟨i+1,by omega,by omega,by go_num,HZ,HBr⟩
       case measure=>simp[sV];omega
      ·have i4:((i:Int) != (n:Int))=true:=bne_iff_ne.2 (by omega)
       have hiD:i<D.length:=by have h5:=HNDn.out;omega
       obtain⟨a,rfl,ha,ao,ac,a0,hra,hna⟩:=HRD.out.below HBr.out i D[i] (sH hiD);have HXL:=hid (hD D[i] (sS hiD));have HME:=hid (zct ao go ac gc D[i] G wr hra (HGR.out.below HBr.out) (by have h5:=HXL.out;omega) (by have h5:=HGL.out;omega))
       have HC1:=hid (show iz D n G i=mtR D[i] G by
        unfold iz;rw[decide_eq_true hi1,decide_eq_true hic,sI,sH hiD];rfl)
       have i0:(0:Int)<=(i:Int):=by omega
       generalize D[i].length=nx at *
       obtain⟨mt,hmt⟩:∃mt,mt=mtR D[i] G:=⟨_,rfl⟩;rw[<- hmt] at HME HC1;clear hmt hic hra hna hiD
       cases mt with
       | true=>
        have HE:=hid (show R=(41,U,D) by rw[HE5.out,if_pos (zeA D n n G i hlt HC1.out)])
        go_wp2_with fail;refine HME.out.mono ?_;rintro e w4 ⟨rfl,b4⟩;have HB4:=hid (HBr.out.trans (b4.mono HBr.out.size));clear b4 HME;go_wp2;go_ret;rw[HE.out];exact⟨rfl,(HB3.out.mono hBN).trans (HB4.out.mono (by have h5:=HB3.out.size;have h6:=HN.out;omega)),fun h=>by cases h⟩
       | false=>
        have HZ:=hid (show ∀j,j<i+1->iz D n G j=false from fun j hj=>by
         by_cases h5:j<i
         ·exact HI.out j h5
         ·have h6:j=i:=by omega
          rw[h6];exact HC1.out)
        go_wp2_with fail;refine HME.out.mono ?_;rintro e w4 ⟨rfl,b4⟩;have HB4:=hid (HBr.out.trans (b4.mono HBr.out.size));clear b4 HME;go_wp2;go_roundw
        case rel=>exact⟨i+1,by omega,by omega,by go_num,HZ,HB4⟩
        case measure=>simp[sV];omega
     ·have hin:i=n:=by omega
      have i3:¬(i:Int)<(n:Int):=by omega
      have HEZ0:=hid (show R=(0,U++[b],D++[mu [] G]) by rw[HE5.out,if_neg (by rw[zig D n n G (fun j hj=>HI.out j (by omega))];decide)])
      have HRr:=hid (HR3.out.below HBr.out);have hwr:=HBr.out.size;have hw3:=HB3.out.size;have HGr:=hid (HO3.out);clear hin HI HRD HE5 c0 c1;have HP1:=hid (show ∀(w4:sQ),(wr.alloc (.cells #[.string ⟨b.toArray⟩] 9)).grownBy w4 (sY no n nc).ownBlock->w4.heap[Q]? =some (.cells #[.slice no n nc,.slice so n sc] 91 (0,0)) from fun w4 gr=>by
       have h6:=HRr.out.hQ;rw[<- HNU.out,<- HNDn.out] at h6;have h7:=HRr.out.hN;rw[<- HNU.out] at h7;exact(gr.block Q (by simp;have h5:=aJ h6;omega) (fun e=>aX h7 Q _ 91 h6 (by decide) e.symm)).trans ((cw wr _ Q (aJ h6)).trans h6))
      have HRW:=hid (show wr.ownsRow B 9 1 (.slice no n nc) n (nms U) by have h7:=HRr.out.hN;rw[<- HNU.out] at h7;exact h7)
      have HBW:=hid (show B<=wr.heap.size by have h5:=HN.out;omega)
      have hBW:=HBW.out;have HNM:=hid (show ∀(q2 c2:Nat) (w4:sQ),w4.ownsRow B 9 1 (.slice (some ⟨q2,0,none⟩) (n+1) c2) (n+1) (nms U++[.string ⟨b.toArray⟩])->(wr.alloc (.cells #[.string ⟨b.toArray⟩] 9)).grownBy w4 (sY no n nc).ownBlock->((sY no n nc).ownBlock=some q2\/q2=wr.heap.size+1)->
        aW B Q (U++[b]) D (.slice (some ⟨q2,0,none⟩) (n+1) c2) (.slice so n sc) vs (w4.setCell ⟨Q,0,none⟩ (.slice (some ⟨q2,0,none⟩) (n+1) c2))/\fY Q (.slice no n nc) (.slice (some ⟨q2,0,none⟩) (n+1) c2) wr (w4.setCell ⟨Q,0,none⟩ (.slice (some ⟨q2,0,none⟩) (n+1) c2))/\sL B wr (w4.setCell ⟨Q,0,none⟩ (.slice (some ⟨q2,0,none⟩) (n+1) c2)) from fun q2 c2 w4 o4 gr hl4=>by
       have h6:=HRr.out;rw[<- HNU.out,<- HNDn.out] at h6;obtain⟨r1,r2,r3⟩:=h6.named HNU.out ((sO _ wr).alloc (sM _) (.cells #[.string ⟨b.toArray⟩] 9)) o4 gr (by rw[sP];exact hl4)
       exact⟨r1,r2,((sO B wr).alloc hBW _).trans r3⟩)
      go_wp2_with (first | (at_builtin;refine sW _ rfl _ _ 66 rfl B 9 i9 (.string ⟨#[]⟩) 1 16 Tryz.underlying66 hi9 hz90 hz91 hz92 rfl (by decide) _ n (nms U) rfl (HRW.out.alloc _) ⟨wr.heap.size,0,none⟩ 1 1 [.string ⟨b.toArray⟩] rfl rfl (zft wr ⟨b.toArray⟩ 9) (rX _) (by decide) (by unfold tm;omega) (by omega) (by simp;omega) (wr.heap.size+1) (by simp) ?_;intro q2 c2 w4 o4 gr4 hl4 hlt4;have f0:=HP1.out w4 gr4;have f1:w4.cell? ⟨Q,0,none⟩=some (.slice no n nc):=cell_row w4 Q 0 [_,_] 91 _ f0 rfl;have f2:=frozen_row f0 0;have f3:w4.cell? ⟨Q,1,none⟩=some (.slice so n sc):=cell_row w4 Q 1 [_,_] 91 _ f0 rfl;have HD4:=hid (HNM.out q2 c2 w4 o4 gr4 hl4);clear f0 o4 gr4 hl4 hlt4) | (at_builtin;refine sW _ rfl _ _ 89 rfl B 125 i47 (.slice none 0 0) 1 24 Tryz.underlying89 hi47 hz470 hz471 hz472 rfl (by decide) _ n vs rfl (sQ.ownsRow.alloc (hsw HD4.out.1 HNDn.out) _) ⟨w4.heap.size,0,none⟩ 1 1 [.slice none 0 0] rfl rfl (zpL _ w4.heap.size (by simp[tA]) _ 125) (zeT _) (by decide) (by unfold tm;omega) (by omega) (hsz4 HD4.out.2.2.size hBW) (w4.heap.size+1) (by simp[tA]) ?_;intro q3 c3 w6 o6 gr6 hl6 hlt6;have HD6:=hid (zns HD4.out.1 HNDn.out o6 gr6);have f4:=(hq6 HD4.out.1 gr6).1;have f5:=(hq6 HD4.out.1 gr6).2;clear o6 gr6 hl6 hlt6) | fail)
      obtain⟨d6,fr6,bl6⟩:=HD6.out;obtain⟨d4,fr4,bl4⟩:=HD4.out;obtain⟨W6,hW6⟩:∃W6,W6=w6.setCell ⟨Q,1,none⟩ (.slice (some ⟨q3,0,none⟩) (n+1) c3):=⟨_,rfl⟩;rw[<- hW6] at d6 fr6 bl6⊢;have HQ6:=hid d6;have HF6:=hid (fr4.trans fr6);have HB6:=hid (bl4.trans bl6);have hD2:(D++[[]]).length=n+1:=by have h5:=HNDn.out;simp;omega
      have HEZ:=hid (show R=(0,U++[b],(D++[[]]).set n (mu ((D++[[]]).getD n []) G)) by
       rw[HEZ0.out,HNDn.out,List.set_append_right _ _ (sM _),tB,sI,List.getElem?_append_right (sM _),tB];rfl)
      have HG6:=hid (show RdR W6 go G from by
       have h5:=kC HO3.out HBr.out;have h6:=zvG HRr.out (show fY Q _ _ wr W6 by rw[<- HNU.out];exact HF6.out) h5
       obtain⟨go',gc',e',hg',_⟩:=ez h6
       cases e'
       exact hg')
      have hwB:B<=W6.heap.size:=by have h5:=HB6.out.size;omega
      clear d6 fr6 bl6 d4 fr4 bl4 HD6 HD4 hW6 f1 f2 f3 f4 f5 HNM HP1 HRW HEZ0;have hcD:n<(D++[[]]).length:=(by omega)
      have hqs:=(HQ6.out.hS.lt q3 rfl).2;obtain⟨vc,hv1,hv2⟩:=HQ6.out.hV n (D++[[]])[n] (sH hcD);obtain⟨ao,ac,rfl,hra,hrn⟩:=ez hv2;have HXL:=hid (show(D++[[]])[n].length<=20000 from(by rcases tw.1 (sS hcD) with h5 | h5;exact hD _ h5;rw[tn.1 h5];exact Nat.zero_le _))
      have HHS:=hid (show W6.ownsRow B 125 1 (.slice (some ⟨q3,0,none⟩) (n+1) c3) (n+1) (vs++[.slice none 0 0]) from(by have h5:=HQ6.out.hS;rw[hD2] at h5;exact h5))
      have HS1:=hid (show W6.cell? ⟨Q,1,none⟩=some (.slice (some ⟨q3,0,none⟩) (n+1) c3) from HQ6.out.c1)
      have HS2:=hid (show W6.cell? ⟨q3,n,none⟩=some (.slice ao (D++[[]])[n].length ac) by rw[HHS.out.cellAt n (by omega)];exact hv1)
      have HGW:=hid (show RdR W6 go G from HG6.out)
      have HRA:=hid hra;have HOR:=hid (show td Tryz.prog 139 #[.slice ao (D++[[]])[n].length ac,.slice go G.length gc] W6.drew fun e w'=>∃v,e= .returned v/\w'.ownsRow W6.heap.size 146 2 v (mu (D++[[]])[n] G).length (aH (mu (D++[[]])[n] G))/\sL W6.heap.size W6.drew w' from zgZ ao go ac gc (D++[[]])[n] G W6.drew (HRA.out.below (fQ W6)) (HGW.out.below (fQ W6)) hrn HGN.out (by have h5:=HXL.out;omega) (by have h5:=HGL.out;omega))
      have HGD:=hid (show(D++[[]]).getD n []=(D++[[]])[n] by rw[sI,sH hcD];rfl)
      rw[HGD.out] at HEZ;obtain⟨xc,hxc⟩:∃xc,xc=mu (D++[[]])[n] G:=⟨_,rfl⟩;rw[<- hxc] at HOR HEZ;have HC2:=hid (show ∀W',sL W6.heap.size W6 W'->W'.cell? ⟨Q,1,none⟩=some (.slice (some ⟨q3,0,none⟩) (n+1) c3)/\W'.cell? ⟨q3,n,none⟩=some (.slice ao (D++[[]])[n].length ac) from fun W' hW=>⟨(hW.cell (p:=⟨Q,1,none⟩) (aJ HQ6.out.hQ)).trans HS1.out,(hW.cell (p:=⟨q3,n,none⟩) hqs).trans HS2.out⟩)
      generalize (D++[[]])[n].length=nx at HOR HC2
      obtain⟨nd,hnd⟩:∃nd,nd=(n+1):=⟨_,rfl⟩;rw[<- hnd] at HC2;have k1:(n:Int)<(nd:Int):=by omega
      have k0:(0:Int)<=(n:Int):=by omega
      have HND:=hid hnd;clear HS1 HS2 HRA HGW hra hrn hv1 hv2 hxc HGD hnd;go_wp2;refine d9 [(0,1),(1,1),(2,1),(3,0),(4,1),(5,1),(6,1),(7,1),(8,0),(9,1),(10,1),(11,0),(12,1),(13,2),(14,1),(15,2)] (fun W=>W.cell? ⟨Q,1,none⟩=some (.slice (some ⟨q3,0,none⟩) nd c3)/\W.cell? ⟨q3,n,none⟩=some (.slice ao nx ac)) (fun _=>True) (fun j=>j==15) (by kernel_rfl) (by kernel_rfl) (fun j hj=>by simp at hj;rw[hj];decide) rfl (by kernel_rfl) (HC2.out _ (fQ W6)) trivial ?_
      iterate 13 ((first | refine zfv ?_ rfl (by kernel_rfl) (fun w' hS=>?_) ?_ | refine lQ ?_ rfl (by kernel_rfl) (fun w' hS=>?_) ?_);(rotate_left;((first | obtain⟨s1,s2⟩:=hS | clear hS);go_simp;with_reducible rfl);rotate_left))
      simp only[Act.put,sJ]
      refine iP rfl (by kernel_rfl) fun KK hKK=>?_
      go_simp;refine HOR.out.mono ?_;rintro e w5 ⟨v5,rfl,o5,b5⟩;have b5':sL W6.heap.size W6 w5:=(fQ W6).trans b5;have HR5:=hid (HQ6.out.below b5');have HO5:=hid (aT o5 (show B<=W6.heap.size from hwB))
      obtain⟨d5,f5,l5⟩:=HR5.out.store hD2.symm hcD HO5.out;obtain⟨xo,xcp,rfl⟩:=gY HO5.out;have p1:=(HC2.out w5 b5').2;have HHS5:=hid (kC HHS.out b5');have p2:=HHS5.out.frozenAt n;have HD5:=hid d5;have HF5:=hid (show fY Q (.slice no n nc) _ w _ from((fY.of_below (Q:=Q) (nv:=.slice no n nc) (show sL w.heap.size w wr by rw[<- HN.out];exact HB3.out.trans (HBr.out.mono (by have h5:=HN.out;omega)))).trans HF6.out).trans ((fY.of_below b5').trans f5))
      have HB5:=hid (show sL B w _ from((((HB3.out.mono hBN).trans (HBr.out.mono (by have h5:=HN.out;omega))).trans HB6.out).trans (b5'.mono hwB)).trans l5)
      refine hKK _ _ (fun _=>HC2.out w5 b5') trivial ?_
      clear hKK KK o5 b5 b5' d5 f5 l5 HR5 HO5;refine lQ ?_ rfl (by kernel_rfl) (fun w' hS=>?_) ?_;(rotate_left;(go_simp;with_reducible rfl);rotate_left)
      simp only[Act.put,sJ]
      refine iP rfl (by kernel_rfl) fun KK hKK=>?_
      go_simp;refine hKK _ _ (fun h=>by cases h) trivial ?_
      clear hKK KK p1 p2;refine oS (NoPanic.normal ?_);go_wp2;go_ret;rw[HEZ.out];exact⟨rfl,HB5.out,fun _=>⟨_,_,_,HD5.out,by rw[<- HNU.out];exact HF5.out⟩⟩
  ·have HE:=hid (show R=(er,U,D) by rw[HE3.out,if_pos he])
   have her':(er != 0)=true:=bne_iff_ne.2 he;have HER:=hid he;clear he;go_wp2;go_ret;rw[HE.out];exact⟨rfl,HB3.out.mono hBN,fun h=>absurd h HER.out⟩
end Dc
namespace Dc
open Go.RowKit
set_option maxRecDepth 100000 in
theorem zlc (ao:Option Addr) (ac:Nat) (l:List Rg) (w:sQ) (ha:RdR w ao l) (hl:l.length<=100000):
  td Tryz.prog 140 #[.slice ao l.length ac] w fun e w'=>∃v,e= .returned v/\w'.ownsRow w.heap.size 146 2 v (nt l).length (aH (nt l))/\sL w.heap.size w w':=by
 obtain⟨i0,hi,hz0,hz1,hz2⟩:=tg Tryz.infoRange;have HSO:=hid (lG ao ac l w ha hl);clear ha;go_enter Tryz.func140,Tryz.ntmps140;go_wp2_with fail;refine HSO.out.mono ?_;rintro e Wr ⟨v,rfl,o1,hB⟩;obtain⟨so,sc,rfl,hrd⟩:=sw o1;have HNT:=hid (show ntF 0 (nA l)=nt l from rfl)
 have hsl:=zai l;have HNF:=hid (dQ l);obtain⟨s,hs⟩:∃s,nA l=s:=⟨_,rfl⟩;rw[hs] at HNT HNF hrd hsl⊢;have HRD:=hid hrd;have HB0:=hid hB;have hws:=hB.size;have hs5:s.length<=100000:=by omega
 clear hrd hB HSO hsl o1 hs;go_wp2;go_loopw [4,5,6] (fun v x i wq=>∃(k:Nat) (O:List Rg) (lo:Int),k<=s.length/\i= .int .i64 k/\x= .int .i32 lo/\0<=lo/\lo<=1114112/\Hid (wq.ownsRow Wr.heap.size 146 2 v O.length (aH O))/\Hid (Ntm s O k lo)/\O.length<=k/\Hid (sL Wr.heap.size Wr wq)) (fun _ _ i _=>s.length - (sV i).toNat)
 case atStart=>exact⟨0,[],0,by omega,rfl,rfl,by omega,by omega,sZ _ _ _ _,rfl,by simp,sO _ _⟩
 case round=>
  obtain⟨k,O,lo,hk,rfl,rfl,hlo0,hlo1,HO,HMi,hok,HB⟩:=hrel;have hbs:=HB.out.size
  by_cases hlt:k<s.length
  ·obtain⟨gs,rfl,hgs,y0,y1⟩:=HRD.out k s[k] (sH hlt)
   obtain⟨b1,b2,b3⟩:=zlG HNF.out (sH hlt);unfold cJ at b3
   replace y0:=(HB.out.cell (p:=gs.add (k * 2)) (by rw[add_blk];exact hgs)).trans y0
   replace y1:=(HB.out.cell (p:=⟨(gs.add (k * 2)).block,(gs.add (k * 2)).off+1,none⟩) (show(gs.add (k * 2)).block<_ by rw[add_blk];exact hgs)).trans y1
   have i3:(k:Int)<(s.length:Int):=by omega
   have hgw:gs.block<wr.heap.size:=by omega
   have HY:=hid (fun hc=>Ntm.yes hlt HMi.out hc)
   have HN:=hid (fun hc=>Ntm.no hlt HMi.out hc)
   generalize s[k].1=f0 at *
   generalize s[k].2=f1 at *
   have e1:IntKind.i32.wrap (f0 - 1)=f0 - 1:=by rw[IntKind.wrap_i32];omega
   have e2:IntKind.i32.wrap (f1+1)=f1+1:=by rw[IntKind.wrap_i32];omega
   by_cases hc:lo<f0
   ·have HY2:=hid (HY.out hc)
    clear HY HN HMi;have HY1:=hid (show ∀W,sL Wr.heap.size Wr W->W.cell? ⟨(gs.add (k * 2)).block,(gs.add (k * 2)).off+1,none⟩=some (.int .i32 f1) from fun W hW=>(hW.cell (p:=⟨(gs.add (k * 2)).block,(gs.add (k * 2)).off+1,none⟩) (show(gs.add (k * 2)).block<_ by rw[add_blk];exact hgs)).trans ((HB.out.cell (p:=⟨(gs.add (k * 2)).block,(gs.add (k * 2)).off+1,none⟩) (show(gs.add (k * 2)).block<_ by rw[add_blk];exact hgs)).symm.trans y1))
    go_wp2_with (at_builtin;refine tr _ rfl _ _ 125 rfl Wr.heap.size 146 i0 (.agg #[.int .i32 0,.int .i32 0]) 2 8 Tryz.underlying125 hi hz0 hz1 hz2 rfl (by decide) _ O.length (aH O) rfl (HO.out.alloc _) ⟨wr.heap.size,0,none⟩ 1 1 (rgc (lo,f0 - 1)) rfl rfl ?c1 ?c2 ?c3 ?c4 ?c5 ?_)
    case c1=>exact fT _ (lo,f0 - 1) _ rfl
    case c2=>exact dV _
    case c3=>unfold tm;omega
    case c4=>omega
    case c5=>simp;omega
    intro v2 w2 o2 gr2 _;have HO2:=hid (show w2.ownsRow Wr.heap.size 146 2 v2 (O++[(lo,f0 - 1)]).length (aH (O++[(lo,f0 - 1)])) by rw[cV,bF];exact o2)
    have HB2:=hid ((HB.out.alloc hbs (.cells #[.int .i32 lo,.int .i32 (f0 - 1)] 146)).grown gr2 (by simp;omega) (fun j hj=>(HO.out.lt j hj).1))
    have z1:=HY1.out w2 HB2.out;clear o2 gr2 y0 y1;go_wp2;go_roundw
    case rel=>exact⟨k+1,O++[(lo,f0 - 1)],f1+1,by omega,by go_num,by go_num,by omega,by omega,HO2,HY2,by rw[bF];omega,HB2⟩
    case measure=>simp[sV];omega
   ·have HN2:=hid (HN.out hc)
    clear HY HN HMi;go_wp2;go_roundw
    case rel=>exact⟨k+1,O,f1+1,by omega,by go_num,by go_num,by omega,by omega,HO,HN2,by omega,HB⟩
    case measure=>simp[sV];omega
  ·obtain⟨hd1,hd2⟩:=HMi.out.done hlt
   unfold cJ at hd1 hd2
   by_cases hc:lo<=1114111
   ·have HD:=hid (hd1 hc)
    clear hd1 hd2 HMi;go_wp2_with (at_builtin;refine tr _ rfl _ _ 125 rfl Wr.heap.size 146 i0 (.agg #[.int .i32 0,.int .i32 0]) 2 8 Tryz.underlying125 hi hz0 hz1 hz2 rfl (by decide) _ O.length (aH O) rfl (HO.out.alloc _) ⟨wr.heap.size,0,none⟩ 1 1 (rgc (lo,1114111)) rfl rfl ?c1 ?c2 ?c3 ?c4 ?c5 ?_)
    case c1=>exact fT _ (lo,1114111) _ rfl
    case c2=>exact dV _
    case c3=>unfold tm;omega
    case c4=>omega
    case c5=>simp;omega
    intro v2 w2 o2 gr2 _;have HO2:=hid (show w2.ownsRow Wr.heap.size 146 2 v2 (O++[(lo,1114111)]).length (aH (O++[(lo,1114111)])) by rw[cV,bF];exact o2)
    have HB2:=hid ((HB.out.alloc hbs (.cells #[.int .i32 lo,.int .i32 1114111] 146)).grown gr2 (by simp;omega) (fun j hj=>(HO.out.lt j hj).1))
    clear o2 gr2;go_wp2;go_ret;exact⟨_,rfl,by rw[<- HNT.out,<- HD.out];exact aT HO2.out HB0.out.size,HB0.out.trans (HB2.out.mono HB0.out.size)⟩
   ·have HD:=hid (hd2 hc)
    clear hd1 hd2 HMi;go_wp2;go_ret;exact⟨_,rfl,by rw[<- HNT.out,<- HD.out];exact aT HO.out HB0.out.size,HB0.out.trans (HB.out.mono HB0.out.size)⟩
end Dc
namespace Dc
open Go.RowKit
def l9 (D:List (List Rg)) (i:Nat):List Rg:=((D.take i).drop 1).flatten
theorem zny (D:List (List Rg)):l9 D 1=[]:=by
 unfold l9
 cases D with
 | nil=>rfl
 | cons x D=>simp
theorem zjT (D:List (List Rg)) (i:Nat) (h1:1<=i) (hi:i<D.length):l9 D (i+1)=l9 D i++D[i]:=by
 unfold l9;rw[ta hi,List.drop_append_of_le_length (by rw[sR];omega)]
 simp
theorem znz (D:List (List Rg)) (i:Nat) (hi:D.length<=i):l9 D i=(D.drop 1).flatten:=by
 unfold l9;rw[ti hi]
theorem zqq (D:List (List Rg)) (i:Nat):(l9 D i).length<=(D.drop 1).flatten.length:=by
 unfold l9;rw[List.drop_take];obtain⟨L,hL⟩:∃L,L=D.drop 1:=⟨_,rfl⟩;rw[<- hL];have e:L.flatten=(L.take (i - 1)).flatten++(L.drop (i - 1)).flatten:=by rw[<- List.flatten_append,tj]
 rw[e,sK];omega
set_option maxRecDepth 100000 in
theorem ziF (B Q:Nat) (U:List (List UInt8)) (D:List (List Rg)) (nv sv:sX) (vs:List sX) (w:sQ) (h:aW B Q U D nv sv vs w) (hB:B<=w.heap.size) (h1:1<=D.length) (hD1:D.length<=1000) (hD:(D.drop 1).flatten.length<=40000):
  td Tryz.prog 101 #[.pointer (some ⟨Q,0,none⟩)] w fun e w'=>e= .returned (.tuple #[])/\sL B w w'/\∃sv' vs',aW B Q U (D.set 0 (nt (D.drop 1).flatten)) nv sv' vs' w':=by
 obtain⟨i0,hi,hz0,hz1,hz2⟩:=tg Tryz.infoRange;have HR:=hid h;obtain⟨so,sc,rfl,hrd⟩:=h.rd;have HRD:=hid hrd;have c1:=h.c1;obtain⟨n,hn⟩:∃n,n=D.length:=⟨_,rfl⟩;have HN:=hid hn;rw[<- hn] at c1 h1 hD1;have hQ:=aJ h.hQ;have HLE:=hid (zqq D);clear h hrd hn;go_enter Tryz.func101,Tryz.ntmps101;go_wp2;go_loopw [2,3] (fun v x wr=>∃i:Nat,1<=i/\i<=n/\x= .int .i64 (i:Int)/\Hid (wr.ownsRow w.heap.size 146 2 v (l9 D i).length (aH (l9 D i)))/\Hid (sL w.heap.size w wr)) (fun _ x _=>n - (sV x).toNat)
 case atStart=>exact⟨1,by omega,h1,rfl,by rw[zny];exact sZ _ _ _ _,sO _ _⟩
 case round=>
  obtain⟨i,hi1,hin,rfl,HO,HBr⟩:=hrel;have d1:=(HBr.out.cell (p:=⟨Q,1,none⟩) hQ).trans c1;have hwr:=HBr.out.size
  by_cases hlt:i<n
  ·have i3:(i:Int)<(n:Int):=by omega
   have i0':(0:Int)<=(i:Int):=by omega
   have hiD:i<D.length:=by have h5:=HN.out;omega
   obtain⟨a,rfl,ha,ao,ac,a0,hra,hna⟩:=HRD.out.below HBr.out i D[i] (sH hiD);have HE:=hid (zjT D i hi1 hiD);have HRA:=hid hra;have HNA:=hid hna;have hl2:(l9 D i).length+D[i].length<=40000:=by have h5:=HLE.out (i+1);rw[HE.out,sK] at h5;omega
   obtain⟨x,hx⟩:∃x,x=D[i]:=⟨_,rfl⟩;rw[<- hx] at a0 HRA HE hl2;obtain⟨y,hy⟩:∃y,y=l9 D i:=⟨_,rfl⟩;rw[<- hy] at HO HE hl2;clear hra hna hiD hx hy;go_wp2_with (at_builtin;refine dv rfl _ _ 125 rfl w.heap.size 146 i0 (.agg #[.int .i32 0,.int .i32 0]) 8 Tryz.underlying125 hi hz0 hz1 hz2 (by rfl) _ y.length (aH y) rfl HO.out ao ac x rfl HNA.out HRA.out (by unfold tm;omega) (by omega) (by omega) ?_;intro v2 w2 o2 gr2;have HB2:=hid (HBr.out.grown gr2 hwr (fun k hk=>(HO.out.lt k hk).1));have HO2:=hid (show w2.ownsRow w.heap.size 146 2 v2 (y++x).length (aH (y++x)) by rw[zca,sK];exact o2);clear o2 gr2)
   go_roundw
   case rel=>exact⟨i+1,by omega,by omega,by go_num,by rw[HE.out];exact HO2,HB2⟩
   case measure=>simp[sV];omega
  ·have i3:¬(i:Int)<(n:Int):=by omega
   have HE:=hid (znz D i (by have h5:=HN.out;omega))
   rw[HE.out] at HO;have HFL:=hid hD;obtain⟨x,hx⟩:∃x,x=(D.drop 1).flatten:=⟨_,rfl⟩;have HX:=hid hx;rw[<- hx] at HO HFL;obtain⟨xo,xc,rfl,hrx,_⟩:=ez HO.out;have HRr:=hid (HR.out.below HBr.out);obtain⟨q,cap,hq,_,hqs⟩:=HRr.out.hS.form (by have h5:=HN.out;omega)
   cases hq
   rw[<- HN.out] at HRr;have HNT:=hid (show td Tryz.prog 140 #[.slice xo x.length xc] wr.drew fun e w'=>∃v,e= .returned v/\w'.ownsRow wr.heap.size 146 2 v (nt x).length (aH (nt x))/\sL wr.heap.size wr.drew w' from zlc xo xc x wr.drew (hrx.below (fQ wr)) (by have h5:=HFL.out;omega))
   have HC2:=hid (show ∀W',sL wr.heap.size wr W'->W'.cell? ⟨Q,1,none⟩=some (.slice (some ⟨q,0,none⟩) n sc) from fun W' hW=>(hW.cell (p:=⟨Q,1,none⟩) (Nat.lt_of_lt_of_le hQ hwr)).trans d1)
   have HHS:=hid (show wr.ownsRow B 125 1 (.slice (some ⟨q,0,none⟩) n sc) n vs by have h5:=HRr.out.hS;rw[<- HN.out] at h5;exact h5)
   have k1:(0:Int)<(n:Int):=by omega
   have hBW:B<=wr.heap.size:=by omega
   have k2:0<n:=by omega
   clear HO HE hrx HRD c1 hx;go_wp2;refine d9 [(0,1),(1,1),(2,1),(3,0),(4,1),(5,2),(6,1),(7,2)] (fun W=>W.cell? ⟨Q,1,none⟩=some (.slice (some ⟨q,0,none⟩) n sc)) (fun _=>True) (fun j=>j==7) (by kernel_rfl) (by kernel_rfl) (fun j hj=>by simp at hj;rw[hj];decide) rfl (by kernel_rfl) (HC2.out _ (fQ wr)) trivial ?_
   iterate 5 ((first | refine zfv ?_ rfl (by kernel_rfl) (fun w' hS=>?_) ?_ | refine lQ ?_ rfl (by kernel_rfl) (fun w' hS=>?_) ?_);(rotate_left;(go_simp;with_reducible rfl);rotate_left))
   simp only[Act.put,sJ]
   refine iP rfl (by kernel_rfl) fun KK hKK=>?_
   go_simp;refine HNT.out.mono ?_;rintro e w5 ⟨v5,rfl,o5,b5⟩;have b5':sL wr.heap.size wr w5:=(fQ wr).trans b5;have HR5:=hid (HRr.out.below b5');have HO5:=hid (aT o5 hBW);obtain⟨d5,f5,l5⟩:=HR5.out.store (c:=0) HN.out (by have h5:=HN.out;omega) HO5.out
   obtain⟨yo,yc,rfl⟩:=gY HO5.out;have HHS5:=hid (kC HHS.out b5');have p1:w5.cell? ⟨q,0,none⟩=vs[0]? :=HHS5.out.cellAt 0 (by omega)
   have p2:=HHS5.out.frozenAt 0;obtain⟨v0,hv0⟩:∃v0,vs[0]? =some v0:=⟨_,sH (by have h5:=HHS.out.1;omega)⟩
   rw[hv0] at p1;have HD5:=hid d5;have HB5:=hid (show sL B w _ from(((HBr.out.mono hB).trans (b5'.mono hBW))).trans l5)
   refine hKK _ _ (fun _=>HC2.out w5 b5') trivial ?_
   clear hKK KK o5 b5 b5' d5 f5 l5 HR5 HO5 hv0;refine lQ ?_ rfl (by kernel_rfl) (fun w' hS=>?_) ?_;(rotate_left;(go_simp;with_reducible rfl);rotate_left)
   simp only[Act.put,sJ]
   refine iP rfl (by kernel_rfl) fun KK hKK=>?_
   go_simp;refine hKK _ _ (fun h=>by cases h) trivial ?_
   clear hKK KK p1 p2;refine oS (NoPanic.normal ?_);refine bodyPost_end (v:=.tuple #[]) (by simp[results,Tryz.f101,go_sem]) rfl ?_
   exact⟨rfl,HB5.out,_,_,by rw[<- HX.out];exact HD5.out⟩
end Dc
namespace Dc
open Go.RowKit
structure LnI (t:List UInt8) (i f:Nat) (D:List (List UInt8)):Prop where
 eq:gJ t=D++gJ (t.drop f)
 le:f<=i
 no:(10:UInt8) ∉ (t.drop f).take (i - f)
theorem LnI.skip {t:List UInt8} {i f:Nat} {D:List (List UInt8)} (h:LnI t i f D) (hi:i<t.length) (hb:t[i]≠10):LnI t (i+1) f D:=by
 refine⟨h.eq,by have:=h.le;omega,?_⟩
 have hle:=h.le;have e:i+1 - f=(i - f)+1:=by omega
 have hlt:i - f<(t.drop f).length:=by rw[tf];omega
 rw[e,ta hlt];intro hm
 rcases tw.1 hm with h5 | h5
 ·exact h.no h5
 ·have h6:=tn.1 h5
  rw[List.getElem_drop] at h6;have e2:f+(i - f)=i:=by omega
  simp only[e2] at h6
  exact hb h6.symm
theorem LnI.cut {t:List UInt8} {i f:Nat} {D:List (List UInt8)} (h:LnI t i f D) (hi:i<t.length) (hb:t[i]=10):LnI t (i+1) (i+1) (D++[(t.drop f).take (i - f)]):=by
 have hle:=h.le;have hsp:t.drop f=(t.drop f).take (i - f)++10::t.drop (i+1):=by
  conv=>lhs;rw[<- tj (i - f) (t.drop f)]
  rw[List.drop_drop,show f+(i - f)=i by omega,te hi,hb]
 refine⟨?_,sM _,by simp⟩
 rw[h.eq,List.append_assoc]
 conv=>lhs;rw[hsp]
 rw[zlP _ _ h.no]
 rfl
theorem LnI.done {t:List UInt8} {f:Nat} {D:List (List UInt8)} (h:LnI t t.length f D):gJ t=D++[t.drop f]:=by
 have h5:=h.no;rw[ti (by rw[tf];exact sM _)] at h5
 rw[h.eq,zlO _ h5]
theorem LnI.len {t:List UInt8} {i f:Nat} {D:List (List UInt8)} (h:LnI t i f D):D.length<=t.length+1:=by
 have h5:=zap t;rw[h.eq,sK] at h5;omega
set_option maxRecDepth 100000 in
theorem zfa (t:List UInt8) (w:sQ) (hl:t.length<=1000000):
  td Tryz.prog 99 #[.string ⟨t.toArray⟩] w fun e w'=>∃v',e= .returned v'/\w'.ownsRow w.heap.size 9 1 v' (gJ t).length (nms (gJ t))/\sL w.heap.size w w':=by
 obtain⟨i0,hi9,hz0,hz1,hz2⟩:=tg Tryz.infoStr;have HSZ:=hid (show(⟨t.toArray⟩:ByteArray).size=t.length by show t.toArray.size=_;simp)
 obtain⟨N,hNE⟩:∃N,N=w.heap.size:=⟨_,rfl⟩;have HNE:=hid hNE;have HB0:=hid (show sL N w w by rw[hNE];exact sO _ _)
 rw[<- hNE];clear hNE;go_enter Tryz.func99,Tryz.ntmps99;go_wp2;go_loopw [3,4,5] (fun x y z wr=>∃(i f m:Nat) (vo:Option Addr) (vc:Nat) (D:List (List UInt8)),x= .slice vo m vc/\y= .int .i64 (f:Int)/\z= .int .i64 (i:Int)/\i<=t.length/\f<=i/\Hid (LnI t i f D)/\Hid (m=D.length)/\Hid (wr.ownsRow N 9 1 (.slice vo m vc) m (nms D))/\Hid (sL N w wr)) (fun _ _ z _=>t.length - (sV z).toNat)
 case atStart=>exact⟨0,0,0,none,0,[],rfl,rfl,rfl,by omega,by omega,⟨rfl,by omega,by simp⟩,rfl,sZ w N 9 1,HB0⟩
 case round=>
  obtain⟨i,f,m,vo,vc,D,rfl,rfl,rfl,hi,hf,HL,HM,HO,HB⟩:=hrel;have hwN:N<=wr.heap.size:=by have h5:=HNE.out;have h6:=HB.out.size;omega
  have hm1:m<=1000001:=by have h5:=HL.out.len;have h6:=HM.out;omega
  by_cases hlt:i<t.length
  ·have hszk:i<(⟨t.toArray⟩:ByteArray).size:=by rw[HSZ.out];exact hlt
   have i3:(i:Int)<(t.length:Int):=by omega
   have i4:(i:Int)<=(t.length:Int):=by omega
   have i0':(0:Int)<=(i:Int):=by omega
   have f0:(0:Int)<=(f:Int):=by omega
   have f1:(f:Int)<=(i:Int):=by omega
   have hq:(⟨t.toArray⟩:ByteArray)[i]'hszk=t[i]:=rfl
   by_cases hb:t[i]=10
   ·have HLC:=hid (HL.out.cut hlt hb)
    have hb':((t[i].toNat:Int)==10)=true:=by rw[hb];rfl
    have HX:=hid (show(⟨t.toArray⟩:ByteArray).extract f i=⟨((t.drop f).take (i - f)).toArray⟩ by
     have h5:=ext_mid t f (i - f);rw[show f+(i - f)=i by omega] at h5
     exact h5)
    generalize t[i]=b at *
    clear hb;go_wp2_with (at_builtin;refine sW _ rfl _ _ 66 rfl N 9 i0 (.string ⟨#[]⟩) 1 16 Tryz.underlying66 hi9 hz0 hz1 hz2 rfl (by decide) _ m (nms D) rfl (HO.out.alloc _) ⟨wr.heap.size,0,none⟩ 1 1 [.string ((⟨t.toArray⟩:ByteArray).extract f i)] rfl rfl (zft wr ((⟨t.toArray⟩:ByteArray).extract f i) 9) (rX _) (by decide) (by unfold tm;omega) (by omega) (by simp;omega) (wr.heap.size+1) (by simp) ?_;intro q2 c2 w2 o2 gr2 hl2 hlt2)
    have HB2:=hid ((HB.out.alloc hwN (.cells #[.string ((⟨t.toArray⟩:ByteArray).extract f i)] 9)).grown gr2 (by simp;omega) (fun k hk=>(HO.out.lt k hk).1))
    have HO2:=hid (show w2.ownsRow N 9 1 (.slice (some ⟨q2,0,none⟩) (m+1) c2) (m+1) (nms (D++[(t.drop f).take (i - f)])) by rw[oO,<- HX.out];exact o2)
    clear o2 gr2 hl2 hlt2;go_roundw
    case rel=>exact⟨i+1,i+1,m+1,some ⟨q2,0,none⟩,c2,_,rfl,by go_num,by go_num,by omega,by omega,HLC,by show m+1=_;rw[sK,<- HM.out];rfl,HO2,HB2⟩
    case measure=>simp[sV];omega
   ·have HLC:=hid (HL.out.skip hlt hb)
    have hb':((t[i].toNat:Int)==10)=false:=beq_eq_false_iff_ne.2 (fun e=>hb (UInt8.toNat_inj.1 (show t[i].toNat=10 by omega)))
    generalize t[i]=b at *
    clear hb;go_wp2;go_roundw
    case rel=>exact⟨i+1,f,m,vo,vc,D,rfl,rfl,by go_num,by omega,by omega,HLC,HM,HO,HB⟩
    case measure=>simp[sV];omega
  ·have hit:i=t.length:=by omega
   subst hit;have i3:¬(t.length:Int)<(t.length:Int):=by omega
   have f0:(0:Int)<=(f:Int):=by omega
   have f1:(f:Int)<=(t.length:Int):=by omega
   have HLD:=hid HL.out.done;have HX:=hid (show(⟨t.toArray⟩:ByteArray).extract f t.length=⟨(t.drop f).toArray⟩ from ext_drop t f)
   go_wp2_with (at_builtin;refine sW _ rfl _ _ 66 rfl N 9 i0 (.string ⟨#[]⟩) 1 16 Tryz.underlying66 hi9 hz0 hz1 hz2 rfl (by decide) _ m (nms D) rfl (HO.out.alloc _) ⟨wr.heap.size,0,none⟩ 1 1 [.string ((⟨t.toArray⟩:ByteArray).extract f t.length)] rfl rfl (zft wr ((⟨t.toArray⟩:ByteArray).extract f t.length) 9) (rX _) (by decide) (by unfold tm;omega) (by omega) (by simp;omega) (wr.heap.size+1) (by simp) ?_;intro q2 c2 w2 o2 gr2 hl2 hlt2)
   have HB2:=hid ((HB.out.alloc hwN (.cells #[.string ((⟨t.toArray⟩:ByteArray).extract f t.length)] 9)).grown gr2 (by simp;omega) (fun k hk=>(HO.out.lt k hk).1))
   have HO2:=hid (show w2.ownsRow N 9 1 (.slice (some ⟨q2,0,none⟩) (m+1) c2) (m+1) (nms (D++[t.drop f])) by rw[oO,<- HX.out];exact o2)
   clear o2 gr2 hl2 hlt2;go_ret;refine⟨_,rfl,?_,HB2.out⟩;rw[HLD.out,sK,<- HM.out];exact HO2.out
end Dc
namespace Dc
open Go.RowKit
theorem zqz (s b:List UInt8) (L:List Rg) (e:Int) (h:pY s=some (b,L,e)):L.length<=s.length:=by
 unfold pY at h
 split at h
 ·injection h with h;injection h with _ h;injection h with h _
  rw[<- h];have h5:=zab ((s.take (fb 59 s)).map tbl);rw[tu,sR] at h5;omega
 ·cases h
theorem iE:∀(D:List (List Rg)) (c:Nat),(D.getD c []).length<=fw D
 | [],c=>by simp[fw]
 | l::D,0=>by show l.length<=l.length+fw D;omega
 | l::D,c+1=>by
  have:=iE D c
  show(D.getD c []).length<=l.length+fw D
  omega
theorem zgJ:∀(D E:List (List Rg)),fw (D++E)=fw D+fw E
 | [],E=>by simp[fw]
 | l::D,E=>by
  show l.length+fw (D++E)=l.length+fw D+fw E
  rw[zgJ D E];omega
theorem zpp (D:List (List Rg)) (x:List Rg) (h:x∈D):x.length<=fw D:=by
 obtain⟨k,hk⟩:=List.mem_iff_getElem?.1 h;have h5:=iE D k;rw[sI,hk] at h5;exact h5
theorem zbw:∀(D:List (List Rg)),D.flatten.length=fw D
 | []=>rfl
 | l::D=>by rw[List.flatten_cons,sK,zbw D];rfl
theorem zkz (D:List (List Rg)):(D.drop 1).flatten.length<=fw D:=by
 rw[zbw]
 cases D with
 | nil=>exact sM _
 | cons l D=>show fw D<=l.length+fw D;omega
theorem zhh (a b:List Rg):(mu a b).length<=a.length+b.length:=by
 unfold mu;have h:=zai (a++b);rw[sK] at h;exact h
theorem zqE (U:List (List UInt8)) (D:List (List Rg)) (b:List UInt8) (L:List Rg):fw (dcN U D b L).2.2<=fw D+L.length:=by
 unfold dcN
 split
 ·show fw D<=_;omega
 ·split
  ·show fw D<=_;omega
  ·dsimp only
   split
   ·have h1:=zgI D (U.idxOf b) (mu (D.getD (U.idxOf b) []) L)
    have h2:=zhh (D.getD (U.idxOf b) []) L;have h3:=iE D (U.idxOf b);omega
   ·rw[zgJ]
    have h2:=zhh [] L
    show fw D+((mu [] L).length+0)<=_
    simp only[List.length_nil] at h2
    omega
theorem zqD (U:List (List UInt8)) (D:List (List Rg)) (l:List UInt8):fw (dcS U D l).2.2<=fw D+l.length:=by
 rw[zrP]
 split
 ·show fw D<=_;omega
 ·have h5:=zbV l
  cases h:pY (cz l) with
  | none=>show fw D<=_;omega
  | some x=>
   obtain⟨b,L,e⟩:=x;have h6:=zqz _ b L e h
   dsimp only[dcO]
   split
   ·show fw D<=_;omega
   ·split
    ·show fw D<=_;omega
    ·have h7:=zqE U D b L
     omega
theorem ziA (L:List (List UInt8)) (k:Nat) (x:List UInt8) (h:L[k]? =some x):km (L.drop k)=x.length+km (L.drop (k+1)):=by
 obtain⟨hk,rfl⟩:=sN.1 h;rw[te hk]
 rfl
theorem zvy (w:sQ) (a b c:Obj) (w':sQ) (h:w'=((w.alloc a).alloc b).alloc c):w'.heap[w.heap.size]? =some a/\w'.heap[w.heap.size+1]? =some b/\w'.heap[w.heap.size+2]? =some c/\w'.heap.size=w.heap.size+3:=by
 subst h;refine⟨?_,?_,?_,by simp⟩
 ·rw[cw _ _ _ (by simp;omega),cw _ _ _ (by simp),heap_alloc_new]
 ·rw[cw _ _ _ (by simp)]
  have h5:=heap_alloc_new (w.alloc a) b;rw[sP] at h5;exact h5
 ·have h5:=heap_alloc_new ((w.alloc a).alloc b) c
  rw[sP,sP] at h5;exact h5
theorem zjX (w:sQ):aW w.heap.size (w.heap.size+2) [oth] [[]] (.slice (some ⟨w.heap.size,0,none⟩) 1 1) (.slice (some ⟨w.heap.size+1,0,none⟩) 1 1) [.slice none 0 0]
  (((w.alloc (.cells #[.string ⟨#[79,116,104,101,114]⟩] 9)).alloc (.cells #[.slice none 0 0] 125)).alloc (.cells #[.slice (some ⟨w.heap.size,0,none⟩) 1 1,.slice (some ⟨w.heap.size+1,0,none⟩) 1 1] 91)):=by
 obtain⟨h0,h1,h2,_⟩:=zvy w (.cells #[.string ⟨#[79,116,104,101,114]⟩] 9) (.cells #[.slice none 0 0] 125) (.cells #[.slice (some ⟨w.heap.size,0,none⟩) 1 1,.slice (some ⟨w.heap.size+1,0,none⟩) 1 1] 91) _ rfl;refine⟨h2,⟨rfl,.inr ⟨w.heap.size,1,_,rfl,sM _,h0,sM _,by unfold tm;omega,rfl,rfl⟩⟩,⟨rfl,.inr ⟨w.heap.size+1,1,_,rfl,by omega,h1,sM _,by unfold tm;omega,rfl,rfl⟩⟩,fun k l hk=>?_,by omega⟩
 have hk0:k=0:=by have h5:=(sN.1 hk).1;simp at h5;omega
 subst hk0
 cases hk
 exact⟨_,rfl,sZ _ _ _ _⟩
theorem zpV:∀l:List UInt8,1<=(gJ l).length
 | []=>by simp[gJ]
 | b::l=>by
  rw[eI]
  split<;>simp
set_option maxRecDepth 100000 in
theorem zld (t : List UInt8) (w : sQ) (ht : t.length ≤ 12000 ∨ 65536 < t.length) :
    td Tryz.prog 69 #[.string ⟨t.toArray⟩] w fun e w' => sL w.heap.size w w' ∧
      (((nw t).1.1 ≠ 0 ∧ e = .returned (.tuple #[.pointer none, .int .i64 (nw t).1.1, .int .i64 ((nw t).1.2 : Int)])) ∨
       ((nw t).1.1 = 0 ∧ ∃ Q nv sv vs, e = .returned (.tuple #[.pointer (some ⟨Q, 0, none⟩), .int .i64 0, .int .i64 0]) ∧ aW w.heap.size Q (nw t).2.1 (dst (nw t).2.1.length (whl (nw t).2.2)) nv sv vs w')) := by
  have HSZ := hid (show (⟨t.toArray⟩ : ByteArray).size = t.length by show t.toArray.size = _; simp)
  by_cases hlong : 65536 < t.length
  · have HNW := hid (show nw t = ((1, 0), [oth], []) by unfold nw; rw [if_pos hlong])
    have hl' : (65536 : Int) < (t.length : Int) := by omega
    rw [HNW.out]
    clear hlong ht
    go_enter Tryz.func69, Tryz.ntmps69
    go_wp2
    go_ret3
    exact ⟨sO _ _, .inl ⟨by decide, rfl⟩⟩
  · have HNW := hid (show nw t = nwF 0 [oth] [] (gJ t) by unfold nw; rw [if_neg hlong])
    have hl' : ¬ (65536 : Int) < (t.length : Int) := by omega
    have htl : t.length ≤ 12000 := by omega
    obtain ⟨N, hN⟩ : ∃ N, N = w.heap.size := ⟨_, rfl⟩
    have HN := hid hN
    obtain ⟨W3, hW3⟩ : ∃ W3, W3 = ((w.alloc (.cells #[.string ⟨#[79, 116, 104, 101, 114]⟩] 9)).alloc (.cells #[.slice none 0 0] 125)).alloc (.cells #[.slice (some ⟨w.heap.size, 0, none⟩) 1 1, .slice (some ⟨w.heap.size + 1, 0, none⟩) 1 1] 91) := ⟨_, rfl⟩
    have HW3 := hid hW3
    have HD3 := hid (show aW N (N + 2) [oth] [[]] (.slice (some ⟨N, 0, none⟩) 1 1) (.slice (some ⟨N + 1, 0, none⟩) 1 1) [.slice none 0 0] W3 by rw [hW3, hN]; exact zjX w)
    have HB3 := hid (show sL N w W3 by rw [hW3, hN]; exact (((sO _ w).alloc (sM _) _).alloc (by simp) _).alloc (by simp; omega) _)
    have hs3 : W3.heap.size = N + 3 := by rw [hW3, hN]; simp
    have HLI := hid (zfa t W3 (by omega))
    obtain ⟨L, hL⟩ : ∃ L, L = gJ t := ⟨_, rfl⟩
    have HLP := hid (show 1 ≤ L.length by rw [hL]; exact zpV t)
    have hLL : L.length ≤ 12001 := by rw [hL]; have h5 := zap t; omega
    have HLM := hid (show ∀ x ∈ L, x.length ≤ t.length by rw [hL]; exact nE t)
    have HSU := hid (show km L ≤ t.length by rw [hL]; exact zgM t)
    rw [← hL] at HLI HNW
    clear hlong ht hN hW3 hL
    go_enter Tryz.func69, Tryz.ntmps69
    go_wp2_with fail
    rw [← HW3.out]
    refine HLI.out.mono ?_
    rintro e w4 ⟨lv, rfl, o4, b4⟩
    have HD4 := hid (HD3.out.below b4)
    have HB4 := hid (show sL N w w4 from HB3.out.trans (b4.mono (by omega)))
    have hs4 := b4.size
    obtain ⟨lo, lc, rfl, _⟩ := na o4 rfl
    have HO4 := hid o4
    obtain ⟨n, hn⟩ : ∃ n, n = L.length := ⟨_, rfl⟩
    have HNL := hid hn
    rw [← hn] at HO4 hLL ⊢
    rw [← HN.out]
    clear o4 b4 HLI HW3 HD3 HB3 hn
    go_wp2
    go_loopw [7, 8] (fun x _ wr => ∃ (k : Nat) (U : List (List UInt8)) (S : List Tr) (D : List (List Rg)) (nv sv : sX) (vs : List sX), x = .int .i64 (k : Int) ∧ k ≤ n ∧ Hid (nw t = nwF k U S (L.drop k)) ∧ Hid (zkr U S D) ∧ Hid (fw D + km (L.drop k) ≤ t.length) ∧ Hid (aW N (N + 2) U D nv sv vs wr) ∧ Hid (wr.ownsRow W3.heap.size 9 1 (.slice lo n lc) n (nms L)) ∧ Hid (∀ y, (sY lo n lc).ownBlock = some y → nv.ownBlock ≠ some y) ∧ Hid (sL N w wr)) (fun x _ _ => n - (sV x).toNat)
    case atStart =>
      refine ⟨0, [oth], [], [[]], _, _, _, rfl, by omega, HNW, zgm, by show 0 + 0 + km L ≤ t.length; have h5 := HSU.out; omega, HD4, HO4, fun y hy he => ?_, HB4⟩
      have h5 := (HO4.out.lt y hy).1
      have e2 : N = y := by simpa [sX.ownBlock] using he
      omega
    case round =>
      obtain ⟨k, U, S, D, nv, sv, vs, rfl, hk, HE, HBO, HTO, HDO, HOR, HNE, HBr⟩ := hrel
      have hwr := HBr.out.size
      have hNr : N ≤ wr.heap.size := by have h5 := HN.out; omega
      by_cases hlt : k < n
      · have hkL : k < L.length := by have h5 := HNL.out; omega
        have i3 : (k : Int) < (n : Int) := by omega
        have i0' : (0 : Int) ≤ (k : Int) := by omega
        obtain ⟨lo', lc', e', hrn⟩ := na HOR.out HNL.out
        cases e'
        obtain ⟨a, rfl, ha, a0⟩ := hrn k L[k] (sH hkL)
        have HAT := hid (zsx k U S L k L[k] (sH hkL))
        have HSD := hid (ziA L k L[k] (sH hkL))
        have hxl := HLM.out L[k] (sS hkL)
        obtain ⟨x, hx⟩ : ∃ x, x = L[k] := ⟨_, rfl⟩
        rw [← hx] at a0 HAT HSD hxl
        have HTS := hid (zqD U D x)
        obtain ⟨q1, q2⟩ := zxf U S D x HBO.out
        have hU0 : 1 ≤ U.length := (sN.1 HBO.out.good.1).1
        have HLN := hid (ziJ N (N + 2) U D nv sv vs x wr HDO.out hNr (by omega) HBO.out.len hU0 HBO.out.rel.1 (fun y hy => by have h5 := zpp D y hy; have h6 := HTO.out; omega))
        have HQ2 := hid q2
        have HQ1 := hid q1
        rw [q1] at HLN
        clear q1 q2 hrn hx hkL
        obtain ⟨er, her⟩ : ∃ er, er = (p6 U S x).1 := ⟨_, rfl⟩
        have HER := hid her
        rw [← her] at HLN HQ2 HAT
        clear her
        by_cases he : er = 0
        · have HN5 := hid (show nw t = _ by rw [HE.out, HAT.out, if_pos he])
          obtain ⟨HU2, HB2⟩ := HQ2.out he
          rw [HU2] at HLN
          subst he
          go_wp2_with fail
          refine HLN.out.mono ?_
          rintro e w5 ⟨rfl, b5, hok⟩
          obtain ⟨nv', sv', vs', d5, f5⟩ := hok (by first | rfl | trivial)
          have HD5 := hid d5
          have HB5 := hid (HBr.out.trans b5)
          have HO5 := hid (cu HOR.out (fun y hy => f5.st y (HOR.out.lt y hy).2 (fun e => by subst e; exact aX HOR.out _ _ 91 HDO.out.hQ (by decide) hy) (HNE.out y hy) (fun cs f e => by obtain ⟨c, hc⟩ := iJ HOR.out hy; rw [hc] at e; cases e)))
          have HN6 := hid (show ∀ y, (sY (some a) n lc).ownBlock = some y → nv'.ownBlock ≠ some y from fun y hy he => by
            rcases f5.nw y he with h5 | h5
            · exact HNE.out y hy h5
            · have h6 := (HOR.out.lt y hy).2; omega)
          have HB3 := hid HB2
          have HT5 := hid (show fw (dcS U D x).2.2 + km (L.drop (k + 1)) ≤ t.length by have h5 := HTO.out; have h6 := HSD.out; have h7 := HTS.out; omega)
          clear hok d5 f5 b5 HLN HAT
          go_wp2
          go_roundw
          case rel => exact ⟨k + 1, _, _, _, nv', sv', vs', by go_num, by omega, HN5, HB3, HT5, HD5, HO5, HN6, HB5⟩
          case measure => simp [sV]; omega
        · have HN5 := hid (show nw t = ((er, k + 1), U, S) by rw [HE.out, HAT.out, if_neg he])
          have he' : (er != 0) = true := bne_iff_ne.2 he
          have HNZ := hid he
          clear he
          go_wp2_with fail
          refine HLN.out.mono ?_
          rintro e w5 ⟨rfl, b5, hok⟩
          have HB5 := hid (HBr.out.trans b5)
          clear hok b5 HLN HAT
          go_wp2
          go_ret3
          rw [HN5.out]
          exact ⟨by rw [← HN.out]; exact HB5.out, .inl ⟨HNZ.out, by go_num⟩⟩
      · have i3 : ¬ (k : Int) < (n : Int) := by omega
        have HN5 := hid (show nw t = ((0, 0), U, S) by rw [HE.out, List.drop_of_length_le (by have h5 := HNL.out; omega)]; rfl)
        have hU0 : 1 ≤ U.length := (sN.1 HBO.out.good.1).1
        have hDU := HBO.out.rel.1
        have hU64 := HBO.out.len
        obtain ⟨g1, g2, g3, g4⟩ := zku U S HBO.out.good HBO.out.rs
        have HFI := hid (zoa U.length S D hU0 HBO.out.rs HBO.out.good.2 g1 g2 HBO.out.rel)
        have HRE := hid (ziF N (N + 2) U D nv sv vs wr HDO.out hNr (by omega) (by omega) (by have h5 := zkz D; have h6 := HTO.out; omega))
        rw [HFI.out] at HRE
        clear g1 g2 g3 g4 HFI hDU
        go_wp2_with fail
        refine HRE.out.mono ?_
        rintro e w5 ⟨rfl, b5, sv', vs', d5⟩
        have HD5 := hid d5
        have HB5 := hid (HBr.out.trans b5)
        clear d5 b5 HRE
        go_wp2
        go_ret3
        rw [HN5.out]
        exact ⟨by rw [← HN.out]; exact HB5.out, .inr ⟨rfl, N + 2, nv, sv', vs', by go_num, by rw [← HN.out]; exact HD5.out⟩⟩
end Dc
namespace Dc
open Go.RowKit
theorem zfV (A:List Tr) (n:Nat) (hC:ml 0 A 1114112) (hc:∀g∈A,g.2.2<n) (r:Int) (h0:0<=r) (h1:r<=1114111):gtp r A<n:=by
 obtain⟨g,hg,h3,h4⟩:=zaS A 0 1114112 r hC (by omega) (by omega)
 rw[l8 A 0 _ r g hC hg h3 h4];exact hc g hg
theorem zeb (r:Int):0<=cd r/\cd r<=1114111:=by
 unfold cd
 split<;>omega
set_option maxRecDepth 100000 in
theorem zbX (B Q n:Nat) (U:List (List UInt8)) (A:List Tr) (nv sv:sX) (vs:List sX) (r:Int) (w:sQ) (h:aW B Q U (dst n A) nv sv vs w) (hC:ml 0 A 1114112) (hc:∀g∈A,g.2.2<n) (hn:n<=1000) (hl:A.length<=10000000):
  td Tryz.prog 91 #[.pointer (some ⟨Q,0,none⟩),.int .i32 r] w fun e w'=>e= .returned (.int .i64 (gtp (cd r) A:Nat))/\w'=w:=by
 obtain⟨i1,i2⟩:=zeb r;have HAS:=hid (fun k:Nat=>zql A hC (cd r) k i1 i2)
 have HGN:=hid (zfV A n hC hc (cd r) i1 i2);obtain⟨G,hG⟩:∃G,G=gtp (cd r) A:=⟨_,rfl⟩;rw[<- hG] at HAS HGN⊢;have hn1:1<=n:=by have h5:=HGN.out;omega
 obtain⟨so,sc,rfl,hrd⟩:=h.rd;have HRD:=hid hrd;have c1:=h.c1;rw[zhX] at c1;clear h hrd hG i1 i2 hC hc
 by_cases h1:r<0
 ·have HI:=hid (show cd r=65533 by unfold cd;rw[if_pos (.inl h1)])
  rw[HI.out] at HAS;clear HI;go_enter Tryz.func91,Tryz.ntmps91;go_wp2;go_loopw [5] (fun x wr=>∃k:Nat,1<=k/\k<=n/\x= .int .i64 (k:Int)/\Hid (∀j,1<=j->j<k->G≠j)/\wr=w) (fun x _=>n - (sV x).toNat)
  case atStart=>exact⟨1,by omega,by omega,rfl,fun j h1 h2=>by omega,rfl⟩
  case round=>
   obtain⟨k,hk1,hk,rfl,HJ,hw⟩:=hrel;subst hw
   by_cases hlt:k<n
   ·have i3:(k:Int)<(n:Int):=by omega
    have i0':(0:Int)<=(k:Int):=by omega
    obtain⟨a,rfl,ha,ao,ac,a0,hra,_⟩:=HRD.out k (jb (k:Int) A) (zaO n A k hlt);have HH:=hid (ou ao ac (jb (k:Int) A) 65533 wr hra (by have h5:=sb (k:Int) A;omega))
    rw[HAS.out k] at HH
    generalize (jb (k:Int) A).length=nx at *
    by_cases hG:G=k
    ·rw[decide_eq_true hG] at HH
     have HG:=hid hG;clear hG hra;go_wp2_with fail;refine HH.out.mono ?_;rintro e w2 ⟨rfl,hw⟩;obtain rfl:=hw.symm;clear HH;go_wp2;go_ret;exact⟨by rw[HG.out];rfl,rfl⟩
    ·rw[decide_eq_false hG] at HH
     have HZ:=hid (show ∀j,1<=j->j<k+1->G≠j from fun j h1 h2=>by
      by_cases h5:j<k
      ·exact HJ.out j h1 h5
      ·have h6:j=k:=by omega
       rw[h6];exact hG)
     clear hG hra;go_wp2_with fail;refine HH.out.mono ?_;rintro e w2 ⟨rfl,hw⟩;obtain rfl:=hw.symm;clear HH;go_wp2;go_roundw
     case rel=>exact⟨k+1,by omega,by omega,by go_num,HZ,trivial⟩
     case measure=>simp[sV];omega
   ·have i3:¬(k:Int)<(n:Int):=by omega
    have HG:=hid (show G=0 by
     apply sU
     intro h5;exact HJ.out G (by omega) (by have h6:=HGN.out;omega) rfl)
    go_wp2;go_ret;exact⟨by rw[HG.out];rfl,rfl⟩
 by_cases h2:1114111<r
 ·have HI:=hid (show cd r=65533 by unfold cd;rw[if_pos (.inr h2)])
  rw[HI.out] at HAS;clear HI;go_enter Tryz.func91,Tryz.ntmps91;go_wp2;go_loopw [5] (fun x wr=>∃k:Nat,1<=k/\k<=n/\x= .int .i64 (k:Int)/\Hid (∀j,1<=j->j<k->G≠j)/\wr=w) (fun x _=>n - (sV x).toNat)
  case atStart=>exact⟨1,by omega,by omega,rfl,fun j h1 h2=>by omega,rfl⟩
  case round=>
   obtain⟨k,hk1,hk,rfl,HJ,hw⟩:=hrel;subst hw
   by_cases hlt:k<n
   ·have i3:(k:Int)<(n:Int):=by omega
    have i0':(0:Int)<=(k:Int):=by omega
    obtain⟨a,rfl,ha,ao,ac,a0,hra,_⟩:=HRD.out k (jb (k:Int) A) (zaO n A k hlt);have HH:=hid (ou ao ac (jb (k:Int) A) 65533 wr hra (by have h5:=sb (k:Int) A;omega))
    rw[HAS.out k] at HH
    generalize (jb (k:Int) A).length=nx at *
    by_cases hG:G=k
    ·rw[decide_eq_true hG] at HH
     have HG:=hid hG;clear hG hra;go_wp2_with fail;refine HH.out.mono ?_;rintro e w2 ⟨rfl,hw⟩;obtain rfl:=hw.symm;clear HH;go_wp2;go_ret;exact⟨by rw[HG.out];rfl,rfl⟩
    ·rw[decide_eq_false hG] at HH
     have HZ:=hid (show ∀j,1<=j->j<k+1->G≠j from fun j h1 h2=>by
      by_cases h5:j<k
      ·exact HJ.out j h1 h5
      ·have h6:j=k:=by omega
       rw[h6];exact hG)
     clear hG hra;go_wp2_with fail;refine HH.out.mono ?_;rintro e w2 ⟨rfl,hw⟩;obtain rfl:=hw.symm;clear HH;go_wp2;go_roundw
     case rel=>exact⟨k+1,by omega,by omega,by go_num,HZ,trivial⟩
     case measure=>simp[sV];omega
   ·have i3:¬(k:Int)<(n:Int):=by omega
    have HG:=hid (show G=0 by
     apply sU
     intro h5;exact HJ.out G (by omega) (by have h6:=HGN.out;omega) rfl)
    go_wp2;go_ret;exact⟨by rw[HG.out];rfl,rfl⟩
 ·have HI:=hid (show cd r=r by unfold cd;rw[if_neg (by omega)])
  rw[HI.out] at HAS;clear HI;go_enter Tryz.func91,Tryz.ntmps91;go_wp2;go_loopw [5] (fun x wr=>∃k:Nat,1<=k/\k<=n/\x= .int .i64 (k:Int)/\Hid (∀j,1<=j->j<k->G≠j)/\wr=w) (fun x _=>n - (sV x).toNat)
  case atStart=>exact⟨1,by omega,by omega,rfl,fun j h1 h2=>by omega,rfl⟩
  case round=>
   obtain⟨k,hk1,hk,rfl,HJ,hw⟩:=hrel;subst hw
   by_cases hlt:k<n
   ·have i3:(k:Int)<(n:Int):=by omega
    have i0':(0:Int)<=(k:Int):=by omega
    obtain⟨a,rfl,ha,ao,ac,a0,hra,_⟩:=HRD.out k (jb (k:Int) A) (zaO n A k hlt);have HH:=hid (ou ao ac (jb (k:Int) A) r wr hra (by have h5:=sb (k:Int) A;omega))
    rw[HAS.out k] at HH
    generalize (jb (k:Int) A).length=nx at *
    by_cases hG:G=k
    ·rw[decide_eq_true hG] at HH
     have HG:=hid hG;clear hG hra;go_wp2_with fail;refine HH.out.mono ?_;rintro e w2 ⟨rfl,hw⟩;obtain rfl:=hw.symm;clear HH;go_wp2;go_ret;exact⟨by rw[HG.out];rfl,rfl⟩
    ·rw[decide_eq_false hG] at HH
     have HZ:=hid (show ∀j,1<=j->j<k+1->G≠j from fun j h1 h2=>by
      by_cases h5:j<k
      ·exact HJ.out j h1 h5
      ·have h6:j=k:=by omega
       rw[h6];exact hG)
     clear hG hra;go_wp2_with fail;refine HH.out.mono ?_;rintro e w2 ⟨rfl,hw⟩;obtain rfl:=hw.symm;clear HH;go_wp2;go_roundw
     case rel=>exact⟨k+1,by omega,by omega,by go_num,HZ,trivial⟩
     case measure=>simp[sV];omega
   ·have i3:¬(k:Int)<(n:Int):=by omega
    have HG:=hid (show G=0 by
     apply sU
     intro h5;exact HJ.out G (by omega) (by have h6:=HGN.out;omega) rfl)
    go_wp2;go_ret;exact⟨by rw[HG.out];rfl,rfl⟩
end Dc
namespace Dc
def chn (d:Int) (r:Int):List (Int × Int × Int)->Int
 | []=>d
 | g::L=>if g.1<=r/\r<=g.2.1 then g.2.2 else chn d r L
def okc (c d:Int):Int->Int->List (Int × Int × Int)->Bool
 | _,_,[]=>d==c
 | lo,hi,g::L=>if hi<g.1\/g.2.1<lo then okc c d lo hi L else (g.2.2==c)&&(decide (g.1<=lo) || okc c d lo (g.1 - 1) L)&&(decide (hi<=g.2.1) || okc c d (g.2.1+1) hi L)
theorem iO (c d r:Int):∀(L:List (Int × Int × Int)) (lo hi:Int),lo<=r->r<=hi->okc c d lo hi L=true->chn d r L=c
 | [],_,_,_,_,h=>by
  show d=c
  simpa[okc] using h
 | g::L,lo,hi,h1,h2,h=>by
  unfold okc at h;unfold chn
  split at h
  ·rw[if_neg (by omega)]
   exact iO c d r L lo hi h1 h2 h
  ·rw[sT,sT] at h
   by_cases c1:g.1<=r/\r<=g.2.1
   ·rw[if_pos c1]
    exact eq_of_beq h.1.1
   ·rw[if_neg c1]
    by_cases c2:r<g.1
    ·rcases tc.1 h.1.2 with h5 | h5
     ·have h6:=of_decide_eq_true h5
      omega
     ·exact iO c d r L _ _ h1 (by omega) h5
    ·rcases tc.1 h.2 with h5 | h5
     ·have h6:=of_decide_eq_true h5
      omega
     ·exact iO c d r L _ _ (by omega) h2 h5
def chk (L:List (Int × Int × Int)) (d a b:Int):Int->List Tr->Bool
 | nx,[]=>decide (b<nx)
 | nx,g::R=>(decide (min (g.2.1:Int) b<max nx a) || okc (g.2.2:Int) d (max nx a) (min (g.2.1:Int) b) L)&&chk L d a b ((g.2.1:Int)+1) R
theorem dz (L:List (Int × Int × Int)) (d a b r:Int) (h1:a<=r) (h2:r<=b):∀(A:List Tr) (nx:Int),nx<=r->chk L d a b nx A=true->chn d r L=(gtp r A:Int)
 | [],nx,hn,h=>by
  unfold chk at h;have h5:=of_decide_eq_true h;omega
 | g::R,nx,hn,h=>by
  unfold chk at h;rw[sT] at h;unfold gtp
  by_cases hc:(g.2.1:Int)<r
  ·rw[if_pos hc]
   exact dz L d a b r h1 h2 R _ (by omega) h.2
  ·rw[if_neg hc]
   rcases tc.1 h.1 with h5 | h5
   ·have h6:=of_decide_eq_true h5
    omega
   ·exact iO _ d r L _ _ (by omega) (by omega) h5
theorem pz (r a:Int):(r=a)=(a<=r/\r<=a):=propext ⟨fun h=>by omega,fun h=>by omega⟩
def zqJ:Nat->List Tr->Nat->Bool
 | a,[],b=>a==b
 | a,g::R,b=>(g.1==a)&&decide (g.1<=g.2.1)&&zqJ (g.2.1+1) R b
theorem pD:∀(A:List Tr) (a b:Nat),zqJ a A b=true->ml a A b
 | [],a,b,h=>by
  unfold zqJ at h;exact eq_of_beq h
 | g::R,a,b,h=>by
  unfold zqJ at h;rw[sT,sT] at h;exact⟨eq_of_beq h.1.1,of_decide_eq_true h.1.2,pD R _ _ h.2⟩
def clsB (n:Nat) (A:List Tr):Bool:=A.all fun g=>decide (g.2.2<n)
theorem zgj {n:Nat} {A:List Tr} (h:clsB n A=true):∀g∈A,g.2.2<n:=fun g hg=>of_decide_eq_true (List.all_eq_true.1 h g hg)
end Dc
namespace Dc
open Go.RowKit
def Bk (U:List (List UInt8)) (A:List Tr) (Q:Nat) (w:sQ):Prop:=∃B nv sv vs,aW B Q U (dst U.length A) nv sv vs w
theorem Bk.below {U:List (List UInt8)} {A:List Tr} {Q:Nat} {w w':sQ} (h:Bk U A Q w) (hb:sL w.heap.size w w'):Bk U A Q w':=by
 obtain⟨B,nv,sv,vs,h⟩:=h;exact⟨B,nv,sv,vs,h.below hb⟩
theorem Bk.names {U:List (List UInt8)} {A:List Tr} {Q:Nat} {w:sQ} (h:Bk U A Q w) (k:Nat) (b:List UInt8) (hk:U[k]? =some b):∃a ac,w.cell? ⟨Q,0,none⟩=some (.slice (some a) U.length ac)/\w.cell? (a.add k)=some (.string ⟨b.toArray⟩):=by
 obtain⟨B,nv,sv,vs,h⟩:=h;obtain⟨ao,ac,rfl,hr⟩:=na h.hN rfl;obtain⟨a,rfl,_,h2⟩:=hr k b hk;exact⟨a,ac,h.c0,h2⟩
theorem zpA (s:ByteArray) (t:List UInt8) (w:sQ) (hs:s=⟨t.toArray⟩) (ht:t.length<=12000\/65536<t.length) (U:List (List UInt8)) (S:List Tr) (W:List Tr) (hn:nw t=((0,0),U,S)) (hw:whl S=W):
  td Tryz.prog 69 #[.string s] w fun e w'=>sL w.heap.size w w'/\∃Q,e= .returned (.tuple #[.pointer (some ⟨Q,0,none⟩),.int .i64 0,.int .i64 0])/\Bk U W Q w':=by
 subst hs;refine(zld t w ht).mono ?_;rintro e w' ⟨hb,h⟩;rw[hn,hw] at h;refine⟨hb,?_⟩
 rcases h with ⟨h1,_⟩ | ⟨_,Q,nv,sv,vs,h1,h2⟩
 ·exact absurd rfl h1
 ·exact⟨Q,h1,_,nv,sv,vs,h2⟩
end Dc
end Go.Proofs.YtbbapnpdfcgjnaaGreatDoor
