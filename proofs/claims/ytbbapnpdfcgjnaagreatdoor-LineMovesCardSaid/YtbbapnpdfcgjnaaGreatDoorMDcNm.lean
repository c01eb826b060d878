/- DcNm, PtLns, PtLiPs: parts of the proof, joined. -/
import Derived.Test.YtbbapnpdfcgjnaaGreatDoorMTxMath
import Derived.Test.YtbbapnpdfcgjnaaGreatDoorMPtEv
open List renaming length_take_le->sD, getElem?_eq_some_iff->sG, length_append->sH, drop_eq_getElem_cons->sI, getElem?_map->sJ, getElem?_eq_getElem->sL, length_cons->sN, drop_of_length_le->sO, length_take->sR
open Nat renaming le_trans->sE, le_of_ble_eq_true->sP, le_refl->sQ, mul_one->sS, blt->sT
open Go renaming wpList_append_own->sK
set_option maxHeartbeats 64000000
namespace Go.Proofs.YtbbapnpdfcgjnaaGreatDoor
namespace Dc
open Go.RowKit
theorem Tryz.info9:(Tryz.prog.info? 9).map (fun i=>(i.zero,i.size,i.bytes))=some (some (.string ⟨#[]⟩),1,16):=by kernel_rfl
def eT (U:List (List UInt8)):List Value:=U.map fun b=>.string ⟨b.toArray⟩
set_option maxRecDepth 100000 in
theorem zgA (U:List (List UInt8)) (A:List Tr) (Q:Nat) (w:World) (h:Bk U A Q w) (h0:0<U.length) (h9:U.length<=1000):
  Calls Tryz.prog 46 #[.pointer (some ⟨Q,0,none⟩)] w fun e w'=>∃g nc,e= .returned (.slice (some ⟨g,0,none⟩) U.length nc)/\Pt.aN w' g nc (eT U)/\w.heap.size<=g/\Below w.heap.size w w':=by
 obtain⟨i0,hi,hz0,hz1,hz2⟩:=info_parts Tryz.info9;obtain⟨a,ac,z0,_⟩:=h.names 0 U[0] (sL h0);have hz:∀(j:Nat) (u:Value),(eT U)[j]? =some u->w.cell? (a.add j)=some u:=fun j u hj=>by
  unfold eT at hj;rw[sJ] at hj
  cases hb:U[j]? with
  | none=>rw[hb] at hj;cases hj
  | some b=>
   rw[hb] at hj
   cases hj
   obtain⟨a2,ac2,y0,y1⟩:=h.names j b hb;rw[z0] at y0
   cases y0
   exact y1
 have hab:a.block<w.heap.size:=World.block_lt_of_cell? w _ (hz 0 _ (show(eT U)[0]? =some (.string ⟨(U[0]).toArray⟩) by unfold eT;rw[sJ,sL h0];rfl)) |> fun e=>by rwa [Pt.add_blk] at e
 have HZ:=hid (fun(o:Obj)=>fun(j:Nat) (u:Value) (hj:(eT U)[j]? =some u)=>(Pt.below_box (w:=w) (o:=o)).cell (p:=a.add j) (by rw[Pt.add_blk];exact hab) |>.trans (hz j u hj))
 have HL:=hid (show(eT U).length=U.length by simp[eT])
 have h1:∀u∈eT U,u.oneCell'=true:=fun u hu=>by
  obtain⟨b,_,rfl⟩:=List.mem_map.1 hu
  rfl
 have H1:=hid h1;obtain⟨N,hN⟩:∃N,N=U.length:=⟨_,rfl⟩;rw[<- hN] at z0 h0 h9 HL;have HN:=hid hN;clear hz h1 h hN;have hQ:Q<w.heap.size:=World.block_lt_of_cell? w _ z0;have z1:(w.alloc (.cells #[] 9)).cell? ⟨Q,0,none⟩=some (.slice (some a) N ac):=((Pt.below_box (w:=w) (o:=.cells #[] 9)).cell (p:=⟨Q,0,none⟩) hQ).trans z0;rw[<- HN.out];go_enter Tryz.func46,Tryz.ntmps46;go_wp2_with (at_builtin;refine sK _ rfl _ _ 66 rfl w.heap.size 9 i0 (.string ⟨#[]⟩) 1 16 Tryz.underlying66 hi hz0 hz1 hz2 rfl (by decide) _ 0 [] rfl (World.ownsRow_lit w #[] 0 (sQ _) (by decide) (by simp)) a N ac (eT U) rfl (by rw[HL.out,sS]) (HZ.out _) H1.out (by unfold maxLen;omega) (by omega) (by simp) ?_)
 intro v' w2 hown hgrow _;have hB2:Below w.heap.size w w2:=(Pt.below_box (w:=w) (o:=.cells #[] 9)).grown hgrow (by simp) (fun k hk=>by
  have:w.heap.size=k:=by simpa[Value.ownBlock] using hk
  omega)
 have HB2:=hid hB2;have HO:=hid hown;clear hown hgrow hB2;go_wp2;go_ret;obtain⟨e1,h2⟩:=HO.out
 rcases h2 with ⟨_,e2⟩ | ⟨g,cap,cur,rfl,k1,k2,k3,_,k5,k6⟩
 ·omega
 ·exact⟨g,cap,rfl,⟨cur,k2,by rw[k5,sS],by rw[HL.out];exact k3,by rw[HL.out];rw[sS] at k6;exact k6⟩,k1,HB2.out⟩
end Dc
namespace Pt
open Go.RowKit
def eU (p:List UInt8):List UInt8->List (List UInt8)
 | []=>[p]
 | c::r=>if c=10 then p::eU [] r else eU (p++[c]) r
theorem zeI (l:List UInt8) (f t:Nat):(⟨l.toArray⟩:ByteArray).extract f t=⟨((l.take t).drop f).toArray⟩:=by
 apply ByteArray.ext
 simp[ByteArray.data_extract,List.drop_take]
theorem zpQ (l:List UInt8) (p:List UInt8) (i:Nat) (hi:i<l.length) (h:l[i]=10):eU p (l.drop i)=p::eU [] (l.drop (i+1)):=by
 rw[sI hi]
 conv=>lhs;unfold eU
 rw[if_pos h]
theorem zsq (l:List UInt8) (p:List UInt8) (i:Nat) (hi:i<l.length) (h:l[i]≠10):eU p (l.drop i)=eU (p++[l[i]]) (l.drop (i+1)):=by
 rw[sI hi]
 conv=>lhs;unfold eU
 rw[if_neg h]
theorem ox:∀(r p:List UInt8),(eU p r).length<=r.length+1
 | [],p=>sQ _
 | c::r,p=>by
  unfold eU
  split
  ·have:=ox r []
   rw[sN,sN];omega
  ·have:=ox r (p++[c])
   rw[sN];omega
theorem qE (xs:List (List UInt8)) (p:List UInt8):Dc.eT (xs++[p])=Dc.eT xs++[.string ⟨p.toArray⟩]:=by simp[Dc.eT]
set_option maxRecDepth 100000 in
theorem zlC (l:List UInt8) (w:World) (hl:l.length<=100000):
  Calls Tryz.prog 71 #[.string ⟨l.toArray⟩] w fun e w'=>∃v,e= .returned v/\w'.ownsRow w.heap.size 9 1 v (eU [] l).length (Dc.eT (eU [] l))/\Below w.heap.size w w':=by
 obtain⟨i0,hi,hz0,hz1,hz2⟩:=info_parts Dc.Tryz.info9;have HSZ:=hid (show(⟨l.toArray⟩:ByteArray).size=l.length by show l.toArray.size=_;simp)
 have HLN:=hid (ox l []);go_enter Tryz.func71,Tryz.ntmps71;go_wp2;go_loopw [3,4,5] (fun v fv iv wr=>∃(f i:Nat) (xs:List (List UInt8)),fv= .int .i64 f/\iv= .int .i64 i/\f<=i/\i<=l.length/\Hid (eU [] l=xs++eU ((l.take i).drop f) (l.drop i))/\Hid (wr.ownsRow w.heap.size 9 1 v xs.length (Dc.eT xs))/\Hid (Below w.heap.size w wr)) (fun _ _ iv _=>l.length - (intOf iv).toNat)
 case atStart=>exact⟨0,0,[],rfl,rfl,sQ _,Nat.zero_le _,by simp[Hid],World.ownsRow_nil _ _ _ _,Below.refl _ _⟩
 case round=>
  obtain⟨f,i,xs,rfl,rfl,hfi,hil,HP,HO,HB⟩:=hrel
  by_cases hlt:i<l.length
  ·have h1:(i:Int)<(l.length:Int):=by omega
   have h0:(0:Int)<=(i:Int):=by omega
   have hxl:xs.length<=100001:=by
    have h5:=HLN.out;rw[HP.out,sH] at h5;omega
   have hbs:=HB.out.size;have hf0:(0:Int)<=(f:Int):=by omega
   have hfi2:(f:Int)<=(i:Int):=by omega
   have hil2:(i:Int)<=(l.length:Int):=by omega
   have hw9:IntKind.i64.wrap ((i:Int)+1)=(i:Int)+1:=by rw[IntKind.wrap_i64];omega
   by_cases hc:l[i]=10
   ·obtain⟨p,hp⟩:∃p,p=(l.take i).drop f:=⟨_,rfl⟩
    have HE:=hid (show(⟨l.toArray⟩:ByteArray).extract f i=⟨p.toArray⟩ by rw[zeI,hp])
    have HP2:=hid (show eU [] l=(xs++[p])++eU ((l.take (i+1)).drop (i+1)) (l.drop (i+1)) by
     rw[HP.out,zpQ l _ i hlt hc,<- hp,List.append_assoc,show(l.take (i+1)).drop (i+1)=[] from sO (by rw[sR];omega)];rfl)
    have hgi:(⟨l.toArray⟩:ByteArray)[i]'(by rw[HSZ.out];exact hlt)=l[i]:=rfl
    have hn3:l[i].toNat=10:=by rw[hc];rfl
    have hn2:(l[i].toNat:Int)=10:=by omega
    clear hp HP;go_wp2_with (at_builtin;refine sK _ rfl _ _ 66 rfl w.heap.size 9 i0 (.string ⟨#[]⟩) 1 16 Tryz.underlying66 hi hz0 hz1 hz2 rfl (by decide) _ xs.length (Dc.eT xs) rfl (HO.out.alloc _) ⟨wr.heap.size,0,none⟩ 1 1 [.string ((⟨l.toArray⟩:ByteArray).extract f i)] rfl rfl (Dc.zfO wr (.string ((⟨l.toArray⟩:ByteArray).extract f i)) 9) (Dc.zfp _) (by unfold maxLen;omega) (by omega) (by simp;omega) ?_;intro v2 w2 o2 gr2 _;have HO2:=hid (show w2.ownsRow w.heap.size 9 1 v2 (xs++[p]).length (Dc.eT (xs++[p])) by rw[qE,sH,<- HE.out];exact o2);have HB2:=hid ((HB.out.alloc HB.out.size (.cells #[.string ((⟨l.toArray⟩:ByteArray).extract f i)] 9)).grown gr2 (by simp;omega) (fun j hj=>(HO.out.lt j hj).1));clear o2 gr2)
    go_roundw
    case rel=>exact⟨i+1,i+1,xs++[p],by go_num,by go_num,sQ _,hlt,HP2,HO2,HB2⟩
    case measure=>simp[intOf];omega
   ·have HP2:=hid (show eU [] l=xs++eU ((l.take (i+1)).drop f) (l.drop (i+1)) by
     rw[HP.out,zsq l _ i hlt hc,List.take_succ_eq_append_getElem hlt,List.drop_append_of_le_length (by rw[sR];omega)])
    have hgi:(⟨l.toArray⟩:ByteArray)[i]'(by rw[HSZ.out];exact hlt)=l[i]:=rfl
    have hn3:¬l[i].toNat=10:=fun h=>hc (UInt8.toNat_inj.1 (by rw[h];rfl))
    have hn2:¬(l[i].toNat:Int)=10:=by omega
    have hn1:(l[i].toNat==10)=false:=beq_eq_false_iff_ne.2 hn3;have hn0:((l[i].toNat:Int)==10)=false:=beq_eq_false_iff_ne.2 hn2;clear HP;go_wp2;go_roundw
    case rel=>exact⟨f,i+1,xs,rfl,by go_num,by omega,hlt,HP2,HO,HB⟩
    case measure=>simp[intOf];omega
  ·have h1:¬(i:Int)<(l.length:Int):=by omega
   have hie:i=l.length:=by omega
   have hxl:xs.length<=100001:=by
    have h5:=HLN.out;rw[HP.out,sH] at h5;omega
   have hbs:=HB.out.size;have hf0:(0:Int)<=(f:Int):=by omega
   have hfl:(f:Int)<=(l.length:Int):=by omega
   obtain⟨p,hp⟩:∃p,p=(l.take i).drop f:=⟨_,rfl⟩;have HE:=hid (show(⟨l.toArray⟩:ByteArray).extract f l.length=⟨p.toArray⟩ by rw[zeI,hp,hie])
   have HP2:=hid (show eU [] l=xs++[p] by
    rw[HP.out,<- hp,sO (by omega)];rfl)
   clear hp HP hie;go_wp2_with (at_builtin;refine sK _ rfl _ _ 66 rfl w.heap.size 9 i0 (.string ⟨#[]⟩) 1 16 Tryz.underlying66 hi hz0 hz1 hz2 rfl (by decide) _ xs.length (Dc.eT xs) rfl (HO.out.alloc _) ⟨wr.heap.size,0,none⟩ 1 1 [.string ((⟨l.toArray⟩:ByteArray).extract f l.length)] rfl rfl (Dc.zfO wr (.string ((⟨l.toArray⟩:ByteArray).extract f l.length)) 9) (Dc.zfp _) (by unfold maxLen;omega) (by omega) (by simp;omega) ?_;intro v2 w2 o2 gr2 _;have HO2:=hid (show w2.ownsRow w.heap.size 9 1 v2 (xs++[p]).length (Dc.eT (xs++[p])) by rw[qE,sH,<- HE.out];exact o2);have HB2:=hid ((HB.out.alloc HB.out.size (.cells #[.string ((⟨l.toArray⟩:ByteArray).extract f l.length)] 9)).grown gr2 (by simp;omega) (fun j hj=>(HO.out.lt j hj).1));clear o2 gr2)
   go_ret;exact⟨_,rfl,by rw[HP2.out];exact HO2.out,HB2.out⟩
theorem zkg (l:List UInt8) (ls:List (List UInt8)) (hs:eU [] l=ls) (hl:l.length<=100000) (w:World):
  Calls Tryz.prog 71 #[.string ⟨l.toArray⟩] w fun e w'=>∃vo vc,e= .returned (.slice vo ls.length vc)/\zpi w.heap.size w' vo ls/\Below w.heap.size w w':=by
 subst hs;refine(zlC l w hl).mono ?_;rintro e w' ⟨v,rfl,hO,hB⟩
 rcases hO.2 with ⟨e1,h0⟩ | ⟨q,cap,cur,e1,hb,hg,_,_,_,htk⟩
 ·exact⟨none,0,by rw[e1,h0],fun j s hj=>by
   have:=(sG.1 hj).1;omega,hB⟩
 ·refine⟨some ⟨q,0,none⟩,cap,by rw[e1],fun j s hj=>?_,hB⟩
  have hjl:=(sG.1 hj).1;refine⟨q,0,cur,_,rfl,hb,hg,?_⟩;have h1:(Dc.eT (eU [] l))[j]? =some (.string ⟨s.toArray⟩):=by
   unfold Dc.eT;rw[sJ,hj];rfl
  rw[<- htk,List.getElem?_take_of_lt (by omega)] at h1
  rw[Nat.zero_add]
  simpa using h1
end Pt
section
open Ev Go.RowKit
namespace Pt
def zqu:List UInt8:=[67,114,32,126,32,76,102,10,91,66,107,32,67,114,32,76,102,93,32,47,10,126,32,91,66,107,32,67,114,32,76,102,32,83,112,32,90,119,93,10,90,119,32,83,112,42,32,47,10,91,94,66,107,32,67,114,32,76,102,32,83,112,32,90,119,93,32,126,32,67,109,10,126,32,87,106,10,87,106,32,67,109,42,32,126,10,71,108,32,67,109,42,32,126,10,91,94,83,112,32,66,97,32,72,121,32,67,109,93,32,67,109,42,32,126,32,71,108,10,94,32,67,109,32,67,109,42,32,126,32,71,108,10,126,32,91,67,108,32,67,112,32,69,120,32,73,115,32,83,121,93,10,79,112,32,67,109,42,32,83,112,42,32,126,10,81,117,32,67,109,42,32,83,112,42,32,126,32,79,112,10,91,67,108,32,67,112,93,32,67,109,42,32,83,112,42,32,126,32,78,115,10,68,97,115,104,32,67,109,42,32,83,112,42,32,126,32,68,97,115,104,10,83,112,32,47,10,126,32,81,117,10,81,117,32,67,109,42,32,126,10,126,32,91,66,97,32,72,121,32,78,115,93,10,126,32,73,110,10,79,116,104,101,114,32,67,109,42,32,126,32,78,117,10,78,117,32,67,109,42,32,126,32,79,116,104,101,114,10,80,114,32,67,109,42,32,126,32,73,100,10,73,100,32,67,109,42,32,126,32,80,111,10,91,80,114,32,80,111,93,32,67,109,42,32,126,32,79,116,104,101,114,10,79,116,104,101,114,32,67,109,42,32,126,32,91,80,114,32,80,111,93,10,78,117,32,67,109,42,32,91,73,115,32,83,121,93,63,32,67,109,42,32,91,67,108,32,67,112,93,63,32,67,109,42,32,126,32,91,80,111,32,80,114,93,10,91,80,111,32,80,114,93,32,67,109,42,32,126,32,40,79,112,32,124,32,72,121,41,63,32,78,117,10,91,72,121,32,73,115,32,83,121,32,78,117,93,32,67,109,42,32,126,32,78,117,10,79,116,104,101,114,32,67,109,42,32,126,32,79,116,104,101,114,10,73,115,32,67,109,42,32,126,32,79,116,104,101,114,10,91,79,116,104,101,114,32,78,117,93,32,67,109,42,32,126,32,79,112,10,67,112,32,67,109,42,32,126,32,91,79,116,104,101,114,32,78,117,93,10,94,32,67,109,42,32,40,82,105,32,67,109,42,32,82,105,32,67,109,42,41,42,32,82,105,32,67,109,42,32,126,32,82,105,10,91,94,82,105,32,67,109,93,32,67,109,42,32,40,82,105,32,67,109,42,32,82,105,32,67,109,42,41,42,32,82,105,32,67,109,42,32,126,32,82,105,10,114,101,115,116,32,47,10]
def jD:List UInt8:=[78,117,32,67,109,42,32,91,73,115,32,83,121,93,63,32,67,109,42,32,91,67,108,32,67,112,93,63,32,67,109,42,32,126,32,91,80,111,32,80,114,93]
def jv:List UInt8:=[91,94,82,105,32,67,109,93,32,67,109,42,32,40,82,105,32,67,109,42,32,82,105,32,67,109,42,41,42,32,82,105,32,67,109,42,32,126,32,82,105]
def jw:List UInt8:=[94,32,67,109,42,32,40,82,105,32,67,109,42,32,82,105,32,67,109,42,41,42,32,82,105,32,67,109,42,32,126,32,82,105]
def jC:List UInt8:=[91,80,111,32,80,114,93,32,67,109,42,32,126,32,40,79,112,32,124,32,72,121,41,63,32,78,117]
def qs:List UInt8:=[91,94,83,112,32,66,97,32,72,121,32,67,109,93,32,67,109,42,32,126,32,71,108]
def qv:List UInt8:=[91,94,66,107,32,67,114,32,76,102,32,83,112,32,90,119,93,32,126,32,67,109]
def jB:List UInt8:=[91,72,121,32,73,115,32,83,121,32,78,117,93,32,67,109,42,32,126,32,78,117]
def jN:List UInt8:=[91,67,108,32,67,112,93,32,67,109,42,32,83,112,42,32,126,32,78,115]
def jF:List UInt8:=[91,80,114,32,80,111,93,32,67,109,42,32,126,32,79,116,104,101,114]
def jE:List UInt8:=[79,116,104,101,114,32,67,109,42,32,126,32,91,80,114,32,80,111,93]
def jy:List UInt8:=[91,79,116,104,101,114,32,78,117,93,32,67,109,42,32,126,32,79,112]
def jx:List UInt8:=[67,112,32,67,109,42,32,126,32,91,79,116,104,101,114,32,78,117,93]
def jM:List UInt8:=[68,97,115,104,32,67,109,42,32,83,112,42,32,126,32,68,97,115,104]
def qx:List UInt8:=[126,32,91,66,107,32,67,114,32,76,102,32,83,112,32,90,119,93]
def jQ:List UInt8:=[126,32,91,67,108,32,67,112,32,69,120,32,73,115,32,83,121,93]
def jA:List UInt8:=[79,116,104,101,114,32,67,109,42,32,126,32,79,116,104,101,114]
def jO:List UInt8:=[81,117,32,67,109,42,32,83,112,42,32,126,32,79,112]
def jJ:List UInt8:=[79,116,104,101,114,32,67,109,42,32,126,32,78,117]
def jI:List UInt8:=[78,117,32,67,109,42,32,126,32,79,116,104,101,114]
def jz:List UInt8:=[73,115,32,67,109,42,32,126,32,79,116,104,101,114]
def qq:List UInt8:=[94,32,67,109,32,67,109,42,32,126,32,71,108]
def jP:List UInt8:=[79,112,32,67,109,42,32,83,112,42,32,126]
def qy:List UInt8:=[91,66,107,32,67,114,32,76,102,93,32,47]
def jK:List UInt8:=[126,32,91,66,97,32,72,121,32,78,115,93]
def jH:List UInt8:=[80,114,32,67,109,42,32,126,32,73,100]
def jG:List UInt8:=[73,100,32,67,109,42,32,126,32,80,111]
def qu:List UInt8:=[87,106,32,67,109,42,32,126]
def qt:List UInt8:=[71,108,32,67,109,42,32,126]
def jL:List UInt8:=[81,117,32,67,109,42,32,126]
def qw:List UInt8:=[90,119,32,83,112,42,32,47]
def yb0:List UInt8:=[67,114,32,126,32,76,102]
def yb1:List UInt8:=[114,101,115,116,32,47]
def znx:List (List UInt8):=[
 yb0,
 qy,
 qx,
 qw,
 qv,
 [126,32,87,106],
 qu,
 qt,
 qs,
 qq,
 jQ,
 jP,
 jO,
 jN,
 jM,
 [83,112,32,47],
 [126,32,81,117],
 jL,
 jK,
 [126,32,73,110],
 jJ,
 jI,
 jH,
 jG,
 jF,
 jE,
 jD,
 jC,
 jB,
 jA,
 jz,
 jy,
 jx,
 jw,
 jv,
 yb1,
 []]
theorem znw:eU [] zqu=znx:=by kernel_rfl
theorem aa {f:FuncId} {a v:Value} (ha:bA [a]=true) (h:zsB Tryz.prog oV 1000000 60 [] f [a] v=true):aA f a v:=fun W=>zeZ mixed dN rfl ha h W (fun x hx=>by cases hx)
theorem zwY:aA 103 (.string ⟨yb0.toArray⟩) (.string ⟨yb0.toArray⟩):=aa rfl (by kernel_rfl)
theorem zwX:aA 104 (.string ⟨yb0.toArray⟩) (.int .i64 3):=aa rfl (by kernel_rfl)
theorem zwW:aA 105 (.string ⟨#[67,114,32]⟩) (.string ⟨#[67,114]⟩):=aa rfl (by kernel_rfl)
theorem zwV:aA 105 (.string ⟨#[32,76,102]⟩) (.string ⟨#[76,102]⟩):=aa rfl (by kernel_rfl)
theorem zwU:aA 103 (.string ⟨qy.toArray⟩) (.string ⟨qy.toArray⟩):=aa rfl (by kernel_rfl)
theorem zwT:aA 104 (.string ⟨qy.toArray⟩) (.int .i64 11):=aa rfl (by kernel_rfl)
def yb2:List UInt8:=[91,66,107,32,67,114,32,76,102,93]
theorem zwS:aA 105 (.string ⟨(yb2++[32]).toArray⟩) (.string ⟨yb2.toArray⟩):=aa rfl (by kernel_rfl)
theorem zwR:aA 105 (.string ⟨#[]⟩) (.string ⟨#[]⟩):=aa rfl (by kernel_rfl)
theorem zwQ:aA 103 (.string ⟨qx.toArray⟩) (.string ⟨qx.toArray⟩):=aa rfl (by kernel_rfl)
theorem zwP:aA 104 (.string ⟨qx.toArray⟩) (.int .i64 0):=aa rfl (by kernel_rfl)
theorem zwO:aA 105 (.string ⟨#[]⟩) (.string ⟨#[]⟩):=aa rfl (by kernel_rfl)
def yb3:List UInt8:=[91,66,107,32,67,114,32,76,102,32,83,112,32,90,119,93]
theorem zwN:aA 105 (.string ⟨(32::yb3).toArray⟩) (.string ⟨yb3.toArray⟩):=aa rfl (by kernel_rfl)
theorem zwM:aA 103 (.string ⟨qw.toArray⟩) (.string ⟨qw.toArray⟩):=aa rfl (by kernel_rfl)
theorem zwL:aA 104 (.string ⟨qw.toArray⟩) (.int .i64 7):=aa rfl (by kernel_rfl)
def yb4:List UInt8:=[90,119,32,83,112,42]
theorem zwK:aA 105 (.string ⟨(yb4++[32]).toArray⟩) (.string ⟨yb4.toArray⟩):=aa rfl (by kernel_rfl)
theorem zwJ:aA 105 (.string ⟨#[]⟩) (.string ⟨#[]⟩):=aa rfl (by kernel_rfl)
theorem zwI:aA 103 (.string ⟨qv.toArray⟩) (.string ⟨qv.toArray⟩):=aa rfl (by kernel_rfl)
theorem zwH:aA 104 (.string ⟨qv.toArray⟩) (.int .i64 18):=aa rfl (by kernel_rfl)
def yb5:List UInt8:=[91,94,66,107,32,67,114,32,76,102,32,83,112,32,90,119,93]
theorem zwG:aA 105 (.string ⟨(yb5++[32]).toArray⟩) (.string ⟨yb5.toArray⟩):=aa rfl (by kernel_rfl)
theorem zwF:aA 105 (.string ⟨#[32,67,109]⟩) (.string ⟨#[67,109]⟩):=aa rfl (by kernel_rfl)
theorem zwE:aA 103 (.string ⟨#[126,32,87,106]⟩) (.string ⟨#[126,32,87,106]⟩):=aa rfl (by kernel_rfl)
theorem zwD:aA 104 (.string ⟨#[126,32,87,106]⟩) (.int .i64 0):=aa rfl (by kernel_rfl)
theorem zwC:aA 105 (.string ⟨#[]⟩) (.string ⟨#[]⟩):=aa rfl (by kernel_rfl)
theorem zwB:aA 105 (.string ⟨#[32,87,106]⟩) (.string ⟨#[87,106]⟩):=aa rfl (by kernel_rfl)
theorem zwA:aA 103 (.string ⟨qu.toArray⟩) (.string ⟨qu.toArray⟩):=aa rfl (by kernel_rfl)
theorem zwz:aA 104 (.string ⟨qu.toArray⟩) (.int .i64 7):=aa rfl (by kernel_rfl)
def yb6:List UInt8:=[87,106,32,67,109,42]
theorem zwy:aA 105 (.string ⟨(yb6++[32]).toArray⟩) (.string ⟨yb6.toArray⟩):=aa rfl (by kernel_rfl)
theorem zwx:aA 105 (.string ⟨#[]⟩) (.string ⟨#[]⟩):=aa rfl (by kernel_rfl)
theorem zww:aA 103 (.string ⟨qt.toArray⟩) (.string ⟨qt.toArray⟩):=aa rfl (by kernel_rfl)
theorem zwv:aA 104 (.string ⟨qt.toArray⟩) (.int .i64 7):=aa rfl (by kernel_rfl)
def yb7:List UInt8:=[71,108,32,67,109,42]
theorem zwu:aA 105 (.string ⟨(yb7++[32]).toArray⟩) (.string ⟨yb7.toArray⟩):=aa rfl (by kernel_rfl)
theorem zwt:aA 105 (.string ⟨#[]⟩) (.string ⟨#[]⟩):=aa rfl (by kernel_rfl)
theorem zws:aA 103 (.string ⟨qs.toArray⟩) (.string ⟨qs.toArray⟩):=aa rfl (by kernel_rfl)
theorem zwr:aA 104 (.string ⟨qs.toArray⟩) (.int .i64 19):=aa rfl (by kernel_rfl)
def yb8:List UInt8:=[91,94,83,112,32,66,97,32,72,121,32,67,109,93,32,67,109,42]
theorem zwq:aA 105 (.string ⟨(yb8++[32]).toArray⟩) (.string ⟨yb8.toArray⟩):=aa rfl (by kernel_rfl)
theorem zwp:aA 105 (.string ⟨#[32,71,108]⟩) (.string ⟨#[71,108]⟩):=aa rfl (by kernel_rfl)
theorem zwo:aA 103 (.string ⟨qq.toArray⟩) (.string ⟨qq.toArray⟩):=aa rfl (by kernel_rfl)
theorem zwn:aA 104 (.string ⟨qq.toArray⟩) (.int .i64 9):=aa rfl (by kernel_rfl)
def yb9:List UInt8:=[94,32,67,109,32,67,109,42]
theorem zwm:aA 105 (.string ⟨(yb9++[32]).toArray⟩) (.string ⟨yb9.toArray⟩):=aa rfl (by kernel_rfl)
theorem zwl:aA 105 (.string ⟨#[32,71,108]⟩) (.string ⟨#[71,108]⟩):=aa rfl (by kernel_rfl)
theorem zvf:aA 103 (.string ⟨jQ.toArray⟩) (.string ⟨jQ.toArray⟩):=aa rfl (by kernel_rfl)
theorem zve:aA 104 (.string ⟨jQ.toArray⟩) (.int .i64 0):=aa rfl (by kernel_rfl)
theorem zvd:aA 105 (.string ⟨#[]⟩) (.string ⟨#[]⟩):=aa rfl (by kernel_rfl)
def zpG:List UInt8:=[91,67,108,32,67,112,32,69,120,32,73,115,32,83,121,93]
theorem zvc:aA 105 (.string ⟨(32::zpG).toArray⟩) (.string ⟨zpG.toArray⟩):=aa rfl (by kernel_rfl)
theorem zvb:aA 103 (.string ⟨jP.toArray⟩) (.string ⟨jP.toArray⟩):=aa rfl (by kernel_rfl)
theorem zva:aA 104 (.string ⟨jP.toArray⟩) (.int .i64 11):=aa rfl (by kernel_rfl)
def zpF:List UInt8:=[79,112,32,67,109,42,32,83,112,42]
theorem zuZ:aA 105 (.string ⟨(zpF++[32]).toArray⟩) (.string ⟨zpF.toArray⟩):=aa rfl (by kernel_rfl)
theorem zuY:aA 105 (.string ⟨#[]⟩) (.string ⟨#[]⟩):=aa rfl (by kernel_rfl)
theorem zuX:aA 103 (.string ⟨jO.toArray⟩) (.string ⟨jO.toArray⟩):=aa rfl (by kernel_rfl)
theorem zuW:aA 104 (.string ⟨jO.toArray⟩) (.int .i64 11):=aa rfl (by kernel_rfl)
def zpE:List UInt8:=[81,117,32,67,109,42,32,83,112,42]
theorem zuV:aA 105 (.string ⟨(zpE++[32]).toArray⟩) (.string ⟨zpE.toArray⟩):=aa rfl (by kernel_rfl)
theorem zuU:aA 105 (.string ⟨#[32,79,112]⟩) (.string ⟨#[79,112]⟩):=aa rfl (by kernel_rfl)
theorem zuT:aA 103 (.string ⟨jN.toArray⟩) (.string ⟨jN.toArray⟩):=aa rfl (by kernel_rfl)
theorem zuS:aA 104 (.string ⟨jN.toArray⟩) (.int .i64 16):=aa rfl (by kernel_rfl)
def zpD:List UInt8:=[91,67,108,32,67,112,93,32,67,109,42,32,83,112,42]
theorem zuR:aA 105 (.string ⟨(zpD++[32]).toArray⟩) (.string ⟨zpD.toArray⟩):=aa rfl (by kernel_rfl)
theorem zuQ:aA 105 (.string ⟨#[32,78,115]⟩) (.string ⟨#[78,115]⟩):=aa rfl (by kernel_rfl)
theorem zuP:aA 103 (.string ⟨jM.toArray⟩) (.string ⟨jM.toArray⟩):=aa rfl (by kernel_rfl)
theorem zuO:aA 104 (.string ⟨jM.toArray⟩) (.int .i64 13):=aa rfl (by kernel_rfl)
def zpC:List UInt8:=[68,97,115,104,32,67,109,42,32,83,112,42]
theorem zuN:aA 105 (.string ⟨(zpC++[32]).toArray⟩) (.string ⟨zpC.toArray⟩):=aa rfl (by kernel_rfl)
theorem zuM:aA 105 (.string ⟨#[32,68,97,115,104]⟩) (.string ⟨#[68,97,115,104]⟩):=aa rfl (by kernel_rfl)
theorem zuL:aA 103 (.string ⟨#[83,112,32,47]⟩) (.string ⟨#[83,112,32,47]⟩):=aa rfl (by kernel_rfl)
theorem zuK:aA 104 (.string ⟨#[83,112,32,47]⟩) (.int .i64 3):=aa rfl (by kernel_rfl)
theorem zuJ:aA 105 (.string ⟨#[83,112,32]⟩) (.string ⟨#[83,112]⟩):=aa rfl (by kernel_rfl)
theorem zuI:aA 105 (.string ⟨#[]⟩) (.string ⟨#[]⟩):=aa rfl (by kernel_rfl)
theorem zuH:aA 103 (.string ⟨#[126,32,81,117]⟩) (.string ⟨#[126,32,81,117]⟩):=aa rfl (by kernel_rfl)
theorem zuG:aA 104 (.string ⟨#[126,32,81,117]⟩) (.int .i64 0):=aa rfl (by kernel_rfl)
theorem zuF:aA 105 (.string ⟨#[]⟩) (.string ⟨#[]⟩):=aa rfl (by kernel_rfl)
theorem zuE:aA 105 (.string ⟨#[32,81,117]⟩) (.string ⟨#[81,117]⟩):=aa rfl (by kernel_rfl)
theorem zuD:aA 103 (.string ⟨jL.toArray⟩) (.string ⟨jL.toArray⟩):=aa rfl (by kernel_rfl)
theorem zuC:aA 104 (.string ⟨jL.toArray⟩) (.int .i64 7):=aa rfl (by kernel_rfl)
def zpB:List UInt8:=[81,117,32,67,109,42]
theorem zuB:aA 105 (.string ⟨(zpB++[32]).toArray⟩) (.string ⟨zpB.toArray⟩):=aa rfl (by kernel_rfl)
theorem zuA:aA 105 (.string ⟨#[]⟩) (.string ⟨#[]⟩):=aa rfl (by kernel_rfl)
theorem zuz:aA 103 (.string ⟨jK.toArray⟩) (.string ⟨jK.toArray⟩):=aa rfl (by kernel_rfl)
theorem zuy:aA 104 (.string ⟨jK.toArray⟩) (.int .i64 0):=aa rfl (by kernel_rfl)
theorem zux:aA 105 (.string ⟨#[]⟩) (.string ⟨#[]⟩):=aa rfl (by kernel_rfl)
def zpA:List UInt8:=[91,66,97,32,72,121,32,78,115,93]
theorem zuw:aA 105 (.string ⟨(32::zpA).toArray⟩) (.string ⟨zpA.toArray⟩):=aa rfl (by kernel_rfl)
theorem zuv:aA 103 (.string ⟨#[126,32,73,110]⟩) (.string ⟨#[126,32,73,110]⟩):=aa rfl (by kernel_rfl)
theorem zuu:aA 104 (.string ⟨#[126,32,73,110]⟩) (.int .i64 0):=aa rfl (by kernel_rfl)
theorem zut:aA 105 (.string ⟨#[]⟩) (.string ⟨#[]⟩):=aa rfl (by kernel_rfl)
theorem zus:aA 105 (.string ⟨#[32,73,110]⟩) (.string ⟨#[73,110]⟩):=aa rfl (by kernel_rfl)
theorem zur:aA 103 (.string ⟨jJ.toArray⟩) (.string ⟨jJ.toArray⟩):=aa rfl (by kernel_rfl)
theorem zuq:aA 104 (.string ⟨jJ.toArray⟩) (.int .i64 10):=aa rfl (by kernel_rfl)
def mY:List UInt8:=[79,116,104,101,114,32,67,109,42]
theorem zup:aA 105 (.string ⟨(mY++[32]).toArray⟩) (.string ⟨mY.toArray⟩):=aa rfl (by kernel_rfl)
theorem zuo:aA 105 (.string ⟨#[32,78,117]⟩) (.string ⟨#[78,117]⟩):=aa rfl (by kernel_rfl)
theorem zun:aA 103 (.string ⟨jI.toArray⟩) (.string ⟨jI.toArray⟩):=aa rfl (by kernel_rfl)
theorem zum:aA 104 (.string ⟨jI.toArray⟩) (.int .i64 7):=aa rfl (by kernel_rfl)
def zpz:List UInt8:=[78,117,32,67,109,42]
theorem zul:aA 105 (.string ⟨(zpz++[32]).toArray⟩) (.string ⟨zpz.toArray⟩):=aa rfl (by kernel_rfl)
def zbI:List UInt8:=[32,79,116,104,101,114]
theorem zuk:aA 105 (.string ⟨zbI.toArray⟩) (.string ⟨#[79,116,104,101,114]⟩):=aa rfl (by kernel_rfl)
theorem zuj:aA 103 (.string ⟨jH.toArray⟩) (.string ⟨jH.toArray⟩):=aa rfl (by kernel_rfl)
theorem zui:aA 104 (.string ⟨jH.toArray⟩) (.int .i64 7):=aa rfl (by kernel_rfl)
def zpy:List UInt8:=[80,114,32,67,109,42]
theorem zuh:aA 105 (.string ⟨(zpy++[32]).toArray⟩) (.string ⟨zpy.toArray⟩):=aa rfl (by kernel_rfl)
theorem zug:aA 105 (.string ⟨#[32,73,100]⟩) (.string ⟨#[73,100]⟩):=aa rfl (by kernel_rfl)
theorem zuf:aA 103 (.string ⟨jG.toArray⟩) (.string ⟨jG.toArray⟩):=aa rfl (by kernel_rfl)
theorem zue:aA 104 (.string ⟨jG.toArray⟩) (.int .i64 7):=aa rfl (by kernel_rfl)
def zpx:List UInt8:=[73,100,32,67,109,42]
theorem zud:aA 105 (.string ⟨(zpx++[32]).toArray⟩) (.string ⟨zpx.toArray⟩):=aa rfl (by kernel_rfl)
theorem zuc:aA 105 (.string ⟨#[32,80,111]⟩) (.string ⟨#[80,111]⟩):=aa rfl (by kernel_rfl)
theorem zub:aA 103 (.string ⟨jF.toArray⟩) (.string ⟨jF.toArray⟩):=aa rfl (by kernel_rfl)
theorem zua:aA 104 (.string ⟨jF.toArray⟩) (.int .i64 12):=aa rfl (by kernel_rfl)
def zpw:List UInt8:=[91,80,114,32,80,111,93,32,67,109,42]
theorem ztZ:aA 105 (.string ⟨(zpw++[32]).toArray⟩) (.string ⟨zpw.toArray⟩):=aa rfl (by kernel_rfl)
theorem ztY:aA 105 (.string ⟨zbI.toArray⟩) (.string ⟨#[79,116,104,101,114]⟩):=aa rfl (by kernel_rfl)
theorem ztX:aA 103 (.string ⟨jE.toArray⟩) (.string ⟨jE.toArray⟩):=aa rfl (by kernel_rfl)
theorem ztW:aA 104 (.string ⟨jE.toArray⟩) (.int .i64 10):=aa rfl (by kernel_rfl)
theorem ztV:aA 105 (.string ⟨(mY++[32]).toArray⟩) (.string ⟨mY.toArray⟩):=aa rfl (by kernel_rfl)
def zpv:List UInt8:=[91,80,114,32,80,111,93]
theorem ztU:aA 105 (.string ⟨(32::zpv).toArray⟩) (.string ⟨zpv.toArray⟩):=aa rfl (by kernel_rfl)
theorem ztT:aA 103 (.string ⟨jD.toArray⟩) (.string ⟨jD.toArray⟩):=aa rfl (by kernel_rfl)
theorem ztS:aA 104 (.string ⟨jD.toArray⟩) (.int .i64 33):=aa rfl (by kernel_rfl)
def zpu:List UInt8:=[78,117,32,67,109,42,32,91,73,115,32,83,121,93,63,32,67,109,42,32,91,67,108,32,67,112,93,63,32,67,109,42]
theorem ztR:aA 105 (.string ⟨(zpu++[32]).toArray⟩) (.string ⟨zpu.toArray⟩):=aa rfl (by kernel_rfl)
def zpt:List UInt8:=[91,80,111,32,80,114,93]
theorem ztQ:aA 105 (.string ⟨(32::zpt).toArray⟩) (.string ⟨zpt.toArray⟩):=aa rfl (by kernel_rfl)
theorem ztP:aA 103 (.string ⟨jC.toArray⟩) (.string ⟨jC.toArray⟩):=aa rfl (by kernel_rfl)
theorem ztO:aA 104 (.string ⟨jC.toArray⟩) (.int .i64 12):=aa rfl (by kernel_rfl)
def zps:List UInt8:=[91,80,111,32,80,114,93,32,67,109,42]
theorem ztN:aA 105 (.string ⟨(zps++[32]).toArray⟩) (.string ⟨zps.toArray⟩):=aa rfl (by kernel_rfl)
def zpr:List UInt8:=[40,79,112,32,124,32,72,121,41,63,32,78,117]
theorem ztM:aA 105 (.string ⟨(32::zpr).toArray⟩) (.string ⟨zpr.toArray⟩):=aa rfl (by kernel_rfl)
theorem ztL:aA 103 (.string ⟨jB.toArray⟩) (.string ⟨jB.toArray⟩):=aa rfl (by kernel_rfl)
theorem ztK:aA 104 (.string ⟨jB.toArray⟩) (.int .i64 18):=aa rfl (by kernel_rfl)
def zpq:List UInt8:=[91,72,121,32,73,115,32,83,121,32,78,117,93,32,67,109,42]
theorem ztJ:aA 105 (.string ⟨(zpq++[32]).toArray⟩) (.string ⟨zpq.toArray⟩):=aa rfl (by kernel_rfl)
theorem ztI:aA 105 (.string ⟨#[32,78,117]⟩) (.string ⟨#[78,117]⟩):=aa rfl (by kernel_rfl)
theorem ztH:aA 103 (.string ⟨jA.toArray⟩) (.string ⟨jA.toArray⟩):=aa rfl (by kernel_rfl)
theorem ztG:aA 104 (.string ⟨jA.toArray⟩) (.int .i64 10):=aa rfl (by kernel_rfl)
theorem ztF:aA 105 (.string ⟨(mY++[32]).toArray⟩) (.string ⟨mY.toArray⟩):=aa rfl (by kernel_rfl)
theorem ztE:aA 105 (.string ⟨zbI.toArray⟩) (.string ⟨#[79,116,104,101,114]⟩):=aa rfl (by kernel_rfl)
theorem ztD:aA 103 (.string ⟨jz.toArray⟩) (.string ⟨jz.toArray⟩):=aa rfl (by kernel_rfl)
theorem ztC:aA 104 (.string ⟨jz.toArray⟩) (.int .i64 7):=aa rfl (by kernel_rfl)
def zpp:List UInt8:=[73,115,32,67,109,42]
theorem ztB:aA 105 (.string ⟨(zpp++[32]).toArray⟩) (.string ⟨zpp.toArray⟩):=aa rfl (by kernel_rfl)
theorem ztA:aA 105 (.string ⟨zbI.toArray⟩) (.string ⟨#[79,116,104,101,114]⟩):=aa rfl (by kernel_rfl)
theorem ztz:aA 103 (.string ⟨jy.toArray⟩) (.string ⟨jy.toArray⟩):=aa rfl (by kernel_rfl)
theorem zty:aA 104 (.string ⟨jy.toArray⟩) (.int .i64 15):=aa rfl (by kernel_rfl)
def zpo:List UInt8:=[91,79,116,104,101,114,32,78,117,93,32,67,109,42]
theorem ztx:aA 105 (.string ⟨(zpo++[32]).toArray⟩) (.string ⟨zpo.toArray⟩):=aa rfl (by kernel_rfl)
theorem ztw:aA 105 (.string ⟨#[32,79,112]⟩) (.string ⟨#[79,112]⟩):=aa rfl (by kernel_rfl)
theorem ztv:aA 103 (.string ⟨jx.toArray⟩) (.string ⟨jx.toArray⟩):=aa rfl (by kernel_rfl)
theorem ztu:aA 104 (.string ⟨jx.toArray⟩) (.int .i64 7):=aa rfl (by kernel_rfl)
def zpn:List UInt8:=[67,112,32,67,109,42]
theorem ztt:aA 105 (.string ⟨(zpn++[32]).toArray⟩) (.string ⟨zpn.toArray⟩):=aa rfl (by kernel_rfl)
def zpm:List UInt8:=[91,79,116,104,101,114,32,78,117,93]
theorem zts:aA 105 (.string ⟨(32::zpm).toArray⟩) (.string ⟨zpm.toArray⟩):=aa rfl (by kernel_rfl)
theorem ztr:aA 103 (.string ⟨jw.toArray⟩) (.string ⟨jw.toArray⟩):=aa rfl (by kernel_rfl)
theorem ztq:aA 104 (.string ⟨jw.toArray⟩) (.int .i64 30):=aa rfl (by kernel_rfl)
def zpl:List UInt8:=[94,32,67,109,42,32,40,82,105,32,67,109,42,32,82,105,32,67,109,42,41,42,32,82,105,32,67,109,42]
theorem ztp:aA 105 (.string ⟨(zpl++[32]).toArray⟩) (.string ⟨zpl.toArray⟩):=aa rfl (by kernel_rfl)
theorem zto:aA 105 (.string ⟨#[32,82,105]⟩) (.string ⟨#[82,105]⟩):=aa rfl (by kernel_rfl)
theorem ztn:aA 103 (.string ⟨jv.toArray⟩) (.string ⟨jv.toArray⟩):=aa rfl (by kernel_rfl)
theorem ztm:aA 104 (.string ⟨jv.toArray⟩) (.int .i64 37):=aa rfl (by kernel_rfl)
def zpk:List UInt8:=[91,94,82,105,32,67,109,93,32,67,109,42,32,40,82,105,32,67,109,42,32,82,105,32,67,109,42,41,42,32,82,105,32,67,109,42]
theorem ztl:aA 105 (.string ⟨(zpk++[32]).toArray⟩) (.string ⟨zpk.toArray⟩):=aa rfl (by kernel_rfl)
theorem ztk:aA 105 (.string ⟨#[32,82,105]⟩) (.string ⟨#[82,105]⟩):=aa rfl (by kernel_rfl)
theorem ztj:aA 103 (.string ⟨yb1.toArray⟩) (.string ⟨yb1.toArray⟩):=aa rfl (by kernel_rfl)
theorem zti:aA 104 (.string ⟨yb1.toArray⟩) (.int .i64 5):=aa rfl (by kernel_rfl)
theorem zth:aA 105 (.string ⟨#[114,101,115,116,32]⟩) (.string ⟨#[114,101,115,116]⟩):=aa rfl (by kernel_rfl)
theorem ztg:aA 105 (.string ⟨#[]⟩) (.string ⟨#[]⟩):=aa rfl (by kernel_rfl)
theorem ztf:aA 103 (.string ⟨#[]⟩) (.string ⟨#[]⟩):=aa rfl (by kernel_rfl)
set_option maxRecDepth 100000 in
theorem zqt (g nc:Nat):∀(j:Nat) (s:List UInt8),znx[j]? =some s->∀(B X:Nat) (vo:Option Addr) (n vc:Nat) (xs:List Value) (W:World),dh B W X g nc ah vo n vc (qp.take j) xs true (sT 35 j)->Calls Tryz.prog 72 #[.pointer (some ⟨X,0,none⟩),.string ⟨s.toArray⟩] W (LnQ B W X g nc ah (qp.take (j+1)) true (sT 35 (j+1))):=fun j s hj=>match j,hj with
 | 0,hj=>by
  cases hj
  intro B X vo n vc xs W h;have hn:n<=60:=by rw[h.hn];exact sE (sD _ _) (by decide)
  exact ay B X g nc ah vo n vc _ xs true W yb0 yb0 [67,114] [76,102] 3 false znv znt h hn zwY zwX (by decide) (by decide) (by decide) (by decide) (show aA _ (.string ((⟨yb0.toArray⟩:ByteArray).extract 0 3)) _ from(show((⟨yb0.toArray⟩:ByteArray).extract 0 3)=⟨#[67,114,32]⟩ by rfl) ▸ zwW) (show aA _ (.string ((⟨yb0.toArray⟩:ByteArray).extract 4 7)) _ from(show((⟨yb0.toArray⟩:ByteArray).extract 4 7)=⟨#[32,76,102]⟩ by rfl) ▸ zwV) (by decide) (by decide) (by decide) (fun W hN=>zgi g nc W hN) (fun W hN=>zgh g nc W hN)
 | 1,hj=>by
  cases hj
  intro B X vo n vc xs W h;have hn:n<=60:=by rw[h.hn];exact sE (sD _ _) (by decide)
  exact ay B X g nc ah vo n vc _ xs true W qy qy yb2 [] 11 true znh bT h hn zwU zwT (by decide) (by decide) (by decide) (by decide) (show aA _ (.string ((⟨qy.toArray⟩:ByteArray).extract 0 11)) _ from(show((⟨qy.toArray⟩:ByteArray).extract 0 11)=⟨(yb2++[32]).toArray⟩ by rfl) ▸ zwS) (show aA _ (.string ((⟨qy.toArray⟩:ByteArray).extract 12 12)) _ from(show((⟨qy.toArray⟩:ByteArray).extract 12 12)=⟨#[]⟩ by rfl) ▸ zwR) (by decide) (by decide) (by decide) (fun W hN=>zgg g nc W hN) (fun W hN=>ba g nc W hN)
 | 2,hj=>by
  cases hj
  intro B X vo n vc xs W h;have hn:n<=60:=by rw[h.hn];exact sE (sD _ _) (by decide)
  exact ay B X g nc ah vo n vc _ xs true W qx qx [] yb3 0 false bT zmK h hn zwQ zwP (by decide) (by decide) (by decide) (by decide) (show aA _ (.string ((⟨qx.toArray⟩:ByteArray).extract 0 0)) _ from(show((⟨qx.toArray⟩:ByteArray).extract 0 0)=⟨#[]⟩ by rfl) ▸ zwO) (show aA _ (.string ((⟨qx.toArray⟩:ByteArray).extract 1 18)) _ from(show((⟨qx.toArray⟩:ByteArray).extract 1 18)=⟨(32::yb3).toArray⟩ by rfl) ▸ zwN) (by decide) (by decide) (by decide) (fun W hN=>ba g nc W hN) (fun W hN=>zgf g nc W hN)
 | 3,hj=>by
  cases hj
  intro B X vo n vc xs W h;have hn:n<=60:=by rw[h.hn];exact sE (sD _ _) (by decide)
  exact ay B X g nc ah vo n vc _ xs true W qw qw yb4 [] 7 true zmz bT h hn zwM zwL (by decide) (by decide) (by decide) (by decide) (show aA _ (.string ((⟨qw.toArray⟩:ByteArray).extract 0 7)) _ from(show((⟨qw.toArray⟩:ByteArray).extract 0 7)=⟨(yb4++[32]).toArray⟩ by rfl) ▸ zwK) (show aA _ (.string ((⟨qw.toArray⟩:ByteArray).extract 8 8)) _ from(show((⟨qw.toArray⟩:ByteArray).extract 8 8)=⟨#[]⟩ by rfl) ▸ zwJ) (by decide) (by decide) (by decide) (fun W hN=>zge g nc W hN) (fun W hN=>ba g nc W hN)
 | 4,hj=>by
  cases hj
  intro B X vo n vc xs W h;have hn:n<=60:=by rw[h.hn];exact sE (sD _ _) (by decide)
  exact ay B X g nc ah vo n vc _ xs true W qv qv yb5 [67,109] 18 false zmx zmv h hn zwI zwH (by decide) (by decide) (by decide) (by decide) (show aA _ (.string ((⟨qv.toArray⟩:ByteArray).extract 0 18)) _ from(show((⟨qv.toArray⟩:ByteArray).extract 0 18)=⟨(yb5++[32]).toArray⟩ by rfl) ▸ zwG) (show aA _ (.string ((⟨qv.toArray⟩:ByteArray).extract 19 22)) _ from(show((⟨qv.toArray⟩:ByteArray).extract 19 22)=⟨#[32,67,109]⟩ by rfl) ▸ zwF) (by decide) (by decide) (by decide) (fun W hN=>zgd g nc W hN) (fun W hN=>zgc g nc W hN)
 | 5,hj=>by
  cases hj
  intro B X vo n vc xs W h;have hn:n<=60:=by rw[h.hn];exact sE (sD _ _) (by decide)
  exact ay B X g nc ah vo n vc _ xs true W [126,32,87,106] [126,32,87,106] [] [87,106] 0 false bT zmt h hn zwE zwD (by decide) (by decide) (by decide) (by decide) (show aA _ (.string ((⟨#[126,32,87,106]⟩:ByteArray).extract 0 0)) _ from(show((⟨#[126,32,87,106]⟩:ByteArray).extract 0 0)=⟨#[]⟩ by rfl) ▸ zwC) (show aA _ (.string ((⟨#[126,32,87,106]⟩:ByteArray).extract 1 4)) _ from(show((⟨#[126,32,87,106]⟩:ByteArray).extract 1 4)=⟨#[32,87,106]⟩ by rfl) ▸ zwB) (by decide) (by decide) (by decide) (fun W hN=>ba g nc W hN) (fun W hN=>zgb g nc W hN)
 | 6,hj=>by
  cases hj
  intro B X vo n vc xs W h;have hn:n<=60:=by rw[h.hn];exact sE (sD _ _) (by decide)
  exact ay B X g nc ah vo n vc _ xs true W qu qu yb6 [] 7 false zmr bT h hn zwA zwz (by decide) (by decide) (by decide) (by decide) (show aA _ (.string ((⟨qu.toArray⟩:ByteArray).extract 0 7)) _ from(show((⟨qu.toArray⟩:ByteArray).extract 0 7)=⟨(yb6++[32]).toArray⟩ by rfl) ▸ zwy) (show aA _ (.string ((⟨qu.toArray⟩:ByteArray).extract 8 8)) _ from(show((⟨qu.toArray⟩:ByteArray).extract 8 8)=⟨#[]⟩ by rfl) ▸ zwx) (by decide) (by decide) (by decide) (fun W hN=>zga g nc W hN) (fun W hN=>ba g nc W hN)
 | 7,hj=>by
  cases hj
  intro B X vo n vc xs W h;have hn:n<=60:=by rw[h.hn];exact sE (sD _ _) (by decide)
  exact ay B X g nc ah vo n vc _ xs true W qt qt yb7 [] 7 false zei bT h hn zww zwv (by decide) (by decide) (by decide) (by decide) (show aA _ (.string ((⟨qt.toArray⟩:ByteArray).extract 0 7)) _ from(show((⟨qt.toArray⟩:ByteArray).extract 0 7)=⟨(yb7++[32]).toArray⟩ by rfl) ▸ zwu) (show aA _ (.string ((⟨qt.toArray⟩:ByteArray).extract 8 8)) _ from(show((⟨qt.toArray⟩:ByteArray).extract 8 8)=⟨#[]⟩ by rfl) ▸ zwt) (by decide) (by decide) (by decide) (fun W hN=>zeh g nc W hN) (fun W hN=>ba g nc W hN)
 | 8,hj=>by
  cases hj
  intro B X vo n vc xs W h;have hn:n<=60:=by rw[h.hn];exact sE (sD _ _) (by decide)
  exact ay B X g nc ah vo n vc _ xs true W qs qs yb8 [71,108] 19 false zeg mP h hn zws zwr (by decide) (by decide) (by decide) (by decide) (show aA _ (.string ((⟨qs.toArray⟩:ByteArray).extract 0 19)) _ from(show((⟨qs.toArray⟩:ByteArray).extract 0 19)=⟨(yb8++[32]).toArray⟩ by rfl) ▸ zwq) (show aA _ (.string ((⟨qs.toArray⟩:ByteArray).extract 20 23)) _ from(show((⟨qs.toArray⟩:ByteArray).extract 20 23)=⟨#[32,71,108]⟩ by rfl) ▸ zwp) (by decide) (by decide) (by decide) (fun W hN=>zef g nc W hN) (fun W hN=>mO g nc W hN)
 | 9,hj=>by
  cases hj
  intro B X vo n vc xs W h;have hn:n<=60:=by rw[h.hn];exact sE (sD _ _) (by decide)
  exact pg B X g nc ah vo n vc _ xs true W qq qq yb9 [71,108] 9 false mN mP h hn zwo zwn (by decide) (by decide) (by decide) (by decide) (show aA _ (.string ((⟨qq.toArray⟩:ByteArray).extract 0 9)) _ from(show((⟨qq.toArray⟩:ByteArray).extract 0 9)=⟨(yb9++[32]).toArray⟩ by rfl) ▸ zwm) (show aA _ (.string ((⟨qq.toArray⟩:ByteArray).extract 10 13)) _ from(show((⟨qq.toArray⟩:ByteArray).extract 10 13)=⟨#[32,71,108]⟩ by rfl) ▸ zwl) (by decide) (by decide) (by decide) (by decide) (fun W hN=>zee g nc W hN) (fun W hN=>mO g nc W hN)
 | 10,hj=>by
  cases hj
  intro B X vo n vc xs W h;have hn:n<=60:=by rw[h.hn];exact sE (sD _ _) (by decide)
  exact ay B X g nc ah vo n vc _ xs true W jQ jQ [] zpG 0 false bT zed h hn zvf zve (by decide) (by decide) (by decide) (by decide) (show aA _ (.string ((⟨jQ.toArray⟩:ByteArray).extract 0 0)) _ from(show((⟨jQ.toArray⟩:ByteArray).extract 0 0)=⟨#[]⟩ by rfl) ▸ zvd) (show aA _ (.string ((⟨jQ.toArray⟩:ByteArray).extract 1 18)) _ from(show((⟨jQ.toArray⟩:ByteArray).extract 1 18)=⟨(32::zpG).toArray⟩ by rfl) ▸ zvc) (by decide) (by decide) (by decide) (fun W hN=>ba g nc W hN) (fun W hN=>zec g nc W hN)
 | 11,hj=>by
  cases hj
  intro B X vo n vc xs W h;have hn:n<=60:=by rw[h.hn];exact sE (sD _ _) (by decide)
  exact ay B X g nc ah vo n vc _ xs true W jP jP zpF [] 11 false zeb bT h hn zvb zva (by decide) (by decide) (by decide) (by decide) (show aA _ (.string ((⟨jP.toArray⟩:ByteArray).extract 0 11)) _ from(show((⟨jP.toArray⟩:ByteArray).extract 0 11)=⟨(zpF++[32]).toArray⟩ by rfl) ▸ zuZ) (show aA _ (.string ((⟨jP.toArray⟩:ByteArray).extract 12 12)) _ from(show((⟨jP.toArray⟩:ByteArray).extract 12 12)=⟨#[]⟩ by rfl) ▸ zuY) (by decide) (by decide) (by decide) (fun W hN=>zea g nc W hN) (fun W hN=>ba g nc W hN)
 | 12,hj=>by
  cases hj
  intro B X vo n vc xs W h;have hn:n<=60:=by rw[h.hn];exact sE (sD _ _) (by decide)
  exact ay B X g nc ah vo n vc _ xs true W jO jO zpE [79,112] 11 false zdZ mM h hn zuX zuW (by decide) (by decide) (by decide) (by decide) (show aA _ (.string ((⟨jO.toArray⟩:ByteArray).extract 0 11)) _ from(show((⟨jO.toArray⟩:ByteArray).extract 0 11)=⟨(zpE++[32]).toArray⟩ by rfl) ▸ zuV) (show aA _ (.string ((⟨jO.toArray⟩:ByteArray).extract 12 15)) _ from(show((⟨jO.toArray⟩:ByteArray).extract 12 15)=⟨#[32,79,112]⟩ by rfl) ▸ zuU) (by decide) (by decide) (by decide) (fun W hN=>zdY g nc W hN) (fun W hN=>mL g nc W hN)
 | 13,hj=>by
  cases hj
  intro B X vo n vc xs W h;have hn:n<=60:=by rw[h.hn];exact sE (sD _ _) (by decide)
  exact ay B X g nc ah vo n vc _ xs true W jN jN zpD [78,115] 16 false zdX zdV h hn zuT zuS (by decide) (by decide) (by decide) (by decide) (show aA _ (.string ((⟨jN.toArray⟩:ByteArray).extract 0 16)) _ from(show((⟨jN.toArray⟩:ByteArray).extract 0 16)=⟨(zpD++[32]).toArray⟩ by rfl) ▸ zuR) (show aA _ (.string ((⟨jN.toArray⟩:ByteArray).extract 17 20)) _ from(show((⟨jN.toArray⟩:ByteArray).extract 17 20)=⟨#[32,78,115]⟩ by rfl) ▸ zuQ) (by decide) (by decide) (by decide) (fun W hN=>zdW g nc W hN) (fun W hN=>zdU g nc W hN)
 | 14,hj=>by
  cases hj
  intro B X vo n vc xs W h;have hn:n<=60:=by rw[h.hn];exact sE (sD _ _) (by decide)
  exact ay B X g nc ah vo n vc _ xs true W jM jM zpC [68,97,115,104] 13 false zdT zdR h hn zuP zuO (by decide) (by decide) (by decide) (by decide) (show aA _ (.string ((⟨jM.toArray⟩:ByteArray).extract 0 13)) _ from(show((⟨jM.toArray⟩:ByteArray).extract 0 13)=⟨(zpC++[32]).toArray⟩ by rfl) ▸ zuN) (show aA _ (.string ((⟨jM.toArray⟩:ByteArray).extract 14 19)) _ from(show((⟨jM.toArray⟩:ByteArray).extract 14 19)=⟨#[32,68,97,115,104]⟩ by rfl) ▸ zuM) (by decide) (by decide) (by decide) (fun W hN=>zdS g nc W hN) (fun W hN=>zdQ g nc W hN)
 | 15,hj=>by
  cases hj
  intro B X vo n vc xs W h;have hn:n<=60:=by rw[h.hn];exact sE (sD _ _) (by decide)
  exact ay B X g nc ah vo n vc _ xs true W [83,112,32,47] [83,112,32,47] [83,112] [] 3 true zdP bT h hn zuL zuK (by decide) (by decide) (by decide) (by decide) (show aA _ (.string ((⟨#[83,112,32,47]⟩:ByteArray).extract 0 3)) _ from(show((⟨#[83,112,32,47]⟩:ByteArray).extract 0 3)=⟨#[83,112,32]⟩ by rfl) ▸ zuJ) (show aA _ (.string ((⟨#[83,112,32,47]⟩:ByteArray).extract 4 4)) _ from(show((⟨#[83,112,32,47]⟩:ByteArray).extract 4 4)=⟨#[]⟩ by rfl) ▸ zuI) (by decide) (by decide) (by decide) (fun W hN=>zdO g nc W hN) (fun W hN=>ba g nc W hN)
 | 16,hj=>by
  cases hj
  intro B X vo n vc xs W h;have hn:n<=60:=by rw[h.hn];exact sE (sD _ _) (by decide)
  exact ay B X g nc ah vo n vc _ xs true W [126,32,81,117] [126,32,81,117] [] [81,117] 0 false bT zdN h hn zuH zuG (by decide) (by decide) (by decide) (by decide) (show aA _ (.string ((⟨#[126,32,81,117]⟩:ByteArray).extract 0 0)) _ from(show((⟨#[126,32,81,117]⟩:ByteArray).extract 0 0)=⟨#[]⟩ by rfl) ▸ zuF) (show aA _ (.string ((⟨#[126,32,81,117]⟩:ByteArray).extract 1 4)) _ from(show((⟨#[126,32,81,117]⟩:ByteArray).extract 1 4)=⟨#[32,81,117]⟩ by rfl) ▸ zuE) (by decide) (by decide) (by decide) (fun W hN=>ba g nc W hN) (fun W hN=>zdM g nc W hN)
 | 17,hj=>by
  cases hj
  intro B X vo n vc xs W h;have hn:n<=60:=by rw[h.hn];exact sE (sD _ _) (by decide)
  exact ay B X g nc ah vo n vc _ xs true W jL jL zpB [] 7 false zdL bT h hn zuD zuC (by decide) (by decide) (by decide) (by decide) (show aA _ (.string ((⟨jL.toArray⟩:ByteArray).extract 0 7)) _ from(show((⟨jL.toArray⟩:ByteArray).extract 0 7)=⟨(zpB++[32]).toArray⟩ by rfl) ▸ zuB) (show aA _ (.string ((⟨jL.toArray⟩:ByteArray).extract 8 8)) _ from(show((⟨jL.toArray⟩:ByteArray).extract 8 8)=⟨#[]⟩ by rfl) ▸ zuA) (by decide) (by decide) (by decide) (fun W hN=>zdK g nc W hN) (fun W hN=>ba g nc W hN)
 | 18,hj=>by
  cases hj
  intro B X vo n vc xs W h;have hn:n<=60:=by rw[h.hn];exact sE (sD _ _) (by decide)
  exact ay B X g nc ah vo n vc _ xs true W jK jK [] zpA 0 false bT zdJ h hn zuz zuy (by decide) (by decide) (by decide) (by decide) (show aA _ (.string ((⟨jK.toArray⟩:ByteArray).extract 0 0)) _ from(show((⟨jK.toArray⟩:ByteArray).extract 0 0)=⟨#[]⟩ by rfl) ▸ zux) (show aA _ (.string ((⟨jK.toArray⟩:ByteArray).extract 1 12)) _ from(show((⟨jK.toArray⟩:ByteArray).extract 1 12)=⟨(32::zpA).toArray⟩ by rfl) ▸ zuw) (by decide) (by decide) (by decide) (fun W hN=>ba g nc W hN) (fun W hN=>zdI g nc W hN)
 | 19,hj=>by
  cases hj
  intro B X vo n vc xs W h;have hn:n<=60:=by rw[h.hn];exact sE (sD _ _) (by decide)
  exact ay B X g nc ah vo n vc _ xs true W [126,32,73,110] [126,32,73,110] [] [73,110] 0 false bT zdH h hn zuv zuu (by decide) (by decide) (by decide) (by decide) (show aA _ (.string ((⟨#[126,32,73,110]⟩:ByteArray).extract 0 0)) _ from(show((⟨#[126,32,73,110]⟩:ByteArray).extract 0 0)=⟨#[]⟩ by rfl) ▸ zut) (show aA _ (.string ((⟨#[126,32,73,110]⟩:ByteArray).extract 1 4)) _ from(show((⟨#[126,32,73,110]⟩:ByteArray).extract 1 4)=⟨#[32,73,110]⟩ by rfl) ▸ zus) (by decide) (by decide) (by decide) (fun W hN=>ba g nc W hN) (fun W hN=>zdG g nc W hN)
 | 20,hj=>by
  cases hj
  intro B X vo n vc xs W h;have hn:n<=60:=by rw[h.hn];exact sE (sD _ _) (by decide)
  exact ay B X g nc ah vo n vc _ xs true W jJ jJ mY [78,117] 10 false iu mK h hn zur zuq (by decide) (by decide) (by decide) (by decide) (show aA _ (.string ((⟨jJ.toArray⟩:ByteArray).extract 0 10)) _ from(show((⟨jJ.toArray⟩:ByteArray).extract 0 10)=⟨(mY++[32]).toArray⟩ by rfl) ▸ zup) (show aA _ (.string ((⟨jJ.toArray⟩:ByteArray).extract 11 14)) _ from(show((⟨jJ.toArray⟩:ByteArray).extract 11 14)=⟨#[32,78,117]⟩ by rfl) ▸ zuo) (by decide) (by decide) (by decide) (fun W hN=>ir g nc W hN) (fun W hN=>mJ g nc W hN)
 | 21,hj=>by
  cases hj
  intro B X vo n vc xs W h;have hn:n<=60:=by rw[h.hn];exact sE (sD _ _) (by decide)
  exact ay B X g nc ah vo n vc _ xs true W jI jI zpz [79,116,104,101,114] 7 false zdF fb h hn zun zum (by decide) (by decide) (by decide) (by decide) (show aA _ (.string ((⟨jI.toArray⟩:ByteArray).extract 0 7)) _ from(show((⟨jI.toArray⟩:ByteArray).extract 0 7)=⟨(zpz++[32]).toArray⟩ by rfl) ▸ zul) (show aA _ (.string ((⟨jI.toArray⟩:ByteArray).extract 8 14)) _ from(show((⟨jI.toArray⟩:ByteArray).extract 8 14)=⟨zbI.toArray⟩ by rfl) ▸ zuk) (by decide) (by decide) (by decide) (fun W hN=>zdE g nc W hN) (fun W hN=>fa g nc W hN)
 | 22,hj=>by
  cases hj
  intro B X vo n vc xs W h;have hn:n<=60:=by rw[h.hn];exact sE (sD _ _) (by decide)
  exact ay B X g nc ah vo n vc _ xs true W jH jH zpy [73,100] 7 false zdD zdB h hn zuj zui (by decide) (by decide) (by decide) (by decide) (show aA _ (.string ((⟨jH.toArray⟩:ByteArray).extract 0 7)) _ from(show((⟨jH.toArray⟩:ByteArray).extract 0 7)=⟨(zpy++[32]).toArray⟩ by rfl) ▸ zuh) (show aA _ (.string ((⟨jH.toArray⟩:ByteArray).extract 8 11)) _ from(show((⟨jH.toArray⟩:ByteArray).extract 8 11)=⟨#[32,73,100]⟩ by rfl) ▸ zug) (by decide) (by decide) (by decide) (fun W hN=>zdC g nc W hN) (fun W hN=>zdA g nc W hN)
 | 23,hj=>by
  cases hj
  intro B X vo n vc xs W h;have hn:n<=60:=by rw[h.hn];exact sE (sD _ _) (by decide)
  exact ay B X g nc ah vo n vc _ xs true W jG jG zpx [80,111] 7 false zdz zdx h hn zuf zue (by decide) (by decide) (by decide) (by decide) (show aA _ (.string ((⟨jG.toArray⟩:ByteArray).extract 0 7)) _ from(show((⟨jG.toArray⟩:ByteArray).extract 0 7)=⟨(zpx++[32]).toArray⟩ by rfl) ▸ zud) (show aA _ (.string ((⟨jG.toArray⟩:ByteArray).extract 8 11)) _ from(show((⟨jG.toArray⟩:ByteArray).extract 8 11)=⟨#[32,80,111]⟩ by rfl) ▸ zuc) (by decide) (by decide) (by decide) (fun W hN=>zdy g nc W hN) (fun W hN=>zdw g nc W hN)
 | 24,hj=>by
  cases hj
  intro B X vo n vc xs W h;have hn:n<=60:=by rw[h.hn];exact sE (sD _ _) (by decide)
  exact ay B X g nc ah vo n vc _ xs true W jF jF zpw [79,116,104,101,114] 12 false zdv fb h hn zub zua (by decide) (by decide) (by decide) (by decide) (show aA _ (.string ((⟨jF.toArray⟩:ByteArray).extract 0 12)) _ from(show((⟨jF.toArray⟩:ByteArray).extract 0 12)=⟨(zpw++[32]).toArray⟩ by rfl) ▸ ztZ) (show aA _ (.string ((⟨jF.toArray⟩:ByteArray).extract 13 19)) _ from(show((⟨jF.toArray⟩:ByteArray).extract 13 19)=⟨zbI.toArray⟩ by rfl) ▸ ztY) (by decide) (by decide) (by decide) (fun W hN=>zdu g nc W hN) (fun W hN=>fa g nc W hN)
 | 25,hj=>by
  cases hj
  intro B X vo n vc xs W h;have hn:n<=60:=by rw[h.hn];exact sE (sD _ _) (by decide)
  exact ay B X g nc ah vo n vc _ xs true W jE jE mY zpv 10 false iu zdt h hn ztX ztW (by decide) (by decide) (by decide) (by decide) (show aA _ (.string ((⟨jE.toArray⟩:ByteArray).extract 0 10)) _ from(show((⟨jE.toArray⟩:ByteArray).extract 0 10)=⟨(mY++[32]).toArray⟩ by rfl) ▸ ztV) (show aA _ (.string ((⟨jE.toArray⟩:ByteArray).extract 11 19)) _ from(show((⟨jE.toArray⟩:ByteArray).extract 11 19)=⟨(32::zpv).toArray⟩ by rfl) ▸ ztU) (by decide) (by decide) (by decide) (fun W hN=>ir g nc W hN) (fun W hN=>zds g nc W hN)
 | 26,hj=>by
  cases hj
  intro B X vo n vc xs W h;have hn:n<=60:=by rw[h.hn];exact sE (sD _ _) (by decide)
  exact ay B X g nc ah vo n vc _ xs true W jD jD zpu zpt 33 false rk zdq h hn ztT ztS (by decide) (by decide) (by decide) (by decide) (show aA _ (.string ((⟨jD.toArray⟩:ByteArray).extract 0 33)) _ from(show((⟨jD.toArray⟩:ByteArray).extract 0 33)=⟨(zpu++[32]).toArray⟩ by rfl) ▸ ztR) (show aA _ (.string ((⟨jD.toArray⟩:ByteArray).extract 34 42)) _ from(show((⟨jD.toArray⟩:ByteArray).extract 34 42)=⟨(32::zpt).toArray⟩ by rfl) ▸ ztQ) (by decide) (by decide) (by decide) (fun W hN=>zdr g nc W hN) (fun W hN=>zdp g nc W hN)
 | 27,hj=>by
  cases hj
  intro B X vo n vc xs W h;have hn:n<=60:=by rw[h.hn];exact sE (sD _ _) (by decide)
  exact ay B X g nc ah vo n vc _ xs true W jC jC zps zpr 12 false zdo pf h hn ztP ztO (by decide) (by decide) (by decide) (by decide) (show aA _ (.string ((⟨jC.toArray⟩:ByteArray).extract 0 12)) _ from(show((⟨jC.toArray⟩:ByteArray).extract 0 12)=⟨(zps++[32]).toArray⟩ by rfl) ▸ ztN) (show aA _ (.string ((⟨jC.toArray⟩:ByteArray).extract 13 27)) _ from(show((⟨jC.toArray⟩:ByteArray).extract 13 27)=⟨(32::zpr).toArray⟩ by rfl) ▸ ztM) (by decide) (by decide) (by decide) (fun W hN=>zdn g nc W hN) (fun W hN=>zdm g nc W hN)
 | 28,hj=>by
  cases hj
  intro B X vo n vc xs W h;have hn:n<=60:=by rw[h.hn];exact sE (sD _ _) (by decide)
  exact ay B X g nc ah vo n vc _ xs true W jB jB zpq [78,117] 18 false zdl mK h hn ztL ztK (by decide) (by decide) (by decide) (by decide) (show aA _ (.string ((⟨jB.toArray⟩:ByteArray).extract 0 18)) _ from(show((⟨jB.toArray⟩:ByteArray).extract 0 18)=⟨(zpq++[32]).toArray⟩ by rfl) ▸ ztJ) (show aA _ (.string ((⟨jB.toArray⟩:ByteArray).extract 19 22)) _ from(show((⟨jB.toArray⟩:ByteArray).extract 19 22)=⟨#[32,78,117]⟩ by rfl) ▸ ztI) (by decide) (by decide) (by decide) (fun W hN=>zdk g nc W hN) (fun W hN=>mJ g nc W hN)
 | 29,hj=>by
  cases hj
  intro B X vo n vc xs W h;have hn:n<=60:=by rw[h.hn];exact sE (sD _ _) (by decide)
  exact ay B X g nc ah vo n vc _ xs true W jA jA mY [79,116,104,101,114] 10 false iu fb h hn ztH ztG (by decide) (by decide) (by decide) (by decide) (show aA _ (.string ((⟨jA.toArray⟩:ByteArray).extract 0 10)) _ from(show((⟨jA.toArray⟩:ByteArray).extract 0 10)=⟨(mY++[32]).toArray⟩ by rfl) ▸ ztF) (show aA _ (.string ((⟨jA.toArray⟩:ByteArray).extract 11 17)) _ from(show((⟨jA.toArray⟩:ByteArray).extract 11 17)=⟨zbI.toArray⟩ by rfl) ▸ ztE) (by decide) (by decide) (by decide) (fun W hN=>ir g nc W hN) (fun W hN=>fa g nc W hN)
 | 30,hj=>by
  cases hj
  intro B X vo n vc xs W h;have hn:n<=60:=by rw[h.hn];exact sE (sD _ _) (by decide)
  exact ay B X g nc ah vo n vc _ xs true W jz jz zpp [79,116,104,101,114] 7 false zdj fb h hn ztD ztC (by decide) (by decide) (by decide) (by decide) (show aA _ (.string ((⟨jz.toArray⟩:ByteArray).extract 0 7)) _ from(show((⟨jz.toArray⟩:ByteArray).extract 0 7)=⟨(zpp++[32]).toArray⟩ by rfl) ▸ ztB) (show aA _ (.string ((⟨jz.toArray⟩:ByteArray).extract 8 14)) _ from(show((⟨jz.toArray⟩:ByteArray).extract 8 14)=⟨zbI.toArray⟩ by rfl) ▸ ztA) (by decide) (by decide) (by decide) (fun W hN=>zdi g nc W hN) (fun W hN=>fa g nc W hN)
 | 31,hj=>by
  cases hj
  intro B X vo n vc xs W h;have hn:n<=60:=by rw[h.hn];exact sE (sD _ _) (by decide)
  exact ay B X g nc ah vo n vc _ xs true W jy jy zpo [79,112] 15 false zdh mM h hn ztz zty (by decide) (by decide) (by decide) (by decide) (show aA _ (.string ((⟨jy.toArray⟩:ByteArray).extract 0 15)) _ from(show((⟨jy.toArray⟩:ByteArray).extract 0 15)=⟨(zpo++[32]).toArray⟩ by rfl) ▸ ztx) (show aA _ (.string ((⟨jy.toArray⟩:ByteArray).extract 16 19)) _ from(show((⟨jy.toArray⟩:ByteArray).extract 16 19)=⟨#[32,79,112]⟩ by rfl) ▸ ztw) (by decide) (by decide) (by decide) (fun W hN=>zdg g nc W hN) (fun W hN=>mL g nc W hN)
 | 32,hj=>by
  cases hj
  intro B X vo n vc xs W h;have hn:n<=60:=by rw[h.hn];exact sE (sD _ _) (by decide)
  exact ay B X g nc ah vo n vc _ xs true W jx jx zpn zpm 7 false zdf zdd h hn ztv ztu (by decide) (by decide) (by decide) (by decide) (show aA _ (.string ((⟨jx.toArray⟩:ByteArray).extract 0 7)) _ from(show((⟨jx.toArray⟩:ByteArray).extract 0 7)=⟨(zpn++[32]).toArray⟩ by rfl) ▸ ztt) (show aA _ (.string ((⟨jx.toArray⟩:ByteArray).extract 8 19)) _ from(show((⟨jx.toArray⟩:ByteArray).extract 8 19)=⟨(32::zpm).toArray⟩ by rfl) ▸ zts) (by decide) (by decide) (by decide) (fun W hN=>zde g nc W hN) (fun W hN=>zdc g nc W hN)
 | 33,hj=>by
  cases hj
  intro B X vo n vc xs W h;have hn:n<=60:=by rw[h.hn];exact sE (sD _ _) (by decide)
  exact pg B X g nc ah vo n vc _ xs true W jw jw zpl [82,105] 30 false rj mI h hn ztr ztq (by decide) (by decide) (by decide) (by decide) (show aA _ (.string ((⟨jw.toArray⟩:ByteArray).extract 0 30)) _ from(show((⟨jw.toArray⟩:ByteArray).extract 0 30)=⟨(zpl++[32]).toArray⟩ by rfl) ▸ ztp) (show aA _ (.string ((⟨jw.toArray⟩:ByteArray).extract 31 34)) _ from(show((⟨jw.toArray⟩:ByteArray).extract 31 34)=⟨#[32,82,105]⟩ by rfl) ▸ zto) (by decide) (by decide) (by decide) (by decide) (fun W hN=>zdb g nc W hN) (fun W hN=>mH g nc W hN)
 | 34,hj=>by
  cases hj
  intro B X vo n vc xs W h;have hn:n<=60:=by rw[h.hn];exact sE (sD _ _) (by decide)
  exact ay B X g nc ah vo n vc _ xs true W jv jv zpk [82,105] 37 false pe mI h hn ztn ztm (by decide) (by decide) (by decide) (by decide) (show aA _ (.string ((⟨jv.toArray⟩:ByteArray).extract 0 37)) _ from(show((⟨jv.toArray⟩:ByteArray).extract 0 37)=⟨(zpk++[32]).toArray⟩ by rfl) ▸ ztl) (show aA _ (.string ((⟨jv.toArray⟩:ByteArray).extract 38 41)) _ from(show((⟨jv.toArray⟩:ByteArray).extract 38 41)=⟨#[32,82,105]⟩ by rfl) ▸ ztk) (by decide) (by decide) (by decide) (fun W hN=>zda g nc W hN) (fun W hN=>mH g nc W hN)
 | 35,hj=>by
  cases hj
  intro B X vo n vc xs W h;exact zkh B X g nc ah vo n vc _ xs true W yb1 yb1 5 true h ztj zti (by decide) (by decide) (by decide) (show aA _ (.string ((⟨yb1.toArray⟩:ByteArray).extract 0 5)) _ from(show((⟨yb1.toArray⟩:ByteArray).extract 0 5)=⟨#[114,101,115,116,32]⟩ by rfl) ▸ zth) (show aA _ (.string ((⟨yb1.toArray⟩:ByteArray).extract 6 6)) _ from(show((⟨yb1.toArray⟩:ByteArray).extract 6 6)=⟨#[]⟩ by rfl) ▸ ztg)
 | 36,hj=>by
  cases hj
  exact fun B X vo n vc xs W h=>zgk B X g nc ah vo n vc _ xs _ _ W [] h ztf
 | j+37,hj=>by
  have:=(sG.1 hj).1;exact absurd this (by simp[znx])
theorem zmp (g nc:Nat) (w:World) (hN:aN w g nc ah):Calls Tryz.prog 45 #[.string ⟨zqu.toArray⟩,.slice (some ⟨g,0,none⟩) 26 nc] w (PrQ g w qp true):=by
 have h:=zfE zqu (sP (by kernel_rfl)) ah g nc znx (fun j=>qp.take j) (fun j=>true) (fun j=>(sT 35 j)) w hN (by decide) rfl rfl rfl (fun W hW=>zmh (iF dN (fun _ hc=>fR mixed dN hc) 60) ai zej g nc W hW) (fun W=>zkg zqu znx znw (sP (by kernel_rfl)) W) (zqt g nc)
 exact h
end Pt
end
end Go.Proofs.YtbbapnpdfcgjnaaGreatDoor
