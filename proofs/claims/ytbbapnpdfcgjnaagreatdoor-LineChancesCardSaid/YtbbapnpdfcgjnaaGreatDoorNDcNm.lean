/- DcNm, PtLns, PtLiPs: parts of the proof, joined. -/
import Derived.Test.YtbbapnpdfcgjnaaGreatDoorNTxMath
import Derived.Test.YtbbapnpdfcgjnaaGreatDoorNPtEv
open List renaming length_take_le->sH, getElem?_eq_some_iff->sJ, length_append->sK, drop_eq_getElem_cons->sL, getElem?_map->sM, getElem?_eq_getElem->sO, length_cons->sQ, drop_of_length_le->sR, length_take->sU
open Nat renaming le_trans->sI, le_of_ble_eq_true->sS, le_refl->sT, mul_one->sV, blt->sW
open Go renaming wpList_append_own->sN
set_option maxHeartbeats 64000000
namespace Go.Proofs.YtbbapnpdfcgjnaaGreatDoor
namespace Dc
open Go.RowKit
theorem Tryz.info9:(Tryz.prog.info? 9).map (fun i=>(i.zero,i.size,i.bytes))=some (some (.string ⟨#[]⟩),1,16):=by kernel_rfl
def eR (U:List (List UInt8)):List Value:=U.map fun b=>.string ⟨b.toArray⟩
set_option maxRecDepth 100000 in
theorem zgf (U:List (List UInt8)) (A:List Tr) (Q:Nat) (w:World) (h:Bk U A Q w) (h0:0<U.length) (h9:U.length<=1000):
  Calls Tryz.prog 46 #[.pointer (some ⟨Q,0,none⟩)] w fun e w'=>∃g nc,e= .returned (.slice (some ⟨g,0,none⟩) U.length nc)/\Pt.aM w' g nc (eR U)/\w.heap.size<=g/\Below w.heap.size w w':=by
 obtain⟨i0,hi,hz0,hz1,hz2⟩:=info_parts Tryz.info9;obtain⟨a,ac,z0,_⟩:=h.names 0 U[0] (sO h0);have hz:∀(j:Nat) (u:Value),(eR U)[j]? =some u->w.cell? (a.add j)=some u:=fun j u hj=>by
  unfold eR at hj;rw[sM] at hj
  cases hb:U[j]? with
  | none=>rw[hb] at hj;cases hj
  | some b=>
   rw[hb] at hj
   cases hj
   obtain⟨a2,ac2,y0,y1⟩:=h.names j b hb;rw[z0] at y0
   cases y0
   exact y1
 have hab:a.block<w.heap.size:=World.block_lt_of_cell? w _ (hz 0 _ (show(eR U)[0]? =some (.string ⟨(U[0]).toArray⟩) by unfold eR;rw[sM,sO h0];rfl)) |> fun e=>by rwa [Pt.add_blk] at e
 have HZ:=hid (fun(o:Obj)=>fun(j:Nat) (u:Value) (hj:(eR U)[j]? =some u)=>(Pt.below_box (w:=w) (o:=o)).cell (p:=a.add j) (by rw[Pt.add_blk];exact hab) |>.trans (hz j u hj))
 have HL:=hid (show(eR U).length=U.length by simp[eR])
 have h1:∀u∈eR U,u.oneCell'=true:=fun u hu=>by
  obtain⟨b,_,rfl⟩:=List.mem_map.1 hu
  rfl
 have H1:=hid h1;obtain⟨N,hN⟩:∃N,N=U.length:=⟨_,rfl⟩;rw[<- hN] at z0 h0 h9 HL;have HN:=hid hN;clear hz h1 h hN;have hQ:Q<w.heap.size:=World.block_lt_of_cell? w _ z0;have z1:(w.alloc (.cells #[] 9)).cell? ⟨Q,0,none⟩=some (.slice (some a) N ac):=((Pt.below_box (w:=w) (o:=.cells #[] 9)).cell (p:=⟨Q,0,none⟩) hQ).trans z0;rw[<- HN.out];go_enter Tryz.func46,Tryz.ntmps46;go_wp2_with (at_builtin;refine sN _ rfl _ _ 66 rfl w.heap.size 9 i0 (.string ⟨#[]⟩) 1 16 Tryz.underlying66 hi hz0 hz1 hz2 rfl (by decide) _ 0 [] rfl (World.ownsRow_lit w #[] 0 (sT _) (by decide) (by simp)) a N ac (eR U) rfl (by rw[HL.out,sV]) (HZ.out _) H1.out (by unfold maxLen;omega) (by omega) (by simp) ?_)
 intro v' w2 hown hgrow _;have hB2:Below w.heap.size w w2:=(Pt.below_box (w:=w) (o:=.cells #[] 9)).grown hgrow (by simp) (fun k hk=>by
  have:w.heap.size=k:=by simpa[Value.ownBlock] using hk
  omega)
 have HB2:=hid hB2;have HO:=hid hown;clear hown hgrow hB2;go_wp2;go_ret;obtain⟨e1,h2⟩:=HO.out
 rcases h2 with ⟨_,e2⟩ | ⟨g,cap,cur,rfl,k1,k2,k3,_,k5,k6⟩
 ·omega
 ·exact⟨g,cap,rfl,⟨cur,k2,by rw[k5,sV],by rw[HL.out];exact k3,by rw[HL.out];rw[sV] at k6;exact k6⟩,k1,HB2.out⟩
end Dc
namespace Pt
open Go.RowKit
def eS (p:List UInt8):List UInt8->List (List UInt8)
 | []=>[p]
 | c::r=>if c=10 then p::eS [] r else eS (p++[c]) r
theorem zen (l:List UInt8) (f t:Nat):(⟨l.toArray⟩:ByteArray).extract f t=⟨((l.take t).drop f).toArray⟩:=by
 apply ByteArray.ext
 simp[ByteArray.data_extract,List.drop_take]
theorem zpt (l:List UInt8) (p:List UInt8) (i:Nat) (hi:i<l.length) (h:l[i]=10):eS p (l.drop i)=p::eS [] (l.drop (i+1)):=by
 rw[sL hi]
 conv=>lhs;unfold eS
 rw[if_pos h]
theorem zrX (l:List UInt8) (p:List UInt8) (i:Nat) (hi:i<l.length) (h:l[i]≠10):eS p (l.drop i)=eS (p++[l[i]]) (l.drop (i+1)):=by
 rw[sL hi]
 conv=>lhs;unfold eS
 rw[if_neg h]
theorem n0:∀(r p:List UInt8),(eS p r).length<=r.length+1
 | [],p=>sT _
 | c::r,p=>by
  unfold eS
  split
  ·have:=n0 r []
   rw[sQ,sQ];omega
  ·have:=n0 r (p++[c])
   rw[sQ];omega
theorem qs (xs:List (List UInt8)) (p:List UInt8):Dc.eR (xs++[p])=Dc.eR xs++[.string ⟨p.toArray⟩]:=by simp[Dc.eR]
set_option maxRecDepth 100000 in
theorem zle (l:List UInt8) (w:World) (hl:l.length<=100000):
  Calls Tryz.prog 71 #[.string ⟨l.toArray⟩] w fun e w'=>∃v,e= .returned v/\w'.ownsRow w.heap.size 9 1 v (eS [] l).length (Dc.eR (eS [] l))/\Below w.heap.size w w':=by
 obtain⟨i0,hi,hz0,hz1,hz2⟩:=info_parts Dc.Tryz.info9;have HSZ:=hid (show(⟨l.toArray⟩:ByteArray).size=l.length by show l.toArray.size=_;simp)
 have HLN:=hid (n0 l []);go_enter Tryz.func71,Tryz.ntmps71;go_wp2;go_loopw [3,4,5] (fun v fv iv wr=>∃(f i:Nat) (xs:List (List UInt8)),fv= .int .i64 f/\iv= .int .i64 i/\f<=i/\i<=l.length/\Hid (eS [] l=xs++eS ((l.take i).drop f) (l.drop i))/\Hid (wr.ownsRow w.heap.size 9 1 v xs.length (Dc.eR xs))/\Hid (Below w.heap.size w wr)) (fun _ _ iv _=>l.length - (intOf iv).toNat)
 case atStart=>exact⟨0,0,[],rfl,rfl,sT _,Nat.zero_le _,by simp[Hid],World.ownsRow_nil _ _ _ _,Below.refl _ _⟩
 case round=>
  obtain⟨f,i,xs,rfl,rfl,hfi,hil,HP,HO,HB⟩:=hrel
  by_cases hlt:i<l.length
  ·have h1:(i:Int)<(l.length:Int):=by omega
   have h0:(0:Int)<=(i:Int):=by omega
   have hxl:xs.length<=100001:=by
    have h5:=HLN.out;rw[HP.out,sK] at h5;omega
   have hbs:=HB.out.size;have hf0:(0:Int)<=(f:Int):=by omega
   have hfi2:(f:Int)<=(i:Int):=by omega
   have hil2:(i:Int)<=(l.length:Int):=by omega
   have hw9:IntKind.i64.wrap ((i:Int)+1)=(i:Int)+1:=by rw[IntKind.wrap_i64];omega
   by_cases hc:l[i]=10
   ·obtain⟨p,hp⟩:∃p,p=(l.take i).drop f:=⟨_,rfl⟩
    have HE:=hid (show(⟨l.toArray⟩:ByteArray).extract f i=⟨p.toArray⟩ by rw[zen,hp])
    have HP2:=hid (show eS [] l=(xs++[p])++eS ((l.take (i+1)).drop (i+1)) (l.drop (i+1)) by
     rw[HP.out,zpt l _ i hlt hc,<- hp,List.append_assoc,show(l.take (i+1)).drop (i+1)=[] from sR (by rw[sU];omega)];rfl)
    have hgi:(⟨l.toArray⟩:ByteArray)[i]'(by rw[HSZ.out];exact hlt)=l[i]:=rfl
    have hn3:l[i].toNat=10:=by rw[hc];rfl
    have hn2:(l[i].toNat:Int)=10:=by omega
    clear hp HP;go_wp2_with (at_builtin;refine sN _ rfl _ _ 66 rfl w.heap.size 9 i0 (.string ⟨#[]⟩) 1 16 Tryz.underlying66 hi hz0 hz1 hz2 rfl (by decide) _ xs.length (Dc.eR xs) rfl (HO.out.alloc _) ⟨wr.heap.size,0,none⟩ 1 1 [.string ((⟨l.toArray⟩:ByteArray).extract f i)] rfl rfl (Dc.zfs wr (.string ((⟨l.toArray⟩:ByteArray).extract f i)) 9) (Dc.zeT _) (by unfold maxLen;omega) (by omega) (by simp;omega) ?_;intro v2 w2 o2 gr2 _;have HO2:=hid (show w2.ownsRow w.heap.size 9 1 v2 (xs++[p]).length (Dc.eR (xs++[p])) by rw[qs,sK,<- HE.out];exact o2);have HB2:=hid ((HB.out.alloc HB.out.size (.cells #[.string ((⟨l.toArray⟩:ByteArray).extract f i)] 9)).grown gr2 (by simp;omega) (fun j hj=>(HO.out.lt j hj).1));clear o2 gr2)
    go_roundw
    case rel=>exact⟨i+1,i+1,xs++[p],by go_num,by go_num,sT _,hlt,HP2,HO2,HB2⟩
    case measure=>simp[intOf];omega
   ·have HP2:=hid (show eS [] l=xs++eS ((l.take (i+1)).drop f) (l.drop (i+1)) by
     rw[HP.out,zrX l _ i hlt hc,List.take_succ_eq_append_getElem hlt,List.drop_append_of_le_length (by rw[sU];omega)])
    have hgi:(⟨l.toArray⟩:ByteArray)[i]'(by rw[HSZ.out];exact hlt)=l[i]:=rfl
    have hn3:¬l[i].toNat=10:=fun h=>hc (UInt8.toNat_inj.1 (by rw[h];rfl))
    have hn2:¬(l[i].toNat:Int)=10:=by omega
    have hn1:(l[i].toNat==10)=false:=beq_eq_false_iff_ne.2 hn3;have hn0:((l[i].toNat:Int)==10)=false:=beq_eq_false_iff_ne.2 hn2;clear HP;go_wp2;go_roundw
    case rel=>exact⟨f,i+1,xs,rfl,by go_num,by omega,hlt,HP2,HO,HB⟩
    case measure=>simp[intOf];omega
  ·have h1:¬(i:Int)<(l.length:Int):=by omega
   have hie:i=l.length:=by omega
   have hxl:xs.length<=100001:=by
    have h5:=HLN.out;rw[HP.out,sK] at h5;omega
   have hbs:=HB.out.size;have hf0:(0:Int)<=(f:Int):=by omega
   have hfl:(f:Int)<=(l.length:Int):=by omega
   obtain⟨p,hp⟩:∃p,p=(l.take i).drop f:=⟨_,rfl⟩;have HE:=hid (show(⟨l.toArray⟩:ByteArray).extract f l.length=⟨p.toArray⟩ by rw[zen,hp,hie])
   have HP2:=hid (show eS [] l=xs++[p] by
    rw[HP.out,<- hp,sR (by omega)];rfl)
   clear hp HP hie;go_wp2_with (at_builtin;refine sN _ rfl _ _ 66 rfl w.heap.size 9 i0 (.string ⟨#[]⟩) 1 16 Tryz.underlying66 hi hz0 hz1 hz2 rfl (by decide) _ xs.length (Dc.eR xs) rfl (HO.out.alloc _) ⟨wr.heap.size,0,none⟩ 1 1 [.string ((⟨l.toArray⟩:ByteArray).extract f l.length)] rfl rfl (Dc.zfs wr (.string ((⟨l.toArray⟩:ByteArray).extract f l.length)) 9) (Dc.zeT _) (by unfold maxLen;omega) (by omega) (by simp;omega) ?_;intro v2 w2 o2 gr2 _;have HO2:=hid (show w2.ownsRow w.heap.size 9 1 v2 (xs++[p]).length (Dc.eR (xs++[p])) by rw[qs,sK,<- HE.out];exact o2);have HB2:=hid ((HB.out.alloc HB.out.size (.cells #[.string ((⟨l.toArray⟩:ByteArray).extract f l.length)] 9)).grown gr2 (by simp;omega) (fun j hj=>(HO.out.lt j hj).1));clear o2 gr2)
   go_ret;exact⟨_,rfl,by rw[HP2.out];exact HO2.out,HB2.out⟩
theorem zjF (l:List UInt8) (ls:List (List UInt8)) (hs:eS [] l=ls) (hl:l.length<=100000) (w:World):
  Calls Tryz.prog 71 #[.string ⟨l.toArray⟩] w fun e w'=>∃vo vc,e= .returned (.slice vo ls.length vc)/\zoL w.heap.size w' vo ls/\Below w.heap.size w w':=by
 subst hs;refine(zle l w hl).mono ?_;rintro e w' ⟨v,rfl,hO,hB⟩
 rcases hO.2 with ⟨e1,h0⟩ | ⟨q,cap,cur,e1,hb,hg,_,_,_,htk⟩
 ·exact⟨none,0,by rw[e1,h0],fun j s hj=>by
   have:=(sJ.1 hj).1;omega,hB⟩
 ·refine⟨some ⟨q,0,none⟩,cap,by rw[e1],fun j s hj=>?_,hB⟩
  have hjl:=(sJ.1 hj).1;refine⟨q,0,cur,_,rfl,hb,hg,?_⟩;have h1:(Dc.eR (eS [] l))[j]? =some (.string ⟨s.toArray⟩):=by
   unfold Dc.eR;rw[sM,hj];rfl
  rw[<- htk,List.getElem?_take_of_lt (by omega)] at h1
  rw[Nat.zero_add]
  simpa using h1
end Pt
section
open Ev Go.RowKit
namespace Pt
def zpX:List UInt8:=[67,114,32,126,32,76,102,10,91,66,107,32,67,114,32,76,102,93,32,47,10,126,32,91,66,107,32,67,114,32,76,102,32,83,112,32,90,119,93,10,90,119,32,83,112,42,32,47,10,91,94,66,107,32,67,114,32,76,102,32,83,112,32,90,119,93,32,126,32,67,109,10,126,32,87,106,10,87,106,32,67,109,42,32,126,10,71,108,32,67,109,42,32,126,10,91,94,83,112,32,66,97,32,72,121,32,67,109,93,32,67,109,42,32,126,32,71,108,10,94,32,67,109,32,67,109,42,32,126,32,71,108,10,126,32,91,67,108,32,67,112,32,69,120,32,73,115,32,83,121,93,10,79,112,32,67,109,42,32,83,112,42,32,126,10,81,117,32,67,109,42,32,83,112,42,32,126,32,79,112,10,91,67,108,32,67,112,93,32,67,109,42,32,83,112,42,32,126,32,78,115,10,68,97,115,104,32,67,109,42,32,83,112,42,32,126,32,68,97,115,104,10,83,112,32,47,10,126,32,81,117,10,81,117,32,67,109,42,32,126,10,126,32,91,66,97,32,72,121,32,78,115,93,10,126,32,73,110,10,79,116,104,101,114,32,67,109,42,32,126,32,78,117,10,78,117,32,67,109,42,32,126,32,79,116,104,101,114,10,80,114,32,67,109,42,32,126,32,73,100,10,73,100,32,67,109,42,32,126,32,80,111,10,91,80,114,32,80,111,93,32,67,109,42,32,126,32,79,116,104,101,114,10,79,116,104,101,114,32,67,109,42,32,126,32,91,80,114,32,80,111,93,10,78,117,32,67,109,42,32,91,73,115,32,83,121,93,63,32,67,109,42,32,91,67,108,32,67,112,93,63,32,67,109,42,32,126,32,91,80,111,32,80,114,93,10,91,80,111,32,80,114,93,32,67,109,42,32,126,32,40,79,112,32,124,32,72,121,41,63,32,78,117,10,91,72,121,32,73,115,32,83,121,32,78,117,93,32,67,109,42,32,126,32,78,117,10,79,116,104,101,114,32,67,109,42,32,126,32,79,116,104,101,114,10,73,115,32,67,109,42,32,126,32,79,116,104,101,114,10,91,79,116,104,101,114,32,78,117,93,32,67,109,42,32,126,32,79,112,10,67,112,32,67,109,42,32,126,32,91,79,116,104,101,114,32,78,117,93,10,94,32,67,109,42,32,40,82,105,32,67,109,42,32,82,105,32,67,109,42,41,42,32,82,105,32,67,109,42,32,126,32,82,105,10,91,94,82,105,32,67,109,93,32,67,109,42,32,40,82,105,32,67,109,42,32,82,105,32,67,109,42,41,42,32,82,105,32,67,109,42,32,126,32,82,105,10,114,101,115,116,32,47,10]
def js:List UInt8:=[78,117,32,67,109,42,32,91,73,115,32,83,121,93,63,32,67,109,42,32,91,67,108,32,67,112,93,63,32,67,109,42,32,126,32,91,80,111,32,80,114,93]
def jh:List UInt8:=[91,94,82,105,32,67,109,93,32,67,109,42,32,40,82,105,32,67,109,42,32,82,105,32,67,109,42,41,42,32,82,105,32,67,109,42,32,126,32,82,105]
def ji:List UInt8:=[94,32,67,109,42,32,40,82,105,32,67,109,42,32,82,105,32,67,109,42,41,42,32,82,105,32,67,109,42,32,126,32,82,105]
def jr:List UInt8:=[91,80,111,32,80,114,93,32,67,109,42,32,126,32,40,79,112,32,124,32,72,121,41,63,32,78,117]
def qd:List UInt8:=[91,94,83,112,32,66,97,32,72,121,32,67,109,93,32,67,109,42,32,126,32,71,108]
def qg:List UInt8:=[91,94,66,107,32,67,114,32,76,102,32,83,112,32,90,119,93,32,126,32,67,109]
def jq:List UInt8:=[91,72,121,32,73,115,32,83,121,32,78,117,93,32,67,109,42,32,126,32,78,117]
def jC:List UInt8:=[91,67,108,32,67,112,93,32,67,109,42,32,83,112,42,32,126,32,78,115]
def ju:List UInt8:=[91,80,114,32,80,111,93,32,67,109,42,32,126,32,79,116,104,101,114]
def jt:List UInt8:=[79,116,104,101,114,32,67,109,42,32,126,32,91,80,114,32,80,111,93]
def jl:List UInt8:=[91,79,116,104,101,114,32,78,117,93,32,67,109,42,32,126,32,79,112]
def jk:List UInt8:=[67,112,32,67,109,42,32,126,32,91,79,116,104,101,114,32,78,117,93]
def jB:List UInt8:=[68,97,115,104,32,67,109,42,32,83,112,42,32,126,32,68,97,115,104]
def qi:List UInt8:=[126,32,91,66,107,32,67,114,32,76,102,32,83,112,32,90,119,93]
def jF:List UInt8:=[126,32,91,67,108,32,67,112,32,69,120,32,73,115,32,83,121,93]
def jo:List UInt8:=[79,116,104,101,114,32,67,109,42,32,126,32,79,116,104,101,114]
def jD:List UInt8:=[81,117,32,67,109,42,32,83,112,42,32,126,32,79,112]
def jy:List UInt8:=[79,116,104,101,114,32,67,109,42,32,126,32,78,117]
def jx:List UInt8:=[78,117,32,67,109,42,32,126,32,79,116,104,101,114]
def jm:List UInt8:=[73,115,32,67,109,42,32,126,32,79,116,104,101,114]
def qb:List UInt8:=[94,32,67,109,32,67,109,42,32,126,32,71,108]
def jE:List UInt8:=[79,112,32,67,109,42,32,83,112,42,32,126]
def qj:List UInt8:=[91,66,107,32,67,114,32,76,102,93,32,47]
def jz:List UInt8:=[126,32,91,66,97,32,72,121,32,78,115,93]
def jw:List UInt8:=[80,114,32,67,109,42,32,126,32,73,100]
def jv:List UInt8:=[73,100,32,67,109,42,32,126,32,80,111]
def qf:List UInt8:=[87,106,32,67,109,42,32,126]
def qe:List UInt8:=[71,108,32,67,109,42,32,126]
def jA:List UInt8:=[81,117,32,67,109,42,32,126]
def qh:List UInt8:=[90,119,32,83,112,42,32,47]
def yb0:List UInt8:=[67,114,32,126,32,76,102]
def yb1:List UInt8:=[114,101,115,116,32,47]
def zmZ:List (List UInt8):=[
 yb0,
 qj,
 qi,
 qh,
 qg,
 [126,32,87,106],
 qf,
 qe,
 qd,
 qb,
 jF,
 jE,
 jD,
 jC,
 jB,
 [83,112,32,47],
 [126,32,81,117],
 jA,
 jz,
 [126,32,73,110],
 jy,
 jx,
 jw,
 jv,
 ju,
 jt,
 js,
 jr,
 jq,
 jo,
 jm,
 jl,
 jk,
 ji,
 jh,
 yb1,
 []]
theorem zmY:eS [] zpX=zmZ:=by kernel_rfl
theorem aa {f:FuncId} {a v:Value} (ha:bA [a]=true) (h:zsi Tryz.prog oN 1000000 60 [] f [a] v=true):az f a v:=fun W=>zeD mixed dJ rfl ha h W (fun x hx=>by cases hx)
theorem zwD:az 103 (.string ⟨yb0.toArray⟩) (.string ⟨yb0.toArray⟩):=aa rfl (by kernel_rfl)
theorem zwC:az 104 (.string ⟨yb0.toArray⟩) (.int .i64 3):=aa rfl (by kernel_rfl)
theorem zwB:az 105 (.string ⟨#[67,114,32]⟩) (.string ⟨#[67,114]⟩):=aa rfl (by kernel_rfl)
theorem zwA:az 105 (.string ⟨#[32,76,102]⟩) (.string ⟨#[76,102]⟩):=aa rfl (by kernel_rfl)
theorem zwz:az 103 (.string ⟨qj.toArray⟩) (.string ⟨qj.toArray⟩):=aa rfl (by kernel_rfl)
theorem zwy:az 104 (.string ⟨qj.toArray⟩) (.int .i64 11):=aa rfl (by kernel_rfl)
def yb2:List UInt8:=[91,66,107,32,67,114,32,76,102,93]
theorem zwx:az 105 (.string ⟨(yb2++[32]).toArray⟩) (.string ⟨yb2.toArray⟩):=aa rfl (by kernel_rfl)
theorem zww:az 105 (.string ⟨#[]⟩) (.string ⟨#[]⟩):=aa rfl (by kernel_rfl)
theorem zwv:az 103 (.string ⟨qi.toArray⟩) (.string ⟨qi.toArray⟩):=aa rfl (by kernel_rfl)
theorem zwu:az 104 (.string ⟨qi.toArray⟩) (.int .i64 0):=aa rfl (by kernel_rfl)
theorem zwt:az 105 (.string ⟨#[]⟩) (.string ⟨#[]⟩):=aa rfl (by kernel_rfl)
def yb3:List UInt8:=[91,66,107,32,67,114,32,76,102,32,83,112,32,90,119,93]
theorem zws:az 105 (.string ⟨(32::yb3).toArray⟩) (.string ⟨yb3.toArray⟩):=aa rfl (by kernel_rfl)
theorem zwr:az 103 (.string ⟨qh.toArray⟩) (.string ⟨qh.toArray⟩):=aa rfl (by kernel_rfl)
theorem zwq:az 104 (.string ⟨qh.toArray⟩) (.int .i64 7):=aa rfl (by kernel_rfl)
def yb4:List UInt8:=[90,119,32,83,112,42]
theorem zwp:az 105 (.string ⟨(yb4++[32]).toArray⟩) (.string ⟨yb4.toArray⟩):=aa rfl (by kernel_rfl)
theorem zwo:az 105 (.string ⟨#[]⟩) (.string ⟨#[]⟩):=aa rfl (by kernel_rfl)
theorem zwn:az 103 (.string ⟨qg.toArray⟩) (.string ⟨qg.toArray⟩):=aa rfl (by kernel_rfl)
theorem zwm:az 104 (.string ⟨qg.toArray⟩) (.int .i64 18):=aa rfl (by kernel_rfl)
def yb5:List UInt8:=[91,94,66,107,32,67,114,32,76,102,32,83,112,32,90,119,93]
theorem zwl:az 105 (.string ⟨(yb5++[32]).toArray⟩) (.string ⟨yb5.toArray⟩):=aa rfl (by kernel_rfl)
theorem zwk:az 105 (.string ⟨#[32,67,109]⟩) (.string ⟨#[67,109]⟩):=aa rfl (by kernel_rfl)
theorem zwj:az 103 (.string ⟨#[126,32,87,106]⟩) (.string ⟨#[126,32,87,106]⟩):=aa rfl (by kernel_rfl)
theorem zwi:az 104 (.string ⟨#[126,32,87,106]⟩) (.int .i64 0):=aa rfl (by kernel_rfl)
theorem zwh:az 105 (.string ⟨#[]⟩) (.string ⟨#[]⟩):=aa rfl (by kernel_rfl)
theorem zwg:az 105 (.string ⟨#[32,87,106]⟩) (.string ⟨#[87,106]⟩):=aa rfl (by kernel_rfl)
theorem zwf:az 103 (.string ⟨qf.toArray⟩) (.string ⟨qf.toArray⟩):=aa rfl (by kernel_rfl)
theorem zwe:az 104 (.string ⟨qf.toArray⟩) (.int .i64 7):=aa rfl (by kernel_rfl)
def yb6:List UInt8:=[87,106,32,67,109,42]
theorem zwd:az 105 (.string ⟨(yb6++[32]).toArray⟩) (.string ⟨yb6.toArray⟩):=aa rfl (by kernel_rfl)
theorem zwc:az 105 (.string ⟨#[]⟩) (.string ⟨#[]⟩):=aa rfl (by kernel_rfl)
theorem zwb:az 103 (.string ⟨qe.toArray⟩) (.string ⟨qe.toArray⟩):=aa rfl (by kernel_rfl)
theorem zwa:az 104 (.string ⟨qe.toArray⟩) (.int .i64 7):=aa rfl (by kernel_rfl)
def yb7:List UInt8:=[71,108,32,67,109,42]
theorem zvZ:az 105 (.string ⟨(yb7++[32]).toArray⟩) (.string ⟨yb7.toArray⟩):=aa rfl (by kernel_rfl)
theorem zvY:az 105 (.string ⟨#[]⟩) (.string ⟨#[]⟩):=aa rfl (by kernel_rfl)
theorem zvX:az 103 (.string ⟨qd.toArray⟩) (.string ⟨qd.toArray⟩):=aa rfl (by kernel_rfl)
theorem zvW:az 104 (.string ⟨qd.toArray⟩) (.int .i64 19):=aa rfl (by kernel_rfl)
def yb8:List UInt8:=[91,94,83,112,32,66,97,32,72,121,32,67,109,93,32,67,109,42]
theorem zvV:az 105 (.string ⟨(yb8++[32]).toArray⟩) (.string ⟨yb8.toArray⟩):=aa rfl (by kernel_rfl)
theorem zvU:az 105 (.string ⟨#[32,71,108]⟩) (.string ⟨#[71,108]⟩):=aa rfl (by kernel_rfl)
theorem zvT:az 103 (.string ⟨qb.toArray⟩) (.string ⟨qb.toArray⟩):=aa rfl (by kernel_rfl)
theorem zvS:az 104 (.string ⟨qb.toArray⟩) (.int .i64 9):=aa rfl (by kernel_rfl)
def yb9:List UInt8:=[94,32,67,109,32,67,109,42]
theorem zvR:az 105 (.string ⟨(yb9++[32]).toArray⟩) (.string ⟨yb9.toArray⟩):=aa rfl (by kernel_rfl)
theorem zvQ:az 105 (.string ⟨#[32,71,108]⟩) (.string ⟨#[71,108]⟩):=aa rfl (by kernel_rfl)
theorem zuK:az 103 (.string ⟨jF.toArray⟩) (.string ⟨jF.toArray⟩):=aa rfl (by kernel_rfl)
theorem zuJ:az 104 (.string ⟨jF.toArray⟩) (.int .i64 0):=aa rfl (by kernel_rfl)
theorem zuI:az 105 (.string ⟨#[]⟩) (.string ⟨#[]⟩):=aa rfl (by kernel_rfl)
def zpj:List UInt8:=[91,67,108,32,67,112,32,69,120,32,73,115,32,83,121,93]
theorem zuH:az 105 (.string ⟨(32::zpj).toArray⟩) (.string ⟨zpj.toArray⟩):=aa rfl (by kernel_rfl)
theorem zuG:az 103 (.string ⟨jE.toArray⟩) (.string ⟨jE.toArray⟩):=aa rfl (by kernel_rfl)
theorem zuF:az 104 (.string ⟨jE.toArray⟩) (.int .i64 11):=aa rfl (by kernel_rfl)
def zpi:List UInt8:=[79,112,32,67,109,42,32,83,112,42]
theorem zuE:az 105 (.string ⟨(zpi++[32]).toArray⟩) (.string ⟨zpi.toArray⟩):=aa rfl (by kernel_rfl)
theorem zuD:az 105 (.string ⟨#[]⟩) (.string ⟨#[]⟩):=aa rfl (by kernel_rfl)
theorem zuC:az 103 (.string ⟨jD.toArray⟩) (.string ⟨jD.toArray⟩):=aa rfl (by kernel_rfl)
theorem zuB:az 104 (.string ⟨jD.toArray⟩) (.int .i64 11):=aa rfl (by kernel_rfl)
def zph:List UInt8:=[81,117,32,67,109,42,32,83,112,42]
theorem zuA:az 105 (.string ⟨(zph++[32]).toArray⟩) (.string ⟨zph.toArray⟩):=aa rfl (by kernel_rfl)
theorem zuz:az 105 (.string ⟨#[32,79,112]⟩) (.string ⟨#[79,112]⟩):=aa rfl (by kernel_rfl)
theorem zuy:az 103 (.string ⟨jC.toArray⟩) (.string ⟨jC.toArray⟩):=aa rfl (by kernel_rfl)
theorem zux:az 104 (.string ⟨jC.toArray⟩) (.int .i64 16):=aa rfl (by kernel_rfl)
def zpg:List UInt8:=[91,67,108,32,67,112,93,32,67,109,42,32,83,112,42]
theorem zuw:az 105 (.string ⟨(zpg++[32]).toArray⟩) (.string ⟨zpg.toArray⟩):=aa rfl (by kernel_rfl)
theorem zuv:az 105 (.string ⟨#[32,78,115]⟩) (.string ⟨#[78,115]⟩):=aa rfl (by kernel_rfl)
theorem zuu:az 103 (.string ⟨jB.toArray⟩) (.string ⟨jB.toArray⟩):=aa rfl (by kernel_rfl)
theorem zut:az 104 (.string ⟨jB.toArray⟩) (.int .i64 13):=aa rfl (by kernel_rfl)
def zpf:List UInt8:=[68,97,115,104,32,67,109,42,32,83,112,42]
theorem zus:az 105 (.string ⟨(zpf++[32]).toArray⟩) (.string ⟨zpf.toArray⟩):=aa rfl (by kernel_rfl)
theorem zur:az 105 (.string ⟨#[32,68,97,115,104]⟩) (.string ⟨#[68,97,115,104]⟩):=aa rfl (by kernel_rfl)
theorem zuq:az 103 (.string ⟨#[83,112,32,47]⟩) (.string ⟨#[83,112,32,47]⟩):=aa rfl (by kernel_rfl)
theorem zup:az 104 (.string ⟨#[83,112,32,47]⟩) (.int .i64 3):=aa rfl (by kernel_rfl)
theorem zuo:az 105 (.string ⟨#[83,112,32]⟩) (.string ⟨#[83,112]⟩):=aa rfl (by kernel_rfl)
theorem zun:az 105 (.string ⟨#[]⟩) (.string ⟨#[]⟩):=aa rfl (by kernel_rfl)
theorem zum:az 103 (.string ⟨#[126,32,81,117]⟩) (.string ⟨#[126,32,81,117]⟩):=aa rfl (by kernel_rfl)
theorem zul:az 104 (.string ⟨#[126,32,81,117]⟩) (.int .i64 0):=aa rfl (by kernel_rfl)
theorem zuk:az 105 (.string ⟨#[]⟩) (.string ⟨#[]⟩):=aa rfl (by kernel_rfl)
theorem zuj:az 105 (.string ⟨#[32,81,117]⟩) (.string ⟨#[81,117]⟩):=aa rfl (by kernel_rfl)
theorem zui:az 103 (.string ⟨jA.toArray⟩) (.string ⟨jA.toArray⟩):=aa rfl (by kernel_rfl)
theorem zuh:az 104 (.string ⟨jA.toArray⟩) (.int .i64 7):=aa rfl (by kernel_rfl)
def zpe:List UInt8:=[81,117,32,67,109,42]
theorem zug:az 105 (.string ⟨(zpe++[32]).toArray⟩) (.string ⟨zpe.toArray⟩):=aa rfl (by kernel_rfl)
theorem zuf:az 105 (.string ⟨#[]⟩) (.string ⟨#[]⟩):=aa rfl (by kernel_rfl)
theorem zue:az 103 (.string ⟨jz.toArray⟩) (.string ⟨jz.toArray⟩):=aa rfl (by kernel_rfl)
theorem zud:az 104 (.string ⟨jz.toArray⟩) (.int .i64 0):=aa rfl (by kernel_rfl)
theorem zuc:az 105 (.string ⟨#[]⟩) (.string ⟨#[]⟩):=aa rfl (by kernel_rfl)
def zpd:List UInt8:=[91,66,97,32,72,121,32,78,115,93]
theorem zub:az 105 (.string ⟨(32::zpd).toArray⟩) (.string ⟨zpd.toArray⟩):=aa rfl (by kernel_rfl)
theorem zua:az 103 (.string ⟨#[126,32,73,110]⟩) (.string ⟨#[126,32,73,110]⟩):=aa rfl (by kernel_rfl)
theorem ztZ:az 104 (.string ⟨#[126,32,73,110]⟩) (.int .i64 0):=aa rfl (by kernel_rfl)
theorem ztY:az 105 (.string ⟨#[]⟩) (.string ⟨#[]⟩):=aa rfl (by kernel_rfl)
theorem ztX:az 105 (.string ⟨#[32,73,110]⟩) (.string ⟨#[73,110]⟩):=aa rfl (by kernel_rfl)
theorem ztW:az 103 (.string ⟨jy.toArray⟩) (.string ⟨jy.toArray⟩):=aa rfl (by kernel_rfl)
theorem ztV:az 104 (.string ⟨jy.toArray⟩) (.int .i64 10):=aa rfl (by kernel_rfl)
def mR:List UInt8:=[79,116,104,101,114,32,67,109,42]
theorem ztU:az 105 (.string ⟨(mR++[32]).toArray⟩) (.string ⟨mR.toArray⟩):=aa rfl (by kernel_rfl)
theorem ztT:az 105 (.string ⟨#[32,78,117]⟩) (.string ⟨#[78,117]⟩):=aa rfl (by kernel_rfl)
theorem ztS:az 103 (.string ⟨jx.toArray⟩) (.string ⟨jx.toArray⟩):=aa rfl (by kernel_rfl)
theorem ztR:az 104 (.string ⟨jx.toArray⟩) (.int .i64 7):=aa rfl (by kernel_rfl)
def zpc:List UInt8:=[78,117,32,67,109,42]
theorem ztQ:az 105 (.string ⟨(zpc++[32]).toArray⟩) (.string ⟨zpc.toArray⟩):=aa rfl (by kernel_rfl)
def zbq:List UInt8:=[32,79,116,104,101,114]
theorem ztP:az 105 (.string ⟨zbq.toArray⟩) (.string ⟨#[79,116,104,101,114]⟩):=aa rfl (by kernel_rfl)
theorem ztO:az 103 (.string ⟨jw.toArray⟩) (.string ⟨jw.toArray⟩):=aa rfl (by kernel_rfl)
theorem ztN:az 104 (.string ⟨jw.toArray⟩) (.int .i64 7):=aa rfl (by kernel_rfl)
def zpb:List UInt8:=[80,114,32,67,109,42]
theorem ztM:az 105 (.string ⟨(zpb++[32]).toArray⟩) (.string ⟨zpb.toArray⟩):=aa rfl (by kernel_rfl)
theorem ztL:az 105 (.string ⟨#[32,73,100]⟩) (.string ⟨#[73,100]⟩):=aa rfl (by kernel_rfl)
theorem ztK:az 103 (.string ⟨jv.toArray⟩) (.string ⟨jv.toArray⟩):=aa rfl (by kernel_rfl)
theorem ztJ:az 104 (.string ⟨jv.toArray⟩) (.int .i64 7):=aa rfl (by kernel_rfl)
def zpa:List UInt8:=[73,100,32,67,109,42]
theorem ztI:az 105 (.string ⟨(zpa++[32]).toArray⟩) (.string ⟨zpa.toArray⟩):=aa rfl (by kernel_rfl)
theorem ztH:az 105 (.string ⟨#[32,80,111]⟩) (.string ⟨#[80,111]⟩):=aa rfl (by kernel_rfl)
theorem ztG:az 103 (.string ⟨ju.toArray⟩) (.string ⟨ju.toArray⟩):=aa rfl (by kernel_rfl)
theorem ztF:az 104 (.string ⟨ju.toArray⟩) (.int .i64 12):=aa rfl (by kernel_rfl)
def zoZ:List UInt8:=[91,80,114,32,80,111,93,32,67,109,42]
theorem ztE:az 105 (.string ⟨(zoZ++[32]).toArray⟩) (.string ⟨zoZ.toArray⟩):=aa rfl (by kernel_rfl)
theorem ztD:az 105 (.string ⟨zbq.toArray⟩) (.string ⟨#[79,116,104,101,114]⟩):=aa rfl (by kernel_rfl)
theorem ztC:az 103 (.string ⟨jt.toArray⟩) (.string ⟨jt.toArray⟩):=aa rfl (by kernel_rfl)
theorem ztB:az 104 (.string ⟨jt.toArray⟩) (.int .i64 10):=aa rfl (by kernel_rfl)
theorem ztA:az 105 (.string ⟨(mR++[32]).toArray⟩) (.string ⟨mR.toArray⟩):=aa rfl (by kernel_rfl)
def zoY:List UInt8:=[91,80,114,32,80,111,93]
theorem ztz:az 105 (.string ⟨(32::zoY).toArray⟩) (.string ⟨zoY.toArray⟩):=aa rfl (by kernel_rfl)
theorem zty:az 103 (.string ⟨js.toArray⟩) (.string ⟨js.toArray⟩):=aa rfl (by kernel_rfl)
theorem ztx:az 104 (.string ⟨js.toArray⟩) (.int .i64 33):=aa rfl (by kernel_rfl)
def zoX:List UInt8:=[78,117,32,67,109,42,32,91,73,115,32,83,121,93,63,32,67,109,42,32,91,67,108,32,67,112,93,63,32,67,109,42]
theorem ztw:az 105 (.string ⟨(zoX++[32]).toArray⟩) (.string ⟨zoX.toArray⟩):=aa rfl (by kernel_rfl)
def zoW:List UInt8:=[91,80,111,32,80,114,93]
theorem ztv:az 105 (.string ⟨(32::zoW).toArray⟩) (.string ⟨zoW.toArray⟩):=aa rfl (by kernel_rfl)
theorem ztu:az 103 (.string ⟨jr.toArray⟩) (.string ⟨jr.toArray⟩):=aa rfl (by kernel_rfl)
theorem ztt:az 104 (.string ⟨jr.toArray⟩) (.int .i64 12):=aa rfl (by kernel_rfl)
def zoV:List UInt8:=[91,80,111,32,80,114,93,32,67,109,42]
theorem zts:az 105 (.string ⟨(zoV++[32]).toArray⟩) (.string ⟨zoV.toArray⟩):=aa rfl (by kernel_rfl)
def zoU:List UInt8:=[40,79,112,32,124,32,72,121,41,63,32,78,117]
theorem ztr:az 105 (.string ⟨(32::zoU).toArray⟩) (.string ⟨zoU.toArray⟩):=aa rfl (by kernel_rfl)
theorem ztq:az 103 (.string ⟨jq.toArray⟩) (.string ⟨jq.toArray⟩):=aa rfl (by kernel_rfl)
theorem ztp:az 104 (.string ⟨jq.toArray⟩) (.int .i64 18):=aa rfl (by kernel_rfl)
def zoT:List UInt8:=[91,72,121,32,73,115,32,83,121,32,78,117,93,32,67,109,42]
theorem zto:az 105 (.string ⟨(zoT++[32]).toArray⟩) (.string ⟨zoT.toArray⟩):=aa rfl (by kernel_rfl)
theorem ztn:az 105 (.string ⟨#[32,78,117]⟩) (.string ⟨#[78,117]⟩):=aa rfl (by kernel_rfl)
theorem ztm:az 103 (.string ⟨jo.toArray⟩) (.string ⟨jo.toArray⟩):=aa rfl (by kernel_rfl)
theorem ztl:az 104 (.string ⟨jo.toArray⟩) (.int .i64 10):=aa rfl (by kernel_rfl)
theorem ztk:az 105 (.string ⟨(mR++[32]).toArray⟩) (.string ⟨mR.toArray⟩):=aa rfl (by kernel_rfl)
theorem ztj:az 105 (.string ⟨zbq.toArray⟩) (.string ⟨#[79,116,104,101,114]⟩):=aa rfl (by kernel_rfl)
theorem zti:az 103 (.string ⟨jm.toArray⟩) (.string ⟨jm.toArray⟩):=aa rfl (by kernel_rfl)
theorem zth:az 104 (.string ⟨jm.toArray⟩) (.int .i64 7):=aa rfl (by kernel_rfl)
def zoS:List UInt8:=[73,115,32,67,109,42]
theorem ztg:az 105 (.string ⟨(zoS++[32]).toArray⟩) (.string ⟨zoS.toArray⟩):=aa rfl (by kernel_rfl)
theorem ztf:az 105 (.string ⟨zbq.toArray⟩) (.string ⟨#[79,116,104,101,114]⟩):=aa rfl (by kernel_rfl)
theorem zte:az 103 (.string ⟨jl.toArray⟩) (.string ⟨jl.toArray⟩):=aa rfl (by kernel_rfl)
theorem ztd:az 104 (.string ⟨jl.toArray⟩) (.int .i64 15):=aa rfl (by kernel_rfl)
def zoR:List UInt8:=[91,79,116,104,101,114,32,78,117,93,32,67,109,42]
theorem ztc:az 105 (.string ⟨(zoR++[32]).toArray⟩) (.string ⟨zoR.toArray⟩):=aa rfl (by kernel_rfl)
theorem ztb:az 105 (.string ⟨#[32,79,112]⟩) (.string ⟨#[79,112]⟩):=aa rfl (by kernel_rfl)
theorem zta:az 103 (.string ⟨jk.toArray⟩) (.string ⟨jk.toArray⟩):=aa rfl (by kernel_rfl)
theorem zsZ:az 104 (.string ⟨jk.toArray⟩) (.int .i64 7):=aa rfl (by kernel_rfl)
def zoQ:List UInt8:=[67,112,32,67,109,42]
theorem zsY:az 105 (.string ⟨(zoQ++[32]).toArray⟩) (.string ⟨zoQ.toArray⟩):=aa rfl (by kernel_rfl)
def zoP:List UInt8:=[91,79,116,104,101,114,32,78,117,93]
theorem zsX:az 105 (.string ⟨(32::zoP).toArray⟩) (.string ⟨zoP.toArray⟩):=aa rfl (by kernel_rfl)
theorem zsW:az 103 (.string ⟨ji.toArray⟩) (.string ⟨ji.toArray⟩):=aa rfl (by kernel_rfl)
theorem zsV:az 104 (.string ⟨ji.toArray⟩) (.int .i64 30):=aa rfl (by kernel_rfl)
def zoO:List UInt8:=[94,32,67,109,42,32,40,82,105,32,67,109,42,32,82,105,32,67,109,42,41,42,32,82,105,32,67,109,42]
theorem zsU:az 105 (.string ⟨(zoO++[32]).toArray⟩) (.string ⟨zoO.toArray⟩):=aa rfl (by kernel_rfl)
theorem zsT:az 105 (.string ⟨#[32,82,105]⟩) (.string ⟨#[82,105]⟩):=aa rfl (by kernel_rfl)
theorem zsS:az 103 (.string ⟨jh.toArray⟩) (.string ⟨jh.toArray⟩):=aa rfl (by kernel_rfl)
theorem zsR:az 104 (.string ⟨jh.toArray⟩) (.int .i64 37):=aa rfl (by kernel_rfl)
def zoN:List UInt8:=[91,94,82,105,32,67,109,93,32,67,109,42,32,40,82,105,32,67,109,42,32,82,105,32,67,109,42,41,42,32,82,105,32,67,109,42]
theorem zsQ:az 105 (.string ⟨(zoN++[32]).toArray⟩) (.string ⟨zoN.toArray⟩):=aa rfl (by kernel_rfl)
theorem zsP:az 105 (.string ⟨#[32,82,105]⟩) (.string ⟨#[82,105]⟩):=aa rfl (by kernel_rfl)
theorem zsO:az 103 (.string ⟨yb1.toArray⟩) (.string ⟨yb1.toArray⟩):=aa rfl (by kernel_rfl)
theorem zsN:az 104 (.string ⟨yb1.toArray⟩) (.int .i64 5):=aa rfl (by kernel_rfl)
theorem zsM:az 105 (.string ⟨#[114,101,115,116,32]⟩) (.string ⟨#[114,101,115,116]⟩):=aa rfl (by kernel_rfl)
theorem zsL:az 105 (.string ⟨#[]⟩) (.string ⟨#[]⟩):=aa rfl (by kernel_rfl)
theorem zsK:az 103 (.string ⟨#[]⟩) (.string ⟨#[]⟩):=aa rfl (by kernel_rfl)
set_option maxRecDepth 100000 in
theorem zpW (g nc:Nat):∀(j:Nat) (s:List UInt8),zmZ[j]? =some s->∀(B X:Nat) (vo:Option Addr) (n vc:Nat) (xs:List Value) (W:World),db B W X g nc ah vo n vc (qa.take j) xs true (sW 35 j)->Calls Tryz.prog 72 #[.pointer (some ⟨X,0,none⟩),.string ⟨s.toArray⟩] W (LnQ B W X g nc ah (qa.take (j+1)) true (sW 35 (j+1))):=fun j s hj=>match j,hj with
 | 0,hj=>by
  cases hj
  intro B X vo n vc xs W h;have hn:n<=60:=by rw[h.hn];exact sI (sH _ _) (by decide)
  exact ax B X g nc ah vo n vc _ xs true W yb0 yb0 [67,114] [76,102] 3 false zmX zmV h hn zwD zwC (by decide) (by decide) (by decide) (by decide) (show az _ (.string ((⟨yb0.toArray⟩:ByteArray).extract 0 3)) _ from(show((⟨yb0.toArray⟩:ByteArray).extract 0 3)=⟨#[67,114,32]⟩ by rfl) ▸ zwB) (show az _ (.string ((⟨yb0.toArray⟩:ByteArray).extract 4 7)) _ from(show((⟨yb0.toArray⟩:ByteArray).extract 4 7)=⟨#[32,76,102]⟩ by rfl) ▸ zwA) (by decide) (by decide) (by decide) (fun W hN=>zfM g nc W hN) (fun W hN=>zfL g nc W hN)
 | 1,hj=>by
  cases hj
  intro B X vo n vc xs W h;have hn:n<=60:=by rw[h.hn];exact sI (sH _ _) (by decide)
  exact ax B X g nc ah vo n vc _ xs true W qj qj yb2 [] 11 true zmJ bU h hn zwz zwy (by decide) (by decide) (by decide) (by decide) (show az _ (.string ((⟨qj.toArray⟩:ByteArray).extract 0 11)) _ from(show((⟨qj.toArray⟩:ByteArray).extract 0 11)=⟨(yb2++[32]).toArray⟩ by rfl) ▸ zwx) (show az _ (.string ((⟨qj.toArray⟩:ByteArray).extract 12 12)) _ from(show((⟨qj.toArray⟩:ByteArray).extract 12 12)=⟨#[]⟩ by rfl) ▸ zww) (by decide) (by decide) (by decide) (fun W hN=>zfK g nc W hN) (fun W hN=>aZ g nc W hN)
 | 2,hj=>by
  cases hj
  intro B X vo n vc xs W h;have hn:n<=60:=by rw[h.hn];exact sI (sH _ _) (by decide)
  exact ax B X g nc ah vo n vc _ xs true W qi qi [] yb3 0 false bU zmm h hn zwv zwu (by decide) (by decide) (by decide) (by decide) (show az _ (.string ((⟨qi.toArray⟩:ByteArray).extract 0 0)) _ from(show((⟨qi.toArray⟩:ByteArray).extract 0 0)=⟨#[]⟩ by rfl) ▸ zwt) (show az _ (.string ((⟨qi.toArray⟩:ByteArray).extract 1 18)) _ from(show((⟨qi.toArray⟩:ByteArray).extract 1 18)=⟨(32::yb3).toArray⟩ by rfl) ▸ zws) (by decide) (by decide) (by decide) (fun W hN=>aZ g nc W hN) (fun W hN=>zfJ g nc W hN)
 | 3,hj=>by
  cases hj
  intro B X vo n vc xs W h;have hn:n<=60:=by rw[h.hn];exact sI (sH _ _) (by decide)
  exact ax B X g nc ah vo n vc _ xs true W qh qh yb4 [] 7 true zmb bU h hn zwr zwq (by decide) (by decide) (by decide) (by decide) (show az _ (.string ((⟨qh.toArray⟩:ByteArray).extract 0 7)) _ from(show((⟨qh.toArray⟩:ByteArray).extract 0 7)=⟨(yb4++[32]).toArray⟩ by rfl) ▸ zwp) (show az _ (.string ((⟨qh.toArray⟩:ByteArray).extract 8 8)) _ from(show((⟨qh.toArray⟩:ByteArray).extract 8 8)=⟨#[]⟩ by rfl) ▸ zwo) (by decide) (by decide) (by decide) (fun W hN=>zfI g nc W hN) (fun W hN=>aZ g nc W hN)
 | 4,hj=>by
  cases hj
  intro B X vo n vc xs W h;have hn:n<=60:=by rw[h.hn];exact sI (sH _ _) (by decide)
  exact ax B X g nc ah vo n vc _ xs true W qg qg yb5 [67,109] 18 false zlZ zlX h hn zwn zwm (by decide) (by decide) (by decide) (by decide) (show az _ (.string ((⟨qg.toArray⟩:ByteArray).extract 0 18)) _ from(show((⟨qg.toArray⟩:ByteArray).extract 0 18)=⟨(yb5++[32]).toArray⟩ by rfl) ▸ zwl) (show az _ (.string ((⟨qg.toArray⟩:ByteArray).extract 19 22)) _ from(show((⟨qg.toArray⟩:ByteArray).extract 19 22)=⟨#[32,67,109]⟩ by rfl) ▸ zwk) (by decide) (by decide) (by decide) (fun W hN=>zfH g nc W hN) (fun W hN=>zfG g nc W hN)
 | 5,hj=>by
  cases hj
  intro B X vo n vc xs W h;have hn:n<=60:=by rw[h.hn];exact sI (sH _ _) (by decide)
  exact ax B X g nc ah vo n vc _ xs true W [126,32,87,106] [126,32,87,106] [] [87,106] 0 false bU zlV h hn zwj zwi (by decide) (by decide) (by decide) (by decide) (show az _ (.string ((⟨#[126,32,87,106]⟩:ByteArray).extract 0 0)) _ from(show((⟨#[126,32,87,106]⟩:ByteArray).extract 0 0)=⟨#[]⟩ by rfl) ▸ zwh) (show az _ (.string ((⟨#[126,32,87,106]⟩:ByteArray).extract 1 4)) _ from(show((⟨#[126,32,87,106]⟩:ByteArray).extract 1 4)=⟨#[32,87,106]⟩ by rfl) ▸ zwg) (by decide) (by decide) (by decide) (fun W hN=>aZ g nc W hN) (fun W hN=>zfF g nc W hN)
 | 6,hj=>by
  cases hj
  intro B X vo n vc xs W h;have hn:n<=60:=by rw[h.hn];exact sI (sH _ _) (by decide)
  exact ax B X g nc ah vo n vc _ xs true W qf qf yb6 [] 7 false zlT bU h hn zwf zwe (by decide) (by decide) (by decide) (by decide) (show az _ (.string ((⟨qf.toArray⟩:ByteArray).extract 0 7)) _ from(show((⟨qf.toArray⟩:ByteArray).extract 0 7)=⟨(yb6++[32]).toArray⟩ by rfl) ▸ zwd) (show az _ (.string ((⟨qf.toArray⟩:ByteArray).extract 8 8)) _ from(show((⟨qf.toArray⟩:ByteArray).extract 8 8)=⟨#[]⟩ by rfl) ▸ zwc) (by decide) (by decide) (by decide) (fun W hN=>zfE g nc W hN) (fun W hN=>aZ g nc W hN)
 | 7,hj=>by
  cases hj
  intro B X vo n vc xs W h;have hn:n<=60:=by rw[h.hn];exact sI (sH _ _) (by decide)
  exact ax B X g nc ah vo n vc _ xs true W qe qe yb7 [] 7 false zdL bU h hn zwb zwa (by decide) (by decide) (by decide) (by decide) (show az _ (.string ((⟨qe.toArray⟩:ByteArray).extract 0 7)) _ from(show((⟨qe.toArray⟩:ByteArray).extract 0 7)=⟨(yb7++[32]).toArray⟩ by rfl) ▸ zvZ) (show az _ (.string ((⟨qe.toArray⟩:ByteArray).extract 8 8)) _ from(show((⟨qe.toArray⟩:ByteArray).extract 8 8)=⟨#[]⟩ by rfl) ▸ zvY) (by decide) (by decide) (by decide) (fun W hN=>zdK g nc W hN) (fun W hN=>aZ g nc W hN)
 | 8,hj=>by
  cases hj
  intro B X vo n vc xs W h;have hn:n<=60:=by rw[h.hn];exact sI (sH _ _) (by decide)
  exact ax B X g nc ah vo n vc _ xs true W qd qd yb8 [71,108] 19 false zdJ mI h hn zvX zvW (by decide) (by decide) (by decide) (by decide) (show az _ (.string ((⟨qd.toArray⟩:ByteArray).extract 0 19)) _ from(show((⟨qd.toArray⟩:ByteArray).extract 0 19)=⟨(yb8++[32]).toArray⟩ by rfl) ▸ zvV) (show az _ (.string ((⟨qd.toArray⟩:ByteArray).extract 20 23)) _ from(show((⟨qd.toArray⟩:ByteArray).extract 20 23)=⟨#[32,71,108]⟩ by rfl) ▸ zvU) (by decide) (by decide) (by decide) (fun W hN=>zdI g nc W hN) (fun W hN=>mH g nc W hN)
 | 9,hj=>by
  cases hj
  intro B X vo n vc xs W h;have hn:n<=60:=by rw[h.hn];exact sI (sH _ _) (by decide)
  exact oZ B X g nc ah vo n vc _ xs true W qb qb yb9 [71,108] 9 false mG mI h hn zvT zvS (by decide) (by decide) (by decide) (by decide) (show az _ (.string ((⟨qb.toArray⟩:ByteArray).extract 0 9)) _ from(show((⟨qb.toArray⟩:ByteArray).extract 0 9)=⟨(yb9++[32]).toArray⟩ by rfl) ▸ zvR) (show az _ (.string ((⟨qb.toArray⟩:ByteArray).extract 10 13)) _ from(show((⟨qb.toArray⟩:ByteArray).extract 10 13)=⟨#[32,71,108]⟩ by rfl) ▸ zvQ) (by decide) (by decide) (by decide) (by decide) (fun W hN=>zdH g nc W hN) (fun W hN=>mH g nc W hN)
 | 10,hj=>by
  cases hj
  intro B X vo n vc xs W h;have hn:n<=60:=by rw[h.hn];exact sI (sH _ _) (by decide)
  exact ax B X g nc ah vo n vc _ xs true W jF jF [] zpj 0 false bU zdG h hn zuK zuJ (by decide) (by decide) (by decide) (by decide) (show az _ (.string ((⟨jF.toArray⟩:ByteArray).extract 0 0)) _ from(show((⟨jF.toArray⟩:ByteArray).extract 0 0)=⟨#[]⟩ by rfl) ▸ zuI) (show az _ (.string ((⟨jF.toArray⟩:ByteArray).extract 1 18)) _ from(show((⟨jF.toArray⟩:ByteArray).extract 1 18)=⟨(32::zpj).toArray⟩ by rfl) ▸ zuH) (by decide) (by decide) (by decide) (fun W hN=>aZ g nc W hN) (fun W hN=>zdF g nc W hN)
 | 11,hj=>by
  cases hj
  intro B X vo n vc xs W h;have hn:n<=60:=by rw[h.hn];exact sI (sH _ _) (by decide)
  exact ax B X g nc ah vo n vc _ xs true W jE jE zpi [] 11 false zdE bU h hn zuG zuF (by decide) (by decide) (by decide) (by decide) (show az _ (.string ((⟨jE.toArray⟩:ByteArray).extract 0 11)) _ from(show((⟨jE.toArray⟩:ByteArray).extract 0 11)=⟨(zpi++[32]).toArray⟩ by rfl) ▸ zuE) (show az _ (.string ((⟨jE.toArray⟩:ByteArray).extract 12 12)) _ from(show((⟨jE.toArray⟩:ByteArray).extract 12 12)=⟨#[]⟩ by rfl) ▸ zuD) (by decide) (by decide) (by decide) (fun W hN=>zdD g nc W hN) (fun W hN=>aZ g nc W hN)
 | 12,hj=>by
  cases hj
  intro B X vo n vc xs W h;have hn:n<=60:=by rw[h.hn];exact sI (sH _ _) (by decide)
  exact ax B X g nc ah vo n vc _ xs true W jD jD zph [79,112] 11 false zdC mF h hn zuC zuB (by decide) (by decide) (by decide) (by decide) (show az _ (.string ((⟨jD.toArray⟩:ByteArray).extract 0 11)) _ from(show((⟨jD.toArray⟩:ByteArray).extract 0 11)=⟨(zph++[32]).toArray⟩ by rfl) ▸ zuA) (show az _ (.string ((⟨jD.toArray⟩:ByteArray).extract 12 15)) _ from(show((⟨jD.toArray⟩:ByteArray).extract 12 15)=⟨#[32,79,112]⟩ by rfl) ▸ zuz) (by decide) (by decide) (by decide) (fun W hN=>zdB g nc W hN) (fun W hN=>mE g nc W hN)
 | 13,hj=>by
  cases hj
  intro B X vo n vc xs W h;have hn:n<=60:=by rw[h.hn];exact sI (sH _ _) (by decide)
  exact ax B X g nc ah vo n vc _ xs true W jC jC zpg [78,115] 16 false zdA zdy h hn zuy zux (by decide) (by decide) (by decide) (by decide) (show az _ (.string ((⟨jC.toArray⟩:ByteArray).extract 0 16)) _ from(show((⟨jC.toArray⟩:ByteArray).extract 0 16)=⟨(zpg++[32]).toArray⟩ by rfl) ▸ zuw) (show az _ (.string ((⟨jC.toArray⟩:ByteArray).extract 17 20)) _ from(show((⟨jC.toArray⟩:ByteArray).extract 17 20)=⟨#[32,78,115]⟩ by rfl) ▸ zuv) (by decide) (by decide) (by decide) (fun W hN=>zdz g nc W hN) (fun W hN=>zdx g nc W hN)
 | 14,hj=>by
  cases hj
  intro B X vo n vc xs W h;have hn:n<=60:=by rw[h.hn];exact sI (sH _ _) (by decide)
  exact ax B X g nc ah vo n vc _ xs true W jB jB zpf [68,97,115,104] 13 false zdw zdu h hn zuu zut (by decide) (by decide) (by decide) (by decide) (show az _ (.string ((⟨jB.toArray⟩:ByteArray).extract 0 13)) _ from(show((⟨jB.toArray⟩:ByteArray).extract 0 13)=⟨(zpf++[32]).toArray⟩ by rfl) ▸ zus) (show az _ (.string ((⟨jB.toArray⟩:ByteArray).extract 14 19)) _ from(show((⟨jB.toArray⟩:ByteArray).extract 14 19)=⟨#[32,68,97,115,104]⟩ by rfl) ▸ zur) (by decide) (by decide) (by decide) (fun W hN=>zdv g nc W hN) (fun W hN=>zdt g nc W hN)
 | 15,hj=>by
  cases hj
  intro B X vo n vc xs W h;have hn:n<=60:=by rw[h.hn];exact sI (sH _ _) (by decide)
  exact ax B X g nc ah vo n vc _ xs true W [83,112,32,47] [83,112,32,47] [83,112] [] 3 true zds bU h hn zuq zup (by decide) (by decide) (by decide) (by decide) (show az _ (.string ((⟨#[83,112,32,47]⟩:ByteArray).extract 0 3)) _ from(show((⟨#[83,112,32,47]⟩:ByteArray).extract 0 3)=⟨#[83,112,32]⟩ by rfl) ▸ zuo) (show az _ (.string ((⟨#[83,112,32,47]⟩:ByteArray).extract 4 4)) _ from(show((⟨#[83,112,32,47]⟩:ByteArray).extract 4 4)=⟨#[]⟩ by rfl) ▸ zun) (by decide) (by decide) (by decide) (fun W hN=>zdr g nc W hN) (fun W hN=>aZ g nc W hN)
 | 16,hj=>by
  cases hj
  intro B X vo n vc xs W h;have hn:n<=60:=by rw[h.hn];exact sI (sH _ _) (by decide)
  exact ax B X g nc ah vo n vc _ xs true W [126,32,81,117] [126,32,81,117] [] [81,117] 0 false bU zdq h hn zum zul (by decide) (by decide) (by decide) (by decide) (show az _ (.string ((⟨#[126,32,81,117]⟩:ByteArray).extract 0 0)) _ from(show((⟨#[126,32,81,117]⟩:ByteArray).extract 0 0)=⟨#[]⟩ by rfl) ▸ zuk) (show az _ (.string ((⟨#[126,32,81,117]⟩:ByteArray).extract 1 4)) _ from(show((⟨#[126,32,81,117]⟩:ByteArray).extract 1 4)=⟨#[32,81,117]⟩ by rfl) ▸ zuj) (by decide) (by decide) (by decide) (fun W hN=>aZ g nc W hN) (fun W hN=>zdp g nc W hN)
 | 17,hj=>by
  cases hj
  intro B X vo n vc xs W h;have hn:n<=60:=by rw[h.hn];exact sI (sH _ _) (by decide)
  exact ax B X g nc ah vo n vc _ xs true W jA jA zpe [] 7 false zdo bU h hn zui zuh (by decide) (by decide) (by decide) (by decide) (show az _ (.string ((⟨jA.toArray⟩:ByteArray).extract 0 7)) _ from(show((⟨jA.toArray⟩:ByteArray).extract 0 7)=⟨(zpe++[32]).toArray⟩ by rfl) ▸ zug) (show az _ (.string ((⟨jA.toArray⟩:ByteArray).extract 8 8)) _ from(show((⟨jA.toArray⟩:ByteArray).extract 8 8)=⟨#[]⟩ by rfl) ▸ zuf) (by decide) (by decide) (by decide) (fun W hN=>zdn g nc W hN) (fun W hN=>aZ g nc W hN)
 | 18,hj=>by
  cases hj
  intro B X vo n vc xs W h;have hn:n<=60:=by rw[h.hn];exact sI (sH _ _) (by decide)
  exact ax B X g nc ah vo n vc _ xs true W jz jz [] zpd 0 false bU zdm h hn zue zud (by decide) (by decide) (by decide) (by decide) (show az _ (.string ((⟨jz.toArray⟩:ByteArray).extract 0 0)) _ from(show((⟨jz.toArray⟩:ByteArray).extract 0 0)=⟨#[]⟩ by rfl) ▸ zuc) (show az _ (.string ((⟨jz.toArray⟩:ByteArray).extract 1 12)) _ from(show((⟨jz.toArray⟩:ByteArray).extract 1 12)=⟨(32::zpd).toArray⟩ by rfl) ▸ zub) (by decide) (by decide) (by decide) (fun W hN=>aZ g nc W hN) (fun W hN=>zdl g nc W hN)
 | 19,hj=>by
  cases hj
  intro B X vo n vc xs W h;have hn:n<=60:=by rw[h.hn];exact sI (sH _ _) (by decide)
  exact ax B X g nc ah vo n vc _ xs true W [126,32,73,110] [126,32,73,110] [] [73,110] 0 false bU zdk h hn zua ztZ (by decide) (by decide) (by decide) (by decide) (show az _ (.string ((⟨#[126,32,73,110]⟩:ByteArray).extract 0 0)) _ from(show((⟨#[126,32,73,110]⟩:ByteArray).extract 0 0)=⟨#[]⟩ by rfl) ▸ ztY) (show az _ (.string ((⟨#[126,32,73,110]⟩:ByteArray).extract 1 4)) _ from(show((⟨#[126,32,73,110]⟩:ByteArray).extract 1 4)=⟨#[32,73,110]⟩ by rfl) ▸ ztX) (by decide) (by decide) (by decide) (fun W hN=>aZ g nc W hN) (fun W hN=>zdj g nc W hN)
 | 20,hj=>by
  cases hj
  intro B X vo n vc xs W h;have hn:n<=60:=by rw[h.hn];exact sI (sH _ _) (by decide)
  exact ax B X g nc ah vo n vc _ xs true W jy jy mR [78,117] 10 false ij mD h hn ztW ztV (by decide) (by decide) (by decide) (by decide) (show az _ (.string ((⟨jy.toArray⟩:ByteArray).extract 0 10)) _ from(show((⟨jy.toArray⟩:ByteArray).extract 0 10)=⟨(mR++[32]).toArray⟩ by rfl) ▸ ztU) (show az _ (.string ((⟨jy.toArray⟩:ByteArray).extract 11 14)) _ from(show((⟨jy.toArray⟩:ByteArray).extract 11 14)=⟨#[32,78,117]⟩ by rfl) ▸ ztT) (by decide) (by decide) (by decide) (fun W hN=>ig g nc W hN) (fun W hN=>mC g nc W hN)
 | 21,hj=>by
  cases hj
  intro B X vo n vc xs W h;have hn:n<=60:=by rw[h.hn];exact sI (sH _ _) (by decide)
  exact ax B X g nc ah vo n vc _ xs true W jx jx zpc [79,116,104,101,114] 7 false zdi eZ h hn ztS ztR (by decide) (by decide) (by decide) (by decide) (show az _ (.string ((⟨jx.toArray⟩:ByteArray).extract 0 7)) _ from(show((⟨jx.toArray⟩:ByteArray).extract 0 7)=⟨(zpc++[32]).toArray⟩ by rfl) ▸ ztQ) (show az _ (.string ((⟨jx.toArray⟩:ByteArray).extract 8 14)) _ from(show((⟨jx.toArray⟩:ByteArray).extract 8 14)=⟨zbq.toArray⟩ by rfl) ▸ ztP) (by decide) (by decide) (by decide) (fun W hN=>zdh g nc W hN) (fun W hN=>eY g nc W hN)
 | 22,hj=>by
  cases hj
  intro B X vo n vc xs W h;have hn:n<=60:=by rw[h.hn];exact sI (sH _ _) (by decide)
  exact ax B X g nc ah vo n vc _ xs true W jw jw zpb [73,100] 7 false zdg zde h hn ztO ztN (by decide) (by decide) (by decide) (by decide) (show az _ (.string ((⟨jw.toArray⟩:ByteArray).extract 0 7)) _ from(show((⟨jw.toArray⟩:ByteArray).extract 0 7)=⟨(zpb++[32]).toArray⟩ by rfl) ▸ ztM) (show az _ (.string ((⟨jw.toArray⟩:ByteArray).extract 8 11)) _ from(show((⟨jw.toArray⟩:ByteArray).extract 8 11)=⟨#[32,73,100]⟩ by rfl) ▸ ztL) (by decide) (by decide) (by decide) (fun W hN=>zdf g nc W hN) (fun W hN=>zdd g nc W hN)
 | 23,hj=>by
  cases hj
  intro B X vo n vc xs W h;have hn:n<=60:=by rw[h.hn];exact sI (sH _ _) (by decide)
  exact ax B X g nc ah vo n vc _ xs true W jv jv zpa [80,111] 7 false zdc zda h hn ztK ztJ (by decide) (by decide) (by decide) (by decide) (show az _ (.string ((⟨jv.toArray⟩:ByteArray).extract 0 7)) _ from(show((⟨jv.toArray⟩:ByteArray).extract 0 7)=⟨(zpa++[32]).toArray⟩ by rfl) ▸ ztI) (show az _ (.string ((⟨jv.toArray⟩:ByteArray).extract 8 11)) _ from(show((⟨jv.toArray⟩:ByteArray).extract 8 11)=⟨#[32,80,111]⟩ by rfl) ▸ ztH) (by decide) (by decide) (by decide) (fun W hN=>zdb g nc W hN) (fun W hN=>zcZ g nc W hN)
 | 24,hj=>by
  cases hj
  intro B X vo n vc xs W h;have hn:n<=60:=by rw[h.hn];exact sI (sH _ _) (by decide)
  exact ax B X g nc ah vo n vc _ xs true W ju ju zoZ [79,116,104,101,114] 12 false zcY eZ h hn ztG ztF (by decide) (by decide) (by decide) (by decide) (show az _ (.string ((⟨ju.toArray⟩:ByteArray).extract 0 12)) _ from(show((⟨ju.toArray⟩:ByteArray).extract 0 12)=⟨(zoZ++[32]).toArray⟩ by rfl) ▸ ztE) (show az _ (.string ((⟨ju.toArray⟩:ByteArray).extract 13 19)) _ from(show((⟨ju.toArray⟩:ByteArray).extract 13 19)=⟨zbq.toArray⟩ by rfl) ▸ ztD) (by decide) (by decide) (by decide) (fun W hN=>zcX g nc W hN) (fun W hN=>eY g nc W hN)
 | 25,hj=>by
  cases hj
  intro B X vo n vc xs W h;have hn:n<=60:=by rw[h.hn];exact sI (sH _ _) (by decide)
  exact ax B X g nc ah vo n vc _ xs true W jt jt mR zoY 10 false ij zcW h hn ztC ztB (by decide) (by decide) (by decide) (by decide) (show az _ (.string ((⟨jt.toArray⟩:ByteArray).extract 0 10)) _ from(show((⟨jt.toArray⟩:ByteArray).extract 0 10)=⟨(mR++[32]).toArray⟩ by rfl) ▸ ztA) (show az _ (.string ((⟨jt.toArray⟩:ByteArray).extract 11 19)) _ from(show((⟨jt.toArray⟩:ByteArray).extract 11 19)=⟨(32::zoY).toArray⟩ by rfl) ▸ ztz) (by decide) (by decide) (by decide) (fun W hN=>ig g nc W hN) (fun W hN=>zcV g nc W hN)
 | 26,hj=>by
  cases hj
  intro B X vo n vc xs W h;have hn:n<=60:=by rw[h.hn];exact sI (sH _ _) (by decide)
  exact ax B X g nc ah vo n vc _ xs true W js js zoX zoW 33 false qU zcT h hn zty ztx (by decide) (by decide) (by decide) (by decide) (show az _ (.string ((⟨js.toArray⟩:ByteArray).extract 0 33)) _ from(show((⟨js.toArray⟩:ByteArray).extract 0 33)=⟨(zoX++[32]).toArray⟩ by rfl) ▸ ztw) (show az _ (.string ((⟨js.toArray⟩:ByteArray).extract 34 42)) _ from(show((⟨js.toArray⟩:ByteArray).extract 34 42)=⟨(32::zoW).toArray⟩ by rfl) ▸ ztv) (by decide) (by decide) (by decide) (fun W hN=>zcU g nc W hN) (fun W hN=>zcS g nc W hN)
 | 27,hj=>by
  cases hj
  intro B X vo n vc xs W h;have hn:n<=60:=by rw[h.hn];exact sI (sH _ _) (by decide)
  exact ax B X g nc ah vo n vc _ xs true W jr jr zoV zoU 12 false zcR oY h hn ztu ztt (by decide) (by decide) (by decide) (by decide) (show az _ (.string ((⟨jr.toArray⟩:ByteArray).extract 0 12)) _ from(show((⟨jr.toArray⟩:ByteArray).extract 0 12)=⟨(zoV++[32]).toArray⟩ by rfl) ▸ zts) (show az _ (.string ((⟨jr.toArray⟩:ByteArray).extract 13 27)) _ from(show((⟨jr.toArray⟩:ByteArray).extract 13 27)=⟨(32::zoU).toArray⟩ by rfl) ▸ ztr) (by decide) (by decide) (by decide) (fun W hN=>zcQ g nc W hN) (fun W hN=>zcP g nc W hN)
 | 28,hj=>by
  cases hj
  intro B X vo n vc xs W h;have hn:n<=60:=by rw[h.hn];exact sI (sH _ _) (by decide)
  exact ax B X g nc ah vo n vc _ xs true W jq jq zoT [78,117] 18 false zcO mD h hn ztq ztp (by decide) (by decide) (by decide) (by decide) (show az _ (.string ((⟨jq.toArray⟩:ByteArray).extract 0 18)) _ from(show((⟨jq.toArray⟩:ByteArray).extract 0 18)=⟨(zoT++[32]).toArray⟩ by rfl) ▸ zto) (show az _ (.string ((⟨jq.toArray⟩:ByteArray).extract 19 22)) _ from(show((⟨jq.toArray⟩:ByteArray).extract 19 22)=⟨#[32,78,117]⟩ by rfl) ▸ ztn) (by decide) (by decide) (by decide) (fun W hN=>zcN g nc W hN) (fun W hN=>mC g nc W hN)
 | 29,hj=>by
  cases hj
  intro B X vo n vc xs W h;have hn:n<=60:=by rw[h.hn];exact sI (sH _ _) (by decide)
  exact ax B X g nc ah vo n vc _ xs true W jo jo mR [79,116,104,101,114] 10 false ij eZ h hn ztm ztl (by decide) (by decide) (by decide) (by decide) (show az _ (.string ((⟨jo.toArray⟩:ByteArray).extract 0 10)) _ from(show((⟨jo.toArray⟩:ByteArray).extract 0 10)=⟨(mR++[32]).toArray⟩ by rfl) ▸ ztk) (show az _ (.string ((⟨jo.toArray⟩:ByteArray).extract 11 17)) _ from(show((⟨jo.toArray⟩:ByteArray).extract 11 17)=⟨zbq.toArray⟩ by rfl) ▸ ztj) (by decide) (by decide) (by decide) (fun W hN=>ig g nc W hN) (fun W hN=>eY g nc W hN)
 | 30,hj=>by
  cases hj
  intro B X vo n vc xs W h;have hn:n<=60:=by rw[h.hn];exact sI (sH _ _) (by decide)
  exact ax B X g nc ah vo n vc _ xs true W jm jm zoS [79,116,104,101,114] 7 false zcM eZ h hn zti zth (by decide) (by decide) (by decide) (by decide) (show az _ (.string ((⟨jm.toArray⟩:ByteArray).extract 0 7)) _ from(show((⟨jm.toArray⟩:ByteArray).extract 0 7)=⟨(zoS++[32]).toArray⟩ by rfl) ▸ ztg) (show az _ (.string ((⟨jm.toArray⟩:ByteArray).extract 8 14)) _ from(show((⟨jm.toArray⟩:ByteArray).extract 8 14)=⟨zbq.toArray⟩ by rfl) ▸ ztf) (by decide) (by decide) (by decide) (fun W hN=>zcL g nc W hN) (fun W hN=>eY g nc W hN)
 | 31,hj=>by
  cases hj
  intro B X vo n vc xs W h;have hn:n<=60:=by rw[h.hn];exact sI (sH _ _) (by decide)
  exact ax B X g nc ah vo n vc _ xs true W jl jl zoR [79,112] 15 false zcK mF h hn zte ztd (by decide) (by decide) (by decide) (by decide) (show az _ (.string ((⟨jl.toArray⟩:ByteArray).extract 0 15)) _ from(show((⟨jl.toArray⟩:ByteArray).extract 0 15)=⟨(zoR++[32]).toArray⟩ by rfl) ▸ ztc) (show az _ (.string ((⟨jl.toArray⟩:ByteArray).extract 16 19)) _ from(show((⟨jl.toArray⟩:ByteArray).extract 16 19)=⟨#[32,79,112]⟩ by rfl) ▸ ztb) (by decide) (by decide) (by decide) (fun W hN=>zcJ g nc W hN) (fun W hN=>mE g nc W hN)
 | 32,hj=>by
  cases hj
  intro B X vo n vc xs W h;have hn:n<=60:=by rw[h.hn];exact sI (sH _ _) (by decide)
  exact ax B X g nc ah vo n vc _ xs true W jk jk zoQ zoP 7 false zcI zcG h hn zta zsZ (by decide) (by decide) (by decide) (by decide) (show az _ (.string ((⟨jk.toArray⟩:ByteArray).extract 0 7)) _ from(show((⟨jk.toArray⟩:ByteArray).extract 0 7)=⟨(zoQ++[32]).toArray⟩ by rfl) ▸ zsY) (show az _ (.string ((⟨jk.toArray⟩:ByteArray).extract 8 19)) _ from(show((⟨jk.toArray⟩:ByteArray).extract 8 19)=⟨(32::zoP).toArray⟩ by rfl) ▸ zsX) (by decide) (by decide) (by decide) (fun W hN=>zcH g nc W hN) (fun W hN=>zcF g nc W hN)
 | 33,hj=>by
  cases hj
  intro B X vo n vc xs W h;have hn:n<=60:=by rw[h.hn];exact sI (sH _ _) (by decide)
  exact oZ B X g nc ah vo n vc _ xs true W ji ji zoO [82,105] 30 false qT mB h hn zsW zsV (by decide) (by decide) (by decide) (by decide) (show az _ (.string ((⟨ji.toArray⟩:ByteArray).extract 0 30)) _ from(show((⟨ji.toArray⟩:ByteArray).extract 0 30)=⟨(zoO++[32]).toArray⟩ by rfl) ▸ zsU) (show az _ (.string ((⟨ji.toArray⟩:ByteArray).extract 31 34)) _ from(show((⟨ji.toArray⟩:ByteArray).extract 31 34)=⟨#[32,82,105]⟩ by rfl) ▸ zsT) (by decide) (by decide) (by decide) (by decide) (fun W hN=>zcE g nc W hN) (fun W hN=>mA g nc W hN)
 | 34,hj=>by
  cases hj
  intro B X vo n vc xs W h;have hn:n<=60:=by rw[h.hn];exact sI (sH _ _) (by decide)
  exact ax B X g nc ah vo n vc _ xs true W jh jh zoN [82,105] 37 false oX mB h hn zsS zsR (by decide) (by decide) (by decide) (by decide) (show az _ (.string ((⟨jh.toArray⟩:ByteArray).extract 0 37)) _ from(show((⟨jh.toArray⟩:ByteArray).extract 0 37)=⟨(zoN++[32]).toArray⟩ by rfl) ▸ zsQ) (show az _ (.string ((⟨jh.toArray⟩:ByteArray).extract 38 41)) _ from(show((⟨jh.toArray⟩:ByteArray).extract 38 41)=⟨#[32,82,105]⟩ by rfl) ▸ zsP) (by decide) (by decide) (by decide) (fun W hN=>zcD g nc W hN) (fun W hN=>mA g nc W hN)
 | 35,hj=>by
  cases hj
  intro B X vo n vc xs W h;exact zjG B X g nc ah vo n vc _ xs true W yb1 yb1 5 true h zsO zsN (by decide) (by decide) (by decide) (show az _ (.string ((⟨yb1.toArray⟩:ByteArray).extract 0 5)) _ from(show((⟨yb1.toArray⟩:ByteArray).extract 0 5)=⟨#[114,101,115,116,32]⟩ by rfl) ▸ zsM) (show az _ (.string ((⟨yb1.toArray⟩:ByteArray).extract 6 6)) _ from(show((⟨yb1.toArray⟩:ByteArray).extract 6 6)=⟨#[]⟩ by rfl) ▸ zsL)
 | 36,hj=>by
  cases hj
  exact fun B X vo n vc xs W h=>zfO B X g nc ah vo n vc _ xs _ _ W [] h zsK
 | j+37,hj=>by
  have:=(sJ.1 hj).1;exact absurd this (by simp[zmZ])
theorem zlR (g nc:Nat) (w:World) (hN:aM w g nc ah):Calls Tryz.prog 45 #[.string ⟨zpX.toArray⟩,.slice (some ⟨g,0,none⟩) 26 nc] w (PrQ g w qa true):=by
 have h:=zfi zpX (sS (by kernel_rfl)) ah g nc zmZ (fun j=>qa.take j) (fun j=>true) (fun j=>(sW 35 j)) w hN (by decide) rfl rfl rfl (fun W hW=>zlI (iw dJ (fun _ hc=>fK mixed dJ hc) 60) ai zdM g nc W hW) (fun W=>zjF zpX zmZ zmY (sS (by kernel_rfl)) W) (zpW g nc)
 exact h
end Pt
end
end Go.Proofs.YtbbapnpdfcgjnaaGreatDoor
