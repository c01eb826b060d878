/- DcNm, PtLns, PtLiPs: parts of the proof, joined. -/
import Derived.Test.YtbbapnpdfcgjnaaGreatDoorETxMath
import Derived.Test.YtbbapnpdfcgjnaaGreatDoorEPtEv
open List renaming length_take_le->sR, getElem?_eq_some_iff->sT, length_append->sU, drop_eq_getElem_cons->sV, getElem?_map->sW, getElem?_eq_getElem->sY, length_cons->ta, drop_of_length_le->tc, length_take->tf
open Nat renaming le_trans->sS, le_of_ble_eq_true->td, le_refl->te, mul_one->tg, blt->ti
open Go renaming wpList_append_own->sX
set_option maxHeartbeats 64000000
namespace Go.Proofs.YtbbapnpdfcgjnaaGreatDoor
namespace Dc
open Go.RowKit
theorem Tryz.info9:(Tryz.prog.info? 9).map (fun i=>(i.zero,i.size,i.bytes))=some (some (.string ⟨#[]⟩),1,16):=by kernel_rfl
def fa(U:List (List UInt8)):List Value:=U.map fun b=>.string ⟨b.toArray⟩
set_option maxRecDepth 100000 in
theorem zgB(U:List (List UInt8))(A:List Tr)(Q:Nat)(w:World)(h:Bk U A Q w)(h0:0<U.length)(h9:U.length<=1000):
  Calls Tryz.prog 46 #[.pointer (some ⟨Q,0,none⟩)] w fun e w'=>∃g nc,e=.returned (.slice (some ⟨g,0,none⟩) U.length nc)/\Pt.aP w' g nc (fa U)/\w.heap.size<=g/\Below w.heap.size w w':=by
 obtain⟨i0,hi,hz0,hz1,hz2⟩:=info_parts Tryz.info9;obtain⟨a,ac,z0,_⟩:=h.names 0 U[0] (sY h0);have hz:∀(j:Nat)(u:Value),(fa U)[j]?=some u->w.cell? (a.add j)=some u:=fun j u hj=>by
  unfold fa at hj;rw[sW]at hj
  cases hb:U[j]? with
  |none=>rw[hb]at hj;cases hj
  |some b=>
   rw[hb]at hj
   cases hj
   obtain⟨a2,ac2,y0,y1⟩:=h.names j b hb;rw[z0]at y0
   cases y0
   exact y1
 have hab:a.block<w.heap.size:=World.block_lt_of_cell? w _ (hz 0 _ (show(fa U)[0]?=some (.string ⟨(U[0]).toArray⟩) by unfold fa;rw[sW,sY h0];rfl)) |> fun e=>by rwa [Pt.add_blk]at e
 have HZ:=aa (fun(o:Obj)=>fun(j:Nat)(u:Value)(hj:(fa U)[j]?=some u)=>(Pt.below_box (w:=w) (o:=o)).cell (p:=a.add j) (by rw[Pt.add_blk];exact hab) |>.trans (hz j u hj))
 have HL:ae ((fa U).length=U.length):=aa (by simp[fa])
 have h1:∀u∈fa U,u.oneCell'=true:=fun u hu=>by
  obtain⟨b,_,rfl⟩:=List.mem_map.1 hu
  rfl
 have H1:=aa h1;obtain⟨N,hN⟩:=am U.length;rw[<- hN]at z0 h0 h9 HL;have HN:=aa hN;clear hz h1 h hN;have hQ:Q<w.heap.size:=World.block_lt_of_cell? w _ z0;have z1:(w.alloc (.cells #[] 9)).cell? ⟨Q,0,none⟩=some (.slice (some a) N ac):=((Pt.below_box (w:=w) (o:=.cells #[] 9)).cell (p:=⟨Q,0,none⟩) hQ).trans z0;rw[<- HN.o];go_enter Tryz.func46,Tryz.ntmps46;go_wp2_with (at_builtin;refine sX _ rfl _ _ 66 rfl w.heap.size 9 i0 (.string ⟨#[]⟩) 1 16 Tryz.underlying66 hi hz0 hz1 hz2 rfl (by decide) _ 0 [] rfl (World.ownsRow_lit w #[] 0 (te _) (by decide) (by simp)) a N ac (fa U) rfl (by rw[HL.o,tg]) (HZ.o _) H1.o (by unfold maxLen;omega) (by omega) (by simp) ?_)
 intro v' w2 hown hgrow _;have hB2:Below w.heap.size w w2:=(Pt.below_box (w:=w) (o:=.cells #[] 9)).grown hgrow (by simp) (fun k hk=>by
  have:w.heap.size=k:=by simpa[Value.ownBlock]using hk
  omega)
 have HB2:=aa hB2;have HO:=aa hown;clear hown hgrow hB2;go_wp2;go_ret;obtain⟨e1,h2⟩:=HO.o
 rcases h2 with ⟨_,e2⟩|⟨g,cap,cur,rfl,k1,k2,k3,_,k5,k6⟩
 ·omega
 ·exact⟨g,cap,rfl,⟨cur,k2,by rw[k5,tg],by rw[HL.o];exact k3,by rw[HL.o];rw[tg]at k6;exact k6⟩,k1,HB2.o⟩
end Dc
namespace Pt
open Go.RowKit
def fb(p:List UInt8):List UInt8->List (List UInt8)
 |[]=>[p]
 |c::r=>if c=10 then p::fb [] r else fb (p++[c]) r
theorem zeG(l:List UInt8)(f t:Nat):(⟨l.toArray⟩:ByteArray).extract f t=⟨((l.take t).drop f).toArray⟩:=by
 apply ByteArray.ext
 simp[ByteArray.data_extract,List.drop_take]
theorem zpZ(l:List UInt8)(p:List UInt8)(i:Nat)(hi:i<l.length)(h:l[i]=10):fb p (l.drop i)=p::fb [] (l.drop (i+1)):=by
 rw[sV hi]
 conv=>lhs;unfold fb
 rw[if_pos h]
theorem zsE(l:List UInt8)(p:List UInt8)(i:Nat)(hi:i<l.length)(h:l[i]≠10):fb p (l.drop i)=fb (p++[l[i]]) (l.drop (i+1)):=by
 rw[sV hi]
 conv=>lhs;unfold fb
 rw[if_neg h]
theorem oL:∀(r p:List UInt8),(fb p r).length<=r.length+1
 |[],p=>te _
 |c::r,p=>by
  unfold fb
  split
  ·have:=oL r []
   rw[ta,ta];omega
  ·have:=oL r (p++[c])
   rw[ta];omega
theorem qS(xs:List (List UInt8))(p:List UInt8):Dc.fa (xs++[p])=Dc.fa xs++[.string ⟨p.toArray⟩]:=by simp[Dc.fa]
set_option maxRecDepth 100000 in
theorem zlD(l:List UInt8)(w:World)(hl:l.length<=100000):
  Calls Tryz.prog 71 #[.string ⟨l.toArray⟩] w fun e w'=>∃v,e=.returned v/\w'.ownsRow w.heap.size 9 1 v (fb [] l).length (Dc.fa (fb [] l))/\Below w.heap.size w w':=by
 obtain⟨i0,hi,hz0,hz1,hz2⟩:=info_parts Dc.Tryz.info9;have HSZ:ae ((⟨l.toArray⟩:ByteArray).size=l.length):=aa (by show l.toArray.size=_;simp)
 have HLN:=aa (oL l []);go_enter Tryz.func71,Tryz.ntmps71;go_wp2;go_loopw [3,4,5] (fun v fv iv wr=>∃(f i:Nat)(xs:List (List UInt8)),fv=.int .i64 f/\iv=.int .i64 i/\f<=i/\i<=l.length/\ae (fb [] l=xs++fb ((l.take i).drop f) (l.drop i))/\ae (wr.ownsRow w.heap.size 9 1 v xs.length (Dc.fa xs))/\ae (Below w.heap.size w wr)) (fun _ _ iv _=>l.length-(intOf iv).toNat)
 case atStart=>exact⟨0,0,[],rfl,rfl,te _,Nat.zero_le _,by simp[ae],World.ownsRow_nil _ _ _ _,Below.refl _ _⟩
 case round=>
  obtain⟨f,i,xs,rfl,rfl,hfi,hil,HP,HO,HB⟩:=hrel
  by_cases hlt:i<l.length
  ·have h1:(i:Int)<(l.length:Int):=by omega
   have h0:(0:Int)<=(i:Int):=by omega
   have hxl:xs.length<=100001:=by
    have h5:=HLN.o;rw[HP.o,sU]at h5;omega
   have hbs:=HB.o.size;have hf0:(0:Int)<=(f:Int):=by omega
   have hfi2:(f:Int)<=(i:Int):=by omega
   have hil2:(i:Int)<=(l.length:Int):=by omega
   have hw9:IntKind.i64.wrap ((i:Int)+1)=(i:Int)+1:=by rw[IntKind.wrap_i64];omega
   by_cases hc:l[i]=10
   ·obtain⟨p,hp⟩:=am ((l.take i).drop f)
    have HE:ae ((⟨l.toArray⟩:ByteArray).extract f i=⟨p.toArray⟩):=aa (by rw[zeG,hp])
    have HP2:=aa (show fb [] l=(xs++[p])++fb ((l.take (i+1)).drop (i+1)) (l.drop (i+1)) by
     rw[HP.o,zpZ l _ i hlt hc,<- hp,List.append_assoc,show(l.take (i+1)).drop (i+1)=[]from tc (by rw[tf];omega)];rfl)
    have hgi:(⟨l.toArray⟩:ByteArray)[i]'(by rw[HSZ.o];exact hlt)=l[i]:=rfl
    have hn3:l[i].toNat=10:=by rw[hc];rfl
    have hn2:(l[i].toNat:Int)=10:=by omega
    clear hp HP;go_wp2_with (at_builtin;refine sX _ rfl _ _ 66 rfl w.heap.size 9 i0 (.string ⟨#[]⟩) 1 16 Tryz.underlying66 hi hz0 hz1 hz2 rfl (by decide) _ xs.length (Dc.fa xs) rfl (HO.o.alloc _) ⟨wr.heap.size,0,none⟩ 1 1 [.string ((⟨l.toArray⟩:ByteArray).extract f i)] rfl rfl (Dc.zfO wr (.string ((⟨l.toArray⟩:ByteArray).extract f i)) 9) (Dc.zfn _) (by unfold maxLen;omega) (by omega) (by simp;omega) ?_;intro v2 w2 o2 gr2 _;have HO2:ae (w2.ownsRow w.heap.size 9 1 v2 (xs++[p]).length (Dc.fa (xs++[p]))):=aa (by rw[qS,sU,<- HE.o];exact o2);have HB2:=aa ((HB.o.alloc HB.o.size (.cells #[.string ((⟨l.toArray⟩:ByteArray).extract f i)] 9)).grown gr2 (by simp;omega) (fun j hj=>(HO.o.lt j hj).1));clear o2 gr2)
    go_roundw
    case rel=>exact⟨i+1,i+1,xs++[p],by go_num,by go_num,te _,hlt,HP2,HO2,HB2⟩
    case measure=>simp[intOf];omega
   ·have HP2:=aa (show fb [] l=xs++fb ((l.take (i+1)).drop f) (l.drop (i+1)) by
     rw[HP.o,zsE l _ i hlt hc,List.take_succ_eq_append_getElem hlt,List.drop_append_of_le_length (by rw[tf];omega)])
    have hgi:(⟨l.toArray⟩:ByteArray)[i]'(by rw[HSZ.o];exact hlt)=l[i]:=rfl
    have hn3:¬l[i].toNat=10:=fun h=>hc (UInt8.toNat_inj.1 (by rw[h];rfl))
    have hn2:¬(l[i].toNat:Int)=10:=by omega
    have hn1:(l[i].toNat==10)=false:=beq_eq_false_iff_ne.2 hn3;have hn0:((l[i].toNat:Int)==10)=false:=beq_eq_false_iff_ne.2 hn2;clear HP;go_wp2;go_roundw
    case rel=>exact⟨f,i+1,xs,rfl,by go_num,by omega,hlt,HP2,HO,HB⟩
    case measure=>simp[intOf];omega
  ·have h1:¬(i:Int)<(l.length:Int):=by omega
   have hie:i=l.length:=by omega
   have hxl:xs.length<=100001:=by
    have h5:=HLN.o;rw[HP.o,sU]at h5;omega
   have hbs:=HB.o.size;have hf0:(0:Int)<=(f:Int):=by omega
   have hfl:(f:Int)<=(l.length:Int):=by omega
   obtain⟨p,hp⟩:=am ((l.take i).drop f);have HE:ae ((⟨l.toArray⟩:ByteArray).extract f l.length=⟨p.toArray⟩):=aa (by rw[zeG,hp,hie])
   have HP2:=aa (show fb [] l=xs++[p] by
    rw[HP.o,<- hp,tc (by omega)];rfl)
   clear hp HP hie;go_wp2_with (at_builtin;refine sX _ rfl _ _ 66 rfl w.heap.size 9 i0 (.string ⟨#[]⟩) 1 16 Tryz.underlying66 hi hz0 hz1 hz2 rfl (by decide) _ xs.length (Dc.fa xs) rfl (HO.o.alloc _) ⟨wr.heap.size,0,none⟩ 1 1 [.string ((⟨l.toArray⟩:ByteArray).extract f l.length)] rfl rfl (Dc.zfO wr (.string ((⟨l.toArray⟩:ByteArray).extract f l.length)) 9) (Dc.zfn _) (by unfold maxLen;omega) (by omega) (by simp;omega) ?_;intro v2 w2 o2 gr2 _;have HO2:ae (w2.ownsRow w.heap.size 9 1 v2 (xs++[p]).length (Dc.fa (xs++[p]))):=aa (by rw[qS,sU,<- HE.o];exact o2);have HB2:=aa ((HB.o.alloc HB.o.size (.cells #[.string ((⟨l.toArray⟩:ByteArray).extract f l.length)] 9)).grown gr2 (by simp;omega) (fun j hj=>(HO.o.lt j hj).1));clear o2 gr2)
   go_ret;exact⟨_,rfl,by rw[HP2.o];exact HO2.o,HB2.o⟩
theorem zke(l:List UInt8)(ls:List (List UInt8))(hs:fb [] l=ls)(hl:l.length<=100000)(w:World):
  Calls Tryz.prog 71 #[.string ⟨l.toArray⟩] w fun e w'=>∃vo vc,e=.returned (.slice vo ls.length vc)/\zpq w.heap.size w' vo ls/\Below w.heap.size w w':=by
 subst hs;refine(zlD l w hl).mono ?_;rintro e w' ⟨v,rfl,hO,hB⟩
 rcases hO.2 with ⟨e1,h0⟩|⟨q,cap,cur,e1,hb,hg,_,_,_,htk⟩
 ·exact⟨none,0,by rw[e1,h0],fun j s hj=>by
   have:=(sT.1 hj).1;omega,hB⟩
 ·refine⟨some ⟨q,0,none⟩,cap,by rw[e1],fun j s hj=>?_,hB⟩
  have hjl:=(sT.1 hj).1;refine⟨q,0,cur,_,rfl,hb,hg,?_⟩;have h1:(Dc.fa (fb [] l))[j]?=some (.string ⟨s.toArray⟩):=by
   unfold Dc.fa;rw[sW,hj];rfl
  rw[<- htk,List.getElem?_take_of_lt (by omega)]at h1
  rw[Nat.zero_add]
  simpa using h1
end Pt
section
open Ev Go.RowKit
namespace Pt
def zqF:List UInt8:=[67,114,32,126,32,76,102,10,91,66,107,32,67,114,32,76,102,93,32,47,10,126,32,91,66,107,32,67,114,32,76,102,32,83,112,32,90,119,93,10,90,119,32,83,112,42,32,47,10,91,94,66,107,32,67,114,32,76,102,32,83,112,32,90,119,93,32,126,32,67,109,10,126,32,87,106,10,87,106,32,67,109,42,32,126,10,71,108,32,67,109,42,32,126,10,91,94,83,112,32,66,97,32,72,121,32,67,109,93,32,67,109,42,32,126,32,71,108,10,94,32,67,109,32,67,109,42,32,126,32,71,108,10,126,32,91,67,108,32,67,112,32,69,120,32,73,115,32,83,121,93,10,79,112,32,67,109,42,32,83,112,42,32,126,10,81,117,32,67,109,42,32,83,112,42,32,126,32,79,112,10,91,67,108,32,67,112,93,32,67,109,42,32,83,112,42,32,126,32,78,115,10,68,97,115,104,32,67,109,42,32,83,112,42,32,126,32,68,97,115,104,10,83,112,32,47,10,126,32,81,117,10,81,117,32,67,109,42,32,126,10,126,32,91,66,97,32,72,121,32,78,115,93,10,126,32,73,110,10,79,116,104,101,114,32,67,109,42,32,126,32,78,117,10,78,117,32,67,109,42,32,126,32,79,116,104,101,114,10,80,114,32,67,109,42,32,126,32,73,100,10,73,100,32,67,109,42,32,126,32,80,111,10,91,80,114,32,80,111,93,32,67,109,42,32,126,32,79,116,104,101,114,10,79,116,104,101,114,32,67,109,42,32,126,32,91,80,114,32,80,111,93,10,78,117,32,67,109,42,32,91,73,115,32,83,121,93,63,32,67,109,42,32,91,67,108,32,67,112,93,63,32,67,109,42,32,126,32,91,80,111,32,80,114,93,10,91,80,111,32,80,114,93,32,67,109,42,32,126,32,40,79,112,32,124,32,72,121,41,63,32,78,117,10,91,72,121,32,73,115,32,83,121,32,78,117,93,32,67,109,42,32,126,32,78,117,10,79,116,104,101,114,32,67,109,42,32,126,32,79,116,104,101,114,10,73,115,32,67,109,42,32,126,32,79,116,104,101,114,10,91,79,116,104,101,114,32,78,117,93,32,67,109,42,32,126,32,79,112,10,67,112,32,67,109,42,32,126,32,91,79,116,104,101,114,32,78,117,93,10,94,32,67,109,42,32,40,82,105,32,67,109,42,32,82,105,32,67,109,42,41,42,32,82,105,32,67,109,42,32,126,32,82,105,10,91,94,82,105,32,67,109,93,32,67,109,42,32,40,82,105,32,67,109,42,32,82,105,32,67,109,42,41,42,32,82,105,32,67,109,42,32,126,32,82,105,10,114,101,115,116,32,47,10]
def jG:List UInt8:=[78,117,32,67,109,42,32,91,73,115,32,83,121,93,63,32,67,109,42,32,91,67,108,32,67,112,93,63,32,67,109,42,32,126,32,91,80,111,32,80,114,93]
def jy:List UInt8:=[91,94,82,105,32,67,109,93,32,67,109,42,32,40,82,105,32,67,109,42,32,82,105,32,67,109,42,41,42,32,82,105,32,67,109,42,32,126,32,82,105]
def jz:List UInt8:=[94,32,67,109,42,32,40,82,105,32,67,109,42,32,82,105,32,67,109,42,41,42,32,82,105,32,67,109,42,32,126,32,82,105]
def jF:List UInt8:=[91,80,111,32,80,114,93,32,67,109,42,32,126,32,40,79,112,32,124,32,72,121,41,63,32,78,117]
def qF:List UInt8:=[91,94,83,112,32,66,97,32,72,121,32,67,109,93,32,67,109,42,32,126,32,71,108]
def qI:List UInt8:=[91,94,66,107,32,67,114,32,76,102,32,83,112,32,90,119,93,32,126,32,67,109]
def jE:List UInt8:=[91,72,121,32,73,115,32,83,121,32,78,117,93,32,67,109,42,32,126,32,78,117]
def jQ:List UInt8:=[91,67,108,32,67,112,93,32,67,109,42,32,83,112,42,32,126,32,78,115]
def jI:List UInt8:=[91,80,114,32,80,111,93,32,67,109,42,32,126,32,79,116,104,101,114]
def jH:List UInt8:=[79,116,104,101,114,32,67,109,42,32,126,32,91,80,114,32,80,111,93]
def jB:List UInt8:=[91,79,116,104,101,114,32,78,117,93,32,67,109,42,32,126,32,79,112]
def jA:List UInt8:=[67,112,32,67,109,42,32,126,32,91,79,116,104,101,114,32,78,117,93]
def jP:List UInt8:=[68,97,115,104,32,67,109,42,32,83,112,42,32,126,32,68,97,115,104]
def qK:List UInt8:=[126,32,91,66,107,32,67,114,32,76,102,32,83,112,32,90,119,93]
def jT:List UInt8:=[126,32,91,67,108,32,67,112,32,69,120,32,73,115,32,83,121,93]
def jD:List UInt8:=[79,116,104,101,114,32,67,109,42,32,126,32,79,116,104,101,114]
def jR:List UInt8:=[81,117,32,67,109,42,32,83,112,42,32,126,32,79,112]
def jM:List UInt8:=[79,116,104,101,114,32,67,109,42,32,126,32,78,117]
def jL:List UInt8:=[78,117,32,67,109,42,32,126,32,79,116,104,101,114]
def jC:List UInt8:=[73,115,32,67,109,42,32,126,32,79,116,104,101,114]
def qE:List UInt8:=[94,32,67,109,32,67,109,42,32,126,32,71,108]
def jS:List UInt8:=[79,112,32,67,109,42,32,83,112,42,32,126]
def qL:List UInt8:=[91,66,107,32,67,114,32,76,102,93,32,47]
def jN:List UInt8:=[126,32,91,66,97,32,72,121,32,78,115,93]
def jK:List UInt8:=[80,114,32,67,109,42,32,126,32,73,100]
def jJ:List UInt8:=[73,100,32,67,109,42,32,126,32,80,111]
def qH:List UInt8:=[87,106,32,67,109,42,32,126]
def qG:List UInt8:=[71,108,32,67,109,42,32,126]
def jO:List UInt8:=[81,117,32,67,109,42,32,126]
def qJ:List UInt8:=[90,119,32,83,112,42,32,47]
def yb0:List UInt8:=[67,114,32,126,32,76,102]
def yb1:List UInt8:=[114,101,115,116,32,47]
def znz:List (List UInt8):=[
 yb0,
 qL,
 qK,
 qJ,
 qI,
 [126,32,87,106],
 qH,
 qG,
 qF,
 qE,
 jT,
 jS,
 jR,
 jQ,
 jP,
 [83,112,32,47],
 [126,32,81,117],
 jO,
 jN,
 [126,32,73,110],
 jM,
 jL,
 jK,
 jJ,
 jI,
 jH,
 jG,
 jF,
 jE,
 jD,
 jC,
 jB,
 jA,
 jz,
 jy,
 yb1,
 []]
theorem zny:fb [] zqF=znz:=by kernel_rfl
theorem af{f:FuncId}{a v:Value}(ha:bF [a]=true)(h:zsP Tryz.prog pm 1000000 60 [] f [a] v=true):aC f a v:=fun W=>zeW mixed dP rfl ha h W (fun x hx=>by cases hx)
theorem zxm:aC 103 (.string ⟨yb0.toArray⟩) (.string ⟨yb0.toArray⟩):=af rfl (by kernel_rfl)
theorem zxl:aC 104 (.string ⟨yb0.toArray⟩) (.int .i64 3):=af rfl (by kernel_rfl)
theorem zxk:aC 105 (.string ⟨#[67,114,32]⟩) (.string ⟨#[67,114]⟩):=af rfl (by kernel_rfl)
theorem zxj:aC 105 (.string ⟨#[32,76,102]⟩) (.string ⟨#[76,102]⟩):=af rfl (by kernel_rfl)
theorem zxi:aC 103 (.string ⟨qL.toArray⟩) (.string ⟨qL.toArray⟩):=af rfl (by kernel_rfl)
theorem zxh:aC 104 (.string ⟨qL.toArray⟩) (.int .i64 11):=af rfl (by kernel_rfl)
def yb2:List UInt8:=[91,66,107,32,67,114,32,76,102,93]
theorem zxg:aC 105 (.string ⟨(yb2++[32]).toArray⟩) (.string ⟨yb2.toArray⟩):=af rfl (by kernel_rfl)
theorem zxf:aC 105 (.string ⟨#[]⟩) (.string ⟨#[]⟩):=af rfl (by kernel_rfl)
theorem zxe:aC 103 (.string ⟨qK.toArray⟩) (.string ⟨qK.toArray⟩):=af rfl (by kernel_rfl)
theorem zxd:aC 104 (.string ⟨qK.toArray⟩) (.int .i64 0):=af rfl (by kernel_rfl)
theorem zxc:aC 105 (.string ⟨#[]⟩) (.string ⟨#[]⟩):=af rfl (by kernel_rfl)
def yb3:List UInt8:=[91,66,107,32,67,114,32,76,102,32,83,112,32,90,119,93]
theorem zxb:aC 105 (.string ⟨(32::yb3).toArray⟩) (.string ⟨yb3.toArray⟩):=af rfl (by kernel_rfl)
theorem zxa:aC 103 (.string ⟨qJ.toArray⟩) (.string ⟨qJ.toArray⟩):=af rfl (by kernel_rfl)
theorem zwZ:aC 104 (.string ⟨qJ.toArray⟩) (.int .i64 7):=af rfl (by kernel_rfl)
def yb4:List UInt8:=[90,119,32,83,112,42]
theorem zwY:aC 105 (.string ⟨(yb4++[32]).toArray⟩) (.string ⟨yb4.toArray⟩):=af rfl (by kernel_rfl)
theorem zwX:aC 105 (.string ⟨#[]⟩) (.string ⟨#[]⟩):=af rfl (by kernel_rfl)
theorem zwW:aC 103 (.string ⟨qI.toArray⟩) (.string ⟨qI.toArray⟩):=af rfl (by kernel_rfl)
theorem zwV:aC 104 (.string ⟨qI.toArray⟩) (.int .i64 18):=af rfl (by kernel_rfl)
def yb5:List UInt8:=[91,94,66,107,32,67,114,32,76,102,32,83,112,32,90,119,93]
theorem zwU:aC 105 (.string ⟨(yb5++[32]).toArray⟩) (.string ⟨yb5.toArray⟩):=af rfl (by kernel_rfl)
theorem zwT:aC 105 (.string ⟨#[32,67,109]⟩) (.string ⟨#[67,109]⟩):=af rfl (by kernel_rfl)
theorem zwS:aC 103 (.string ⟨#[126,32,87,106]⟩) (.string ⟨#[126,32,87,106]⟩):=af rfl (by kernel_rfl)
theorem zwR:aC 104 (.string ⟨#[126,32,87,106]⟩) (.int .i64 0):=af rfl (by kernel_rfl)
theorem zwQ:aC 105 (.string ⟨#[]⟩) (.string ⟨#[]⟩):=af rfl (by kernel_rfl)
theorem zwP:aC 105 (.string ⟨#[32,87,106]⟩) (.string ⟨#[87,106]⟩):=af rfl (by kernel_rfl)
theorem zwO:aC 103 (.string ⟨qH.toArray⟩) (.string ⟨qH.toArray⟩):=af rfl (by kernel_rfl)
theorem zwN:aC 104 (.string ⟨qH.toArray⟩) (.int .i64 7):=af rfl (by kernel_rfl)
def yb6:List UInt8:=[87,106,32,67,109,42]
theorem zwM:aC 105 (.string ⟨(yb6++[32]).toArray⟩) (.string ⟨yb6.toArray⟩):=af rfl (by kernel_rfl)
theorem zwL:aC 105 (.string ⟨#[]⟩) (.string ⟨#[]⟩):=af rfl (by kernel_rfl)
theorem zwK:aC 103 (.string ⟨qG.toArray⟩) (.string ⟨qG.toArray⟩):=af rfl (by kernel_rfl)
theorem zwJ:aC 104 (.string ⟨qG.toArray⟩) (.int .i64 7):=af rfl (by kernel_rfl)
def yb7:List UInt8:=[71,108,32,67,109,42]
theorem zwI:aC 105 (.string ⟨(yb7++[32]).toArray⟩) (.string ⟨yb7.toArray⟩):=af rfl (by kernel_rfl)
theorem zwH:aC 105 (.string ⟨#[]⟩) (.string ⟨#[]⟩):=af rfl (by kernel_rfl)
theorem zwG:aC 103 (.string ⟨qF.toArray⟩) (.string ⟨qF.toArray⟩):=af rfl (by kernel_rfl)
theorem zwF:aC 104 (.string ⟨qF.toArray⟩) (.int .i64 19):=af rfl (by kernel_rfl)
def yb8:List UInt8:=[91,94,83,112,32,66,97,32,72,121,32,67,109,93,32,67,109,42]
theorem zwE:aC 105 (.string ⟨(yb8++[32]).toArray⟩) (.string ⟨yb8.toArray⟩):=af rfl (by kernel_rfl)
theorem zwD:aC 105 (.string ⟨#[32,71,108]⟩) (.string ⟨#[71,108]⟩):=af rfl (by kernel_rfl)
theorem zwC:aC 103 (.string ⟨qE.toArray⟩) (.string ⟨qE.toArray⟩):=af rfl (by kernel_rfl)
theorem zwB:aC 104 (.string ⟨qE.toArray⟩) (.int .i64 9):=af rfl (by kernel_rfl)
def yb9:List UInt8:=[94,32,67,109,32,67,109,42]
theorem zwA:aC 105 (.string ⟨(yb9++[32]).toArray⟩) (.string ⟨yb9.toArray⟩):=af rfl (by kernel_rfl)
theorem zwz:aC 105 (.string ⟨#[32,71,108]⟩) (.string ⟨#[71,108]⟩):=af rfl (by kernel_rfl)
theorem zvs:aC 103 (.string ⟨jT.toArray⟩) (.string ⟨jT.toArray⟩):=af rfl (by kernel_rfl)
theorem zvr:aC 104 (.string ⟨jT.toArray⟩) (.int .i64 0):=af rfl (by kernel_rfl)
theorem zvq:aC 105 (.string ⟨#[]⟩) (.string ⟨#[]⟩):=af rfl (by kernel_rfl)
def zpP:List UInt8:=[91,67,108,32,67,112,32,69,120,32,73,115,32,83,121,93]
theorem zvp:aC 105 (.string ⟨(32::zpP).toArray⟩) (.string ⟨zpP.toArray⟩):=af rfl (by kernel_rfl)
theorem zvo:aC 103 (.string ⟨jS.toArray⟩) (.string ⟨jS.toArray⟩):=af rfl (by kernel_rfl)
theorem zvn:aC 104 (.string ⟨jS.toArray⟩) (.int .i64 11):=af rfl (by kernel_rfl)
def zpO:List UInt8:=[79,112,32,67,109,42,32,83,112,42]
theorem zvm:aC 105 (.string ⟨(zpO++[32]).toArray⟩) (.string ⟨zpO.toArray⟩):=af rfl (by kernel_rfl)
theorem zvl:aC 105 (.string ⟨#[]⟩) (.string ⟨#[]⟩):=af rfl (by kernel_rfl)
theorem zvk:aC 103 (.string ⟨jR.toArray⟩) (.string ⟨jR.toArray⟩):=af rfl (by kernel_rfl)
theorem zvj:aC 104 (.string ⟨jR.toArray⟩) (.int .i64 11):=af rfl (by kernel_rfl)
def zpN:List UInt8:=[81,117,32,67,109,42,32,83,112,42]
theorem zvi:aC 105 (.string ⟨(zpN++[32]).toArray⟩) (.string ⟨zpN.toArray⟩):=af rfl (by kernel_rfl)
theorem zvh:aC 105 (.string ⟨#[32,79,112]⟩) (.string ⟨#[79,112]⟩):=af rfl (by kernel_rfl)
theorem zvg:aC 103 (.string ⟨jQ.toArray⟩) (.string ⟨jQ.toArray⟩):=af rfl (by kernel_rfl)
theorem zvf:aC 104 (.string ⟨jQ.toArray⟩) (.int .i64 16):=af rfl (by kernel_rfl)
def zpM:List UInt8:=[91,67,108,32,67,112,93,32,67,109,42,32,83,112,42]
theorem zve:aC 105 (.string ⟨(zpM++[32]).toArray⟩) (.string ⟨zpM.toArray⟩):=af rfl (by kernel_rfl)
theorem zvd:aC 105 (.string ⟨#[32,78,115]⟩) (.string ⟨#[78,115]⟩):=af rfl (by kernel_rfl)
theorem zvc:aC 103 (.string ⟨jP.toArray⟩) (.string ⟨jP.toArray⟩):=af rfl (by kernel_rfl)
theorem zvb:aC 104 (.string ⟨jP.toArray⟩) (.int .i64 13):=af rfl (by kernel_rfl)
def zpL:List UInt8:=[68,97,115,104,32,67,109,42,32,83,112,42]
theorem zva:aC 105 (.string ⟨(zpL++[32]).toArray⟩) (.string ⟨zpL.toArray⟩):=af rfl (by kernel_rfl)
theorem zuZ:aC 105 (.string ⟨#[32,68,97,115,104]⟩) (.string ⟨#[68,97,115,104]⟩):=af rfl (by kernel_rfl)
theorem zuY:aC 103 (.string ⟨#[83,112,32,47]⟩) (.string ⟨#[83,112,32,47]⟩):=af rfl (by kernel_rfl)
theorem zuX:aC 104 (.string ⟨#[83,112,32,47]⟩) (.int .i64 3):=af rfl (by kernel_rfl)
theorem zuW:aC 105 (.string ⟨#[83,112,32]⟩) (.string ⟨#[83,112]⟩):=af rfl (by kernel_rfl)
theorem zuV:aC 105 (.string ⟨#[]⟩) (.string ⟨#[]⟩):=af rfl (by kernel_rfl)
theorem zuU:aC 103 (.string ⟨#[126,32,81,117]⟩) (.string ⟨#[126,32,81,117]⟩):=af rfl (by kernel_rfl)
theorem zuT:aC 104 (.string ⟨#[126,32,81,117]⟩) (.int .i64 0):=af rfl (by kernel_rfl)
theorem zuS:aC 105 (.string ⟨#[]⟩) (.string ⟨#[]⟩):=af rfl (by kernel_rfl)
theorem zuR:aC 105 (.string ⟨#[32,81,117]⟩) (.string ⟨#[81,117]⟩):=af rfl (by kernel_rfl)
theorem zuQ:aC 103 (.string ⟨jO.toArray⟩) (.string ⟨jO.toArray⟩):=af rfl (by kernel_rfl)
theorem zuP:aC 104 (.string ⟨jO.toArray⟩) (.int .i64 7):=af rfl (by kernel_rfl)
def zpK:List UInt8:=[81,117,32,67,109,42]
theorem zuO:aC 105 (.string ⟨(zpK++[32]).toArray⟩) (.string ⟨zpK.toArray⟩):=af rfl (by kernel_rfl)
theorem zuN:aC 105 (.string ⟨#[]⟩) (.string ⟨#[]⟩):=af rfl (by kernel_rfl)
theorem zuM:aC 103 (.string ⟨jN.toArray⟩) (.string ⟨jN.toArray⟩):=af rfl (by kernel_rfl)
theorem zuL:aC 104 (.string ⟨jN.toArray⟩) (.int .i64 0):=af rfl (by kernel_rfl)
theorem zuK:aC 105 (.string ⟨#[]⟩) (.string ⟨#[]⟩):=af rfl (by kernel_rfl)
def zpJ:List UInt8:=[91,66,97,32,72,121,32,78,115,93]
theorem zuJ:aC 105 (.string ⟨(32::zpJ).toArray⟩) (.string ⟨zpJ.toArray⟩):=af rfl (by kernel_rfl)
theorem zuI:aC 103 (.string ⟨#[126,32,73,110]⟩) (.string ⟨#[126,32,73,110]⟩):=af rfl (by kernel_rfl)
theorem zuH:aC 104 (.string ⟨#[126,32,73,110]⟩) (.int .i64 0):=af rfl (by kernel_rfl)
theorem zuG:aC 105 (.string ⟨#[]⟩) (.string ⟨#[]⟩):=af rfl (by kernel_rfl)
theorem zuF:aC 105 (.string ⟨#[32,73,110]⟩) (.string ⟨#[73,110]⟩):=af rfl (by kernel_rfl)
theorem zuE:aC 103 (.string ⟨jM.toArray⟩) (.string ⟨jM.toArray⟩):=af rfl (by kernel_rfl)
theorem zuD:aC 104 (.string ⟨jM.toArray⟩) (.int .i64 10):=af rfl (by kernel_rfl)
def nC:List UInt8:=[79,116,104,101,114,32,67,109,42]
theorem zuC:aC 105 (.string ⟨(nC++[32]).toArray⟩) (.string ⟨nC.toArray⟩):=af rfl (by kernel_rfl)
theorem zuB:aC 105 (.string ⟨#[32,78,117]⟩) (.string ⟨#[78,117]⟩):=af rfl (by kernel_rfl)
theorem zuA:aC 103 (.string ⟨jL.toArray⟩) (.string ⟨jL.toArray⟩):=af rfl (by kernel_rfl)
theorem zuz:aC 104 (.string ⟨jL.toArray⟩) (.int .i64 7):=af rfl (by kernel_rfl)
def zpI:List UInt8:=[78,117,32,67,109,42]
theorem zuy:aC 105 (.string ⟨(zpI++[32]).toArray⟩) (.string ⟨zpI.toArray⟩):=af rfl (by kernel_rfl)
def zbM:List UInt8:=[32,79,116,104,101,114]
theorem zux:aC 105 (.string ⟨zbM.toArray⟩) (.string ⟨#[79,116,104,101,114]⟩):=af rfl (by kernel_rfl)
theorem zuw:aC 103 (.string ⟨jK.toArray⟩) (.string ⟨jK.toArray⟩):=af rfl (by kernel_rfl)
theorem zuv:aC 104 (.string ⟨jK.toArray⟩) (.int .i64 7):=af rfl (by kernel_rfl)
def zpH:List UInt8:=[80,114,32,67,109,42]
theorem zuu:aC 105 (.string ⟨(zpH++[32]).toArray⟩) (.string ⟨zpH.toArray⟩):=af rfl (by kernel_rfl)
theorem zut:aC 105 (.string ⟨#[32,73,100]⟩) (.string ⟨#[73,100]⟩):=af rfl (by kernel_rfl)
theorem zus:aC 103 (.string ⟨jJ.toArray⟩) (.string ⟨jJ.toArray⟩):=af rfl (by kernel_rfl)
theorem zur:aC 104 (.string ⟨jJ.toArray⟩) (.int .i64 7):=af rfl (by kernel_rfl)
def zpG:List UInt8:=[73,100,32,67,109,42]
theorem zuq:aC 105 (.string ⟨(zpG++[32]).toArray⟩) (.string ⟨zpG.toArray⟩):=af rfl (by kernel_rfl)
theorem zup:aC 105 (.string ⟨#[32,80,111]⟩) (.string ⟨#[80,111]⟩):=af rfl (by kernel_rfl)
theorem zuo:aC 103 (.string ⟨jI.toArray⟩) (.string ⟨jI.toArray⟩):=af rfl (by kernel_rfl)
theorem zun:aC 104 (.string ⟨jI.toArray⟩) (.int .i64 12):=af rfl (by kernel_rfl)
def zpF:List UInt8:=[91,80,114,32,80,111,93,32,67,109,42]
theorem zum:aC 105 (.string ⟨(zpF++[32]).toArray⟩) (.string ⟨zpF.toArray⟩):=af rfl (by kernel_rfl)
theorem zul:aC 105 (.string ⟨zbM.toArray⟩) (.string ⟨#[79,116,104,101,114]⟩):=af rfl (by kernel_rfl)
theorem zuk:aC 103 (.string ⟨jH.toArray⟩) (.string ⟨jH.toArray⟩):=af rfl (by kernel_rfl)
theorem zuj:aC 104 (.string ⟨jH.toArray⟩) (.int .i64 10):=af rfl (by kernel_rfl)
theorem zui:aC 105 (.string ⟨(nC++[32]).toArray⟩) (.string ⟨nC.toArray⟩):=af rfl (by kernel_rfl)
def zpE:List UInt8:=[91,80,114,32,80,111,93]
theorem zuh:aC 105 (.string ⟨(32::zpE).toArray⟩) (.string ⟨zpE.toArray⟩):=af rfl (by kernel_rfl)
theorem zug:aC 103 (.string ⟨jG.toArray⟩) (.string ⟨jG.toArray⟩):=af rfl (by kernel_rfl)
theorem zuf:aC 104 (.string ⟨jG.toArray⟩) (.int .i64 33):=af rfl (by kernel_rfl)
def zpD:List UInt8:=[78,117,32,67,109,42,32,91,73,115,32,83,121,93,63,32,67,109,42,32,91,67,108,32,67,112,93,63,32,67,109,42]
theorem zue:aC 105 (.string ⟨(zpD++[32]).toArray⟩) (.string ⟨zpD.toArray⟩):=af rfl (by kernel_rfl)
def zpC:List UInt8:=[91,80,111,32,80,114,93]
theorem zud:aC 105 (.string ⟨(32::zpC).toArray⟩) (.string ⟨zpC.toArray⟩):=af rfl (by kernel_rfl)
theorem zuc:aC 103 (.string ⟨jF.toArray⟩) (.string ⟨jF.toArray⟩):=af rfl (by kernel_rfl)
theorem zub:aC 104 (.string ⟨jF.toArray⟩) (.int .i64 12):=af rfl (by kernel_rfl)
def zpB:List UInt8:=[91,80,111,32,80,114,93,32,67,109,42]
theorem zua:aC 105 (.string ⟨(zpB++[32]).toArray⟩) (.string ⟨zpB.toArray⟩):=af rfl (by kernel_rfl)
def zpA:List UInt8:=[40,79,112,32,124,32,72,121,41,63,32,78,117]
theorem ztZ:aC 105 (.string ⟨(32::zpA).toArray⟩) (.string ⟨zpA.toArray⟩):=af rfl (by kernel_rfl)
theorem ztY:aC 103 (.string ⟨jE.toArray⟩) (.string ⟨jE.toArray⟩):=af rfl (by kernel_rfl)
theorem ztX:aC 104 (.string ⟨jE.toArray⟩) (.int .i64 18):=af rfl (by kernel_rfl)
def zpz:List UInt8:=[91,72,121,32,73,115,32,83,121,32,78,117,93,32,67,109,42]
theorem ztW:aC 105 (.string ⟨(zpz++[32]).toArray⟩) (.string ⟨zpz.toArray⟩):=af rfl (by kernel_rfl)
theorem ztV:aC 105 (.string ⟨#[32,78,117]⟩) (.string ⟨#[78,117]⟩):=af rfl (by kernel_rfl)
theorem ztU:aC 103 (.string ⟨jD.toArray⟩) (.string ⟨jD.toArray⟩):=af rfl (by kernel_rfl)
theorem ztT:aC 104 (.string ⟨jD.toArray⟩) (.int .i64 10):=af rfl (by kernel_rfl)
theorem ztS:aC 105 (.string ⟨(nC++[32]).toArray⟩) (.string ⟨nC.toArray⟩):=af rfl (by kernel_rfl)
theorem ztR:aC 105 (.string ⟨zbM.toArray⟩) (.string ⟨#[79,116,104,101,114]⟩):=af rfl (by kernel_rfl)
theorem ztQ:aC 103 (.string ⟨jC.toArray⟩) (.string ⟨jC.toArray⟩):=af rfl (by kernel_rfl)
theorem ztP:aC 104 (.string ⟨jC.toArray⟩) (.int .i64 7):=af rfl (by kernel_rfl)
def zpy:List UInt8:=[73,115,32,67,109,42]
theorem ztO:aC 105 (.string ⟨(zpy++[32]).toArray⟩) (.string ⟨zpy.toArray⟩):=af rfl (by kernel_rfl)
theorem ztN:aC 105 (.string ⟨zbM.toArray⟩) (.string ⟨#[79,116,104,101,114]⟩):=af rfl (by kernel_rfl)
theorem ztM:aC 103 (.string ⟨jB.toArray⟩) (.string ⟨jB.toArray⟩):=af rfl (by kernel_rfl)
theorem ztL:aC 104 (.string ⟨jB.toArray⟩) (.int .i64 15):=af rfl (by kernel_rfl)
def zpx:List UInt8:=[91,79,116,104,101,114,32,78,117,93,32,67,109,42]
theorem ztK:aC 105 (.string ⟨(zpx++[32]).toArray⟩) (.string ⟨zpx.toArray⟩):=af rfl (by kernel_rfl)
theorem ztJ:aC 105 (.string ⟨#[32,79,112]⟩) (.string ⟨#[79,112]⟩):=af rfl (by kernel_rfl)
theorem ztI:aC 103 (.string ⟨jA.toArray⟩) (.string ⟨jA.toArray⟩):=af rfl (by kernel_rfl)
theorem ztH:aC 104 (.string ⟨jA.toArray⟩) (.int .i64 7):=af rfl (by kernel_rfl)
def zpw:List UInt8:=[67,112,32,67,109,42]
theorem ztG:aC 105 (.string ⟨(zpw++[32]).toArray⟩) (.string ⟨zpw.toArray⟩):=af rfl (by kernel_rfl)
def zpv:List UInt8:=[91,79,116,104,101,114,32,78,117,93]
theorem ztF:aC 105 (.string ⟨(32::zpv).toArray⟩) (.string ⟨zpv.toArray⟩):=af rfl (by kernel_rfl)
theorem ztE:aC 103 (.string ⟨jz.toArray⟩) (.string ⟨jz.toArray⟩):=af rfl (by kernel_rfl)
theorem ztD:aC 104 (.string ⟨jz.toArray⟩) (.int .i64 30):=af rfl (by kernel_rfl)
def zpu:List UInt8:=[94,32,67,109,42,32,40,82,105,32,67,109,42,32,82,105,32,67,109,42,41,42,32,82,105,32,67,109,42]
theorem ztC:aC 105 (.string ⟨(zpu++[32]).toArray⟩) (.string ⟨zpu.toArray⟩):=af rfl (by kernel_rfl)
theorem ztB:aC 105 (.string ⟨#[32,82,105]⟩) (.string ⟨#[82,105]⟩):=af rfl (by kernel_rfl)
theorem ztA:aC 103 (.string ⟨jy.toArray⟩) (.string ⟨jy.toArray⟩):=af rfl (by kernel_rfl)
theorem ztz:aC 104 (.string ⟨jy.toArray⟩) (.int .i64 37):=af rfl (by kernel_rfl)
def zpt:List UInt8:=[91,94,82,105,32,67,109,93,32,67,109,42,32,40,82,105,32,67,109,42,32,82,105,32,67,109,42,41,42,32,82,105,32,67,109,42]
theorem zty:aC 105 (.string ⟨(zpt++[32]).toArray⟩) (.string ⟨zpt.toArray⟩):=af rfl (by kernel_rfl)
theorem ztx:aC 105 (.string ⟨#[32,82,105]⟩) (.string ⟨#[82,105]⟩):=af rfl (by kernel_rfl)
theorem ztw:aC 103 (.string ⟨yb1.toArray⟩) (.string ⟨yb1.toArray⟩):=af rfl (by kernel_rfl)
theorem ztv:aC 104 (.string ⟨yb1.toArray⟩) (.int .i64 5):=af rfl (by kernel_rfl)
theorem ztu:aC 105 (.string ⟨#[114,101,115,116,32]⟩) (.string ⟨#[114,101,115,116]⟩):=af rfl (by kernel_rfl)
theorem ztt:aC 105 (.string ⟨#[]⟩) (.string ⟨#[]⟩):=af rfl (by kernel_rfl)
theorem zts:aC 103 (.string ⟨#[]⟩) (.string ⟨#[]⟩):=af rfl (by kernel_rfl)
set_option maxRecDepth 100000 in
theorem zqE(g nc:Nat):∀(j:Nat)(s:List UInt8),znz[j]?=some s->∀(B X:Nat)(vo:Option Addr)(n vc:Nat)(xs:List Value)(W:World),dk B W X g nc aj vo n vc (qD.take j) xs true (ti 35 j)->Calls Tryz.prog 72 #[.pointer (some ⟨X,0,none⟩),.string ⟨s.toArray⟩] W (LnQ B W X g nc aj (qD.take (j+1)) true (ti 35 (j+1))):=fun j s hj=>match j,hj with
 |0,hj=>by
  cases hj
  intro B X vo n vc xs W h;have hn:n<=60:=by rw[h.hn];exact sS (sR _ _) (by decide)
  exact aA B X g nc aj vo n vc _ xs true W yb0 yb0 [67,114] [76,102] 3 false znx znv h hn zxm zxl (by decide) (by decide) (by decide) (by decide) (show aC _ (.string ((⟨yb0.toArray⟩:ByteArray).extract 0 3)) _ from(show((⟨yb0.toArray⟩:ByteArray).extract 0 3)=⟨#[67,114,32]⟩ by rfl) ▸ zxk) (show aC _ (.string ((⟨yb0.toArray⟩:ByteArray).extract 4 7)) _ from(show((⟨yb0.toArray⟩:ByteArray).extract 4 7)=⟨#[32,76,102]⟩ by rfl) ▸ zxj) (by decide) (by decide) (by decide) (fun W hN=>zgi g nc W hN) (fun W hN=>zgh g nc W hN)
 |1,hj=>by
  cases hj
  intro B X vo n vc xs W h;have hn:n<=60:=by rw[h.hn];exact sS (sR _ _) (by decide)
  exact aA B X g nc aj vo n vc _ xs true W qL qL yb2 [] 11 true znj bX h hn zxi zxh (by decide) (by decide) (by decide) (by decide) (show aC _ (.string ((⟨qL.toArray⟩:ByteArray).extract 0 11)) _ from(show((⟨qL.toArray⟩:ByteArray).extract 0 11)=⟨(yb2++[32]).toArray⟩ by rfl) ▸ zxg) (show aC _ (.string ((⟨qL.toArray⟩:ByteArray).extract 12 12)) _ from(show((⟨qL.toArray⟩:ByteArray).extract 12 12)=⟨#[]⟩ by rfl) ▸ zxf) (by decide) (by decide) (by decide) (fun W hN=>zgg g nc W hN) (fun W hN=>bi g nc W hN)
 |2,hj=>by
  cases hj
  intro B X vo n vc xs W h;have hn:n<=60:=by rw[h.hn];exact sS (sR _ _) (by decide)
  exact aA B X g nc aj vo n vc _ xs true W qK qK [] yb3 0 false bX zmM h hn zxe zxd (by decide) (by decide) (by decide) (by decide) (show aC _ (.string ((⟨qK.toArray⟩:ByteArray).extract 0 0)) _ from(show((⟨qK.toArray⟩:ByteArray).extract 0 0)=⟨#[]⟩ by rfl) ▸ zxc) (show aC _ (.string ((⟨qK.toArray⟩:ByteArray).extract 1 18)) _ from(show((⟨qK.toArray⟩:ByteArray).extract 1 18)=⟨(32::yb3).toArray⟩ by rfl) ▸ zxb) (by decide) (by decide) (by decide) (fun W hN=>bi g nc W hN) (fun W hN=>zgf g nc W hN)
 |3,hj=>by
  cases hj
  intro B X vo n vc xs W h;have hn:n<=60:=by rw[h.hn];exact sS (sR _ _) (by decide)
  exact aA B X g nc aj vo n vc _ xs true W qJ qJ yb4 [] 7 true zmB bX h hn zxa zwZ (by decide) (by decide) (by decide) (by decide) (show aC _ (.string ((⟨qJ.toArray⟩:ByteArray).extract 0 7)) _ from(show((⟨qJ.toArray⟩:ByteArray).extract 0 7)=⟨(yb4++[32]).toArray⟩ by rfl) ▸ zwY) (show aC _ (.string ((⟨qJ.toArray⟩:ByteArray).extract 8 8)) _ from(show((⟨qJ.toArray⟩:ByteArray).extract 8 8)=⟨#[]⟩ by rfl) ▸ zwX) (by decide) (by decide) (by decide) (fun W hN=>zge g nc W hN) (fun W hN=>bi g nc W hN)
 |4,hj=>by
  cases hj
  intro B X vo n vc xs W h;have hn:n<=60:=by rw[h.hn];exact sS (sR _ _) (by decide)
  exact aA B X g nc aj vo n vc _ xs true W qI qI yb5 [67,109] 18 false zmz zmx h hn zwW zwV (by decide) (by decide) (by decide) (by decide) (show aC _ (.string ((⟨qI.toArray⟩:ByteArray).extract 0 18)) _ from(show((⟨qI.toArray⟩:ByteArray).extract 0 18)=⟨(yb5++[32]).toArray⟩ by rfl) ▸ zwU) (show aC _ (.string ((⟨qI.toArray⟩:ByteArray).extract 19 22)) _ from(show((⟨qI.toArray⟩:ByteArray).extract 19 22)=⟨#[32,67,109]⟩ by rfl) ▸ zwT) (by decide) (by decide) (by decide) (fun W hN=>zgd g nc W hN) (fun W hN=>zgc g nc W hN)
 |5,hj=>by
  cases hj
  intro B X vo n vc xs W h;have hn:n<=60:=by rw[h.hn];exact sS (sR _ _) (by decide)
  exact aA B X g nc aj vo n vc _ xs true W [126,32,87,106] [126,32,87,106] [] [87,106] 0 false bX zmv h hn zwS zwR (by decide) (by decide) (by decide) (by decide) (show aC _ (.string ((⟨#[126,32,87,106]⟩:ByteArray).extract 0 0)) _ from(show((⟨#[126,32,87,106]⟩:ByteArray).extract 0 0)=⟨#[]⟩ by rfl) ▸ zwQ) (show aC _ (.string ((⟨#[126,32,87,106]⟩:ByteArray).extract 1 4)) _ from(show((⟨#[126,32,87,106]⟩:ByteArray).extract 1 4)=⟨#[32,87,106]⟩ by rfl) ▸ zwP) (by decide) (by decide) (by decide) (fun W hN=>bi g nc W hN) (fun W hN=>zgb g nc W hN)
 |6,hj=>by
  cases hj
  intro B X vo n vc xs W h;have hn:n<=60:=by rw[h.hn];exact sS (sR _ _) (by decide)
  exact aA B X g nc aj vo n vc _ xs true W qH qH yb6 [] 7 false zmt bX h hn zwO zwN (by decide) (by decide) (by decide) (by decide) (show aC _ (.string ((⟨qH.toArray⟩:ByteArray).extract 0 7)) _ from(show((⟨qH.toArray⟩:ByteArray).extract 0 7)=⟨(yb6++[32]).toArray⟩ by rfl) ▸ zwM) (show aC _ (.string ((⟨qH.toArray⟩:ByteArray).extract 8 8)) _ from(show((⟨qH.toArray⟩:ByteArray).extract 8 8)=⟨#[]⟩ by rfl) ▸ zwL) (by decide) (by decide) (by decide) (fun W hN=>zga g nc W hN) (fun W hN=>bi g nc W hN)
 |7,hj=>by
  cases hj
  intro B X vo n vc xs W h;have hn:n<=60:=by rw[h.hn];exact sS (sR _ _) (by decide)
  exact aA B X g nc aj vo n vc _ xs true W qG qG yb7 [] 7 false zeh bX h hn zwK zwJ (by decide) (by decide) (by decide) (by decide) (show aC _ (.string ((⟨qG.toArray⟩:ByteArray).extract 0 7)) _ from(show((⟨qG.toArray⟩:ByteArray).extract 0 7)=⟨(yb7++[32]).toArray⟩ by rfl) ▸ zwI) (show aC _ (.string ((⟨qG.toArray⟩:ByteArray).extract 8 8)) _ from(show((⟨qG.toArray⟩:ByteArray).extract 8 8)=⟨#[]⟩ by rfl) ▸ zwH) (by decide) (by decide) (by decide) (fun W hN=>zeg g nc W hN) (fun W hN=>bi g nc W hN)
 |8,hj=>by
  cases hj
  intro B X vo n vc xs W h;have hn:n<=60:=by rw[h.hn];exact sS (sR _ _) (by decide)
  exact aA B X g nc aj vo n vc _ xs true W qF qF yb8 [71,108] 19 false zef nh h hn zwG zwF (by decide) (by decide) (by decide) (by decide) (show aC _ (.string ((⟨qF.toArray⟩:ByteArray).extract 0 19)) _ from(show((⟨qF.toArray⟩:ByteArray).extract 0 19)=⟨(yb8++[32]).toArray⟩ by rfl) ▸ zwE) (show aC _ (.string ((⟨qF.toArray⟩:ByteArray).extract 20 23)) _ from(show((⟨qF.toArray⟩:ByteArray).extract 20 23)=⟨#[32,71,108]⟩ by rfl) ▸ zwD) (by decide) (by decide) (by decide) (fun W hN=>zee g nc W hN) (fun W hN=>na g nc W hN)
 |9,hj=>by
  cases hj
  intro B X vo n vc xs W h;have hn:n<=60:=by rw[h.hn];exact sS (sR _ _) (by decide)
  exact pG B X g nc aj vo n vc _ xs true W qE qE yb9 [71,108] 9 false m8 nh h hn zwC zwB (by decide) (by decide) (by decide) (by decide) (show aC _ (.string ((⟨qE.toArray⟩:ByteArray).extract 0 9)) _ from(show((⟨qE.toArray⟩:ByteArray).extract 0 9)=⟨(yb9++[32]).toArray⟩ by rfl) ▸ zwA) (show aC _ (.string ((⟨qE.toArray⟩:ByteArray).extract 10 13)) _ from(show((⟨qE.toArray⟩:ByteArray).extract 10 13)=⟨#[32,71,108]⟩ by rfl) ▸ zwz) (by decide) (by decide) (by decide) (by decide) (fun W hN=>zed g nc W hN) (fun W hN=>na g nc W hN)
 |10,hj=>by
  cases hj
  intro B X vo n vc xs W h;have hn:n<=60:=by rw[h.hn];exact sS (sR _ _) (by decide)
  exact aA B X g nc aj vo n vc _ xs true W jT jT [] zpP 0 false bX zec h hn zvs zvr (by decide) (by decide) (by decide) (by decide) (show aC _ (.string ((⟨jT.toArray⟩:ByteArray).extract 0 0)) _ from(show((⟨jT.toArray⟩:ByteArray).extract 0 0)=⟨#[]⟩ by rfl) ▸ zvq) (show aC _ (.string ((⟨jT.toArray⟩:ByteArray).extract 1 18)) _ from(show((⟨jT.toArray⟩:ByteArray).extract 1 18)=⟨(32::zpP).toArray⟩ by rfl) ▸ zvp) (by decide) (by decide) (by decide) (fun W hN=>bi g nc W hN) (fun W hN=>zeb g nc W hN)
 |11,hj=>by
  cases hj
  intro B X vo n vc xs W h;have hn:n<=60:=by rw[h.hn];exact sS (sR _ _) (by decide)
  exact aA B X g nc aj vo n vc _ xs true W jS jS zpO [] 11 false zea bX h hn zvo zvn (by decide) (by decide) (by decide) (by decide) (show aC _ (.string ((⟨jS.toArray⟩:ByteArray).extract 0 11)) _ from(show((⟨jS.toArray⟩:ByteArray).extract 0 11)=⟨(zpO++[32]).toArray⟩ by rfl) ▸ zvm) (show aC _ (.string ((⟨jS.toArray⟩:ByteArray).extract 12 12)) _ from(show((⟨jS.toArray⟩:ByteArray).extract 12 12)=⟨#[]⟩ by rfl) ▸ zvl) (by decide) (by decide) (by decide) (fun W hN=>zdZ g nc W hN) (fun W hN=>bi g nc W hN)
 |12,hj=>by
  cases hj
  intro B X vo n vc xs W h;have hn:n<=60:=by rw[h.hn];exact sS (sR _ _) (by decide)
  exact aA B X g nc aj vo n vc _ xs true W jR jR zpN [79,112] 11 false zdY mZ h hn zvk zvj (by decide) (by decide) (by decide) (by decide) (show aC _ (.string ((⟨jR.toArray⟩:ByteArray).extract 0 11)) _ from(show((⟨jR.toArray⟩:ByteArray).extract 0 11)=⟨(zpN++[32]).toArray⟩ by rfl) ▸ zvi) (show aC _ (.string ((⟨jR.toArray⟩:ByteArray).extract 12 15)) _ from(show((⟨jR.toArray⟩:ByteArray).extract 12 15)=⟨#[32,79,112]⟩ by rfl) ▸ zvh) (by decide) (by decide) (by decide) (fun W hN=>zdX g nc W hN) (fun W hN=>mY g nc W hN)
 |13,hj=>by
  cases hj
  intro B X vo n vc xs W h;have hn:n<=60:=by rw[h.hn];exact sS (sR _ _) (by decide)
  exact aA B X g nc aj vo n vc _ xs true W jQ jQ zpM [78,115] 16 false zdW zdU h hn zvg zvf (by decide) (by decide) (by decide) (by decide) (show aC _ (.string ((⟨jQ.toArray⟩:ByteArray).extract 0 16)) _ from(show((⟨jQ.toArray⟩:ByteArray).extract 0 16)=⟨(zpM++[32]).toArray⟩ by rfl) ▸ zve) (show aC _ (.string ((⟨jQ.toArray⟩:ByteArray).extract 17 20)) _ from(show((⟨jQ.toArray⟩:ByteArray).extract 17 20)=⟨#[32,78,115]⟩ by rfl) ▸ zvd) (by decide) (by decide) (by decide) (fun W hN=>zdV g nc W hN) (fun W hN=>zdT g nc W hN)
 |14,hj=>by
  cases hj
  intro B X vo n vc xs W h;have hn:n<=60:=by rw[h.hn];exact sS (sR _ _) (by decide)
  exact aA B X g nc aj vo n vc _ xs true W jP jP zpL [68,97,115,104] 13 false zdS zdQ h hn zvc zvb (by decide) (by decide) (by decide) (by decide) (show aC _ (.string ((⟨jP.toArray⟩:ByteArray).extract 0 13)) _ from(show((⟨jP.toArray⟩:ByteArray).extract 0 13)=⟨(zpL++[32]).toArray⟩ by rfl) ▸ zva) (show aC _ (.string ((⟨jP.toArray⟩:ByteArray).extract 14 19)) _ from(show((⟨jP.toArray⟩:ByteArray).extract 14 19)=⟨#[32,68,97,115,104]⟩ by rfl) ▸ zuZ) (by decide) (by decide) (by decide) (fun W hN=>zdR g nc W hN) (fun W hN=>zdP g nc W hN)
 |15,hj=>by
  cases hj
  intro B X vo n vc xs W h;have hn:n<=60:=by rw[h.hn];exact sS (sR _ _) (by decide)
  exact aA B X g nc aj vo n vc _ xs true W [83,112,32,47] [83,112,32,47] [83,112] [] 3 true zdO bX h hn zuY zuX (by decide) (by decide) (by decide) (by decide) (show aC _ (.string ((⟨#[83,112,32,47]⟩:ByteArray).extract 0 3)) _ from(show((⟨#[83,112,32,47]⟩:ByteArray).extract 0 3)=⟨#[83,112,32]⟩ by rfl) ▸ zuW) (show aC _ (.string ((⟨#[83,112,32,47]⟩:ByteArray).extract 4 4)) _ from(show((⟨#[83,112,32,47]⟩:ByteArray).extract 4 4)=⟨#[]⟩ by rfl) ▸ zuV) (by decide) (by decide) (by decide) (fun W hN=>zdN g nc W hN) (fun W hN=>bi g nc W hN)
 |16,hj=>by
  cases hj
  intro B X vo n vc xs W h;have hn:n<=60:=by rw[h.hn];exact sS (sR _ _) (by decide)
  exact aA B X g nc aj vo n vc _ xs true W [126,32,81,117] [126,32,81,117] [] [81,117] 0 false bX zdM h hn zuU zuT (by decide) (by decide) (by decide) (by decide) (show aC _ (.string ((⟨#[126,32,81,117]⟩:ByteArray).extract 0 0)) _ from(show((⟨#[126,32,81,117]⟩:ByteArray).extract 0 0)=⟨#[]⟩ by rfl) ▸ zuS) (show aC _ (.string ((⟨#[126,32,81,117]⟩:ByteArray).extract 1 4)) _ from(show((⟨#[126,32,81,117]⟩:ByteArray).extract 1 4)=⟨#[32,81,117]⟩ by rfl) ▸ zuR) (by decide) (by decide) (by decide) (fun W hN=>bi g nc W hN) (fun W hN=>zdL g nc W hN)
 |17,hj=>by
  cases hj
  intro B X vo n vc xs W h;have hn:n<=60:=by rw[h.hn];exact sS (sR _ _) (by decide)
  exact aA B X g nc aj vo n vc _ xs true W jO jO zpK [] 7 false zdK bX h hn zuQ zuP (by decide) (by decide) (by decide) (by decide) (show aC _ (.string ((⟨jO.toArray⟩:ByteArray).extract 0 7)) _ from(show((⟨jO.toArray⟩:ByteArray).extract 0 7)=⟨(zpK++[32]).toArray⟩ by rfl) ▸ zuO) (show aC _ (.string ((⟨jO.toArray⟩:ByteArray).extract 8 8)) _ from(show((⟨jO.toArray⟩:ByteArray).extract 8 8)=⟨#[]⟩ by rfl) ▸ zuN) (by decide) (by decide) (by decide) (fun W hN=>zdJ g nc W hN) (fun W hN=>bi g nc W hN)
 |18,hj=>by
  cases hj
  intro B X vo n vc xs W h;have hn:n<=60:=by rw[h.hn];exact sS (sR _ _) (by decide)
  exact aA B X g nc aj vo n vc _ xs true W jN jN [] zpJ 0 false bX zdI h hn zuM zuL (by decide) (by decide) (by decide) (by decide) (show aC _ (.string ((⟨jN.toArray⟩:ByteArray).extract 0 0)) _ from(show((⟨jN.toArray⟩:ByteArray).extract 0 0)=⟨#[]⟩ by rfl) ▸ zuK) (show aC _ (.string ((⟨jN.toArray⟩:ByteArray).extract 1 12)) _ from(show((⟨jN.toArray⟩:ByteArray).extract 1 12)=⟨(32::zpJ).toArray⟩ by rfl) ▸ zuJ) (by decide) (by decide) (by decide) (fun W hN=>bi g nc W hN) (fun W hN=>zdH g nc W hN)
 |19,hj=>by
  cases hj
  intro B X vo n vc xs W h;have hn:n<=60:=by rw[h.hn];exact sS (sR _ _) (by decide)
  exact aA B X g nc aj vo n vc _ xs true W [126,32,73,110] [126,32,73,110] [] [73,110] 0 false bX zdG h hn zuI zuH (by decide) (by decide) (by decide) (by decide) (show aC _ (.string ((⟨#[126,32,73,110]⟩:ByteArray).extract 0 0)) _ from(show((⟨#[126,32,73,110]⟩:ByteArray).extract 0 0)=⟨#[]⟩ by rfl) ▸ zuG) (show aC _ (.string ((⟨#[126,32,73,110]⟩:ByteArray).extract 1 4)) _ from(show((⟨#[126,32,73,110]⟩:ByteArray).extract 1 4)=⟨#[32,73,110]⟩ by rfl) ▸ zuF) (by decide) (by decide) (by decide) (fun W hN=>bi g nc W hN) (fun W hN=>zdF g nc W hN)
 |20,hj=>by
  cases hj
  intro B X vo n vc xs W h;have hn:n<=60:=by rw[h.hn];exact sS (sR _ _) (by decide)
  exact aA B X g nc aj vo n vc _ xs true W jM jM nC [78,117] 10 false iy mX h hn zuE zuD (by decide) (by decide) (by decide) (by decide) (show aC _ (.string ((⟨jM.toArray⟩:ByteArray).extract 0 10)) _ from(show((⟨jM.toArray⟩:ByteArray).extract 0 10)=⟨(nC++[32]).toArray⟩ by rfl) ▸ zuC) (show aC _ (.string ((⟨jM.toArray⟩:ByteArray).extract 11 14)) _ from(show((⟨jM.toArray⟩:ByteArray).extract 11 14)=⟨#[32,78,117]⟩ by rfl) ▸ zuB) (by decide) (by decide) (by decide) (fun W hN=>iw g nc W hN) (fun W hN=>mW g nc W hN)
 |21,hj=>by
  cases hj
  intro B X vo n vc xs W h;have hn:n<=60:=by rw[h.hn];exact sS (sR _ _) (by decide)
  exact aA B X g nc aj vo n vc _ xs true W jL jL zpI [79,116,104,101,114] 7 false zdE fi h hn zuA zuz (by decide) (by decide) (by decide) (by decide) (show aC _ (.string ((⟨jL.toArray⟩:ByteArray).extract 0 7)) _ from(show((⟨jL.toArray⟩:ByteArray).extract 0 7)=⟨(zpI++[32]).toArray⟩ by rfl) ▸ zuy) (show aC _ (.string ((⟨jL.toArray⟩:ByteArray).extract 8 14)) _ from(show((⟨jL.toArray⟩:ByteArray).extract 8 14)=⟨zbM.toArray⟩ by rfl) ▸ zux) (by decide) (by decide) (by decide) (fun W hN=>zdD g nc W hN) (fun W hN=>fh g nc W hN)
 |22,hj=>by
  cases hj
  intro B X vo n vc xs W h;have hn:n<=60:=by rw[h.hn];exact sS (sR _ _) (by decide)
  exact aA B X g nc aj vo n vc _ xs true W jK jK zpH [73,100] 7 false zdC zdA h hn zuw zuv (by decide) (by decide) (by decide) (by decide) (show aC _ (.string ((⟨jK.toArray⟩:ByteArray).extract 0 7)) _ from(show((⟨jK.toArray⟩:ByteArray).extract 0 7)=⟨(zpH++[32]).toArray⟩ by rfl) ▸ zuu) (show aC _ (.string ((⟨jK.toArray⟩:ByteArray).extract 8 11)) _ from(show((⟨jK.toArray⟩:ByteArray).extract 8 11)=⟨#[32,73,100]⟩ by rfl) ▸ zut) (by decide) (by decide) (by decide) (fun W hN=>zdB g nc W hN) (fun W hN=>zdz g nc W hN)
 |23,hj=>by
  cases hj
  intro B X vo n vc xs W h;have hn:n<=60:=by rw[h.hn];exact sS (sR _ _) (by decide)
  exact aA B X g nc aj vo n vc _ xs true W jJ jJ zpG [80,111] 7 false zdy zdw h hn zus zur (by decide) (by decide) (by decide) (by decide) (show aC _ (.string ((⟨jJ.toArray⟩:ByteArray).extract 0 7)) _ from(show((⟨jJ.toArray⟩:ByteArray).extract 0 7)=⟨(zpG++[32]).toArray⟩ by rfl) ▸ zuq) (show aC _ (.string ((⟨jJ.toArray⟩:ByteArray).extract 8 11)) _ from(show((⟨jJ.toArray⟩:ByteArray).extract 8 11)=⟨#[32,80,111]⟩ by rfl) ▸ zup) (by decide) (by decide) (by decide) (fun W hN=>zdx g nc W hN) (fun W hN=>zdv g nc W hN)
 |24,hj=>by
  cases hj
  intro B X vo n vc xs W h;have hn:n<=60:=by rw[h.hn];exact sS (sR _ _) (by decide)
  exact aA B X g nc aj vo n vc _ xs true W jI jI zpF [79,116,104,101,114] 12 false zdu fi h hn zuo zun (by decide) (by decide) (by decide) (by decide) (show aC _ (.string ((⟨jI.toArray⟩:ByteArray).extract 0 12)) _ from(show((⟨jI.toArray⟩:ByteArray).extract 0 12)=⟨(zpF++[32]).toArray⟩ by rfl) ▸ zum) (show aC _ (.string ((⟨jI.toArray⟩:ByteArray).extract 13 19)) _ from(show((⟨jI.toArray⟩:ByteArray).extract 13 19)=⟨zbM.toArray⟩ by rfl) ▸ zul) (by decide) (by decide) (by decide) (fun W hN=>zdt g nc W hN) (fun W hN=>fh g nc W hN)
 |25,hj=>by
  cases hj
  intro B X vo n vc xs W h;have hn:n<=60:=by rw[h.hn];exact sS (sR _ _) (by decide)
  exact aA B X g nc aj vo n vc _ xs true W jH jH nC zpE 10 false iy zds h hn zuk zuj (by decide) (by decide) (by decide) (by decide) (show aC _ (.string ((⟨jH.toArray⟩:ByteArray).extract 0 10)) _ from(show((⟨jH.toArray⟩:ByteArray).extract 0 10)=⟨(nC++[32]).toArray⟩ by rfl) ▸ zui) (show aC _ (.string ((⟨jH.toArray⟩:ByteArray).extract 11 19)) _ from(show((⟨jH.toArray⟩:ByteArray).extract 11 19)=⟨(32::zpE).toArray⟩ by rfl) ▸ zuh) (by decide) (by decide) (by decide) (fun W hN=>iw g nc W hN) (fun W hN=>zdr g nc W hN)
 |26,hj=>by
  cases hj
  intro B X vo n vc xs W h;have hn:n<=60:=by rw[h.hn];exact sS (sR _ _) (by decide)
  exact aA B X g nc aj vo n vc _ xs true W jG jG zpD zpC 33 false rM zdp h hn zug zuf (by decide) (by decide) (by decide) (by decide) (show aC _ (.string ((⟨jG.toArray⟩:ByteArray).extract 0 33)) _ from(show((⟨jG.toArray⟩:ByteArray).extract 0 33)=⟨(zpD++[32]).toArray⟩ by rfl) ▸ zue) (show aC _ (.string ((⟨jG.toArray⟩:ByteArray).extract 34 42)) _ from(show((⟨jG.toArray⟩:ByteArray).extract 34 42)=⟨(32::zpC).toArray⟩ by rfl) ▸ zud) (by decide) (by decide) (by decide) (fun W hN=>zdq g nc W hN) (fun W hN=>zdo g nc W hN)
 |27,hj=>by
  cases hj
  intro B X vo n vc xs W h;have hn:n<=60:=by rw[h.hn];exact sS (sR _ _) (by decide)
  exact aA B X g nc aj vo n vc _ xs true W jF jF zpB zpA 12 false zdn pF h hn zuc zub (by decide) (by decide) (by decide) (by decide) (show aC _ (.string ((⟨jF.toArray⟩:ByteArray).extract 0 12)) _ from(show((⟨jF.toArray⟩:ByteArray).extract 0 12)=⟨(zpB++[32]).toArray⟩ by rfl) ▸ zua) (show aC _ (.string ((⟨jF.toArray⟩:ByteArray).extract 13 27)) _ from(show((⟨jF.toArray⟩:ByteArray).extract 13 27)=⟨(32::zpA).toArray⟩ by rfl) ▸ ztZ) (by decide) (by decide) (by decide) (fun W hN=>zdm g nc W hN) (fun W hN=>zdl g nc W hN)
 |28,hj=>by
  cases hj
  intro B X vo n vc xs W h;have hn:n<=60:=by rw[h.hn];exact sS (sR _ _) (by decide)
  exact aA B X g nc aj vo n vc _ xs true W jE jE zpz [78,117] 18 false zdk mX h hn ztY ztX (by decide) (by decide) (by decide) (by decide) (show aC _ (.string ((⟨jE.toArray⟩:ByteArray).extract 0 18)) _ from(show((⟨jE.toArray⟩:ByteArray).extract 0 18)=⟨(zpz++[32]).toArray⟩ by rfl) ▸ ztW) (show aC _ (.string ((⟨jE.toArray⟩:ByteArray).extract 19 22)) _ from(show((⟨jE.toArray⟩:ByteArray).extract 19 22)=⟨#[32,78,117]⟩ by rfl) ▸ ztV) (by decide) (by decide) (by decide) (fun W hN=>zdj g nc W hN) (fun W hN=>mW g nc W hN)
 |29,hj=>by
  cases hj
  intro B X vo n vc xs W h;have hn:n<=60:=by rw[h.hn];exact sS (sR _ _) (by decide)
  exact aA B X g nc aj vo n vc _ xs true W jD jD nC [79,116,104,101,114] 10 false iy fi h hn ztU ztT (by decide) (by decide) (by decide) (by decide) (show aC _ (.string ((⟨jD.toArray⟩:ByteArray).extract 0 10)) _ from(show((⟨jD.toArray⟩:ByteArray).extract 0 10)=⟨(nC++[32]).toArray⟩ by rfl) ▸ ztS) (show aC _ (.string ((⟨jD.toArray⟩:ByteArray).extract 11 17)) _ from(show((⟨jD.toArray⟩:ByteArray).extract 11 17)=⟨zbM.toArray⟩ by rfl) ▸ ztR) (by decide) (by decide) (by decide) (fun W hN=>iw g nc W hN) (fun W hN=>fh g nc W hN)
 |30,hj=>by
  cases hj
  intro B X vo n vc xs W h;have hn:n<=60:=by rw[h.hn];exact sS (sR _ _) (by decide)
  exact aA B X g nc aj vo n vc _ xs true W jC jC zpy [79,116,104,101,114] 7 false zdi fi h hn ztQ ztP (by decide) (by decide) (by decide) (by decide) (show aC _ (.string ((⟨jC.toArray⟩:ByteArray).extract 0 7)) _ from(show((⟨jC.toArray⟩:ByteArray).extract 0 7)=⟨(zpy++[32]).toArray⟩ by rfl) ▸ ztO) (show aC _ (.string ((⟨jC.toArray⟩:ByteArray).extract 8 14)) _ from(show((⟨jC.toArray⟩:ByteArray).extract 8 14)=⟨zbM.toArray⟩ by rfl) ▸ ztN) (by decide) (by decide) (by decide) (fun W hN=>zdh g nc W hN) (fun W hN=>fh g nc W hN)
 |31,hj=>by
  cases hj
  intro B X vo n vc xs W h;have hn:n<=60:=by rw[h.hn];exact sS (sR _ _) (by decide)
  exact aA B X g nc aj vo n vc _ xs true W jB jB zpx [79,112] 15 false zdg mZ h hn ztM ztL (by decide) (by decide) (by decide) (by decide) (show aC _ (.string ((⟨jB.toArray⟩:ByteArray).extract 0 15)) _ from(show((⟨jB.toArray⟩:ByteArray).extract 0 15)=⟨(zpx++[32]).toArray⟩ by rfl) ▸ ztK) (show aC _ (.string ((⟨jB.toArray⟩:ByteArray).extract 16 19)) _ from(show((⟨jB.toArray⟩:ByteArray).extract 16 19)=⟨#[32,79,112]⟩ by rfl) ▸ ztJ) (by decide) (by decide) (by decide) (fun W hN=>zdf g nc W hN) (fun W hN=>mY g nc W hN)
 |32,hj=>by
  cases hj
  intro B X vo n vc xs W h;have hn:n<=60:=by rw[h.hn];exact sS (sR _ _) (by decide)
  exact aA B X g nc aj vo n vc _ xs true W jA jA zpw zpv 7 false zde zdc h hn ztI ztH (by decide) (by decide) (by decide) (by decide) (show aC _ (.string ((⟨jA.toArray⟩:ByteArray).extract 0 7)) _ from(show((⟨jA.toArray⟩:ByteArray).extract 0 7)=⟨(zpw++[32]).toArray⟩ by rfl) ▸ ztG) (show aC _ (.string ((⟨jA.toArray⟩:ByteArray).extract 8 19)) _ from(show((⟨jA.toArray⟩:ByteArray).extract 8 19)=⟨(32::zpv).toArray⟩ by rfl) ▸ ztF) (by decide) (by decide) (by decide) (fun W hN=>zdd g nc W hN) (fun W hN=>zdb g nc W hN)
 |33,hj=>by
  cases hj
  intro B X vo n vc xs W h;have hn:n<=60:=by rw[h.hn];exact sS (sR _ _) (by decide)
  exact pG B X g nc aj vo n vc _ xs true W jz jz zpu [82,105] 30 false rK mV h hn ztE ztD (by decide) (by decide) (by decide) (by decide) (show aC _ (.string ((⟨jz.toArray⟩:ByteArray).extract 0 30)) _ from(show((⟨jz.toArray⟩:ByteArray).extract 0 30)=⟨(zpu++[32]).toArray⟩ by rfl) ▸ ztC) (show aC _ (.string ((⟨jz.toArray⟩:ByteArray).extract 31 34)) _ from(show((⟨jz.toArray⟩:ByteArray).extract 31 34)=⟨#[32,82,105]⟩ by rfl) ▸ ztB) (by decide) (by decide) (by decide) (by decide) (fun W hN=>zda g nc W hN) (fun W hN=>mU g nc W hN)
 |34,hj=>by
  cases hj
  intro B X vo n vc xs W h;have hn:n<=60:=by rw[h.hn];exact sS (sR _ _) (by decide)
  exact aA B X g nc aj vo n vc _ xs true W jy jy zpt [82,105] 37 false pE mV h hn ztA ztz (by decide) (by decide) (by decide) (by decide) (show aC _ (.string ((⟨jy.toArray⟩:ByteArray).extract 0 37)) _ from(show((⟨jy.toArray⟩:ByteArray).extract 0 37)=⟨(zpt++[32]).toArray⟩ by rfl) ▸ zty) (show aC _ (.string ((⟨jy.toArray⟩:ByteArray).extract 38 41)) _ from(show((⟨jy.toArray⟩:ByteArray).extract 38 41)=⟨#[32,82,105]⟩ by rfl) ▸ ztx) (by decide) (by decide) (by decide) (fun W hN=>zcZ g nc W hN) (fun W hN=>mU g nc W hN)
 |35,hj=>by
  cases hj
  intro B X vo n vc xs W h;exact zkf B X g nc aj vo n vc _ xs true W yb1 yb1 5 true h ztw ztv (by decide) (by decide) (by decide) (show aC _ (.string ((⟨yb1.toArray⟩:ByteArray).extract 0 5)) _ from(show((⟨yb1.toArray⟩:ByteArray).extract 0 5)=⟨#[114,101,115,116,32]⟩ by rfl) ▸ ztu) (show aC _ (.string ((⟨yb1.toArray⟩:ByteArray).extract 6 6)) _ from(show((⟨yb1.toArray⟩:ByteArray).extract 6 6)=⟨#[]⟩ by rfl) ▸ ztt)
 |36,hj=>by
  cases hj
  exact fun B X vo n vc xs W h=>zgk B X g nc aj vo n vc _ xs _ _ W [] h zts
 |j+37,hj=>by
  have:=(sT.1 hj).1;exact absurd this (by simp[znz])
theorem zmr(g nc:Nat)(w:World)(hN:aP w g nc aj):Calls Tryz.prog 45 #[.string ⟨zqF.toArray⟩,.slice (some ⟨g,0,none⟩) 26 nc] w (PrQ g w qD true):=by
 have h:=zfD zqF (td (by kernel_rfl)) aj g nc znz (fun j=>qD.take j) (fun j=>true) (fun j=>(ti 35 j)) w hN (by decide) rfl rfl rfl (fun W hW=>zmi (iI dP (fun _ hc=>fZ mixed dP hc) 60) ak zei g nc W hW) (fun W=>zke zqF znz zny (td (by kernel_rfl)) W) (zqE g nc)
 exact h
end Pt
end
end Go.Proofs.YtbbapnpdfcgjnaaGreatDoor
