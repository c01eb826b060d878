/- DcNm, PtLns: parts of the proof, joined. -/
import Derived.Test.YtbbapnpdfcgjnaaGreatDoorLTxMath
import Derived.Test.YtbbapnpdfcgjnaaGreatDoorLPtEv
open List renaming length_append->xa, drop_eq_getElem_cons->xb, getElem?_eq_some_iff->xd, getElem?_map->xe, getElem?_eq_getElem->xf, length_cons->xg, drop_of_length_le->xh, length_take->xj
open Nat renaming le_refl->xi, mul_one->xk
set_option maxHeartbeats 64000000
namespace Go.Proofs.YtbbapnpdfcgjnaaGreatDoor
namespace Dc
open Go.RowKit
theorem Tryz.info9:(Tryz.prog.info? 9).map (fun i=>(i.zero,i.size,i.bytes))=some (some (.string ⟨#[]⟩),1,16):=by kernel_rfl
def zgE (U:List (List UInt8)):List Value:=U.map fun b=>.string ⟨b.toArray⟩
set_option maxRecDepth 100000 in
theorem zqw (U:List (List UInt8)) (A:List Tr) (Q:Nat) (w:World) (h:Bk U A Q w) (h0:0<U.length) (h9:U.length<=1000):
  Calls Tryz.prog 46 #[.pointer (some ⟨Q,0,none⟩)] w fun e w'=>∃g nc,e= .returned (.slice (some ⟨g,0,none⟩) U.length nc)/\Pt.zbb w' g nc (zgE U)/\w.heap.size<=g/\Below w.heap.size w w':=by
 obtain⟨i0,hi,hz0,hz1,hz2⟩:=info_parts Tryz.info9;obtain⟨a,ac,z0,_⟩:=h.names 0 U[0] (xf h0);have hz:∀(j:Nat) (u:Value),(zgE U)[j]? =some u->w.cell? (a.add j)=some u:=fun j u hj=>by
  unfold zgE at hj;rw[xe] at hj
  cases hb:U[j]? with
  | none=>rw[hb] at hj;cases hj
  | some b=>
   rw[hb] at hj
   cases hj
   obtain⟨a2,ac2,y0,y1⟩:=h.names j b hb;rw[z0] at y0
   cases y0
   exact y1
 have hab:a.block<w.heap.size:=World.block_lt_of_cell? w _ (hz 0 _ (show(zgE U)[0]? =some (.string ⟨(U[0]).toArray⟩) by unfold zgE;rw[xe,xf h0];rfl)) |> fun e=>by rwa [Pt.add_blk] at e
 have HZ:=hid (fun(o:Obj)=>fun(j:Nat) (u:Value) (hj:(zgE U)[j]? =some u)=>(Pt.below_box (w:=w) (o:=o)).cell (p:=a.add j) (by rw[Pt.add_blk];exact hab) |>.trans (hz j u hj))
 have HL:=hid (show(zgE U).length=U.length by simp[zgE])
 have h1:∀u∈zgE U,u.oneCell'=true:=fun u hu=>by
  obtain⟨b,_,rfl⟩:=List.mem_map.1 hu
  rfl
 have H1:=hid h1;obtain⟨N,hN⟩:∃N,N=U.length:=⟨_,rfl⟩;rw[<- hN] at z0 h0 h9 HL;have HN:=hid hN;clear hz h1 h hN;have hQ:Q<w.heap.size:=World.block_lt_of_cell? w _ z0;have z1:(w.alloc (.cells #[] 9)).cell? ⟨Q,0,none⟩=some (.slice (some a) N ac):=((Pt.below_box (w:=w) (o:=.cells #[] 9)).cell (p:=⟨Q,0,none⟩) hQ).trans z0;rw[<- HN.out];go_enter Tryz.func46,Tryz.ntmps46;go_wp2_with (at_builtin;refine wpList_append_own _ rfl _ _ 66 rfl w.heap.size 9 i0 (.string ⟨#[]⟩) 1 16 Tryz.underlying66 hi hz0 hz1 hz2 rfl (by decide) _ 0 [] rfl (World.ownsRow_lit w #[] 0 (xi _) (by decide) (by simp)) a N ac (zgE U) rfl (by rw[HL.out,xk]) (HZ.out _) H1.out (by unfold maxLen;omega) (by omega) (by simp) ?_)
 intro v' w2 hown hgrow _;have hB2:Below w.heap.size w w2:=(Pt.below_box (w:=w) (o:=.cells #[] 9)).grown hgrow (by simp) (fun k hk=>by
  have:w.heap.size=k:=by simpa[Value.ownBlock] using hk
  omega)
 have HB2:=hid hB2;have HO:=hid hown;clear hown hgrow hB2;go_wp2;go_ret;obtain⟨e1,h2⟩:=HO.out
 rcases h2 with ⟨_,e2⟩ | ⟨g,cap,cur,rfl,k1,k2,k3,_,k5,k6⟩
 ·omega
 ·exact⟨g,cap,rfl,⟨cur,k2,by rw[k5,xk],by rw[HL.out];exact k3,by rw[HL.out];rw[xk] at k6;exact k6⟩,k1,HB2.out⟩
end Dc
namespace Pt
open Go.RowKit
def zgF (p:List UInt8):List UInt8->List (List UInt8)
 | []=>[p]
 | c::r=>if c=10 then p::zgF [] r else zgF (p++[c]) r
theorem zoU (l:List UInt8) (f t:Nat):(⟨l.toArray⟩:ByteArray).extract f t=⟨((l.take t).drop f).toArray⟩:=by
 apply ByteArray.ext
 simp[ByteArray.data_extract,List.drop_take]
theorem zAk (l:List UInt8) (p:List UInt8) (i:Nat) (hi:i<l.length) (h:l[i]=10):zgF p (l.drop i)=p::zgF [] (l.drop (i+1)):=by
 rw[xb hi]
 conv=>lhs;unfold zgF
 rw[if_pos h]
theorem zCn (l:List UInt8) (p:List UInt8) (i:Nat) (hi:i<l.length) (h:l[i]≠10):zgF p (l.drop i)=zgF (p++[l[i]]) (l.drop (i+1)):=by
 rw[xb hi]
 conv=>lhs;unfold zgF
 rw[if_neg h]
theorem zhY:∀(r p:List UInt8),(zgF p r).length<=r.length+1
 | [],p=>xi _
 | c::r,p=>by
  unfold zgF
  split
  ·have:=zhY r []
   rw[xg,xg];omega
  ·have:=zhY r (p++[c])
   rw[xg];omega
theorem zjz (xs:List (List UInt8)) (p:List UInt8):Dc.zgE (xs++[p])=Dc.zgE xs++[.string ⟨p.toArray⟩]:=by simp[Dc.zgE]
set_option maxRecDepth 100000 in
theorem zwi (l:List UInt8) (w:World) (hl:l.length<=100000):
  Calls Tryz.prog 71 #[.string ⟨l.toArray⟩] w fun e w'=>∃v,e= .returned v/\w'.ownsRow w.heap.size 9 1 v (zgF [] l).length (Dc.zgE (zgF [] l))/\Below w.heap.size w w':=by
 obtain⟨i0,hi,hz0,hz1,hz2⟩:=info_parts Dc.Tryz.info9;have HSZ:=hid (show(⟨l.toArray⟩:ByteArray).size=l.length by show l.toArray.size=_;simp)
 have HLN:=hid (zhY l []);go_enter Tryz.func71,Tryz.ntmps71;go_wp2;go_loopw [3,4,5] (fun v fv iv wr=>∃(f i:Nat) (xs:List (List UInt8)),fv= .int .i64 f/\iv= .int .i64 i/\f<=i/\i<=l.length/\Hid (zgF [] l=xs++zgF ((l.take i).drop f) (l.drop i))/\Hid (wr.ownsRow w.heap.size 9 1 v xs.length (Dc.zgE xs))/\Hid (Below w.heap.size w wr)) (fun _ _ iv _=>l.length - (intOf iv).toNat)
 case atStart=>exact⟨0,0,[],rfl,rfl,xi _,Nat.zero_le _,by simp[Hid],World.ownsRow_nil _ _ _ _,Below.refl _ _⟩
 case round=>
  obtain⟨f,i,xs,rfl,rfl,hfi,hil,HP,HO,HB⟩:=hrel
  by_cases hlt:i<l.length
  ·have h1:(i:Int)<(l.length:Int):=by omega
   have h0:(0:Int)<=(i:Int):=by omega
   have hxl:xs.length<=100001:=by
    have h5:=HLN.out;rw[HP.out,xa] at h5;omega
   have hbs:=HB.out.size;have hf0:(0:Int)<=(f:Int):=by omega
   have hfi2:(f:Int)<=(i:Int):=by omega
   have hil2:(i:Int)<=(l.length:Int):=by omega
   have hw9:IntKind.i64.wrap ((i:Int)+1)=(i:Int)+1:=by rw[IntKind.wrap_i64];omega
   by_cases hc:l[i]=10
   ·obtain⟨p,hp⟩:∃p,p=(l.take i).drop f:=⟨_,rfl⟩
    have HE:=hid (show(⟨l.toArray⟩:ByteArray).extract f i=⟨p.toArray⟩ by rw[zoU,hp])
    have HP2:=hid (show zgF [] l=(xs++[p])++zgF ((l.take (i+1)).drop (i+1)) (l.drop (i+1)) by
     rw[HP.out,zAk l _ i hlt hc,<- hp,List.append_assoc,show(l.take (i+1)).drop (i+1)=[] from xh (by rw[xj];omega)];rfl)
    have hgi:(⟨l.toArray⟩:ByteArray)[i]'(by rw[HSZ.out];exact hlt)=l[i]:=rfl
    have hn3:l[i].toNat=10:=by rw[hc];rfl
    have hn2:(l[i].toNat:Int)=10:=by omega
    clear hp HP;go_wp2_with (at_builtin;refine wpList_append_own _ rfl _ _ 66 rfl w.heap.size 9 i0 (.string ⟨#[]⟩) 1 16 Tryz.underlying66 hi hz0 hz1 hz2 rfl (by decide) _ xs.length (Dc.zgE xs) rfl (HO.out.alloc _) ⟨wr.heap.size,0,none⟩ 1 1 [.string ((⟨l.toArray⟩:ByteArray).extract f i)] rfl rfl (Dc.zsf wr (.string ((⟨l.toArray⟩:ByteArray).extract f i)) 9) (Dc.zqT _) (by unfold maxLen;omega) (by omega) (by simp;omega) ?_;intro v2 w2 o2 gr2 _;have HO2:=hid (show w2.ownsRow w.heap.size 9 1 v2 (xs++[p]).length (Dc.zgE (xs++[p])) by rw[zjz,xa,<- HE.out];exact o2);have HB2:=hid ((HB.out.alloc HB.out.size (.cells #[.string ((⟨l.toArray⟩:ByteArray).extract f i)] 9)).grown gr2 (by simp;omega) (fun j hj=>(HO.out.lt j hj).1));clear o2 gr2)
    go_roundw
    case rel=>exact⟨i+1,i+1,xs++[p],by go_num,by go_num,xi _,hlt,HP2,HO2,HB2⟩
    case measure=>simp[intOf];omega
   ·have HP2:=hid (show zgF [] l=xs++zgF ((l.take (i+1)).drop f) (l.drop (i+1)) by
     rw[HP.out,zCn l _ i hlt hc,List.take_succ_eq_append_getElem hlt,List.drop_append_of_le_length (by rw[xj];omega)])
    have hgi:(⟨l.toArray⟩:ByteArray)[i]'(by rw[HSZ.out];exact hlt)=l[i]:=rfl
    have hn3:¬l[i].toNat=10:=fun h=>hc (UInt8.toNat_inj.1 (by rw[h];rfl))
    have hn2:¬(l[i].toNat:Int)=10:=by omega
    have hn1:(l[i].toNat==10)=false:=beq_eq_false_iff_ne.2 hn3;have hn0:((l[i].toNat:Int)==10)=false:=beq_eq_false_iff_ne.2 hn2;clear HP;go_wp2;go_roundw
    case rel=>exact⟨f,i+1,xs,rfl,by go_num,by omega,hlt,HP2,HO,HB⟩
    case measure=>simp[intOf];omega
  ·have h1:¬(i:Int)<(l.length:Int):=by omega
   have hie:i=l.length:=by omega
   have hxl:xs.length<=100001:=by
    have h5:=HLN.out;rw[HP.out,xa] at h5;omega
   have hbs:=HB.out.size;have hf0:(0:Int)<=(f:Int):=by omega
   have hfl:(f:Int)<=(l.length:Int):=by omega
   obtain⟨p,hp⟩:∃p,p=(l.take i).drop f:=⟨_,rfl⟩;have HE:=hid (show(⟨l.toArray⟩:ByteArray).extract f l.length=⟨p.toArray⟩ by rw[zoU,hp,hie])
   have HP2:=hid (show zgF [] l=xs++[p] by
    rw[HP.out,<- hp,xh (by omega)];rfl)
   clear hp HP hie;go_wp2_with (at_builtin;refine wpList_append_own _ rfl _ _ 66 rfl w.heap.size 9 i0 (.string ⟨#[]⟩) 1 16 Tryz.underlying66 hi hz0 hz1 hz2 rfl (by decide) _ xs.length (Dc.zgE xs) rfl (HO.out.alloc _) ⟨wr.heap.size,0,none⟩ 1 1 [.string ((⟨l.toArray⟩:ByteArray).extract f l.length)] rfl rfl (Dc.zsf wr (.string ((⟨l.toArray⟩:ByteArray).extract f l.length)) 9) (Dc.zqT _) (by unfold maxLen;omega) (by omega) (by simp;omega) ?_;intro v2 w2 o2 gr2 _;have HO2:=hid (show w2.ownsRow w.heap.size 9 1 v2 (xs++[p]).length (Dc.zgE (xs++[p])) by rw[zjz,xa,<- HE.out];exact o2);have HB2:=hid ((HB.out.alloc HB.out.size (.cells #[.string ((⟨l.toArray⟩:ByteArray).extract f l.length)] 9)).grown gr2 (by simp;omega) (fun j hj=>(HO.out.lt j hj).1));clear o2 gr2)
   go_ret;exact⟨_,rfl,by rw[HP2.out];exact HO2.out,HB2.out⟩
theorem ztJ (l:List UInt8) (ls:List (List UInt8)) (hs:zgF [] l=ls) (hl:l.length<=100000) (w:World):
  Calls Tryz.prog 71 #[.string ⟨l.toArray⟩] w fun e w'=>∃vo vc,e= .returned (.slice vo ls.length vc)/\zGF w.heap.size w' vo ls/\Below w.heap.size w w':=by
 subst hs;refine(zwi l w hl).mono ?_;rintro e w' ⟨v,rfl,hO,hB⟩
 rcases hO.2 with ⟨e1,h0⟩ | ⟨q,cap,cur,e1,hb,hg,_,_,_,htk⟩
 ·exact⟨none,0,by rw[e1,h0],fun j s hj=>by
   have:=(xd.1 hj).1;omega,hB⟩
 ·refine⟨some ⟨q,0,none⟩,cap,by rw[e1],fun j s hj=>?_,hB⟩
  have hjl:=(xd.1 hj).1;refine⟨q,0,cur,_,rfl,hb,hg,?_⟩;have h1:(Dc.zgE (zgF [] l))[j]? =some (.string ⟨s.toArray⟩):=by
   unfold Dc.zgE;rw[xe,hj];rfl
  rw[<- htk,List.getElem?_take_of_lt (by omega)] at h1
  rw[Nat.zero_add]
  simpa using h1
end Pt
end Go.Proofs.YtbbapnpdfcgjnaaGreatDoor
