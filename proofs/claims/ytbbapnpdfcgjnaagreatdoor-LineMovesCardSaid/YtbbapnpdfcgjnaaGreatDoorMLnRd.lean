/- LnRd, LnDo, LnPr: parts of the proof, joined. -/
import Derived.Test.YtbbapnpdfcgjnaaGreatDoorMLnCut
import Derived.Test.YtbbapnpdfcgjnaaGreatDoorMPwKit
open Nat renaming le_refl->sD, zero_le->sK, eq_zero_or_pos->sP
open Go renaming bodyPost_ret->sE, World->sO, Value->sU, Calls->sV
open Go.RowKit.Below renaming refl->sG
open List renaming getElem?_eq_getElem->sH, drop_eq_getElem_cons->sJ, drop_of_length_le->sM, find?_cons->sN
open Go.RowKit renaming Below->sI, intOf->sS
open Go.IntKind renaming wrap_i64->sL, i64->sR
set_option maxHeartbeats 64000000
namespace Go.Proofs.YtbbapnpdfcgjnaaGreatDoor
namespace Ln
open Go.RowKit
theorem zaU:∀(P:List (Nat × Bool)) (k:Nat) (x:Nat × Bool),P[k]? =some x->∀j,j<2->(dX P)[k * 2+j]? =(ch2 x)[j]?
 | [],k,x,h,_,_=>by simp at h
 | y::P,0,x,h,j,hj=>by
  rw[List.getElem?_cons_zero] at h
  cases h
  show(ch2 y++dX P)[0 * 2+j]? =_
  rw[Nat.zero_mul,Nat.zero_add,List.getElem?_append_left (by show j<2;exact hj)]
 | y::P,k+1,x,h,j,hj=>by
  rw[List.getElem?_cons_succ] at h
  show(ch2 y++dX P)[(k+1) * 2+j]? =_
  rw[List.getElem?_append_right (by show 2<=_;omega),show(k+1) * 2+j - (ch2 y).length=k * 2+j by show(k+1) * 2+j - 2=_;omega]
  exact zaU P k x h j hj
def zrw (w:sO) (vo:Option Addr) (P:List (Nat × Bool)):Prop:=∀(k:Nat) (x:Nat × Bool),P[k]? =some x->∃g,vo=some ⟨g,0,none⟩/\g<w.heap.size/\w.cell? ⟨g,k * 2,none⟩=some (.int .i64 (x.1:Nat))/\w.cell? ⟨g,k * 2+1,none⟩=some (.bool x.2)
theorem zrw.below {w w':sO} {vo:Option Addr} {P:List (Nat × Bool)} (h:zrw w vo P) (hb:sI w.heap.size w w'):zrw w' vo P:=fun k x hx=>by
 obtain⟨g,h1,h2,h3,h4⟩:=h k x hx;exact⟨g,h1,Nat.lt_of_lt_of_le h2 hb.size,(hb.cell (p:=⟨g,k * 2,none⟩) h2).trans h3,(hb.cell (p:=⟨g,k * 2+1,none⟩) h2).trans h4⟩
theorem zbn {w:sO} {B:Nat} {v:sU} {P:List (Nat × Bool)} (h:w.ownsRow B 53 2 v P.length (dX P)):
  ∃vo vc,v= .slice vo P.length vc/\zrw w vo P/\((P.length=0/\vo=none)\/∃g cur,vo=some ⟨g,0,none⟩/\B<=g/\Pw.Cb w g cur 53/\P.length * 2<=cur.size):=by
 rcases h.2 with ⟨h1,h2⟩ | ⟨g,cap,cur,h1,h2,h3,h4,h5,h6,h7⟩
 ·exact⟨none,0,by rw[h1,h2],fun k x hx=>by have:=(List.getElem?_eq_some_iff.1 hx).1;omega,.inl ⟨h2,rfl⟩⟩
 ·subst h1
  refine⟨_,_,rfl,fun k x hx=>?_,.inr ⟨g,cur,rfl,h2,h3,by rw[h6];exact Nat.mul_le_mul_right 2 h4⟩⟩
  obtain⟨_,_,_,hc⟩:=Pt.cZ h;exact⟨g,rfl,Pt.ae h3,hc _ _ ((zaU P k x hx 0 (by decide)).trans rfl),hc _ _ ((zaU P k x hx 1 (by decide)).trans rfl)⟩
end Ln
namespace Ln
open Go.RowKit
def zfq (o:Option (Nat × Bool)):sU:=match o with
 | some x=>.tuple #[.agg #[.int .i64 (x.1:Nat),.bool x.2],.bool true]
 | none=>.tuple #[.agg #[.int .i64 0,.bool false],.bool false]
theorem cj {fn:Func} (h:fn.results=#[.cell 4 53,.tmp 5]) (tmps:Array sU) (w:sO) (g:Nat) (a b v:sU) (hp:tmps[4]?.getD undef= .pointer (some ⟨g,0,none⟩)) (h5:tmps[5]?.getD undef=v) (c0:w.cell? ⟨g,0,none⟩=some a) (c1:w.cell? ⟨g,1,none⟩=some b):(results fn tmps).run Tryz.prog w= .ok (.tuple #[.agg #[a,b],v]) w:=by
 simp only[results,h]
 go_simp
theorem fh {w w':sO} {G:Nat} {x y:sU} (h:Pw.Cb w' G #[x,y] 53) (hb:sI w.heap.size w w') (hG:w.heap.size<=G) (a b:sU):
  sI w.heap.size w ((w'.setCell ⟨G,0,none⟩ a).setCell ⟨G,1,none⟩ b)/\((w'.setCell ⟨G,0,none⟩ a).setCell ⟨G,1,none⟩ b).cell? ⟨G,0,none⟩=some a/\((w'.setCell ⟨G,0,none⟩ a).setCell ⟨G,1,none⟩ b).cell? ⟨G,1,none⟩=some b:=by
 have hC:=(h.set 0 a).set 1 b;exact⟨(hb.setCell (by show w.heap.size<=G;exact hG) _).setCell (by show w.heap.size<=G;exact hG) _,(hC.cell 0).trans rfl,(hC.cell 1).trans rfl⟩
set_option maxRecDepth 100000 in
theorem zjf (l:List UInt8) (z:Int) (hl:l.length<=80000) (w:sO):
  sV Tryz.prog 35 #[.string ⟨l.toArray⟩,.int .i64 z] w fun e w'=>e= .returned (zfq (nxC z (ct l (rl l).length)))/\sI w.heap.size w w':=by
 have hP9:(ct l (rl l).length).length<=80000:=by
  have h1:=zbo l (rl l).length;have h2:=Pt.oF _ l (sD _);omega
 obtain⟨w0,hw0⟩:∃w0,w0=w.alloc (.cells #[.int .i64 0,.bool false] 53):=⟨_,rfl⟩;have HC:=hid (gz l hl w0);obtain⟨P,hP⟩:∃P,P=ct l (rl l).length:=⟨_,rfl⟩;rw[<- hP] at HC hP9⊢;have HX0:=hid (show Pw.Cb w0 w.heap.size #[.int .i64 0,.bool false] 53 by rw[hw0];exact Pw.Cb.new w _ _)
 have HB0:=hid (show sI w.heap.size w w0 by rw[hw0];exact(sG _ _).alloc (sD _) _)
 clear hP hl;go_enter Tryz.func35,Tryz.ntmps35;go_wp2_with fail;rw[<- hw0];clear hw0;refine HC.out.mono ?_;rintro e w1 ⟨vo,vc,rfl,ho,hb⟩;obtain⟨vo',vc',hv,hr,_⟩:=zbn ho
 cases hv
 have HR:=hid hr;have HX1:=hid (HX0.out.below hb);have HB1:=hid (HB0.out.trans (hb.mono HB0.out.size));obtain⟨n,hn⟩:∃n,n=P.length:=⟨_,rfl⟩;rw[<- hn] at hP9⊢;have HN:=hid hn;clear ho hr hb hn HX0 HB0 HC;go_wp2;go_loopw [7] (fun y wr=>∃i:Nat,y= .int .i64 i/\i<=n/\Hid (sI w1.heap.size w1 wr)/\Hid (nxC z P=nxC z (P.drop i))) (fun y _=>n - (sS y).toNat)
 case atStart=>exact⟨0,rfl,sK _,hid (sG _ _),hid rfl⟩
 case round=>
  obtain⟨i,rfl,hi,HBr,HE⟩:=hrel;have HBw:=hid (HB1.out.trans (HBr.out.mono HB1.out.size));have HXr:=hid (HX1.out.below HBr.out);have g0:=HXr.out.cell 0;have g1:=HXr.out.cell 1;have f0:=HXr.out.frozen 0;have f1:=HXr.out.frozen 1
  by_cases hlt:i<n
  ·have i0:(0:Int)<=(i:Int):=by omega
   have i1:(i:Int)<(n:Int):=by omega
   have hil:i<P.length:=by have:=HN.out;omega
   obtain⟨x,hx⟩:∃x,x=P[i]:=⟨_,rfl⟩;obtain⟨g,rfl,_,c0,c1⟩:=HR.out.below HBr.out i x (by rw[hx];exact sH hil)
   have HS:=hid (show nxC z (P.drop i)=if z<(x.1:Int) then some x else nxC z (P.drop (i+1)) by
    rw[sJ hil,<- hx];unfold nxC;rw[sN]
    by_cases h:z<(x.1:Int)<;>simp[h])
   clear hx hil;obtain⟨a,ha⟩:∃a,a=x.1:=⟨_,rfl⟩;obtain⟨b,hb⟩:∃b,b=x.2:=⟨_,rfl⟩;have HV:=hid (show zfq (some x)= .tuple #[.agg #[.int .i64 (a:Nat),.bool b],.bool true] by rw[ha,hb];rfl)
   rw[<- ha] at c0 HS;rw[<- hb] at c1;clear ha hb
   by_cases hz:z<(a:Int)
   ·have HR2:=hid (HE.out.trans (HS.out.trans (if_pos hz)))
    have HF:=hid (fh HXr.out HBw.out (sD _) (.int .i64 (a:Nat)) (.bool b));go_wp2;refine sE (cj rfl _ _ _ _ _ _ rfl rfl HF.out.2.1 HF.out.2.2) rfl ?_;exact⟨by rw[HR2.out,HV.out];rfl,HF.out.1⟩
   ·have HR2:=hid (HE.out.trans (HS.out.trans (if_neg hz)))
    clear g0 g1 f0 f1 HXr;go_wp2;go_roundw
    case rel=>exact⟨i+1,by go_num,by omega,HBr,HR2⟩
    case measure=>simp[sS];omega
  ·have i1:¬(i:Int)<(n:Int):=by omega
   have HR2:=hid (show nxC z P=none by rw[HE.out,sM (by have:=HN.out;omega)];rfl)
   have HF:=hid (fh HXr.out HBw.out (sD _) (.int .i64 0) (.bool false));go_wp2;refine sE (cj rfl _ _ _ _ _ _ rfl rfl HF.out.2.1 HF.out.2.2) rfl ?_;exact⟨by rw[HR2.out];rfl,HF.out.1⟩
set_option maxRecDepth 100000 in
theorem zjc (l:List UInt8) (z:Int) (hl:l.length<=80000) (w:sO):
  sV Tryz.prog 37 #[.string ⟨l.toArray⟩,.int .i64 z] w fun e w'=>e= .returned (zfq (pvC z (ct l (rl l).length)))/\sI w.heap.size w w':=by
 have hP9:(ct l (rl l).length).length<=80000:=by
  have h1:=zbo l (rl l).length;have h2:=Pt.oF _ l (sD _);omega
 obtain⟨w0,hw0⟩:∃w0,w0=w.alloc (.cells #[.int .i64 0,.bool false] 53):=⟨_,rfl⟩;have HC:=hid (gz l hl w0);obtain⟨P,hP⟩:∃P,P=ct l (rl l).length:=⟨_,rfl⟩;rw[<- hP] at HC hP9⊢;have HX0:=hid (show Pw.Cb w0 w.heap.size #[.int .i64 0,.bool false] 53 by rw[hw0];exact Pw.Cb.new w _ _)
 have HB0:=hid (show sI w.heap.size w w0 by rw[hw0];exact(sG _ _).alloc (sD _) _)
 clear hP hl;go_enter Tryz.func37,Tryz.ntmps37;go_wp2_with fail;rw[<- hw0];clear hw0;refine HC.out.mono ?_;rintro e w1 ⟨vo,vc,rfl,ho,hb⟩;obtain⟨vo',vc',hv,hr,_⟩:=zbn ho
 cases hv
 have HR:=hid hr;have HX1:=hid (HX0.out.below hb);have HB1:=hid (HB0.out.trans (hb.mono HB0.out.size));obtain⟨n,hn⟩:∃n,n=P.length:=⟨_,rfl⟩;rw[<- hn] at hP9⊢;have HN:=hid hn;clear ho hr hb hn HX0 HB0 HC;have e9:sR.wrap ((n:Int) - 1)=(n:Int) - 1:=by rw[sL];omega
 go_wp2;go_loopw [7] (fun y wr=>∃i:Nat,y= .int .i64 ((i:Int) - 1)/\i<=n/\Hid (sI w1.heap.size w1 wr)/\Hid (pvC z P=pvC z (P.take i))) (fun y _=>(sS y+1).toNat)
 case atStart=>exact⟨n,rfl,sD _,hid (sG _ _),hid (by rw[HN.out,List.take_length])⟩
 case round=>
  obtain⟨i,rfl,hi,HBr,HE⟩:=hrel;have HBw:=hid (HB1.out.trans (HBr.out.mono HB1.out.size));have HXr:=hid (HX1.out.below HBr.out);have g0:=HXr.out.cell 0;have g1:=HXr.out.cell 1;have f0:=HXr.out.frozen 0;have f1:=HXr.out.frozen 1;clear e9
  by_cases hlt:0<i
  ·obtain⟨k,rfl⟩:∃k,i=k+1:=⟨i - 1,by omega⟩
   have e5:((k+1:Nat):Int) - 1=(k:Int):=by omega
   rw[e5];have i0:(0:Int)<=(k:Int):=by omega
   have i1:(k:Int)<(n:Int):=by omega
   have e6:sR.wrap ((k:Int) - 1)=(k:Int) - 1:=by rw[sL];omega
   have hil:k<P.length:=by have:=HN.out;omega
   obtain⟨x,hx⟩:∃x,x=P[k]:=⟨_,rfl⟩;obtain⟨g,rfl,_,c0,c1⟩:=HR.out.below HBr.out k x (by rw[hx];exact sH hil)
   have HS:=hid (show pvC z (P.take (k+1))=if (x.1:Int)<z then some x else pvC z (P.take k) by
    rw[List.take_succ_eq_append_getElem hil,<- hx];unfold pvC;rw[List.reverse_append,List.reverse_singleton,List.singleton_append,sN]
    by_cases h:(x.1:Int)<z<;>simp[h])
   clear hx hil e5;obtain⟨a,ha⟩:∃a,a=x.1:=⟨_,rfl⟩;obtain⟨b,hb⟩:∃b,b=x.2:=⟨_,rfl⟩;have HV:=hid (show zfq (some x)= .tuple #[.agg #[.int .i64 (a:Nat),.bool b],.bool true] by rw[ha,hb];rfl)
   rw[<- ha] at c0 HS;rw[<- hb] at c1;clear ha hb
   by_cases hz:(a:Int)<z
   ·have HR2:=hid (HE.out.trans (HS.out.trans (if_pos hz)))
    have HF:=hid (fh HXr.out HBw.out (sD _) (.int .i64 (a:Nat)) (.bool b));go_wp2;refine sE (cj rfl _ _ _ _ _ _ rfl rfl HF.out.2.1 HF.out.2.2) rfl ?_;exact⟨by rw[HR2.out,HV.out];rfl,HF.out.1⟩
   ·have HR2:=hid (HE.out.trans (HS.out.trans (if_neg hz)))
    clear g0 g1 f0 f1 HXr;go_wp2;go_roundw
    case rel=>exact⟨k,rfl,by omega,HBr,HR2⟩
    case measure=>simp[sS]
  ·obtain rfl:i=0:=by omega
   have HR2:=hid (show pvC z P=none from HE.out)
   have HF:=hid (fh HXr.out HBw.out (sD _) (.int .i64 0) (.bool false));go_wp2;refine sE (cj rfl _ _ _ _ _ _ rfl rfl HF.out.2.1 HF.out.2.2) rfl ?_;exact⟨by rw[HR2.out];rfl,HF.out.1⟩
set_option maxRecDepth 100000 in
theorem zco (l:List UInt8) (z:Int) (hl:l.length<=80000) (w:sO):
  sV Tryz.prog 39 #[.string ⟨l.toArray⟩,.int .i64 z] w fun e w'=>e= .returned (.int .i64 (kdC (atC z (ct l (rl l).length))))/\sI w.heap.size w w':=by
 have HC:=hid (gz l hl w);have hP9:(ct l (rl l).length).length<=80000:=by
  have h1:=zbo l (rl l).length;have h2:=Pt.oF _ l (sD _);omega
 obtain⟨P,hP⟩:∃P,P=ct l (rl l).length:=⟨_,rfl⟩;rw[<- hP] at HC hP9⊢;clear hP hl;go_enter Tryz.func39,Tryz.ntmps39;go_wp2_with fail;refine HC.out.mono ?_;rintro e w1 ⟨vo,vc,rfl,ho,hb⟩;obtain⟨vo',vc',hv,hr,_⟩:=zbn ho
 cases hv
 have HR:=hid hr;have HB1:=hid hb;obtain⟨n,hn⟩:∃n,n=P.length:=⟨_,rfl⟩;rw[<- hn] at hP9⊢;have HN:=hid hn;clear ho hr hb hn HC;go_wp2;go_loopw [6] (fun y wr=>∃i:Nat,y= .int .i64 i/\i<=n/\Hid (sI w1.heap.size w1 wr)/\Hid (atC z P=atC z (P.drop i))) (fun y _=>n - (sS y).toNat)
 case atStart=>exact⟨0,rfl,sK _,hid (sG _ _),hid rfl⟩
 case round=>
  obtain⟨i,rfl,hi,HBr,HE⟩:=hrel;have HBw:=hid (HB1.out.trans (HBr.out.mono HB1.out.size))
  by_cases hlt:i<n
  ·have i0:(0:Int)<=(i:Int):=by omega
   have i1:(i:Int)<(n:Int):=by omega
   have hil:i<P.length:=by have:=HN.out;omega
   obtain⟨x,hx⟩:∃x,x=P[i]:=⟨_,rfl⟩;obtain⟨g,rfl,_,c0,c1⟩:=HR.out.below HBr.out i x (by rw[hx];exact sH hil)
   have HS:=hid (show atC z (P.drop i)=if (x.1:Int)=z then some x else atC z (P.drop (i+1)) by
    rw[sJ hil,<- hx];unfold atC;rw[sN]
    by_cases h:(x.1:Int)=z<;>simp[h])
   clear hx hil;obtain⟨a,ha⟩:∃a,a=x.1:=⟨_,rfl⟩;obtain⟨b,hb⟩:∃b,b=x.2:=⟨_,rfl⟩;have HV:=hid (show kdC (some x)=if b=true then 2 else 1 by rw[hb];rfl)
   rw[<- ha] at c0 HS;rw[<- hb] at c1;clear ha hb
   by_cases hz:(a:Int)=z
   ·have HR2:=hid (HE.out.trans (HS.out.trans (if_pos hz)))
    subst hz;have ee:((a:Int)==(a:Int))=true:=by simp
    cases b with
    | true=>
     go_wp2;go_ret;exact⟨by rw[HR2.out,HV.out];rfl,HBw.out⟩
    | false=>
     go_wp2;go_ret;exact⟨by rw[HR2.out,HV.out];rfl,HBw.out⟩
   ·have HR2:=hid (HE.out.trans (HS.out.trans (if_neg hz)))
    have ee:((a:Int)==z)=false:=beq_eq_false_iff_ne.2 hz;go_wp2;go_roundw
    case rel=>exact⟨i+1,by go_num,by omega,HBr,HR2⟩
    case measure=>simp[sS];omega
  ·have i1:¬(i:Int)<(n:Int):=by omega
   have HR2:=hid (show atC z P=none by rw[HE.out,sM (by have:=HN.out;omega)];rfl)
   go_wp2;go_ret;exact⟨by rw[HR2.out];rfl,HBw.out⟩
end Ln
namespace Ln
open Go.RowKit Wt
theorem nD (s:List UInt8) (z:Nat):∀k,k<=(rl s).length->z<pos s k->∃i,i<k/\pos s i<=z/\z<pos s (i+1)
 | 0,_,h=>by rw[ij] at h;omega
 | k+1,hk,h=>by
  by_cases h2:z<pos s k
  ·obtain⟨i,h3,h4⟩:=nD s z k (by omega) h2
   exact⟨i,by omega,h4⟩
  ·exact⟨k,by omega,by omega,h⟩
theorem zsk (s:List UInt8) (i z:Nat) (hi:i<(rl s).length) (h1:pos s i<=z) (h2:z<pos s (i+1)):pW s z 4=pos s i:=by
 obtain⟨P,hP⟩:=zaE s i (Nat.le_of_lt hi);have hl:=iV s i hi;have hs:=fF s i hi;have hle:=eE s (i+1) hi;rw[gE s _ hl] at hP;exact pY s z (pos s i) P (by omega) h1 (by unfold dS;omega) hP
theorem ziJ (s:List UInt8) (i z:Nat) (hi:i<(rl s).length) (h1:pos s i<z) (h2:z<=pos s (i+1)):f7 s (z:Int)=(pos s i:Nat):=by
 have hle:=eE s (i+1) hi;unfold f7;rw[if_neg (by omega),if_neg (by omega),Int.toNat_natCast,zsk s i (z - 1) hi (by omega) (by omega)]
theorem zvn (s:List UInt8) (i z:Nat) (hi:i<(rl s).length) (h1:pos s i<=z) (h2:z<pos s (i+1)) (h0:0<z):isE s (z:Int)=(pos s i==z):=by
 have hle:=eE s (i+1) hi;unfold isE;rw[if_neg (by omega),if_neg (by omega),Int.toNat_natCast,zsk s i z hi h1 h2]
theorem zjq (l:List UInt8) (z:Int) (w:sO) (ht:Tb w) (hl:l.length<=1000000):
  sV Tryz.prog 34 #[.string ⟨l.toArray⟩,.int .i64 z] w fun e w'=>e= .returned (zfq (nxC z (ct l (rl l).length)))/\sI w.heap.size w w':=by
 obtain⟨w0,hw0⟩:∃w0,w0=w.alloc (.cells #[.int .i64 0,.bool false] 53):=⟨_,rfl⟩;have HX0:=hid (show Pw.Cb w0 w.heap.size #[.int .i64 0,.bool false] 53 by rw[hw0];exact Pw.Cb.new w _ _)
 have HB0:=hid (show sI w.heap.size w w0 by rw[hw0];exact(sG _ _).alloc (sD _) _)
 have HT:=hid ht;have g0:w0.cell? ⟨w.heap.size,0,none⟩=some (.int .i64 0):=(HX0.out.cell 0).trans rfl;have g1:w0.cell? ⟨w.heap.size,1,none⟩=some (.bool false):=(HX0.out.cell 1).trans rfl;have f0:=HX0.out.frozen 0;have f1:=HX0.out.frozen 1;clear ht;obtain⟨zz,hzz⟩:∃zz,zz=max z 0:=⟨_,rfl⟩;have hmx:max z 0=zz:=hzz.symm;have HZ:=hid hzz
 by_cases hz:(l.length:Int)<=zz
 ·have HN:=hid (show nxC z (ct l (rl l).length)=none by
   by_cases h:(l.length:Int)<=z
   ·exact zsQ l z h
   ·have h0:l=[]:=List.length_eq_zero_iff.1 (by omega)
    rw[h0];rfl)
  clear hzz;rw[hw0] at g0 g1 f0 f1 HB0;have H0:=hid g0;have H1:=hid g1;clear hw0;go_enter Tryz.func34,Tryz.ntmps34;go_wp2;refine sE (cj rfl _ _ _ _ _ _ rfl rfl H0.out H1.out) rfl ?_;exact⟨by rw[HN.out];rfl,HB0.out⟩
 ·obtain⟨z0,hz0⟩:∃z0:Nat,zz=(z0:Int):=⟨zz.toNat,by omega⟩
  subst hz0;have hz0l:z0<l.length:=by omega
  obtain⟨i,hi,p1,p2⟩:=nD l z0 (rl l).length (sD _) (by rw[dG l _ (sD _)];omega)
  have HBK:=hid (show f7 l ((z0:Int)+1)=(pos l i:Nat) from ziJ l i (z0+1) hi (by omega) (by omega))
  have HON:=hid (zqg l i hi);have HNX:=hid (zsR l z i hi (by omega) (by omega))
  have hpi:=eE l i (by omega)
  have hnle:=eE l (Sg.nx (lC l) (rl l).length i) (Sg.zcL (C:=lC l) hi);obtain⟨q,hq⟩:∃q,q=pos l (Sg.nx (lC l) (rl l).length i):=⟨_,rfl⟩;obtain⟨p,hp⟩:∃p,p=pos l i:=⟨_,rfl⟩;rw[<- hq] at HON HNX hnle;rw[<- hp] at HON HBK hpi;have hz1:¬(l.length:Int)<=(z0:Int):=by omega
  have hwr:sR.wrap ((z0:Int)+1)=(z0:Int)+1:=by rw[sL];omega
  clear hzz p1 p2 hq hp hi hz;go_enter Tryz.func34,Tryz.ntmps34;go_wp2_with fail;rw[<- hw0];clear hw0;refine(ly l ((z0:Int)+1) w0 (by omega) (HT.out.below HB0.out).tabs (HT.out.below HB0.out).two).mono ?_
  rintro e w1 ⟨rfl,be⟩;rw[HBK.out];have HB1:=hid (HB0.out.trans (be.mono HB0.out.size));have HX1:=hid (HX0.out.below be);clear be g0 g1 f0 f1;go_wp2_with fail;refine(zfG l 0 p w1 (HT.out.below HB1.out) (by omega) hpi (sK _)).mono ?_
  rintro e w2 ⟨rfl,be⟩;rw[HON.out];have HB2:=hid (HB1.out.trans (be.mono HB1.out.size));have HX2:=hid (HX1.out.below be);clear be;go_wp2_with fail;refine(gI l q w2 (HT.out.below HB2.out) (by omega) hnle).mono ?_
  rintro e w3 ⟨rfl,be⟩;have HB3:=hid (HB2.out.trans (be.mono HB2.out.size));have HX3:=hid (HX2.out.below be);clear be;have g0:w3.cell? ⟨w.heap.size,0,none⟩=some (.int .i64 0):=(HX3.out.cell 0).trans rfl;have g1:w3.cell? ⟨w.heap.size,1,none⟩=some (.bool false):=(HX3.out.cell 1).trans rfl;have f0:=HX3.out.frozen 0;have f1:=HX3.out.frozen 1;have HF:=hid (fh HX3.out HB3.out (sD _) (.int .i64 (q:Nat)) (.bool (cy l q)));go_wp2;refine sE (cj rfl _ _ _ _ _ _ rfl rfl HF.out.2.1 HF.out.2.2) rfl ?_;exact⟨by rw[HNX.out];rfl,HF.out.1⟩
theorem zjp (l:List UInt8) (z:Int) (w:sO) (ht:Tb w) (hl:l.length<=1000000):
  sV Tryz.prog 36 #[.string ⟨l.toArray⟩,.int .i64 z] w fun e w'=>e= .returned (zfq (pvC z (ct l (rl l).length)))/\sI w.heap.size w w':=by
 obtain⟨w0,hw0⟩:∃w0,w0=w.alloc (.cells #[.int .i64 0,.bool false] 53):=⟨_,rfl⟩;have HX0:=hid (show Pw.Cb w0 w.heap.size #[.int .i64 0,.bool false] 53 by rw[hw0];exact Pw.Cb.new w _ _)
 have HB0:=hid (show sI w.heap.size w w0 by rw[hw0];exact(sG _ _).alloc (sD _) _)
 have HT:=hid ht;have g0:w0.cell? ⟨w.heap.size,0,none⟩=some (.int .i64 0):=(HX0.out.cell 0).trans rfl;have g1:w0.cell? ⟨w.heap.size,1,none⟩=some (.bool false):=(HX0.out.cell 1).trans rfl;have f0:=HX0.out.frozen 0;have f1:=HX0.out.frozen 1;clear ht;have hlb:(l== [])=decide (l=[]):=by cases l<;>simp
 by_cases hh:l≠ []/\(l.length:Int)<z
 ·have HN:=hid (zlO l z hh.1 hh.2)
  have hz:=hh.2;have hne:(l== [])=false:=by rw[hlb];exact decide_eq_false hh.1
  have hne1:=hh.1;have HF:=hid (Pw.Cb.new w #[.int .i64 (l.length:Nat),.bool true] 53);rw[hw0] at g0 g1 f0 f1;clear hw0 hlb hh;go_enter Tryz.func36,Tryz.ntmps36;go_wp2;refine sE (cj rfl _ _ _ _ _ _ rfl rfl ((HF.out.cell 0).trans rfl) ((HF.out.cell 1).trans rfl)) rfl ?_;exact⟨by rw[HN.out];rfl,(sG _ _).alloc (sD _) _⟩
 by_cases hl0:l=[]
 ·subst hl0
  have HBK:=hid (show f7 ([]:List UInt8) z=0 by
   unfold f7
   by_cases h0:z<=0
   ·rw[if_pos h0]
   ·rw[if_neg h0,if_pos (by simp;omega)];rfl)
  rw[hw0] at g0 g1 f0 f1;have H0:=hid g0;have H1:=hid g1;clear hlb hh g0 g1 f0 f1;go_enter Tryz.func36,Tryz.ntmps36;go_wp2_with fail;rw[<- hw0];refine(ly [] z w0 (by simp) (HT.out.below HB0.out).tabs (HT.out.below HB0.out).two).mono ?_
  rintro e w1 ⟨rfl,be⟩;rw[HBK.out];have HB1:=hid (HB0.out.trans (be.mono HB0.out.size));have HX1:=hid (HX0.out.below be);clear be hw0;go_wp2;go_loopw [1] (fun fr wr=>fr= .int .i64 0/\Hid (sI w1.heap.size w1 wr)) (fun _ _=>0)
  case atStart=>exact⟨rfl,hid (sG _ _)⟩
  case round=>
   obtain⟨rfl,HBr⟩:=hrel;have HXr:=hid (HX1.out.below HBr.out);have HBw:=hid (HB1.out.trans (HBr.out.mono HB1.out.size));have g0:wr.cell? ⟨w.heap.size,0,none⟩=some (.int .i64 0):=(HXr.out.cell 0).trans rfl;have g1:wr.cell? ⟨w.heap.size,1,none⟩=some (.bool false):=(HXr.out.cell 1).trans rfl;have f0:=HXr.out.frozen 0;have f1:=HXr.out.frozen 1;have HF:=hid (fh HXr.out HBw.out (sD _) (.int .i64 0) (.bool false));go_wp2;refine sE (cj rfl _ _ _ _ _ _ rfl rfl HF.out.2.1 HF.out.2.2) rfl ?_;exact⟨rfl,HF.out.1⟩
 have hn0:0<(rl l).length:=List.length_pos_iff.2 fun e=>by rw[bX l hl0] at e;cases e
 have hzl:z<=(l.length:Int):=by
  rcases Int.lt_or_le (l.length:Int) z with h | h
  ·exact absurd ⟨hl0,h⟩ hh
  ·exact h
 -- where the steps back begin
 obtain⟨j,hj,hbk,hpv⟩:∃j,j<(rl l).length/\f7 l z=(pos l j:Nat)/\pvC z (ct l (rl l).length)=if Sg.dn (lC l) j=0 then none else some (qg l (pos l (Sg.dn (lC l) j))):=by
  by_cases h0:z<=0
  ·exact⟨0,hn0,by unfold f7;rw[if_pos h0,ij];rfl,by rw[zqe l z h0];rfl⟩
  ·obtain⟨z0,rfl⟩:∃z0:Nat,z=(z0:Int):=⟨z.toNat,by omega⟩
   obtain⟨i,hi,p1,p2⟩:=nD l (z0 - 1) (rl l).length (sD _) (by rw[dG l _ (sD _)];omega)
   exact⟨i,hi,ziJ l i z0 hi (by omega) (by omega),zsE l (z0:Int) i hi (by omega) (by omega)⟩
 have HPV:=hid hpv;have HBK:=hid hbk;have HJ:=hid hj;have hne:(l== [])=false:=by rw[hlb];exact decide_eq_false hl0
 have hnz:¬(l.length:Int)<z:=by omega
 rw[hw0] at g0 g1 f0 f1;clear hlb hh hbk hpv hj hn0 hzl g0 g1 f0 f1;go_enter Tryz.func36,Tryz.ntmps36;go_wp2_with fail;rw[<- hw0];refine(ly l z w0 (by omega) (HT.out.below HB0.out).tabs (HT.out.below HB0.out).two).mono ?_
 rintro e w1 ⟨rfl,be⟩;rw[HBK.out];have HB1:=hid (HB0.out.trans (be.mono HB0.out.size));have HX1:=hid (HX0.out.below be);clear be hw0 HBK;go_wp2;go_loopw [1] (fun fr wr=>∃k:Nat,fr= .int .i64 (pos l k:Nat)/\Hid (k<(rl l).length)/\Hid (Sg.dn (lC l) j=Sg.dn (lC l) k)/\Hid (sI w1.heap.size w1 wr)) (fun fr _=>(sS fr).toNat)
 case atStart=>exact⟨j,rfl,HJ,hid rfl,hid (sG _ _)⟩
 case round=>
  obtain⟨k,rfl,HKn,HD,HBr⟩:=hrel;have HBw:=hid (HB1.out.trans (HBr.out.mono HB1.out.size));have HXr:=hid (HX1.out.below HBr.out)
  cases k with
  | zero=>
   have HN:=hid (show pvC z (ct l (rl l).length)=none by rw[HPV.out,HD.out];rfl)
   have g0:wr.cell? ⟨w.heap.size,0,none⟩=some (.int .i64 0):=(HXr.out.cell 0).trans rfl;have g1:wr.cell? ⟨w.heap.size,1,none⟩=some (.bool false):=(HXr.out.cell 1).trans rfl;have f0:=HXr.out.frozen 0;have f1:=HXr.out.frozen 1;have HF:=hid (fh HXr.out HBw.out (sD _) (.int .i64 0) (.bool false));rw[ij];go_wp2;refine sE (cj rfl _ _ _ _ _ _ rfl rfl HF.out.2.1 HF.out.2.2) rfl ?_;exact⟨by rw[HN.out];rfl,HF.out.1⟩
  | succ k=>
   have hkn:=HKn.out;have hlt:=j8 l k (by omega)
   have hle:=eE l (k+1) (by omega)
   have HBK:=hid (zoQ l k (by omega))
   have hcut:=pd l 0 (k+1) (by omega) hkn (.inl rfl)
   rw[ij] at hcut;obtain⟨b,hb⟩:∃b,b=lC l (k+1):=⟨_,rfl⟩;have HDs:=hid (show Sg.dn (lC l) (k+1)=if b=true then k+1 else Sg.dn (lC l) k by rw[hb];rfl)
   rw[<- hb] at hcut;have HQk:=hid (show k<(rl l).length by omega)
   obtain⟨q,hq⟩:∃q,q=pos l (k+1):=⟨_,rfl⟩;have HQ:=hid hq;rw[<- hq] at HBK hcut hlt hle⊢;have HC:=hid hcut;have HLT:=hid hlt;have hq0:(0:Int)<(q:Int):=by omega
   clear hb hq hcut hkn hlt HKn;go_wp2_with fail;refine(zbi l 0 q wr (HT.out.below HBw.out) (by omega) hle (sK _)).mono ?_
   rintro e w2 ⟨rfl,be⟩;rw[HC.out];have HB2:=hid (HBw.out.trans (be.mono HBw.out.size));have HBr2:=hid (HBr.out.trans (be.mono HBr.out.size));have HX2:=hid (HXr.out.below be);clear be HBw HBr HXr HC
   cases b with
   | true=>
    have HN:=hid (show pvC z (ct l (rl l).length)=some (qg l q) by rw[HPV.out,HD.out,HDs.out,if_pos rfl,if_neg (by omega),<- HQ.out])
    go_wp2_with fail;refine(gI l q w2 (HT.out.below HB2.out) (by omega) hle).mono ?_
    rintro e w3 ⟨rfl,be⟩;have HB3:=hid (HB2.out.trans (be.mono HB2.out.size));have HX3:=hid (HX2.out.below be);clear be;have g0:w3.cell? ⟨w.heap.size,0,none⟩=some (.int .i64 0):=(HX3.out.cell 0).trans rfl;have g1:w3.cell? ⟨w.heap.size,1,none⟩=some (.bool false):=(HX3.out.cell 1).trans rfl;have f0:=HX3.out.frozen 0;have f1:=HX3.out.frozen 1;have HF:=hid (fh HX3.out HB3.out (sD _) (.int .i64 (q:Nat)) (.bool (cy l q)));go_wp2;refine sE (cj rfl _ _ _ _ _ _ rfl rfl HF.out.2.1 HF.out.2.2) rfl ?_;exact⟨by rw[HN.out];rfl,HF.out.1⟩
   | false=>
    have HD2:=hid (show Sg.dn (lC l) j=Sg.dn (lC l) k by rw[HD.out,HDs.out,if_neg (by simp)])
    go_wp2_with fail;refine(ly l (q:Int) w2 (by omega) (HT.out.below HB2.out).tabs (HT.out.below HB2.out).two).mono ?_
    rintro e w3 ⟨rfl,be⟩;rw[HBK.out];have HB3:=hid (HBr2.out.trans (be.mono HBr2.out.size));clear be;go_wp2;go_roundw
    case rel=>exact⟨k,rfl,HQk,HD2,HB3⟩
    case measure=>have:=HLT.out;simp[sS];omega
theorem zer (l:List UInt8) (p:Nat):kdC (some (qg l p))=if cy l p=true then 2 else 1:=rfl
theorem zke (l:List UInt8) (z:Int) (w:sO) (ht:Tb w) (hl:l.length<=1000000):
  sV Tryz.prog 38 #[.string ⟨l.toArray⟩,.int .i64 z] w fun e w'=>e= .returned (.int .i64 (kdC (atC z (ct l (rl l).length))))/\sI w.heap.size w w':=by
 have HT:=hid ht;clear ht
 by_cases h0:z<=0
 ·have HN:=hid (show atC z (ct l (rl l).length)=none from zbr l z fun k h1 h2 _=>by
   have:=Sg.gC l h1 h2;omega)
  go_enter Tryz.func38,Tryz.ntmps38;go_wp2;go_ret;exact⟨by rw[HN.out];rfl,sG _ _⟩
 by_cases h1:(l.length:Int)<z
 ·have HN:=hid (show atC z (ct l (rl l).length)=none from zbr l z fun k _ h2 _=>by
   have:=eE l k h2;omega)
  have HE:=hid (show isE l z=false by unfold isE;rw[if_neg h0,if_pos (by omega)];exact beq_eq_false_iff_ne.2 (by omega))
  go_enter Tryz.func38,Tryz.ntmps38;go_wp2_with fail;refine(zaO l z w (by omega) HT.out.tabs HT.out.two).mono ?_
  rintro e w1 ⟨rfl,be⟩;rw[HE.out];have HB1:=hid be;clear be;go_wp2;go_ret;exact⟨by rw[HN.out];rfl,HB1.out⟩
 obtain⟨z0,rfl⟩:∃z0:Nat,z=(z0:Int):=⟨z.toNat,by omega⟩
 have HL:=hid hl;have hzp:¬(z0:Int)<=0:=h0
 by_cases he:z0=l.length
 ·have hpa:=dG l (rl l).length (sD _)
  have hn0:0<(rl l).length:=by
   rcases sP (rl l).length with h | h
   ·rw[h,ij] at hpa;omega
   ·exact h
  have HN:=hid (show kdC (atC (z0:Int) (ct l (rl l).length))=2 by
   rw[he,<- hpa,zoS l _ hn0 (sD _) (lw l),zer];unfold cy;rw[hpa,decide_eq_true rfl,Bool.true_or,if_pos rfl])
  have HE:=hid (show isE l (z0:Int)=true by unfold isE;rw[if_neg h0,if_pos (by omega),he];simp)
  have HM:=hid (show cy l z0=true by unfold cy;rw[decide_eq_true he,Bool.true_or])
  have h2:¬(z0:Int)<(l.length:Int):=by omega
  have h3:z0<=l.length:=by omega
  clear he hpa hn0 h0;go_enter Tryz.func38,Tryz.ntmps38;go_wp2_with fail;refine(zaO l (z0:Int) w (by have:=HL.out;omega) HT.out.tabs HT.out.two).mono ?_
  rintro e w1 ⟨rfl,be⟩;rw[HE.out];have HB1:=hid be;clear be;go_wp2_with fail;refine(gI l z0 w1 (HT.out.below HB1.out) (by have:=HL.out;omega) h3).mono ?_
  rintro e w2 ⟨rfl,be⟩;rw[HM.out];have HB2:=hid (HB1.out.trans (be.mono HB1.out.size));clear be;go_wp2;go_ret;exact⟨by rw[HN.out];rfl,HB2.out⟩
 have hzl:z0<l.length:=by omega
 obtain⟨i,hi,p1,p2⟩:=nD l z0 (rl l).length (sD _) (by rw[dG l _ (sD _)];omega)
 have HE:=hid (zvn l i z0 hi p1 p2 (by omega))
 by_cases hp:pos l i=z0
 ·have hi0:0<i:=by
   rcases sP i with h | h
   ·rw[h,ij] at hp;omega
   ·exact h
  have hcut:=pd l 0 i hi0 hi (.inl rfl);rw[ij,hp] at hcut;obtain⟨b,hb⟩:∃b,b=lC l i:=⟨_,rfl⟩;have HN:=hid (show kdC (atC (z0:Int) (ct l (rl l).length))=if b=true then (if cy l z0=true then 2 else 1) else 0 by
   cases hbb:b with
   | true=>
    rw[if_pos rfl,<- hp,zoS l i hi0 (by omega) (by rw[eR hi0 hi,<- hb,hbb]),zer]
   | false=>
    rw[if_neg (by simp),zbr l _ fun k h2 h3 h4 e=>?_]
    ·rfl
    ·have e':pos l k=pos l i:=by omega
     rcases Nat.lt_trichotomy k i with h | h | h
     ·have:=Sg.gC l h (by omega);omega
     ·rw[h,eR hi0 hi,<- hb,hbb] at h4;cases h4
     ·have:=Sg.gC l h h3;omega)
  rw[<- hb] at hcut;have HC:=hid hcut;have HE2:=hid (show isE l (z0:Int)=true by rw[HE.out,hp];simp)
  have h2:(z0:Int)<(l.length:Int):=by omega
  have h3:z0<=l.length:=by omega
  clear hp hi hi0 hcut hb p1 p2 h0 HE he hzl h1;go_enter Tryz.func38,Tryz.ntmps38;go_wp2_with fail;refine(zaO l (z0:Int) w (by have:=HL.out;omega) HT.out.tabs HT.out.two).mono ?_
  rintro e w1 ⟨rfl,be⟩;rw[HE2.out];have HB1:=hid be;clear be;go_wp2_with fail;refine(zbi l 0 z0 w1 (HT.out.below HB1.out) (by have:=HL.out;omega) h3 (sK _)).mono ?_
  rintro e w2 ⟨rfl,be⟩;rw[HC.out];have HB2:=hid (HB1.out.trans (be.mono HB1.out.size));clear be
  cases b with
  | false=>
   go_wp2;go_ret;exact⟨by rw[HN.out];rfl,HB2.out⟩
  | true=>
   go_wp2_with fail;refine(gI l z0 w2 (HT.out.below HB2.out) (by have:=HL.out;omega) h3).mono ?_
   rintro e w3 ⟨rfl,be⟩;have HB3:=hid (HB2.out.trans (be.mono HB2.out.size));obtain⟨m,hm⟩:∃m,m=cy l z0:=⟨_,rfl⟩;rw[<- hm] at HN⊢;clear be hm
   cases m with
   | true=>
    go_wp2;go_ret;exact⟨by rw[HN.out];rfl,HB3.out⟩
   | false=>
    go_wp2;go_ret;exact⟨by rw[HN.out];rfl,HB3.out⟩
 ·have HN:=hid (show atC (z0:Int) (ct l (rl l).length)=none from zbr l _ fun k h2 h3 _ e=>by
   rcases Nat.lt_or_ge i k with h | h
   ·have:=gB l (i+1) k h;omega
   ·have:=gB l k i h;omega)
  have HE2:=hid (show isE l (z0:Int)=false by rw[HE.out];exact beq_eq_false_iff_ne.2 hp)
  clear hp hi p1 p2 h0 HE he hzl h1;go_enter Tryz.func38,Tryz.ntmps38;go_wp2_with fail;refine(zaO l (z0:Int) w (by have:=HL.out;omega) HT.out.tabs HT.out.two).mono ?_
  rintro e w1 ⟨rfl,be⟩;rw[HE2.out];have HB1:=hid be;clear be;go_wp2;go_ret;exact⟨by rw[HN.out];rfl,HB1.out⟩
end Ln
end Go.Proofs.YtbbapnpdfcgjnaaGreatDoor
