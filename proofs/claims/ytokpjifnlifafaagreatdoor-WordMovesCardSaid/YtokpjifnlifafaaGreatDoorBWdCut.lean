/- WdCut, WdDoc: parts of the proof, joined. -/
import Derived.Test.YtokpjifnlifafaaGreatDoorBStCls
import Derived.Test.YtokpjifnlifafaaGreatDoorBWdDb
import Derived.Test.YtokpjifnlifafaaGreatDoorBWdEdge
set_option maxHeartbeats 64000000
namespace Go.Proofs.YtokpjifnlifafaaGreatDoor
namespace Wd
open Go.RowKit Wt
theorem rl_max:∀(n:Nat) (l:List UInt8),l.length<=n->∀x∈rl l,x.1<=1114111
 | n,l,hn,x,hx=>by
  by_cases hl:l=[]
  ·rw[hl,zeU] at hx;cases hx
  ·have h1:=dec_ge l hl
   have hp:0<l.length:=List.length_pos_iff.2 hl;rw[zbh l hl] at hx
   rcases List.mem_cons.1 hx with rfl | hx
   ·exact dec_rune l hl
   ·cases n with
    | zero=>omega
    | succ n=>exact rl_max n _ (by rw[List.length_drop];omega) x hx
theorem wdU_len:Dc.wdU.length=20:=by decide
theorem fw_cls (l:List UInt8):Wo.Cls (fw l):=fun c hc=>by
 unfold fw at hc;obtain⟨x,hx,rfl⟩:=List.mem_map.1 hc;have h:=rl_max _ l (Nat.le_refl _) x hx;have h2:=Dc.gtp_lt Dc.wdW _ Dc.wd_cov Dc.wd_cls (x.1:Int) (by omega) (by omega)
 rw[Dc.wd_get (x.1:Int) (by omega) (by omega)]
 rw[wdU_len] at h2;exact⟨by omega,by omega⟩
theorem wd_ok:∀r∈Pt.wdRs,Pt.RlOk r:=Pt.okR_sound (by decide+kernel)
theorem wd_dcs (l:List UInt8):Pt.dcs Dc.wdW l=fw l:=by
 unfold Pt.dcs Pt.dcl fw;rw[List.map_map]
 apply List.map_congr_left
 intro x hx;have h:=rl_max _ l (Nat.le_refl _) x hx
 show((Dc.gtp (Dc.instd (x.1:Int)) Dc.wdW:Nat):Int)=wdcls (x.1:Int)
 rw[show Dc.instd (x.1:Int)=(x.1:Int) by unfold Dc.instd;rw[if_neg (by omega)],Dc.wd_get _ (by omega) (by omega)]
theorem wd_bn (l:List UInt8):Pt.bn10 Dc.wdW Pt.wdRs true l=wbs' l:=by
 unfold Pt.bn10 wbs'
 by_cases h:l=[]
 ·rw[if_pos h,if_pos h]
 rw[if_neg h,if_neg h,wd_dcs];have hne:fw l≠ []:=fun e=>by rw[fw_cons l h] at e;cases e
 unfold Pt.blN wbd wpF;refine Sg.flt_bds ?_ ?_ (fun k h0 hk=>?_) l
 ·unfold Pt.cutB;rw[if_neg hne,if_pos (.inl rfl)]
 ·unfold Pt.cutB;rw[if_neg hne,if_pos (.inr (fw_len l).symm)]
 ·have hk':k<(fw l).length:=by rw[fw_len];exact hk
  unfold Pt.cutB;rw[if_neg hne,if_neg (by omega),Wo.wd_dcd (fw_cls l) h0 hk']
  unfold wC;exact(wcut_at l k hk).symm
set_option maxRecDepth 100000 in
theorem wdP_len:Dc.wdP.length<=12000:=by decide+kernel
theorem wdU_nm:Dc.strs Dc.wdU=Pt.wdNm:=by rfl
set_option maxRecDepth 100000 in
theorem db12 (w:World):Calls Tryz.prog 44 #[] w fun e w'=>Below w.heap.size w w'/\∃Q,e= .returned (.pointer (some ⟨Q,0,none⟩))/\Dc.Bk Dc.wdU Dc.wdW Q w':=by
 go_enter Tryz.func44,Tryz.ntmps44;go_wp2_with fail;refine(Dc.rnew_eq _ Dc.wdP w (by kernel_rfl) (.inl wdP_len) Dc.wdU Dc.wdS Dc.wdW Dc.wd_nw Dc.wd_whl).mono ?_
 rintro e w1 ⟨hb,Q,rfl,hk⟩;have HB:=hid hb;have HK:=hid hk;clear hb hk;go_wp2;go_ret;exact⟨HB.out,Q,rfl,HK.out⟩
set_option maxRecDepth 100000 in
theorem zeL (l:List UInt8) (hl:l.length<=80000) (w:World):Calls Tryz.prog 12 #[.string ⟨l.toArray⟩] w (Pt.LsQ w (wbs' l)):=by
 have HL:=hid hl;clear hl;go_enter Tryz.func12,Tryz.ntmps12;go_wp2_with fail;refine(db12 w).mono ?_;rintro e w1 ⟨hb,Q,rfl,hk⟩;have HB1:=hid hb;have HK:=hid hk;clear hb hk;go_wp2_with fail;refine(Dc.dnames_any Dc.wdU Dc.wdW Q w1 HK.out (by decide) (by decide)).mono ?_
 rintro e w2 ⟨g,nc,rfl,hn,hg,hb2⟩;rw[wdU_len];have HPg:=hid (Pt.wd_parse g nc w2 (by rw[<- wdU_nm];exact hn))
 have HG:=hid hg;have HB2:=hid hb2;clear hn hg hb2;go_wp2_with fail;refine(HPg.out).mono ?_;rintro e w3 ⟨ro,rc,rfl,hr,ho⟩;have HB3:=hid (HB2.out.trans (ho.below HB2.out.size HG.out));have HR:=hid hr;clear hr ho HPg;have HBd:=hid (fun(W:World) (h:Below w3.heap.size w3 W)=>Pt.bounds10_any Dc.wdU Dc.wdW Pt.wdRs true wd_ok (by decide) Dc.wd_cov Dc.wd_cls (by decide) (by decide) Q ro rc l HL.out W ((HK.out.below HB3.out).below h) (HR.out.below h))
 obtain⟨n,hn⟩:∃n,n=Pt.wdRs.length:=⟨_,rfl⟩;rw[<- hn] at HBd⊢;clear hn HR HB2 HG;go_wp2_with fail;have HBw:=hid (show Below w3.heap.size w3 (w3.alloc (.cells #[.slice ro n rc,.bool true] 63)) from(Below.refl _ _).alloc (Nat.le_refl _) _)
 refine(HBd.out _ HBw.out).mono ?_;rintro e w4 ⟨vo,vc,rfl,hO,hB4⟩;have HQ:=hid (show Pt.LsQ w (wbs' l) (.returned (.slice vo (wbs' l).length vc)) w4 from by
  rw[wd_bn] at hO;have hs:=Nat.le_trans HB1.out.size HB3.out.size;exact⟨vo,vc,rfl,Pt.zay hO (by have:=HBw.out.size;omega),HB1.out.trans ((HB3.out.mono HB1.out.size).trans ((HBw.out.trans (hB4.mono HBw.out.size)).mono hs))⟩)
 rw[wd_bn];clear hO hB4 HBd HBw HB1 HB3 HK;go_wp2;go_ret;exact HQ.out
end Wd
namespace Br
open Go.RowKit
theorem abv_step {D:List Nat} {i x:Nat} {z:Int} {d:Nat} (h:D[i]? =some x) (hx:¬z<(x:Int)):abv z d (D.drop i)=abv z d (D.drop (i+1)):=by
 obtain⟨h1,h2⟩:=List.getElem?_eq_some_iff.1 h;rw[List.drop_eq_getElem_cons h1,h2,abv,if_neg hx]
theorem abv_here {D:List Nat} {i x:Nat} {z:Int} {d:Nat} (h:D[i]? =some x) (hx:z<(x:Int)):abv z d (D.drop i)=x:=by
 obtain⟨h1,h2⟩:=List.getElem?_eq_some_iff.1 h;rw[List.drop_eq_getElem_cons h1,h2,abv,if_pos hx]
theorem zeX {w:World} {ao:Option Addr} {D:List Nat} (h:Pt.RdI w ao (D.map fun(x:Nat)=>(x:Int))) {i:Nat} (hi:i<D.length):∃a:Addr,ao=some a/\w.cell? (a.add i)=some (.int .i64 (D[i]:Nat)):=by
 obtain⟨a,h1,_,h3⟩:=h i (D[i]:Int) (by rw[List.getElem?_map,List.getElem?_eq_getElem hi];rfl)
 exact⟨a,h1,h3⟩
set_option maxRecDepth 100000 in
theorem above_any (ao:Option Addr) (n ac:Nat) (D:List Nat) (z:Int) (d:Nat) (w:World) (ha:Pt.RdI w ao (D.map fun(x:Nat)=>(x:Int))) (hn:n=D.length) (hn9:n<=100000):
  Calls Tryz.prog 19 #[.slice ao n ac,.int .i64 z,.int .i64 d] w fun e w'=>e= .returned (.int .i64 (abv z d D:Nat))/\w'=w:=by
 have HA:=hid ha;have HN:=hid hn;clear ha hn;go_enter Tryz.func19,Tryz.ntmps19;go_wp2;go_loopw [7] (fun y wr=>∃i:Nat,y= .int .i64 i/\i<=n/\wr=w/\Hid (abv z d D=abv z d (D.drop i))) (fun y _=>n - (intOf y).toNat)
 case atStart=>exact⟨0,rfl,Nat.zero_le _,rfl,hid rfl⟩
 case round=>
  obtain⟨i,rfl,hi,rfl,HE⟩:=hrel
  by_cases hlt:i<n
  ·have i0:(0:Int)<=(i:Int):=by omega
   have i1:(i:Int)<(n:Int):=by omega
   have hil:i<D.length:=by have:=HN.out;omega
   obtain⟨a,rfl,c1⟩:=zeX HA.out hil;obtain⟨x,hx⟩:∃x,x=D[i]:=⟨_,rfl⟩;have HX:=hid (show D[i]? =some x by rw[hx];exact List.getElem?_eq_getElem hil)
   rw[<- hx] at c1;clear hx hil
   by_cases hz:z<(x:Int)
   ·have HR:=hid (HE.out.trans (abv_here HX.out hz))
    go_wp2;go_ret;exact⟨by rw[HR.out];rfl,rfl⟩
   ·have HR:=hid (HE.out.trans (abv_step HX.out hz))
    go_wp2;go_roundw
    case rel=>exact⟨i+1,by go_num,by omega,trivial,HR⟩
    case measure=>simp[intOf];omega
  ·have i1:¬(i:Int)<(n:Int):=by omega
   have HR:=hid (show abv z d D=d by rw[HE.out,List.drop_of_length_le (by have:=HN.out;omega)];rfl)
   go_wp2;go_ret;exact⟨by rw[HR.out];rfl,rfl⟩
theorem blw_step {D:List Nat} {i x:Nat} {z:Int} {b:Nat} (h:D[i]? =some x):blw z b (D.drop i)=if (x:Int)<z then blw z x (D.drop (i+1)) else blw z b (D.drop (i+1)):=by
 obtain⟨h1,h2⟩:=List.getElem?_eq_some_iff.1 h;rw[List.drop_eq_getElem_cons h1,h2,blw]
set_option maxRecDepth 100000 in
theorem below_any (ao:Option Addr) (n ac:Nat) (D:List Nat) (z:Int) (w:World) (ha:Pt.RdI w ao (D.map fun(x:Nat)=>(x:Int))) (hn:n=D.length) (hn9:n<=100000):
  Calls Tryz.prog 21 #[.slice ao n ac,.int .i64 z] w fun e w'=>e= .returned (.int .i64 (blw z 0 D:Nat))/\w'=w:=by
 have HA:=hid ha;have HN:=hid hn;clear ha hn;go_enter Tryz.func21,Tryz.ntmps21;go_wp2;go_loopw [5,6] (fun v y wr=>∃i b:Nat,v= .int .i64 b/\y= .int .i64 i/\i<=n/\wr=w/\Hid (blw z 0 D=blw z b (D.drop i))) (fun _ y _=>n - (intOf y).toNat)
 case atStart=>exact⟨0,0,rfl,rfl,Nat.zero_le _,rfl,hid rfl⟩
 case round=>
  obtain⟨i,b,rfl,rfl,hi,rfl,HE⟩:=hrel
  by_cases hlt:i<n
  ·have i0:(0:Int)<=(i:Int):=by omega
   have i1:(i:Int)<(n:Int):=by omega
   have hil:i<D.length:=by have:=HN.out;omega
   obtain⟨a,rfl,c1⟩:=zeX HA.out hil;obtain⟨x,hx⟩:∃x,x=D[i]:=⟨_,rfl⟩;have HX:=hid (show D[i]? =some x by rw[hx];exact List.getElem?_eq_getElem hil)
   rw[<- hx] at c1;clear hx hil
   by_cases hz:(x:Int)<z
   ·have HR:=hid (HE.out.trans ((blw_step HX.out).trans (if_pos hz)))
    go_wp2;go_roundw
    case rel=>exact⟨i+1,x,rfl,by go_num,by omega,trivial,HR⟩
    case measure=>simp[intOf];omega
   ·have HR:=hid (HE.out.trans ((blw_step HX.out).trans (if_neg hz)))
    go_wp2;go_roundw
    case rel=>exact⟨i+1,b,rfl,by go_num,by omega,trivial,HR⟩
    case measure=>simp[intOf];omega
  ·have i1:¬(i:Int)<(n:Int):=by omega
   have HR:=hid (show blw z 0 D=b by rw[HE.out,List.drop_of_length_le (by have:=HN.out;omega)];rfl)
   go_wp2;go_ret;exact⟨by rw[HR.out];rfl,rfl⟩
theorem arn_step {D:List Nat} {i x y:Nat} {z:Int} (h:D[i]? =some x) (h2:D[i+1]? =some y):arn z (D.drop i)=if (x:Int)<=z/\z<(y:Int) then (x,y) else arn z (D.drop (i+1)):=by
 obtain⟨k1,k2⟩:=List.getElem?_eq_some_iff.1 h;obtain⟨k3,k4⟩:=List.getElem?_eq_some_iff.1 h2;rw[List.drop_eq_getElem_cons k1,List.drop_eq_getElem_cons k3,k2,k4,arn]
theorem arn_short {D:List Nat} {i:Nat} {z:Int} (h:D.length<=i+1):arn z (D.drop i)=(0,0):=by
 have hl:(D.drop i).length<=1:=by rw[List.length_drop];omega
 generalize D.drop i=E at hl
 match E,hl with
 | [],_=>rfl
 | [_],_=>rfl
 | _::_::_,h=>simp at h
set_option maxRecDepth 100000 in
theorem around_any (ao:Option Addr) (n ac:Nat) (D:List Nat) (z:Int) (w:World) (ha:Pt.RdI w ao (D.map fun(x:Nat)=>(x:Int))) (hn:n=D.length) (hn9:n<=100000) (h0:n=0\/∃g,ao=some ⟨g,0,none⟩):
  Calls Tryz.prog 15 #[.slice ao n ac,.int .i64 z] w fun e w'=>e= .returned (.tuple #[.int .i64 ((arn z D).1:Nat),.int .i64 ((arn z D).2:Nat)])/\Below w.heap.size w w':=by
 have HA:=hid ha;have HN:=hid hn;have H0:=hid h0;clear ha hn h0;go_enter Tryz.func15,Tryz.ntmps15;go_wp2;go_loopw [6] (fun y wr=>∃k:Nat,y= .int .i64 k/\1<=k/\k<=n+1/\wr=w/\Hid (arn z D=arn z (D.drop (k - 1)))) (fun y _=>n+1 - (intOf y).toNat)
 case atStart=>exact⟨1,rfl,Nat.le_refl _,by omega,rfl,hid rfl⟩
 case round=>
  obtain⟨k,rfl,hk1,hi,rfl,HE⟩:=hrel;have e4:IntKind.i64.wrap ((k:Int) - 1)=(k:Int) - 1:=by unfold IntKind.wrap IntKind.bits IntKind.signed;simp;omega
  by_cases hlt:k<n
  ·have i0:(0:Int)<=(k:Int):=by omega
   have i1:(k:Int)<(n:Int):=by omega
   have e5:((k:Int) - 1).toNat=k - 1:=by omega
   have e6:(0:Int)<=(k:Int) - 1:=by omega
   have e7:(k:Int) - 1<(n:Int):=by omega
   have e8:(1:Int)<=(k:Int):=by omega
   have hil:k - 1<D.length:=by have:=HN.out;omega
   have hil2:k<D.length:=by have:=HN.out;omega
   obtain⟨a,rfl,c1⟩:=zeX HA.out hil;obtain⟨a2,ha2,c2⟩:=zeX HA.out hil2
   cases ha2
   obtain⟨g,hg⟩:∃g,a=⟨g,0,none⟩:=by
    rcases H0.out with h | ⟨g,h⟩
    ·omega
    ·cases h;exact⟨g,rfl⟩
   subst hg;rw[Addr.add_lit,Nat.zero_add] at c1 c2;obtain⟨x,hx⟩:∃x,x=D[k - 1]:=⟨_,rfl⟩;obtain⟨y,hy⟩:∃y,y=D[k]:=⟨_,rfl⟩;have HX:=hid (show D[k - 1]? =some x by rw[hx];exact List.getElem?_eq_getElem hil)
   have HY:=hid (show D[k - 1+1]? =some y by rw[hy,show k - 1+1=k by omega];exact List.getElem?_eq_getElem hil2)
   rw[<- hx] at c1;rw[<- hy] at c2;clear hx hil hy hil2
   by_cases hz:(x:Int)<=z
   ·by_cases hz2:z<(y:Int)
    ·have HR:=hid (HE.out.trans ((arn_step HX.out HY.out).trans (if_pos ⟨hz,hz2⟩)))
     go_wp2_with fail;go_quiet (fail);go_wp2;go_ret2;rw[HR.out];exact⟨rfl,⟨rfl,rfl,rfl,Nat.le_refl _,fun _ _=>rfl⟩⟩
    ·have HR:=hid (HE.out.trans ((arn_step HX.out HY.out).trans (if_neg (fun h=>hz2 h.2))))
     go_wp2;go_roundw
     case rel=>exact⟨k+1,by go_num,by omega,by omega,trivial,hid (by rw[HR.out,show k - 1+1=k+1 - 1 by omega])⟩
     case measure=>simp[intOf];omega
   ·have HR:=hid (HE.out.trans ((arn_step HX.out HY.out).trans (if_neg (fun h=>hz h.1))))
    go_wp2;go_roundw
    case rel=>exact⟨k+1,by go_num,by omega,by omega,trivial,hid (by rw[HR.out,show k - 1+1=k+1 - 1 by omega])⟩
    case measure=>simp[intOf];omega
  ·have i1:¬(k:Int)<(n:Int):=by omega
   have HR:=hid (show arn z D=(0,0) by rw[HE.out];exact arn_short (by have:=HN.out;omega))
   go_wp2;go_ret2;rw[HR.out];exact⟨rfl,Below.refl _ _⟩
def anyE (z:Int) (D:List Nat):Bool:=D.any fun x=>(x:Int)==z
set_option maxRecDepth 100000 in
theorem has_any (ao:Option Addr) (n ac:Nat) (D:List Nat) (z:Int) (w:World) (ha:Pt.RdI w ao (D.map fun(x:Nat)=>(x:Int))) (hn:n=D.length) (hn9:n<=100000):
  Calls Tryz.prog 17 #[.slice ao n ac,.int .i64 z] w fun e w'=>e= .returned (.bool (anyE z D))/\w'=w:=by
 have HA:=hid ha;have HN:=hid hn;clear ha hn;go_enter Tryz.func17,Tryz.ntmps17;go_wp2;go_loopw [5] (fun y wr=>∃i:Nat,y= .int .i64 i/\i<=n/\wr=w/\Hid (anyE z D=anyE z (D.drop i))) (fun y _=>n - (intOf y).toNat)
 case atStart=>exact⟨0,rfl,Nat.zero_le _,rfl,hid rfl⟩
 case round=>
  obtain⟨i,rfl,hi,rfl,HE⟩:=hrel
  by_cases hlt:i<n
  ·have i0:(0:Int)<=(i:Int):=by omega
   have i1:(i:Int)<(n:Int):=by omega
   have hil:i<D.length:=by have:=HN.out;omega
   obtain⟨a,rfl,c1⟩:=zeX HA.out hil;obtain⟨x,hx⟩:∃x,x=D[i]:=⟨_,rfl⟩;have HS:=hid (show anyE z (D.drop i)=(((x:Int)==z) || anyE z (D.drop (i+1))) by rw[List.drop_eq_getElem_cons hil,<- hx];unfold anyE;rw[List.any_cons])
   rw[<- hx] at c1;clear hx hil
   by_cases hz:(x:Int)=z
   ·have hz2:((x:Int)==z)=true:=beq_iff_eq.2 hz
    have HR:=hid (show anyE z D=true by rw[HE.out,HS.out,hz2];rfl)
    clear hz;go_wp2;go_ret;exact⟨by rw[HR.out];rfl,rfl⟩
   ·have hz2:((x:Int)==z)=false:=beq_eq_false_iff_ne.2 hz
    have HR:=hid (show anyE z D=anyE z (D.drop (i+1)) by rw[HE.out,HS.out,hz2];rfl)
    clear hz;go_wp2;go_roundw
    case rel=>exact⟨i+1,by go_num,by omega,trivial,HR⟩
    case measure=>simp[intOf];omega
  ·have i1:¬(i:Int)<(n:Int):=by omega
   have HR:=hid (show anyE z D=false by rw[HE.out,List.drop_of_length_le (by have:=HN.out;omega)];rfl)
   go_wp2;go_ret;exact⟨by rw[HR.out];rfl,rfl⟩
theorem below_drN {B:Nat} {w w':World} (h:Below B w w') (k:Nat):Below B w (w'.drewN k):=⟨h.os,h.tape,h.output,h.size,h.block⟩
set_option maxRecDepth 100000 in
theorem zes (ao bo:Option Addr) (n ac bc:Nat) (l:List Int) (w:World) (ha:Pt.RdI w ao l) (hb:Pt.RdI w bo l) (hn:n=l.length) (hl:n<=100000):
  Calls Tryz.prog 13 #[.slice ao n ac,.slice bo n bc] w fun e w'=>e= .returned (.bool true)/\Below w.heap.size w w':=by
 have HA:=hid ha;have HB:=hid hb;have HN:=hid hn;clear ha hb hn;go_enter Tryz.func13,Tryz.ntmps13;go_wp2;go_loopw [5] (fun i wr=>∃k:Nat,k<=n/\i= .int .i64 k/\Hid (Below w.heap.size w wr)) (fun i _=>n - (intOf i).toNat)
 case atStart=>exact⟨0,by omega,rfl,hid (Below.refl _ _)⟩
 case round=>
  obtain⟨k,hk,rfl,HBr⟩:=hrel
  by_cases hlt:k<n
  ·have hkl:k<l.length:=by have:=HN.out;omega
   obtain⟨a,rfl,_,a0⟩:=HA.out.below HBr.out k l[k] (List.getElem?_eq_getElem hkl);obtain⟨b,rfl,_,b0⟩:=HB.out.below HBr.out k l[k] (List.getElem?_eq_getElem hkl);obtain⟨x,hx⟩:∃x,l[k]=x:=⟨_,rfl⟩;rw[hx] at a0 b0;have i3:(k:Int)<(n:Int):=by omega
   have i0:(0:Int)<=(k:Int):=by omega
   have xx:(x != x)=false:=bne_eq_false_iff_eq.2 rfl;clear hx hkl;go_wp2_with fail;go_quiet (fail);go_wp2;go_roundw
   case rel=>exact⟨k+1,by omega,by go_num,hid (below_drN HBr.out _)⟩
   case measure=>simp[intOf];omega
  ·have i3:¬(k:Int)<(n:Int):=by omega
   go_wp2;go_ret;exact⟨rfl,HBr.out⟩
end Br
end Go.Proofs.YtokpjifnlifafaaGreatDoor
