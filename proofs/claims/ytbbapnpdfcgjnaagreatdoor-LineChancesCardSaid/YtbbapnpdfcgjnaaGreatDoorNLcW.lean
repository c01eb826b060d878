/- LcW: parts of the proof, joined. -/
import Derived.Test.YtbbapnpdfcgjnaaGreatDoorNLnRd
import Derived.Test.YtbbapnpdfcgjnaaGreatDoorNWdLv
set_option maxHeartbeats 64000000
namespace Go.Proofs.YtbbapnpdfcgjnaaGreatDoor
namespace Ln
open Go.RowKit
set_option maxRecDepth 100000 in
theorem zqc (l:List UInt8) (hl:l.length<=60) (w:World) (ht:Tb w) (hv:Ev.Tbs tabs w):
  Calls Tryz.prog 7 #[.string ⟨l.toArray⟩] w fun e w'=>e= .returned (.bool true)/\Below w.heap.size w w':=by
 have HV:=hid hv;have hl1:¬(60:Int)<(l.length:Int):=by omega
 have HG:=hid (fun(W:World) (hb:Below w.heap.size w W)=>zav l W (ht.below hb) (by omega))
 have HG3:=hid (fun(W:World)=>sA l (by omega) W)
 have hP9:(eM l (rl l).length).length<=60:=by
  have h1:=zqM l (rl l).length;have h2:=Pt.zbW _ l (Nat.le_refl _);omega
 clear ht hv;obtain⟨P,hP⟩:∃P,P=eM l (rl l).length:=⟨_,rfl⟩;rw[<- hP] at HG HG3 hP9;clear hP;go_enter Tryz.func7,Tryz.ntmps7;go_wp2_with fail;refine(HG.out w (Below.refl _ _)).mono ?_;rintro e w1 ⟨v,rfl,ho,hb⟩;obtain⟨vo,vc,rfl,hr,hf⟩:=zaV ho;have HR:=hid hr;have HF:=hid hf;have HB:=hid hb;clear ho hr hf hb;go_wp2_with fail;refine(HG3.out w1).mono ?_;rintro e w2 ⟨bo,bc,rfl,ho,hb⟩;obtain⟨bo',bc',hv,hr,hf⟩:=zaV ho
 cases hv
 have HR2:=hid hr;have HB2:=hid (HB.out.trans (hb.mono HB.out.size));have HR1:=hid (HR.out.below hb);have HNe:=hid (show ∀g,vo=some ⟨g,0,none⟩->P.length≠0->∀b,bo=some ⟨b,0,none⟩->b≠g from fun g hg hn0 b hbb e=>by
  subst hg;subst hbb
  rcases HF.out with ⟨h1,_⟩ | ⟨g',cur,h1,_,h3,_⟩
  ·exact hn0 h1
  ·cases h1
   rcases hf with ⟨h4,_⟩ | ⟨b',cur',h4,h5,_⟩
   ·exact hn0 h4
   ·cases h4
    have:=h3.lt;omega)
 have HF2:=hid (show P.length=0\/∃g cur,vo=some ⟨g,0,none⟩/\w.heap.size<=g/\Pw.Cb w2 g cur 53/\P.length * 2<=cur.size by
  rcases HF.out with ⟨h1,_⟩ | ⟨g,cur,h1,h2,h3,h4⟩
  ·exact .inl h1
  ·exact .inr ⟨g,cur,h1,h2,h3.below hb,h4⟩)
 obtain⟨n,hn⟩:∃n,n=P.length:=⟨_,rfl⟩;rw[<- hn] at HNe HF2 hP9⊢;have HN:=hid hn;clear ho hr hf hb hn HR HF HB HG3;go_wp2_with fail;refine(pJ vo bo n vc bc P w2 HR1.out HR2.out HN.out (by omega)).mono ?_
 rintro e w3 ⟨rfl,hb⟩;have HB3:=hid (HB2.out.trans (hb.mono HB2.out.size));have HR3:=hid (HR2.out.below hb);have HF3:=hid (show n=0\/∃g cur,vo=some ⟨g,0,none⟩/\w.heap.size<=g/\Pw.Cb w3 g cur 53/\n * 2<=cur.size by
  rcases HF2.out with h1 | ⟨g,cur,h1,h2,h3,h4⟩
  ·exact .inl h1
  ·exact .inr ⟨g,cur,h1,h2,h3.below hb,h4⟩)
 clear hb HB2 HR2 HR1 HF2;go_wp2;go_loopw [5] (fun y wr=>∃i:Nat,y= .int .i64 i/\i<=n/\Hid (n=0\/∃g cur,vo=some ⟨g,0,none⟩/\w.heap.size<=g/\Pw.Cb wr g cur 53/\n * 2<=cur.size)/\Hid (qq wr bo P)/\Hid (Below w.heap.size w wr)) (fun y _=>n - (intOf y).toNat)
 case atStart=>exact⟨0,rfl,Nat.zero_le _,HF3,HR3,HB3⟩
 case round=>
  obtain⟨i,rfl,hi,HF,HR,HB⟩:=hrel;clear HF3 HR3 HB3
  by_cases hlt:i<n
  ·have k0:(0:Int)<=(i:Int):=by omega
   have k1:(i:Int)<(n:Int):=by omega
   obtain⟨g,cur,hg,hgl,hC,hcs⟩:∃g cur,vo=some ⟨g,0,none⟩/\w.heap.size<=g/\Pw.Cb wr g cur 53/\n * 2<=cur.size:=by
    rcases HF.out with h | h
    ·omega
    ·exact h
   have hne:=HNe.out g hg (by omega)
   subst hg;have c0:=hC.cell (i * 2);have c1:=hC.cell (i * 2+1);rw[Array.getElem?_eq_getElem (by omega)] at c0 c1
   obtain⟨x0,hx0⟩:∃x,x=cur[i * 2]:=⟨_,rfl⟩;obtain⟨x1,hx1⟩:∃x,x=cur[i * 2+1]:=⟨_,rfl⟩;rw[<- hx0] at c0;rw[<- hx1] at c1;have f0:=hC.frozen (i * 2);have f1:=hC.frozen (i * 2+1);have HS:=hid (show n=0\/∃g' cur',some (⟨g,0,none⟩:Addr)=some ⟨g',0,none⟩/\w.heap.size<=g'/\Pw.Cb ((wr.setCell ⟨g,i * 2,none⟩ (.int .i64 (-1))).setCell ⟨g,i * 2+1,none⟩ (.bool false)) g' cur' 53/\n * 2<=cur'.size from .inr ⟨g,_,rfl,hgl,(hC.set (i * 2) _).set (i * 2+1) _,by simpa using hcs⟩)
   have HR2:=hid ((HR.out.set g (i * 2) (.int .i64 (-1)) hne).set g (i * 2+1) (.bool false) hne);have HB2:=hid (show Below w.heap.size w ((wr.setCell ⟨g,i * 2,none⟩ (.int .i64 (-1))).setCell ⟨g,i * 2+1,none⟩ (.bool false)) from(HB.out.setCell (by show w.heap.size<=g;exact hgl) _).setCell (by show w.heap.size<=g;exact hgl) _)
   clear hx0 hx1 hC hcs HF HR HB hne;go_wp2;go_roundw
   case rel=>exact⟨i+1,by go_num,by omega,HS,HR2,HB2⟩
   case measure=>simp[intOf];omega
  ·have k1:¬(i:Int)<(n:Int):=by omega
   go_wp2_with fail;refine(HG.out wr HB.out).mono ?_;rintro e w5 ⟨v,rfl,ho,hb⟩;obtain⟨ao,ac,rfl,hr,_⟩:=zaV ho;have HR5:=hid (HR.out.below hb);have HA5:=hid hr;have HB5:=hid (HB.out.trans (hb.mono HB.out.size));rw[<- HN.out];clear ho hr hb;go_wp2_with fail;refine(pJ ao bo n ac bc P w5 HA5.out HR5.out HN.out (by omega)).mono ?_
   rintro e w6 ⟨rfl,hb⟩;have HB6:=hid (HB5.out.trans (hb.mono HB5.out.size));clear hb;go_wp2_with fail;refine(zhw w6 (ziz HV.out HB6.out)).mono ?_;rintro e w7 ⟨rfl,hb⟩;have HB7:=hid (HB6.out.trans (hb.mono HB6.out.size));clear hb;go_wp2;go_ret;exact⟨rfl,HB7.out⟩
set_option maxRecDepth 100000 in
theorem zqb (l:List UInt8) (w:World) (ht:Tb w) (hv:Ev.Tbs tabs w):
  Calls Tryz.prog 7 #[.string ⟨l.toArray⟩] w fun e w'=>e= .returned (.bool true)/\Below w.heap.size w w':=by
 by_cases h0:60<l.length
 ·have HL:=hid (zhw w hv)
  have h1:(60:Int)<(l.length:Int):=by omega
  clear ht hv;go_enter Tryz.func7,Tryz.ntmps7;go_wp2_with fail;refine HL.out.mono ?_;rintro e w1 ⟨rfl,hb⟩;have HB:=hid hb;clear hb HL;go_wp2;go_ret;exact⟨rfl,HB.out⟩
 ·exact zqc l (by omega) w ht hv
end Ln
end Go.Proofs.YtbbapnpdfcgjnaaGreatDoor
