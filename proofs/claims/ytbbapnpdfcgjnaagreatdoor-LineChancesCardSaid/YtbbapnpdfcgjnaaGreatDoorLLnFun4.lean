/- LnFun4, LnFun5: parts of the proof, joined. -/
import Derived.Test.YtbbapnpdfcgjnaaGreatDoorLBase
open List renaming length_drop->xa, length_take->xb
set_option maxHeartbeats 64000000
namespace Go.Proofs.YtbbapnpdfcgjnaaGreatDoor
namespace Ln
open Go.RowKit
theorem ext_mid (l:List UInt8) (a b:Nat):(⟨l.toArray⟩:ByteArray).extract a b=⟨((l.take b).drop a).toArray⟩:=by
 apply ByteArray.ext
 simp[ByteArray.data_extract,List.drop_take]
theorem znb (l:List UInt8):(dec l).2<=l.length:=by
 by_cases h:l=[]
 ·subst h;exact Nat.le_refl _
 ·exact dec_le l h
theorem zqo (s:List UInt8) (fr p:Nat) (w:World) (ht:Tb w) (hl:s.length<=1000000000) (hp:p<=s.length) (hf:fr<=p):
  Calls Tryz.prog 98 #[.string ⟨s.toArray⟩,.int .i64 fr,.int .i64 p] w fun e w'=>e= .returned (.bool (zcW s fr p))/\Below w.heap.size w w':=by
 have HT:=hid ht;have HW:=hid (znb (s.drop p));have hdl:(s.drop p).length=s.length - p:=xa;have htl:(s.take p).length=p:=by rw[xb];omega
 have HDL:=hid hdl;have HTL:=hid htl;clear ht hdl htl;go_enter Tryz.func98,Tryz.ntmps98;go_wp2_with fail;rw[ext_take];refine(zen (s.take p) w HT.out (by have:=HTL.out;omega)).mono ?_
 rintro e w1 ⟨rfl,be⟩;have HB1:=hid be;obtain⟨a,ha⟩:∃a,a=zaA (s.take p):=⟨_,rfl⟩;have HA:=hid ha;rw[<- ha];clear be ha;go_wp2_with fail;rw[ext_drop];refine(first_any (s.drop p) w1 (HT.out.below HB1.out)).mono ?_;rintro e w2 ⟨rfl,be⟩;have HB2:=hid (HB1.out.trans (be.mono HB1.out.size));obtain⟨b,hb⟩:∃b,b=zaD (s.drop p):=⟨_,rfl⟩;obtain⟨n,hn⟩:∃n,n=(dec (s.drop p)).2:=⟨_,rfl⟩;have HBE:=hid hb;have HN:=hid hn;have hpn:p+n<=s.length:=by have:=HW.out;have:=HDL.out;omega
 rw[<- hb,<- hn];clear be hb hn;have HJ:=hid (show zcW s fr p=if zbE a b then true else if amg [12,17,16,24,19] b then true else if zbq a b then true else if amg [21,22] b then zkf (s.take p) else if amg [21,22] a&&b==9 then zaD (s.drop (p+n))==20 else if a=25/\b=25 then zch ((s.take p).drop fr).length ((s.take p).drop fr) false else false by rw[HA.out,HBE.out,HN.out];rfl)
 clear HA HBE HN HW;go_wp2_with fail;refine(zul a b w2).mono ?_;rintro e w3 ⟨rfl,be⟩;have HB3:=hid (HB2.out.trans (be.mono HB2.out.size));obtain⟨q3,hq3⟩:∃q,q=zbE a b:=⟨_,rfl⟩;rw[<- hq3] at HJ;rw[<- hq3];clear hq3 be
 cases q3 with
 | true=>
  go_wp2;go_ret;exact⟨by rw[HJ.out];rfl,HB3.out⟩
 | false=>
  go_wp2_with fail;refine(zaI b [12,17,16,24,19] w3 (by decide)).mono ?_
  rintro e w4 ⟨rfl,be⟩;have HB4:=hid (HB3.out.trans (be.mono HB3.out.size));obtain⟨q4,hq4⟩:∃q,q=amg [12,17,16,24,19] b:=⟨_,rfl⟩;rw[<- hq4] at HJ;rw[<- hq4];clear hq4 be
  cases q4 with
  | true=>
   go_wp2;go_ret;exact⟨by rw[HJ.out];rfl,HB4.out⟩
  | false=>
   go_wp2_with fail;refine(zjw a b w4).mono ?_;rintro e w5 ⟨rfl,be⟩;have HB5:=hid (HB4.out.trans (be.mono HB4.out.size));obtain⟨q5,hq5⟩:∃q,q=zbq a b:=⟨_,rfl⟩;rw[<- hq5] at HJ;rw[<- hq5];clear hq5 be
   cases q5 with
   | true=>
    go_wp2;go_ret;exact⟨by rw[HJ.out];rfl,HB5.out⟩
   | false=>
    go_wp2_with fail;refine(zaI b [21,22] w5 (by decide)).mono ?_
    rintro e w6 ⟨rfl,be⟩;have HB6:=hid (HB5.out.trans (be.mono HB5.out.size));obtain⟨q6,hq6⟩:∃q,q=amg [21,22] b:=⟨_,rfl⟩;rw[<- hq6] at HJ;rw[<- hq6];clear hq6 be
    cases q6 with
    | true=>
     go_wp2_with fail;rw[ext_take];refine(zpP (s.take p) w6 (HT.out.below HB6.out) (by have:=HTL.out;omega)).mono ?_
     rintro e w7 ⟨rfl,be⟩;have HB7:=hid (HB6.out.trans (be.mono HB6.out.size));clear be;obtain⟨v,hv⟩:∃v,v=zkf (s.take p):=⟨_,rfl⟩;rw[<- hv] at HJ;rw[<- hv];clear hv;go_wp2;go_ret;exact⟨by rw[HJ.out];rfl,HB7.out⟩
    | false=>
     go_wp2_with fail;refine(zaI a [21,22] w6 (by decide)).mono ?_
     rintro e w7 ⟨rfl,be⟩;have HB7:=hid (HB6.out.trans (be.mono HB6.out.size));obtain⟨q7,hq7⟩:∃q,q=amg [21,22] a:=⟨_,rfl⟩;rw[<- hq7] at HJ;rw[<- hq7];clear hq7 be;have tail:¬(q7=true/\b=9)->Hid (zcW s fr p=if a=25/\b=25 then zch ((s.take p).drop fr).length ((s.take p).drop fr) false else false):=fun hne=>by
      show _=_
      rw[HJ.out];have e:(q7&&b==9)=false:=by
       cases q7
       ·rfl
       ·rw[Bool.true_and];exact beq_eq_false_iff_ne.2 (fun h=>hne ⟨rfl,h⟩)
      rw[e];rfl
     have TAIL:=hid tail;clear tail
     by_cases h9:q7=true/\b=9
     ·obtain⟨rfl,rfl⟩:=h9
      go_wp2_with fail;rw[ext_drop];refine(first_any (s.drop (p+n)) w7 (HT.out.below HB7.out)).mono ?_;rintro e w8 ⟨rfl,be⟩;have HB8:=hid (HB7.out.trans (be.mono HB7.out.size));obtain⟨x,hx⟩:∃x,x=zaD (s.drop (p+n)):=⟨_,rfl⟩;obtain⟨m,hm⟩:∃m,m=(dec (s.drop (p+n))).2:=⟨_,rfl⟩;rw[<- hx] at HJ;rw[<- hx,<- hm];clear be hx hm TAIL;go_wp2;go_ret;exact⟨by rw[HJ.out];rfl,HB8.out⟩
     ·have HJ2:=hid (TAIL.out h9).out
      have hg:q7=true->(b==9)=false:=fun h=>beq_eq_false_iff_ne.2 (fun h'=>h9 ⟨h,h'⟩)
      have HG:=hid hg;clear TAIL HJ hg h9
      by_cases h25:a=25
      ·by_cases k25:b=25
       ·subst h25 k25
        cases q7 with
        | true=>
         go_wp2_with fail;rw[ext_mid];refine(zrZ ((s.take p).drop fr) w7 (HT.out.below HB7.out) (by have:=HTL.out;rw[xa];omega)).mono ?_
         rintro e w8 ⟨rfl,be⟩;have HB8:=hid (HB7.out.trans (be.mono HB7.out.size));obtain⟨v,hv⟩:∃v,v=zch ((s.take p).drop fr).length ((s.take p).drop fr) false:=⟨_,rfl⟩;rw[<- hv] at HJ2;rw[<- hv];clear be hv;go_wp2;go_ret;exact⟨by rw[HJ2.out];rfl,HB8.out⟩
        | false=>
         go_wp2_with fail;rw[ext_mid];refine(zrZ ((s.take p).drop fr) w7 (HT.out.below HB7.out) (by have:=HTL.out;rw[xa];omega)).mono ?_
         rintro e w8 ⟨rfl,be⟩;have HB8:=hid (HB7.out.trans (be.mono HB7.out.size));obtain⟨v,hv⟩:∃v,v=zch ((s.take p).drop fr).length ((s.take p).drop fr) false:=⟨_,rfl⟩;rw[<- hv] at HJ2;rw[<- hv];clear be hv;go_wp2;go_ret;exact⟨by rw[HJ2.out];rfl,HB8.out⟩
       ·have HJ3:=hid (show zcW s fr p=false by rw[HJ2.out,if_neg (fun h=>k25 h.2)])
        have b25:(b==25)=false:=beq_eq_false_iff_ne.2 k25;subst h25;clear HJ2 k25
        cases q7 with
        | true=>
         have g9:=HG.out rfl;go_wp2;go_ret;exact⟨by rw[HJ3.out];rfl,HB7.out⟩
        | false=>
         go_wp2;go_ret;exact⟨by rw[HJ3.out];rfl,HB7.out⟩
      ·have HJ3:=hid (show zcW s fr p=false by rw[HJ2.out,if_neg (fun h=>h25 h.1)])
       have a25:(a==25)=false:=beq_eq_false_iff_ne.2 h25;clear HJ2 h25
       cases q7 with
       | true=>
        have g9:=HG.out rfl;go_wp2;go_ret;exact⟨by rw[HJ3.out];rfl,HB7.out⟩
       | false=>
        go_wp2;go_ret;exact⟨by rw[HJ3.out];rfl,HB7.out⟩
end Ln
namespace Ln
open Go.RowKit
def zcV (s:List UInt8) (p:Nat):Bool:=decide (p=s.length) || zbX (zaE (s.take p))
theorem zqq (s:List UInt8) (p:Nat) (w:World) (ht:Tb w) (hl:s.length<=1000000000) (hp:p<=s.length):
  Calls Tryz.prog 63 #[.string ⟨s.toArray⟩,.int .i64 p] w fun e w'=>e= .returned (.bool (zcV s p))/\Below w.heap.size w w':=by
 have HT:=hid ht;have HTL:=hid (show(s.take p).length=p by rw[xb];omega)
 clear ht;go_enter Tryz.func63,Tryz.ntmps63;go_wp2_with fail;rw[ext_take];refine(zcu (s.take p) w HT.out (by have:=HTL.out;omega)).mono ?_
 rintro e w1 ⟨rfl,be⟩;have HB1:=hid be;obtain⟨a,ha⟩:∃a,a=zaE (s.take p):=⟨_,rfl⟩;obtain⟨m,hm⟩:∃m:Nat,m=(zaH (s.take p)).2:=⟨_,rfl⟩;have HA:=hid ha;rw[<- ha,<- hm];clear be ha hm
 by_cases hps:p=s.length
 ·have HV:=hid (show zcV s p=true by unfold zcV;rw[hps];simp)
  have b1:((p:Int)==(s.length:Int))=true:=by rw[hps];exact beq_self_eq_true _
  have HP:=hid hps;clear hps;go_wp2;go_ret;exact⟨by rw[HV.out];rfl,HB1.out⟩
 ·have b1:((p:Int)==(s.length:Int))=false:=beq_eq_false_iff_ne.2 (by omega)
  have HV:=hid (show zcV s p=zbX a by unfold zcV;rw[HA.out,decide_eq_false hps,Bool.false_or])
  go_wp2_with fail;refine(zbY a w1).mono ?_;rintro e w2 ⟨rfl,be⟩;have HB2:=hid (HB1.out.trans (be.mono HB1.out.size));obtain⟨v,hv⟩:∃v,v=zbX a:=⟨_,rfl⟩;rw[<- hv] at HV;rw[<- hv];clear be hv;go_wp2;go_ret;exact⟨by rw[HV.out];rfl,HB2.out⟩
theorem zBx (s:List UInt8) (fr p:Nat) (w:World) (ht:Tb w) (hl:s.length<=1000000000) (hp:p<=s.length) (hf:fr<=p):
  Calls Tryz.prog 64 #[.string ⟨s.toArray⟩,.int .i64 fr,.int .i64 p] w fun e w'=>e= .returned (.bool (zfc s fr p))/\Below w.heap.size w w':=by
 have HT:=hid ht;have HTL:=hid (show(s.take p).length=p by rw[xb];omega)
 have HWL:=hid (zet [4] _ (s.take p) (Nat.le_refl _));clear ht;go_enter Tryz.func64,Tryz.ntmps64;go_wp2_with fail;rw[ext_take];refine(zcu (s.take p) w HT.out (by have:=HTL.out;omega)).mono ?_
 rintro e w1 ⟨rfl,be⟩;have HB1:=hid be;obtain⟨a,ha⟩:∃a,a=zaE (s.take p):=⟨_,rfl⟩;obtain⟨m,hm⟩:∃m:Nat,m=(zaH (s.take p)).2:=⟨_,rfl⟩;have HA:=hid ha;rw[<- ha,<- hm];clear be ha hm;go_wp2_with fail;rw[ext_drop];refine(first_any (s.drop p) w1 (HT.out.below HB1.out)).mono ?_;rintro e w2 ⟨rfl,be⟩;have HB2:=hid (HB1.out.trans (be.mono HB1.out.size));obtain⟨b,hb⟩:∃b,b=zaD (s.drop p):=⟨_,rfl⟩;obtain⟨n,hn⟩:∃n,n=(dec (s.drop p)).2:=⟨_,rfl⟩;have HBE:=hid hb;rw[<- hb,<- hn];clear be hb hn;obtain⟨t,htt⟩:∃t,t=zer [4] (s.take p):=⟨_,rfl⟩;have HTT:=hid htt;rw[<- htt] at HWL;have HV:=hid (show zfc s fr p=if a=2/\b=3 then false else if zbX a then true else if zbX b then false else if amg [4,5] b then false else if zaE t=5 then true else if a=4 then !zaQ (zaA t) b else !(b==8)&& !zaQ (zaA t) b&& !zcW s fr p by rw[HA.out,HBE.out,htt];rfl)
 clear HA HBE htt
 by_cases h23:a=2/\b=3
 ·obtain⟨rfl,rfl⟩:=h23
  go_wp2;go_ret;exact⟨by rw[HV.out];rfl,HB2.out⟩
 have H23:=hid h23
 replace HV:=hid (HV.out.trans (if_neg h23))
 have g2:a=2->(b==3)=false:=fun h=>beq_eq_false_iff_ne.2 (fun h'=>h23 ⟨h,h'⟩)
 have G2:=hid g2;clear h23 g2;have step:∀(X:Prop),(a=2->(b==3)=false->X)->((a==2)=false->X)->X:=fun X h1 h2=>by
  by_cases h:a=2
  ·exact h1 h (G2.out h)
  ·exact h2 (beq_eq_false_iff_ne.2 h)
 have STEP:=hid step;clear step;refine STEP.out _ (fun e2 b3=>?_) (fun n2=>?_)
 ·subst e2
  have HV2:=hid (show zfc s fr p=true by rw[HV.out];rfl)
  clear HV;go_wp2_with fail;refine(zbY 2 w2).mono ?_;rintro e w3 ⟨rfl,be⟩;have HB3:=hid (HB2.out.trans (be.mono HB2.out.size));rw[show zbX 2=true by decide];clear be;go_wp2;go_ret;exact⟨by rw[HV2.out];rfl,HB3.out⟩
 ·go_wp2_with fail
  refine(zbY a w2).mono ?_;rintro e w3 ⟨rfl,be⟩;have HB3:=hid (HB2.out.trans (be.mono HB2.out.size));obtain⟨q3,hq3⟩:∃q,q=zbX a:=⟨_,rfl⟩;rw[<- hq3] at HV;rw[<- hq3];clear be hq3 STEP G2 H23
  cases q3 with
  | true=>
   go_wp2;go_ret;exact⟨by rw[HV.out];rfl,HB3.out⟩
  | false=>
   go_wp2_with fail;refine(zbY b w3).mono ?_;rintro e w4 ⟨rfl,be⟩;have HB4:=hid (HB3.out.trans (be.mono HB3.out.size));obtain⟨q4,hq4⟩:∃q,q=zbX b:=⟨_,rfl⟩;rw[<- hq4] at HV;rw[<- hq4];clear be hq4
   cases q4 with
   | true=>
    go_wp2;go_ret;exact⟨by rw[HV.out];rfl,HB4.out⟩
   | false=>
    go_wp2_with fail;refine(zaI b [4,5] w4 (by decide)).mono ?_
    rintro e w5 ⟨rfl,be⟩;have HB5:=hid (HB4.out.trans (be.mono HB4.out.size));obtain⟨q5,hq5⟩:∃q,q=amg [4,5] b:=⟨_,rfl⟩;rw[<- hq5] at HV;rw[<- hq5];clear be hq5
    cases q5 with
    | true=>
     go_wp2;go_ret;exact⟨by rw[HV.out];rfl,HB5.out⟩
    | false=>
     have HV:=hid (show zfc s fr p=if zaE t=5 then true else if a=4 then !zaQ (zaA t) b else !(b==8)&& !zaQ (zaA t) b&& !zcW s fr p from HV.out)
     go_wp2_with fail;rw[ext_take];refine(zdE (s.take p) [4] w5 (HT.out.below HB5.out) (by have:=HTL.out;omega) (by decide) (by decide)).mono ?_
     rintro e w6 ⟨rfl,be⟩;have HB6:=hid (HB5.out.trans (be.mono HB5.out.size));rw[<- HTT.out];clear be HTT;have htl:t.length<=1000000000:=by have:=HWL.out;have:=HTL.out;omega
     go_wp2_with fail;refine(zcu t w6 (HT.out.below HB6.out) htl).mono ?_;rintro e w7 ⟨rfl,be⟩;have HB7:=hid (HB6.out.trans (be.mono HB6.out.size));obtain⟨x,hx⟩:∃x,x=zaE t:=⟨_,rfl⟩;obtain⟨y,hy⟩:∃y:Nat,y=(zaH t).2:=⟨_,rfl⟩;rw[<- hx] at HV;rw[<- hx,<- hy];clear be hx hy
     by_cases h5:x=5
     ·subst h5
      go_wp2;go_ret;exact⟨by rw[HV.out];rfl,HB7.out⟩
     ·have b5:(x==5)=false:=beq_eq_false_iff_ne.2 h5
      have HV:=hid (HV.out.trans (if_neg h5));clear h5
      by_cases h4:a=4
      ·subst h4
       have HV:=hid (HV.out.trans (if_pos rfl));go_wp2_with fail;refine(zen t w7 (HT.out.below HB7.out) htl).mono ?_;rintro e w8 ⟨rfl,be⟩;have HB8:=hid (HB7.out.trans (be.mono HB7.out.size));obtain⟨z,hz⟩:∃z,z=zaA t:=⟨_,rfl⟩;rw[<- hz] at HV;rw[<- hz];clear be hz;go_wp2_with fail;refine(zoL z b w8).mono ?_;rintro e w9 ⟨rfl,be⟩;have HB9:=hid (HB8.out.trans (be.mono HB8.out.size));obtain⟨v,hv⟩:∃v,v=zaQ z b:=⟨_,rfl⟩;rw[<- hv] at HV;rw[<- hv];clear be hv;go_wp2;go_ret;exact⟨by rw[HV.out];rfl,HB9.out⟩
      ·have b4:(a==4)=false:=beq_eq_false_iff_ne.2 h4
       have HV:=hid (HV.out.trans (if_neg h4));clear h4
       by_cases h8:b=8
       ·subst h8
        go_wp2;go_ret;exact⟨by rw[HV.out];rfl,HB7.out⟩
       ·have b8:(b==8)=false:=beq_eq_false_iff_ne.2 h8
        have HV:=hid (show zfc s fr p=(!zaQ (zaA t) b&& !zcW s fr p) by rw[HV.out,b8];rfl)
        have n8:(b != 8)=true:=by simp[h8]
        clear h8;go_wp2_with fail;refine(zen t w7 (HT.out.below HB7.out) htl).mono ?_;rintro e w8 ⟨rfl,be⟩;have HB8:=hid (HB7.out.trans (be.mono HB7.out.size));obtain⟨z,hz⟩:∃z,z=zaA t:=⟨_,rfl⟩;rw[<- hz] at HV;rw[<- hz];clear be hz;go_wp2_with fail;refine(zoL z b w8).mono ?_;rintro e w9 ⟨rfl,be⟩;have HB9:=hid (HB8.out.trans (be.mono HB8.out.size));obtain⟨v,hv⟩:∃v,v=zaQ z b:=⟨_,rfl⟩;rw[<- hv] at HV;rw[<- hv];clear be hv
        cases v with
        | true=>
         go_wp2;go_ret;exact⟨by rw[HV.out];rfl,HB9.out⟩
        | false=>
         go_wp2_with fail;refine(zqo s fr p w9 (HT.out.below HB9.out) hl hp hf).mono ?_;rintro e w10 ⟨rfl,be⟩;have HB10:=hid (HB9.out.trans (be.mono HB9.out.size));obtain⟨u,hu⟩:∃u,u=zcW s fr p:=⟨_,rfl⟩;rw[<- hu] at HV;rw[<- hu];clear be hu;go_wp2;go_ret;exact⟨by rw[HV.out];rfl,HB10.out⟩
end Ln
end Go.Proofs.YtbbapnpdfcgjnaaGreatDoor
