/- WdFun1, WdFun2: parts of the proof, joined. -/
import Derived.RangeFuncNested
import Derived.Test.YtokpjifnlifafaaGreatDoorEBase
set_option maxHeartbeats 64000000
namespace Go.Proofs.YtokpjifnlifafaaGreatDoor
namespace Wd
open Go.RowKit
structure TbW (w:World):Prop where
 tabs:Lib.Utf8Tabs 0 1 w
 two:2<=w.heap.size
theorem TbW.below {w w':World} (h:TbW w) (hb:Below w.heap.size w w'):TbW w':=⟨tabs_below h.tabs h.two hb,Nat.le_trans h.two hb.size⟩
theorem wtake (l:List UInt8) (t:Nat):(⟨l.toArray⟩:ByteArray).extract 0 t=⟨(l.take t).toArray⟩:=by
 apply ByteArray.ext
 simp[ByteArray.data_extract]
def wstrLen:Value->Nat
 | .string s=>s.size
 | _=>0
theorem wnext_at {P:Program} (w:World) (it:Nat) (s:ByteArray) (pos:Nat) (ty:TypeId) (hit:w.heap[it]? =some (.stringIter s pos)) (h:pos<s.size):
  (Instr.next (.pointer (some ⟨it,0,none⟩)) true ty).run P w= .ok (.tuple #[.bool true,.int .i64 pos,.int .i32 (Utf8.decode s pos).1]) (w.putObj it (.stringIter s (pos+(Utf8.decode s pos).2))):=by
 simp[Instr.next,getObj,setObj,Sem.run_bind,Sem.run,hit,Result.andThen,h,goInt,World.putObj]
theorem wnext_stop {P:Program} (w:World) (it:Nat) (s:ByteArray) (pos:Nat) (ty:TypeId) (hit:w.heap[it]? =some (.stringIter s pos)) (h:¬pos<s.size):
  (Instr.next (.pointer (some ⟨it,0,none⟩)) true ty).run P w= .ok (.tuple #[.bool false]) w:=by
 simp[Instr.next,getObj,Sem.run,hit,h]
theorem wfirst_any (l:List UInt8) (w:World) (ht:TbW w):
  Calls Tryz.prog 57 #[.string ⟨l.toArray⟩] w fun e w'=>e= .returned (.tuple #[.int .i64 (zaD l),.int .i64 (dec l).2])/\Below w.heap.size w w':=by
 have HT:=hid ht;clear ht;go_enter Tryz.func57,Tryz.ntmps57;go_wp2_with fail;refine(decode_any l w HT.out.tabs).mono ?_;rintro e w1 ⟨rfl,be⟩;have HB:=hid be;clear be;obtain⟨r,hr⟩:∃r:Int,r=((dec l).1:Int):=⟨_,rfl⟩;obtain⟨n,hn⟩:∃n:Nat,n=(dec l).2:=⟨_,rfl⟩;have HN:=hid hn;have HV:=hid (show zaD l=wdcls r by rw[hr];rfl)
 rw[<- hr,<- hn];clear hr hn;go_wp2_with fail;refine(zer r w1).mono ?_;rintro e w2 ⟨rfl,hw2⟩;obtain rfl:=hw2.symm;clear hw2;go_wp2;go_ret2;exact⟨by rw[HV.out,<- HN.out];rfl,HB.out⟩
theorem zep (l:List UInt8) (w:World) (ht:TbW w) (hl:l.length<=1000000000):
  Calls Tryz.prog 78 #[.string ⟨l.toArray⟩] w fun e w'=>e= .returned (.tuple #[.int .i64 (wlast l),.int .i64 (zaJ l).2])/\Below w.heap.size w w':=by
 have HT:=hid ht;clear ht;go_enter Tryz.func78,Tryz.ntmps78;go_wp2_with fail;refine(last_any l w (by omega) HT.out.tabs).mono ?_
 rintro e w1 ⟨rfl,be⟩;have HB:=hid be;clear be;obtain⟨r,hr⟩:∃r:Int,r=((zaJ l).1:Int):=⟨_,rfl⟩;obtain⟨n,hn⟩:∃n:Nat,n=(zaJ l).2:=⟨_,rfl⟩;have HN:=hid hn;have HV:=hid (show wlast l=wdcls r by rw[hr];rfl)
 rw[<- hr,<- hn];clear hr hn;go_wp2_with fail;refine(zer r w1).mono ?_;rintro e w2 ⟨rfl,hw2⟩;obtain rfl:=hw2.symm;clear hw2;go_wp2;go_ret2;exact⟨by rw[HV.out,<- HN.out];rfl,HB.out⟩
theorem wbase_any (l:List UInt8) (w:World) (ht:TbW w) (hl:l.length<=1000000000):
  Calls Tryz.prog 117 #[.string ⟨l.toArray⟩] w fun e w'=>e= .returned (.tuple #[.int .i64 (wbs l).1,.int .i64 (wbs l).2])/\Below w.heap.size w w':=by
 have HT:=hid ht;clear ht;go_enter Tryz.func117,Tryz.ntmps117;go_wp2;go_loopw [0] (fun fr wr=>∃l':List UInt8,fr= .string ⟨l'.toArray⟩/\l'.length<=1000000000/\Hid (wbs l=wbs l')/\Below w.heap.size w wr) (fun fr _=>wstrLen fr)
 case atStart=>exact⟨l,rfl,hl,rfl,Below.refl _ _⟩
 case round=>
  obtain⟨l',rfl,hl',HW,hB⟩:=hrel;have HB:=hid hB;clear hB
  by_cases he:l'=[]
  ·subst he
   have HE:=hid (show wbs l=(0,0) by rw[HW.out];rfl)
   go_wp2;go_ret2;exact⟨by rw[HE.out];rfl,HB.out⟩
  ·have he':l'.isEmpty=false:=by simpa using he
   obtain⟨hb1,hb2⟩:=wlast_bd l' he;have HNE:=hid he;clear he;go_wp2_with fail;refine(zep l' wr (HT.out.below HB.out) hl').mono ?_;rintro e w1 ⟨rfl,be1⟩;have HB1:=hid (HB.out.trans (be1.mono HB.out.size));obtain⟨c,hc⟩:∃c:Int,c=wlast l':=⟨_,rfl⟩;obtain⟨m,hm⟩:∃m:Nat,m=(zaJ l').2:=⟨_,rfl⟩;have HC:=hid hc;have HM:=hid hm;rw[<- hm] at hb1 hb2;rw[<- hc,<- hm];clear hc hm be1 HB;have HLE:=hid (show ltl l'=l'.take (l'.length - m) by unfold ltl;rw[HM.out])
   have HLT:=hid (zbN l' HNE.out);go_wp2_with fail;rw[wtake,<- HLE.out];refine(zbf c w1).mono ?_;rintro e w2 ⟨rfl,hw2⟩;obtain rfl:=hw2.symm;clear hw2;obtain⟨b,hb⟩:∃b,b=zaA c:=⟨_,rfl⟩;have HBB:=hid hb;rw[<- hb];clear hb
   cases b with
   | true=>
    have HY:=hid (show wbs l=wbs (ltl l') from HW.out.trans (wbs_yes l' HNE.out (by rw[<- HC.out,<- HBB.out])))
    go_wp2;exact⟨⟨ltl l',rfl,by have:=HLT.out;omega,HY.out,HB1.out⟩,by have:=HLT.out;show(ltl l').toArray.size<l'.toArray.size;simpa using this⟩
   | false=>
    have HY:=hid (show wbs l=(c,(ltl l').length) by rw[HW.out,wbs_no l' HNE.out (by rw[<- HC.out,<- HBB.out]),<- HC.out])
    go_wp2;go_ret2;exact⟨by rw[HY.out];rfl,HB1.out⟩
theorem wodd_any (l:List UInt8) (w:World) (ht:TbW w) (hl:l.length<=1000000000):
  Calls Tryz.prog 119 #[.string ⟨l.toArray⟩] w fun e w'=>e= .returned (.bool (wod l false))/\Below w.heap.size w w':=by
 have HT:=hid ht;clear ht;go_enter Tryz.func119,Tryz.ntmps119;go_wp2;go_loopw [0,3] (fun fs fo wr=>∃(l':List UInt8) (o:Bool),fs= .string ⟨l'.toArray⟩/\fo= .bool o/\l'.length<=1000000000/\Hid (wod l false=wod l' o)/\Below w.heap.size w wr) (fun fs _ _=>wstrLen fs)
 case atStart=>exact⟨l,false,rfl,rfl,hl,rfl,Below.refl _ _⟩
 case round=>
  obtain⟨l',o,rfl,rfl,hl',HW,hB⟩:=hrel;have HB:=hid hB;clear hB
  by_cases he:l'=[]
  ·subst he
   have HE:=hid (show wod l false=o by rw[HW.out];rfl)
   go_wp2;go_ret;exact⟨by rw[HE.out];rfl,HB.out⟩
  ·have he':l'.isEmpty=false:=by simpa using he
   obtain⟨hb1,hb2⟩:=wlast_bd l' he;have HST:=hid (HW.out.trans (wod_step l' o he));have HLT:=hid (zbN l' he);clear he HW;go_wp2_with fail;refine(zep l' wr (HT.out.below HB.out) hl').mono ?_;rintro e w1 ⟨rfl,be1⟩;have HB1:=hid (HB.out.trans (be1.mono HB.out.size));obtain⟨c,hc⟩:∃c:Int,c=wlast l':=⟨_,rfl⟩;obtain⟨m,hm⟩:∃m:Nat,m=(zaJ l').2:=⟨_,rfl⟩;have HLE:=hid (show ltl l'=l'.take (l'.length - m) by unfold ltl;rw[hm])
   rw[<- hm] at hb1 hb2;rw[<- hc] at HST;rw[<- hc,<- hm];clear hc hm be1 HB
   by_cases h7:c=7
   ·subst h7
    have HY:=hid (show wod l false=wod (ltl l') (!o) from HST.out)
    go_wp2;rw[wtake,<- HLE.out];exact⟨⟨ltl l', !o,rfl,rfl,by have:=HLT.out;omega,HY.out,HB1.out⟩,by have:=HLT.out;show(ltl l').toArray.size<l'.toArray.size;simpa using this⟩
   ·have b7:(c==7)=false:=beq_eq_false_iff_ne.2 h7
    have HY:=hid (show wod l false=if zaA c then wod (ltl l') o else o by rw[HST.out,b7];rfl)
    clear h7 HST;go_wp2_with fail;refine(zbf c w1).mono ?_;rintro e w2 ⟨rfl,hw2⟩;obtain rfl:=hw2.symm;clear hw2;obtain⟨b,hb⟩:∃b,b=zaA c:=⟨_,rfl⟩;rw[<- hb] at HY;rw[<- hb];clear hb
    cases b with
    | true=>
     go_wp2;rw[wtake,<- HLE.out];exact⟨⟨ltl l',o,rfl,rfl,by have:=HLT.out;omega,HY.out,HB1.out⟩,by have:=HLT.out;show(ltl l').toArray.size<l'.toArray.size;simpa using this⟩
    | false=>
     go_wp2;go_ret;exact⟨by rw[HY.out];rfl,HB1.out⟩
theorem zeo (l:List UInt8) (w:World):
  Calls Tryz.prog 122 #[.string ⟨l.toArray⟩] w fun e w'=>e= .returned (.int .i64 (won l))/\Below w.heap.size w w':=by
 have HSZ:=hid (show(⟨l.toArray⟩:ByteArray).size=l.length by show l.toArray.size=_;simp)
 have HB0:=hid ((Below.refl w.heap.size w).alloc (Nat.le_refl _) (.stringIter ⟨l.toArray⟩ 0));have HIT0:=hid (World.iter_heap w ⟨l.toArray⟩ 0);go_enter Tryz.func122,Tryz.ntmps122;go_wp2;go_loopw [4,5] (fun _ _ wr=>∃t:Nat,Hid (won l=won (l.drop t))/\Hid (wr.heap[w.heap.size]? =some (.stringIter ⟨l.toArray⟩ t))/\Hid (Below w.heap.size w wr)) (fun _ _ wr=>l.length - wr.iterPos w.heap.size)
 case atStart=>exact⟨0,rfl,HIT0,HB0⟩
 case round=>
  obtain⟨t,HP,HI,HB⟩:=hrel;have hin:w.heap.size<wr.heap.size:=(Array.getElem?_eq_some_iff.1 HI.out).1
  by_cases hlt:t<l.length
  ·have hnx:=wnext_at (P:=Tryz.prog) wr w.heap.size ⟨l.toArray⟩ t 0 HI.out (by rw[HSZ.out];exact hlt)
   rw[zcj l t hlt] at hnx;have hne:=zaL l t hlt;have d1:=dec_ge _ hne;have HYES:=hid (won_yes (l.drop t) hne);have HNO:=hid (won_no (l.drop t) hne);rw[List.drop_drop] at HYES;have HWF:=hid (show zaD (l.drop t)=wdcls ((dec (l.drop t)).1:Int) from rfl)
   obtain⟨nn,hnn⟩:∃nn,nn=(dec (l.drop t)).2:=⟨_,rfl⟩;obtain⟨rr,hrr⟩:∃rr:Int,rr=((dec (l.drop t)).1:Int):=⟨_,rfl⟩;rw[<- hnn] at hnx d1 HYES;rw[<- hrr] at hnx HWF;rw[HWF.out] at HYES HNO;obtain⟨w1,hw1⟩:∃w1,w1=wr.putObj w.heap.size (.stringIter ⟨l.toArray⟩ (t+nn)):=⟨_,rfl⟩;rw[<- hw1] at hnx;have HI1:=hid (show w1.heap[w.heap.size]? =some (.stringIter ⟨l.toArray⟩ (t+nn)) by rw[hw1];exact World.putObj_heap_same hin)
   have HB1:=hid (show Below w.heap.size w w1 by rw[hw1];exact HB.out.trans ⟨rfl,rfl,rfl,by simp[World.putObj],fun j hj=>World.putObj_heap_other (by omega)⟩)
   have HM:=hid (show l.length - wr.iterPos w.heap.size=l.length - t by unfold World.iterPos;rw[HI.out])
   clear hnn hrr hw1 HI HB hne HWF;go_wp2_with fail;refine(zer rr w1).mono ?_;rintro e w2 ⟨rfl,hw2⟩;obtain rfl:=hw2.symm;clear hw2;obtain⟨c,hc⟩:∃c,c=wdcls rr:=⟨_,rfl⟩;rw[<- hc] at HYES HNO;rw[<- hc];clear hc hnx;go_wp2_with fail;refine(zbf c w1).mono ?_;rintro e w2 ⟨rfl,hw2⟩;obtain rfl:=hw2.symm;clear hw2;obtain⟨b,hb⟩:∃b,b=zaA c:=⟨_,rfl⟩;rw[<- hb] at HYES HNO;rw[<- hb];clear hb
   cases b with
   | true=>
    have HE:=hid (HP.out.trans (HYES.out rfl));go_wp2;go_roundw
    case rel=>exact⟨t+nn,HE,HI1,HB1⟩
    case measure=>
     rw[HM.out];unfold World.iterPos;rw[HI1.out]
     simp only[]
     omega
   | false=>
    have HE:=hid (HP.out.trans (HNO.out rfl));go_wp2;go_ret;exact⟨by rw[HE.out];rfl,HB1.out⟩
  ·have hnx:=wnext_stop (P:=Tryz.prog) wr w.heap.size ⟨l.toArray⟩ t 0 HI.out (by rw[HSZ.out];exact hlt)
   have HE:=hid (show won l=0 by rw[HP.out,List.drop_of_length_le (by omega)];rfl)
   go_wp2;go_ret;exact⟨by rw[HE.out];rfl,HB.out⟩
end Wd
namespace Wd
open Go.RowKit
theorem wdec_le (l:List UInt8):(dec l).2<=l.length:=by
 by_cases h:l=[]
 ·subst h;exact Nat.le_refl _
 ·exact dec_le l h
theorem zcH (s:List UInt8) (p:Nat) (w:World) (ht:TbW w) (hl:s.length<=1000000000) (hp:p<=s.length):
  Calls Tryz.prog 80 #[.string ⟨s.toArray⟩,.int .i64 p] w fun e w'=>e= .returned (.bool (wjoin s p))/\Below w.heap.size w w':=by
 have HT:=hid ht;have HW:=hid (wdec_le (s.drop p));have hdl:(s.drop p).length=s.length - p:=List.length_drop;have htl:(s.take p).length=p:=by rw[List.length_take];omega
 have HBL:=hid (wbs_le _ (s.take p) (Nat.le_refl _));have HDL:=hid hdl;have HTL:=hid htl;clear ht hdl htl;go_enter Tryz.func80,Tryz.ntmps80;go_wp2_with fail;rw[wtake];refine(wbase_any (s.take p) w HT.out (by have:=HTL.out;omega)).mono ?_
 rintro e w1 ⟨rfl,be⟩;have HB1:=hid be;obtain⟨a,ha⟩:∃a,a=(wbs (s.take p)).1:=⟨_,rfl⟩;obtain⟨f,hf⟩:∃f,f=(wbs (s.take p)).2:=⟨_,rfl⟩;have HA:=hid ha;have HF:=hid hf;have hfl:f<=s.length:=by have h1:=HBL.out;have h2:=HTL.out;rw[hf];omega
 rw[<- ha,<- hf];clear be ha hf;go_wp2_with fail;rw[ext_drop];refine(wfirst_any (s.drop p) w1 (HT.out.below HB1.out)).mono ?_;rintro e w2 ⟨rfl,be⟩;have HB2:=hid (HB1.out.trans (be.mono HB1.out.size));obtain⟨b,hb⟩:∃b,b=zaD (s.drop p):=⟨_,rfl⟩;obtain⟨n,hn⟩:∃n,n=(dec (s.drop p)).2:=⟨_,rfl⟩;have HBE:=hid hb;have HN:=hid hn;have hpn:p+n<=s.length:=by have:=HW.out;have:=HDL.out;omega
 rw[<- hb,<- hn];clear be hb hn;have HJ:=hid (show wjoin s p=if wtog a b then true else if a==7&&b==7 then wod (s.take p) false else if wmid b then wbri a b (won (s.drop (p+n))) else if wmid a then wbri (wbs (s.take f)).1 a b else false by rw[HA.out,HBE.out,HN.out,HF.out];rfl)
 clear HA HBE HN HW HF HBL;go_wp2_with fail;refine(wtog_any a b w2).mono ?_;rintro e w3 ⟨rfl,hw3⟩;obtain rfl:=hw3.symm;clear hw3;obtain⟨q3,hq3⟩:∃q,q=wtog a b:=⟨_,rfl⟩;rw[<- hq3] at HJ;rw[<- hq3];clear hq3
 cases q3 with
 | true=>
  go_wp2;go_ret;exact⟨by rw[HJ.out];rfl,HB2.out⟩
 | false=>
  by_cases h77:a=7/\b=7
  ·obtain⟨rfl,rfl⟩:=h77
   go_wp2_with fail;rw[wtake];refine(wodd_any (s.take p) w2 (HT.out.below HB2.out) (by have:=HTL.out;omega)).mono ?_
   rintro e w4 ⟨rfl,be⟩;have HB4:=hid (HB2.out.trans (be.mono HB2.out.size));obtain⟨v,hv⟩:∃v,v=wod (s.take p) false:=⟨_,rfl⟩;rw[<- hv] at HJ;rw[<- hv];clear be hv;go_wp2;go_ret;exact⟨by rw[HJ.out];rfl,HB4.out⟩
  have h7f:(a==7&&b==7)=false:=by
   by_cases h:a=7
   ·rw[beq_eq_false_iff_ne.2 (fun h'=>h77 ⟨h,h'⟩),Bool.and_false]
   ·rw[beq_eq_false_iff_ne.2 h,Bool.false_and]
  have HJ2:=hid (show wjoin s p=if wmid b then wbri a b (won (s.drop (p+n))) else if wmid a then wbri (wbs (s.take f)).1 a b else false by rw[HJ.out,h7f];rfl)
  have H7:=hid (show ∀X:Prop,(a=7->(b==7)=false->X)->((a==7)=false->X)->X from fun X k1 k2=>by
   by_cases h:a=7
   ·exact k1 h (beq_eq_false_iff_ne.2 (fun h'=>h77 ⟨h,h'⟩))
   ·exact k2 (beq_eq_false_iff_ne.2 h))
  clear HJ h7f h77;refine H7.out _ (fun e7 b7=>?_) (fun a7=>?_)
  ·subst e7
   clear H7;go_wp2_with fail;refine(zdS b w2).mono ?_;rintro e w3 ⟨rfl,hw3⟩;obtain rfl:=hw3.symm;clear hw3;obtain⟨q4,hq4⟩:∃q,q=wmid b:=⟨_,rfl⟩;rw[<- hq4] at HJ2;rw[<- hq4];clear hq4
   cases q4 with
   | true=>
    go_wp2_with fail;rw[ext_drop];refine(zeo (s.drop (p+n)) w2).mono ?_;rintro e w4 ⟨rfl,be⟩;have HB4:=hid (HB2.out.trans (be.mono HB2.out.size));obtain⟨x,hx⟩:∃x,x=won (s.drop (p+n)):=⟨_,rfl⟩;rw[<- hx] at HJ2;rw[<- hx];clear be hx;go_wp2_with fail;refine(wbri_any 7 b x w4).mono ?_;rintro e w5 ⟨rfl,hw5⟩;obtain rfl:=hw5.symm;clear hw5;obtain⟨v,hv⟩:∃v,v=wbri 7 b x:=⟨_,rfl⟩;rw[<- hv] at HJ2;rw[<- hv];clear hv;go_wp2;go_ret;exact⟨by rw[HJ2.out];rfl,HB4.out⟩
   | false=>
    go_wp2_with fail;refine(zdS 7 w2).mono ?_;rintro e w3 ⟨rfl,hw3⟩;obtain rfl:=hw3.symm;clear hw3;rw[show wmid 7=false by decide];have HJ3:=hid (show wjoin s p=false from HJ2.out)
    go_wp2;go_ret;exact⟨by rw[HJ3.out];rfl,HB2.out⟩
  ·clear H7
   go_wp2_with fail;refine(zdS b w2).mono ?_;rintro e w3 ⟨rfl,hw3⟩;obtain rfl:=hw3.symm;clear hw3;obtain⟨q4,hq4⟩:∃q,q=wmid b:=⟨_,rfl⟩;rw[<- hq4] at HJ2;rw[<- hq4];clear hq4
   cases q4 with
   | true=>
    go_wp2_with fail;rw[ext_drop];refine(zeo (s.drop (p+n)) w2).mono ?_;rintro e w4 ⟨rfl,be⟩;have HB4:=hid (HB2.out.trans (be.mono HB2.out.size));obtain⟨x,hx⟩:∃x,x=won (s.drop (p+n)):=⟨_,rfl⟩;rw[<- hx] at HJ2;rw[<- hx];clear be hx;go_wp2_with fail;refine(wbri_any a b x w4).mono ?_;rintro e w5 ⟨rfl,hw5⟩;obtain rfl:=hw5.symm;clear hw5;obtain⟨v,hv⟩:∃v,v=wbri a b x:=⟨_,rfl⟩;rw[<- hv] at HJ2;rw[<- hv];clear hv;go_wp2;go_ret;exact⟨by rw[HJ2.out];rfl,HB4.out⟩
   | false=>
    go_wp2_with fail;refine(zdS a w2).mono ?_;rintro e w3 ⟨rfl,hw3⟩;obtain rfl:=hw3.symm;clear hw3;obtain⟨q5,hq5⟩:∃q,q=wmid a:=⟨_,rfl⟩;rw[<- hq5] at HJ2;rw[<- hq5];clear hq5
    cases q5 with
    | true=>
     go_wp2_with fail;rw[wtake];refine(wbase_any (s.take f) w2 (HT.out.below HB2.out) (by rw[List.length_take];omega)).mono ?_
     rintro e w4 ⟨rfl,be⟩;have HB4:=hid (HB2.out.trans (be.mono HB2.out.size));obtain⟨x,hx⟩:∃x,x=(wbs (s.take f)).1:=⟨_,rfl⟩;obtain⟨y,hy⟩:∃y,y=(wbs (s.take f)).2:=⟨_,rfl⟩;rw[<- hx] at HJ2;rw[<- hx,<- hy];clear be hx hy;go_wp2_with fail;refine(wbri_any x a b w4).mono ?_;rintro e w5 ⟨rfl,hw5⟩;obtain rfl:=hw5.symm;clear hw5;obtain⟨v,hv⟩:∃v,v=wbri x a b:=⟨_,rfl⟩;rw[<- hv] at HJ2;rw[<- hv];clear hv;go_wp2;go_ret;exact⟨by rw[HJ2.out];rfl,HB4.out⟩
    | false=>
     go_wp2;go_ret;exact⟨by rw[HJ2.out];rfl,HB2.out⟩
theorem two_no (a b x y:Int) (h:(a==x&&b==y)=false) (X:Prop) (k1:a=x->(b==y)=false->X) (k2:(a==x)=false->X):X:=by
 by_cases e:a=x
 ·refine k1 e ?_
  rw[e,beq_self_eq_true,Bool.true_and] at h;exact h
 ·exact k2 (beq_eq_false_iff_ne.2 e)
def wcutT (s:List UInt8) (p:Nat) (b:Int):Bool:=if zaA b then false else !wjoin s p
theorem wcut_any (s:List UInt8) (p:Nat) (w:World) (ht:TbW w) (hl:s.length<=1000000000) (hp:p<=s.length):
  Calls Tryz.prog 49 #[.string ⟨s.toArray⟩,.int .i64 p] w fun e w'=>e= .returned (.bool (wcut s p))/\Below w.heap.size w w':=by
 have HT:=hid ht;have HTL:=hid (show(s.take p).length=p by rw[List.length_take];omega)
 clear ht;go_enter Tryz.func49,Tryz.ntmps49;go_wp2_with fail;rw[wtake];refine(zep (s.take p) w HT.out (by have:=HTL.out;omega)).mono ?_
 rintro e w1 ⟨rfl,be⟩;have HB1:=hid be;obtain⟨a,ha⟩:∃a,a=wlast (s.take p):=⟨_,rfl⟩;obtain⟨m,hm⟩:∃m:Nat,m=(zaJ (s.take p)).2:=⟨_,rfl⟩;have HA:=hid ha;rw[<- ha,<- hm];clear be ha hm;go_wp2_with fail;rw[ext_drop];refine(wfirst_any (s.drop p) w1 (HT.out.below HB1.out)).mono ?_;rintro e w2 ⟨rfl,be⟩;have HB2:=hid (HB1.out.trans (be.mono HB1.out.size));obtain⟨b,hb⟩:∃b,b=zaD (s.drop p):=⟨_,rfl⟩;obtain⟨n,hn⟩:∃n,n=(dec (s.drop p)).2:=⟨_,rfl⟩;have HBE:=hid hb;rw[<- hb,<- hn];clear be hb hn;have HV:=hid (show wcut s p=if a==1&&b==2 then false else if wends a then true else if wends b then true else if a==5&&b==19 then false else if a==18&&b==18 then false else wcutT s p b by rw[HA.out,HBE.out];rfl)
 clear HA HBE
 by_cases h12:a=1/\b=2
 ·obtain⟨rfl,rfl⟩:=h12
  go_wp2;go_ret;exact⟨by rw[HV.out];rfl,HB2.out⟩
 by_cases hea:wends a=true
 ·have HV2:=hid (show wcut s p=true by
   rw[HV.out,if_neg (by intro h;rw[Bool.and_eq_true] at h;exact h12 ⟨eq_of_beq h.1,eq_of_beq h.2⟩),if_pos hea])
  have HE:=hid hea;have hf:(a==1&&b==2)=false:=by
   rw[Bool.eq_false_iff];intro h;rw[Bool.and_eq_true] at h;exact h12 ⟨eq_of_beq h.1,eq_of_beq h.2⟩
  clear h12 HV hea;refine two_no a b 1 2 hf _ (fun e1 b2=>?_) (fun a1=>?_)
  ·subst e1
   clear hf;go_wp2_with fail;refine(zcS 1 w2).mono ?_;rintro e w3 ⟨rfl,hw3⟩;obtain rfl:=hw3.symm;clear hw3;rw[show wends 1=true by decide];go_wp2;go_ret;exact⟨by rw[HV2.out];rfl,HB2.out⟩
  ·clear hf
   go_wp2_with fail;refine(zcS a w2).mono ?_;rintro e w3 ⟨rfl,hw3⟩;obtain rfl:=hw3.symm;clear hw3;rw[HE.out];go_wp2;go_ret;exact⟨by rw[HV2.out];rfl,HB2.out⟩
 have hea':wends a=false:=Bool.eq_false_iff.2 hea;have a1:(a==1)=false:=by
  rw[Bool.eq_false_iff];intro h;rw[eq_of_beq h] at hea';cases hea'
 have HV2:=hid (show wcut s p=if wends b then true else if a==5&&b==19 then false else if a==18&&b==18 then false else wcutT s p b by rw[HV.out,a1,hea'];rfl)
 have HEA:=hid hea';clear HV h12 hea hea';go_wp2_with fail;refine(zcS a w2).mono ?_;rintro e w3 ⟨rfl,hw3⟩;obtain rfl:=hw3.symm;clear hw3;rw[HEA.out];go_wp2_with fail;refine(zcS b w2).mono ?_;rintro e w3 ⟨rfl,hw3⟩;obtain rfl:=hw3.symm;clear hw3;obtain⟨q4,hq4⟩:∃q,q=wends b:=⟨_,rfl⟩;rw[<- hq4] at HV2;rw[<- hq4];clear hq4
 cases q4 with
 | true=>
  go_wp2;go_ret;exact⟨by rw[HV2.out];rfl,HB2.out⟩
 | false=>
  by_cases h5:a=5/\b=19
  ·obtain⟨rfl,rfl⟩:=h5
   go_wp2;go_ret;exact⟨by rw[HV2.out];rfl,HB2.out⟩
  have f5:(a==5&&b==19)=false:=by
   rw[Bool.eq_false_iff];intro h;rw[Bool.and_eq_true] at h;exact h5 ⟨eq_of_beq h.1,eq_of_beq h.2⟩
  by_cases h8:a=18/\b=18
  ·obtain⟨rfl,rfl⟩:=h8
   go_wp2;go_ret;exact⟨by rw[HV2.out];rfl,HB2.out⟩
  have f8:(a==18&&b==18)=false:=by
   rw[Bool.eq_false_iff];intro h;rw[Bool.and_eq_true] at h;exact h8 ⟨eq_of_beq h.1,eq_of_beq h.2⟩
  have HV3:=hid (show wcut s p=if zaA b then false else !wjoin s p by rw[HV2.out,f5,f8];rfl)
  clear HV2 h5 h8;refine two_no a b 5 19 f5 _ (fun e5 b9=>?_) (fun a5=>?_)
  ·subst e5
   clear f5 f8;go_wp2_with fail;refine(zbf b w2).mono ?_;rintro e w3 ⟨rfl,hw3⟩;obtain rfl:=hw3.symm;clear hw3;obtain⟨q5,hq5⟩:∃q,q=zaA b:=⟨_,rfl⟩;rw[<- hq5] at HV3;rw[<- hq5];clear hq5
   cases q5 with
   | true=>
    go_wp2;go_ret;exact⟨by rw[HV3.out];rfl,HB2.out⟩
   | false=>
    go_wp2_with fail;refine(zcH s p w2 (HT.out.below HB2.out) hl hp).mono ?_;rintro e w4 ⟨rfl,be⟩;have HB4:=hid (HB2.out.trans (be.mono HB2.out.size));obtain⟨v,hv⟩:∃v,v=wjoin s p:=⟨_,rfl⟩;rw[<- hv] at HV3;rw[<- hv];clear be hv;go_wp2;go_ret;exact⟨by rw[HV3.out];rfl,HB4.out⟩
  ·clear f5
   refine two_no a b 18 18 f8 _ (fun e8 b18=>?_) (fun a8=>?_)
   ·subst e8
    clear f8;go_wp2_with fail;refine(zbf b w2).mono ?_;rintro e w3 ⟨rfl,hw3⟩;obtain rfl:=hw3.symm;clear hw3;obtain⟨q5,hq5⟩:∃q,q=zaA b:=⟨_,rfl⟩;rw[<- hq5] at HV3;rw[<- hq5];clear hq5
    cases q5 with
    | true=>
     go_wp2;go_ret;exact⟨by rw[HV3.out];rfl,HB2.out⟩
    | false=>
     go_wp2_with fail;refine(zcH s p w2 (HT.out.below HB2.out) hl hp).mono ?_;rintro e w4 ⟨rfl,be⟩;have HB4:=hid (HB2.out.trans (be.mono HB2.out.size));obtain⟨v,hv⟩:∃v,v=wjoin s p:=⟨_,rfl⟩;rw[<- hv] at HV3;rw[<- hv];clear be hv;go_wp2;go_ret;exact⟨by rw[HV3.out];rfl,HB4.out⟩
   ·clear f8
    go_wp2_with fail;refine(zbf b w2).mono ?_;rintro e w3 ⟨rfl,hw3⟩;obtain rfl:=hw3.symm;clear hw3;obtain⟨q5,hq5⟩:∃q,q=zaA b:=⟨_,rfl⟩;rw[<- hq5] at HV3;rw[<- hq5];clear hq5
    cases q5 with
    | true=>
     go_wp2;go_ret;exact⟨by rw[HV3.out];rfl,HB2.out⟩
    | false=>
     go_wp2_with fail;refine(zcH s p w2 (HT.out.below HB2.out) hl hp).mono ?_;rintro e w4 ⟨rfl,be⟩;have HB4:=hid (HB2.out.trans (be.mono HB2.out.size));obtain⟨v,hv⟩:∃v,v=wjoin s p:=⟨_,rfl⟩;rw[<- hv] at HV3;rw[<- hv];clear be hv;go_wp2;go_ret;exact⟨by rw[HV3.out];rfl,HB4.out⟩
end Wd
end Go.Proofs.YtokpjifnlifafaaGreatDoor
