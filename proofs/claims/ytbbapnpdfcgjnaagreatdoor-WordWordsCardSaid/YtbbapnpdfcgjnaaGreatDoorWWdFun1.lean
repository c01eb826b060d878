/- WdFun1, WdFun2: parts of the proof, joined. -/
import Derived.RangeFuncNested
import Derived.Test.YtbbapnpdfcgjnaaGreatDoorWBase
open Bool renaming eq_false_iff->sD, and_eq_true->sE
open List renaming length_take->sG
open Go.RowKit renaming Below->sH
open Go renaming World->sI, Calls->sN
set_option maxHeartbeats 64000000
namespace Go.Proofs.YtbbapnpdfcgjnaaGreatDoor
namespace Wd
open Go.RowKit
structure na(w:sI):Prop where
 tabs:Lib.Utf8Tabs 0 1 w
 two:2<=w.heap.size
theorem na.below{w w':sI}(h:na w)(hb:sH w.heap.size w w'):na w':=⟨pA h.tabs h.two hb,Nat.le_trans h.two hb.size⟩
theorem pa(l:List UInt8)(t:Nat):(⟨l.toArray⟩:ByteArray).extract 0 t=⟨(l.take t).toArray⟩:=by apply ByteArray.ext;simp[ByteArray.data_extract]
def zhI:Value->Nat
 |.string s=>s.size
 |_=>0
theorem fL{P:Program}(w:sI)(it:Nat)(s:ByteArray)(pos:Nat)(ty:TypeId)(hit:w.heap[it]?=some (.stringIter s pos))(h:pos<s.size):
  (Instr.next (.pointer (some ⟨it,0,none⟩)) true ty).run P w=.ok (.tuple #[.bool true,.int .i64 pos,.int .i32 (Utf8.decode s pos).1]) (w.putObj it (.stringIter s (pos+(Utf8.decode s pos).2))):=by
 simp[Instr.next,getObj,setObj,Sem.run_bind,Sem.run,hit,Result.andThen,h,goInt,sI.putObj]
theorem dG{P:Program}(w:sI)(it:Nat)(s:ByteArray)(pos:Nat)(ty:TypeId)(hit:w.heap[it]?=some (.stringIter s pos))(h:¬pos<s.size):
  (Instr.next (.pointer (some ⟨it,0,none⟩)) true ty).run P w=.ok (.tuple #[.bool false]) w:=by
 simp[Instr.next,getObj,Sem.run,hit,h]
theorem gC(l:List UInt8)(w:sI)(ht:na w):
  sN Tryz.prog 57 #[.string ⟨l.toArray⟩] w fun e w'=>e=.returned (.tuple #[.int .i64 (aQ l),.int .i64 (dec l).2])/\sH w.heap.size w w':=by
 have HT:=aa ht;clear ht;go_enter Tryz.func57,Tryz.ntmps57;go_wp2_with fail;refine(qD l w HT.o.tabs).mono ?_;rintro e w1 ⟨rfl,be⟩;have HB:=aa be;clear be;obtain⟨r,hr⟩:∃r:Int,r=((dec l).1:Int):=⟨_,rfl⟩;obtain⟨n,hn⟩:∃n:Nat,n=(dec l).2:=⟨_,rfl⟩;have HN:=aa hn;have HV:ae (aQ l=bf r):=aa (by rw[hr];rfl);rw[<-hr,<-hn];clear hr hn;go_wp2_with fail;refine(eC r w1).mono ?_;rintro e w2 ⟨rfl,hw2⟩;obtain rfl:=hw2.symm;clear hw2;go_wp2;go_ret2;exact⟨by rw[HV.o,<-HN.o];rfl,HB.o⟩
theorem mm(l:List UInt8)(w:sI)(ht:na w)(hl:l.length<=1000000000):
  sN Tryz.prog 78 #[.string ⟨l.toArray⟩] w fun e w'=>e=.returned (.tuple #[.int .i64 (bT l),.int .i64 (bw l).2])/\sH w.heap.size w w':=by
 have HT:=aa ht;clear ht;go_enter Tryz.func78,Tryz.ntmps78;go_wp2_with fail;refine(znU l w (by omega) HT.o.tabs).mono ?_;rintro e w1 ⟨rfl,be⟩;have HB:=aa be;clear be;obtain⟨r,hr⟩:∃r:Int,r=((bw l).1:Int):=⟨_,rfl⟩;obtain⟨n,hn⟩:∃n:Nat,n=(bw l).2:=⟨_,rfl⟩;have HN:=aa hn;have HV:ae (bT l=bf r):=aa (by rw[hr];rfl);rw[<-hr,<-hn];clear hr hn;go_wp2_with fail;refine(eC r w1).mono ?_;rintro e w2 ⟨rfl,hw2⟩;obtain rfl:=hw2.symm;clear hw2;go_wp2;go_ret2;exact⟨by rw[HV.o,<-HN.o];rfl,HB.o⟩
theorem sr(l:List UInt8)(w:sI)(ht:na w)(hl:l.length<=1000000000):
  sN Tryz.prog 117 #[.string ⟨l.toArray⟩] w fun e w'=>e=.returned (.tuple #[.int .i64 (jW l).1,.int .i64 (jW l).2])/\sH w.heap.size w w':=by
 have HT:=aa ht;clear ht;go_enter Tryz.func117,Tryz.ntmps117;go_wp2;go_loopw [0] (fun fr wr=>∃l':List UInt8,fr=.string ⟨l'.toArray⟩/\l'.length<=1000000000/\ae (jW l=jW l')/\sH w.heap.size w wr) (fun fr _=>zhI fr)
 case atStart=>exact⟨l,rfl,hl,rfl,sH.refl _ _⟩
 case round=>
  obtain⟨l',rfl,hl',HW,hB⟩:=hrel;have HB:=aa hB;clear hB;by_cases he:l'=[]
  ·subst he;have HE:ae (jW l=(0,0)):=aa (by rw[HW.o];rfl);go_wp2;go_ret2;exact⟨by rw[HE.o];rfl,HB.o⟩
  ·have he':l'.isEmpty=false:=by simpa using he
   obtain⟨hb1,hb2⟩:=pf l' he;have HNE:=aa he;clear he;go_wp2_with fail;refine(mm l' wr (HT.o.below HB.o) hl').mono ?_;rintro e w1 ⟨rfl,be1⟩;have HB1:=aa (HB.o.trans (be1.mono HB.o.size));obtain⟨c,hc⟩:∃c:Int,c=bT l':=⟨_,rfl⟩;obtain⟨m,hm⟩:∃m:Nat,m=(bw l').2:=⟨_,rfl⟩;have HC:=aa hc;have HM:=aa hm;rw[<-hm]at hb1 hb2;rw[<-hc,<-hm];clear hc hm be1 HB;have HLE:ae (eV l'=l'.take (l'.length-m)):=aa (by unfold eV;rw[HM.o]);have HLT:=aa (ey l' HNE.o);go_wp2_with fail;rw[pa,<-HLE.o];refine(cw c w1).mono ?_;rintro e w2 ⟨rfl,hw2⟩;obtain rfl:=hw2.symm;clear hw2;obtain⟨b,hb⟩:=aj (aT c);have HBB:=aa hb;rw[<-hb];clear hb;cases b with
   |true=>have HY:ae (jW l=jW (eV l')):=aa (HW.o.trans (zba l' HNE.o (by rw[<-HC.o,<-HBB.o])));go_wp2;exact⟨⟨eV l',rfl,by have:=HLT.o;omega,HY.o,HB1.o⟩,by have:=HLT.o;show(eV l').toArray.size<l'.toArray.size;simpa using this⟩
   |false=>have HY:ae (jW l=(c,(eV l').length)):=aa (by rw[HW.o,zgd l' HNE.o (by rw[<-HC.o,<-HBB.o]),<-HC.o]);go_wp2;go_ret2;exact⟨by rw[HY.o];rfl,HB1.o⟩
theorem zlE(l:List UInt8)(w:sI)(ht:na w)(hl:l.length<=1000000000):
  sN Tryz.prog 119 #[.string ⟨l.toArray⟩] w fun e w'=>e=.returned (.bool (wod l false))/\sH w.heap.size w w':=by
 have HT:=aa ht;clear ht;go_enter Tryz.func119,Tryz.ntmps119;go_wp2;go_loopw [0,3] (fun fs fo wr=>∃(l':List UInt8)(o:Bool),fs=.string ⟨l'.toArray⟩/\fo=.bool o/\l'.length<=1000000000/\ae (wod l false=wod l' o)/\sH w.heap.size w wr) (fun fs _ _=>zhI fs)
 case atStart=>exact⟨l,false,rfl,rfl,hl,rfl,sH.refl _ _⟩
 case round=>
  obtain⟨l',o,rfl,rfl,hl',HW,hB⟩:=hrel;have HB:=aa hB;clear hB;by_cases he:l'=[]
  ·subst he;have HE:ae (wod l false=o):=aa (by rw[HW.o];rfl);go_wp2;go_ret;exact⟨by rw[HE.o];rfl,HB.o⟩
  ·have he':l'.isEmpty=false:=by simpa using he
   obtain⟨hb1,hb2⟩:=pf l' he;have HST:=aa (HW.o.trans (zcU l' o he));have HLT:=aa (ey l' he);clear he HW;go_wp2_with fail;refine(mm l' wr (HT.o.below HB.o) hl').mono ?_;rintro e w1 ⟨rfl,be1⟩;have HB1:=aa (HB.o.trans (be1.mono HB.o.size));obtain⟨c,hc⟩:∃c:Int,c=bT l':=⟨_,rfl⟩;obtain⟨m,hm⟩:∃m:Nat,m=(bw l').2:=⟨_,rfl⟩;have HLE:ae (eV l'=l'.take (l'.length-m)):=aa (by unfold eV;rw[hm]);rw[<-hm]at hb1 hb2;rw[<-hc]at HST;rw[<-hc,<-hm];clear hc hm be1 HB;by_cases h7:c=7
   ·subst h7;have HY:ae (wod l false=wod (eV l') (!o)):=aa HST.o;go_wp2;rw[pa,<-HLE.o];exact⟨⟨eV l', !o,rfl,rfl,by have:=HLT.o;omega,HY.o,HB1.o⟩,by have:=HLT.o;show(eV l').toArray.size<l'.toArray.size;simpa using this⟩
   ·have b7:(c==7)=false:=beq_eq_false_iff_ne.2 h7;have HY:ae (wod l false=if aT c then wod (eV l') o else o):=aa (by rw[HST.o,b7];rfl);clear h7 HST;go_wp2_with fail;refine(cw c w1).mono ?_;rintro e w2 ⟨rfl,hw2⟩;obtain rfl:=hw2.symm;clear hw2;obtain⟨b,hb⟩:=aj (aT c);rw[<-hb]at HY;rw[<-hb];clear hb;cases b with
    |true=>go_wp2;rw[pa,<-HLE.o];exact⟨⟨eV l',o,rfl,rfl,by have:=HLT.o;omega,HY.o,HB1.o⟩,by have:=HLT.o;show(eV l').toArray.size<l'.toArray.size;simpa using this⟩
    |false=>go_wp2;go_ret;exact⟨by rw[HY.o];rfl,HB1.o⟩
theorem nb(l:List UInt8)(w:sI):
  sN Tryz.prog 122 #[.string ⟨l.toArray⟩] w fun e w'=>e=.returned (.int .i64 (won l))/\sH w.heap.size w w':=by
 have HSZ:ae ((⟨l.toArray⟩:ByteArray).size=l.length):=aa (by show l.toArray.size=_;simp);have HB0:=aa ((sH.refl w.heap.size w).alloc (Nat.le_refl _) (.stringIter ⟨l.toArray⟩ 0));have HIT0:=aa (sI.iter_heap w ⟨l.toArray⟩ 0);go_enter Tryz.func122,Tryz.ntmps122;go_wp2;go_loopw [4,5] (fun _ _ wr=>∃t:Nat,ae (won l=won (l.drop t))/\ae (wr.heap[w.heap.size]?=some (.stringIter ⟨l.toArray⟩ t))/\ae (sH w.heap.size w wr)) (fun _ _ wr=>l.length-wr.iterPos w.heap.size)
 case atStart=>exact⟨0,rfl,HIT0,HB0⟩
 case round=>
  obtain⟨t,HP,HI,HB⟩:=hrel;have hin:w.heap.size<wr.heap.size:=(Array.getElem?_eq_some_iff.1 HI.o).1;by_cases hlt:t<l.length
  ·have hnx:=fL (P:=Tryz.prog) wr w.heap.size ⟨l.toArray⟩ t 0 HI.o (by rw[HSZ.o];exact hlt);rw[ca l t hlt]at hnx;have hne:=aY l t hlt;have d1:=dec_ge _ hne;have HYES:=aa (zhJ (l.drop t) hne);have HNO:=aa (zlC (l.drop t) hne);rw[List.drop_drop]at HYES;have HWF:ae (aQ (l.drop t)=bf ((dec (l.drop t)).1:Int)):=aa rfl;obtain⟨nn,hnn⟩:=aj ((dec (l.drop t)).2);obtain⟨rr,hrr⟩:∃rr:Int,rr=((dec (l.drop t)).1:Int):=⟨_,rfl⟩;rw[<-hnn]at hnx d1 HYES;rw[<-hrr]at hnx HWF;rw[HWF.o]at HYES HNO;obtain⟨w1,hw1⟩:=aj (wr.putObj w.heap.size (.stringIter ⟨l.toArray⟩ (t+nn)));rw[<-hw1]at hnx;have HI1:ae (w1.heap[w.heap.size]?=some (.stringIter ⟨l.toArray⟩ (t+nn))):=aa (by rw[hw1];exact sI.putObj_heap_same hin);have HB1:ae (sH w.heap.size w w1):=aa (by rw[hw1];exact HB.o.trans ⟨rfl,rfl,rfl,by simp[sI.putObj],fun j hj=>sI.putObj_heap_other (by omega)⟩);have HM:ae (l.length-wr.iterPos w.heap.size=l.length-t):=aa (by unfold sI.iterPos;rw[HI.o]);clear hnn hrr hw1 HI HB hne HWF;go_wp2_with fail;refine(eC rr w1).mono ?_;rintro e w2 ⟨rfl,hw2⟩;obtain rfl:=hw2.symm;clear hw2;obtain⟨c,hc⟩:=aj (bf rr);rw[<-hc]at HYES HNO;rw[<-hc];clear hc hnx;go_wp2_with fail;refine(cw c w1).mono ?_;rintro e w2 ⟨rfl,hw2⟩;obtain rfl:=hw2.symm;clear hw2;obtain⟨b,hb⟩:=aj (aT c);rw[<-hb]at HYES HNO;rw[<-hb];clear hb;cases b with
   |true=>
    have HE:=aa (HP.o.trans (HYES.o rfl));go_wp2;go_roundw
    case rel=>exact⟨t+nn,HE,HI1,HB1⟩
    case measure=>rw[HM.o];unfold sI.iterPos;rw[HI1.o];simp only[];omega
   |false=>have HE:=aa (HP.o.trans (HNO.o rfl));go_wp2;go_ret;exact⟨by rw[HE.o];rfl,HB1.o⟩
  ·have hnx:=dG (P:=Tryz.prog) wr w.heap.size ⟨l.toArray⟩ t 0 HI.o (by rw[HSZ.o];exact hlt);have HE:ae (won l=0):=aa (by rw[HP.o,List.drop_of_length_le (by omega)];rfl);go_wp2;go_ret;exact⟨by rw[HE.o];rfl,HB.o⟩
end Wd
namespace Wd
open Go.RowKit
theorem zqg(l:List UInt8):(dec l).2<=l.length:=by
 by_cases h:l=[]
 ·subst h;exact Nat.le_refl _
 ·exact dec_le l h
theorem io(s:List UInt8)(p:Nat)(w:sI)(ht:na w)(hl:s.length<=1000000000)(hp:p<=s.length):
  sN Tryz.prog 80 #[.string ⟨s.toArray⟩,.int .i64 p] w fun e w'=>e=.returned (.bool (gW s p))/\sH w.heap.size w w':=by
 have HT:=aa ht;have HW:=aa (zqg (s.drop p));have hdl:(s.drop p).length=s.length-p:=List.length_drop;have htl:(s.take p).length=p:=by rw[sG];omega
 have HBL:=aa (zbb _ (s.take p) (Nat.le_refl _));have HDL:=aa hdl;have HTL:=aa htl;clear ht hdl htl;go_enter Tryz.func80,Tryz.ntmps80;go_wp2_with fail;rw[pa];refine(sr (s.take p) w HT.o (by have:=HTL.o;omega)).mono ?_;rintro e w1 ⟨rfl,be⟩;have HB1:=aa be;obtain⟨a,ha⟩:=aj ((jW (s.take p)).1);obtain⟨f,hf⟩:=aj ((jW (s.take p)).2);have HA:=aa ha;have HF:=aa hf;have hfl:f<=s.length:=by have h1:=HBL.o;have h2:=HTL.o;rw[hf];omega
 rw[<-ha,<-hf];clear be ha hf;go_wp2_with fail;rw[ext_drop];refine(gC (s.drop p) w1 (HT.o.below HB1.o)).mono ?_;rintro e w2 ⟨rfl,be⟩;have HB2:=aa (HB1.o.trans (be.mono HB1.o.size));obtain⟨b,hb⟩:=aj (aQ (s.drop p));obtain⟨n,hn⟩:=aj ((dec (s.drop p)).2);have HBE:=aa hb;have HN:=aa hn;have hpn:p+n<=s.length:=by have:=HW.o;have:=HDL.o;omega
 rw[<-hb,<-hn];clear be hb hn;have HJ:ae (gW s p=if zjM a b then true else if a==7&&b==7 then wod (s.take p) false else if ml b then nX a b (won (s.drop (p+n)))else if ml a then nX (jW (s.take f)).1 a b else false):=aa (by rw[HA.o,HBE.o,HN.o,HF.o];rfl);clear HA HBE HN HW HF HBL;go_wp2_with fail;refine(zlB a b w2).mono ?_;rintro e w3 ⟨rfl,hw3⟩;obtain rfl:=hw3.symm;clear hw3;obtain⟨q3,hq3⟩:=aj (zjM a b);rw[<-hq3]at HJ;rw[<-hq3];clear hq3;cases q3 with
 |true=>go_wp2;go_ret;exact⟨by rw[HJ.o];rfl,HB2.o⟩
 |false=>
  by_cases h77:a=7/\b=7
  ·obtain⟨rfl,rfl⟩:=h77;go_wp2_with fail;rw[pa];refine(zlE (s.take p) w2 (HT.o.below HB2.o) (by have:=HTL.o;omega)).mono ?_;rintro e w4 ⟨rfl,be⟩;have HB4:=aa (HB2.o.trans (be.mono HB2.o.size));obtain⟨v,hv⟩:=aj (wod (s.take p) false);rw[<-hv]at HJ;rw[<-hv];clear be hv;go_wp2;go_ret;exact⟨by rw[HJ.o];rfl,HB4.o⟩
  have h7f:(a==7&&b==7)=false:=by
   by_cases h:a=7
   ·rw[beq_eq_false_iff_ne.2 (fun h'=>h77 ⟨h,h'⟩),Bool.and_false]
   ·rw[beq_eq_false_iff_ne.2 h,Bool.false_and]
  have HJ2:ae (gW s p=if ml b then nX a b (won (s.drop (p+n)))else if ml a then nX (jW (s.take f)).1 a b else false):=aa (by rw[HJ.o,h7f];rfl);have H7:ae (∀X:Prop,(a=7->(b==7)=false->X)->((a==7)=false->X)->X):=aa (fun X k1 k2=>by
   by_cases h:a=7
   ·exact k1 h (beq_eq_false_iff_ne.2 (fun h'=>h77 ⟨h,h'⟩))
   ·exact k2 (beq_eq_false_iff_ne.2 h))
  clear HJ h7f h77;refine H7.o _ (fun e7 b7=>?_) (fun a7=>?_)
  ·subst e7;clear H7;go_wp2_with fail;refine(kP b w2).mono ?_;rintro e w3 ⟨rfl,hw3⟩;obtain rfl:=hw3.symm;clear hw3;obtain⟨q4,hq4⟩:=aj (ml b);rw[<-hq4]at HJ2;rw[<-hq4];clear hq4;cases q4 with
   |true=>go_wp2_with fail;rw[ext_drop];refine(nb (s.drop (p+n)) w2).mono ?_;rintro e w4 ⟨rfl,be⟩;have HB4:=aa (HB2.o.trans (be.mono HB2.o.size));obtain⟨x,hx⟩:=aj (won (s.drop (p+n)));rw[<-hx]at HJ2;rw[<-hx];clear be hx;go_wp2_with fail;refine(pw 7 b x w4).mono ?_;rintro e w5 ⟨rfl,hw5⟩;obtain rfl:=hw5.symm;clear hw5;obtain⟨v,hv⟩:=aj (nX 7 b x);rw[<-hv]at HJ2;rw[<-hv];clear hv;go_wp2;go_ret;exact⟨by rw[HJ2.o];rfl,HB4.o⟩
   |false=>go_wp2_with fail;refine(kP 7 w2).mono ?_;rintro e w3 ⟨rfl,hw3⟩;obtain rfl:=hw3.symm;clear hw3;rw[show ml 7=false by decide];have HJ3:ae (gW s p=false):=aa HJ2.o;go_wp2;go_ret;exact⟨by rw[HJ3.o];rfl,HB2.o⟩
  ·clear H7;go_wp2_with fail;refine(kP b w2).mono ?_;rintro e w3 ⟨rfl,hw3⟩;obtain rfl:=hw3.symm;clear hw3;obtain⟨q4,hq4⟩:=aj (ml b);rw[<-hq4]at HJ2;rw[<-hq4];clear hq4;cases q4 with
   |true=>go_wp2_with fail;rw[ext_drop];refine(nb (s.drop (p+n)) w2).mono ?_;rintro e w4 ⟨rfl,be⟩;have HB4:=aa (HB2.o.trans (be.mono HB2.o.size));obtain⟨x,hx⟩:=aj (won (s.drop (p+n)));rw[<-hx]at HJ2;rw[<-hx];clear be hx;go_wp2_with fail;refine(pw a b x w4).mono ?_;rintro e w5 ⟨rfl,hw5⟩;obtain rfl:=hw5.symm;clear hw5;obtain⟨v,hv⟩:=aj (nX a b x);rw[<-hv]at HJ2;rw[<-hv];clear hv;go_wp2;go_ret;exact⟨by rw[HJ2.o];rfl,HB4.o⟩
   |false=>
    go_wp2_with fail;refine(kP a w2).mono ?_;rintro e w3 ⟨rfl,hw3⟩;obtain rfl:=hw3.symm;clear hw3;obtain⟨q5,hq5⟩:=aj (ml a);rw[<-hq5]at HJ2;rw[<-hq5];clear hq5;cases q5 with
    |true=>go_wp2_with fail;rw[pa];refine(sr (s.take f) w2 (HT.o.below HB2.o) (by rw[sG];omega)).mono ?_;rintro e w4 ⟨rfl,be⟩;have HB4:=aa (HB2.o.trans (be.mono HB2.o.size));obtain⟨x,hx⟩:=aj ((jW (s.take f)).1);obtain⟨y,hy⟩:=aj ((jW (s.take f)).2);rw[<-hx]at HJ2;rw[<-hx,<-hy];clear be hx hy;go_wp2_with fail;refine(pw x a b w4).mono ?_;rintro e w5 ⟨rfl,hw5⟩;obtain rfl:=hw5.symm;clear hw5;obtain⟨v,hv⟩:=aj (nX x a b);rw[<-hv]at HJ2;rw[<-hv];clear hv;go_wp2;go_ret;exact⟨by rw[HJ2.o];rfl,HB4.o⟩
    |false=>go_wp2;go_ret;exact⟨by rw[HJ2.o];rfl,HB2.o⟩
theorem zgi(a b x y:Int)(h:(a==x&&b==y)=false)(X:Prop)(k1:a=x->(b==y)=false->X)(k2:(a==x)=false->X):X:=by
 by_cases e:a=x
 ·refine k1 e ?_;rw[e,beq_self_eq_true,Bool.true_and]at h;exact h
 ·exact k2 (beq_eq_false_iff_ne.2 e)
def zsq(s:List UInt8)(p:Nat)(b:Int):Bool:=if aT b then false else !gW s p
theorem kS(s:List UInt8)(p:Nat)(w:sI)(ht:na w)(hl:s.length<=1000000000)(hp:p<=s.length):
  sN Tryz.prog 49 #[.string ⟨s.toArray⟩,.int .i64 p] w fun e w'=>e=.returned (.bool (fD s p))/\sH w.heap.size w w':=by
 have HT:=aa ht;have HTL:ae ((s.take p).length=p):=aa (by rw[sG];omega);clear ht;go_enter Tryz.func49,Tryz.ntmps49;go_wp2_with fail;rw[pa];refine(mm (s.take p) w HT.o (by have:=HTL.o;omega)).mono ?_;rintro e w1 ⟨rfl,be⟩;have HB1:=aa be;obtain⟨a,ha⟩:=aj (bT (s.take p));obtain⟨m,hm⟩:∃m:Nat,m=(bw (s.take p)).2:=⟨_,rfl⟩;have HA:=aa ha;rw[<-ha,<-hm];clear be ha hm;go_wp2_with fail;rw[ext_drop];refine(gC (s.drop p) w1 (HT.o.below HB1.o)).mono ?_;rintro e w2 ⟨rfl,be⟩;have HB2:=aa (HB1.o.trans (be.mono HB1.o.size));obtain⟨b,hb⟩:=aj (aQ (s.drop p));obtain⟨n,hn⟩:=aj ((dec (s.drop p)).2);have HBE:=aa hb;rw[<-hb,<-hn];clear be hb hn;have HV:ae (fD s p=if a==1&&b==2 then false else if gY a then true else if gY b then true else if a==5&&b==19 then false else if a==18&&b==18 then false else zsq s p b):=aa (by rw[HA.o,HBE.o];rfl);clear HA HBE;by_cases h12:a=1/\b=2
 ·obtain⟨rfl,rfl⟩:=h12;go_wp2;go_ret;exact⟨by rw[HV.o];rfl,HB2.o⟩
 by_cases hea:gY a=true
 ·have HV2:=aa (show fD s p=true by rw[HV.o,if_neg (by intro h;rw[sE]at h;exact h12 ⟨eq_of_beq h.1,eq_of_beq h.2⟩),if_pos hea]);have HE:=aa hea;have hf:(a==1&&b==2)=false:=by rw[sD];intro h;rw[sE]at h;exact h12 ⟨eq_of_beq h.1,eq_of_beq h.2⟩
  clear h12 HV hea;refine zgi a b 1 2 hf _ (fun e1 b2=>?_) (fun a1=>?_)
  ·subst e1;clear hf;go_wp2_with fail;refine(jb 1 w2).mono ?_;rintro e w3 ⟨rfl,hw3⟩;obtain rfl:=hw3.symm;clear hw3;rw[show gY 1=true by decide];go_wp2;go_ret;exact⟨by rw[HV2.o];rfl,HB2.o⟩
  ·clear hf;go_wp2_with fail;refine(jb a w2).mono ?_;rintro e w3 ⟨rfl,hw3⟩;obtain rfl:=hw3.symm;clear hw3;rw[HE.o];go_wp2;go_ret;exact⟨by rw[HV2.o];rfl,HB2.o⟩
 have hea':gY a=false:=sD.2 hea;have a1:(a==1)=false:=by rw[sD];intro h;rw[eq_of_beq h]at hea';cases hea'
 have HV2:ae (fD s p=if gY b then true else if a==5&&b==19 then false else if a==18&&b==18 then false else zsq s p b):=aa (by rw[HV.o,a1,hea'];rfl);have HEA:=aa hea';clear HV h12 hea hea';go_wp2_with fail;refine(jb a w2).mono ?_;rintro e w3 ⟨rfl,hw3⟩;obtain rfl:=hw3.symm;clear hw3;rw[HEA.o];go_wp2_with fail;refine(jb b w2).mono ?_;rintro e w3 ⟨rfl,hw3⟩;obtain rfl:=hw3.symm;clear hw3;obtain⟨q4,hq4⟩:=aj (gY b);rw[<-hq4]at HV2;rw[<-hq4];clear hq4;cases q4 with
 |true=>go_wp2;go_ret;exact⟨by rw[HV2.o];rfl,HB2.o⟩
 |false=>
  by_cases h5:a=5/\b=19
  ·obtain⟨rfl,rfl⟩:=h5;go_wp2;go_ret;exact⟨by rw[HV2.o];rfl,HB2.o⟩
  have f5:(a==5&&b==19)=false:=by rw[sD];intro h;rw[sE]at h;exact h5 ⟨eq_of_beq h.1,eq_of_beq h.2⟩
  by_cases h8:a=18/\b=18
  ·obtain⟨rfl,rfl⟩:=h8;go_wp2;go_ret;exact⟨by rw[HV2.o];rfl,HB2.o⟩
  have f8:(a==18&&b==18)=false:=by rw[sD];intro h;rw[sE]at h;exact h8 ⟨eq_of_beq h.1,eq_of_beq h.2⟩
  have HV3:ae (fD s p=if aT b then false else !gW s p):=aa (by rw[HV2.o,f5,f8];rfl);clear HV2 h5 h8;refine zgi a b 5 19 f5 _ (fun e5 b9=>?_) (fun a5=>?_)
  ·subst e5;clear f5 f8;go_wp2_with fail;refine(cw b w2).mono ?_;rintro e w3 ⟨rfl,hw3⟩;obtain rfl:=hw3.symm;clear hw3;obtain⟨q5,hq5⟩:=aj (aT b);rw[<-hq5]at HV3;rw[<-hq5];clear hq5;cases q5 with
   |true=>go_wp2;go_ret;exact⟨by rw[HV3.o];rfl,HB2.o⟩
   |false=>go_wp2_with fail;refine(io s p w2 (HT.o.below HB2.o) hl hp).mono ?_;rintro e w4 ⟨rfl,be⟩;have HB4:=aa (HB2.o.trans (be.mono HB2.o.size));obtain⟨v,hv⟩:=aj (gW s p);rw[<-hv]at HV3;rw[<-hv];clear be hv;go_wp2;go_ret;exact⟨by rw[HV3.o];rfl,HB4.o⟩
  ·clear f5;refine zgi a b 18 18 f8 _ (fun e8 b18=>?_) (fun a8=>?_)
   ·subst e8;clear f8;go_wp2_with fail;refine(cw b w2).mono ?_;rintro e w3 ⟨rfl,hw3⟩;obtain rfl:=hw3.symm;clear hw3;obtain⟨q5,hq5⟩:=aj (aT b);rw[<-hq5]at HV3;rw[<-hq5];clear hq5;cases q5 with
    |true=>go_wp2;go_ret;exact⟨by rw[HV3.o];rfl,HB2.o⟩
    |false=>go_wp2_with fail;refine(io s p w2 (HT.o.below HB2.o) hl hp).mono ?_;rintro e w4 ⟨rfl,be⟩;have HB4:=aa (HB2.o.trans (be.mono HB2.o.size));obtain⟨v,hv⟩:=aj (gW s p);rw[<-hv]at HV3;rw[<-hv];clear be hv;go_wp2;go_ret;exact⟨by rw[HV3.o];rfl,HB4.o⟩
   ·clear f8;go_wp2_with fail;refine(cw b w2).mono ?_;rintro e w3 ⟨rfl,hw3⟩;obtain rfl:=hw3.symm;clear hw3;obtain⟨q5,hq5⟩:=aj (aT b);rw[<-hq5]at HV3;rw[<-hq5];clear hq5;cases q5 with
    |true=>go_wp2;go_ret;exact⟨by rw[HV3.o];rfl,HB2.o⟩
    |false=>go_wp2_with fail;refine(io s p w2 (HT.o.below HB2.o) hl hp).mono ?_;rintro e w4 ⟨rfl,be⟩;have HB4:=aa (HB2.o.trans (be.mono HB2.o.size));obtain⟨v,hv⟩:=aj (gW s p);rw[<-hv]at HV3;rw[<-hv];clear be hv;go_wp2;go_ret;exact⟨by rw[HV3.o];rfl,HB4.o⟩
end Wd
end Go.Proofs.YtbbapnpdfcgjnaaGreatDoor
