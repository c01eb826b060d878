/- WdNext, WdEach: parts of the proof, joined. -/
import Derived.RangeFuncBound
import Derived.Shelf.RegionOpen
import Derived.OwnWalkIn
import Derived.LoopNIn
import Derived.LoopIn
import Derived.Test.YtbbapnpdfcgjnaaGreatDoorWWdFun1
open Go.World renaming cell?_of_block->sD, iterPos->sH
open Array renaming getElem?_eq_some_iff->sE
open List renaming length_pos_iff->sG, drop_zero->sI
set_option maxHeartbeats 64000000
namespace Go.Proofs.YtbbapnpdfcgjnaaGreatDoor
namespace Wd
open Go.RowKit Go.Shelf
attribute [local go_sem] Oper.semAt_some
theorem zps(l:List UInt8)(h:l≠ []):nR l 0 4=0:=by
 have h1:=dec_ge l h;unfold nR;simp only[Nat.not_lt_zero,if_false,Nat.sub_self,sI,Nat.zero_add];split
 ·rw[if_pos (by omega)]
 ·unfold nR;simp
theorem zpv(l:List UInt8)(w:World)(ht:na w)(h:l≠ [])(hl:l.length<=1000000000):
  Calls Tryz.prog 50 #[.string ⟨l.toArray⟩,.int .i64 1] w fun e w'=>e=.returned (.int .i64 0)/\Below w.heap.size w w':=by
 have HT:=aa ht;have hp:0<l.length:=sG.2 h;have HZ:=aa (zps l h);have c1:¬((l.length:Int)<1):=by omega
 clear ht h;go_enter Tryz.func50,Tryz.ntmps50;go_wp2_with fail;refine(mZ l 0 w hp (by omega) HT.o.tabs HT.o.two).mono ?_;rintro e w1 ⟨rfl,be⟩;rw[HZ.o];go_wp2;go_ret;exact⟨rfl,be⟩
def zaX(s:List UInt8):Nat->Nat->Nat
 |0,_=>s.length
 |f+1,t=>if t<s.length then (if 0<t/\fD s t=true then t else zaX s f (t+(dec (s.drop t)).2))else s.length
theorem kO(s:List UInt8):∀(f g t:Nat),s.length-t<=f->s.length-t<=g->zaX s f t=zaX s g t
 |0,0,t,_,_=>rfl
 |0,g+1,t,hf,hg=>by unfold zaX;rw[if_neg (by omega)]
 |f+1,0,t,hf,hg=>by unfold zaX;rw[if_neg (by omega)]
 |f+1,g+1,t,hf,hg=>by
  unfold zaX;by_cases h:t<s.length
  ·have h1:=dec_ge (s.drop t) (aY _ t h);rw[if_pos h,if_pos h,kO s f g (t+(dec (s.drop t)).2) (by omega) (by omega)]
  ·rw[if_neg h,if_neg h]
def ra(s:List UInt8)(t:Nat):Nat:=zaX s (s.length-t) t
theorem zcV(s:List UInt8)(t:Nat)(h:¬t<s.length):ra s t=s.length:=by unfold ra;rw[show s.length-t=0 by omega];rfl
theorem rO(s:List UInt8)(t:Nat)(h:t<s.length)(h0:0<t)(hc:fD s t=true):ra s t=t:=by unfold ra;rw[kO s _ (s.length-t-1+1) t (by omega) (by omega)];unfold zaX;rw[if_pos h,if_pos ⟨h0,hc⟩]
theorem ja(s:List UInt8)(t:Nat)(h:t<s.length)(hc:¬(0<t/\fD s t=true)):ra s t=ra s (t+(dec (s.drop t)).2):=by
 have h1:=dec_ge (s.drop t) (aY _ t h);unfold ra;rw[kO s _ (s.length-t-1+1) t (by omega) (by omega)]
 conv=>lhs;unfold zaX
 rw[if_pos h,if_neg hc];exact kO s _ _ _ (by omega) (by omega)
def wnx(s:List UInt8):Nat:=ra s 0
theorem zjN(s:List UInt8)(w:World)(ht:na w)(h:s≠ [])(hl:s.length<=1000000000):
  Calls Tryz.prog 18 #[.string ⟨s.toArray⟩,.int .i64 0] w fun e w'=>e=.returned (.int .i64 (wnx s))/\Below w.heap.size w w':=by
 have HT:=aa ht;have hp:0<s.length:=sG.2 h;have HNE:=aa h;have HSZ:ae ((⟨s.toArray⟩:ByteArray).size=s.length):=aa (by show s.toArray.size=_;simp);have c0:¬((s.length:Int)<=0):=by omega
 clear ht h;go_enter Tryz.func18,Tryz.ntmps18;go_wp2_with fail;refine(zpv s w HT.o HNE.o hl).mono ?_;rintro e w1 ⟨rfl,be⟩;have HB1:=aa be;have HB0:=aa (be.alloc be.size (.stringIter ⟨s.toArray⟩ 0));have HIT0:=aa (World.iter_heap w1 ⟨s.toArray⟩ 0);have hs1:=be.size;clear be;go_wp2;have hex:(⟨s.toArray⟩:ByteArray).extract 0 s.length=⟨s.toArray⟩:=by have:=ext_drop s 0;rw[sI]at this;exact this
 try rw[hex]
 clear hex;go_loopw [6] (fun _ wr=>∃t:Nat,ae (wnx s=ra s t)/\ae (wr.heap[w1.heap.size]?=some (.stringIter ⟨s.toArray⟩ t))/\ae (Below w.heap.size w wr)) (fun _ wr=>s.length-wr.iterPos w1.heap.size)
 case atStart=>exact⟨0,rfl,HIT0,HB0⟩
 case round=>
  obtain⟨t,HP,HI,HB⟩:=hrel;have hin:w1.heap.size<wr.heap.size:=(sE.1 HI.o).1;by_cases hlt:t<s.length
  ·have hnx:=fL (P:=Tryz.prog) wr w1.heap.size ⟨s.toArray⟩ t 0 HI.o (by rw[HSZ.o];exact hlt);rw[ca s t hlt]at hnx;have d1:=dec_ge _ (aY s t hlt);obtain⟨nn,hnn⟩:=aj ((dec (s.drop t)).2);obtain⟨rr,hrr⟩:=aj ((dec (s.drop t)).1);rw[<-hnn]at hnx d1;rw[<-hrr]at hnx;have HNN:=aa hnn;obtain⟨w2,hw2⟩:=aj (wr.putObj w1.heap.size (.stringIter ⟨s.toArray⟩ (t+nn)));rw[<-hw2]at hnx;have HI1:ae (w2.heap[w1.heap.size]?=some (.stringIter ⟨s.toArray⟩ (t+nn))):=aa (by rw[hw2];exact World.putObj_heap_same hin);have HB2:ae (Below w.heap.size w w2):=aa (by rw[hw2];exact HB.o.trans ⟨rfl,rfl,rfl,by simp[World.putObj],fun j hj=>World.putObj_heap_other (by omega)⟩);have HM:ae (s.length-wr.iterPos w1.heap.size=s.length-t):=aa (by unfold sH;rw[HI.o]);have hin1:w1.heap.size<w2.heap.size:=(sE.1 HI1.o).1;clear hnn hrr hw2 HI HB;by_cases h0:0<t
   ·have h0i:(0:Int)<(t:Int):=by omega
    go_wp2_with fail
    try rw[Int.zero_add]
    refine(kS s t w2 (HT.o.below HB2.o) hl (by omega)).mono ?_;rintro e w3 ⟨rfl,be⟩;have HB3:=aa (HB2.o.trans (be.mono HB2.o.size));have HI2:ae (w3.heap[w1.heap.size]?=some (.stringIter ⟨s.toArray⟩ (t+nn))):=aa ((be.block _ hin1).trans HI1.o);obtain⟨v,hv⟩:=aj (fD s t);have HV:=aa hv;rw[<-hv];clear be hv HB2 HI1 hnx;cases v with
    |true=>have HE:=aa (HP.o.trans (rO s t hlt h0 HV.o.symm));go_wp2;go_ret;exact⟨by rw[HE.o];simp,HB3.o⟩
    |false=>
     have HE:=aa (HP.o.trans (ja s t hlt (fun h=>by rw[<-HV.o]at h;cases h.2)));go_wp2;go_roundw
     case rel=>exact⟨t+nn,(by show _=_;rw[HE.o,HNN.o]),HI2,HB3⟩
     case measure=>rw[HM.o];unfold sH;rw[HI2.o];simp only[];omega
   ·have h00:t=0:=by omega
    have HE:=aa (HP.o.trans (ja s t hlt (fun h=>h0 h.1)));have HT0:=aa h00;have h0i:¬(0:Int)<(t:Int):=by omega
    clear h00;go_wp2;go_roundw
    case rel=>exact⟨t+nn,(by show _=_;rw[HE.o,HNN.o]),HI1,HB2⟩
    case measure=>rw[HM.o];unfold sH;rw[HI1.o];simp only[];omega
  ·have hnx:=dG (P:=Tryz.prog) wr w1.heap.size ⟨s.toArray⟩ t 0 HI.o (by rw[HSZ.o];exact hlt);have HE:=aa (HP.o.trans (zcV s t hlt));go_wp2;go_ret;exact⟨by rw[HE.o];rfl,HB.o⟩
end Wd
namespace Wd
open Go.RowKit Go.Shelf
attribute [local go_sem] Oper.semAt_some
theorem mn{w w':World}(h:Below w.heap.size w w'):w.grownBy w' none:=⟨h.os,h.tape,h.output,h.size,fun k hk _=>h.block k hk⟩
def KW(Bs k:Nat):Prop:=k=Bs\/k<2
structure eR(Bs:Nat)(l:List UInt8)(w:World):Prop where
 bs:Boxed w Bs 9 (.string ⟨l.toArray⟩)
 tb:na w
theorem eR.lt{Bs:Nat}{l:List UInt8}{w:World}(h:eR Bs l w):∀k,KW Bs k->k<w.heap.size:=fun k hk=>by
 rcases hk with rfl|hk
 ·exact h.bs.lt
 ·exact Nat.lt_of_lt_of_le hk h.tb.two
theorem eR.keeps{Bs:Nat}{l:List UInt8}{w w':World}(h:eR Bs l w)(hs:w.heap.size<=w'.heap.size)(hk:∀k,KW Bs k->w'.heap[k]?=w.heap[k]?):eR Bs l w' where
 bs:=(hk Bs (.inl rfl)).trans h.bs
 tb:=⟨⟨fun c hc=>(sD (w:=w) (a:=⟨0,c,none⟩) (hk 0 (.inr (by decide)))).trans (h.tb.tabs.1 c hc),fun i hi=>⟨(sD (w:=w) (a:=⟨1,2*i,none⟩) (hk 1 (.inr (by decide)))).trans (h.tb.tabs.2 i hi).1,(sD (w:=w) (a:=⟨1,2*i+1,none⟩) (hk 1 (.inr (by decide)))).trans (h.tb.tabs.2 i hi).2⟩⟩,Nat.le_trans h.tb.two hs⟩
theorem eR.below{Bs:Nat}{l:List UInt8}{w w':World}(h:eR Bs l w)(hb:Below w.heap.size w w'):eR Bs l w':=
 h.keeps hb.size (fun k h2=>hb.block k (h.lt k h2))
theorem zjQ(l:List UInt8)(w:World):
  Calls Tryz.prog 22 #[.string ⟨l.toArray⟩] w fun e w'=>e=.returned (.func (.func 51) #[] #[.pointer (some ⟨w.heap.size,0,none⟩)])/\w'=w.alloc (.cells #[.string ⟨l.toArray⟩] 9):=by
 go_enter Tryz.func22,Tryz.ntmps22;go_wp2;go_ret;exact⟨rfl,rfl⟩
end Wd
end Go.Proofs.YtbbapnpdfcgjnaaGreatDoor
