/- LnOnw: parts of the proof, joined. -/
import Derived.RangeFuncNested
import Derived.Test.YtbbapnpdfcgjnaaGreatDoorEBase
open Array renaming getElem?_eq_some_iff->sR
open Go.World renaming iterPos->sS, putObj->sU
set_option maxHeartbeats 64000000
namespace Go.Proofs.YtbbapnpdfcgjnaaGreatDoor
namespace Ln
open Go.RowKit
theorem run_next_at{P:Program}(w:World)(it:Nat)(s:ByteArray)(pos:Nat)(ty:TypeId)(hit:w.heap[it]?=some (.stringIter s pos))(h:pos<s.size):
  (Instr.next (.pointer (some ⟨it,0,none⟩)) true ty).run P w=.ok (.tuple #[.bool true,.int .i64 pos,.int .i32 (Utf8.decode s pos).1]) (w.putObj it (.stringIter s (pos+(Utf8.decode s pos).2))):=by
 simp[Instr.next,getObj,setObj,Sem.run_bind,Sem.run,hit,Result.andThen,h,goInt,sU]
theorem run_next_stop{P:Program}(w:World)(it:Nat)(s:ByteArray)(pos:Nat)(ty:TypeId)(hit:w.heap[it]?=some (.stringIter s pos))(h:¬pos<s.size):
  (Instr.next (.pointer (some ⟨it,0,none⟩)) true ty).run P w=.ok (.tuple #[.bool false]) w:=by
 simp[Instr.next,getObj,Sem.run,hit,h]
def zaz(s:List UInt8)(fr p:Nat):Nat->Nat->Nat
 |0,_=>s.length
 |f+1,t=>if t<(s.drop p).length then (if 0<t/\gS s fr (p+t)=true then p+t else zaz s fr p f (t+(dec ((s.drop p).drop t)).2))else s.length
theorem kV(s:List UInt8)(fr p:Nat):∀(f g t:Nat),(s.drop p).length-t<=f->(s.drop p).length-t<=g->zaz s fr p f t=zaz s fr p g t
 |0,0,t,_,_=>rfl
 |0,g+1,t,hf,hg=>by
  unfold zaz;rw[if_neg (by omega)]
 |f+1,0,t,hf,hg=>by
  unfold zaz;rw[if_neg (by omega)]
 |f+1,g+1,t,hf,hg=>by
  unfold zaz
  by_cases h:t<(s.drop p).length
  ·have h1:=dec_ge ((s.drop p).drop t) (bD _ t h)
   rw[if_pos h,if_pos h,kV s fr p f g (t+(dec ((s.drop p).drop t)).2) (by omega) (by omega)]
  ·rw[if_neg h,if_neg h]
def nE(s:List UInt8)(fr p t:Nat):Nat:=zaz s fr p ((s.drop p).length-t) t
theorem kU(s:List UInt8)(fr p t:Nat)(h:¬t<(s.drop p).length):nE s fr p t=s.length:=by
 unfold nE;rw[show(s.drop p).length-t=0 by omega];rfl
theorem mb(s:List UInt8)(fr p t:Nat)(h:t<(s.drop p).length)(h0:0<t)(hc:gS s fr (p+t)=true):nE s fr p t=p+t:=by
 unfold nE;rw[kV s fr p _ ((s.drop p).length-t-1+1) t (by omega) (by omega)]
 unfold zaz;rw[if_pos h,if_pos ⟨h0,hc⟩]
theorem ey(s:List UInt8)(fr p t:Nat)(h:t<(s.drop p).length)(hc:¬(0<t/\gS s fr (p+t)=true)):nE s fr p t=nE s fr p (t+(dec ((s.drop p).drop t)).2):=by
 have h1:=dec_ge ((s.drop p).drop t) (bD _ t h);unfold nE;rw[kV s fr p _ ((s.drop p).length-t-1+1) t (by omega) (by omega)]
 conv=>lhs;unfold zaz
 rw[if_pos h,if_neg hc];exact kV s fr p _ _ _ (by omega) (by omega)
def onw(s:List UInt8)(fr p:Nat):Nat:=nE s fr p 0
theorem zfF(s:List UInt8)(fr p:Nat)(w:World)(ht:Tb w)(hl:s.length<=1000000000)(hp:p<=s.length)(hf:fr<=p):
  Calls Tryz.prog 62 #[.string ⟨s.toArray⟩,.int .i64 fr,.int .i64 p] w fun e w'=>e=.returned (.int .i64 (onw s fr p))/\Below w.heap.size w w':=by
 have HT:=aa ht;obtain⟨l,hll⟩:=am (s.drop p);have hdl:l.length=s.length-p:=by rw[hll];exact List.length_drop
 have HLL:=aa hll;have HSZ:ae ((⟨l.toArray⟩:ByteArray).size=l.length):=aa (by show l.toArray.size=_;simp)
 have HB0:=aa ((Below.refl w.heap.size w).alloc (Nat.le_refl _) (.stringIter ⟨l.toArray⟩ 0));have HIT0:=aa (World.iter_heap w ⟨l.toArray⟩ 0);clear ht hll;go_enter Tryz.func62,Tryz.ntmps62;go_wp2;rw[ext_drop,<- HLL.o];go_loopw [7] (fun _ wr=>∃t:Nat,ae (onw s fr p=nE s fr p t)/\ae (wr.heap[w.heap.size]?=some (.stringIter ⟨l.toArray⟩ t))/\ae (Below w.heap.size w wr)) (fun _ wr=>l.length-wr.iterPos w.heap.size)
 case atStart=>exact⟨0,rfl,HIT0,HB0⟩
 case round=>
  obtain⟨t,HP,HI,HB⟩:=hrel;have hin:w.heap.size<wr.heap.size:=(sR.1 HI.o).1
  by_cases hlt:t<l.length
  ·have hnx:=run_next_at (P:=Tryz.prog) wr w.heap.size ⟨l.toArray⟩ t 0 HI.o (by rw[HSZ.o];exact hlt)
   rw[lG l t hlt]at hnx;have d1:=dec_ge _ (bD l t hlt);obtain⟨nn,hnn⟩:=am ((dec (l.drop t)).2);obtain⟨rr,hrr⟩:=am ((dec (l.drop t)).1);rw[<- hnn]at hnx d1;rw[<- hrr]at hnx;have HNN:=aa hnn;obtain⟨w1,hw1⟩:=am (wr.putObj w.heap.size (.stringIter ⟨l.toArray⟩ (t+nn)));rw[<- hw1]at hnx;have HI1:ae (w1.heap[w.heap.size]?=some (.stringIter ⟨l.toArray⟩ (t+nn))):=aa (by rw[hw1];exact World.putObj_heap_same hin)
   have HB1:ae (Below w.heap.size w w1):=aa (by rw[hw1];exact HB.o.trans ⟨rfl,rfl,rfl,by simp[sU],fun j hj=>World.putObj_heap_other (by omega)⟩)
   have HM:ae (l.length-wr.iterPos w.heap.size=l.length-t):=aa (by unfold sS;rw[HI.o])
   have hin1:w.heap.size<w1.heap.size:=(sR.1 HI1.o).1;have hlt':t<(s.drop p).length:=by rw[<- HLL.o];exact hlt
   have HLT:=aa hlt';clear hnn hrr hw1 HI HB hlt'
   by_cases h0:0<t
   ·have h0i:(0:Int)<(t:Int):=by omega
    have hpt:p+t<=s.length:=by omega
    go_wp2_with fail;refine(zrn s fr (p+t) w1 (HT.o.below HB1.o) hl hpt (by omega)).mono ?_
    rintro e w2 ⟨rfl,be⟩;have HB2:=aa (HB1.o.trans (be.mono HB1.o.size));have HI2:ae (w2.heap[w.heap.size]?=some (.stringIter ⟨l.toArray⟩ (t+nn))):=aa ((be.block _ hin1).trans HI1.o);obtain⟨v,hv⟩:=am (gS s fr (p+t));have HV:=aa hv;rw[<- hv];clear be hv HB1 HI1 hnx
    cases v with
    |true=>
     have HE:=aa (HP.o.trans (mb s fr p t HLT.o h0 HV.o.symm));go_wp2;go_ret;exact⟨by rw[HE.o];simp,HB2.o⟩
    |false=>
     have HE:=aa (HP.o.trans (ey s fr p t HLT.o (fun h=>by rw[<- HV.o]at h;cases h.2)))
     go_wp2;go_roundw
     case rel=>exact⟨t+nn,(by show _=_;rw[HE.o,HNN.o,HLL.o]),HI2,HB2⟩
     case measure=>
      rw[HM.o];unfold sS;rw[HI2.o]
      simp only[]
      omega
   ·have h00:t=0:=by omega
    have HE:=aa (HP.o.trans (ey s fr p t HLT.o (fun h=>h0 h.1)))
    have HT0:=aa h00;have h0i:¬(0:Int)<(t:Int):=by omega
    clear h00;go_wp2;go_roundw
    case rel=>exact⟨t+nn,(by show _=_;rw[HE.o,HNN.o,HLL.o]),HI1,HB1⟩
    case measure=>
     rw[HM.o];unfold sS;rw[HI1.o]
     simp only[]
     omega
  ·have hnx:=run_next_stop (P:=Tryz.prog) wr w.heap.size ⟨l.toArray⟩ t 0 HI.o (by rw[HSZ.o];exact hlt)
   have HE:=aa (HP.o.trans (kU s fr p t (by rw[<- HLL.o];exact hlt)))
   go_wp2;go_ret;exact⟨by rw[HE.o];rfl,HB.o⟩
end Ln
end Go.Proofs.YtbbapnpdfcgjnaaGreatDoor
