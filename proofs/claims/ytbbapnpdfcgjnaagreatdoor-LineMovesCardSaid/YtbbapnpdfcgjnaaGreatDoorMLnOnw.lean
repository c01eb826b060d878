/- LnOnw: parts of the proof, joined. -/
import Derived.RangeFuncNested
import Derived.Test.YtbbapnpdfcgjnaaGreatDoorMBase
open Array renaming getElem?_eq_some_iff->sD
open Go.World renaming iterPos->sE, putObj->sH
set_option maxHeartbeats 64000000
namespace Go.Proofs.YtbbapnpdfcgjnaaGreatDoor
namespace Ln
open Go.RowKit
theorem run_next_at {P:Program} (w:World) (it:Nat) (s:ByteArray) (pos:Nat) (ty:TypeId) (hit:w.heap[it]? =some (.stringIter s pos)) (h:pos<s.size):
  (Instr.next (.pointer (some ⟨it,0,none⟩)) true ty).run P w= .ok (.tuple #[.bool true,.int .i64 pos,.int .i32 (Utf8.decode s pos).1]) (w.putObj it (.stringIter s (pos+(Utf8.decode s pos).2))):=by
 simp[Instr.next,getObj,setObj,Sem.run_bind,Sem.run,hit,Result.andThen,h,goInt,sH]
theorem run_next_stop {P:Program} (w:World) (it:Nat) (s:ByteArray) (pos:Nat) (ty:TypeId) (hit:w.heap[it]? =some (.stringIter s pos)) (h:¬pos<s.size):
  (Instr.next (.pointer (some ⟨it,0,none⟩)) true ty).run P w= .ok (.tuple #[.bool false]) w:=by
 simp[Instr.next,getObj,Sem.run,hit,h]
def zau (s:List UInt8) (fr p:Nat):Nat->Nat->Nat
 | 0,_=>s.length
 | f+1,t=>if t<(s.drop p).length then (if 0<t/\iq s fr (p+t)=true then p+t else zau s fr p f (t+(dec ((s.drop p).drop t)).2)) else s.length
theorem kN (s:List UInt8) (fr p:Nat):∀(f g t:Nat),(s.drop p).length - t<=f->(s.drop p).length - t<=g->zau s fr p f t=zau s fr p g t
 | 0,0,t,_,_=>rfl
 | 0,g+1,t,hf,hg=>by
  unfold zau;rw[if_neg (by omega)]
 | f+1,0,t,hf,hg=>by
  unfold zau;rw[if_neg (by omega)]
 | f+1,g+1,t,hf,hg=>by
  unfold zau
  by_cases h:t<(s.drop p).length
  ·have h1:=dec_ge ((s.drop p).drop t) (bR _ t h)
   rw[if_pos h,if_pos h,kN s fr p f g (t+(dec ((s.drop p).drop t)).2) (by omega) (by omega)]
  ·rw[if_neg h,if_neg h]
def qk (s:List UInt8) (fr p t:Nat):Nat:=zau s fr p ((s.drop p).length - t) t
theorem zcI (s:List UInt8) (fr p t:Nat) (h:¬t<(s.drop p).length):qk s fr p t=s.length:=by
 unfold qk;rw[show(s.drop p).length - t=0 by omega];rfl
theorem qZ (s:List UInt8) (fr p t:Nat) (h:t<(s.drop p).length) (h0:0<t) (hc:iq s fr (p+t)=true):qk s fr p t=p+t:=by
 unfold qk;rw[kN s fr p _ ((s.drop p).length - t - 1+1) t (by omega) (by omega)]
 unfold zau;rw[if_pos h,if_pos ⟨h0,hc⟩]
theorem iY (s:List UInt8) (fr p t:Nat) (h:t<(s.drop p).length) (hc:¬(0<t/\iq s fr (p+t)=true)):qk s fr p t=qk s fr p (t+(dec ((s.drop p).drop t)).2):=by
 have h1:=dec_ge ((s.drop p).drop t) (bR _ t h);unfold qk;rw[kN s fr p _ ((s.drop p).length - t - 1+1) t (by omega) (by omega)]
 conv=>lhs;unfold zau
 rw[if_pos h,if_neg hc];exact kN s fr p _ _ _ (by omega) (by omega)
def onw (s:List UInt8) (fr p:Nat):Nat:=qk s fr p 0
theorem zfG (s:List UInt8) (fr p:Nat) (w:World) (ht:Tb w) (hl:s.length<=1000000000) (hp:p<=s.length) (hf:fr<=p):
  Calls Tryz.prog 62 #[.string ⟨s.toArray⟩,.int .i64 fr,.int .i64 p] w fun e w'=>e= .returned (.int .i64 (onw s fr p))/\Below w.heap.size w w':=by
 have HT:=hid ht;obtain⟨l,hll⟩:∃l,l=s.drop p:=⟨_,rfl⟩;have hdl:l.length=s.length - p:=by rw[hll];exact List.length_drop
 have HLL:=hid hll;have HSZ:=hid (show(⟨l.toArray⟩:ByteArray).size=l.length by show l.toArray.size=_;simp)
 have HB0:=hid ((Below.refl w.heap.size w).alloc (Nat.le_refl _) (.stringIter ⟨l.toArray⟩ 0));have HIT0:=hid (World.iter_heap w ⟨l.toArray⟩ 0);clear ht hll;go_enter Tryz.func62,Tryz.ntmps62;go_wp2;rw[ext_drop,<- HLL.out];go_loopw [7] (fun _ wr=>∃t:Nat,Hid (onw s fr p=qk s fr p t)/\Hid (wr.heap[w.heap.size]? =some (.stringIter ⟨l.toArray⟩ t))/\Hid (Below w.heap.size w wr)) (fun _ wr=>l.length - wr.iterPos w.heap.size)
 case atStart=>exact⟨0,rfl,HIT0,HB0⟩
 case round=>
  obtain⟨t,HP,HI,HB⟩:=hrel;have hin:w.heap.size<wr.heap.size:=(sD.1 HI.out).1
  by_cases hlt:t<l.length
  ·have hnx:=run_next_at (P:=Tryz.prog) wr w.heap.size ⟨l.toArray⟩ t 0 HI.out (by rw[HSZ.out];exact hlt)
   rw[lr l t hlt] at hnx;have d1:=dec_ge _ (bR l t hlt);obtain⟨nn,hnn⟩:∃nn,nn=(dec (l.drop t)).2:=⟨_,rfl⟩;obtain⟨rr,hrr⟩:∃rr,rr=(dec (l.drop t)).1:=⟨_,rfl⟩;rw[<- hnn] at hnx d1;rw[<- hrr] at hnx;have HNN:=hid hnn;obtain⟨w1,hw1⟩:∃w1,w1=wr.putObj w.heap.size (.stringIter ⟨l.toArray⟩ (t+nn)):=⟨_,rfl⟩;rw[<- hw1] at hnx;have HI1:=hid (show w1.heap[w.heap.size]? =some (.stringIter ⟨l.toArray⟩ (t+nn)) by rw[hw1];exact World.putObj_heap_same hin)
   have HB1:=hid (show Below w.heap.size w w1 by rw[hw1];exact HB.out.trans ⟨rfl,rfl,rfl,by simp[sH],fun j hj=>World.putObj_heap_other (by omega)⟩)
   have HM:=hid (show l.length - wr.iterPos w.heap.size=l.length - t by unfold sE;rw[HI.out])
   have hin1:w.heap.size<w1.heap.size:=(sD.1 HI1.out).1;have hlt':t<(s.drop p).length:=by rw[<- HLL.out];exact hlt
   have HLT:=hid hlt';clear hnn hrr hw1 HI HB hlt'
   by_cases h0:0<t
   ·have h0i:(0:Int)<(t:Int):=by omega
    have hpt:p+t<=s.length:=by omega
    go_wp2_with fail;refine(zbi s fr (p+t) w1 (HT.out.below HB1.out) hl hpt (by omega)).mono ?_
    rintro e w2 ⟨rfl,be⟩;have HB2:=hid (HB1.out.trans (be.mono HB1.out.size));have HI2:=hid (show w2.heap[w.heap.size]? =some (.stringIter ⟨l.toArray⟩ (t+nn)) from(be.block _ hin1).trans HI1.out)
    obtain⟨v,hv⟩:∃v,v=iq s fr (p+t):=⟨_,rfl⟩;have HV:=hid hv;rw[<- hv];clear be hv HB1 HI1 hnx
    cases v with
    | true=>
     have HE:=hid (HP.out.trans (qZ s fr p t HLT.out h0 HV.out.symm));go_wp2;go_ret;exact⟨by rw[HE.out];simp,HB2.out⟩
    | false=>
     have HE:=hid (HP.out.trans (iY s fr p t HLT.out (fun h=>by rw[<- HV.out] at h;cases h.2)))
     go_wp2;go_roundw
     case rel=>exact⟨t+nn,(by show _=_;rw[HE.out,HNN.out,HLL.out]),HI2,HB2⟩
     case measure=>
      rw[HM.out];unfold sE;rw[HI2.out]
      simp only[]
      omega
   ·have h00:t=0:=by omega
    have HE:=hid (HP.out.trans (iY s fr p t HLT.out (fun h=>h0 h.1)))
    have HT0:=hid h00;have h0i:¬(0:Int)<(t:Int):=by omega
    clear h00;go_wp2;go_roundw
    case rel=>exact⟨t+nn,(by show _=_;rw[HE.out,HNN.out,HLL.out]),HI1,HB1⟩
    case measure=>
     rw[HM.out];unfold sE;rw[HI1.out]
     simp only[]
     omega
  ·have hnx:=run_next_stop (P:=Tryz.prog) wr w.heap.size ⟨l.toArray⟩ t 0 HI.out (by rw[HSZ.out];exact hlt)
   have HE:=hid (HP.out.trans (zcI s fr p t (by rw[<- HLL.out];exact hlt)))
   go_wp2;go_ret;exact⟨by rw[HE.out];rfl,HB.out⟩
end Ln
end Go.Proofs.YtbbapnpdfcgjnaaGreatDoor
