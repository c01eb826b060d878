/- WdNext, WdEach: parts of the proof, joined. -/
import Derived.RangeFuncBound
import Derived.Shelf.RegionOpen
import Derived.OwnWalkIn
import Derived.LoopNIn
import Derived.LoopIn
import Derived.Test.YtokpjifnlifafaaGreatDoorEWdFun1
set_option maxHeartbeats 64000000
namespace Go.Proofs.YtokpjifnlifafaaGreatDoor
namespace Wd
open Go.RowKit Go.Shelf
attribute [local go_sem] Oper.semAt_some
theorem bgF_zero (l:List UInt8) (h:l≠ []):bgF l 0 4=0:=by
 have h1:=dec_ge l h;unfold bgF
 simp only[Nat.not_lt_zero,if_false,Nat.sub_self,List.drop_zero,Nat.zero_add]
 split
 ·rw[if_pos (by omega)]
 ·unfold bgF;simp
theorem back_one (l:List UInt8) (w:World) (ht:TbW w) (h:l≠ []) (hl:l.length<=1000000000):
  Calls Tryz.prog 50 #[.string ⟨l.toArray⟩,.int .i64 1] w fun e w'=>e= .returned (.int .i64 0)/\Below w.heap.size w w':=by
 have HT:=hid ht;have hp:0<l.length:=List.length_pos_iff.2 h;have HZ:=hid (bgF_zero l h);have c1:¬((l.length:Int)<1):=by omega
 clear ht h;go_enter Tryz.func50,Tryz.ntmps50;go_wp2_with fail;refine(begin_any l 0 w hp (by omega) HT.out.tabs HT.out.two).mono ?_
 rintro e w1 ⟨rfl,be⟩;rw[HZ.out];go_wp2;go_ret;exact⟨rfl,be⟩
def wnxF (s:List UInt8):Nat->Nat->Nat
 | 0,_=>s.length
 | f+1,t=>if t<s.length then (if 0<t/\wcut s t=true then t else wnxF s f (t+(dec (s.drop t)).2)) else s.length
theorem zdR (s:List UInt8):∀(f g t:Nat),s.length - t<=f->s.length - t<=g->wnxF s f t=wnxF s g t
 | 0,0,t,_,_=>rfl
 | 0,g+1,t,hf,hg=>by unfold wnxF;rw[if_neg (by omega)]
 | f+1,0,t,hf,hg=>by unfold wnxF;rw[if_neg (by omega)]
 | f+1,g+1,t,hf,hg=>by
  unfold wnxF
  by_cases h:t<s.length
  ·have h1:=dec_ge (s.drop t) (zaL _ t h)
   rw[if_pos h,if_pos h,zdR s f g (t+(dec (s.drop t)).2) (by omega) (by omega)]
  ·rw[if_neg h,if_neg h]
def wnxT (s:List UInt8) (t:Nat):Nat:=wnxF s (s.length - t) t
theorem wnxT_end (s:List UInt8) (t:Nat) (h:¬t<s.length):wnxT s t=s.length:=by
 unfold wnxT;rw[show s.length - t=0 by omega];rfl
theorem wnxT_here (s:List UInt8) (t:Nat) (h:t<s.length) (h0:0<t) (hc:wcut s t=true):wnxT s t=t:=by
 unfold wnxT;rw[zdR s _ (s.length - t - 1+1) t (by omega) (by omega)]
 unfold wnxF;rw[if_pos h,if_pos ⟨h0,hc⟩]
theorem zcR (s:List UInt8) (t:Nat) (h:t<s.length) (hc:¬(0<t/\wcut s t=true)):wnxT s t=wnxT s (t+(dec (s.drop t)).2):=by
 have h1:=dec_ge (s.drop t) (zaL _ t h);unfold wnxT;rw[zdR s _ (s.length - t - 1+1) t (by omega) (by omega)]
 conv=>lhs;unfold wnxF
 rw[if_pos h,if_neg hc];exact zdR s _ _ _ (by omega) (by omega)
def wnx (s:List UInt8):Nat:=wnxT s 0
theorem wnext_any (s:List UInt8) (w:World) (ht:TbW w) (h:s≠ []) (hl:s.length<=1000000000):
  Calls Tryz.prog 18 #[.string ⟨s.toArray⟩,.int .i64 0] w fun e w'=>e= .returned (.int .i64 (wnx s))/\Below w.heap.size w w':=by
 have HT:=hid ht;have hp:0<s.length:=List.length_pos_iff.2 h;have HNE:=hid h;have HSZ:=hid (show(⟨s.toArray⟩:ByteArray).size=s.length by show s.toArray.size=_;simp)
 have c0:¬((s.length:Int)<=0):=by omega
 clear ht h;go_enter Tryz.func18,Tryz.ntmps18;go_wp2_with fail;refine(back_one s w HT.out HNE.out hl).mono ?_;rintro e w1 ⟨rfl,be⟩;have HB1:=hid be;have HB0:=hid (be.alloc be.size (.stringIter ⟨s.toArray⟩ 0));have HIT0:=hid (World.iter_heap w1 ⟨s.toArray⟩ 0);have hs1:=be.size;clear be;go_wp2;have hex:(⟨s.toArray⟩:ByteArray).extract 0 s.length=⟨s.toArray⟩:=by have:=ext_drop s 0;rw[List.drop_zero] at this;exact this
 try rw[hex]
 clear hex;go_loopw [6] (fun _ wr=>∃t:Nat,Hid (wnx s=wnxT s t)/\Hid (wr.heap[w1.heap.size]? =some (.stringIter ⟨s.toArray⟩ t))/\Hid (Below w.heap.size w wr)) (fun _ wr=>s.length - wr.iterPos w1.heap.size)
 case atStart=>exact⟨0,rfl,HIT0,HB0⟩
 case round=>
  obtain⟨t,HP,HI,HB⟩:=hrel;have hin:w1.heap.size<wr.heap.size:=(Array.getElem?_eq_some_iff.1 HI.out).1
  by_cases hlt:t<s.length
  ·have hnx:=wnext_at (P:=Tryz.prog) wr w1.heap.size ⟨s.toArray⟩ t 0 HI.out (by rw[HSZ.out];exact hlt)
   rw[zcj s t hlt] at hnx;have d1:=dec_ge _ (zaL s t hlt);obtain⟨nn,hnn⟩:∃nn,nn=(dec (s.drop t)).2:=⟨_,rfl⟩;obtain⟨rr,hrr⟩:∃rr,rr=(dec (s.drop t)).1:=⟨_,rfl⟩;rw[<- hnn] at hnx d1;rw[<- hrr] at hnx;have HNN:=hid hnn;obtain⟨w2,hw2⟩:∃w2,w2=wr.putObj w1.heap.size (.stringIter ⟨s.toArray⟩ (t+nn)):=⟨_,rfl⟩;rw[<- hw2] at hnx;have HI1:=hid (show w2.heap[w1.heap.size]? =some (.stringIter ⟨s.toArray⟩ (t+nn)) by rw[hw2];exact World.putObj_heap_same hin)
   have HB2:=hid (show Below w.heap.size w w2 by rw[hw2];exact HB.out.trans ⟨rfl,rfl,rfl,by simp[World.putObj],fun j hj=>World.putObj_heap_other (by omega)⟩)
   have HM:=hid (show s.length - wr.iterPos w1.heap.size=s.length - t by unfold World.iterPos;rw[HI.out])
   have hin1:w1.heap.size<w2.heap.size:=(Array.getElem?_eq_some_iff.1 HI1.out).1;clear hnn hrr hw2 HI HB
   by_cases h0:0<t
   ·have h0i:(0:Int)<(t:Int):=by omega
    go_wp2_with fail
    try rw[Int.zero_add]
    refine(wcut_any s t w2 (HT.out.below HB2.out) hl (by omega)).mono ?_
    rintro e w3 ⟨rfl,be⟩;have HB3:=hid (HB2.out.trans (be.mono HB2.out.size));have HI2:=hid (show w3.heap[w1.heap.size]? =some (.stringIter ⟨s.toArray⟩ (t+nn)) from(be.block _ hin1).trans HI1.out)
    obtain⟨v,hv⟩:∃v,v=wcut s t:=⟨_,rfl⟩;have HV:=hid hv;rw[<- hv];clear be hv HB2 HI1 hnx
    cases v with
    | true=>
     have HE:=hid (HP.out.trans (wnxT_here s t hlt h0 HV.out.symm));go_wp2;go_ret;exact⟨by rw[HE.out];simp,HB3.out⟩
    | false=>
     have HE:=hid (HP.out.trans (zcR s t hlt (fun h=>by rw[<- HV.out] at h;cases h.2)))
     go_wp2;go_roundw
     case rel=>exact⟨t+nn,(by show _=_;rw[HE.out,HNN.out]),HI2,HB3⟩
     case measure=>
      rw[HM.out];unfold World.iterPos;rw[HI2.out]
      simp only[]
      omega
   ·have h00:t=0:=by omega
    have HE:=hid (HP.out.trans (zcR s t hlt (fun h=>h0 h.1)))
    have HT0:=hid h00;have h0i:¬(0:Int)<(t:Int):=by omega
    clear h00;go_wp2;go_roundw
    case rel=>exact⟨t+nn,(by show _=_;rw[HE.out,HNN.out]),HI1,HB2⟩
    case measure=>
     rw[HM.out];unfold World.iterPos;rw[HI1.out]
     simp only[]
     omega
  ·have hnx:=wnext_stop (P:=Tryz.prog) wr w1.heap.size ⟨s.toArray⟩ t 0 HI.out (by rw[HSZ.out];exact hlt)
   have HE:=hid (HP.out.trans (wnxT_end s t hlt));go_wp2;go_ret;exact⟨by rw[HE.out];rfl,HB.out⟩
end Wd
namespace Wd
open Go.RowKit Go.Shelf
attribute [local go_sem] Oper.semAt_some
def KrW (K:Nat->Prop) (W W':World):Prop:=KeepsWalks W W'/\∀k,K k->W'.heap[k]? =W.heap[k]?
theorem KrW_t {K:Nat->Prop} {A B C:World} (h:KrW K A B) (k:KrW K B C):KrW K A C:=⟨h.1.trans k.1,fun i h1=>(k.2 i h1).trans (h.2 i h1)⟩
theorem KrW_b {K:Nat->Prop} {w:World} (hw:∀k,K k->k<w.heap.size) (W:World) (l:Nat) (o o':Obj) (hl:w.heap.size<=l) (h:W.heap[l]? =some o) (_:o.isCells=false) (hk:o.isWalk=false):KrW K W (W.putObj l o'):=
 ⟨KeepsWalks.putObj _ h hk,fun k h2=>World.putObj_heap_other (by have:=hw k h2;omega)⟩
theorem wgrown {w w':World} (h:Below w.heap.size w w'):w.grownBy w' none:=⟨h.os,h.tape,h.output,h.size,fun k hk _=>h.block k hk⟩
def KW (Bs k:Nat):Prop:=k=Bs\/k<2
structure WaAt (Bs:Nat) (l:List UInt8) (w:World):Prop where
 bs:Boxed w Bs 9 (.string ⟨l.toArray⟩)
 tb:TbW w
theorem WaAt.lt {Bs:Nat} {l:List UInt8} {w:World} (h:WaAt Bs l w):∀k,KW Bs k->k<w.heap.size:=fun k hk=>by
 rcases hk with rfl | hk
 ·exact h.bs.lt
 ·exact Nat.lt_of_lt_of_le hk h.tb.two
theorem WaAt.keeps {Bs:Nat} {l:List UInt8} {w w':World} (h:WaAt Bs l w) (hs:w.heap.size<=w'.heap.size) (hk:∀k,KW Bs k->w'.heap[k]? =w.heap[k]?):WaAt Bs l w' where
 bs:=(hk Bs (.inl rfl)).trans h.bs
 tb:=⟨⟨fun c hc=>(World.cell?_of_block (w:=w) (a:=⟨0,c,none⟩) (hk 0 (.inr (by decide)))).trans (h.tb.tabs.1 c hc),fun i hi=>⟨(World.cell?_of_block (w:=w) (a:=⟨1,2 * i,none⟩) (hk 1 (.inr (by decide)))).trans (h.tb.tabs.2 i hi).1,(World.cell?_of_block (w:=w) (a:=⟨1,2 * i+1,none⟩) (hk 1 (.inr (by decide)))).trans (h.tb.tabs.2 i hi).2⟩⟩,Nat.le_trans h.tb.two hs⟩
theorem WaAt.below {Bs:Nat} {l:List UInt8} {w w':World} (h:WaAt Bs l w) (hb:Below w.heap.size w w'):WaAt Bs l w':=
 h.keeps hb.size (fun k h2=>hb.block k (h.lt k h2))
theorem weach_any (l:List UInt8) (w:World):
  Calls Tryz.prog 22 #[.string ⟨l.toArray⟩] w fun e w'=>e= .returned (.func (.func 51) #[] #[.pointer (some ⟨w.heap.size,0,none⟩)])/\w'=w.alloc (.cells #[.string ⟨l.toArray⟩] 9):=by
 go_enter Tryz.func22,Tryz.ntmps22;go_wp2;go_ret;exact⟨rfl,rfl⟩
end Wd
end Go.Proofs.YtokpjifnlifafaaGreatDoor
