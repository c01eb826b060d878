/- LnEach: parts of the proof, joined. -/
import Derived.RangeFuncBound
import Derived.Shelf.RegionOpen
import Derived.OwnWalkIn
import Derived.LoopNIn
import Derived.LoopIn
import Derived.Test.YtbbapnpdfcgjnaaGreatDoorNLnOnw
open List renaming length_drop->sH, length_cons->sK
open Go.World renaming cell?_of_block->sI
open Go renaming World->sJ
set_option maxHeartbeats 64000000
namespace Go.Proofs.YtbbapnpdfcgjnaaGreatDoor
namespace Ln
open Go.RowKit Go.Shelf
attribute [local go_sem] Oper.semAt_some
theorem zhj (s:List UInt8) (fr p:Nat) (hp:p<=s.length):∀(n t:Nat),(s.drop p).length - t<=n->t<=(s.drop p).length->p+t<=mT s fr p t/\mT s fr p t<=s.length
 | 0,t,hn,ht=>by
  have h:=sH (i:=p) (l:=s);rw[kD s fr p t (by omega)]
  omega
 | n+1,t,hn,ht=>by
  have h:=sH (i:=p) (l:=s)
  by_cases hlt:t<(s.drop p).length
  ·by_cases hc:0<t/\gH s fr (p+t)=true
   ·rw[lL s fr p t hlt hc.1 hc.2]
    omega
   ·have h1:=dec_ge ((s.drop p).drop t) (bw _ t hlt)
    have h2:=zaQ ((s.drop p).drop t);rw[sH] at h2;have:=zhj s fr p hp n (t+(dec ((s.drop p).drop t)).2) (by omega) (by omega)
    rw[dZ s fr p t hlt hc];omega
  ·rw[kD s fr p t hlt]
   omega
theorem zad (s:List UInt8) (p:Nat) (hp:p<s.length):p<onw s p p/\onw s p p<=s.length:=by
 have h:=sH (i:=p) (l:=s);have h0:0<(s.drop p).length:=by omega
 have h1:=dec_ge ((s.drop p).drop 0) (bw _ 0 h0);have h2:=zaQ ((s.drop p).drop 0);rw[sH] at h2;unfold onw;rw[dZ s p p 0 h0 (fun h=>absurd h.1 (Nat.lt_irrefl 0))]
 have:=zhj s p p (by omega) _ (0+(dec ((s.drop p).drop 0)).2) (Nat.le_refl _) (by omega)
 omega
def chF (s:List UInt8):Nat->Nat->List (Int × Bool)
 | 0,_=>[]
 | f+1,p=>if p<s.length then ((onw s p p:Int),eJ s (onw s p p))::chF s f (onw s p p) else []
theorem zaW (s:List UInt8):∀(f g p:Nat),s.length - p<=f->s.length - p<=g->chF s f p=chF s g p
 | 0,0,_,_,_=>rfl
 | 0,g+1,p,hf,hg=>by unfold chF;rw[if_neg (by omega)]
 | f+1,0,p,hf,hg=>by unfold chF;rw[if_neg (by omega)]
 | f+1,g+1,p,hf,hg=>by
  unfold chF
  by_cases h:p<s.length
  ·have:=zad s p h
   rw[if_pos h,if_pos h,zaW s f g (onw s p p) (by omega) (by omega)]
  ·rw[if_neg h,if_neg h]
def chs (s:List UInt8) (p:Nat):List (Int × Bool):=chF s (s.length - p) p
theorem pH (s:List UInt8) (p:Nat) (h:p<s.length):chs s p=((onw s p p:Int),eJ s (onw s p p))::chs s (onw s p p):=by
 have:=zad s p h;unfold chs;rw[zaW s _ (s.length - p - 1+1) p (by omega) (by omega)]
 conv=>lhs;unfold chF
 rw[if_pos h,zaW s _ (s.length - onw s p p) _ (by omega) (by omega)]
theorem kY (s:List UInt8) (p:Nat) (h:¬p<s.length):chs s p=[]:=by
 unfold chs;rw[show s.length - p=0 by omega];rfl
theorem zii (s:List UInt8):∀(n p:Nat),s.length - p<=n->(chs s p).length<=s.length - p
 | 0,p,h=>by rw[kY s p (by omega)];simp
 | n+1,p,h=>by
  by_cases hp:p<s.length
  ·have h1:=zad s p hp
   have h2:=zii s n (onw s p p) (by omega)
   rw[pH s p hp,sK];omega
  ·rw[kY s p hp];simp
def Kr (K:Nat->Prop) (W W':sJ):Prop:=KeepsWalks W W'/\∀k,K k->W'.heap[k]? =W.heap[k]?
theorem Kr_t {K:Nat->Prop} {A B C:sJ} (h:Kr K A B) (k:Kr K B C):Kr K A C:=⟨h.1.trans k.1,fun i h1=>(k.2 i h1).trans (h.2 i h1)⟩
theorem Kr_b {K:Nat->Prop} {w:sJ} (hw:∀k,K k->k<w.heap.size) (W:sJ) (l:Nat) (o o':Obj) (hl:w.heap.size<=l) (h:W.heap[l]? =some o) (_:o.isCells=false) (hk:o.isWalk=false):Kr K W (W.putObj l o'):=
 ⟨KeepsWalks.putObj _ h hk,fun k h2=>sJ.putObj_heap_other (by have:=hw k h2;omega)⟩
theorem grown_below {w w':sJ} (h:Below w.heap.size w w'):w.grownBy w' none:=⟨h.os,h.tape,h.output,h.size,fun k hk _=>h.block k hk⟩
def KE (Bs k:Nat):Prop:=k=Bs\/k<2
structure mj (Bs:Nat) (l:List UInt8) (w:sJ):Prop where
 bs:Boxed w Bs 9 (.string ⟨l.toArray⟩)
 tb:Tb w
theorem mj.lt {Bs:Nat} {l:List UInt8} {w:sJ} (h:mj Bs l w):∀k,KE Bs k->k<w.heap.size:=fun k hk=>by
 rcases hk with rfl | hk
 ·exact h.bs.lt
 ·exact Nat.lt_of_lt_of_le hk h.tb.two
theorem mj.keeps {Bs:Nat} {l:List UInt8} {w w':sJ} (h:mj Bs l w) (hs:w.heap.size<=w'.heap.size) (hk:∀k,KE Bs k->w'.heap[k]? =w.heap[k]?):mj Bs l w' where
 bs:=(hk Bs (.inl rfl)).trans h.bs
 tb:=⟨⟨fun c hc=>(sI (w:=w) (a:=⟨0,c,none⟩) (hk 0 (.inr (by decide)))).trans (h.tb.tabs.1 c hc),fun i hi=>⟨(sI (w:=w) (a:=⟨1,2 * i,none⟩) (hk 1 (.inr (by decide)))).trans (h.tb.tabs.2 i hi).1,(sI (w:=w) (a:=⟨1,2 * i+1,none⟩) (hk 1 (.inr (by decide)))).trans (h.tb.tabs.2 i hi).2⟩⟩,Nat.le_trans h.tb.two hs⟩
theorem mj.below {Bs:Nat} {l:List UInt8} {w w':sJ} (h:mj Bs l w) (hb:Below w.heap.size w w'):mj Bs l w':=
 h.keeps hb.size (fun k h2=>hb.block k (h.lt k h2))
def zvd (x:Int × Bool):Array Value:=#[.int .i64 x.1,.bool x.2]
theorem zdS (n:Nat) (hn:1<=n) (Bs:Nat) (l:List UInt8) (w:sJ) (hR:mj Bs l w) (hl:l.length<=1000000000):
  SeqStopsK Fence.wide n Tryz.prog 65 #[.pointer (some ⟨Bs,0,none⟩)] zvd (Kr (KE Bs)) (fun xs=>xs=chs l 0) (fun pre=>pre<+:chs l 0) (chs l 0).length w:=fun lp J Jx W hbW hJ hJx hY h0=>by
 have HRW:=hid (hR.below hbW);have hcW:=HRW.out.bs.cell;clear hR hbW;refine callsIn_of_wp Tryz.func65 rfl trivial ?_ rfl
 simp only[Tryz.ntmps65,List.size_toArray,sK,List.length_nil,Nat.reduceAdd,Nat.reduceSub,Array.replicate_succ,Array.replicate_zero,List.push_toArray,List.append_toArray,List.nil_append,List.cons_append]
 gi_wp2;gi_loopw [3] (fun v wr=>∃(p:Nat) (pre:List (Int × Bool)),v= .int .i64 p/\p<=l.length/\Hid (chs l 0=pre++chs l p)/\Hid (J pre wr)/\Hid (mj Bs l wr)) (fun v _=>l.length - (intOf v).toNat)
 case atStart=>exact⟨0,[],rfl,Nat.zero_le _,by simp[Hid],h0,HRW⟩
 case round=>
  obtain⟨p,pre,rfl,hp,HP,HJ,HR⟩:=hrel;clear hcW;have hc:=HR.out.bs.cell
  by_cases hlt:p<l.length
  ·have hlti:(p:Int)<(l.length:Int):=by omega
   obtain⟨hb1,hb2⟩:=zad l p hlt;have HST:=hid (pH l p hlt);gi_wp2_with fail;refine⟨trivial,(callsIn_wide.2 (zfk l p p wr HR.out.tb hl hp (Nat.le_refl _))).mono ?_⟩;rintro e w1 ⟨rfl,be1⟩;have HJ1:=hid (hJ pre wr w1 none HJ.out (grown_below be1) (fun r e=>by cases e))
   have HR1:=hid (HR.out.below be1);obtain⟨q,hq⟩:∃q,q=onw l p p:=⟨_,rfl⟩;rw[<- hq] at hb1 hb2 HST;rw[<- hq];clear be1 hq HJ HR hc;have hc1:=HR1.out.bs.cell;gi_wp2_with fail;refine⟨trivial,(callsIn_wide.2 (zfU l q w1 HR1.out.tb hl hb2)).mono ?_⟩;rintro e w2 ⟨rfl,be2⟩;have HJ2:=hid (hJ pre w1 w2 none HJ1.out (grown_below be2) (fun r e=>by cases e))
   have HR2:=hid (HR1.out.below be2);obtain⟨m,hm⟩:∃m,m=eJ l q:=⟨_,rfl⟩;rw[<- hm] at HST;rw[<- hm];clear be2 hm HJ1 HR1 hc1;have HP2:=hid (show chs l 0=(pre++[((q:Int),m)])++chs l q by rw[HP.out,HST.out,List.append_assoc];rfl)
   obtain⟨fn,tmps,assign,body,hy,hRR⟩:=hY pre ((q:Int),m) w2 HJ2.out (by rw[HP2.out];simp)
   dsimp only[zvd] at hy
   clear HST hY;gi_wp2;refine hRR.mono ?_;rintro e W3 (⟨rfl,hJ3,hk3⟩ | ⟨rfl,hJx3⟩)
   ·have HJ3:=hid hJ3
    have HR3:=hid (HR2.out.keeps hk3.1.size hk3.2);clear hJ3 hk3;gi_wp2;go_roundw
    case rel=>exact⟨q,pre++[((q:Int),m)],rfl,hb2,HP2,HJ3,HR3⟩
    case measure=>simp[intOf];omega
   ·have HJX:=hid hJx3
    clear hJx3;gi_wp2;refine bodyPost_ret (results_none rfl _ _ _) rfl ?_;exact⟨⟨_,rfl⟩,.inr ⟨pre++[((q:Int),m)],⟨chs l q,by rw[HP2.out]⟩,HJX.out⟩⟩
  ·have hlti:¬(p:Int)<(l.length:Int):=by omega
   have HE:=hid (show chs l 0=pre by rw[HP.out,kY l p hlt,List.append_nil])
   gi_wp2;go_end0;exact⟨⟨_,rfl⟩,.inl (by rw[HE.out];exact HJ.out)⟩
theorem zjJ (l:List UInt8) (w:sJ):
  Calls Tryz.prog 40 #[.string ⟨l.toArray⟩] w fun e w'=>e= .returned (.func (.func 65) #[] #[.pointer (some ⟨w.heap.size,0,none⟩)])/\w'=w.alloc (.cells #[.string ⟨l.toArray⟩] 9):=by
 go_enter Tryz.func40,Tryz.ntmps40;go_wp2;go_ret;exact⟨rfl,rfl⟩
end Ln
end Go.Proofs.YtbbapnpdfcgjnaaGreatDoor
