/- LnEach: parts of the proof, joined. -/
import Derived.RangeFuncBound
import Derived.Shelf.RegionOpen
import Derived.OwnWalkIn
import Derived.LoopNIn
import Derived.LoopIn
import Derived.Test.YtbbapnpdfcgjnaaGreatDoorELnOnw
open List renaming length_drop->sR
open Go.World renaming cell?_of_block->sS
set_option maxHeartbeats 64000000
namespace Go.Proofs.YtbbapnpdfcgjnaaGreatDoor
namespace Ln
open Go.RowKit Go.Shelf
attribute [local go_sem] Oper.semAt_some
theorem zhF(s:List UInt8)(fr p:Nat)(hp:p<=s.length):∀(n t:Nat),(s.drop p).length-t<=n->t<=(s.drop p).length->p+t<=nE s fr p t/\nE s fr p t<=s.length
 |0,t,hn,ht=>by
  have h:=sR (i:=p) (l:=s);rw[kU s fr p t (by omega)]
  omega
 |n+1,t,hn,ht=>by
  have h:=sR (i:=p) (l:=s)
  by_cases hlt:t<(s.drop p).length
  ·by_cases hc:0<t/\gS s fr (p+t)=true
   ·rw[mb s fr p t hlt hc.1 hc.2]
    omega
   ·have h1:=dec_ge ((s.drop p).drop t) (bD _ t hlt)
    have h2:=zbm ((s.drop p).drop t);rw[sR]at h2;have:=zhF s fr p hp n (t+(dec ((s.drop p).drop t)).2) (by omega) (by omega)
    rw[ey s fr p t hlt hc];omega
  ·rw[kU s fr p t hlt]
   omega
theorem zfG(s:List UInt8)(p:Nat)(hp:p<s.length):p<onw s p p/\onw s p p<=s.length:=by
 have h:=sR (i:=p) (l:=s);have h0:0<(s.drop p).length:=by omega
 have h1:=dec_ge ((s.drop p).drop 0) (bD _ 0 h0);have h2:=zbm ((s.drop p).drop 0);rw[sR]at h2;unfold onw;rw[ey s p p 0 h0 (fun h=>absurd h.1 (Nat.lt_irrefl 0))]
 have:=zhF s p p (by omega) _ (0+(dec ((s.drop p).drop 0)).2) (Nat.le_refl _) (by omega)
 omega
def chF(s:List UInt8):Nat->Nat->List (Int×Bool)
 |0,_=>[]
 |f+1,p=>if p<s.length then ((onw s p p:Int),eU s (onw s p p))::chF s f (onw s p p)else []
theorem zbs(s:List UInt8):∀(f g p:Nat),s.length-p<=f->s.length-p<=g->chF s f p=chF s g p
 |0,0,_,_,_=>rfl
 |0,g+1,p,hf,hg=>by unfold chF;rw[if_neg (by omega)]
 |f+1,0,p,hf,hg=>by unfold chF;rw[if_neg (by omega)]
 |f+1,g+1,p,hf,hg=>by
  unfold chF
  by_cases h:p<s.length
  ·have:=zfG s p h
   rw[if_pos h,if_pos h,zbs s f g (onw s p p) (by omega) (by omega)]
  ·rw[if_neg h,if_neg h]
def oz(s:List UInt8)(p:Nat):List (Int×Bool):=chF s (s.length-p) p
theorem zeX(s:List UInt8)(p:Nat)(h:p<s.length):oz s p=((onw s p p:Int),eU s (onw s p p))::oz s (onw s p p):=by
 have:=zfG s p h;unfold oz;rw[zbs s _ (s.length-p-1+1) p (by omega) (by omega)]
 conv=>lhs;unfold chF
 rw[if_pos h,zbs s _ (s.length-onw s p p) _ (by omega) (by omega)]
theorem zbr(s:List UInt8)(p:Nat)(h:¬p<s.length):oz s p=[]:=by
 unfold oz;rw[show s.length-p=0 by omega];rfl
theorem grown_below{w w':World}(h:Below w.heap.size w w'):w.grownBy w' none:=⟨h.os,h.tape,h.output,h.size,fun k hk _=>h.block k hk⟩
def KE(Bs k:Nat):Prop:=k=Bs\/k<2
structure eZ(Bs:Nat)(l:List UInt8)(w:World):Prop where
 bs:Boxed w Bs 9 (.string ⟨l.toArray⟩)
 tb:Tb w
theorem eZ.lt{Bs:Nat}{l:List UInt8}{w:World}(h:eZ Bs l w):∀k,KE Bs k->k<w.heap.size:=fun k hk=>by
 rcases hk with rfl|hk
 ·exact h.bs.lt
 ·exact Nat.lt_of_lt_of_le hk h.tb.two
theorem eZ.keeps{Bs:Nat}{l:List UInt8}{w w':World}(h:eZ Bs l w)(hs:w.heap.size<=w'.heap.size)(hk:∀k,KE Bs k->w'.heap[k]?=w.heap[k]?):eZ Bs l w' where
 bs:=(hk Bs (.inl rfl)).trans h.bs
 tb:=⟨⟨fun c hc=>(sS (w:=w) (a:=⟨0,c,none⟩) (hk 0 (.inr (by decide)))).trans (h.tb.tabs.1 c hc),fun i hi=>⟨(sS (w:=w) (a:=⟨1,2*i,none⟩) (hk 1 (.inr (by decide)))).trans (h.tb.tabs.2 i hi).1,(sS (w:=w) (a:=⟨1,2*i+1,none⟩) (hk 1 (.inr (by decide)))).trans (h.tb.tabs.2 i hi).2⟩⟩,Nat.le_trans h.tb.two hs⟩
theorem eZ.below{Bs:Nat}{l:List UInt8}{w w':World}(h:eZ Bs l w)(hb:Below w.heap.size w w'):eZ Bs l w':=
 h.keeps hb.size (fun k h2=>hb.block k (h.lt k h2))
def zoz(x:Int×Bool):Array Value:=#[.int .i64 x.1,.bool x.2]
theorem rO(l:List UInt8)(w:World):
  Calls Tryz.prog 40 #[.string ⟨l.toArray⟩] w fun e w'=>e=.returned (.func (.func 65) #[] #[.pointer (some ⟨w.heap.size,0,none⟩)])/\w'=w.alloc (.cells #[.string ⟨l.toArray⟩] 9):=by
 go_enter Tryz.func40,Tryz.ntmps40;go_wp2;go_ret;exact⟨rfl,rfl⟩
end Ln
end Go.Proofs.YtbbapnpdfcgjnaaGreatDoor
