/- PwKit: parts of the proof, joined. -/
import Derived.Shelf.RegionOpen
import Derived.OwnWalkIn
import Derived.LoopNIn
import Derived.LoopIn
import Derived.Test.YtbbapnpdfcgjnaaGreatDoorWBase
import Derived.Test.YtbbapnpdfcgjnaaGreatDoorWPtMath
import Derived.Test.YtbbapnpdfcgjnaaGreatDoorWRngO
import Derived.Test.YtbbapnpdfcgjnaaGreatDoorWMixIn
open Array renaming getElem?_eq_some_iff->sD
open Go renaming World->sE, Value->sG
set_option maxHeartbeats 64000000
namespace Go.Proofs.YtbbapnpdfcgjnaaGreatDoor
namespace Pw
open Go.RowKit Go.Shelf Wt
def Cb(W:sE)(B:Nat)(c:Array sG)(t:Nat):Prop:=W.heap[B]?=some (.cells c t (0,0))
theorem Cb.lt{W:sE}{B:Nat}{c:Array sG}{t:Nat}(h:Cb W B c t):B<W.heap.size:=(sD.1 h).1
theorem Cb.cell{W:sE}{B:Nat}{c:Array sG}{t:Nat}(h:Cb W B c t)(i:Nat):W.cell? ⟨B,i,none⟩=c[i]? :=by unfold Cb at h;simp[sE.cell?,h]
theorem Cb.frozen{W:sE}{B:Nat}{c:Array sG}{t:Nat}(h:Cb W B c t)(i:Nat):W.frozen? ⟨B,i,none⟩=false:=by unfold Cb at h;simp[sE.frozen?,h]
theorem Cb.new(w:sE)(c:Array sG)(t:Nat):Cb (w.alloc (.cells c t)) w.heap.size c t:=sE.alloc_heap_new w _
theorem Cb.below{W W':sE}{B:Nat}{c:Array sG}{t:Nat}(h:Cb W B c t)(hb:Below W.heap.size W W'):Cb W' B c t:=(hb.block _ h.lt).trans h
theorem Cb.alloc{W:sE}{B:Nat}{c:Array sG}{t:Nat}(h:Cb W B c t)(o:Obj):Cb (W.alloc o) B c t:=h.below ((Below.refl _ _).alloc (Nat.le_refl _) _)
theorem Cb.set{W:sE}{B:Nat}{c:Array sG}{t:Nat}(h:Cb W B c t)(i:Nat)(v:sG):Cb (W.setCell ⟨B,i,none⟩ v) B (c.setIfInBounds i v) t:=by obtain⟨hlt,hk⟩:=sD.1 h;show(W.heap.modify B _)[B]?=_;rw[Array.getElem?_eq_getElem (by rw[Array.size_modify];exact hlt),Array.getElem_modify_self,hk];rfl
theorem Cb.kept{W W':sE}{row:Option Nat}{B:Nat}{c:Array sG}{t:Nat}(h:Cb W B c t)(hg:W.grownBy W' row)(hne:some B≠row):Cb W' B c t:=(hg.block B h.lt hne).trans h
theorem Cb.one{W:sE}{B:Nat}{v:sG}{t:Nat}(h:Cb W B #[v] t):W.cell? ⟨B,0,none⟩=some v:=(h.cell 0).trans rfl
theorem zih{α:Type}{n lp g:Nat}{lb:Array sG}{encs:α->Array sG}{Kp:sE->sE->Prop}{S Sp:List α->Prop}{w:sE}(h:zhC Fence.wide n Tryz.prog g lb encs Kp S Sp w):zhC (Fence.wide.inRound lp) n Tryz.prog g lb encs Kp S Sp w:=h
def mkD(D:List Nat):List Deferred:=D.map fun d=>{target:=.collected d,args:=#[]}
structure zpM(D:List Nat)(B:Nat)(w:sE):Prop where
 at':∀d∈D,w.heap[d]?=some (.deferred (some []))
 low:∀d∈D,B<=d
 nodup:D.Nodup
structure mc(B:Nat)(X Y:sE):Prop where
 low:Below B X Y
 cells:∀(k:Nat)(o:Obj),X.heap[k]?=some o->o.isCells=true->Y.heap[k]?=some o
theorem mc.refl(B:Nat)(X:sE):mc B X X:=⟨Below.refl _ _,fun _ _ h _=>h⟩
theorem mc.trans{B:Nat}{X Y Z:sE}(h:mc B X Y)(k:mc B Y Z):mc B X Z:=⟨h.low.trans k.low,fun i o h1 h2=>k.cells i o (h.cells i o h1 h2) h2⟩
theorem gP{fn:Func}{tmps:Array sG}{R:Ending->sE->Prop}(n B:Nat):∀(D:List Nat)(w:sE),zpM D B w->(∀w',mc B w w'->LeavesIn Fence.wide n Tryz.prog fn tmps R [] .returning w')->LeavesInM Fence.wide n Tryz.prog fn tmps R (mkD D) .returning w
 |[],w,_,h=>h w (mc.refl B w)
 |d::D,w,hm,h=>by
  have hd:=hm.at' d (.head _);have hlt:=(sD.1 hd).1;have hs:mc B w (w.putObj d (.deferred none)):=⟨(Below.refl B w).grown (grownBy_putObj' w d _) (by have:=hm.low d (.head _);omega) (fun k e=>by cases e;exact hm.low d (.head _)),fun k o h1 h2=>by
   have:k≠d:=fun e=>by subst e;rw[hd]at h1;cases h1;cases h2
   rw[sE.putObj_heap_other this];exact h1⟩
  refine⟨by simp,.inl ⟨_,_,rfl,run_takeDeferred hd,gP n B D _ ⟨fun e he=>?_,fun e he=>hm.low e (.tail _ he),(List.nodup_cons.1 hm.nodup).2⟩ (fun w' hw=>h w' (hs.trans hw))⟩⟩;have:e≠d:=fun h1=>(List.nodup_cons.1 hm.nodup).1 (h1 ▸ he);rw[sE.putObj_heap_other this];exact hm.at' e (.tail _ he)
end Pw
end Go.Proofs.YtbbapnpdfcgjnaaGreatDoor
