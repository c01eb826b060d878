/- PwKit: parts of the proof, joined. -/
import Derived.Shelf.RegionOpen
import Derived.OwnWalkIn
import Derived.LoopNIn
import Derived.LoopIn
import Derived.Test.YtbbapnpdfcgjnaaGreatDoorEPtMath
import Derived.Test.YtbbapnpdfcgjnaaGreatDoorEMix
import Derived.Test.YtbbapnpdfcgjnaaGreatDoorEBase
import Derived.Test.YtbbapnpdfcgjnaaGreatDoorERngO
open Array renaming getElem?_eq_some_iff->sR
open Go renaming World->sS, Value->sT
set_option maxHeartbeats 64000000
namespace Go.Proofs.YtbbapnpdfcgjnaaGreatDoor
namespace Pw
open Go.RowKit Go.Shelf Wt
def Cb(W:sS)(B:Nat)(c:Array sT)(t:Nat):Prop:=W.heap[B]?=some (.cells c t (0,0))
theorem Cb.lt{W:sS}{B:Nat}{c:Array sT}{t:Nat}(h:Cb W B c t):B<W.heap.size:=(sR.1 h).1
theorem Cb.cell{W:sS}{B:Nat}{c:Array sT}{t:Nat}(h:Cb W B c t)(i:Nat):W.cell? ⟨B,i,none⟩=c[i]? :=by
 unfold Cb at h
 simp[sS.cell?,h]
theorem Cb.frozen{W:sS}{B:Nat}{c:Array sT}{t:Nat}(h:Cb W B c t)(i:Nat):W.frozen? ⟨B,i,none⟩=false:=by
 unfold Cb at h
 simp[sS.frozen?,h]
theorem Cb.new(w:sS)(c:Array sT)(t:Nat):Cb (w.alloc (.cells c t)) w.heap.size c t:=sS.alloc_heap_new w _
theorem Cb.below{W W':sS}{B:Nat}{c:Array sT}{t:Nat}(h:Cb W B c t)(hb:Below W.heap.size W W'):Cb W' B c t:=(hb.block _ h.lt).trans h
theorem Cb.alloc{W:sS}{B:Nat}{c:Array sT}{t:Nat}(h:Cb W B c t)(o:Obj):Cb (W.alloc o) B c t:=h.below ((Below.refl _ _).alloc (Nat.le_refl _) _)
theorem Cb.set{W:sS}{B:Nat}{c:Array sT}{t:Nat}(h:Cb W B c t)(i:Nat)(v:sT):Cb (W.setCell ⟨B,i,none⟩ v) B (c.setIfInBounds i v) t:=by
 obtain⟨hlt,hk⟩:=sR.1 h
 show(W.heap.modify B _)[B]?=_
 rw[Array.getElem?_eq_getElem (by rw[Array.size_modify];exact hlt),Array.getElem_modify_self,hk]
 rfl
theorem Cb.kept{W W':sS}{row:Option Nat}{B:Nat}{c:Array sT}{t:Nat}(h:Cb W B c t)(hg:W.grownBy W' row)(hne:some B≠row):Cb W' B c t:=(hg.block B h.lt hne).trans h
theorem Cb.one{W:sS}{B:Nat}{v:sT}{t:Nat}(h:Cb W B #[v] t):W.cell? ⟨B,0,none⟩=some v:=(h.cell 0).trans rfl
def mkD(D:List Nat):List Deferred:=D.map fun d=>{target:=.collected d,args:=#[]}
structure zpp(D:List Nat)(B:Nat)(w:sS):Prop where
 at':∀d∈D,w.heap[d]?=some (.deferred (some []))
 low:∀d∈D,B<=d
 nodup:D.Nodup
structure lO(B:Nat)(X Y:sS):Prop where
 low:Below B X Y
 cells:∀(k:Nat)(o:Obj),X.heap[k]?=some o->o.isCells=true->Y.heap[k]?=some o
theorem lO.refl(B:Nat)(X:sS):lO B X X:=⟨Below.refl _ _,fun _ _ h _=>h⟩
theorem lO.trans{B:Nat}{X Y Z:sS}(h:lO B X Y)(k:lO B Y Z):lO B X Z:=⟨h.low.trans k.low,fun i o h1 h2=>k.cells i o (h.cells i o h1 h2) h2⟩
theorem gL{fn:Func}{tmps:Array sT}{R:Ending->sS->Prop}(n B:Nat):∀(D:List Nat)(w:sS),zpp D B w->(∀w',lO B w w'->LeavesIn Fence.wide n Tryz.prog fn tmps R [] .returning w')->LeavesInM Fence.wide n Tryz.prog fn tmps R (mkD D) .returning w
 |[],w,_,h=>h w (lO.refl B w)
 |d::D,w,hm,h=>by
  have hd:=hm.at' d (.head _);have hlt:=(sR.1 hd).1;have hs:lO B w (w.putObj d (.deferred none)):=⟨(Below.refl B w).grown (grownBy_putObj' w d _) (by have:=hm.low d (.head _);omega) (fun k e=>by cases e;exact hm.low d (.head _)),fun k o h1 h2=>by
   have:k≠d:=fun e=>by subst e;rw[hd]at h1;cases h1;cases h2
   rw[sS.putObj_heap_other this];exact h1⟩
  refine⟨by simp,.inl ⟨_,_,rfl,run_takeDeferred hd,gL n B D _ ⟨fun e he=>?_,fun e he=>hm.low e (.tail _ he),(List.nodup_cons.1 hm.nodup).2⟩ (fun w' hw=>h w' (hs.trans hw))⟩⟩
  have:e≠d:=fun h1=>(List.nodup_cons.1 hm.nodup).1 (h1 ▸ he)
  rw[sS.putObj_heap_other this];exact hm.at' e (.tail _ he)
theorem gD{fn:Func}(h:fn.results=#[.cell 4 4])(tmps:Array sT)(w:sS)(g:Nat)(v:sT)(hp:tmps[4]?.getD undef=.pointer (some ⟨g,0,none⟩))(hg:Cb w g #[v] 4):(results fn tmps).run Tryz.prog w=.ok v w:=by
 have c:=hg.one
 simp only[results,h]
 go_simp
end Pw
end Go.Proofs.YtbbapnpdfcgjnaaGreatDoor
