/- PwKit: parts of the proof, joined. -/
import Derived.RangeFuncNested
import Derived.RangeFuncBound
import Derived.Shelf.RegionOpen
import Derived.OwnWalkIn
import Derived.LoopNIn
import Derived.LoopIn
import Derived.Test.YtbbapnpdfcgjnaaGreatDoorMPtMath
import Derived.Test.YtbbapnpdfcgjnaaGreatDoorMMix
import Derived.Test.YtbbapnpdfcgjnaaGreatDoorMBase
open Array renaming getElem?_eq_some_iff->sD
open Go renaming Value->sE, World->sG
set_option maxHeartbeats 64000000
namespace Go.Proofs.YtbbapnpdfcgjnaaGreatDoor
namespace Pw
open Go.RowKit Go.Shelf Wt
def Cb (W:sG) (B:Nat) (c:Array sE) (t:Nat):Prop:=W.heap[B]? =some (.cells c t (0,0))
theorem Cb.lt {W:sG} {B:Nat} {c:Array sE} {t:Nat} (h:Cb W B c t):B<W.heap.size:=(sD.1 h).1
theorem Cb.cell {W:sG} {B:Nat} {c:Array sE} {t:Nat} (h:Cb W B c t) (i:Nat):W.cell? ⟨B,i,none⟩=c[i]? :=by
 unfold Cb at h
 simp[sG.cell?,h]
theorem Cb.frozen {W:sG} {B:Nat} {c:Array sE} {t:Nat} (h:Cb W B c t) (i:Nat):W.frozen? ⟨B,i,none⟩=false:=by
 unfold Cb at h
 simp[sG.frozen?,h]
theorem Cb.new (w:sG) (c:Array sE) (t:Nat):Cb (w.alloc (.cells c t)) w.heap.size c t:=sG.alloc_heap_new w _
theorem Cb.below {W W':sG} {B:Nat} {c:Array sE} {t:Nat} (h:Cb W B c t) (hb:Below W.heap.size W W'):Cb W' B c t:=(hb.block _ h.lt).trans h
theorem Cb.alloc {W:sG} {B:Nat} {c:Array sE} {t:Nat} (h:Cb W B c t) (o:Obj):Cb (W.alloc o) B c t:=h.below ((Below.refl _ _).alloc (Nat.le_refl _) _)
theorem Cb.set {W:sG} {B:Nat} {c:Array sE} {t:Nat} (h:Cb W B c t) (i:Nat) (v:sE):Cb (W.setCell ⟨B,i,none⟩ v) B (c.setIfInBounds i v) t:=by
 obtain⟨hlt,hk⟩:=sD.1 h
 show(W.heap.modify B _)[B]? =_
 rw[Array.getElem?_eq_getElem (by rw[Array.size_modify];exact hlt),Array.getElem_modify_self,hk]
 rfl
end Pw
end Go.Proofs.YtbbapnpdfcgjnaaGreatDoor
