/- PwKit: parts of the proof, joined. -/
import Derived.RangeFuncNested
import Derived.RangeFuncBound
import Derived.Shelf.RegionOpen
import Derived.OwnWalkIn
import Derived.LoopNIn
import Derived.LoopIn
import Derived.Test.YtbbapnpdfcgjnaaGreatDoorNPtMath
import Derived.Test.YtbbapnpdfcgjnaaGreatDoorNMix
import Derived.Test.YtbbapnpdfcgjnaaGreatDoorNBase
open Array renaming getElem?_eq_some_iff->sH
open Go renaming Value->sI, World->sJ
set_option maxHeartbeats 64000000
namespace Go.Proofs.YtbbapnpdfcgjnaaGreatDoor
namespace Pw
open Go.RowKit Go.Shelf Wt
def Cb (W:sJ) (B:Nat) (c:Array sI) (t:Nat):Prop:=W.heap[B]? =some (.cells c t (0,0))
theorem Cb.lt {W:sJ} {B:Nat} {c:Array sI} {t:Nat} (h:Cb W B c t):B<W.heap.size:=(sH.1 h).1
theorem Cb.cell {W:sJ} {B:Nat} {c:Array sI} {t:Nat} (h:Cb W B c t) (i:Nat):W.cell? ⟨B,i,none⟩=c[i]? :=by
 unfold Cb at h
 simp[sJ.cell?,h]
theorem Cb.frozen {W:sJ} {B:Nat} {c:Array sI} {t:Nat} (h:Cb W B c t) (i:Nat):W.frozen? ⟨B,i,none⟩=false:=by
 unfold Cb at h
 simp[sJ.frozen?,h]
theorem Cb.below {W W':sJ} {B:Nat} {c:Array sI} {t:Nat} (h:Cb W B c t) (hb:Below W.heap.size W W'):Cb W' B c t:=(hb.block _ h.lt).trans h
theorem Cb.set {W:sJ} {B:Nat} {c:Array sI} {t:Nat} (h:Cb W B c t) (i:Nat) (v:sI):Cb (W.setCell ⟨B,i,none⟩ v) B (c.setIfInBounds i v) t:=by
 obtain⟨hlt,hk⟩:=sH.1 h
 show(W.heap.modify B _)[B]? =_
 rw[Array.getElem?_eq_getElem (by rw[Array.size_modify];exact hlt),Array.getElem_modify_self,hk]
 rfl
end Pw
end Go.Proofs.YtbbapnpdfcgjnaaGreatDoor
