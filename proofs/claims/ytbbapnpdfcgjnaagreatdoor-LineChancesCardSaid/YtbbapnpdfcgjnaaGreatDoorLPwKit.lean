/- PwKit: parts of the proof, joined. -/
import Derived.RangeFuncNested
import Derived.RangeFuncBound
import Derived.Shelf.RegionOpen
import Derived.OwnWalkIn
import Derived.LoopNIn
import Derived.LoopIn
import Derived.Test.YtbbapnpdfcgjnaaGreatDoorLPtMath
import Derived.Test.YtbbapnpdfcgjnaaGreatDoorLMix
import Derived.Test.YtbbapnpdfcgjnaaGreatDoorLBase
open Array renaming getElem?_eq_some_iff->xa
set_option maxHeartbeats 64000000
namespace Go.Proofs.YtbbapnpdfcgjnaaGreatDoor
namespace Pw
open Go.RowKit Go.Shelf Wt
def Cb (W:World) (B:Nat) (c:Array Value) (t:Nat):Prop:=W.heap[B]? =some (.cells c t (0,0))
theorem Cb.lt {W:World} {B:Nat} {c:Array Value} {t:Nat} (h:Cb W B c t):B<W.heap.size:=(xa.1 h).1
theorem Cb.cell {W:World} {B:Nat} {c:Array Value} {t:Nat} (h:Cb W B c t) (i:Nat):W.cell? ⟨B,i,none⟩=c[i]? :=by
 unfold Cb at h
 simp[World.cell?,h]
theorem Cb.frozen {W:World} {B:Nat} {c:Array Value} {t:Nat} (h:Cb W B c t) (i:Nat):W.frozen? ⟨B,i,none⟩=false:=by
 unfold Cb at h
 simp[World.frozen?,h]
theorem Cb.below {W W':World} {B:Nat} {c:Array Value} {t:Nat} (h:Cb W B c t) (hb:Below W.heap.size W W'):Cb W' B c t:=(hb.block _ h.lt).trans h
theorem Cb.set {W:World} {B:Nat} {c:Array Value} {t:Nat} (h:Cb W B c t) (i:Nat) (v:Value):Cb (W.setCell ⟨B,i,none⟩ v) B (c.setIfInBounds i v) t:=by
 obtain⟨hlt,hk⟩:=xa.1 h
 show(W.heap.modify B _)[B]? =_
 rw[Array.getElem?_eq_getElem (by rw[Array.size_modify];exact hlt),Array.getElem_modify_self,hk]
 rfl
end Pw
end Go.Proofs.YtbbapnpdfcgjnaaGreatDoor
