/- LnRd: parts of the proof, joined. -/
import Derived.Test.YtbbapnpdfcgjnaaGreatDoorELnCut
import Derived.Test.YtbbapnpdfcgjnaaGreatDoorEPwKit
set_option maxHeartbeats 64000000
namespace Go.Proofs.YtbbapnpdfcgjnaaGreatDoor
namespace Ln
open Go.RowKit
theorem zba:∀(P:List (Nat×Bool))(k:Nat)(x:Nat×Bool),P[k]?=some x->∀j,j<2->(dZ P)[k*2+j]?=(ch2 x)[j]?
 |[],k,x,h,_,_=>by simp at h
 |y::P,0,x,h,j,hj=>by
  rw[List.getElem?_cons_zero]at h
  cases h
  show(ch2 y++dZ P)[0*2+j]?=_
  rw[Nat.zero_mul,Nat.zero_add,List.getElem?_append_left (by show j<2;exact hj)]
 |y::P,k+1,x,h,j,hj=>by
  rw[List.getElem?_cons_succ]at h
  show(ch2 y++dZ P)[(k+1)*2+j]?=_
  rw[List.getElem?_append_right (by show 2<=_;omega),show(k+1)*2+j-(ch2 y).length=k*2+j by show(k+1)*2+j-2=_;omega]
  exact zba P k x h j hj
def zpo(w:World)(vo:Option Addr)(P:List (Nat×Bool)):Prop:=∀(k:Nat)(x:Nat×Bool),P[k]?=some x->∃g,vo=some ⟨g,0,none⟩/\g<w.heap.size/\w.cell? ⟨g,k*2,none⟩=some (.int .i64 (x.1:Nat))/\w.cell? ⟨g,k*2+1,none⟩=some (.bool x.2)
theorem zpo.below{w w':World}{vo:Option Addr}{P:List (Nat×Bool)}(h:zpo w vo P)(hb:Below w.heap.size w w'):zpo w' vo P:=fun k x hx=>by
 obtain⟨g,h1,h2,h3,h4⟩:=h k x hx;exact⟨g,h1,Nat.lt_of_lt_of_le h2 hb.size,(hb.cell (p:=⟨g,k*2,none⟩) h2).trans h3,(hb.cell (p:=⟨g,k*2+1,none⟩) h2).trans h4⟩
theorem ziG{w:World}{B:Nat}{v:Value}{P:List (Nat×Bool)}(h:w.ownsRow B 53 2 v P.length (dZ P)):
  ∃vo vc,v=.slice vo P.length vc/\zpo w vo P/\((P.length=0/\vo=none)\/∃g cur,vo=some ⟨g,0,none⟩/\B<=g/\Pw.Cb w g cur 53/\P.length*2<=cur.size):=by
 rcases h.2 with ⟨h1,h2⟩|⟨g,cap,cur,h1,h2,h3,h4,h5,h6,h7⟩
 ·exact⟨none,0,by rw[h1,h2],fun k x hx=>by have:=(List.getElem?_eq_some_iff.1 hx).1;omega,.inl ⟨h2,rfl⟩⟩
 ·subst h1
  refine⟨_,_,rfl,fun k x hx=>?_,.inr ⟨g,cur,rfl,h2,h3,by rw[h6];exact Nat.mul_le_mul_right 2 h4⟩⟩
  obtain⟨_,_,_,hc⟩:=Pt.dd h;exact⟨g,rfl,Pt.ag h3,hc _ _ ((zba P k x hx 0 (by decide)).trans rfl),hc _ _ ((zba P k x hx 1 (by decide)).trans rfl)⟩
end Ln
end Go.Proofs.YtbbapnpdfcgjnaaGreatDoor
