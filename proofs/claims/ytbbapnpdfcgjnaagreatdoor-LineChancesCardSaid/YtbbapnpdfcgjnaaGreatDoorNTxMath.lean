/- TxMath: parts of the proof, joined. -/
import Derived.Test.YtbbapnpdfcgjnaaGreatDoorNUMath
import Derived.Test.YtbbapnpdfcgjnaaGreatDoorNDcE
open List renaming drop_of_length_le->sH, take_succ_cons->sI, length_cons->sJ
set_option maxHeartbeats 64000000
namespace Go.Proofs.YtbbapnpdfcgjnaaGreatDoor
section
def ent:Nat->List (Nat × Nat)->List Dc.qp
 | _,[]=>[]
 | p,x::X=>((x.1:Int),p,p+x.2)::ent (p+x.2) X
theorem zih (l:List UInt8):∀(n p:Nat),l.length - p<=n->p<=l.length->Dc.cls l.length (Dc.plr l p)=ent p (rl (l.drop p))
 | 0,p,h,hp=>by
  rw[Dc.gw l p (by omega),sH (by omega)]
  rfl
 | n+1,p,h,hp=>by
  by_cases hlt:p<l.length
  ·have hne:=bw l p hlt
   have w1:=jL l p hlt;have w2:=zkt l p hlt;have ih:=zih l n (p+dY l p) (by omega) w2
   rw[Dc.fC l p hlt,kW l p hlt,cC _ hne,List.drop_drop]
   show Dc.cls l.length ((p,((dec (l.drop p)).1:Int))::Dc.plr l (p+dY l p))=(((dec (l.drop p)).1:Int),p,p+dY l p)::ent (p+dY l p) (rl (l.drop (p+dY l p)))
   rw[Dc.cls,ih]
   congr 3
   by_cases h5:p+dY l p<l.length
   ·rw[Dc.fC l _ h5];rfl
   ·rw[Dc.gw l _ h5];show l.length=_;omega
  ·rw[Dc.gw l p hlt,sH (by omega)]
   rfl
theorem zgG (l:List UInt8):Dc.txt l=ent 0 (rl l):=by
 have h:=zih l l.length 0 (by omega) (by omega)
 rw[List.drop_zero] at h;exact h
theorem zhW:∀(X:List (Nat × Nat)) (p:Nat),(ent p X).length=X.length
 | [],_=>rfl
 | x::X,p=>by rw[ent,sJ,sJ,zhW X]
theorem znV:∀(X:List (Nat × Nat)) (p k:Nat) (x:Nat × Nat),X[k]? =some x->(ent p X)[k]? =some ((x.1:Int),p+pW (X.take k),p+pW (X.take (k+1)))
 | [],_,_,_,h=>by cases h
 | y::X,p,0,x,h=>by cases h;simp[ent,pW]
 | y::X,p,k+1,x,h=>by
  have ih:=znV X (p+y.2) k x (by simpa using h)
  rw[ent,List.getElem?_cons_succ,ih,sI,sI,kv,kv]
  simp only[Option.some.injEq,Prod.mk.injEq,true_and]
  omega
theorem rO (l:List UInt8):(Dc.txt l).length=(rl l).length:=by rw[zgG,zhW]
def plc (l:List UInt8) (k:Nat):Nat:=pW ((rl l).take k)
theorem jM (l:List UInt8) (k:Nat) (x:Nat × Nat) (h:(rl l)[k]? =some x):(Dc.txt l)[k]? =some ((x.1:Int),plc l k,plc l (k+1)):=by
 rw[zgG,znV (rl l) 0 k x h]
 simp[plc]
end
end Go.Proofs.YtbbapnpdfcgjnaaGreatDoor
