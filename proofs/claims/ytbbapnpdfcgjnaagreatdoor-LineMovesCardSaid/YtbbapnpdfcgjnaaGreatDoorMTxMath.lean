/- TxMath: parts of the proof, joined. -/
import Derived.Test.YtbbapnpdfcgjnaaGreatDoorMUMath
import Derived.Test.YtbbapnpdfcgjnaaGreatDoorMDcE
open List renaming drop_of_length_le->sD, take_succ_cons->sE, length_cons->sG
set_option maxHeartbeats 64000000
namespace Go.Proofs.YtbbapnpdfcgjnaaGreatDoor
section
def ent:Nat->List (Nat × Nat)->List Dc.qD
 | _,[]=>[]
 | p,x::X=>((x.1:Int),p,p+x.2)::ent (p+x.2) X
theorem ziC (l:List UInt8):∀(n p:Nat),l.length - p<=n->p<=l.length->Dc.cls l.length (Dc.plr l p)=ent p (rl (l.drop p))
 | 0,p,h,hp=>by
  rw[Dc.gD l p (by omega),sD (by omega)]
  rfl
 | n+1,p,h,hp=>by
  by_cases hlt:p<l.length
  ·have hne:=bR l p hlt
   have w1:=jW l p hlt;have w2:=zkR l p hlt;have ih:=ziC l n (p+dS l p) (by omega) w2
   rw[Dc.fG l p hlt,lr l p hlt,bX _ hne,List.drop_drop]
   show Dc.cls l.length ((p,((dec (l.drop p)).1:Int))::Dc.plr l (p+dS l p))=(((dec (l.drop p)).1:Int),p,p+dS l p)::ent (p+dS l p) (rl (l.drop (p+dS l p)))
   rw[Dc.cls,ih]
   congr 3
   by_cases h5:p+dS l p<l.length
   ·rw[Dc.fG l _ h5];rfl
   ·rw[Dc.gD l _ h5];show l.length=_;omega
  ·rw[Dc.gD l p hlt,sD (by omega)]
   rfl
theorem zhc (l:List UInt8):Dc.txt l=ent 0 (rl l):=by
 have h:=ziC l l.length 0 (by omega) (by omega)
 rw[List.drop_zero] at h;exact h
theorem zir:∀(X:List (Nat × Nat)) (p:Nat),(ent p X).length=X.length
 | [],_=>rfl
 | x::X,p=>by rw[ent,sG,sG,zir X]
theorem zos:∀(X:List (Nat × Nat)) (p k:Nat) (x:Nat × Nat),X[k]? =some x->(ent p X)[k]? =some ((x.1:Int),p+qd (X.take k),p+qd (X.take (k+1)))
 | [],_,_,_,h=>by cases h
 | y::X,p,0,x,h=>by cases h;simp[ent,qd]
 | y::X,p,k+1,x,h=>by
  have ih:=zos X (p+y.2) k x (by simpa using h)
  rw[ent,List.getElem?_cons_succ,ih,sE,sE,kI,kI]
  simp only[Option.some.injEq,Prod.mk.injEq,true_and]
  omega
theorem sq (l:List UInt8):(Dc.txt l).length=(rl l).length:=by rw[zhc,zir]
def plc (l:List UInt8) (k:Nat):Nat:=qd ((rl l).take k)
theorem jX (l:List UInt8) (k:Nat) (x:Nat × Nat) (h:(rl l)[k]? =some x):(Dc.txt l)[k]? =some ((x.1:Int),plc l k,plc l (k+1)):=by
 rw[zhc,zos (rl l) 0 k x h]
 simp[plc]
end
end Go.Proofs.YtbbapnpdfcgjnaaGreatDoor
