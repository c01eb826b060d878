/- TxMath: parts of the proof, joined. -/
import Derived.Test.YtbbapnpdfcgjnaaGreatDoorEUMath
import Derived.Test.YtbbapnpdfcgjnaaGreatDoorEDcE
open List renaming drop_of_length_le->sR, take_succ_cons->sS, length_cons->sT
set_option maxHeartbeats 64000000
namespace Go.Proofs.YtbbapnpdfcgjnaaGreatDoor
section
def ent:Nat->List (Nat×Nat)->List Dc.qQ
 |_,[]=>[]
 |p,x::X=>((x.1:Int),p,p+x.2)::ent (p+x.2) X
theorem ziE(l:List UInt8):∀(n p:Nat),l.length-p<=n->p<=l.length->Dc.cls l.length (Dc.plr l p)=ent p (rl (l.drop p))
 |0,p,h,hp=>by
  rw[Dc.gH l p (by omega),sR (by omega)]
  rfl
 |n+1,p,h,hp=>by
  by_cases hlt:p<l.length
  ·have hne:=bD l p hlt
   have w1:=jZ l p hlt;have w2:=zkS l p hlt;have ih:=ziE l n (p+eu l p) (by omega) w2
   rw[Dc.fK l p hlt,lG l p hlt,cK _ hne,List.drop_drop]
   show Dc.cls l.length ((p,((dec (l.drop p)).1:Int))::Dc.plr l (p+eu l p))=(((dec (l.drop p)).1:Int),p,p+eu l p)::ent (p+eu l p) (rl (l.drop (p+eu l p)))
   rw[Dc.cls,ih]
   congr 3
   by_cases h5:p+eu l p<l.length
   ·rw[Dc.fK l _ h5];rfl
   ·rw[Dc.gH l _ h5];show l.length=_;omega
  ·rw[Dc.gH l p hlt,sR (by omega)]
   rfl
theorem zhc(l:List UInt8):Dc.txt l=ent 0 (rl l):=by
 have h:=ziE l l.length 0 (by omega) (by omega)
 rw[List.drop_zero]at h;exact h
theorem zit:∀(X:List (Nat×Nat))(p:Nat),(ent p X).length=X.length
 |[],_=>rfl
 |x::X,p=>by rw[ent,sT,sT,zit X]
theorem zow:∀(X:List (Nat×Nat))(p k:Nat)(x:Nat×Nat),X[k]?=some x->(ent p X)[k]?=some ((x.1:Int),p+qt (X.take k),p+qt (X.take (k+1)))
 |[],_,_,_,h=>by cases h
 |y::X,p,0,x,h=>by cases h;simp[ent,qt]
 |y::X,p,k+1,x,h=>by
  have ih:=zow X (p+y.2) k x (by simpa using h)
  rw[ent,List.getElem?_cons_succ,ih,sS,sS,kN,kN]
  simp only[Option.some.injEq,Prod.mk.injEq,true_and]
  omega
theorem sM(l:List UInt8):(Dc.txt l).length=(rl l).length:=by rw[zhc,zit]
def plc(l:List UInt8)(k:Nat):Nat:=qt ((rl l).take k)
theorem j5(l:List UInt8)(k:Nat)(x:Nat×Nat)(h:(rl l)[k]?=some x):(Dc.txt l)[k]?=some ((x.1:Int),plc l k,plc l (k+1)):=by
 rw[zhc,zow (rl l) 0 k x h]
 simp[plc]
end
end Go.Proofs.YtbbapnpdfcgjnaaGreatDoor
